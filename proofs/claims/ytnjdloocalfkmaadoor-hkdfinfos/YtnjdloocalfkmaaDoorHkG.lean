/-
  Grow; bytes as a string.
-/
import Derived.Test.YtnjdloocalfkmaaDoorHkF
namespace Go.Proofs.YtnjdloocalfkmaaDoor
open Go.RowKit Go.Joins
set_option linter.unusedVariables false

/-- []byte to string -/
theorem conv_bytes (l : List UInt8) (A : Option Addr) (n c B : Nat) (w : World) (h : Sl w B A n l) : (convert 22 9 (.slice A n c)).run Tryd.prog w = .ok (.string ⟨l.toArray⟩) w := by
  rw [run_convert_bytes_string w 22 9 5 A n c Tryd.underlying22 Tryd.underlying5 Tryd.underlying9]
  have hl := h.1
  have key : ∀ (l : List UInt8) (s : ByteArray), (l.map (fun b => (b.toNat : Int))).foldl (fun r n => r.push (UInt8.ofNat n.toNat)) s = ⟨s.data ++ l.toArray⟩ := by
    intro l
    induction l with
    | nil => intro s; simp
    | cons b r ih => intro s; simp only [List.map_cons, List.foldl_cons, ih]; simp [ByteArray.push]
  by_cases h0 : n = 0
  · subst h0
    obtain rfl : l = [] := List.eq_nil_of_length_eq_zero hl
    cases A with
    | none => simp [Conv.bytesToString]; rfl
    | some a => exact run_bytesToString w a 0 c [] (by simpa using run_loadCells_list (P := Tryd.prog) w a [] (by simp))
  · obtain ⟨b, off, rfl, hb, hc⟩ := h.2 (by omega)
    have e : (l.map (fun b => (b.toNat : Int))).map (Value.int .u8) = bvs l := by simp [bvs, bv]
    rw [run_bytesToString w ⟨b, off, none⟩ n c (l.map (fun b => (b.toNat : Int))) ?_, key l]
    · simp [ByteArray.empty, ByteArray.emptyWithCapacity]; rfl
    · rw [e, ← hl, ← bvs_length l]
      refine run_loadCells_list (P := Tryd.prog) w _ (bvs l) fun j u hu => ?_
      have hj : j < l.length := by
        have := (List.getElem?_eq_some_iff.1 hu).1
        rwa [bvs_length] at this
      have hadd : (⟨b, off, none⟩ : Addr).add j = ⟨b, off + j, none⟩ := by unfold Addr.add; split <;> simp_all
      rw [hadd, hc j hj, ← hu]
      simp [bvs, hj]


set_option maxHeartbeats 1000000 in
theorem grow_any (n : Nat) (hn : n ≤ 1000000) (w : World) : Calls Tryd.prog 22 #[.int .i64 (n : Int), .int .i64 1] w fun e w' => ∃ l, MakesBytes w n l e w' := by
  have hmk := run_make_bytes n (by omega)
  go_enter Tryd.func22, Tryd.ntmps22
  go_wp2_with fail
  clear hmk
  go_loopw [6] (fun i wr => ∃ (j : Nat) (l : List UInt8), j ≤ n ∧ i = .int .i64 (j : Int) ∧ l.length = n ∧ Hid (wr.heap[w.heap.size]? = some (.cells (bvs l).toArray 5 (0, 0))) ∧ Hid (Below w.heap.size w wr)) (fun i _ => n - (intOf i).toNat)
  case atStart =>
    refine ⟨0, List.replicate n 0, by omega, rfl, by simp, ?_, (Below.refl _ _).alloc (Nat.le_refl _) _⟩
    show _ = _
    rw [← zeros_bvs, ← madeCells_eq]
    exact heap_alloc_new _ _
  case round =>
    obtain ⟨j, l, hj, rfl, hl, HR, HB⟩ := hrel
    by_cases hlt : j < n
    · obtain ⟨q, hq⟩ : ∃ q : Nat, j / 13 = q := ⟨_, rfl⟩
      have hqI : (j : Int) / 13 = (q : Int) := by omega
      have hqt : (j : Int).tdiv 13 = (q : Int) := by rw [Int.tdiv_eq_ediv_of_nonneg (by omega)]; exact hqI
      have hq1 : q ≤ 1000000 := by omega
      have li : (j : Int) < (n : Int) := by omega
      have hbj : (j : Int) ≤ 1000000 := by omega
      obtain ⟨old, co⟩ : ∃ v, wr.cell? ⟨w.heap.size, j, none⟩ = some v := by
        rw [cell_of_row _ _ _ _ _ _ HR.out, List.getElem?_toArray]
        exact ⟨(bvs l)[j]'(by rw [bvs_length]; omega), by simp⟩
      have cf : wr.frozen? ⟨w.heap.size, j, none⟩ = false := frozen_of_row _ _ _ _ _ HR.out
      clear hq
      go_wp2_with fail
      go_roundw
      case rel =>
        have key : ∀ z : Int, ∃ (j' : Nat) (l' : List UInt8), j' ≤ n ∧ Value.int .i64 ((j : Int) + 1) = .int .i64 (j' : Int) ∧ l'.length = n ∧ Hid ((wr.setCell ⟨w.heap.size, j, none⟩ (.int .u8 (z % 256))).heap[w.heap.size]? = some (.cells (bvs l').toArray 5 (0, 0))) ∧ Hid (Below w.heap.size w (wr.setCell ⟨w.heap.size, j, none⟩ (.int .u8 (z % 256)))) := fun z => by
          refine ⟨j + 1, l.set j (byteI z), by omega, by go_num, by simpa using hl, ?_, HB.out.setCell (Nat.le_refl _) _⟩
          show _ = _
          rw [heap_setCell_same _ _ _ _ _ _ HR.out, List.setIfInBounds_toArray, bv_byteI]
          simp [bvs, List.map_set]
        exact key _
      case measure => simp [intOf]; omega
    · obtain rfl : j = n := by omega
      have hfin : ∃ l, MakesBytes w j l (.returned (.slice (some ⟨w.heap.size, 0, none⟩) j j)) wr :=
        ⟨l, _, j, rfl, own_block HR.out rfl hl (by simp [maxLen]; omega) (Nat.le_refl _), Nat.le_refl _, by simp [maxLen]; omega, HB.out⟩
      have HF := Lib.hid hfin
      clear hfin
      go_wp2
      go_ret
      exact HF.out
end Go.Proofs.YtnjdloocalfkmaaDoor
