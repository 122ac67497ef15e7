/-
  The contract of schedule.
-/
import Derived.Test.YtnjdloocalfkmaaDoorShaB
import Derived.StillTailTactics
import Derived.Deep.RegionHeld3
import Derived.Deep.DrawnRows
namespace Go.Proofs.YtnjdloocalfkmaaDoor
open Go.RowKit
set_option linter.unusedVariables false

theorem size64 : (Tryd.prog.info? 50).map (·.size) = some 64 := by kernel_rfl
theorem size64b : (Tryd.prog.info? 40).map (·.size) = some 64 := by kernel_rfl

theorem size1 : (Tryd.prog.info? 5).map (·.size) = some 1 := by kernel_rfl

/-- the words that are there, and zeros -/
def wrow (l : List UInt32) : List Value := wvs l ++ List.replicate (64 - l.length) (.int .u32 0)
theorem wrow_length (l : List UInt32) (h : l.length ≤ 64) : (wrow l).length = 64 := by simp [wrow, wvs_length]; omega
theorem wrow_get (l : List UInt32) (j : Nat) (h : j < l.length) : (wrow l)[j]? = some (.int .u32 (wn (l.getD j 0))) := by
  simp [wrow, wvs, List.getElem?_append, h, wv]
theorem wrow_set (l : List UInt32) (x : UInt32) (h : l.length < 64) : (wrow l).set l.length (.int .u32 (wn x)) = wrow (l ++ [x]) := by
  unfold wrow
  rw [List.set_append, if_neg (by rw [wvs_length]; omega), wvs_length, Nat.sub_self]
  obtain ⟨k, hk⟩ : ∃ k, 64 - l.length = k + 1 := ⟨64 - l.length - 1, by omega⟩
  rw [hk, List.replicate_succ, List.set_cons_zero]
  simp only [wvs, List.map_append, List.map_cons, List.map_nil, List.append_assoc, List.cons_append, List.nil_append, List.length_append, List.length_cons, List.length_nil]
  rw [show 64 - (l.length + (0 + 1)) = k by omega]
  rfl
theorem wrow_full (l : List UInt32) (h : l.length = 64) : wrow l = wvs l := by simp [wrow, h]

structure Sch (w wr : World) (l : List UInt8) (j : Nat) : Prop where
  b0 : wr.heap[w.heap.size]? = some (.cells (bvs l).toArray 40 (0, 0))
  b1 : ∃ cs, wr.heap[w.heap.size + 1]? = some (.cells cs 50 (0, 0)) ∧ cs.size = 64
  b2 : wr.heap[w.heap.size + 2]? = some (.cells (wrow (sch l j)).toArray 50 (0, 0))
  sz : wr.heap.size = w.heap.size + 3
  bl : Below w.heap.size w wr

theorem Sch.drew {w wr : World} {l : List UInt8} {j : Nat} (h : Sch w wr l j) : Sch w wr.drew l j := ⟨h.b0, h.b1, h.b2, h.sz, h.bl.drew⟩
theorem Sch.drewN {w wr : World} {l : List UInt8} {j : Nat} (h : Sch w wr l j) (k : Nat) : Sch w (wr.drewN k) l j := ⟨h.b0, h.b1, h.b2, h.sz, below_drewN h.bl k⟩
theorem Sch.put {w wr : World} {l : List UInt8} {j : Nat} (h : Sch w wr l j) (x : UInt32) (hx : sch l (j + 1) = sch l j ++ [x]) (hj : j < 64) :
    Sch w (wr.setCell ⟨w.heap.size + 1 + 1, j, none⟩ (.int .u32 (wn x))) l (j + 1) := by
  obtain ⟨cs, h1, h1s⟩ := h.b1
  refine ⟨?_, ⟨cs, ?_, h1s⟩, ?_, ?_, ?_⟩
  · rw [heap_setCell_other _ _ _ _ (by simp; omega)]; exact h.b0
  · rw [heap_setCell_other _ _ _ _ (by simp)]; exact h1
  · rw [heap_setCell_same _ _ _ _ _ _ h.b2, hx]
    have e := wrow_set (sch l j) x (by rw [sch_length]; omega)
    rw [sch_length] at e
    rw [← e]
    simp
  · have := h.sz; simp; omega
  · exact h.bl.setCell (by simp; omega) _

theorem still_of {f : FuncId} {args : Array Value} {w : World} {v : Value} (h : Calls Tryd.prog f args w fun e w' => e = .returned v ∧ w = w') : Calls Tryd.prog f args w fun e w' => e = .returned v ∧ w' = w :=
  h.mono fun _ _ ⟨a, b⟩ => ⟨a, b.symm⟩

attribute [local go_sem] u32_addw u32_add u32_xor' u32_and' u32_or' u32_notw u32_notm u32_byte u32_bytem u32_shl24 u32_shl16 u32_shl8 u32_shl24w u32_shl16w u32_shl8w u32_shr10 u32_shr3
set_option maxHeartbeats 1000000 in
theorem schedule_any (l : List UInt8) (hl : l.length = 64) (w : World) :
    Calls Tryd.prog 34 #[.agg (bvs l).toArray] w fun e w' => e = .returned (.agg (wvs (sch l 64)).toArray) ∧ Below w.heap.size w w' := by
  have Hl := Lib.hid hl
  clear hl
  go_enter Tryd.func34, Tryd.ntmps34
  go_wp2_with fail
  go_loopw [9] (fun i wr => ∃ j : Nat, j ≤ 16 ∧ i = .int .i64 j ∧ Hid (Sch w wr l j)) (fun i _ => 16 - (intOf i).toNat)
  case atStart =>
    refine ⟨0, by omega, rfl, ?_⟩
    refine ⟨?_, ⟨(List.replicate 64 (.int .u32 0)).toArray, ?_, rfl⟩, ?_, ?_, ?_⟩
    · rw [Below.heap_alloc _ _ _ (by simp; omega), Below.heap_alloc _ _ _ (by simp)]
      exact heap_alloc_new _ _
    · rw [Below.heap_alloc _ _ _ (by simp)]
      exact heap_alloc2_new _ _ _
    · have h := heap_alloc2_new (w.alloc (.cells (bvs l).toArray 40)) (.cells (List.replicate 64 (.int .u32 0)).toArray 50) (.cells (List.replicate 64 (.int .u32 0)).toArray 50)
      simp only [World.size_alloc] at h
      exact h
    · simp
    · exact (((Below.refl _ _).alloc (Nat.le_refl _) _).alloc (by simp) _).alloc (by simp; omega) _
  case round =>
    obtain ⟨j, hj, rfl, HS⟩ := hrel
    by_cases hlt : j < 16
    · have hcut : ∀ u : World, (Instr.sliceAt 40 (.pointer (some ⟨w.heap.size, 0, none⟩)) (some (.int .i64 (4 * (j : Int)))) (some (.int .i64 (4 * (j : Int) + 4))) none).run Tryd.prog u =
          .ok (.slice (some ⟨w.heap.size, 4 * j, none⟩) 4 (64 - 4 * j)) u := fun u => by
        have h := run_cut_array (P := Tryd.prog) u 40 5 64 Tryd.underlying40 size1 w.heap.size 0 (4 * j) (4 * j + 4) (by omega) (by omega) (by omega)
        simpa using h
      have hS := HS.out
      have hl := Hl.out
      have hc : ∀ k, 4 * j + k < 64 → wr.cell? ⟨w.heap.size, 4 * j + k, none⟩ = some (.int .u8 (bn (l.getD (4 * j + k) 0))) := fun k hk => by
        rw [cell_of_row _ _ _ _ _ _ hS.b0]
        simp [bvs, bv, bn, hl, hk]
      have c0 := hc 0 (by omega)
      have c1 := hc 1 (by omega)
      have c2 := hc 2 (by omega)
      have c3 := hc 3 (by omega)
      rw [Nat.add_zero] at c0
      obtain ⟨x0, h0⟩ : ∃ x, l.getD (4 * j) 0 = x := ⟨_, rfl⟩
      obtain ⟨x1, h1⟩ : ∃ x, l.getD (4 * j + 1) 0 = x := ⟨_, rfl⟩
      obtain ⟨x2, h2⟩ : ∃ x, l.getD (4 * j + 2) 0 = x := ⟨_, rfl⟩
      obtain ⟨x3, h3⟩ : ∃ x, l.getD (4 * j + 3) 0 = x := ⟨_, rfl⟩
      rw [h0] at c0; rw [h1] at c1; rw [h2] at c2; rw [h3] at c3
      obtain ⟨old, cd⟩ : ∃ old, wr.cell? ⟨w.heap.size + 1 + 1, j, none⟩ = some old := by
        rw [cell_of_row _ _ _ _ _ _ hS.b2]
        have := wrow_length (sch l j) (by rw [sch_length]; omega)
        exact ⟨(wrow (sch l j))[j], by simp⟩
      have cf : wr.frozen? ⟨w.heap.size + 1 + 1, j, none⟩ = false := frozen_of_row _ _ _ _ _ hS.b2
      have HX : Hid (be4 l j = x0.toUInt32 <<< 24 ||| x1.toUInt32 <<< 16 ||| x2.toUInt32 <<< 8 ||| x3.toUInt32) := by
        show _ = _
        unfold be4
        rw [h0, h1, h2, h3]
      have b0 : (0 : Int) ≤ (j : Int) := by omega
      have b1 : (j : Int) < 64 := by omega
      clear hS hl hc h0 h1 h2 h3
      go_wp2_with fail
      refine wp_tail 24 (by kernel_rfl) (by kernel_rfl) ?_
      simp only [List.take_succ_cons, List.take_zero, List.drop_succ_cons, List.drop_zero]
      repeat still_step
      refine wpStill_nil ?_
      go_wp2
      go_roundw
      case rel =>
        refine ⟨j + 1, by omega, by go_num, ?_⟩
        exact (HS.out.put _ (by rw [sch, if_pos hlt, HX.out]) (by omega)).drew
      case measure => simp [intOf]; omega
    · obtain rfl : j = 16 := by omega
      go_wp2_with fail
      go_loopw [6] (fun i wr => ∃ j : Nat, 16 ≤ j ∧ j ≤ 64 ∧ i = .int .i64 j ∧ Hid (Sch w wr l j)) (fun i _ => 64 - (intOf i).toNat)
      case atStart => exact ⟨16, by omega, by omega, rfl, HS⟩
      case round =>
        obtain ⟨j, hj16, hj, rfl, HS⟩ := hrel
        by_cases hlt : j < 64
        · obtain ⟨k16, h16⟩ : ∃ k : Nat, j = k + 16 := ⟨j - 16, by omega⟩
          obtain ⟨k2, e2⟩ : ∃ k : Nat, (j : Int) - 2 = (k : Int) := ⟨j - 2, by omega⟩
          obtain ⟨k15, e15⟩ : ∃ k : Nat, (j : Int) - 15 = (k : Int) := ⟨j - 15, by omega⟩
          obtain ⟨k7, e7⟩ : ∃ k : Nat, (j : Int) - 7 = (k : Int) := ⟨j - 7, by omega⟩
          obtain ⟨k0, e0⟩ : ∃ k : Nat, (j : Int) - 16 = (k : Int) := ⟨j - 16, by omega⟩
          have hS := HS.out
          have hc : ∀ k, k < j → wr.cell? ⟨w.heap.size + 1 + 1, k, none⟩ = some (.int .u32 (wn ((sch l j).getD k 0))) := fun k hk => by
            rw [cell_of_row _ _ _ _ _ _ hS.b2]
            simpa using wrow_get (sch l j) k (by rw [sch_length]; exact hk)
          have c2 := hc k2 (by omega)
          have c15 := hc k15 (by omega)
          have c7 := hc k7 (by omega)
          have c0 := hc k0 (by omega)
          obtain ⟨x2, h2⟩ : ∃ x, (sch l j).getD k2 0 = x := ⟨_, rfl⟩
          obtain ⟨x15, h15⟩ : ∃ x, (sch l j).getD k15 0 = x := ⟨_, rfl⟩
          obtain ⟨x7, h7⟩ : ∃ x, (sch l j).getD k7 0 = x := ⟨_, rfl⟩
          obtain ⟨x0, h0⟩ : ∃ x, (sch l j).getD k0 0 = x := ⟨_, rfl⟩
          rw [h2] at c2; rw [h15] at c15; rw [h7] at c7; rw [h0] at c0
          have HX : Hid (mixV (sch l j) j = x0 + x7 + (rotr x2 17 ^^^ rotr x2 19 ^^^ x2 >>> 10) + (rotr x15 7 ^^^ rotr x15 18 ^^^ x15 >>> 3)) := by
            show _ = _
            unfold mixV
            rw [show j - 16 = k0 by omega, show j - 7 = k7 by omega, show j - 2 = k2 by omega, show j - 15 = k15 by omega, h0, h7, h2, h15]
            rfl
          obtain ⟨old, cd⟩ : ∃ old, wr.cell? ⟨w.heap.size + 1 + 1, j, none⟩ = some old := by
            rw [cell_of_row _ _ _ _ _ _ hS.b2]
            have := wrow_length (sch l j) (by rw [sch_length]; omega)
            exact ⟨(wrow (sch l j))[j], by simp⟩
          have cf : wr.frozen? ⟨w.heap.size + 1 + 1, j, none⟩ = false := frozen_of_row _ _ _ _ _ hS.b2
          have l2 : (k2 : Int) < 64 := by omega
          have l15 : (k15 : Int) < 64 := by omega
          have l7 : (k7 : Int) < 64 := by omega
          have l0 : (k0 : Int) < 64 := by omega
          have lj : (j : Int) < 64 := by omega
          have v0 : IntKind.i64.wrap (k0 : Int) = (k0 : Int) := IntWalk.i64_in _ (by omega)
          have v7 : IntKind.i64.wrap (k7 : Int) = (k7 : Int) := IntWalk.i64_in _ (by omega)
          clear hS hc h0 h7 h2 h15 h16
          go_wp2_with fail
          go_quiet (fail)
          go_wp2_with fail
          refine wp_tail 29 (by kernel_rfl) (by kernel_rfl) ?_
          simp only [List.take_succ_cons, List.take_zero, List.drop_succ_cons, List.drop_zero]
          repeat still_step
          still_call (still_of (turn_17 _ _))
          repeat still_step
          still_call (still_of (turn_19 _ _))
          repeat still_step
          still_call (still_of (turn_7 _ _))
          repeat still_step
          still_call (still_of (turn_18 _ _))
          repeat still_step
          refine wpStill_nil ?_
          go_wp2
          go_roundw
          case rel =>
            have hfin := HS.out.put _ (show sch l (j + 1) = sch l j ++ [_] by rw [sch, if_neg (by omega), HX.out]) (by omega)
            first
              | exact ⟨j + 1, by omega, by omega, by go_num, hfin.drewN _⟩
              | ((repeat apply Exists.intro); exact ⟨⟨j + 1, by omega, by omega, by go_num, hfin.drewN _⟩, rfl⟩)
          case measure => simp [intOf]; omega
        · obtain rfl : j = 64 := by omega
          have hS := HS.out
          have h2 := hS.b2
          rw [wrow_full _ (sch_length _ _)] at h2
          have H2 := Lib.hid h2
          obtain ⟨cs, h1, h1s⟩ := hS.b1
          have H1 := Lib.hid h1
          clear hS h2 h1
          go_wp2_with (first
            | ((with_reducible refine wpList_load_row rfl 50 (.tmp 3) rfl (w.heap.size + 2) ?hx 50 _ (0, 0) _ H2.out Tryd.underlying50 rfl ?hi ?_); (case hx => with_unfolding_all rfl); (case hi => rw [size64]; simp [wvs_length, sch_length]))
            | ((with_reducible refine wpList_store_vals rfl 50 (.tmp 2) (.tmp 84) rfl (w.heap.size + 1) (wvs (sch l 64)) ?hx ?hy 50 cs H1.out ?hi ?ho (wvs_one _) ?_); (case hx => with_unfolding_all rfl); (case hy => with_unfolding_all rfl); (case hi => rw [size64, wvs_length, sch_length]); (case ho => rw [wvs_length, sch_length, h1s])))
          refine ret_row Tryd.results34 (w.heap.size + 1) 50 _ (0, 0) 64 44 rfl (setRow_heap _ _ _ _ _ _ H1.out) Tryd.underlying50 ?hi rfl ⟨rfl, ?_⟩
          · rw [size64]; simp [wvs_length, sch_length]
          · exact below_setRow HS.out.bl (Nat.le_succ _) _
end Go.Proofs.YtnjdloocalfkmaaDoor
