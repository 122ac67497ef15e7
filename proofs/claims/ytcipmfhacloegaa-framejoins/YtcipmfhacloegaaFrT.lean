/-
  How long a frame is, whether it asks for an answer; the laws' Grow and size.
-/
import Derived.Test.YtcipmfhacloegaaFrH
import Derived.Test.YtcipmfhacloegaaFrAll
import Derived.Test.YtcipmfhacloegaaMakeF
namespace Go.Proofs.Ytcipmfhacloegaa
open Go.RowKit
set_option linter.unusedVariables false

theorem wpList_load_midG {P : Program} {ops : Array Oper} {rest : List Oper} {o : Oper} {a : Act} {w : World} {Q : Exit → Act → World → Prop} (k : Tmp) (hk : o.dst = some k) (ty : TypeId) (x : Operand) (ho : o.op = .load ty x) (hw : Region.wanted o (yielded ops a.tmps) = true)
    (g off : Nat) (hx : a.eval x = .pointer (some ⟨g, off, none⟩)) (cs : List Value) (hc : w.rangeAt g off cs) (d : TypeDesc) (hu : P.underlying ty = some d) (hd : d.isRow = true) (hi : (P.info? ty).map (·.size) = some cs.length)
    (h : wpList P ops Q rest (a.put o.dst (.agg cs.toArray)) w) : wpList P ops Q (o :: rest) a w :=
  wpList_wanted hw fun _ hK => by
    unfold Oper.wp
    rw [exec_load_mid w ty x ho g off hx cs d hc hu hd hi]
    exact hK _ _ h
theorem elic_any (f : Fr) (p : Fp) (w : World) (b : Bool) (hb : decide (f.kind ≠ 0 ∧ f.kind ≠ 2 ∧ f.kind ≠ 28) = b) :
    Calls Try.prog 18 #[.agg (frV f p).toArray] w fun e w' => e = .returned (.bool b) ∧ Below w.heap.size w w' := by
  obtain ⟨k, n, d, rs, id, of, fi, da, ci, tk⟩ := f
  simp only at hb
  unfold frV
  by_cases h0 : k = 0
  · subst h0
    obtain rfl : b = false := by rw [← hb]; rfl
    go_enter Try.func18, Try.ntmps18
    go_wp2
    go_ret
    exact ⟨rfl, (Below.refl _ _).alloc (Nat.le_refl _) _⟩
  · by_cases h2 : k = 2
    · subst h2
      obtain rfl : b = false := by rw [← hb]; rfl
      go_enter Try.func18, Try.ntmps18
      go_wp2
      go_ret
      exact ⟨rfl, (Below.refl _ _).alloc (Nat.le_refl _) _⟩
    · by_cases h28 : k = 28
      · subst h28
        obtain rfl : b = false := by rw [← hb]; rfl
        go_enter Try.func18, Try.ntmps18
        go_wp2
        go_ret
        exact ⟨rfl, (Below.refl _ _).alloc (Nat.le_refl _) _⟩
      · obtain rfl : b = true := by rw [← hb]; simp [h0, h2, h28]
        have t0 : (k == 0) = false := by simp; omega
        have t2 : (k == 2) = false := by simp; omega
        have t28 : (k == 28) = false := by simp; omega
        clear hb h0 h2 h28
        go_enter Try.func18, Try.ntmps18
        go_wp2
        go_ret
        exact ⟨rfl, (Below.refl _ _).alloc (Nat.le_refl _) _⟩
/-- frame.Put, whether the frame may be or not -/
theorem fput_any (f : Fr) (p : Fp) (B : Nat) (w : World) (hB : B ≤ w.heap.size) (hf : FrL w B f p) (hn : FrN f) (l : List UInt8) (hl : (MayF f → l = putF f) ∧ (¬ MayF f → l = [])) :
    Calls Try.prog 12 #[.agg (frV f p).toArray] w (MakesB w l) := by
  by_cases hm : MayF f
  · rw [hl.1 hm]; exact fput_yes f p B w hB hf hn hm
  · rw [hl.2 hm]; exact fput_no f p B w hB hf hn hm
set_option maxHeartbeats 1000000 in
theorem flen_any (f : Fr) (p : Fp) (B : Nat) (w : World) (hB : B ≤ w.heap.size) (hf : FrL w B f p) (hn : FrN f) (l : List UInt8) (hl : (MayF f → l = putF f) ∧ (¬ MayF f → l = [])) :
    Calls Try.prog 17 #[.agg (frV f p).toArray] w fun e w' => e = .returned (.int .i64 (l.length : Int)) ∧ Below w.heap.size w w' := by
  have B0 : Hid (∀ o1, Below w.heap.size w (w.alloc o1)) := fun _ => (Below.refl _ _).alloc (Nat.le_refl _) _
  have HPUT : Hid (∀ u, Below w.heap.size w u → Calls Try.prog 12 #[.agg (frV f p).toArray] u (MakesB u l)) := fun u hu => fput_any f p B u (Nat.le_trans hB hu.size) (hf.below (hu.mono hB)) hn l hl
  have HSZ := Lib.hid (frV_size f p)
  obtain ⟨vs, hvs⟩ : ∃ vs, frV f p = vs := ⟨_, rfl⟩
  rw [hvs] at HSZ HPUT ⊢
  clear hvs hf hn hl
  go_enter Try.func17, Try.ntmps17
  go_wp2_with ((with_reducible refine wpList_load_rw rfl 26 (.tmp 1) rfl w.heap.size ?hx 26 vs ?hB _ Try.underlying26 rfl HSZ.out ?_); (case hx => with_unfolding_all rfl); (case hB => exact heap_allocs w [_] 0 _ rfl))
  (with_reducible refine (HPUT.out _ ?hb).mono ?_)
  case hb => exact B0.out _
  rintro e1 w1 ⟨A, n, c, rfl, o, b⟩
  have ho := o.len
  have Hb := Lib.hid ((B0.out _).trans (b.mono (by simp)))
  clear o b
  subst ho
  go_wp2_with fail
  go_ret
  exact ⟨rfl, Hb.out⟩
/-- so many bytes, by a number -/
def growL (n k : Nat) : List UInt8 := (List.range n).map fun i => UInt8.ofNat (i * 7 + k * 31 + i / 13)
theorem growL_length (n k : Nat) : (growL n k).length = n := by simp [growL]
set_option maxHeartbeats 2000000 in
theorem grow_any (n k : Nat) (hn : n ≤ 1000) (hk : k ≤ 1000) (w : World) :
    Calls Try.prog 28 #[.int .i64 (n : Int), .int .i64 (k : Int)] w (MakesB w (growL n k)) := by
  have hmk : ∀ u : World, (Instr.makeSlice 24 (.int .i64 (n : Int)) (.int .i64 (n : Int))).run Try.prog u = .ok (.slice (some ⟨u.heap.size, 0, none⟩) n n) (u.alloc (.cells (bvs (List.replicate n 0)).toArray 5)) := fun u => by
    have h := run_make_full n (by omega) u
    rw [made_zeros] at h
    exact h
  have HB0 : Hid (Blk (w.alloc (.cells (bvs (List.replicate n 0)).toArray 5)) w.heap.size 5 (List.replicate n 0)) := heap_alloc_new w _
  have B0 : Hid (∀ o1, Below w.heap.size w (w.alloc o1)) := fun _ => (Below.refl _ _).alloc (Nat.le_refl _) _
  go_enter Try.func28, Try.ntmps28
  go_wp2_with fail
  go_loopw [6] (fun i wr => ∃ j : Nat, j ≤ n ∧ i = .int .i64 j ∧ Hid (Below w.heap.size w wr) ∧ Hid (w.heap.size < wr.heap.size) ∧ Hid (Blk wr w.heap.size 5 (mixr (growL n k) (List.replicate n 0) j))) (fun i _ => n - (intOf i).toNat)
  case atStart => exact ⟨0, by omega, rfl, B0.out _, by simp [Hid], by simpa [mixr] using HB0⟩
  case round =>
    obtain ⟨j, hj, rfl, HB, HLT, HK⟩ := hrel
    by_cases hlt : j < n
    · have hc := HK.out.frozen j
      have hlen : (mixr (growL n k) (List.replicate n 0) j).length = n := by rw [mixr_length _ _ _ (by simp [growL])]; simp
      have hcell := HK.out.cell j (by rw [hlen]; exact hlt)
      obtain ⟨x, hx⟩ : ∃ x, (growL n k).getD j 0 = x := ⟨_, rfl⟩
      have hxv : ((j : Int) * 7 + (k : Int) * 31 + (j : Int) / 13) % 256 = bn x := by
        rw [← hx]
        simp [growL, bn, hlt]
      have HN : Hid ((mixr (growL n k) (List.replicate n 0) j).set j x = mixr (growL n k) (List.replicate n 0) (j + 1)) := show _ = _ by
        rw [← hx]
        exact mixr_set _ _ _ (by simp [growL]) (by simpa using hlt)
      clear hx hlen
      go_wp2
      go_roundw
      case rel =>
        refine ⟨j + 1, by omega, by go_num, (HB.out.setCell (Nat.le_refl _) _), by simpa [Hid] using HLT, ?_⟩
        show Blk _ _ _ _
        rw [← HN.out]
        exact HK.out.put j x
      case measure => simp [intOf]; omega
    · go_wp2
      go_ret
      obtain rfl : j = n := by omega
      have h := HK.out
      rw [mixr_full _ _ _ (by simp [growL]) (by simp)] at h
      exact ⟨_, j, j, rfl, h.own (growL_length j k) (Nat.le_refl _) (by simp only [maxLen]; omega), HB.out⟩
set_option maxHeartbeats 2000000 in
theorem size_any (v : Nat) (hv : v < 4611686018427387904) (w : World) :
    Calls Try.prog 29 #[.int .u64 (v : Int)] w fun e w' => e = .returned (.int .i64 (lenV v : Int)) ∧ w = w' := by
  have hc := cls_cases v
  have HL : Hid ((v < 64 → lenV v = 1) ∧ (64 ≤ v → v < 16384 → lenV v = 2) ∧ (16384 ≤ v → v < 1073741824 → lenV v = 4) ∧ (1073741824 ≤ v → lenV v = 8)) := by
    refine ⟨fun h => ?_, fun h h' => ?_, fun h h' => ?_, fun h => ?_⟩ <;> omega
  clear hc
  go_enter Try.func29, Try.ntmps29
  go_wp2_with fail
  go_loop [3, 4] (fun k i => (k = .int .i64 1 ∧ i = .int .i64 0) ∨ (k = .int .i64 2 ∧ i = .int .i64 1 ∧ 64 ≤ v) ∨ (k = .int .i64 4 ∧ i = .int .i64 2 ∧ 16384 ≤ v) ∨ (k = .int .i64 8 ∧ i = .int .i64 3 ∧ 1073741824 ≤ v)) (fun _ i => 3 - (intOf i).toNat)
  case atStart => exact .inl ⟨rfl, rfl⟩
  case round =>
    rcases hrel with ⟨rfl, rfl⟩ | ⟨rfl, rfl, hv1⟩ | ⟨rfl, rfl, hv1⟩ | ⟨rfl, rfl, hv1⟩
    · by_cases h1 : 64 ≤ v
      · go_wp2
        exact ⟨.inr (.inl ⟨rfl, rfl, h1⟩), by simp [intOf]⟩
      · go_wp2
        go_ret
        exact ⟨by rw [HL.out.1 (by omega)]; rfl, rfl⟩
    · by_cases h1 : 16384 ≤ v
      · go_wp2
        exact ⟨.inr (.inr (.inl ⟨rfl, rfl, h1⟩)), by simp [intOf]⟩
      · go_wp2
        go_ret
        exact ⟨by rw [HL.out.2.1 hv1 (by omega)]; rfl, rfl⟩
    · by_cases h1 : 1073741824 ≤ v
      · go_wp2
        exact ⟨.inr (.inr (.inr ⟨rfl, rfl, h1⟩)), by simp [intOf]⟩
      · go_wp2
        go_ret
        exact ⟨by rw [HL.out.2.2.1 hv1 (by omega)]; rfl, rfl⟩
    · go_wp2
      go_ret
      exact ⟨by rw [HL.out.2.2.2 hv1]; rfl, rfl⟩
end Go.Proofs.Ytcipmfhacloegaa
