/-
  The document's reader of frames: the next number, the next bytes.
-/
import Derived.Test.YtafbhjhdnchfbaaFrP
import Derived.Test.YtafbhjhdnchfbaaPtA
import Derived.Test.YtafbhjhdnchfbaaVarintB
import Derived.Test.YtafbhjhdnchfbaaArr
import Derived.Test.YtafbhjhdnchfbaaSame
import Derived.Test.YtafbhjhdnchfbaaFrK
import Derived.Test.YtafbhjhdnchfbaaFrE
import Derived.Test.YtafbhjhdnchfbaaFrW
import Derived.Test.YtafbhjhdnchfbaaFrM
import Derived.Deep.CutRange
import Derived.Deep.CutBlock
import Derived.Lib.MinMax
import Derived.Test.YtafbhjhdnchfbaaFrAll
import Derived.Test.YtafbhjhdnchfbaaFrX
import Derived.Test.YtafbhjhdnchfbaaFrU
namespace Go.Proofs.Ytafbhjhdnchfbaa
open Go.RowKit
set_option linter.unusedVariables false

/-- the document's reader at block g: bytes b, in memory below B; s.1 of them are read; the code is s.2 -/
def RdW (w : World) (B g : Nat) (b : List UInt8) (s : Nat × Nat) : Prop :=
  ∃ T A n c, Rw w g T [.slice A n c, .int .i64 (s.1 : Int), .int .i64 (s.2 : Int)] ∧ Sl w B A n b ∧ n ≤ c ∧ c ≤ maxLen ∧ B ≤ g ∧ s.1 ≤ n
theorem RdW.lt {w : World} {B g : Nat} {b : List UInt8} {s : Nat × Nat} (h : RdW w B g b s) : g < w.heap.size := by
  obtain ⟨T, A, n, c, hr, _⟩ := h
  exact hr.lt
theorem RdW.le {w : World} {B g : Nat} {b : List UInt8} {s : Nat × Nat} (h : RdW w B g b s) : s.1 ≤ b.length := by
  obtain ⟨T, A, n, c, hr, hs, _, _, _, h6⟩ := h
  have := hs.1
  omega
theorem RdW.only {w w' : World} {B g g' : Nat} {b : List UInt8} {s : Nat × Nat} (h : RdW w B g b s) (ho : Only g' w w') (hne : g ≠ g') (hB : B ≤ g') : RdW w' B g b s := by
  have hlt := h.lt
  obtain ⟨T, A, n, c, hr, hs, h1, h2, h3, h4⟩ := h
  exact ⟨T, A, n, c, hr.only ho hne, hs.keep fun p hp => World.cell?_of_block (ho.block p.block (by omega) (by omega)), h1, h2, h3, h4⟩
theorem RdW.below {w w' : World} {B g : Nat} {b : List UInt8} {s : Nat × Nat} (h : RdW w B g b s) (hb : Below w.heap.size w w') : RdW w' B g b s := by
  have hlt := h.lt
  obtain ⟨T, A, n, c, hr, hs, h1, h2, h3, h4⟩ := h
  exact ⟨T, A, n, c, hr.below hb, hs.below ⟨hb.os, hb.tape, hb.output, hb.size, fun k hk => hb.block k (by omega)⟩, h1, h2, h3, h4⟩
/-- the next number by places: it, and where the reader stands -/
def numS (b : List UInt8) (s : Nat × Nat) (most : Nat) : Nat × (Nat × Nat) :=
  if s.2 ≠ 0 then (0, s) else if (getV (b.drop s.1)).2.2 ≠ 0 then (0, (s.1, (getV (b.drop s.1)).2.2)) else if most < (getV (b.drop s.1)).1 then (0, (s.1, 5)) else ((getV (b.drop s.1)).1, (s.1 + (getV (b.drop s.1)).2.1, 0))
def bytesS (b : List UInt8) (s : Nat × Nat) (k : Nat) : List UInt8 × (Nat × Nat) :=
  if s.2 ≠ 0 then ([], s) else if b.length - s.1 < k then ([], (s.1, 3)) else ((b.drop s.1).take k, (s.1 + k, 0))
theorem numS_err (b : List UInt8) (k most e : Nat) (h : numX (b.drop k) most = .error e) : numS b (k, 0) most = (0, (k, e)) := by
  unfold numX at h
  unfold numS
  simp only [ne_eq, not_true_eq_false, if_false]
  split at h
  · rename_i hz
    rw [if_pos hz]
    cases h
    rfl
  · rename_i hz
    rw [if_neg hz]
    split at h
    · rename_i hm
      rw [if_pos hm]
      cases h
      rfl
    · cases h
theorem numS_ok (b : List UInt8) (k most v : Nat) (l : List UInt8) (h : numX (b.drop k) most = .ok (v, l)) : ∃ k', numS b (k, 0) most = (v, (k', 0)) ∧ l = b.drop k' ∧ k ≤ k' := by
  unfold numX at h
  unfold numS
  simp only [ne_eq, not_true_eq_false, if_false]
  split at h
  · cases h
  · rename_i hz
    rw [if_neg hz]
    split at h
    · cases h
    · rename_i hm
      rw [if_neg hm]
      cases h
      exact ⟨_, rfl, by rw [List.drop_drop], by omega⟩
theorem bytesS_err (b : List UInt8) (k m e : Nat) (h : bytesX (b.drop k) m = .error e) : bytesS b (k, 0) m = ([], (k, e)) := by
  unfold bytesX at h
  unfold bytesS
  simp only [ne_eq, not_true_eq_false, if_false]
  rw [List.length_drop] at h
  split at h
  · rename_i hz
    rw [if_pos hz]
    cases h
    rfl
  · cases h
theorem bytesS_ok (b : List UInt8) (k m : Nat) (v l : List UInt8) (h : bytesX (b.drop k) m = .ok (v, l)) : bytesS b (k, 0) m = (v, (k + m, 0)) ∧ l = b.drop (k + m) := by
  unfold bytesX at h
  unfold bytesS
  simp only [ne_eq, not_true_eq_false, if_false]
  rw [List.length_drop] at h
  split at h
  · cases h
  · rename_i hz
    rw [if_neg hz]
    cases h
    exact ⟨rfl, by rw [List.drop_drop]⟩

set_option maxHeartbeats 1000000 in
theorem rnum_any (b : List UInt8) (s : Nat × Nat) (K : Int) (most : Nat) (hK : K = (most : Int)) (hmo : most < 18446744073709551616) (B g : Nat) (w : World) (h : RdW w B g b s) :
    Calls Try.prog 52 #[.pointer (some ⟨g, 0, none⟩), .int .u64 K] w fun e w' => e = .returned (.int .u64 ((numS b s most).1 : Nat)) ∧ RdW w' B g b (numS b s most).2 ∧ Only g w w' := by
  subst hK
  have H := Lib.hid h
  obtain ⟨k, q⟩ := s
  obtain ⟨T, A, n, c, hr, hs, h1, h2, h3, h4⟩ := h
  simp only at hr h4
  have c0 : w.cell? ⟨g, 0, none⟩ = some (.slice A n c) := hr.cell 0 _ rfl
  have c1 : w.cell? ⟨g, 1, none⟩ = some (.int .i64 (k : Int)) := hr.cell 1 _ rfl
  have c2 : w.cell? ⟨g, 2, none⟩ = some (.int .i64 (q : Int)) := hr.cell 2 _ rfl
  have f1 := hr.frozen 1
  have f2 := hr.frozen 2
  have HR := Lib.hid hr
  have HS := Lib.hid hs
  have HC : Hid (n ≤ c ∧ c ≤ maxLen ∧ B ≤ g ∧ k ≤ n) := ⟨h1, h2, h3, h4⟩
  by_cases hq : q = 0
  · subst hq
    obtain ⟨A2, eA2⟩ : ∃ v, (if c = k then A else A.map (·.add k)) = v := ⟨_, rfl⟩
    have hcB : ∀ u : World, (Instr.slice 24 (.slice A n c) (some (.int .i64 (k : Int))) none none).run Try.prog u = .ok (.slice A2 (n - k) (c - k)) u := fun u => by
      rw [run_cut_bytes u A n c k h4 h1, eA2]
    have hs2 : Sl w B A2 (n - k) (b.drop k) := by
      have h1' := hs.drop h4 h1
      rwa [eA2] at h1'
    have HG := Lib.hid (fun (j : Nat) => rget_any (b.drop k) A2 (n - k) (c - k) B (w.drewN j) (hs2.drewN j) (by omega) (by omega))
    have hfit := getV_fits (b.drop k)
    have hlen : (b.drop k).length = n - k := hs2.1
    unfold numS
    simp only [ne_eq, not_true_eq_false, if_false]
    obtain ⟨⟨x, y, z⟩, hv⟩ : ∃ v, getV (b.drop k) = v := ⟨_, rfl⟩
    rw [hv] at HG hfit ⊢
    simp only at HG hfit ⊢
    rw [hlen] at hfit
    have hn63 : n ≤ 9223372036854775807 := by unfold maxLen at h2; omega
    by_cases hz : z = 0
    · subst hz
      simp only [not_true_eq_false, if_false]
      by_cases hm : most < x
      · rw [if_pos hm]
        clear hv hlen hs hs2 h1 h2 h3 h4 hr eA2 H hfit
        go_enter Try.func52, Try.ntmps52
        go_wp2_with fail
        go_quiet ((go_at_call 66; exact quiet_first (HG.out _)))
        go_wp2_with fail
        go_ret
        have hw := (Only.refl g (w.drewN nq)).setCell 2 (.int .i64 5)
        refine ⟨rfl, ⟨T, A, n, c, ?_, (HS.out.drewN nq).only hw HC.out.2.2.1 HR.out.lt, HC.out.1, HC.out.2.1, HC.out.2.2.1, HC.out.2.2.2⟩, ((Only.refl g w).drewN nq).trans hw⟩
        simpa using (HR.out.drewN nq).put 2 (.int .i64 5)
      · rw [if_neg hm]
        have hy : k + y ≤ n := by omega
        have HY := Lib.hid hy
        have wk : IntKind.i64.wrap ((k : Int) + (y : Int)) = ((k + y : Nat) : Int) := by rw [← Int.natCast_add]; exact IntWalk.i64_in _ (by omega)
        clear hv hlen hs hs2 h1 h2 h3 h4 hr eA2 H hfit
        go_enter Try.func52, Try.ntmps52
        go_wp2_with fail
        go_quiet ((go_at_call 66; exact quiet_first (HG.out _)))
        go_wp2_with fail
        go_ret
        have hw := (Only.refl g (w.drewN nq)).setCell 1 (.int .i64 ((k + y : Nat) : Int))
        refine ⟨rfl, ⟨T, A, n, c, ?_, (HS.out.drewN nq).only hw HC.out.2.2.1 HR.out.lt, HC.out.1, HC.out.2.1, HC.out.2.2.1, HY.out⟩, ((Only.refl g w).drewN nq).trans hw⟩
        simpa using (HR.out.drewN nq).put 1 (.int .i64 ((k + y : Nat) : Int))
    · rw [if_pos (by simpa using hz)]
      have t1 : ((z : Int) != 0) = true := by simp; omega
      have t2 : ((z : Int) == 0) = false := by simp; omega
      clear hv hlen hs hs2 h1 h2 h3 h4 hr eA2 H hfit hz
      go_enter Try.func52, Try.ntmps52
      go_wp2_with fail
      go_quiet ((go_at_call 66; exact quiet_first (HG.out _)))
      go_wp2_with fail
      go_ret
      have hw := (Only.refl g (w.drewN nq)).setCell 2 (.int .i64 (z : Int))
      refine ⟨rfl, ⟨T, A, n, c, ?_, (HS.out.drewN nq).only hw HC.out.2.2.1 HR.out.lt, HC.out.1, HC.out.2.1, HC.out.2.2.1, HC.out.2.2.2⟩, ((Only.refl g w).drewN nq).trans hw⟩
      simpa using (HR.out.drewN nq).put 2 (.int .i64 (z : Int))
  · have e : numS b (k, q) most = (0, (k, q)) := by unfold numS; rw [if_pos (by simpa using hq)]
    rw [e]
    have t1 : ((q : Int) != 0) = true := by simp; omega
    clear hs h1 h2 h3 h4 hr e hq
    go_enter Try.func52, Try.ntmps52
    go_wp2_with fail
    go_ret
    exact ⟨rfl, H.out, Only.refl _ _⟩

/-- what the document's reader answers that reads bytes -/
def ReadsR (w : World) (B g : Nat) (b : List UInt8) (r : List UInt8 × (Nat × Nat)) (e : Ending) (w' : World) : Prop :=
  ∃ A m c, e = .returned (.slice A m c) ∧ Own w' w.heap.size (.slice A m c) m r.1 ∧ m ≤ c ∧ c ≤ maxLen ∧ RdW w' B g b r.2 ∧ Only g w w'

set_option maxHeartbeats 1000000 in
theorem rbytes_any (b : List UInt8) (s : Nat × Nat) (K : Int) (m : Nat) (hK : K = (m : Int)) (hmo : m ≤ 1000000) (B g : Nat) (w : World) (h : RdW w B g b s) :
    Calls Try.prog 53 #[.pointer (some ⟨g, 0, none⟩), .int .i64 K] w (ReadsR w B g b (bytesS b s m)) := by
  subst hK
  have H := Lib.hid h
  obtain ⟨k, q⟩ := s
  obtain ⟨T, A, n, c, hr, hs, h1, h2, h3, h4⟩ := h
  simp only at hr h4
  have c0 : w.cell? ⟨g, 0, none⟩ = some (.slice A n c) := hr.cell 0 _ rfl
  have c1 : w.cell? ⟨g, 1, none⟩ = some (.int .i64 (k : Int)) := hr.cell 1 _ rfl
  have c2 : w.cell? ⟨g, 2, none⟩ = some (.int .i64 (q : Int)) := hr.cell 2 _ rfl
  have f1 := hr.frozen 1
  have f2 := hr.frozen 2
  have HR := Lib.hid hr
  have HS := Lib.hid hs
  have HC : Hid (n ≤ c ∧ c ≤ maxLen ∧ B ≤ g ∧ k ≤ n) := ⟨h1, h2, h3, h4⟩
  by_cases hq : q = 0
  · subst hq
    have hlen : b.length = n := hs.1
    have hn63 : n ≤ 9223372036854775807 := by unfold maxLen at h2; omega
    unfold bytesS
    simp only [ne_eq, not_true_eq_false, if_false]
    rw [hlen]
    obtain ⟨d, hd⟩ : ∃ d, n - k = d := ⟨_, rfl⟩
    have wd : IntKind.i64.wrap ((n : Int) - (k : Int)) = (d : Int) := by rw [show (n : Int) - (k : Int) = (d : Int) by omega]; exact IntWalk.i64_in _ (by omega)
    rw [hd]
    by_cases hm : d < m
    · rw [if_pos hm]
      clear hlen hs h1 h2 h3 h4 hr H hd
      go_enter Try.func53, Try.ntmps53
      go_wp2_with fail
      go_quiet (fail)
      go_wp2_with fail
      go_ret
      have hw := (Only.refl g (w.drewN nq)).setCell 2 (.int .i64 3)
      refine ⟨none, 0, 0, rfl, Own.nil _ _, Nat.le_refl _, by simp [maxLen], ⟨T, A, n, c, ?_, (HS.out.drewN nq).only hw HC.out.2.2.1 HR.out.lt, HC.out.1, HC.out.2.1, HC.out.2.2.1, HC.out.2.2.2⟩, ((Only.refl g w).drewN nq).trans hw⟩
      simpa using (HR.out.drewN nq).put 2 (.int .i64 3)
    · rw [if_neg hm]
      have hkm : k + m ≤ n := by omega
      have Hkm := Lib.hid hkm
      obtain ⟨r, hr'⟩ : ∃ r, k + m = r := ⟨_, rfl⟩
      have wk : IntKind.i64.wrap ((k : Int) + (m : Int)) = (r : Int) := by rw [← Int.natCast_add, hr']; exact IntWalk.i64_in _ (by omega)
      have wk2 : IntKind.i64.wrap ((r : Int) - (m : Int)) = (k : Int) := by rw [show (r : Int) - (m : Int) = (k : Int) by omega]; exact IntWalk.i64_in _ (by omega)
      obtain ⟨A2, eA2⟩ : ∃ v, (if c = k then A else A.map (·.add k)) = v := ⟨_, rfl⟩
      have hcB : ∀ u : World, (Instr.slice 24 (.slice A n c) (some (.int .i64 (k : Int))) (some (.int .i64 (r : Int))) none).run Try.prog u = .ok (.slice A2 m (c - k)) u := fun u => by
        rw [run_cut2 u A n c k r (by omega) (by omega), eA2, show r - k = m by omega]
      have HS2 : Hid (Sl w B A2 m ((b.drop k).take m)) := by
        have h1' := (hs.drop h4 h1).take (k := m) (by omega)
        rwa [eA2] at h1'
      have Hr := Lib.hid hr'
      have HN1 : Hid (∀ nq, Rw ((w.drewN nq).setCell ⟨g, 1, none⟩ (.int .i64 (r : Int))) g T [.slice A n c, .int .i64 (r : Int), .int .i64 0]) := fun nq => by
        simpa using (hr.drewN nq).put 1 (.int .i64 (r : Int))
      have HO1 : Hid (∀ nq, Only g w ((w.drewN nq).setCell ⟨g, 1, none⟩ (.int .i64 (r : Int)))) := fun nq => ((Only.refl g w).drewN nq).setCell _ _
      clear hlen hs h1 h2 h3 h4 hr H hd hr' eA2 hkm
      go_enter Try.func53, Try.ntmps53
      go_wp2_with fail
      go_quiet (fail)
      go_wp2_with fail
      generalize hu : (w.drewN _).setCell _ _ = u
      have R1 : Rw u g T [.slice A n c, .int .i64 (r : Int), .int .i64 0] := hu ▸ HN1.out _
      have O1 : Only g w u := hu ▸ HO1.out _
      clear hu
      have d0 : u.cell? ⟨g, 0, none⟩ = some (.slice A n c) := R1.cell 0 _ rfl
      have d1 : u.cell? ⟨g, 1, none⟩ = some (.int .i64 (r : Int)) := R1.cell 1 _ rfl
      have HR1 := Lib.hid R1
      have HOu := Lib.hid O1
      clear R1 O1 c0 c1 c2 f1 f2
      refine wp_tail 15 (by kernel_rfl) (by kernel_rfl) ?_
      simp only [List.take_succ_cons, List.take_zero, List.drop_succ_cons, List.drop_zero]
      repeat still_step
      refine wpStill_nil ?_
      have HSu : Hid (Sl u.drew B A2 m ((b.drop k).take m)) := (HS2.out.only HOu.out HC.out.2.2.1 HR.out.lt).drew
      go_wp2_with (at_builtin; refine wpList_append_bytes rfl _ _ rfl u.drew.heap.size (.slice none 0 0) 0 [] rfl (Own.nil _ _) B A2 m (c - k) ((b.drop k).take m) rfl HSu.out (by omega) (Nat.le_refl _) u.drew (Below.refl _ _) ?_; intro A3 c3 w3 ho3 hle3 hc3 hg3 hb3)
      go_ret
      simp only [Nat.zero_add, List.nil_append] at ho3 hle3
      have hbu : Below u.heap.size u w3 := ((Below.refl _ _).drew).trans hb3
      have hon := HOu.out.trans (Only.of_below hbu)
      refine ⟨A3, m, c3, by simp, ho3.base HOu.out.size, hle3, hc3, ⟨T, A, n, c, ?_, HS.out.only hon HC.out.2.2.1 HR.out.lt, HC.out.1, HC.out.2.1, HC.out.2.2.1, Hkm.out⟩, hon⟩
      simpa [Hr.out] using HR1.out.below hbu
  · have e : bytesS b (k, q) m = ([], (k, q)) := by unfold bytesS; rw [if_pos (by simpa using hq)]
    rw [e]
    have t1 : ((q : Int) != 0) = true := by simp; omega
    clear hs h1 h2 h3 h4 hr e hq
    go_enter Try.func53, Try.ntmps53
    go_wp2_with fail
    go_ret
    exact ⟨none, 0, 0, rfl, Own.nil _ _, Nat.le_refl _, by simp [maxLen], H.out, Only.refl _ _⟩

end Go.Proofs.Ytafbhjhdnchfbaa


/-
  The ranges of an Ack as the document's reader takes them, by places.
-/
namespace Go.Proofs.Ytafbhjhdnchfbaa
set_option linter.unusedVariables false

theorem numX_code {l : List UInt8} {most e : Nat} (h : numX l most = .error e) : e ≠ 0 := by
  unfold numX at h
  split at h
  · rename_i hz
    cases h
    exact hz
  · split at h
    · cases h; omega
    · cases h
theorem numS_bad (b : List UInt8) (s : Nat × Nat) (most : Nat) (h : s.2 ≠ 0) : numS b s most = (0, s) := by unfold numS; rw [if_pos h]
theorem numS_lt (b : List UInt8) (s : Nat × Nat) (most : Nat) : (numS b s most).1 < 4611686018427387904 := by
  have h := (getV_fits (b.drop s.1)).2.1
  unfold numS
  split
  · simp
  · split
    · simp
    · split
      · simp
      · exact h
theorem numS_le (b : List UInt8) (s : Nat × Nat) (most : Nat) : (numS b s most).1 ≤ most := by
  unfold numS
  split
  · simp
  · split
    · simp
    · split
      · simp
      · simp only; omega
/-- the ranges behind the first, as the document's reader takes them: lo the lowest of the last one -/
def moreS (b : List UInt8) : Nat → Nat → Nat × Nat → List (Nat × Nat) → List (Nat × Nat) × (Nat × Nat)
  | 0, _, s, acc => (acc, s)
  | k + 1, lo, s, acc =>
    if s.2 ≠ 0 then (acc, s)
    else if (numS b s maxV).2.2 ≠ 0 then (acc, (numS b s maxV).2)
    else if lo < 2 ∨ lo - 2 < (numS b s maxV).1 then (acc, ((numS b s maxV).2.1, 5))
    else if (numS b (numS b s maxV).2 (lo - 2 - (numS b s maxV).1)).2.2 ≠ 0 then (acc, (numS b (numS b s maxV).2 (lo - 2 - (numS b s maxV).1)).2)
    else moreS b k (lo - 2 - (numS b s maxV).1 - (numS b (numS b s maxV).2 (lo - 2 - (numS b s maxV).1)).1) (numS b (numS b s maxV).2 (lo - 2 - (numS b s maxV).1)).2
      (acc ++ [(lo - 2 - (numS b s maxV).1 - (numS b (numS b s maxV).2 (lo - 2 - (numS b s maxV).1)).1, lo - 2 - (numS b s maxV).1)])
/-- what one has: its delay, its ranges, where the reader stands -/
def ackS (b : List UInt8) (s : Nat × Nat) : (Nat × List (Nat × Nat)) × (Nat × Nat) :=
  let a := numS b s maxV
  let d := numS b a.2 maxV
  let m := numS b d.2 7
  let l := numS b m.2 a.1
  if l.2.2 ≠ 0 then ((d.1, []), l.2) else ((d.1, (moreS b m.1 (a.1 - l.1) l.2 [(a.1 - l.1, a.1)]).1), (moreS b m.1 (a.1 - l.1) l.2 [(a.1 - l.1, a.1)]).2)
theorem moreS_ok (b : List UInt8) : ∀ (k lo p : Nat) (acc rs : List (Nat × Nat)) (l : List UInt8), moreX k lo (b.drop p) = .ok (rs, l) → ∃ p', moreS b k lo (p, 0) acc = (acc ++ rs, (p', 0)) ∧ l = b.drop p' ∧ p ≤ p'
  | 0, lo, p, acc, rs, l, h => by
    unfold moreX at h
    cases h
    exact ⟨p, by simp [moreS], rfl, Nat.le_refl _⟩
  | k + 1, lo, p, acc, rs, l, h => by
    unfold moreX at h
    unfold moreS
    rw [if_neg (by simp)]
    rcases hg : numX (b.drop p) maxV with e | ⟨g, lg⟩
    · rw [hg] at h; cases h
    · rw [hg, thenX_ok] at h
      simp only at h
      obtain ⟨p1, e1, rfl, h1⟩ := numS_ok b p maxV g lg hg
      rw [e1]
      simp only
      rw [if_neg (by simp)]
      split at h
      · cases h
      · rename_i hc
        rw [if_neg hc]
        rcases hm : numX (b.drop p1) (lo - 2 - g) with e | ⟨m, lm⟩
        · rw [hm] at h; cases h
        · rw [hm, thenX_ok] at h
          simp only at h
          obtain ⟨p2, e2, rfl, h2⟩ := numS_ok b p1 (lo - 2 - g) m lm hm
          rw [e2]
          simp only
          rw [if_neg (by simp)]
          rcases hr : moreX k (lo - 2 - g - m) (b.drop p2) with e | ⟨r, lr⟩
          · rw [hr] at h; cases h
          · rw [hr, thenX_ok] at h
            cases h
            obtain ⟨p3, e3, hl, h3⟩ := moreS_ok b k (lo - 2 - g - m) p2 (acc ++ [(lo - 2 - g - m, lo - 2 - g)]) r _ hr
            exact ⟨p3, by rw [e3]; simp, hl, by omega⟩
theorem moreS_err (b : List UInt8) : ∀ (k lo p : Nat) (acc : List (Nat × Nat)) (e : Nat), moreX k lo (b.drop p) = .error e → (moreS b k lo (p, 0) acc).2.2 = e ∧ e ≠ 0
  | 0, lo, p, acc, e, h => by unfold moreX at h; cases h
  | k + 1, lo, p, acc, e, h => by
    unfold moreX at h
    unfold moreS
    rw [if_neg (by simp)]
    rcases hg : numX (b.drop p) maxV with e0 | ⟨g, lg⟩
    · rw [hg] at h
      cases h
      have hne := numX_code hg
      rw [numS_err b p maxV _ hg]
      simp only
      rw [if_pos hne]
      exact ⟨rfl, hne⟩
    · rw [hg, thenX_ok] at h
      simp only at h
      obtain ⟨p1, e1, rfl, h1⟩ := numS_ok b p maxV g lg hg
      rw [e1]
      simp only
      rw [if_neg (by simp)]
      split at h
      · rename_i hc
        rw [if_pos hc]
        cases h
        exact ⟨rfl, by omega⟩
      · rename_i hc
        rw [if_neg hc]
        rcases hm : numX (b.drop p1) (lo - 2 - g) with e0 | ⟨m, lm⟩
        · rw [hm] at h
          cases h
          have hne := numX_code hm
          rw [numS_err b p1 (lo - 2 - g) _ hm]
          simp only
          rw [if_pos hne]
          exact ⟨rfl, hne⟩
        · rw [hm, thenX_ok] at h
          simp only at h
          obtain ⟨p2, e2, rfl, h2⟩ := numS_ok b p1 (lo - 2 - g) m lm hm
          rw [e2]
          simp only
          rw [if_neg (by simp)]
          rcases hr : moreX k (lo - 2 - g - m) (b.drop p2) with e0 | ⟨r, lr⟩
          · rw [hr] at h
            cases h
            exact moreS_err b k (lo - 2 - g - m) p2 _ _ hr
          · rw [hr, thenX_ok] at h; cases h
theorem ackS_ok (b : List UInt8) (p : Nat) (f : Fr) (l : List UInt8) (h : ackX (b.drop p) = .ok (f, l)) : ∃ d rs p', ackS b (p, 0) = ((d, rs), (p', 0)) ∧ f = { Fr.of 2 with delay := d, rs := rs } ∧ l = b.drop p' ∧ p ≤ p' := by
  unfold ackX at h
  unfold ackS
  rcases ha : numX (b.drop p) maxV with e | ⟨a, la⟩
  · rw [ha] at h; cases h
  rw [ha, thenX_ok] at h
  simp only at h
  obtain ⟨p1, e1, rfl, h1⟩ := numS_ok b p maxV a la ha
  rcases hd : numX (b.drop p1) maxV with e | ⟨d, ld⟩
  · rw [hd] at h; cases h
  rw [hd, thenX_ok] at h
  simp only at h
  obtain ⟨p2, e2, rfl, h2⟩ := numS_ok b p1 maxV d ld hd
  rcases hk : numX (b.drop p2) 7 with e | ⟨k, lk⟩
  · rw [hk] at h; cases h
  rw [hk, thenX_ok] at h
  simp only at h
  obtain ⟨p3, e3, rfl, h3⟩ := numS_ok b p2 7 k lk hk
  rcases hm : numX (b.drop p3) a with e | ⟨m, lm⟩
  · rw [hm] at h; cases h
  rw [hm, thenX_ok] at h
  simp only at h
  obtain ⟨p4, e4, rfl, h4⟩ := numS_ok b p3 a m lm hm
  rcases hr : moreX k (a - m) (b.drop p4) with e | ⟨r, lr⟩
  · rw [hr] at h; cases h
  rw [hr, thenX_ok] at h
  cases h
  obtain ⟨p5, e5, hl, h5⟩ := moreS_ok b k (a - m) p4 [(a - m, a)] r _ hr
  refine ⟨d, (a - m, a) :: r, p5, ?_, rfl, hl, by omega⟩
  simp only [e1, e2, e3, e4, e5]
  rw [if_neg (by simp)]
  rfl
theorem ackS_err (b : List UInt8) (p e : Nat) (h : ackX (b.drop p) = .error e) : (ackS b (p, 0)).2.2 = e ∧ e ≠ 0 := by
  unfold ackX at h
  unfold ackS
  rcases ha : numX (b.drop p) maxV with e0 | ⟨a, la⟩
  · rw [ha] at h
    cases h
    have hne := numX_code ha
    simp only [numS_err b p maxV _ ha]
    rw [numS_bad b (p, e) maxV hne]
    simp only
    rw [numS_bad b (p, e) 7 hne]
    simp only
    rw [numS_bad b (p, e) 0 hne]
    simp only
    rw [if_pos hne]
    exact ⟨rfl, hne⟩
  rw [ha, thenX_ok] at h
  simp only at h
  obtain ⟨p1, e1, rfl, h1⟩ := numS_ok b p maxV a la ha
  rcases hd : numX (b.drop p1) maxV with e0 | ⟨d, ld⟩
  · rw [hd] at h
    cases h
    have hne := numX_code hd
    simp only [e1, numS_err b p1 maxV _ hd]
    rw [numS_bad b (p1, e) 7 hne]
    simp only
    rw [numS_bad b (p1, e) a hne]
    simp only
    rw [if_pos hne]
    exact ⟨rfl, hne⟩
  rw [hd, thenX_ok] at h
  simp only at h
  obtain ⟨p2, e2, rfl, h2⟩ := numS_ok b p1 maxV d ld hd
  rcases hk : numX (b.drop p2) 7 with e0 | ⟨k, lk⟩
  · rw [hk] at h
    cases h
    have hne := numX_code hk
    simp only [e1, e2, numS_err b p2 7 _ hk]
    rw [numS_bad b (p2, e) a hne]
    simp only
    rw [if_pos hne]
    exact ⟨rfl, hne⟩
  rw [hk, thenX_ok] at h
  simp only at h
  obtain ⟨p3, e3, rfl, h3⟩ := numS_ok b p2 7 k lk hk
  rcases hm : numX (b.drop p3) a with e0 | ⟨m, lm⟩
  · rw [hm] at h
    cases h
    have hne := numX_code hm
    simp only [e1, e2, e3, numS_err b p3 a _ hm]
    rw [if_pos hne]
    exact ⟨rfl, hne⟩
  rw [hm, thenX_ok] at h
  simp only at h
  obtain ⟨p4, e4, rfl, h4⟩ := numS_ok b p3 a m lm hm
  rcases hr : moreX k (a - m) (b.drop p4) with e0 | ⟨r, lr⟩
  · rw [hr] at h
    cases h
    obtain ⟨e5, hne⟩ := moreS_err b k (a - m) p4 [(a - m, a)] _ hr
    simp only [e1, e2, e3, e4]
    rw [if_neg (by simp)]
    exact ⟨e5, hne⟩
  rw [hr, thenX_ok] at h
  cases h
end Go.Proofs.Ytafbhjhdnchfbaa

/-
  What the document's Get tells, by places (pure): a kind at a time.
-/
namespace Go.Proofs.Ytafbhjhdnchfbaa
set_option linter.unusedVariables false

def tellY (n : Nat) : Except Nat (Fr × List UInt8) → (Fr × Nat) × Nat
  | .ok (f, r) => ((f, n - r.length), 0)
  | .error e => ((Fr.of 0, 0), e)
/-- what is told of a frame and of where the reader stands -/
def endS (f : Fr) (s : Nat × Nat) : (Fr × Nat) × Nat := if s.2 = 0 then ((f, s.1), 0) else ((Fr.of 0, 0), s.2)
theorem bytesS_bad (b : List UInt8) (s : Nat × Nat) (k : Nat) (h : s.2 ≠ 0) : bytesS b s k = ([], s) := by unfold bytesS; rw [if_pos h]
theorem endS_ok {b : List UInt8} {p : Nat} (f : Fr) (h : p ≤ b.length) : endS f (p, 0) = tellY b.length (.ok (f, b.drop p)) := by
  unfold endS tellY
  simp only [if_true, List.length_drop]
  rw [show b.length - (b.length - p) = p by omega]
theorem endS_err {n e p : Nat} (f : Fr) (h : e ≠ 0) : endS f (p, e) = tellY n (.error e) := by
  unfold endS tellY
  simp only
  rw [if_neg h]
theorem bytesX_code {l : List UInt8} {k e : Nat} (h : bytesX l k = .error e) : e ≠ 0 := by
  unfold bytesX at h
  split at h
  · cases h; omega
  · cases h
/-- data behind a place -/
def dataS (b : List UInt8) (s : Nat × Nat) : (Nat × List UInt8) × (Nat × Nat) :=
  let o := numS b s maxV
  let k := numS b o.2 16383
  let d := bytesS b (if k.2.2 = 0 ∧ maxV < o.1 + k.1 then (k.2.1, 5) else k.2) k.1
  ((o.1, d.1), d.2)
theorem dataS_dead (b : List UInt8) (s : Nat × Nat) (h : s.2 ≠ 0) : (dataS b s).2 = s := by
  unfold dataS
  simp only [numS_bad b s _ h]
  rw [if_neg (fun hh => h hh.1), bytesS_bad b s _ h]
theorem dataS_ok (b : List UInt8) (p : Nat) (f g : Fr) (l : List UInt8) (h : dataX f (b.drop p) = .ok (g, l)) : ∃ o d p', dataS b (p, 0) = ((o, d), (p', 0)) ∧ g = { f with off := o, data := d } ∧ l = b.drop p' := by
  unfold dataX at h
  unfold dataS
  rcases ho : numX (b.drop p) maxV with e | ⟨o, lo⟩
  · rw [ho] at h; cases h
  rw [ho, thenX_ok] at h
  simp only at h
  obtain ⟨p1, e1, rfl, _⟩ := numS_ok b p maxV o lo ho
  rcases hk : numX (b.drop p1) 16383 with e | ⟨k, lk⟩
  · rw [hk] at h; cases h
  rw [hk, thenX_ok] at h
  simp only at h
  obtain ⟨p2, e2, rfl, _⟩ := numS_ok b p1 16383 k lk hk
  split at h
  · cases h
  rename_i hc
  rcases hd : bytesX (b.drop p2) k with e | ⟨d, ld⟩
  · rw [hd] at h; cases h
  rw [hd, thenX_ok] at h
  cases h
  obtain ⟨e3, hl⟩ := bytesS_ok b p2 k d ld hd
  refine ⟨o, d, p2 + k, ?_, rfl, hl⟩
  simp only [e1, e2]
  rw [if_neg (fun hh => hc hh.2), e3]
theorem dataS_err (b : List UInt8) (p : Nat) (f : Fr) (e : Nat) (h : dataX f (b.drop p) = .error e) : (dataS b (p, 0)).2.2 = e ∧ e ≠ 0 := by
  unfold dataX at h
  unfold dataS
  rcases ho : numX (b.drop p) maxV with e0 | ⟨o, lo⟩
  · rw [ho] at h
    cases h
    have hne := numX_code ho
    simp only [numS_err b p maxV _ ho]
    rw [numS_bad b (p, e) 16383 hne]
    simp only
    rw [if_neg (fun hh => hne hh.1), bytesS_bad b (p, e) _ hne]
    exact ⟨rfl, hne⟩
  rw [ho, thenX_ok] at h
  simp only at h
  obtain ⟨p1, e1, rfl, _⟩ := numS_ok b p maxV o lo ho
  rcases hk : numX (b.drop p1) 16383 with e0 | ⟨k, lk⟩
  · rw [hk] at h
    cases h
    have hne := numX_code hk
    simp only [e1, numS_err b p1 16383 _ hk]
    rw [if_neg (fun hh => hne hh.1), bytesS_bad b (p1, e) _ hne]
    exact ⟨rfl, hne⟩
  rw [hk, thenX_ok] at h
  simp only at h
  obtain ⟨p2, e2, rfl, _⟩ := numS_ok b p1 16383 k lk hk
  simp only [e1, e2]
  split at h
  · rename_i hc
    cases h
    rw [if_pos ⟨by first | rfl | trivial, hc⟩, bytesS_bad b (p2, 5) _ (by simp)]
    exact ⟨rfl, by omega⟩
  rename_i hc
  rw [if_neg (fun hh => hc hh.2)]
  rcases hd : bytesX (b.drop p2) k with e0 | ⟨d, ld⟩
  · rw [hd] at h
    cases h
    rw [bytesS_err b p2 k _ hd]
    exact ⟨rfl, bytesX_code hd⟩
  · rw [hd, thenX_ok] at h; cases h
section
variable {b r : List UInt8} {x : UInt8}
theorem drop_one (hb : b = x :: r) : b.drop 1 = r := by subst hb; rfl
theorem pair_eta (s : Nat × Nat) (e : Nat) (h : s.2 = e) : s = (s.1, e) := by subst h; rfl
theorem g_num (hb : b = x :: r) (hx : x.toNat = 16 ∨ x.toNat = 25) (v : Nat) (s : Nat × Nat) (h : numS b (1, 0) maxV = (v, s)) (hs : s.1 ≤ b.length) : tellY b.length (getX b) = endS { Fr.of (x.toNat : Int) with n := v } s := by
  have hg : getX b = thenX (numX (b.drop 1) maxV) fun i => .ok ({ Fr.of (x.toNat : Int) with n := i.1 }, i.2) := by
    rw [drop_one hb, hb, getX]
    rw [if_neg (by omega), if_neg (by omega), if_neg (by omega), if_neg (by omega), if_neg (by omega), if_pos hx]
  rw [hg]
  rcases hn : numX (b.drop 1) maxV with e | ⟨i, l⟩
  · rw [numS_err b 1 maxV e hn] at h
    cases h
    rw [thenX_err, endS_err _ (numX_code hn)]
  · obtain ⟨p, e1, rfl, _⟩ := numS_ok b 1 maxV i l hn
    rw [e1] at h
    cases h
    rw [thenX_ok, endS_ok _ hs]
theorem g_close (hb : b = x :: r) (hx : x.toNat = 28) (v y z : Nat) (s1 s2 s : Nat × Nat) (h1 : numS b (1, 0) maxV = (v, s1)) (h2 : numS b s1 0 = (y, s2)) (h3 : numS b s2 0 = (z, s)) (hs : s.1 ≤ b.length) : tellY b.length (getX b) = endS { Fr.of (x.toNat : Int) with n := v } s := by
  have hg : getX b = thenX (numX (b.drop 1) maxV) fun i => thenX (numX i.2 0) fun k => thenX (numX k.2 0) fun m => .ok ({ Fr.of (x.toNat : Int) with n := i.1 }, m.2) := by
    rw [drop_one hb, hb, getX]
    rw [if_neg (by omega), if_neg (by omega), if_neg (by omega), if_neg (by omega), if_neg (by omega), if_neg (by omega), if_pos hx, hx]
    rfl
  rw [hg]
  rcases hn : numX (b.drop 1) maxV with e | ⟨i, l⟩
  · have hne := numX_code hn
    rw [numS_err b 1 maxV e hn] at h1
    cases h1
    rw [numS_bad b (1, e) 0 hne] at h2
    cases h2
    rw [numS_bad b (1, e) 0 hne] at h3
    cases h3
    rw [thenX_err, endS_err _ hne]
  obtain ⟨p, e1, rfl, _⟩ := numS_ok b 1 maxV i l hn
  rw [e1] at h1
  cases h1
  rw [thenX_ok]
  simp only
  rcases hk : numX (b.drop p) 0 with e | ⟨k, l⟩
  · have hne := numX_code hk
    rw [numS_err b p 0 e hk] at h2
    cases h2
    rw [numS_bad b (p, e) 0 hne] at h3
    cases h3
    rw [thenX_err, endS_err _ hne]
  obtain ⟨p2, e2, rfl, _⟩ := numS_ok b p 0 k l hk
  rw [e2] at h2
  cases h2
  rw [thenX_ok]
  simp only
  rcases hm : numX (b.drop p2) 0 with e | ⟨m, l⟩
  · rw [numS_err b p2 0 e hm] at h3
    cases h3
    rw [thenX_err, endS_err _ (numX_code hm)]
  · obtain ⟨p3, e3, rfl, _⟩ := numS_ok b p2 0 m l hm
    rw [e3] at h3
    cases h3
    rw [thenX_ok, endS_ok _ hs]
theorem g_eight (hb : b = x :: r) (hx : x.toNat = 26 ∨ x.toNat = 27) (d : List UInt8) (s : Nat × Nat) (h : bytesS b (1, 0) 8 = (d, s)) (hs : s.1 ≤ b.length) : tellY b.length (getX b) = endS { Fr.of (x.toNat : Int) with data := d } s := by
  have hg : getX b = thenX (bytesX (b.drop 1) 8) fun i => .ok ({ Fr.of (x.toNat : Int) with data := i.1 }, i.2) := by
    rw [drop_one hb, hb, getX]
    rw [if_neg (by omega), if_neg (by omega), if_neg (by omega), if_neg (by omega), if_neg (by omega), if_neg (by omega), if_neg (by omega), if_neg (by omega), if_pos hx]
  rw [hg]
  rcases hn : bytesX (b.drop 1) 8 with e | ⟨i, l⟩
  · rw [bytesS_err b 1 8 e hn] at h
    cases h
    rw [thenX_err, endS_err _ (bytesX_code hn)]
  · obtain ⟨e1, rfl⟩ := bytesS_ok b 1 8 i l hn
    rw [e1] at h
    cases h
    rw [thenX_ok, endS_ok _ hs]
theorem g_ack (hb : b = x :: r) (hx : x.toNat = 2) (d : Nat) (rs : List (Nat × Nat)) (s : Nat × Nat) (h : ackS b (1, 0) = ((d, rs), s)) (hs : s.1 ≤ b.length) : tellY b.length (getX b) = endS { Fr.of (x.toNat : Int) with delay := d, rs := rs } s := by
  have hg : getX b = ackX (b.drop 1) := by
    rw [drop_one hb, hb, getX]
    rw [if_neg (by omega), if_neg (by omega), if_pos hx]
  rw [hg]
  rcases ha : ackX (b.drop 1) with e | ⟨f, l⟩
  · obtain ⟨h1, h2⟩ := ackS_err b 1 e ha
    rw [h] at h1
    rw [pair_eta s e h1, endS_err _ h2]
  · obtain ⟨d', rs', p', h1, rfl, rfl, _⟩ := ackS_ok b 1 f l ha
    rw [h1] at h
    cases h
    rw [endS_ok _ hs, hx]
    rfl
theorem g_crypto (hb : b = x :: r) (hx : x.toNat = 6) (o : Nat) (d : List UInt8) (s : Nat × Nat) (h : dataS b (1, 0) = ((o, d), s)) (hs : s.1 ≤ b.length) : tellY b.length (getX b) = endS { Fr.of (x.toNat : Int) with off := o, data := d } s := by
  have hg : getX b = dataX (Fr.of 6) (b.drop 1) := by
    rw [drop_one hb, hb, getX]
    rw [if_neg (by omega), if_neg (by omega), if_neg (by omega), if_pos hx]
  rw [hg]
  rcases ha : dataX (Fr.of 6) (b.drop 1) with e | ⟨f, l⟩
  · obtain ⟨h1, h2⟩ := dataS_err b 1 _ e ha
    rw [h] at h1
    rw [pair_eta s e h1, endS_err _ h2]
  · obtain ⟨o', d', p', h1, rfl, rfl⟩ := dataS_ok b 1 _ f l ha
    rw [h1] at h
    cases h
    rw [endS_ok _ hs, hx]
    rfl
theorem g_stream (hb : b = x :: r) (hx : x.toNat = 14 ∨ x.toNat = 15) (i o : Nat) (d : List UInt8) (s1 s : Nat × Nat) (h1 : numS b (1, 0) maxV = (i, s1)) (h : dataS b s1 = ((o, d), s)) (hs : s.1 ≤ b.length) :
    tellY b.length (getX b) = endS { Fr.of 8 with id := i, fin := decide (x.toNat = 15), off := o, data := d } s := by
  have hg : getX b = thenX (numX (b.drop 1) maxV) fun i => dataX { Fr.of 8 with id := i.1, fin := decide (x.toNat = 15) } i.2 := by
    rw [drop_one hb, hb, getX]
    rw [if_neg (by omega), if_neg (by omega), if_neg (by omega), if_neg (by omega), if_pos hx]
  rw [hg]
  rcases hn : numX (b.drop 1) maxV with e | ⟨i', l⟩
  · have hne := numX_code hn
    rw [numS_err b 1 maxV e hn] at h1
    cases h1
    have h2 := dataS_dead b (1, e) hne
    rw [h] at h2
    cases h2
    rw [thenX_err, endS_err _ hne]
  obtain ⟨p, e1, rfl, _⟩ := numS_ok b 1 maxV i' l hn
  rw [e1] at h1
  cases h1
  rw [thenX_ok]
  simp only
  rcases ha : dataX { Fr.of 8 with id := i, fin := decide (x.toNat = 15) } (b.drop p) with e | ⟨f, l⟩
  · obtain ⟨h1, h2⟩ := dataS_err b p _ e ha
    rw [h] at h1
    rw [pair_eta s e h1, endS_err _ h2]
  · obtain ⟨o', d', p', h1, rfl, rfl⟩ := dataS_ok b p _ f l ha
    rw [h1] at h
    cases h
    rw [endS_ok _ hs]
theorem g_cid (hb : b = x :: r) (hx : x.toNat = 24) (v y : Nat) (o cd tk : List UInt8) (s1 s2 s3 s4 s5 s : Nat × Nat) (h1 : numS b (1, 0) maxV = (v, s1)) (h2 : numS b s1 0 = (y, s2)) (h3 : bytesS b s2 1 = (o, s3)) (h4 : (if s3.2 = 0 ∧ o ≠ [8] then (s3.1, 5) else s3) = s4) (h5 : bytesS b s4 8 = (cd, s5)) (h6 : bytesS b s5 16 = (tk, s)) (hs : s.1 ≤ b.length) :
    tellY b.length (getX b) = endS { Fr.of (x.toNat : Int) with n := v, cid := cd, tok := tk } s := by
  have hg : getX b = thenX (numX (b.drop 1) maxV) fun i => thenX (numX i.2 0) fun k => thenX (bytesX k.2 1) fun o =>
      if o.1 ≠ [8] then .error 5 else thenX (bytesX o.2 8) fun c => thenX (bytesX c.2 16) fun t => .ok ({ Fr.of (x.toNat : Int) with n := i.1, cid := c.1, tok := t.1 }, t.2) := by
    rw [drop_one hb, hb, getX]
    rw [if_neg (by omega), if_neg (by omega), if_neg (by omega), if_neg (by omega), if_neg (by omega), if_neg (by omega), if_neg (by omega), if_pos hx, hx]
    rfl
  have dead : ∀ p e : Nat, e ≠ 0 → s4 = (p, e) → endS { Fr.of (x.toNat : Int) with n := v, cid := cd, tok := tk } s = tellY b.length (.error e) := fun p e he hh => by
    rw [hh, bytesS_bad b (p, e) 8 he] at h5
    cases h5
    rw [bytesS_bad b (p, e) 16 he] at h6
    cases h6
    rw [endS_err _ he]
  have dead3 : ∀ p e : Nat, e ≠ 0 → s3 = (p, e) → endS { Fr.of (x.toNat : Int) with n := v, cid := cd, tok := tk } s = tellY b.length (.error e) := fun p e he hh => by
    rw [hh, if_neg (fun h => he h.1)] at h4
    exact dead p e he h4.symm
  rw [hg]
  rcases hn : numX (b.drop 1) maxV with e | ⟨i, l⟩
  · have hne := numX_code hn
    rw [numS_err b 1 maxV e hn] at h1
    cases h1
    rw [numS_bad b (1, e) 0 hne] at h2
    cases h2
    rw [bytesS_bad b (1, e) 1 hne] at h3
    cases h3
    rw [thenX_err, dead3 1 e hne rfl]
  obtain ⟨p, e1, rfl, _⟩ := numS_ok b 1 maxV i l hn
  rw [e1] at h1
  cases h1
  rw [thenX_ok]
  simp only
  rcases hk : numX (b.drop p) 0 with e | ⟨k, l⟩
  · have hne := numX_code hk
    rw [numS_err b p 0 e hk] at h2
    cases h2
    rw [bytesS_bad b (p, e) 1 hne] at h3
    cases h3
    rw [thenX_err, dead3 p e hne rfl]
  obtain ⟨p2, e2, rfl, _⟩ := numS_ok b p 0 k l hk
  rw [e2] at h2
  cases h2
  rw [thenX_ok]
  simp only
  rcases ho : bytesX (b.drop p2) 1 with e | ⟨o', l⟩
  · have hne := bytesX_code ho
    rw [bytesS_err b p2 1 e ho] at h3
    cases h3
    rw [thenX_err, dead3 p2 e hne rfl]
  obtain ⟨e3, rfl⟩ := bytesS_ok b p2 1 o' l ho
  rw [e3] at h3
  cases h3
  rw [thenX_ok]
  simp only
  by_cases h8 : o ≠ [8]
  · rw [if_pos h8]
    rw [if_pos ⟨rfl, h8⟩] at h4
    rw [dead _ 5 (by omega) h4.symm]
  rw [if_neg h8]
  rw [if_neg (fun h => h8 h.2)] at h4
  subst h4
  rcases hc : bytesX (b.drop (p2 + 1)) 8 with e | ⟨c', l⟩
  · have hne := bytesX_code hc
    rw [bytesS_err b (p2 + 1) 8 e hc] at h5
    cases h5
    rw [bytesS_bad b (p2 + 1, e) 16 hne] at h6
    cases h6
    rw [thenX_err, endS_err _ hne]
  obtain ⟨e5, rfl⟩ := bytesS_ok b (p2 + 1) 8 c' l hc
  rw [e5] at h5
  cases h5
  rw [thenX_ok]
  simp only
  rcases ht : bytesX (b.drop (p2 + 1 + 8)) 16 with e | ⟨t', l⟩
  · rw [bytesS_err b _ 16 e ht] at h6
    cases h6
    rw [thenX_err, endS_err _ (bytesX_code ht)]
  · obtain ⟨e6, rfl⟩ := bytesS_ok b _ 16 t' l ht
    rw [e6] at h6
    cases h6
    rw [thenX_ok, endS_ok _ hs]
theorem g_bare (hb : b = x :: r) (hx : x.toNat = 1 ∨ x.toNat = 30) : tellY b.length (getX b) = endS (Fr.of (x.toNat : Int)) (1, 0) := by
  have hg : getX b = .ok (Fr.of (x.toNat : Int), b.drop 1) := by
    rw [drop_one hb, hb, getX]
    rw [if_neg (by omega), if_pos hx]
  have hl : 1 ≤ b.length := by rw [hb]; simp
  rw [hg, endS_ok _ hl]
theorem g_kind (hb : b = x :: r) (h0 : x.toNat ≠ 0) (h : ¬ (x.toNat = 1 ∨ x.toNat = 30) ∧ x.toNat ≠ 2 ∧ x.toNat ≠ 6 ∧ ¬ (x.toNat = 14 ∨ x.toNat = 15) ∧ ¬ (x.toNat = 16 ∨ x.toNat = 25) ∧ x.toNat ≠ 28 ∧ x.toNat ≠ 24 ∧ ¬ (x.toNat = 26 ∨ x.toNat = 27)) : tellY b.length (getX b) = ((Fr.of 0, 0), 6) := by
  have hg : getX b = .error 6 := by
    rw [hb, getX]
    rw [if_neg (by omega), if_neg (by omega), if_neg (by omega), if_neg (by omega), if_neg (by omega), if_neg (by omega), if_neg (by omega), if_neg (by omega), if_neg (by omega)]
  rw [hg]
  rfl
theorem g_zero (hb : b = x :: r) (h0 : x.toNat = 0) : tellY b.length (getX b) = (({ Fr.of 0 with n := min (zerosN b) 16384 }, min (zerosN b) 16384), 0) := by
  have hz : zerosN b ≤ b.length := by
    clear hb
    induction b with
    | nil => simp [zerosN]
    | cons y t ih => unfold zerosN; split <;> simp <;> omega
  have hg : getX b = .ok ({ Fr.of 0 with n := min (zerosN b) 16384 }, b.drop (min (zerosN b) 16384)) := by
    rw [hb, getX]
    rw [if_pos h0]
  rw [hg]
  unfold tellY
  simp only [List.length_drop]
  rw [show b.length - (b.length - min (zerosN b) 16384) = min (zerosN b) 16384 by omega]
end
end Go.Proofs.Ytafbhjhdnchfbaa

/-
  What an Ack has, by the document: (*Reader).ack.
-/
namespace Go.Proofs.Ytafbhjhdnchfbaa
open Go.RowKit
set_option linter.unusedVariables false

theorem Only.belowC {g C : Nat} {a b : World} (h : Only g a b) (hC : C ≤ g) (hg : g < a.heap.size) : Below C a b :=
  ⟨h.os, h.tape, h.output, h.size, fun k hk => h.block k (by omega) (by omega)⟩
/-- the document's reader and the frame that it fills: two blocks of the caller's, from C on -/
structure RdF (w0 w : World) (B C g gf : Nat) (b : List UInt8) (s : Nat × Nat) (vs : List Value) : Prop where
  r : RdW w B g b s
  f : Rw w gf 26 vs
  b : Below C w0 w
section
variable {w0 w w' : World} {B C g gf : Nat} {b : List UInt8} {s s' : Nat × Nat} {vs : List Value}
theorem RdF.num (h : RdF w0 w B C g gf b s vs) (hC : C ≤ g) (hne : g ≠ gf) (hr : RdW w' B g b s') (ho : Only g w w') : RdF w0 w' B C g gf b s' vs :=
  ⟨hr, h.f.only ho (Ne.symm hne), h.b.trans (ho.belowC hC h.r.lt)⟩
theorem RdF.put (h : RdF w0 w B C g gf b s vs) (hC : C ≤ gf) (hB : B ≤ gf) (hne : g ≠ gf) (i : Nat) (v : Value) : RdF w0 (w.setCell ⟨gf, i, none⟩ v) B C g gf b s (vs.set i v) :=
  ⟨h.r.only ((Only.refl gf w).setCell _ _) hne hB, h.f.put i v, h.b.trans (((Only.refl gf w).setCell _ _).belowC hC h.f.lt)⟩
theorem RdF.drewN (h : RdF w0 w B C g gf b s vs) (k : Nat) : RdF w0 (w.drewN k) B C g gf b s vs := by
  obtain ⟨⟨T, A, n, c, hr, hs, h1⟩, hf, hb⟩ := h
  exact ⟨⟨T, A, n, c, hr.drewN k, hs.drewN k, h1⟩, hf.drewN k, ⟨hb.os, hb.tape, hb.output, hb.size, hb.block⟩⟩
theorem RdF.code (h : RdF w0 w B C g gf b s vs) : w.cell? ⟨g, 2, none⟩ = some (.int .i64 (s.2 : Int)) := by
  obtain ⟨T, A, n, c, hr, _⟩ := h.r
  exact hr.cell 2 _ rfl
theorem RdF.codeF (h : RdF w0 w B C g gf b s vs) : w.frozen? ⟨g, 2, none⟩ = false := by
  obtain ⟨T, A, n, c, hr, _⟩ := h.r
  exact hr.frozen 2
theorem RdF.setE (h : RdF w0 w B C g gf b s vs) (hC : C ≤ g) (hne : g ≠ gf) (q : Nat) : RdF w0 (w.setCell ⟨g, 2, none⟩ (.int .i64 (q : Int))) B C g gf b (s.1, q) vs := by
  have hlt := h.r.lt
  obtain ⟨⟨T, A, n, c, hr, hs, h1, h2, h3, h4⟩, hf, hb⟩ := h
  have hw := (Only.refl g w).setCell 2 (.int .i64 (q : Int))
  refine ⟨⟨T, A, n, c, ?_, hs.only hw h3 hlt, h1, h2, h3, h4⟩, hf.only hw (Ne.symm hne), hb.trans (hw.belowC hC hlt)⟩
  simpa using hr.put 2 (.int .i64 (q : Int))
theorem RdF.alloc (h : RdF w0 w B C g gf b s vs) (hC : C ≤ w.heap.size) (o : Obj) : RdF w0 (w.alloc o) B C g gf b s vs :=
  ⟨h.r.below ((Below.refl _ _).alloc (Nat.le_refl _) o), h.f.alloc o, h.b.alloc hC o⟩
end
theorem RdW.belowB {w w' : World} {B g c : Nat} {b : List UInt8} {s : Nat × Nat} (h : RdW w B g b s) (hb : Below c w w') (hg : g < c) : RdW w' B g b s := by
  obtain ⟨T, A, n, c, hr, hs, h1, h2, h3, h4⟩ := h
  exact ⟨T, A, n, c, hr.belowB hb hg, hs.below ⟨hb.os, hb.tape, hb.output, hb.size, fun k hk => hb.block k (by omega)⟩, h1, h2, h3, h4⟩
set_option maxHeartbeats 4000000 in
set_option maxRecDepth 4000 in
theorem rack_any (b : List UInt8) (s : Nat × Nat) (B C g gf : Nat) (w : World) (hC : C ≤ g) (hCf : C ≤ gf) (hBf : B ≤ gf) (hne : g ≠ gf) (h : RdW w B g b s) (hf : Rw w gf 26 (ackV 0 none 0 0)) :
    Calls Try.prog 51 #[.pointer (some ⟨g, 0, none⟩), .pointer (some ⟨gf, 0, none⟩)] w fun e w' => e = .returned (.tuple #[]) ∧ RdW w' B g b (ackS b s).2 ∧ Below C w w' ∧
      ((ackS b s).2.2 = 0 → ∃ A n c, Rw w' gf 26 (ackV (ackS b s).1.1 A n c) ∧ OwnR w' w.heap.size (.slice A n c) n (ackS b s).1.2) := by
  have K0 : Hid (RdF w w B C g gf b s (ackV 0 none 0 0)) := ⟨h, hf, Below.refl _ _⟩
  have HX : Hid (C ≤ g ∧ C ≤ gf ∧ B ≤ gf ∧ g ≠ gf) := ⟨hC, hCf, hBf, hne⟩
  clear h hf hC hCf hBf hne
  generalize hV : ackS b s = V
  unfold ackS at hV
  have HN := fun (st : Nat × Nat) (K : Int) (m : Nat) (hK : K = (m : Int)) (hm : m < 18446744073709551616) (u : World) (hu : RdW u B g b st) => rnum_any b st K m hK hm B g u hu
  have HN := Lib.hid HN
  obtain ⟨⟨hi, s1⟩, h1⟩ : ∃ v, numS b s maxV = v := ⟨_, rfl⟩
  have hi62 := numS_lt b s maxV
  obtain ⟨⟨dl, s2⟩, h2⟩ : ∃ v, numS b s1 maxV = v := ⟨_, rfl⟩
  obtain ⟨⟨many, s3⟩, h3⟩ : ∃ v, numS b s2 7 = v := ⟨_, rfl⟩
  have hm7 := numS_le b s2 7
  obtain ⟨⟨lg, s4⟩, h4⟩ : ∃ v, numS b s3 hi = v := ⟨_, rfl⟩
  have hl := numS_le b s3 hi
  rw [h1] at hi62
  rw [h3] at hm7
  rw [h4] at hl
  simp only [h1, h2, h3, h4] at hV
  simp only at hi62 hm7 hl
  have HV := Lib.hid hV
  clear hV
  have H1 := Lib.hid h1
  have H2 := Lib.hid h2
  have H3 := Lib.hid h3
  have H4 := Lib.hid h4
  clear h1 h2 h3 h4
  go_enter Try.func51, Try.ntmps51
  go_wp2_with fail
  (with_reducible refine (HN.out s 4611686018427387903 maxV rfl (by unfold maxV; omega) w K0.out.r).mono ?_)
  rw [H1.out]
  rintro e1 w1 ⟨rfl, hr1, ho1⟩
  have K1 := Lib.hid (K0.out.num HX.out.1 HX.out.2.2.2 hr1 ho1)
  clear hr1 ho1
  go_wp2_with fail
  (with_reducible refine (HN.out s1 4611686018427387903 maxV rfl (by unfold maxV; omega) w1 K1.out.r).mono ?_)
  rw [H2.out]
  rintro e2 w2 ⟨rfl, hr2, ho2⟩
  have K2 := Lib.hid (K1.out.num HX.out.1 HX.out.2.2.2 hr2 ho2)
  clear hr2 ho2
  have f2 := K2.out.f.frozen 2
  have c2 : w2.cell? ⟨gf, 2, none⟩ = some (.int .u64 0) := K2.out.f.cell 2 _ rfl
  have K3 : Hid (RdF w (w2.setCell ⟨gf, 2, none⟩ (.int .u64 (dl : Int))) B C g gf b s2 (ackV dl none 0 0)) := K2.out.put HX.out.2.1 HX.out.2.2.1 HX.out.2.2.2 2 _
  go_wp2_with fail
  (with_reducible refine (HN.out s2 7 7 rfl (by omega) _ K3.out.r).mono ?_)
  rw [H3.out]
  rintro e3 w3 ⟨rfl, hr3, ho3⟩
  have K4 := Lib.hid (K3.out.num HX.out.1 HX.out.2.2.2 hr3 ho3)
  clear hr3 ho3 f2 c2
  go_wp2_with fail
  (with_reducible refine (HN.out s3 _ hi rfl (by omega) w3 K4.out.r).mono ?_)
  rw [H4.out]
  rintro e4 w4 ⟨rfl, hr4, ho4⟩
  have K5 := Lib.hid (K4.out.num HX.out.1 HX.out.2.2.2 hr4 ho4)
  clear hr4 ho4
  obtain ⟨p4, q4⟩ := s4
  have c4 : w4.cell? ⟨g, 2, none⟩ = some (.int .i64 (q4 : Int)) := by
    obtain ⟨T, A, n, c, hr, _⟩ := K5.out.r
    exact hr.cell 2 _ rfl
  by_cases hq : q4 = 0
  · subst hq
    have HV := Lib.hid ((if_neg (by simp)).symm.trans HV.out)
    have f3 := K5.out.f.frozen 3
    have c3 : w4.cell? ⟨gf, 3, none⟩ = some (.slice none 0 0) := K5.out.f.cell 3 _ rfl
    obtain ⟨lo, hlo⟩ : ∃ lo, hi - lg = lo := ⟨_, rfl⟩
    have wlo : IntKind.u64.wrap ((hi : Int) - (lg : Int)) = (lo : Int) := by rw [wrap_u64N]; omega
    rw [hlo] at HV
    have hlo62 : lo < 4611686018427387904 := by omega
    obtain ⟨R, hR⟩ : ∃ R, moreS b many lo (p4, 0) [(lo, hi)] = R := ⟨_, rfl⟩
    rw [hR] at HV
    have HR := Lib.hid hR
    have HCw : Hid (C ≤ w4.heap.size ∧ w.heap.size ≤ w4.heap.size) := ⟨by have := HX.out.1; have := K5.out.r.lt; omega, K5.out.b.size⟩
    have K6 := Lib.hid (fun o => K5.out.alloc HCw.out.1 o)
    have OW := Lib.hid (ownR_lit w4 w.heap.size HCw.out.2 lo hi)
    have k3 := (K6.out (.cells #[.int .u64 (lo : Int), .int .u64 (hi : Int)] 44)).f.cell 3 (.slice none 0 0) rfl
    have g3 := (K6.out (.cells #[.int .u64 (lo : Int), .int .u64 (hi : Int)] 44)).f.frozen 3
    have K7 : Hid (RdF w ((w4.alloc (.cells #[.int .u64 (lo : Int), .int .u64 (hi : Int)] 44)).setCell ⟨gf, 3, none⟩ (.slice (some ⟨w4.heap.size, 0, none⟩) 1 1)) B C g gf b (p4, 0) (ackV dl (some ⟨w4.heap.size, 0, none⟩) 1 1)) :=
      (K6.out _).put HX.out.2.1 HX.out.2.2.1 HX.out.2.2.2 3 _
    have OX : Hid (OwnR ((w4.alloc (.cells #[.int .u64 (lo : Int), .int .u64 (hi : Int)] 44)).setCell ⟨gf, 3, none⟩ (.slice (some ⟨w4.heap.size, 0, none⟩) 1 1)) w.heap.size (.slice (some ⟨w4.heap.size, 0, none⟩) 1 1) 1 [(lo, hi)]) :=
      OW.out.onlyA ((Only.refl gf _).setCell _ _) fun a ha => by injection ha with ha; subst ha; have := K5.out.f.lt; simp only; omega
    have HCL : Hid (C ≤ w.heap.size) := Nat.le_trans HX.out.1 (Nat.le_of_lt K0.out.r.lt)
    have HGL : Hid (g < w.heap.size ∧ gf < w.heap.size) := ⟨K0.out.r.lt, K0.out.f.lt⟩
    clear hR hlo H1 H2 H3 H4 K0 K1 K2 K3 K4
    go_wp2_with fail
    go_loopw [6, 7, 8, 9, 10] (fun _ i _ _ _ wr => ∃ (j lo' hh : Nat) (st : Nat × Nat) (pre : List (Nat × Nat)) (A : Option Addr) (n c : Nat), j ≤ many ∧ i = .int .u64 (j : Int) ∧ lo' < 4611686018427387904 ∧ n ≤ 8 ∧
      Hid (RdF w wr B C g gf b st (ackV dl A n c)) ∧ Hid (OwnR wr w.heap.size (.slice A n c) n (pre ++ [(lo', hh)])) ∧ Hid ((st.2 ≠ 0 ∧ (pre ++ [(lo', hh)], st) = R) ∨ (st.2 = 0 ∧ n = j + 1 ∧ moreS b (many - j) lo' st (pre ++ [(lo', hh)]) = R))) (fun _ i _ _ _ _ => many - (intOf i).toNat)
    case atStart => exact ⟨0, lo, hi, (p4, 0), [], _, 1, 1, by omega, rfl, hlo62, by omega, K7, OX, .inr ⟨rfl, rfl, HR.out⟩⟩
    case round =>
      obtain ⟨j, lo', hh, ⟨p, q⟩, pre, A, n, c, hj, rfl, hlo', hn8, KK, OO, HC⟩ := hrel
      have c2 : wr.cell? ⟨g, 2, none⟩ = some (.int .i64 (q : Int)) := by
        obtain ⟨T, A, n, c, hr, _⟩ := KK.out.r
        exact hr.cell 2 _ rfl
      by_cases hlt : j < many
      · by_cases hq : q = 0
        · subst hq
          obtain ⟨hn, HL⟩ : n = j + 1 ∧ Hid (moreS b (many - j) lo' (p, 0) (pre ++ [(lo', hh)]) = R) := by
            rcases HC.out with ⟨h, _⟩ | ⟨_, h1, h2⟩
            · exact absurd rfl h
            · exact ⟨h1, h2⟩
          subst hn
          obtain ⟨k, hk⟩ : ∃ k, many - j = k + 1 := ⟨many - j - 1, by omega⟩
          have hL := HL.out
          rw [hk] at hL
          unfold moreS at hL
          rw [if_neg (by simp)] at hL
          have HK : Hid (many - (j + 1) = k) := show _ = _ by omega
          obtain ⟨⟨gp, p5, q5⟩, h5⟩ : ∃ v, numS b (p, 0) maxV = v := ⟨_, rfl⟩
          have gp62 := numS_lt b (p, 0) maxV
          rw [h5] at gp62 hL
          simp only at gp62 hL
          have H5 := Lib.hid h5
          have HL := Lib.hid hL
          have hpl : pre.length = j := by have := OO.out.len; simp at this; omega
          obtain ⟨bk, off, rfl, hbk, _⟩ := OO.out.sl.2 (by omega)
          have cJ := slR_at OO.out.sl j (by omega)
          rw [show (pre ++ [(lo', hh)]).getD j (0, 0) = (lo', hh) by rw [← hpl]; simp] at cJ
          obtain ⟨cj, _⟩ := cJ
          simp only at cj
          have c3 : wr.cell? ⟨gf, 3, none⟩ = some (.slice (some ⟨bk, off, none⟩) (j + 1) c) := KK.out.f.cell 3 _ rfl
          have wi : IntKind.i64.wrap ((j : Int) + 1 - 1) = (j : Int) := by rw [show (j : Int) + 1 - 1 = (j : Int) by omega]; exact IntWalk.i64_in _ (by omega)
          have hin : j < j + 1 := by omega
          have hnc := OO.out.bnd
          have K8 := Lib.hid (fun k => KK.out.drewN k)
          clear hL h5 hk hpl HC
          go_wp2_with fail
          go_quiet (fail)
          go_wp2_with fail
          (with_reducible refine (HN.out (p, 0) 4611686018427387903 maxV rfl (by unfold maxV; omega) _ (K8.out _).r).mono ?_)
          rw [H5.out]
          rintro e5 w5 ⟨rfl, hr5, ho5⟩
          have K9 := Lib.hid ((K8.out _).num HX.out.1 HX.out.2.2.2 hr5 ho5)
          have O9 : Hid (OwnR w5 w.heap.size (.slice (some ⟨bk, off, none⟩) (j + 1) c) (j + 1) (pre ++ [(lo', hh)])) := by
            refine (OO.out.below ⟨rfl, rfl, rfl, Nat.le_refl _, fun _ _ => rfl⟩ : OwnR (wr.drewN nq) _ _ _ _).onlyA ho5 fun a ha => ?_
            have := (OO.out.blk a ha).1
            have := HGL.out.1
            omega
          have c5 : w5.cell? ⟨g, 2, none⟩ = some (.int .i64 (q5 : Int)) := K9.out.code
          have f5 := K9.out.codeF
          clear hr5 ho5 K8 c2 c3 cj OO KK
          by_cases hq5 : q5 = 0
          · subst hq5
            rw [if_neg (by simp)] at HL
            by_cases hbad : lo' < 2 ∨ lo' - 2 < gp
            · rw [if_pos hbad] at HL
              have KA : Hid (RdF w (w5.setCell ⟨g, 2, none⟩ (.int .i64 5)) B C g gf b (p5, 5) _) := K9.out.setE HX.out.1 HX.out.2.2.2 5
              by_cases hlo2 : lo' < 2
              · clear hbad
                go_wp2_with fail
                refine bodyPost_ret_by (results_none rfl _ _ _) rfl ?_
                rw [← HV.out, ← HL.out]
                exact ⟨rfl, KA.out.r, KA.out.b, fun h0 => absurd h0 (by simp)⟩
              · obtain ⟨d2, hd2⟩ : ∃ d, lo' - 2 = d := ⟨_, rfl⟩
                have wd2 : IntKind.u64.wrap ((lo' : Int) - 2) = (d2 : Int) := by rw [wrap_u64N]; omega
                have hdg : d2 < gp := by omega
                clear hbad hd2
                go_wp2_with fail
                refine bodyPost_ret_by (results_none rfl _ _ _) rfl ?_
                rw [← HV.out, ← HL.out]
                exact ⟨rfl, KA.out.r, KA.out.b, fun h0 => absurd h0 (by simp)⟩
            · rw [if_neg hbad] at HL
              have hlo2 : ¬ lo' < 2 := by omega
              obtain ⟨d2, hd2⟩ : ∃ d, lo' - 2 = d := ⟨_, rfl⟩
              rw [hd2] at HL
              have wd2 : IntKind.u64.wrap ((lo' : Int) - 2) = (d2 : Int) := by rw [wrap_u64N]; omega
              have hdg : ¬ d2 < gp := by omega
              obtain ⟨tp, htp⟩ : ∃ d, d2 - gp = d := ⟨_, rfl⟩
              rw [htp] at HL
              have wtp : IntKind.u64.wrap ((d2 : Int) - (gp : Int)) = (tp : Int) := by rw [wrap_u64N]; omega
              have htp2 : tp < 4611686018427387904 := by omega
              obtain ⟨⟨l6, p6, q6⟩, h6⟩ : ∃ v, numS b (p5, 0) tp = v := ⟨_, rfl⟩
              have hl6 := numS_le b (p5, 0) tp
              rw [h6] at hl6 HL
              simp only at hl6 HL
              have H6 := Lib.hid h6
              clear h6 hbad htp hd2
              go_wp2_with fail
              (with_reducible refine (HN.out (p5, 0) _ tp rfl (by omega) w5 K9.out.r).mono ?_)
              rw [H6.out]
              rintro e6 w6 ⟨rfl, hr6, ho6⟩
              have KA := Lib.hid (K9.out.num HX.out.1 HX.out.2.2.2 hr6 ho6)
              have OA : Hid (OwnR w6 w.heap.size (.slice (some ⟨bk, off, none⟩) (j + 1) c) (j + 1) (pre ++ [(lo', hh)])) := by
                refine O9.out.onlyA ho6 fun a ha => ?_
                have := (O9.out.blk a ha).1
                have := HGL.out.1
                omega
              have c6 : w6.cell? ⟨g, 2, none⟩ = some (.int .i64 (q6 : Int)) := KA.out.code
              clear hr6 ho6 c5 f5
              by_cases hq6 : q6 = 0
              · subst hq6
                rw [if_neg (by simp)] at HL
                obtain ⟨l7, hl7⟩ : ∃ d, tp - l6 = d := ⟨_, rfl⟩
                rw [hl7] at HL
                have wl7 : IntKind.u64.wrap ((tp : Int) - (l6 : Int)) = (l7 : Int) := by rw [wrap_u64N]; omega
                have hl7b : l7 < 4611686018427387904 := by omega
                have c36 : w6.cell? ⟨gf, 3, none⟩ = some (.slice (some ⟨bk, off, none⟩) (j + 1) c) := KA.out.f.cell 3 _ rfl
                have HSZ : Hid (w.heap.size ≤ w6.heap.size) := KA.out.b.size
                clear hl7 hl6
                go_wp2_with (at_builtin; refine wpList_append_ranges rfl _ _ rfl w.heap.size (.slice (some ⟨bk, off, none⟩) (j + 1) c) (j + 1) (pre ++ [(lo', hh)]) rfl (OA.out.alloc _) w6.heap.size 0 1 1 [(l7, tp)] rfl (slR_lit w6 l7 tp) (by omega) (by omega) (Nat.le_trans HSZ.out (by simp)) _ (Below.refl _ _) ?_; intro A7 c7 w7 O7 G7 B7; have KF : Hid (RdF w w7 B C g gf b (p6, 0) (ackV dl (some ⟨bk, off, none⟩) (j + 1) c)) := ⟨(KA.out.r.below ((Below.refl _ _).alloc (Nat.le_refl _) _)).belowB B7.out HGL.out.1, (KA.out.f.alloc _).belowB B7.out HGL.out.2, (KA.out.b.alloc (Nat.le_trans HCL.out HSZ.out) _).trans (B7.out.mono HCL.out)⟩; have c37 := KF.out.f.cell 3 _ rfl; have f37 := KF.out.f.frozen 3)
                go_roundw
                case rel =>
                  refine ⟨j + 1, l7, tp, (p6, 0), pre ++ [(lo', hh)], A7, j + 1 + 1, c7, by omega, by go_num, hl7b, by omega, KF.out.put HX.out.2.1 HX.out.2.2.1 HX.out.2.2.2 3 _, ?_, .inr ⟨rfl, rfl, ?_⟩⟩
                  · exact O7.out.onlyA ((Only.refl gf _).setCell _ _) fun a ha => by have := (O7.out.blk a ha).1; have := HGL.out.2; omega
                  · rw [HK.out]
                    exact HL.out
                case measure => simp [intOf]; omega
              · have t6 : ((q6 : Int) == 0) = false := by simp; omega
                rw [if_pos (by simpa using hq6)] at HL
                have HQ := Lib.hid hq6
                clear hq6
                go_wp2_with fail
                go_roundw
                case rel => exact ⟨j + 1, lo', hh, (p6, q6), pre, _, j + 1, c, by omega, by go_num, hlo', hn8, KA, OA, .inl ⟨HQ.out, HL.out⟩⟩
                case measure => simp [intOf]; omega
          · have t5 : ((q5 : Int) == 0) = false := by simp; omega
            rw [if_pos (by simpa using hq5)] at HL
            obtain ⟨tp, htp⟩ : ∃ tp : Nat, IntKind.u64.wrap (IntKind.u64.wrap ((lo' : Int) - 2) - (gp : Int)) = (tp : Int) := ⟨(IntKind.u64.wrap (IntKind.u64.wrap ((lo' : Int) - 2) - (gp : Int))).toNat, by rw [wrap_u64N]; omega⟩
            have htp2 : tp < 18446744073709551616 := by rw [wrap_u64N] at htp; omega
            obtain ⟨x2, hx2⟩ : ∃ x, IntKind.u64.wrap ((lo' : Int) - 2) = x := ⟨_, rfl⟩
            rw [hx2] at htp
            have H6 := Lib.hid (numS_bad b (p5, q5) tp (by simpa using hq5))
            have HQ := Lib.hid hq5
            clear hq5
            go_wp2_with fail
            (with_reducible refine (HN.out (p5, q5) _ tp rfl htp2 w5 K9.out.r).mono ?_)
            rw [H6.out]
            rintro e6 w6 ⟨rfl, hr6, ho6⟩
            have KA := Lib.hid (K9.out.num HX.out.1 HX.out.2.2.2 hr6 ho6)
            have OA : Hid (OwnR w6 w.heap.size (.slice (some ⟨bk, off, none⟩) (j + 1) c) (j + 1) (pre ++ [(lo', hh)])) := by
              refine O9.out.onlyA ho6 fun a ha => ?_
              have := (O9.out.blk a ha).1
              have := HGL.out.1
              omega
            have c6 : w6.cell? ⟨g, 2, none⟩ = some (.int .i64 (q5 : Int)) := KA.out.code
            clear hr6 ho6 c5 f5
            go_wp2_with fail
            go_roundw
            case rel => exact ⟨j + 1, lo', hh, (p5, q5), pre, _, j + 1, c, by omega, by go_num, hlo', hn8, KA, OA, .inl ⟨HQ.out, HL.out⟩⟩
            case measure => simp [intOf]; omega
        · have t1 : ((q : Int) == 0) = false := by simp; omega
          have HR2 : Hid ((pre ++ [(lo', hh)], (p, q)) = R) := by
            rcases HC.out with ⟨_, h⟩ | ⟨h, _⟩
            · exact h
            · exact absurd h hq
          have HQ := Lib.hid hq
          clear hq
          go_wp2_with fail
          refine bodyPost_end (results_none rfl _ _ _) rfl ?_
          rw [← HV.out, ← HR2.out]
          exact ⟨rfl, KK.out.r, KK.out.b, fun h0 => absurd h0 HQ.out⟩
      · have HR2 : Hid ((pre ++ [(lo', hh)], (p, q)) = R) := by
          rcases HC.out with ⟨_, h⟩ | ⟨_, _, h⟩
          · exact h
          · rw [show many - j = 0 by omega] at h
            exact h
        have hd : decide ((j : Int) < (many : Int)) = false := by simp; omega
        go_wp2_with fail
        refine bodyPost_end (results_none rfl _ _ _) (by exact rfl) ?_
        rw [← HV.out, ← HR2.out]
        exact ⟨rfl, KK.out.r, KK.out.b, fun h0 => ⟨A, n, c, KK.out.f, OO.out⟩⟩
  · have HV := Lib.hid ((if_pos (by simpa using hq)).symm.trans HV.out)
    have t1 : ((q4 : Int) != 0) = true := by simp; omega
    have HQ := Lib.hid hq
    clear hq
    go_wp2_with fail
    refine bodyPost_ret_by (results_none rfl _ _ _) rfl ?_
    rw [← HV.out]
    exact ⟨rfl, K5.out.r, K5.out.b, fun h0 => absurd h0 HQ.out⟩
end Go.Proofs.Ytafbhjhdnchfbaa

/-
  The document's Get, whatever the bytes. (Written by program: a way a kind, one ending.)
-/
namespace Go.Proofs.Ytafbhjhdnchfbaa
open Go.RowKit Go.Lib
set_option linter.unusedVariables false

theorem bytesS_len (b : List UInt8) (s : Nat × Nat) (k : Nat) (h : (bytesS b s k).2.2 = 0) : (bytesS b s k).1.length = k := by
  unfold bytesS at h ⊢
  split
  · rename_i h1
    rw [if_pos h1] at h
    exact absurd h h1
  · rename_i h1
    rw [if_neg h1] at h
    split
    · rename_i h2
      rw [if_pos h2] at h
      simp at h
    · rw [List.length_take, List.length_drop]
      omega
theorem Rw.range {w : World} {g : Nat} {t : TypeId} {vs : List Value} (h : Rw w g t vs) : w.rangeAt g 0 vs := fun j v hj => by
  rw [Nat.zero_add]
  exact h.cell j v hj
theorem range_only {w w' : World} {g g' : Nat} {vs : List Value} (h : w.rangeAt g 0 vs) (ho : Only g' w w') (hne : g ≠ g') (hlt : g < w.heap.size) : w'.rangeAt g 0 vs := fun j v hj => by
  rw [World.cell?_of_block (ho.block g hlt hne)]
  exact h j v hj
theorem zeros_ge (b : List UInt8) (j : Nat) (h : ∀ t, t < j → b.getD t 1 = 0) (hj : j ≤ b.length) : j ≤ zerosN b := by
  induction b generalizing j with
  | nil => simp at hj; omega
  | cons y r ih =>
    cases j with
    | zero => omega
    | succ j =>
      have h0 := h 0 (by omega)
      have hy : y = 0 := by simpa using h0
      unfold zerosN
      rw [if_pos hy]
      have := ih j (fun t ht => by have := h (t + 1) (by omega); simpa using this) (by simpa using hj)
      omega
theorem zeros_at (b : List UInt8) (j : Nat) (h : ∀ t, t < j → b.getD t 1 = 0) (he : b.length ≤ j ∨ b.getD j 1 ≠ 0) (hj : j ≤ b.length) : zerosN b = j := by
  induction b generalizing j with
  | nil => simp at hj; subst hj; rfl
  | cons y r ih =>
    cases j with
    | zero =>
      have h1 : y ≠ 0 := by
        rcases he with h1 | h1
        · simp at h1
        · simpa using h1
      unfold zerosN
      rw [if_neg h1]
    | succ j =>
      have hy : y = 0 := by simpa using h 0 (by omega)
      unfold zerosN
      rw [if_pos hy, ih j (fun t ht => by have := h (t + 1) (by omega); simpa using this) (by rcases he with h1 | h1; exact .inl (by simpa using h1); exact .inr (by simpa using h1)) (by simpa using hj)]
/-- where the document's reading of one frame stands behind its kind's part -/
structure RdE (wz w : World) (g0 : Nat) (b : List UInt8) (F : Fr) (s : Nat × Nat) : Prop where
  t : tellY b.length (getX b) = endS F s
  r : RdW w g0 (g0 + 1 + 1) b s
  b : Below (g0 + 1) wz w
  f : s.2 = 0 → ∃ pl, Rw w (g0 + 1) 26 (frV F pl) ∧ FrO w (g0 + 1 + 1 + 1) F pl
theorem RdE.of {wz w : World} {g0 : Nat} {b : List UInt8} {F : Fr} {pl : Fp} {s : Nat × Nat} (k : RdF wz w g0 (g0 + 1) (g0 + 1 + 1) (g0 + 1) b s (frV F pl)) (o : FrO w (g0 + 1 + 1 + 1) F pl) (t : s.1 ≤ b.length → tellY b.length (getX b) = endS F s) : RdE wz w g0 b F s :=
  ⟨t k.r.le, k.r, k.b, fun _ => ⟨pl, k.f, o⟩⟩
theorem slice1_at {w : World} {B m c : Nat} {A : Option Addr} {d : List UInt8} (h : Own w B (.slice A m c) m d) (h1 : d.length = 1) : ∃ gA y, A = some ⟨gA, 0, none⟩ ∧ m = 1 ∧ d = [y] ∧ w.cell? ⟨gA, 0, none⟩ = some (.int .u8 (y.toNat : Int)) := by
  have hm : m = 1 := by have := h.len; omega
  subst hm
  obtain ⟨gA, rfl, _, _⟩ := h.at_ (by omega)
  match d, h1 with
  | [y], _ => exact ⟨gA, y, rfl, rfl, rfl, h.cell 0 (by simp)⟩

set_option maxHeartbeats 16000000 in
set_option maxRecDepth 8000 in
theorem rget_cons (b r : List UInt8) (x : UInt8) (A : Option Addr) (n c B : Nat) (w : World) (hb : b = x :: r) (hs : Sl w B A n b) (hB : B ≤ w.heap.size) (hnc : n ≤ c) (hcm : c ≤ maxLen) :
    Calls Try.prog 23 #[.slice A n c] w (GetsF w (tellY b.length (getX b))) := by
  have hl := hs.1
  have hn0 : 0 < n := by rw [← hl, hb]; simp
  have HS := Lib.hid (hs.more hB)
  have HCM : Hid (n ≤ c ∧ c ≤ maxLen) := ⟨hnc, hcm⟩
  obtain ⟨ab, off, rfl, hab, hcell⟩ := hs.2 hn0
  have hc0 := hcell 0 (by omega)
  have hx0 : b[0]'(by omega) = x := by subst hb; rfl
  rw [hx0, Nat.add_zero] at hc0
  obtain ⟨X, hX⟩ : ∃ X, x.toNat = X := ⟨_, rfl⟩
  have hX256 : X < 256 := by rw [← hX]; exact x.toNat_lt
  replace hc0 : w.cell? ⟨ab, off, none⟩ = some (.int .u8 (X : Int)) := by rw [hc0, ← hX]; rfl
  have hAll : ∀ u, Below w.heap.size w u → u.cell? ⟨ab, off, none⟩ = some (.int .u8 (X : Int)) := fun u hu => (hu.cell (p := ⟨ab, off, none⟩) (by simp only; omega)).trans hc0
  have hcA : ∀ o, (w.alloc o).cell? ⟨ab, off, none⟩ = some (.int .u8 (X : Int)) := fun o => hAll _ ((Below.refl _ _).alloc (Nat.le_refl _) o)
  have hcB : ∀ o o', ((w.alloc o).alloc o').cell? ⟨ab, off, none⟩ = some (.int .u8 (X : Int)) := fun o o' => hAll _ (((Below.refl _ _).alloc (Nat.le_refl _) o).alloc (by simp) o')
  have hcC : ∀ o o' o'', (((w.alloc o).alloc o').alloc o'').cell? ⟨ab, off, none⟩ = some (.int .u8 (X : Int)) := fun o o' o'' => hAll _ ((((Below.refl _ _).alloc (Nat.le_refl _) o).alloc (by simp) o').alloc (by simp; omega) o'')
  have hnn : ((n : Int) == 0) = false := by simp; omega
  have hn0' : (0 : Int) < (n : Int) := by omega
  have HX := Lib.hid hX
  have HALL := Lib.hid hAll
  have HXX : Hid (w.heap.size + 1 ≤ w.heap.size + 1 + 1 ∧ w.heap.size + 1 + 1 ≠ w.heap.size + 1) := ⟨by omega, by omega⟩
  have HN := Lib.hid (fun s K most hK hm u hu => rnum_any b s K most hK hm w.heap.size (w.heap.size + 1 + 1) u hu)
  have HBY := Lib.hid (fun s K most hK hm u hu => rbytes_any b s K most hK hm w.heap.size (w.heap.size + 1 + 1) u hu)
  have hfr : frV (Fr.of (X : Int)) Fp.nil = [.int .i64 (X : Int), .int .u64 0, .int .u64 0, .slice none 0 0, .int .u64 0, .int .u64 0, .bool false, .slice none 0 0, .slice none 0 0, .slice none 0 0] := rfl
  have HBE := Lib.hid hb
  have HAB : Hid (ab < w.heap.size) := Nat.lt_of_lt_of_le hab hB
  clear hcell hx0 hX hAll hb
  go_enter Try.func23, Try.ntmps23
  go_upto_block 0 with fail
  obtain ⟨wz, hwz⟩ : ∃ wz, ((w.alloc (.cells #[.int .i64 0, .int .u64 0, .int .u64 0, .slice none 0 0, .int .u64 0, .int .u64 0, .bool false, .slice none 0 0, .slice none 0 0, .slice none 0 0] 26)).alloc (.cells #[.int .i64 (X : Int), .int .u64 0, .int .u64 0, .slice none 0 0, .int .u64 0, .int .u64 0, .bool false, .slice none 0 0, .slice none 0 0, .slice none 0 0] 26)).alloc (.cells #[.slice (some ⟨ab, off, none⟩) n c, .int .i64 1, .int .i64 0] 74) = wz := ⟨_, rfl⟩
  rw [hwz]
  have HBZ : Hid (Below w.heap.size w wz) := by rw [← hwz]; exact ((((Below.refl _ _).alloc (Nat.le_refl _) _).alloc (by simp) _).alloc (by simp; omega) _)
  have HWZ : Hid (w.heap.size + 1 + 1 + 1 ≤ wz.heap.size) := by rw [← hwz]; simp [Hid]
  have HZR : Hid (Rw wz w.heap.size 26 fr0) := by rw [← hwz]; exact heap_allocs w [_, _, _] 0 _ rfl
  have K0 : Hid (RdF wz wz w.heap.size (w.heap.size + 1) (w.heap.size + 1 + 1) (w.heap.size + 1) b (1, 0) (frV (Fr.of (X : Int)) Fp.nil)) :=
    ⟨⟨_, _, n, c, by rw [← hwz]; exact heap_allocs w [_, _, _] 2 _ rfl, HS.out.below HBZ.out, HCM.out.1, HCM.out.2, by omega, by simp only; omega⟩, by rw [← hwz]; exact heap_allocs w [_, _, _] 1 _ rfl, Below.refl _ _⟩
  have HCZ : Hid (wz.cell? ⟨ab, off, none⟩ = some (.int .u8 (X : Int))) := HALL.out wz HBZ.out
  clear hwz hc0 hcA hcB hcC
  go_cut [7, 8, 9] from 26 to 147 (fun _ _ _ wx => ∃ (F : Fr) (s : Nat × Nat), RdE wz wx w.heap.size b F s)
  case first =>
    have hway : X = 0 ∨ X = 1 ∨ X = 30 ∨ X = 2 ∨ X = 6 ∨ X = 14 ∨ X = 15 ∨ X = 16 ∨ X = 25 ∨ X = 28 ∨ X = 24 ∨ X = 26 ∨ X = 27 ∨ (X ≠ 0 ∧ ¬ (X = 1 ∨ X = 30) ∧ X ≠ 2 ∧ X ≠ 6 ∧ ¬ (X = 14 ∨ X = 15) ∧ ¬ (X = 16 ∨ X = 25) ∧ X ≠ 28 ∧ X ≠ 24 ∧ ¬ (X = 26 ∨ X = 27)) := by omega
    clear hnn hn0' hX256 hfr
    rcases hway with hx | hx | hx | hx | hx | hx | hx | hx | hx | hx | hx | hx | hx | ⟨hx0, hx⟩
    · -- zeros
      have q_0 : ((X : Int) == 0) = true := by simp; omega
      have q_1 : ((X : Int) == 1) = false := by simp; omega
      have q_30 : ((X : Int) == 30) = false := by simp; omega
      have q_2 : ((X : Int) == 2) = false := by simp; omega
      have q_14 : ((X : Int) == 14) = false := by simp; omega
      have q_15 : ((X : Int) == 15) = false := by simp; omega
      have q_6 : ((X : Int) == 6) = false := by simp; omega
      have q_16 : ((X : Int) == 16) = false := by simp; omega
      have q_25 : ((X : Int) == 25) = false := by simp; omega
      have q_28 : ((X : Int) == 28) = false := by simp; omega
      have q_24 : ((X : Int) == 24) = false := by simp; omega
      have q_26 : ((X : Int) == 26) = false := by simp; omega
      have q_27 : ((X : Int) == 27) = false := by simp; omega
      have G := Lib.hid (g_zero HBE.out (by rw [HX.out]; exact hx))
      have HLN := Lib.hid hl
      have hn63 : n ≤ 9223372036854775807 := by have := HCM.out.2; have := HCM.out.1; unfold maxLen at *; omega
      clear hx
      obtain ⟨k, hk⟩ : ∃ k, min (zerosN b) 16384 = k := ⟨_, rfl⟩
      rw [hk] at G
      have HK := Lib.hid hk
      clear hk hl
      go_wp2_with fail
      go_loopw [7] (fun v wr => ∃ j : Nat, v = .int .i64 j ∧ wr = wz ∧ j ≤ n ∧ j ≤ 16384 ∧ Hid (∀ t, t < j → b.getD t 1 = 0)) (fun v _ => n - (intOf v).toNat)
      case atStart => exact ⟨0, rfl, rfl, Nat.zero_le _, Nat.zero_le _, fun t ht => absurd ht (Nat.not_lt_zero _)⟩
      case round =>
        obtain ⟨j, rfl, rfl, hjn, hj4, HZ0⟩ := hrel
        have hway : (j < n ∧ j < 16384 ∧ b.getD j 1 = 0) ∨ ((j = n ∨ j = 16384 ∨ (j < n ∧ j < 16384 ∧ b.getD j 1 ≠ 0)) ∧ j = k) := by
          by_cases h1 : j < n
          · by_cases h2 : j < 16384
            · by_cases h3 : b.getD j 1 = 0
              · exact .inl ⟨h1, h2, h3⟩
              · exact .inr ⟨.inr (.inr ⟨h1, h2, h3⟩), by rw [← HK.out, zeros_at b j HZ0.out (.inr h3) (by rw [HLN.out]; omega)]; omega⟩
            · exact .inr ⟨.inr (.inl (by omega)), by rw [← HK.out]; have := zeros_ge b j HZ0.out (by rw [HLN.out]; omega); omega⟩
          · exact .inr ⟨.inl (by omega), by rw [← HK.out, zeros_at b j HZ0.out (.inl (by rw [HLN.out]; omega)) (by rw [HLN.out]; omega)]; omega⟩
        have HCB : Hid (∀ t, t < n → ∃ y : UInt8, b.getD t 1 = y ∧ wr.cell? ⟨ab, off + t, none⟩ = some (.int .u8 (y.toNat : Int))) := fun t ht => by
          obtain ⟨b1, o1, e, _, hcl⟩ := HS.out.2 (by omega)
          injection e with e
          injection e with e1 e2
          subst e1 e2
          have h1 := hcl t (by rw [HLN.out]; exact ht)
          refine ⟨_, rfl, ?_⟩
          rw [List.getD_eq_getElem?_getD, List.getElem?_eq_getElem (by rw [HLN.out]; exact ht)]
          exact (HBZ.out.cell (p := ⟨ab, off + t, none⟩) (by have := HAB.out; exact this)).trans h1
        rcases hway with ⟨h1, h2, h3⟩ | ⟨hway, hjk⟩
        · obtain ⟨y, e, hcy⟩ := HCB.out j h1
          rw [h3] at e
          subst e
          have cy : wr.cell? ⟨ab, off + j, none⟩ = some (.int .u8 0) := hcy
          have z1 : (j : Int) < (n : Int) := by omega
          have z2 : (j : Int) < 16384 := by omega
          have H3 := Lib.hid h3
          clear hcy h3
          go_wp2_with fail
          go_roundw
          case rel => exact ⟨j + 1, by go_num, by first | rfl | trivial, by omega, by omega, fun t ht => by
            by_cases e : t = j
            · subst e; exact H3.out
            · exact HZ0.out t (by omega)⟩
          case measure => simp [intOf]; omega
        · have HJK := Lib.hid hjk
          clear hjk
          rcases hway with h1 | h1 | ⟨h1, h2, h3⟩
          · have HE := Lib.hid h1
            have z1 : ¬ (j : Int) < (n : Int) := by omega
            clear h1
            have HSZ1 : Hid ((Try.prog.info? 26).map (·.size) = some (frV { Fr.of 0 with n := j } Fp.nil).length) := fr_size
            have wj : IntKind.u64.wrap (j : Int) = (j : Int) := by rw [wrap_u64N]; omega
            go_wp2_with ((with_reducible refine wpList_store_rw rfl 26 (.tmp 2) (.tmp 48) rfl w.heap.size (frV { Fr.of 0 with n := j } Fp.nil) ?hx ?hy 26 fr0 HZR.out HSZ1.out rfl (frV_one _ _) ?_); (case hx => with_unfolding_all rfl); (case hy => with_unfolding_all rfl); intro w98 R98 O98)
            refine ret_rw2 rfl w.heap.size 26 (frV { Fr.of 0 with n := j } Fp.nil) _ rfl R98.out Try.underlying26 rfl fr_size rfl ?_
            rw [G.out, ← HJK.out]
            exact ⟨Fp.nil, rfl, ⟨OwnR.nil _ _, Own.nil _ _, Own.nil _ _, Own.nil _ _⟩, HBZ.out.trans (O98.out.below HBZ.out.size (Nat.le_refl _))⟩
          · have HE := Lib.hid h1
            have z2 : ¬ (j : Int) < 16384 := by omega
            by_cases z1 : (j : Int) < (n : Int)
            · clear h1
              have HSZ1 : Hid ((Try.prog.info? 26).map (·.size) = some (frV { Fr.of 0 with n := j } Fp.nil).length) := fr_size
              have wj : IntKind.u64.wrap (j : Int) = (j : Int) := by rw [wrap_u64N]; omega
              go_wp2_with ((with_reducible refine wpList_store_rw rfl 26 (.tmp 2) (.tmp 48) rfl w.heap.size (frV { Fr.of 0 with n := j } Fp.nil) ?hx ?hy 26 fr0 HZR.out HSZ1.out rfl (frV_one _ _) ?_); (case hx => with_unfolding_all rfl); (case hy => with_unfolding_all rfl); intro w98 R98 O98)
              refine ret_rw2 rfl w.heap.size 26 (frV { Fr.of 0 with n := j } Fp.nil) _ rfl R98.out Try.underlying26 rfl fr_size rfl ?_
              rw [G.out, ← HJK.out]
              exact ⟨Fp.nil, rfl, ⟨OwnR.nil _ _, Own.nil _ _, Own.nil _ _, Own.nil _ _⟩, HBZ.out.trans (O98.out.below HBZ.out.size (Nat.le_refl _))⟩
            · clear h1
              have HSZ1 : Hid ((Try.prog.info? 26).map (·.size) = some (frV { Fr.of 0 with n := j } Fp.nil).length) := fr_size
              have wj : IntKind.u64.wrap (j : Int) = (j : Int) := by rw [wrap_u64N]; omega
              go_wp2_with ((with_reducible refine wpList_store_rw rfl 26 (.tmp 2) (.tmp 48) rfl w.heap.size (frV { Fr.of 0 with n := j } Fp.nil) ?hx ?hy 26 fr0 HZR.out HSZ1.out rfl (frV_one _ _) ?_); (case hx => with_unfolding_all rfl); (case hy => with_unfolding_all rfl); intro w98 R98 O98)
              refine ret_rw2 rfl w.heap.size 26 (frV { Fr.of 0 with n := j } Fp.nil) _ rfl R98.out Try.underlying26 rfl fr_size rfl ?_
              rw [G.out, ← HJK.out]
              exact ⟨Fp.nil, rfl, ⟨OwnR.nil _ _, Own.nil _ _, Own.nil _ _, Own.nil _ _⟩, HBZ.out.trans (O98.out.below HBZ.out.size (Nat.le_refl _))⟩
          · obtain ⟨y, e, hcy⟩ := HCB.out j h1
            rw [e] at h3
            have z1 : (j : Int) < (n : Int) := by omega
            have z2 : (j : Int) < 16384 := by omega
            have z3 : ((y.toNat : Int) == 0) = false := by
              simp
              intro hh
              exact h3 (UInt8.toNat_inj.1 (show y.toNat = 0 by omega))
            clear h3 e
            have HSZ1 : Hid ((Try.prog.info? 26).map (·.size) = some (frV { Fr.of 0 with n := j } Fp.nil).length) := fr_size
            have wj : IntKind.u64.wrap (j : Int) = (j : Int) := by rw [wrap_u64N]; omega
            go_wp2_with ((with_reducible refine wpList_store_rw rfl 26 (.tmp 2) (.tmp 48) rfl w.heap.size (frV { Fr.of 0 with n := j } Fp.nil) ?hx ?hy 26 fr0 HZR.out HSZ1.out rfl (frV_one _ _) ?_); (case hx => with_unfolding_all rfl); (case hy => with_unfolding_all rfl); intro w98 R98 O98)
            refine ret_rw2 rfl w.heap.size 26 (frV { Fr.of 0 with n := j } Fp.nil) _ rfl R98.out Try.underlying26 rfl fr_size rfl ?_
            rw [G.out, ← HJK.out]
            exact ⟨Fp.nil, rfl, ⟨OwnR.nil _ _, Own.nil _ _, Own.nil _ _, Own.nil _ _⟩, HBZ.out.trans (O98.out.below HBZ.out.size (Nat.le_refl _))⟩
    · -- kind 1
      have q_0 : ((X : Int) == 0) = false := by simp; omega
      have q_1 : ((X : Int) == 1) = true := by simp; omega
      have q_30 : ((X : Int) == 30) = false := by simp; omega
      have q_2 : ((X : Int) == 2) = false := by simp; omega
      have q_14 : ((X : Int) == 14) = false := by simp; omega
      have q_15 : ((X : Int) == 15) = false := by simp; omega
      have q_6 : ((X : Int) == 6) = false := by simp; omega
      have q_16 : ((X : Int) == 16) = false := by simp; omega
      have q_25 : ((X : Int) == 25) = false := by simp; omega
      have q_28 : ((X : Int) == 28) = false := by simp; omega
      have q_24 : ((X : Int) == 24) = false := by simp; omega
      have q_26 : ((X : Int) == 26) = false := by simp; omega
      have q_27 : ((X : Int) == 27) = false := by simp; omega
      have G := Lib.hid (fun (_ : 1 ≤ b.length) => g_bare HBE.out (by rw [HX.out]; omega))
      rw [HX.out] at G
      clear hx
      go_wp2_with fail
      go_meet
      exact ⟨Fr.of (X : Int), (1, 0), RdE.of (pl := Fp.nil) K0.out (FrO.nil _ _ _) G.out⟩
    · -- kind 30
      have q_0 : ((X : Int) == 0) = false := by simp; omega
      have q_1 : ((X : Int) == 1) = false := by simp; omega
      have q_30 : ((X : Int) == 30) = true := by simp; omega
      have q_2 : ((X : Int) == 2) = false := by simp; omega
      have q_14 : ((X : Int) == 14) = false := by simp; omega
      have q_15 : ((X : Int) == 15) = false := by simp; omega
      have q_6 : ((X : Int) == 6) = false := by simp; omega
      have q_16 : ((X : Int) == 16) = false := by simp; omega
      have q_25 : ((X : Int) == 25) = false := by simp; omega
      have q_28 : ((X : Int) == 28) = false := by simp; omega
      have q_24 : ((X : Int) == 24) = false := by simp; omega
      have q_26 : ((X : Int) == 26) = false := by simp; omega
      have q_27 : ((X : Int) == 27) = false := by simp; omega
      have G := Lib.hid (fun (_ : 1 ≤ b.length) => g_bare HBE.out (by rw [HX.out]; omega))
      rw [HX.out] at G
      clear hx
      go_wp2_with fail
      go_meet
      exact ⟨Fr.of (X : Int), (1, 0), RdE.of (pl := Fp.nil) K0.out (FrO.nil _ _ _) G.out⟩
    · -- kind 2
      have q_0 : ((X : Int) == 0) = false := by simp; omega
      have q_1 : ((X : Int) == 1) = false := by simp; omega
      have q_30 : ((X : Int) == 30) = false := by simp; omega
      have q_2 : ((X : Int) == 2) = true := by simp; omega
      have q_14 : ((X : Int) == 14) = false := by simp; omega
      have q_15 : ((X : Int) == 15) = false := by simp; omega
      have q_6 : ((X : Int) == 6) = false := by simp; omega
      have q_16 : ((X : Int) == 16) = false := by simp; omega
      have q_25 : ((X : Int) == 25) = false := by simp; omega
      have q_28 : ((X : Int) == 28) = false := by simp; omega
      have q_24 : ((X : Int) == 24) = false := by simp; omega
      have q_26 : ((X : Int) == 26) = false := by simp; omega
      have q_27 : ((X : Int) == 27) = false := by simp; omega
      obtain ⟨⟨⟨d1, rs1⟩, s1⟩, h1⟩ : ∃ y, ackS b (1, 0) = y := ⟨_, rfl⟩
      have G := Lib.hid (g_ack HBE.out (by rw [HX.out]; omega) d1 rs1 s1 h1)
      rw [HX.out] at G
      have HK := Lib.hid (rack_any b (1, 0) w.heap.size (w.heap.size + 1) (w.heap.size + 1 + 1) (w.heap.size + 1) wz HXX.out.1 (Nat.le_refl _) (Nat.le_succ _) HXX.out.2 K0.out.r (show Rw _ _ _ (ackV 0 none 0 0) by have := K0.out.f; rw [hx] at this; exact this))
      rw [h1] at HK
      clear h1 hx
      go_wp2_with fail
      (with_reducible refine HK.out.mono ?_)
      rintro e1 w1 ⟨rfl, hr1, hb1, hf1⟩
      have R1 := Lib.hid hr1
      have B1 := Lib.hid hb1
      have F1 := Lib.hid hf1
      clear hr1 hb1 hf1
      go_wp2_with fail
      go_meet
      refine ⟨{ Fr.of (X : Int) with delay := d1, rs := rs1 }, s1, G.out R1.out.le, R1.out, B1.out, fun h0 => ?_⟩
      obtain ⟨A, m, c, h1, h2⟩ := F1.out h0
      refine ⟨{ Fp.nil with ra := A, rn := m, rc := c }, ?_, ⟨h2.base HWZ.out, Own.nil _ _, Own.nil _ _, Own.nil _ _⟩⟩
      have hX2 : (X : Int) = 2 := by simpa using q_2
      unfold frV Fr.of
      simp only [hX2]
      exact h1
    · -- kind 6
      have q_0 : ((X : Int) == 0) = false := by simp; omega
      have q_1 : ((X : Int) == 1) = false := by simp; omega
      have q_30 : ((X : Int) == 30) = false := by simp; omega
      have q_2 : ((X : Int) == 2) = false := by simp; omega
      have q_14 : ((X : Int) == 14) = false := by simp; omega
      have q_15 : ((X : Int) == 15) = false := by simp; omega
      have q_6 : ((X : Int) == 6) = true := by simp; omega
      have q_16 : ((X : Int) == 16) = false := by simp; omega
      have q_25 : ((X : Int) == 25) = false := by simp; omega
      have q_28 : ((X : Int) == 28) = false := by simp; omega
      have q_24 : ((X : Int) == 24) = false := by simp; omega
      have q_26 : ((X : Int) == 26) = false := by simp; omega
      have q_27 : ((X : Int) == 27) = false := by simp; omega
      obtain ⟨s1, hs1⟩ : ∃ s, ((1, 0) : Nat × Nat) = s := ⟨_, rfl⟩
      obtain ⟨⟨v2, s2⟩, h2⟩ : ∃ y, numS b s1 maxV = y := ⟨_, rfl⟩
      obtain ⟨⟨v3, s3⟩, h3⟩ : ∃ y, numS b s2 16383 = y := ⟨_, rfl⟩
      have H2 := Lib.hid h2
      have H3 := Lib.hid h3
      obtain ⟨s4, h4⟩ : ∃ y, (if s3.2 = 0 ∧ maxV < v2 + v3 then (s3.1, 5) else s3) = y := ⟨_, rfl⟩
      obtain ⟨⟨d4, s5⟩, h5⟩ : ∃ y, bytesS b s4 v3 = y := ⟨_, rfl⟩
      have H4 := Lib.hid h4
      have H5 := Lib.hid h5
      have hD : dataS b s1 = ((v2, d4), s5) := by
        unfold dataS
        simp only [h2, h3, h4, h5]
      have hv3 : v3 ≤ 16383 := by have := numS_le b s2 16383; rwa [h3] at this
      have hv2 : v2 ≤ maxV := by have := numS_le b s1 maxV; rwa [h2] at this
      have G := Lib.hid (g_crypto HBE.out (by rw [HX.out]; omega) v2 d4 s5 (by rw [hs1]; exact hD))
      rw [HX.out] at G
      rw [hs1] at K0
      clear hx h2 h3 h4 h5 hD hs1
      have x_6 : ((X : Int) != 6) = false := by rw [bne, q_6]; rfl
      have cx0 : wz.cell? ⟨w.heap.size + 1, 0, none⟩ = some (.int .i64 (X : Int)) := K0.out.f.cell 0 _ rfl
      go_wp2_with fail
      (with_reducible refine (HN.out s1 4611686018427387903 maxV rfl (by unfold maxV; omega) _ K0.out.r).mono ?_)
      rw [H2.out]
      rintro e1 w1 ⟨rfl, hr1, ho1⟩
      have K1 := Lib.hid (K0.out.num HXX.out.1 HXX.out.2 hr1 ho1)
      clear hr1
      have ff1 := K1.out.f.frozen 5
      have cc1 := K1.out.f.cell 5 _ rfl
      have K2 := Lib.hid (K1.out.put (Nat.le_refl _) (Nat.le_succ _) HXX.out.2 5 (.int .u64 (v2 : Int)))
      go_wp2_with fail
      (with_reducible refine (HN.out s2 16383 16383 rfl (by omega) _ K2.out.r).mono ?_)
      rw [H3.out]
      rintro e3 w3 ⟨rfl, hr3, ho3⟩
      have K3 := Lib.hid (K2.out.num HXX.out.1 HXX.out.2 hr3 ho3)
      clear hr3
      have e4c := K3.out.code
      have e4f := K3.out.codeF
      have cof : w3.cell? ⟨w.heap.size + 1, 5, none⟩ = some (.int .u64 (v2 : Int)) := K3.out.f.cell 5 _ rfl
      obtain ⟨p3, q3⟩ := s3
      simp only at e4c
      obtain ⟨mk, hmk⟩ : ∃ mk, maxV - v3 = mk := ⟨_, rfl⟩
      have wmk : IntKind.u64.wrap (4611686018427387903 - (v3 : Int)) = (mk : Int) := by unfold maxV at hmk; simp [IntKind.wrap, IntKind.bits, IntKind.signed]; omega
      have wmk2 : (4611686018427387903 : Int) - (v3 : Int) = (mk : Int) := by unfold maxV at hmk; omega
      have wv3 : IntKind.i64.wrap (v3 : Int) = (v3 : Int) := IntWalk.i64_in _ (by omega)
      have hway : (q3 ≠ 0 ∧ ((q3 : Int) == 0) = false ∧ (p3, q3) = s4) ∨ (q3 = 0 ∧ (decide ((mk : Int) < (v2 : Int)) = false ∧ decide (mk < v2) = false ∧ (p3, q3) = s4 ∨ decide ((mk : Int) < (v2 : Int)) = true ∧ decide (mk < v2) = true ∧ (p3, 5) = s4)) := by
        have h4 := H4.out
        by_cases hq : q3 = 0
        · refine .inr ⟨hq, ?_⟩
          by_cases hm : mk < v2
          · rw [if_pos ⟨hq, by unfold maxV at hmk ⊢; omega⟩] at h4
            exact .inr ⟨decide_eq_true (by omega), decide_eq_true hm, h4⟩
          · rw [if_neg (fun hh => hm (by have := hh.2; unfold maxV at hmk this; omega))] at h4
            exact .inl ⟨decide_eq_false (by omega), decide_eq_false hm, h4⟩
        · rw [if_neg (fun hh => hq hh.1)] at h4
          exact .inl ⟨hq, by simp; omega, h4⟩
      clear H4 hmk hv2
      rcases hway with ⟨hq, t3, hs4⟩ | ⟨hq, ⟨t8, t9, hs4⟩ | ⟨t8, t9, hs4⟩⟩
      · rw [hs4] at K3
        have KX := K3
        clear K3 hq hs4
        go_wp2_with fail
        clear e4c e4f t3 cof
        go_wp2_with fail
        (with_reducible refine (HBY.out s4 (v3 : Int) v3 rfl (by omega) _ KX.out.r).mono ?_)
        rw [H5.out]
        rintro e7 w7 ⟨A1, m1, c1, rfl, ob7, _, _, hr7, ho7'⟩
        have ho7 := Lib.hid ho7'
        have O7 := Lib.hid (ob7.base (B' := w.heap.size + 1 + 1 + 1) (by have := KX.out.r.lt; omega))
        have K7 := Lib.hid (KX.out.num HXX.out.1 HXX.out.2 hr7 ho7.out)
        simp only at O7
        clear hr7 ob7 ho7'
        have ff7 := K7.out.f.frozen 7
        have cc7 := K7.out.f.cell 7 _ rfl
        have K8 := Lib.hid (K7.out.put (Nat.le_refl _) (Nat.le_succ _) HXX.out.2 7 (.slice A1 m1 c1))
        go_wp2_with fail
        go_meet
        exact ⟨{ Fr.of (X : Int) with off := v2, data := d4 }, s5, RdE.of (pl := { Fp.nil with da := A1, dn := m1, dc := c1 }) K8.out ⟨OwnR.nil _ _, (O7.out.onlyA ((Only.refl (w.heap.size + 1) w7).setCell 7 (.slice A1 m1 c1)) (fun a ha => by have := (O7.out.blk a ha).1; omega)), Own.nil _ _, Own.nil _ _⟩ G.out⟩
      · subst hq
        rw [hs4] at K3
        have KX := K3
        clear K3 hs4
        go_wp2_with fail
        clear e4c e4f t8 t9 cof
        go_wp2_with fail
        (with_reducible refine (HBY.out s4 (v3 : Int) v3 rfl (by omega) _ KX.out.r).mono ?_)
        rw [H5.out]
        rintro e7 w7 ⟨A1, m1, c1, rfl, ob7, _, _, hr7, ho7'⟩
        have ho7 := Lib.hid ho7'
        have O7 := Lib.hid (ob7.base (B' := w.heap.size + 1 + 1 + 1) (by have := KX.out.r.lt; omega))
        have K7 := Lib.hid (KX.out.num HXX.out.1 HXX.out.2 hr7 ho7.out)
        simp only at O7
        clear hr7 ob7 ho7'
        have ff7 := K7.out.f.frozen 7
        have cc7 := K7.out.f.cell 7 _ rfl
        have K8 := Lib.hid (K7.out.put (Nat.le_refl _) (Nat.le_succ _) HXX.out.2 7 (.slice A1 m1 c1))
        go_wp2_with fail
        go_meet
        exact ⟨{ Fr.of (X : Int) with off := v2, data := d4 }, s5, RdE.of (pl := { Fp.nil with da := A1, dn := m1, dc := c1 }) K8.out ⟨OwnR.nil _ _, (O7.out.onlyA ((Only.refl (w.heap.size + 1) w7).setCell 7 (.slice A1 m1 c1)) (fun a ha => by have := (O7.out.blk a ha).1; omega)), Own.nil _ _, Own.nil _ _⟩ G.out⟩
      · subst hq
        have KX : Hid (RdF wz (w3.setCell ⟨w.heap.size + 1 + 1, 2, none⟩ (.int .i64 5)) w.heap.size (w.heap.size + 1) (w.heap.size + 1 + 1) (w.heap.size + 1) b (p3, 5) _) := K3.out.setE HXX.out.1 HXX.out.2 5
        rw [hs4] at KX
        clear K3 hs4
        go_wp2_with fail
        clear e4c e4f t8 t9 cof
        go_wp2_with fail
        (with_reducible refine (HBY.out s4 (v3 : Int) v3 rfl (by omega) _ KX.out.r).mono ?_)
        rw [H5.out]
        rintro e7 w7 ⟨A1, m1, c1, rfl, ob7, _, _, hr7, ho7'⟩
        have ho7 := Lib.hid ho7'
        have O7 := Lib.hid (ob7.base (B' := w.heap.size + 1 + 1 + 1) (by have := KX.out.r.lt; omega))
        have K7 := Lib.hid (KX.out.num HXX.out.1 HXX.out.2 hr7 ho7.out)
        simp only at O7
        clear hr7 ob7 ho7'
        have ff7 := K7.out.f.frozen 7
        have cc7 := K7.out.f.cell 7 _ rfl
        have K8 := Lib.hid (K7.out.put (Nat.le_refl _) (Nat.le_succ _) HXX.out.2 7 (.slice A1 m1 c1))
        go_wp2_with fail
        go_meet
        exact ⟨{ Fr.of (X : Int) with off := v2, data := d4 }, s5, RdE.of (pl := { Fp.nil with da := A1, dn := m1, dc := c1 }) K8.out ⟨OwnR.nil _ _, (O7.out.onlyA ((Only.refl (w.heap.size + 1) w7).setCell 7 (.slice A1 m1 c1)) (fun a ha => by have := (O7.out.blk a ha).1; omega)), Own.nil _ _, Own.nil _ _⟩ G.out⟩
    · -- kind 14
      have q_0 : ((X : Int) == 0) = false := by simp; omega
      have q_1 : ((X : Int) == 1) = false := by simp; omega
      have q_30 : ((X : Int) == 30) = false := by simp; omega
      have q_2 : ((X : Int) == 2) = false := by simp; omega
      have q_14 : ((X : Int) == 14) = true := by simp; omega
      have q_15 : ((X : Int) == 15) = false := by simp; omega
      have q_6 : ((X : Int) == 6) = false := by simp; omega
      have q_16 : ((X : Int) == 16) = false := by simp; omega
      have q_25 : ((X : Int) == 25) = false := by simp; omega
      have q_28 : ((X : Int) == 28) = false := by simp; omega
      have q_24 : ((X : Int) == 24) = false := by simp; omega
      have q_26 : ((X : Int) == 26) = false := by simp; omega
      have q_27 : ((X : Int) == 27) = false := by simp; omega
      obtain ⟨⟨v1, s1⟩, h1⟩ : ∃ y, numS b (1, 0) maxV = y := ⟨_, rfl⟩
      have H1 := Lib.hid h1
      obtain ⟨⟨v2, s2⟩, h2⟩ : ∃ y, numS b s1 maxV = y := ⟨_, rfl⟩
      obtain ⟨⟨v3, s3⟩, h3⟩ : ∃ y, numS b s2 16383 = y := ⟨_, rfl⟩
      have H2 := Lib.hid h2
      have H3 := Lib.hid h3
      obtain ⟨s4, h4⟩ : ∃ y, (if s3.2 = 0 ∧ maxV < v2 + v3 then (s3.1, 5) else s3) = y := ⟨_, rfl⟩
      obtain ⟨⟨d4, s5⟩, h5⟩ : ∃ y, bytesS b s4 v3 = y := ⟨_, rfl⟩
      have H4 := Lib.hid h4
      have H5 := Lib.hid h5
      have hD : dataS b s1 = ((v2, d4), s5) := by
        unfold dataS
        simp only [h2, h3, h4, h5]
      have hv3 : v3 ≤ 16383 := by have := numS_le b s2 16383; rwa [h3] at this
      have hv2 : v2 ≤ maxV := by have := numS_le b s1 maxV; rwa [h2] at this
      have G := Lib.hid (g_stream HBE.out (by rw [HX.out]; omega) v1 v2 d4 s1 s5 h1 hD)
      rw [HX.out, show decide (X = 15) = false by simp; omega] at G
      clear hx h1 h2 h3 h4 h5 hD
      obtain ⟨s0, hs0⟩ : ∃ s, ((1, 0) : Nat × Nat) = s := ⟨_, rfl⟩
      rw [hs0] at K0 H1
      clear hs0
      have x_6 : ((X : Int) != 6) = true := by rw [bne, q_6]; rfl
      have cx0 : wz.cell? ⟨w.heap.size + 1, 0, none⟩ = some (.int .i64 (X : Int)) := K0.out.f.cell 0 _ rfl
      have fx0 := K0.out.f.frozen 0
      have fx6 := K0.out.f.frozen 6
      have cx6 : wz.cell? ⟨w.heap.size + 1, 6, none⟩ = some (.bool false) := K0.out.f.cell 6 _ rfl
      have cb0 := HCZ.out
      have KA := Lib.hid (K0.out.put (Nat.le_refl _) (Nat.le_succ _) HXX.out.2 0 (.int .i64 8))
      have KB := Lib.hid (KA.out.put (Nat.le_refl _) (Nat.le_succ _) HXX.out.2 6 (.bool false))
      go_wp2_with fail
      (with_reducible refine (HN.out s0 4611686018427387903 maxV rfl (by unfold maxV; omega) _ KB.out.r).mono ?_)
      rw [H1.out]
      rintro e1 w1 ⟨rfl, hr1, ho1⟩
      have K1 := Lib.hid (KB.out.num HXX.out.1 HXX.out.2 hr1 ho1)
      clear hr1 cx0 fx0 fx6 cx6 cb0 KA KB
      have ff1 := K1.out.f.frozen 4
      have cc1 := K1.out.f.cell 4 _ rfl
      have K2 := Lib.hid (K1.out.put (Nat.le_refl _) (Nat.le_succ _) HXX.out.2 4 (.int .u64 (v1 : Int)))
      go_wp2_with fail
      (with_reducible refine (HN.out s1 4611686018427387903 maxV rfl (by unfold maxV; omega) _ K2.out.r).mono ?_)
      rw [H2.out]
      rintro e3 w3 ⟨rfl, hr3, ho3⟩
      have K3 := Lib.hid (K2.out.num HXX.out.1 HXX.out.2 hr3 ho3)
      clear hr3
      have ff3 := K3.out.f.frozen 5
      have cc3 := K3.out.f.cell 5 _ rfl
      have K4 := Lib.hid (K3.out.put (Nat.le_refl _) (Nat.le_succ _) HXX.out.2 5 (.int .u64 (v2 : Int)))
      go_wp2_with fail
      (with_reducible refine (HN.out s2 16383 16383 rfl (by omega) _ K4.out.r).mono ?_)
      rw [H3.out]
      rintro e5 w5 ⟨rfl, hr5, ho5⟩
      have K5 := Lib.hid (K4.out.num HXX.out.1 HXX.out.2 hr5 ho5)
      clear hr5
      have e4c := K5.out.code
      have e4f := K5.out.codeF
      have cof : w5.cell? ⟨w.heap.size + 1, 5, none⟩ = some (.int .u64 (v2 : Int)) := K5.out.f.cell 5 _ rfl
      obtain ⟨p3, q3⟩ := s3
      simp only at e4c
      obtain ⟨mk, hmk⟩ : ∃ mk, maxV - v3 = mk := ⟨_, rfl⟩
      have wmk : IntKind.u64.wrap (4611686018427387903 - (v3 : Int)) = (mk : Int) := by unfold maxV at hmk; simp [IntKind.wrap, IntKind.bits, IntKind.signed]; omega
      have wmk2 : (4611686018427387903 : Int) - (v3 : Int) = (mk : Int) := by unfold maxV at hmk; omega
      have wv3 : IntKind.i64.wrap (v3 : Int) = (v3 : Int) := IntWalk.i64_in _ (by omega)
      have hway : (q3 ≠ 0 ∧ ((q3 : Int) == 0) = false ∧ (p3, q3) = s4) ∨ (q3 = 0 ∧ (decide ((mk : Int) < (v2 : Int)) = false ∧ decide (mk < v2) = false ∧ (p3, q3) = s4 ∨ decide ((mk : Int) < (v2 : Int)) = true ∧ decide (mk < v2) = true ∧ (p3, 5) = s4)) := by
        have h4 := H4.out
        by_cases hq : q3 = 0
        · refine .inr ⟨hq, ?_⟩
          by_cases hm : mk < v2
          · rw [if_pos ⟨hq, by unfold maxV at hmk ⊢; omega⟩] at h4
            exact .inr ⟨decide_eq_true (by omega), decide_eq_true hm, h4⟩
          · rw [if_neg (fun hh => hm (by have := hh.2; unfold maxV at hmk this; omega))] at h4
            exact .inl ⟨decide_eq_false (by omega), decide_eq_false hm, h4⟩
        · rw [if_neg (fun hh => hq hh.1)] at h4
          exact .inl ⟨hq, by simp; omega, h4⟩
      clear H4 hmk hv2
      rcases hway with ⟨hq, t3, hs4⟩ | ⟨hq, ⟨t8, t9, hs4⟩ | ⟨t8, t9, hs4⟩⟩
      · rw [hs4] at K5
        have KX := K5
        clear K5 hq hs4
        go_wp2_with fail
        clear e4c e4f t3 cof
        go_wp2_with fail
        (with_reducible refine (HBY.out s4 (v3 : Int) v3 rfl (by omega) _ KX.out.r).mono ?_)
        rw [H5.out]
        rintro e7 w7 ⟨A1, m1, c1, rfl, ob7, _, _, hr7, ho7'⟩
        have ho7 := Lib.hid ho7'
        have O7 := Lib.hid (ob7.base (B' := w.heap.size + 1 + 1 + 1) (by have := KX.out.r.lt; omega))
        have K7 := Lib.hid (KX.out.num HXX.out.1 HXX.out.2 hr7 ho7.out)
        simp only at O7
        clear hr7 ob7 ho7'
        have ff7 := K7.out.f.frozen 7
        have cc7 := K7.out.f.cell 7 _ rfl
        have K8 := Lib.hid (K7.out.put (Nat.le_refl _) (Nat.le_succ _) HXX.out.2 7 (.slice A1 m1 c1))
        go_wp2_with fail
        go_meet
        exact ⟨{ Fr.of 8 with id := v1, fin := false, off := v2, data := d4 }, s5, RdE.of (pl := { Fp.nil with da := A1, dn := m1, dc := c1 }) K8.out ⟨OwnR.nil _ _, (O7.out.onlyA ((Only.refl (w.heap.size + 1) w7).setCell 7 (.slice A1 m1 c1)) (fun a ha => by have := (O7.out.blk a ha).1; omega)), Own.nil _ _, Own.nil _ _⟩ G.out⟩
      · subst hq
        rw [hs4] at K5
        have KX := K5
        clear K5 hs4
        go_wp2_with fail
        clear e4c e4f t8 t9 cof
        go_wp2_with fail
        (with_reducible refine (HBY.out s4 (v3 : Int) v3 rfl (by omega) _ KX.out.r).mono ?_)
        rw [H5.out]
        rintro e7 w7 ⟨A1, m1, c1, rfl, ob7, _, _, hr7, ho7'⟩
        have ho7 := Lib.hid ho7'
        have O7 := Lib.hid (ob7.base (B' := w.heap.size + 1 + 1 + 1) (by have := KX.out.r.lt; omega))
        have K7 := Lib.hid (KX.out.num HXX.out.1 HXX.out.2 hr7 ho7.out)
        simp only at O7
        clear hr7 ob7 ho7'
        have ff7 := K7.out.f.frozen 7
        have cc7 := K7.out.f.cell 7 _ rfl
        have K8 := Lib.hid (K7.out.put (Nat.le_refl _) (Nat.le_succ _) HXX.out.2 7 (.slice A1 m1 c1))
        go_wp2_with fail
        go_meet
        exact ⟨{ Fr.of 8 with id := v1, fin := false, off := v2, data := d4 }, s5, RdE.of (pl := { Fp.nil with da := A1, dn := m1, dc := c1 }) K8.out ⟨OwnR.nil _ _, (O7.out.onlyA ((Only.refl (w.heap.size + 1) w7).setCell 7 (.slice A1 m1 c1)) (fun a ha => by have := (O7.out.blk a ha).1; omega)), Own.nil _ _, Own.nil _ _⟩ G.out⟩
      · subst hq
        have KX : Hid (RdF wz (w5.setCell ⟨w.heap.size + 1 + 1, 2, none⟩ (.int .i64 5)) w.heap.size (w.heap.size + 1) (w.heap.size + 1 + 1) (w.heap.size + 1) b (p3, 5) _) := K5.out.setE HXX.out.1 HXX.out.2 5
        rw [hs4] at KX
        clear K5 hs4
        go_wp2_with fail
        clear e4c e4f t8 t9 cof
        go_wp2_with fail
        (with_reducible refine (HBY.out s4 (v3 : Int) v3 rfl (by omega) _ KX.out.r).mono ?_)
        rw [H5.out]
        rintro e7 w7 ⟨A1, m1, c1, rfl, ob7, _, _, hr7, ho7'⟩
        have ho7 := Lib.hid ho7'
        have O7 := Lib.hid (ob7.base (B' := w.heap.size + 1 + 1 + 1) (by have := KX.out.r.lt; omega))
        have K7 := Lib.hid (KX.out.num HXX.out.1 HXX.out.2 hr7 ho7.out)
        simp only at O7
        clear hr7 ob7 ho7'
        have ff7 := K7.out.f.frozen 7
        have cc7 := K7.out.f.cell 7 _ rfl
        have K8 := Lib.hid (K7.out.put (Nat.le_refl _) (Nat.le_succ _) HXX.out.2 7 (.slice A1 m1 c1))
        go_wp2_with fail
        go_meet
        exact ⟨{ Fr.of 8 with id := v1, fin := false, off := v2, data := d4 }, s5, RdE.of (pl := { Fp.nil with da := A1, dn := m1, dc := c1 }) K8.out ⟨OwnR.nil _ _, (O7.out.onlyA ((Only.refl (w.heap.size + 1) w7).setCell 7 (.slice A1 m1 c1)) (fun a ha => by have := (O7.out.blk a ha).1; omega)), Own.nil _ _, Own.nil _ _⟩ G.out⟩
    · -- kind 15
      have q_0 : ((X : Int) == 0) = false := by simp; omega
      have q_1 : ((X : Int) == 1) = false := by simp; omega
      have q_30 : ((X : Int) == 30) = false := by simp; omega
      have q_2 : ((X : Int) == 2) = false := by simp; omega
      have q_14 : ((X : Int) == 14) = false := by simp; omega
      have q_15 : ((X : Int) == 15) = true := by simp; omega
      have q_6 : ((X : Int) == 6) = false := by simp; omega
      have q_16 : ((X : Int) == 16) = false := by simp; omega
      have q_25 : ((X : Int) == 25) = false := by simp; omega
      have q_28 : ((X : Int) == 28) = false := by simp; omega
      have q_24 : ((X : Int) == 24) = false := by simp; omega
      have q_26 : ((X : Int) == 26) = false := by simp; omega
      have q_27 : ((X : Int) == 27) = false := by simp; omega
      obtain ⟨⟨v1, s1⟩, h1⟩ : ∃ y, numS b (1, 0) maxV = y := ⟨_, rfl⟩
      have H1 := Lib.hid h1
      obtain ⟨⟨v2, s2⟩, h2⟩ : ∃ y, numS b s1 maxV = y := ⟨_, rfl⟩
      obtain ⟨⟨v3, s3⟩, h3⟩ : ∃ y, numS b s2 16383 = y := ⟨_, rfl⟩
      have H2 := Lib.hid h2
      have H3 := Lib.hid h3
      obtain ⟨s4, h4⟩ : ∃ y, (if s3.2 = 0 ∧ maxV < v2 + v3 then (s3.1, 5) else s3) = y := ⟨_, rfl⟩
      obtain ⟨⟨d4, s5⟩, h5⟩ : ∃ y, bytesS b s4 v3 = y := ⟨_, rfl⟩
      have H4 := Lib.hid h4
      have H5 := Lib.hid h5
      have hD : dataS b s1 = ((v2, d4), s5) := by
        unfold dataS
        simp only [h2, h3, h4, h5]
      have hv3 : v3 ≤ 16383 := by have := numS_le b s2 16383; rwa [h3] at this
      have hv2 : v2 ≤ maxV := by have := numS_le b s1 maxV; rwa [h2] at this
      have G := Lib.hid (g_stream HBE.out (by rw [HX.out]; omega) v1 v2 d4 s1 s5 h1 hD)
      rw [HX.out, show decide (X = 15) = true by simp; omega] at G
      clear hx h1 h2 h3 h4 h5 hD
      obtain ⟨s0, hs0⟩ : ∃ s, ((1, 0) : Nat × Nat) = s := ⟨_, rfl⟩
      rw [hs0] at K0 H1
      clear hs0
      have x_6 : ((X : Int) != 6) = true := by rw [bne, q_6]; rfl
      have cx0 : wz.cell? ⟨w.heap.size + 1, 0, none⟩ = some (.int .i64 (X : Int)) := K0.out.f.cell 0 _ rfl
      have fx0 := K0.out.f.frozen 0
      have fx6 := K0.out.f.frozen 6
      have cx6 : wz.cell? ⟨w.heap.size + 1, 6, none⟩ = some (.bool false) := K0.out.f.cell 6 _ rfl
      have cb0 := HCZ.out
      have KA := Lib.hid (K0.out.put (Nat.le_refl _) (Nat.le_succ _) HXX.out.2 0 (.int .i64 8))
      have KB := Lib.hid (KA.out.put (Nat.le_refl _) (Nat.le_succ _) HXX.out.2 6 (.bool true))
      go_wp2_with fail
      (with_reducible refine (HN.out s0 4611686018427387903 maxV rfl (by unfold maxV; omega) _ KB.out.r).mono ?_)
      rw [H1.out]
      rintro e1 w1 ⟨rfl, hr1, ho1⟩
      have K1 := Lib.hid (KB.out.num HXX.out.1 HXX.out.2 hr1 ho1)
      clear hr1 cx0 fx0 fx6 cx6 cb0 KA KB
      have ff1 := K1.out.f.frozen 4
      have cc1 := K1.out.f.cell 4 _ rfl
      have K2 := Lib.hid (K1.out.put (Nat.le_refl _) (Nat.le_succ _) HXX.out.2 4 (.int .u64 (v1 : Int)))
      go_wp2_with fail
      (with_reducible refine (HN.out s1 4611686018427387903 maxV rfl (by unfold maxV; omega) _ K2.out.r).mono ?_)
      rw [H2.out]
      rintro e3 w3 ⟨rfl, hr3, ho3⟩
      have K3 := Lib.hid (K2.out.num HXX.out.1 HXX.out.2 hr3 ho3)
      clear hr3
      have ff3 := K3.out.f.frozen 5
      have cc3 := K3.out.f.cell 5 _ rfl
      have K4 := Lib.hid (K3.out.put (Nat.le_refl _) (Nat.le_succ _) HXX.out.2 5 (.int .u64 (v2 : Int)))
      go_wp2_with fail
      (with_reducible refine (HN.out s2 16383 16383 rfl (by omega) _ K4.out.r).mono ?_)
      rw [H3.out]
      rintro e5 w5 ⟨rfl, hr5, ho5⟩
      have K5 := Lib.hid (K4.out.num HXX.out.1 HXX.out.2 hr5 ho5)
      clear hr5
      have e4c := K5.out.code
      have e4f := K5.out.codeF
      have cof : w5.cell? ⟨w.heap.size + 1, 5, none⟩ = some (.int .u64 (v2 : Int)) := K5.out.f.cell 5 _ rfl
      obtain ⟨p3, q3⟩ := s3
      simp only at e4c
      obtain ⟨mk, hmk⟩ : ∃ mk, maxV - v3 = mk := ⟨_, rfl⟩
      have wmk : IntKind.u64.wrap (4611686018427387903 - (v3 : Int)) = (mk : Int) := by unfold maxV at hmk; simp [IntKind.wrap, IntKind.bits, IntKind.signed]; omega
      have wmk2 : (4611686018427387903 : Int) - (v3 : Int) = (mk : Int) := by unfold maxV at hmk; omega
      have wv3 : IntKind.i64.wrap (v3 : Int) = (v3 : Int) := IntWalk.i64_in _ (by omega)
      have hway : (q3 ≠ 0 ∧ ((q3 : Int) == 0) = false ∧ (p3, q3) = s4) ∨ (q3 = 0 ∧ (decide ((mk : Int) < (v2 : Int)) = false ∧ decide (mk < v2) = false ∧ (p3, q3) = s4 ∨ decide ((mk : Int) < (v2 : Int)) = true ∧ decide (mk < v2) = true ∧ (p3, 5) = s4)) := by
        have h4 := H4.out
        by_cases hq : q3 = 0
        · refine .inr ⟨hq, ?_⟩
          by_cases hm : mk < v2
          · rw [if_pos ⟨hq, by unfold maxV at hmk ⊢; omega⟩] at h4
            exact .inr ⟨decide_eq_true (by omega), decide_eq_true hm, h4⟩
          · rw [if_neg (fun hh => hm (by have := hh.2; unfold maxV at hmk this; omega))] at h4
            exact .inl ⟨decide_eq_false (by omega), decide_eq_false hm, h4⟩
        · rw [if_neg (fun hh => hq hh.1)] at h4
          exact .inl ⟨hq, by simp; omega, h4⟩
      clear H4 hmk hv2
      rcases hway with ⟨hq, t3, hs4⟩ | ⟨hq, ⟨t8, t9, hs4⟩ | ⟨t8, t9, hs4⟩⟩
      · rw [hs4] at K5
        have KX := K5
        clear K5 hq hs4
        go_wp2_with fail
        clear e4c e4f t3 cof
        go_wp2_with fail
        (with_reducible refine (HBY.out s4 (v3 : Int) v3 rfl (by omega) _ KX.out.r).mono ?_)
        rw [H5.out]
        rintro e7 w7 ⟨A1, m1, c1, rfl, ob7, _, _, hr7, ho7'⟩
        have ho7 := Lib.hid ho7'
        have O7 := Lib.hid (ob7.base (B' := w.heap.size + 1 + 1 + 1) (by have := KX.out.r.lt; omega))
        have K7 := Lib.hid (KX.out.num HXX.out.1 HXX.out.2 hr7 ho7.out)
        simp only at O7
        clear hr7 ob7 ho7'
        have ff7 := K7.out.f.frozen 7
        have cc7 := K7.out.f.cell 7 _ rfl
        have K8 := Lib.hid (K7.out.put (Nat.le_refl _) (Nat.le_succ _) HXX.out.2 7 (.slice A1 m1 c1))
        go_wp2_with fail
        go_meet
        exact ⟨{ Fr.of 8 with id := v1, fin := true, off := v2, data := d4 }, s5, RdE.of (pl := { Fp.nil with da := A1, dn := m1, dc := c1 }) K8.out ⟨OwnR.nil _ _, (O7.out.onlyA ((Only.refl (w.heap.size + 1) w7).setCell 7 (.slice A1 m1 c1)) (fun a ha => by have := (O7.out.blk a ha).1; omega)), Own.nil _ _, Own.nil _ _⟩ G.out⟩
      · subst hq
        rw [hs4] at K5
        have KX := K5
        clear K5 hs4
        go_wp2_with fail
        clear e4c e4f t8 t9 cof
        go_wp2_with fail
        (with_reducible refine (HBY.out s4 (v3 : Int) v3 rfl (by omega) _ KX.out.r).mono ?_)
        rw [H5.out]
        rintro e7 w7 ⟨A1, m1, c1, rfl, ob7, _, _, hr7, ho7'⟩
        have ho7 := Lib.hid ho7'
        have O7 := Lib.hid (ob7.base (B' := w.heap.size + 1 + 1 + 1) (by have := KX.out.r.lt; omega))
        have K7 := Lib.hid (KX.out.num HXX.out.1 HXX.out.2 hr7 ho7.out)
        simp only at O7
        clear hr7 ob7 ho7'
        have ff7 := K7.out.f.frozen 7
        have cc7 := K7.out.f.cell 7 _ rfl
        have K8 := Lib.hid (K7.out.put (Nat.le_refl _) (Nat.le_succ _) HXX.out.2 7 (.slice A1 m1 c1))
        go_wp2_with fail
        go_meet
        exact ⟨{ Fr.of 8 with id := v1, fin := true, off := v2, data := d4 }, s5, RdE.of (pl := { Fp.nil with da := A1, dn := m1, dc := c1 }) K8.out ⟨OwnR.nil _ _, (O7.out.onlyA ((Only.refl (w.heap.size + 1) w7).setCell 7 (.slice A1 m1 c1)) (fun a ha => by have := (O7.out.blk a ha).1; omega)), Own.nil _ _, Own.nil _ _⟩ G.out⟩
      · subst hq
        have KX : Hid (RdF wz (w5.setCell ⟨w.heap.size + 1 + 1, 2, none⟩ (.int .i64 5)) w.heap.size (w.heap.size + 1) (w.heap.size + 1 + 1) (w.heap.size + 1) b (p3, 5) _) := K5.out.setE HXX.out.1 HXX.out.2 5
        rw [hs4] at KX
        clear K5 hs4
        go_wp2_with fail
        clear e4c e4f t8 t9 cof
        go_wp2_with fail
        (with_reducible refine (HBY.out s4 (v3 : Int) v3 rfl (by omega) _ KX.out.r).mono ?_)
        rw [H5.out]
        rintro e7 w7 ⟨A1, m1, c1, rfl, ob7, _, _, hr7, ho7'⟩
        have ho7 := Lib.hid ho7'
        have O7 := Lib.hid (ob7.base (B' := w.heap.size + 1 + 1 + 1) (by have := KX.out.r.lt; omega))
        have K7 := Lib.hid (KX.out.num HXX.out.1 HXX.out.2 hr7 ho7.out)
        simp only at O7
        clear hr7 ob7 ho7'
        have ff7 := K7.out.f.frozen 7
        have cc7 := K7.out.f.cell 7 _ rfl
        have K8 := Lib.hid (K7.out.put (Nat.le_refl _) (Nat.le_succ _) HXX.out.2 7 (.slice A1 m1 c1))
        go_wp2_with fail
        go_meet
        exact ⟨{ Fr.of 8 with id := v1, fin := true, off := v2, data := d4 }, s5, RdE.of (pl := { Fp.nil with da := A1, dn := m1, dc := c1 }) K8.out ⟨OwnR.nil _ _, (O7.out.onlyA ((Only.refl (w.heap.size + 1) w7).setCell 7 (.slice A1 m1 c1)) (fun a ha => by have := (O7.out.blk a ha).1; omega)), Own.nil _ _, Own.nil _ _⟩ G.out⟩
    · -- kind 16
      have q_0 : ((X : Int) == 0) = false := by simp; omega
      have q_1 : ((X : Int) == 1) = false := by simp; omega
      have q_30 : ((X : Int) == 30) = false := by simp; omega
      have q_2 : ((X : Int) == 2) = false := by simp; omega
      have q_14 : ((X : Int) == 14) = false := by simp; omega
      have q_15 : ((X : Int) == 15) = false := by simp; omega
      have q_6 : ((X : Int) == 6) = false := by simp; omega
      have q_16 : ((X : Int) == 16) = true := by simp; omega
      have q_25 : ((X : Int) == 25) = false := by simp; omega
      have q_28 : ((X : Int) == 28) = false := by simp; omega
      have q_24 : ((X : Int) == 24) = false := by simp; omega
      have q_26 : ((X : Int) == 26) = false := by simp; omega
      have q_27 : ((X : Int) == 27) = false := by simp; omega
      obtain ⟨⟨v1, s1⟩, h1⟩ : ∃ y, numS b (1, 0) maxV = y := ⟨_, rfl⟩
      have H1 := Lib.hid h1
      have G := Lib.hid (g_num HBE.out (by rw [HX.out]; omega) v1 s1 h1)
      rw [HX.out] at G
      clear hx h1
      obtain ⟨s0, hs0⟩ : ∃ s, ((1, 0) : Nat × Nat) = s := ⟨_, rfl⟩
      rw [hs0] at K0 H1
      clear hs0
      go_wp2_with fail
      (with_reducible refine (HN.out s0 4611686018427387903 maxV rfl (by unfold maxV; omega) _ K0.out.r).mono ?_)
      rw [H1.out]
      rintro e1 w1 ⟨rfl, hr1, ho1⟩
      have K1 := Lib.hid (K0.out.num HXX.out.1 HXX.out.2 hr1 ho1)
      clear hr1
      have ff1 := K1.out.f.frozen 1
      have cc1 := K1.out.f.cell 1 _ rfl
      have K2 := Lib.hid (K1.out.put (Nat.le_refl _) (Nat.le_succ _) HXX.out.2 1 (.int .u64 (v1 : Int)))
      go_wp2_with fail
      go_meet
      exact ⟨{ Fr.of (X : Int) with n := v1 }, s1, RdE.of (pl := Fp.nil) K2.out ⟨OwnR.nil _ _, Own.nil _ _, Own.nil _ _, Own.nil _ _⟩ G.out⟩
    · -- kind 25
      have q_0 : ((X : Int) == 0) = false := by simp; omega
      have q_1 : ((X : Int) == 1) = false := by simp; omega
      have q_30 : ((X : Int) == 30) = false := by simp; omega
      have q_2 : ((X : Int) == 2) = false := by simp; omega
      have q_14 : ((X : Int) == 14) = false := by simp; omega
      have q_15 : ((X : Int) == 15) = false := by simp; omega
      have q_6 : ((X : Int) == 6) = false := by simp; omega
      have q_16 : ((X : Int) == 16) = false := by simp; omega
      have q_25 : ((X : Int) == 25) = true := by simp; omega
      have q_28 : ((X : Int) == 28) = false := by simp; omega
      have q_24 : ((X : Int) == 24) = false := by simp; omega
      have q_26 : ((X : Int) == 26) = false := by simp; omega
      have q_27 : ((X : Int) == 27) = false := by simp; omega
      obtain ⟨⟨v1, s1⟩, h1⟩ : ∃ y, numS b (1, 0) maxV = y := ⟨_, rfl⟩
      have H1 := Lib.hid h1
      have G := Lib.hid (g_num HBE.out (by rw [HX.out]; omega) v1 s1 h1)
      rw [HX.out] at G
      clear hx h1
      obtain ⟨s0, hs0⟩ : ∃ s, ((1, 0) : Nat × Nat) = s := ⟨_, rfl⟩
      rw [hs0] at K0 H1
      clear hs0
      go_wp2_with fail
      (with_reducible refine (HN.out s0 4611686018427387903 maxV rfl (by unfold maxV; omega) _ K0.out.r).mono ?_)
      rw [H1.out]
      rintro e1 w1 ⟨rfl, hr1, ho1⟩
      have K1 := Lib.hid (K0.out.num HXX.out.1 HXX.out.2 hr1 ho1)
      clear hr1
      have ff1 := K1.out.f.frozen 1
      have cc1 := K1.out.f.cell 1 _ rfl
      have K2 := Lib.hid (K1.out.put (Nat.le_refl _) (Nat.le_succ _) HXX.out.2 1 (.int .u64 (v1 : Int)))
      go_wp2_with fail
      go_meet
      exact ⟨{ Fr.of (X : Int) with n := v1 }, s1, RdE.of (pl := Fp.nil) K2.out ⟨OwnR.nil _ _, Own.nil _ _, Own.nil _ _, Own.nil _ _⟩ G.out⟩
    · -- kind 28
      have q_0 : ((X : Int) == 0) = false := by simp; omega
      have q_1 : ((X : Int) == 1) = false := by simp; omega
      have q_30 : ((X : Int) == 30) = false := by simp; omega
      have q_2 : ((X : Int) == 2) = false := by simp; omega
      have q_14 : ((X : Int) == 14) = false := by simp; omega
      have q_15 : ((X : Int) == 15) = false := by simp; omega
      have q_6 : ((X : Int) == 6) = false := by simp; omega
      have q_16 : ((X : Int) == 16) = false := by simp; omega
      have q_25 : ((X : Int) == 25) = false := by simp; omega
      have q_28 : ((X : Int) == 28) = true := by simp; omega
      have q_24 : ((X : Int) == 24) = false := by simp; omega
      have q_26 : ((X : Int) == 26) = false := by simp; omega
      have q_27 : ((X : Int) == 27) = false := by simp; omega
      obtain ⟨⟨v1, s1⟩, h1⟩ : ∃ y, numS b (1, 0) maxV = y := ⟨_, rfl⟩
      obtain ⟨⟨v2, s2⟩, h2⟩ : ∃ y, numS b s1 0 = y := ⟨_, rfl⟩
      obtain ⟨⟨v3, s3⟩, h3⟩ : ∃ y, numS b s2 0 = y := ⟨_, rfl⟩
      have H1 := Lib.hid h1
      have H2 := Lib.hid h2
      have H3 := Lib.hid h3
      have G := Lib.hid (g_close HBE.out (by rw [HX.out]; omega) v1 v2 v3 s1 s2 s3 h1 h2 h3)
      rw [HX.out] at G
      clear hx h1 h2 h3
      obtain ⟨s0, hs0⟩ : ∃ s, ((1, 0) : Nat × Nat) = s := ⟨_, rfl⟩
      rw [hs0] at K0 H1
      clear hs0
      go_wp2_with fail
      (with_reducible refine (HN.out s0 4611686018427387903 maxV rfl (by unfold maxV; omega) _ K0.out.r).mono ?_)
      rw [H1.out]
      rintro e1 w1 ⟨rfl, hr1, ho1⟩
      have K1 := Lib.hid (K0.out.num HXX.out.1 HXX.out.2 hr1 ho1)
      clear hr1
      have ff1 := K1.out.f.frozen 1
      have cc1 := K1.out.f.cell 1 _ rfl
      have K2 := Lib.hid (K1.out.put (Nat.le_refl _) (Nat.le_succ _) HXX.out.2 1 (.int .u64 (v1 : Int)))
      go_wp2_with fail
      (with_reducible refine (HN.out s1 0 0 rfl (by omega) _ K2.out.r).mono ?_)
      rw [H2.out]
      rintro e3 w3 ⟨rfl, hr3, ho3⟩
      have K3 := Lib.hid (K2.out.num HXX.out.1 HXX.out.2 hr3 ho3)
      clear hr3
      go_wp2_with fail
      (with_reducible refine (HN.out s2 0 0 rfl (by omega) _ K3.out.r).mono ?_)
      rw [H3.out]
      rintro e4 w4 ⟨rfl, hr4, ho4⟩
      have K4 := Lib.hid (K3.out.num HXX.out.1 HXX.out.2 hr4 ho4)
      clear hr4
      go_wp2_with fail
      go_meet
      exact ⟨{ Fr.of (X : Int) with n := v1 }, s3, RdE.of (pl := Fp.nil) K4.out ⟨OwnR.nil _ _, Own.nil _ _, Own.nil _ _, Own.nil _ _⟩ G.out⟩
    · -- kind 24
      have q_0 : ((X : Int) == 0) = false := by simp; omega
      have q_1 : ((X : Int) == 1) = false := by simp; omega
      have q_30 : ((X : Int) == 30) = false := by simp; omega
      have q_2 : ((X : Int) == 2) = false := by simp; omega
      have q_14 : ((X : Int) == 14) = false := by simp; omega
      have q_15 : ((X : Int) == 15) = false := by simp; omega
      have q_6 : ((X : Int) == 6) = false := by simp; omega
      have q_16 : ((X : Int) == 16) = false := by simp; omega
      have q_25 : ((X : Int) == 25) = false := by simp; omega
      have q_28 : ((X : Int) == 28) = false := by simp; omega
      have q_24 : ((X : Int) == 24) = true := by simp; omega
      have q_26 : ((X : Int) == 26) = false := by simp; omega
      have q_27 : ((X : Int) == 27) = false := by simp; omega
      obtain ⟨⟨v1, s1⟩, h1⟩ : ∃ y, numS b (1, 0) maxV = y := ⟨_, rfl⟩
      obtain ⟨⟨v2, s2⟩, h2⟩ : ∃ y, numS b s1 0 = y := ⟨_, rfl⟩
      have H1 := Lib.hid h1
      have H2 := Lib.hid h2
      obtain ⟨⟨o3, s3⟩, h3⟩ : ∃ y, bytesS b s2 1 = y := ⟨_, rfl⟩
      obtain ⟨s4, h4⟩ : ∃ y, (if s3.2 = 0 ∧ o3 ≠ [8] then (s3.1, 5) else s3) = y := ⟨_, rfl⟩
      obtain ⟨⟨o5, s5⟩, h5⟩ : ∃ y, bytesS b s4 8 = y := ⟨_, rfl⟩
      obtain ⟨⟨o6, s6⟩, h6⟩ : ∃ y, bytesS b s5 16 = y := ⟨_, rfl⟩
      have H3 := Lib.hid h3
      have H4 := Lib.hid h4
      have H5 := Lib.hid h5
      have H6 := Lib.hid h6
      have HLN : Hid (s3.2 = 0 → o3.length = 1) := fun hh => by have := bytesS_len b s2 1 (by rw [h3]; exact hh); rwa [h3] at this
      have G := Lib.hid (g_cid HBE.out (by rw [HX.out]; omega) v1 v2 o3 o5 o6 s1 s2 s3 s4 s5 s6 h1 h2 h3 h4 h5 h6)
      rw [HX.out] at G
      clear hx h1 h2 h3 h4 h5 h6
      obtain ⟨s0, hs0⟩ : ∃ s, ((1, 0) : Nat × Nat) = s := ⟨_, rfl⟩
      rw [hs0] at K0 H1
      clear hs0
      go_wp2_with fail
      (with_reducible refine (HN.out s0 4611686018427387903 maxV rfl (by unfold maxV; omega) _ K0.out.r).mono ?_)
      rw [H1.out]
      rintro e1 w1 ⟨rfl, hr1, ho1⟩
      have K1 := Lib.hid (K0.out.num HXX.out.1 HXX.out.2 hr1 ho1)
      clear hr1
      have ff1 := K1.out.f.frozen 1
      have cc1 := K1.out.f.cell 1 _ rfl
      have K2 := Lib.hid (K1.out.put (Nat.le_refl _) (Nat.le_succ _) HXX.out.2 1 (.int .u64 (v1 : Int)))
      go_wp2_with fail
      (with_reducible refine (HN.out s1 0 0 rfl (by omega) _ K2.out.r).mono ?_)
      rw [H2.out]
      rintro e3 w3 ⟨rfl, hr3, ho3⟩
      have K3 := Lib.hid (K2.out.num HXX.out.1 HXX.out.2 hr3 ho3)
      clear hr3
      go_wp2_with fail
      (with_reducible refine (HBY.out s2 1 1 rfl (by omega) _ K3.out.r).mono ?_)
      rw [H3.out]
      rintro e4 w4 ⟨A1, m1, c1, rfl, ob4, _, _, hr4, ho4'⟩
      have ho4 := Lib.hid ho4'
      have O4 := Lib.hid (ob4.base (B' := w.heap.size + 1 + 1 + 1) (by have := K3.out.r.lt; omega))
      have K4 := Lib.hid (K3.out.num HXX.out.1 HXX.out.2 hr4 ho4.out)
      simp only at O4
      clear hr4 ob4 ho4'
      have e4c := K4.out.code
      have e4f := K4.out.codeF
      obtain ⟨p3, q3⟩ := s3
      simp only at e4c
      have hway : (q3 ≠ 0 ∧ ((q3 : Int) == 0) = false ∧ (p3, q3) = s4) ∨ (q3 = 0 ∧ ∃ gA y, A1 = some ⟨gA, 0, none⟩ ∧ m1 = 1 ∧ w4.cell? ⟨gA, 0, none⟩ = some (.int .u8 (y : Int)) ∧ ((((y : Int) != 8) = false ∧ (p3, q3) = s4) ∨ (((y : Int) != 8) = true ∧ (p3, 5) = s4))) := by
        have h4 := H4.out
        by_cases hq : q3 = 0
        · obtain ⟨gA, y, e1, e2, e3, e4⟩ := slice1_at O4.out (HLN.out hq)
          refine .inr ⟨hq, gA, y.toNat, e1, e2, e4, ?_⟩
          by_cases hy : y = 8
          · left
            subst hy
            rw [if_neg (fun hh => hh.2 e3)] at h4
            exact ⟨by decide, h4⟩
          · right
            rw [if_pos ⟨hq, fun hh => hy (by rw [e3] at hh; simpa using hh)⟩] at h4
            refine ⟨?_, h4⟩
            simp
            intro hh
            exact hy (UInt8.toNat_inj.1 (show y.toNat = 8 by omega))
        · rw [if_neg (fun hh => hq hh.1)] at h4
          exact .inl ⟨hq, by simp; omega, h4⟩
      clear H4
      rcases hway with ⟨hq, t3, hs4⟩ | ⟨hq, gA, y, rfl, rfl, cy, ⟨t8, hs4⟩ | ⟨t8, hs4⟩⟩
      · clear HLN O4
        rw [hs4] at K4
        have KX := K4
        clear K4 hq hs4
        go_wp2_with fail
        clear e4c e4f t3
        go_wp2_with fail
        (with_reducible refine (HBY.out s4 8 8 rfl (by omega) _ KX.out.r).mono ?_)
        rw [H5.out]
        rintro e6 w6 ⟨A2, m2, c2, rfl, ob6, _, _, hr6, ho6'⟩
        have ho6 := Lib.hid ho6'
        have O6 := Lib.hid (ob6.base (B' := w.heap.size + 1 + 1 + 1) (by have := KX.out.r.lt; omega))
        have K6 := Lib.hid (KX.out.num HXX.out.1 HXX.out.2 hr6 ho6.out)
        simp only at O6
        clear hr6 ob6 ho6'
        have ff6 := K6.out.f.frozen 8
        have cc6 := K6.out.f.cell 8 _ rfl
        have K7 := Lib.hid (K6.out.put (Nat.le_refl _) (Nat.le_succ _) HXX.out.2 8 (.slice A2 m2 c2))
        have O7 := Lib.hid (O6.out.onlyA ((Only.refl (w.heap.size + 1) w6).setCell 8 (.slice A2 m2 c2)) (fun a ha => by have := (O6.out.blk a ha).1; omega))
        go_wp2_with fail
        (with_reducible refine (HBY.out s5 16 16 rfl (by omega) _ K7.out.r).mono ?_)
        rw [H6.out]
        rintro e8 w8 ⟨A3, m3, c3, rfl, ob8, _, _, hr8, ho8'⟩
        have ho8 := Lib.hid ho8'
        have O8 := Lib.hid (ob8.base (B' := w.heap.size + 1 + 1 + 1) (by have := K7.out.r.lt; omega))
        have K8 := Lib.hid (K7.out.num HXX.out.1 HXX.out.2 hr8 ho8.out)
        simp only at O8
        clear hr8 ob8 ho8'
        have O7b := Lib.hid (O7.out.onlyA ho8.out (fun a ha => by have := (O7.out.blk a ha).1; omega))
        have ff8 := K8.out.f.frozen 9
        have cc8 := K8.out.f.cell 9 _ rfl
        have K9 := Lib.hid (K8.out.put (Nat.le_refl _) (Nat.le_succ _) HXX.out.2 9 (.slice A3 m3 c3))
        go_wp2_with fail
        go_meet
        exact ⟨{ Fr.of (X : Int) with n := v1, cid := o5, tok := o6 }, s6, RdE.of (pl := { Fp.nil with ca := A2, cn := m2, cc := c2, ta := A3, tn := m3, tc := c3 }) K9.out ⟨OwnR.nil _ _, Own.nil _ _, (O7b.out.onlyA ((Only.refl (w.heap.size + 1) w8).setCell 9 (.slice A3 m3 c3)) (fun a ha => by have := (O7b.out.blk a ha).1; omega)), (O8.out.onlyA ((Only.refl (w.heap.size + 1) w8).setCell 9 (.slice A3 m3 c3)) (fun a ha => by have := (O8.out.blk a ha).1; omega))⟩ G.out⟩
      · clear HLN O4
        subst hq
        rw [hs4] at K4
        have KX := K4
        clear K4 hs4
        go_wp2_with fail
        clear e4c e4f t8 cy
        go_wp2_with fail
        (with_reducible refine (HBY.out s4 8 8 rfl (by omega) _ KX.out.r).mono ?_)
        rw [H5.out]
        rintro e6 w6 ⟨A2, m2, c2, rfl, ob6, _, _, hr6, ho6'⟩
        have ho6 := Lib.hid ho6'
        have O6 := Lib.hid (ob6.base (B' := w.heap.size + 1 + 1 + 1) (by have := KX.out.r.lt; omega))
        have K6 := Lib.hid (KX.out.num HXX.out.1 HXX.out.2 hr6 ho6.out)
        simp only at O6
        clear hr6 ob6 ho6'
        have ff6 := K6.out.f.frozen 8
        have cc6 := K6.out.f.cell 8 _ rfl
        have K7 := Lib.hid (K6.out.put (Nat.le_refl _) (Nat.le_succ _) HXX.out.2 8 (.slice A2 m2 c2))
        have O7 := Lib.hid (O6.out.onlyA ((Only.refl (w.heap.size + 1) w6).setCell 8 (.slice A2 m2 c2)) (fun a ha => by have := (O6.out.blk a ha).1; omega))
        go_wp2_with fail
        (with_reducible refine (HBY.out s5 16 16 rfl (by omega) _ K7.out.r).mono ?_)
        rw [H6.out]
        rintro e8 w8 ⟨A3, m3, c3, rfl, ob8, _, _, hr8, ho8'⟩
        have ho8 := Lib.hid ho8'
        have O8 := Lib.hid (ob8.base (B' := w.heap.size + 1 + 1 + 1) (by have := K7.out.r.lt; omega))
        have K8 := Lib.hid (K7.out.num HXX.out.1 HXX.out.2 hr8 ho8.out)
        simp only at O8
        clear hr8 ob8 ho8'
        have O7b := Lib.hid (O7.out.onlyA ho8.out (fun a ha => by have := (O7.out.blk a ha).1; omega))
        have ff8 := K8.out.f.frozen 9
        have cc8 := K8.out.f.cell 9 _ rfl
        have K9 := Lib.hid (K8.out.put (Nat.le_refl _) (Nat.le_succ _) HXX.out.2 9 (.slice A3 m3 c3))
        go_wp2_with fail
        go_meet
        exact ⟨{ Fr.of (X : Int) with n := v1, cid := o5, tok := o6 }, s6, RdE.of (pl := { Fp.nil with ca := A2, cn := m2, cc := c2, ta := A3, tn := m3, tc := c3 }) K9.out ⟨OwnR.nil _ _, Own.nil _ _, (O7b.out.onlyA ((Only.refl (w.heap.size + 1) w8).setCell 9 (.slice A3 m3 c3)) (fun a ha => by have := (O7b.out.blk a ha).1; omega)), (O8.out.onlyA ((Only.refl (w.heap.size + 1) w8).setCell 9 (.slice A3 m3 c3)) (fun a ha => by have := (O8.out.blk a ha).1; omega))⟩ G.out⟩
      · clear HLN O4
        subst hq
        have KX : Hid (RdF wz (w4.setCell ⟨w.heap.size + 1 + 1, 2, none⟩ (.int .i64 5)) w.heap.size (w.heap.size + 1) (w.heap.size + 1 + 1) (w.heap.size + 1) b (p3, 5) _) := K4.out.setE HXX.out.1 HXX.out.2 5
        rw [hs4] at KX
        clear K4 hs4
        go_wp2_with fail
        clear e4c e4f t8 cy
        go_wp2_with fail
        (with_reducible refine (HBY.out s4 8 8 rfl (by omega) _ KX.out.r).mono ?_)
        rw [H5.out]
        rintro e6 w6 ⟨A2, m2, c2, rfl, ob6, _, _, hr6, ho6'⟩
        have ho6 := Lib.hid ho6'
        have O6 := Lib.hid (ob6.base (B' := w.heap.size + 1 + 1 + 1) (by have := KX.out.r.lt; omega))
        have K6 := Lib.hid (KX.out.num HXX.out.1 HXX.out.2 hr6 ho6.out)
        simp only at O6
        clear hr6 ob6 ho6'
        have ff6 := K6.out.f.frozen 8
        have cc6 := K6.out.f.cell 8 _ rfl
        have K7 := Lib.hid (K6.out.put (Nat.le_refl _) (Nat.le_succ _) HXX.out.2 8 (.slice A2 m2 c2))
        have O7 := Lib.hid (O6.out.onlyA ((Only.refl (w.heap.size + 1) w6).setCell 8 (.slice A2 m2 c2)) (fun a ha => by have := (O6.out.blk a ha).1; omega))
        go_wp2_with fail
        (with_reducible refine (HBY.out s5 16 16 rfl (by omega) _ K7.out.r).mono ?_)
        rw [H6.out]
        rintro e8 w8 ⟨A3, m3, c3, rfl, ob8, _, _, hr8, ho8'⟩
        have ho8 := Lib.hid ho8'
        have O8 := Lib.hid (ob8.base (B' := w.heap.size + 1 + 1 + 1) (by have := K7.out.r.lt; omega))
        have K8 := Lib.hid (K7.out.num HXX.out.1 HXX.out.2 hr8 ho8.out)
        simp only at O8
        clear hr8 ob8 ho8'
        have O7b := Lib.hid (O7.out.onlyA ho8.out (fun a ha => by have := (O7.out.blk a ha).1; omega))
        have ff8 := K8.out.f.frozen 9
        have cc8 := K8.out.f.cell 9 _ rfl
        have K9 := Lib.hid (K8.out.put (Nat.le_refl _) (Nat.le_succ _) HXX.out.2 9 (.slice A3 m3 c3))
        go_wp2_with fail
        go_meet
        exact ⟨{ Fr.of (X : Int) with n := v1, cid := o5, tok := o6 }, s6, RdE.of (pl := { Fp.nil with ca := A2, cn := m2, cc := c2, ta := A3, tn := m3, tc := c3 }) K9.out ⟨OwnR.nil _ _, Own.nil _ _, (O7b.out.onlyA ((Only.refl (w.heap.size + 1) w8).setCell 9 (.slice A3 m3 c3)) (fun a ha => by have := (O7b.out.blk a ha).1; omega)), (O8.out.onlyA ((Only.refl (w.heap.size + 1) w8).setCell 9 (.slice A3 m3 c3)) (fun a ha => by have := (O8.out.blk a ha).1; omega))⟩ G.out⟩
    · -- kind 26
      have q_0 : ((X : Int) == 0) = false := by simp; omega
      have q_1 : ((X : Int) == 1) = false := by simp; omega
      have q_30 : ((X : Int) == 30) = false := by simp; omega
      have q_2 : ((X : Int) == 2) = false := by simp; omega
      have q_14 : ((X : Int) == 14) = false := by simp; omega
      have q_15 : ((X : Int) == 15) = false := by simp; omega
      have q_6 : ((X : Int) == 6) = false := by simp; omega
      have q_16 : ((X : Int) == 16) = false := by simp; omega
      have q_25 : ((X : Int) == 25) = false := by simp; omega
      have q_28 : ((X : Int) == 28) = false := by simp; omega
      have q_24 : ((X : Int) == 24) = false := by simp; omega
      have q_26 : ((X : Int) == 26) = true := by simp; omega
      have q_27 : ((X : Int) == 27) = false := by simp; omega
      obtain ⟨⟨d1, s1⟩, h1⟩ : ∃ y, bytesS b (1, 0) 8 = y := ⟨_, rfl⟩
      have H1 := Lib.hid h1
      have G := Lib.hid (g_eight HBE.out (by rw [HX.out]; omega) d1 s1 h1)
      rw [HX.out] at G
      clear hx h1
      obtain ⟨s0, hs0⟩ : ∃ s, ((1, 0) : Nat × Nat) = s := ⟨_, rfl⟩
      rw [hs0] at K0 H1
      clear hs0
      go_wp2_with fail
      (with_reducible refine (HBY.out s0 8 8 rfl (by omega) _ K0.out.r).mono ?_)
      rw [H1.out]
      rintro e1 w1 ⟨A1, m1, c1, rfl, ob1, _, _, hr1, ho1'⟩
      have ho1 := Lib.hid ho1'
      have O1 := Lib.hid (ob1.base (B' := w.heap.size + 1 + 1 + 1) (by have := K0.out.r.lt; omega))
      have K1 := Lib.hid (K0.out.num HXX.out.1 HXX.out.2 hr1 ho1.out)
      simp only at O1
      clear hr1 ob1 ho1'
      have ff1 := K1.out.f.frozen 7
      have cc1 := K1.out.f.cell 7 _ rfl
      have K2 := Lib.hid (K1.out.put (Nat.le_refl _) (Nat.le_succ _) HXX.out.2 7 (.slice A1 m1 c1))
      go_wp2_with fail
      go_meet
      exact ⟨{ Fr.of (X : Int) with data := d1 }, s1, RdE.of (pl := { Fp.nil with da := A1, dn := m1, dc := c1 }) K2.out ⟨OwnR.nil _ _, (O1.out.onlyA ((Only.refl _ _).setCell 7 (.slice A1 m1 c1)) (fun a ha => by have := (O1.out.blk a ha).1; omega)), Own.nil _ _, Own.nil _ _⟩ G.out⟩
    · -- kind 27
      have q_0 : ((X : Int) == 0) = false := by simp; omega
      have q_1 : ((X : Int) == 1) = false := by simp; omega
      have q_30 : ((X : Int) == 30) = false := by simp; omega
      have q_2 : ((X : Int) == 2) = false := by simp; omega
      have q_14 : ((X : Int) == 14) = false := by simp; omega
      have q_15 : ((X : Int) == 15) = false := by simp; omega
      have q_6 : ((X : Int) == 6) = false := by simp; omega
      have q_16 : ((X : Int) == 16) = false := by simp; omega
      have q_25 : ((X : Int) == 25) = false := by simp; omega
      have q_28 : ((X : Int) == 28) = false := by simp; omega
      have q_24 : ((X : Int) == 24) = false := by simp; omega
      have q_26 : ((X : Int) == 26) = false := by simp; omega
      have q_27 : ((X : Int) == 27) = true := by simp; omega
      obtain ⟨⟨d1, s1⟩, h1⟩ : ∃ y, bytesS b (1, 0) 8 = y := ⟨_, rfl⟩
      have H1 := Lib.hid h1
      have G := Lib.hid (g_eight HBE.out (by rw [HX.out]; omega) d1 s1 h1)
      rw [HX.out] at G
      clear hx h1
      obtain ⟨s0, hs0⟩ : ∃ s, ((1, 0) : Nat × Nat) = s := ⟨_, rfl⟩
      rw [hs0] at K0 H1
      clear hs0
      go_wp2_with fail
      (with_reducible refine (HBY.out s0 8 8 rfl (by omega) _ K0.out.r).mono ?_)
      rw [H1.out]
      rintro e1 w1 ⟨A1, m1, c1, rfl, ob1, _, _, hr1, ho1'⟩
      have ho1 := Lib.hid ho1'
      have O1 := Lib.hid (ob1.base (B' := w.heap.size + 1 + 1 + 1) (by have := K0.out.r.lt; omega))
      have K1 := Lib.hid (K0.out.num HXX.out.1 HXX.out.2 hr1 ho1.out)
      simp only at O1
      clear hr1 ob1 ho1'
      have ff1 := K1.out.f.frozen 7
      have cc1 := K1.out.f.cell 7 _ rfl
      have K2 := Lib.hid (K1.out.put (Nat.le_refl _) (Nat.le_succ _) HXX.out.2 7 (.slice A1 m1 c1))
      go_wp2_with fail
      go_meet
      exact ⟨{ Fr.of (X : Int) with data := d1 }, s1, RdE.of (pl := { Fp.nil with da := A1, dn := m1, dc := c1 }) K2.out ⟨OwnR.nil _ _, (O1.out.onlyA ((Only.refl _ _).setCell 7 (.slice A1 m1 c1)) (fun a ha => by have := (O1.out.blk a ha).1; omega)), Own.nil _ _, Own.nil _ _⟩ G.out⟩
    · -- no kind
      have q_0 : ((X : Int) == 0) = false := by simp; omega
      have q_1 : ((X : Int) == 1) = false := by simp; omega
      have q_30 : ((X : Int) == 30) = false := by simp; omega
      have q_2 : ((X : Int) == 2) = false := by simp; omega
      have q_14 : ((X : Int) == 14) = false := by simp; omega
      have q_15 : ((X : Int) == 15) = false := by simp; omega
      have q_6 : ((X : Int) == 6) = false := by simp; omega
      have q_16 : ((X : Int) == 16) = false := by simp; omega
      have q_25 : ((X : Int) == 25) = false := by simp; omega
      have q_28 : ((X : Int) == 28) = false := by simp; omega
      have q_24 : ((X : Int) == 24) = false := by simp; omega
      have q_26 : ((X : Int) == 26) = false := by simp; omega
      have q_27 : ((X : Int) == 27) = false := by simp; omega
      have G := Lib.hid (g_kind HBE.out (by rw [HX.out]; exact hx0) (by rw [HX.out]; omega))
      clear hx hx0
      have HSZ0 : Hid ((Try.prog.info? 26).map (·.size) = some fr0.length) := fr_size
      go_wp2_with ((with_reducible refine wpList_store_rw rfl 26 (.tmp 2) (.tmp 26) rfl w.heap.size fr0 ?hx ?hy 26 fr0 HZR.out HSZ0.out rfl fr0_one ?_); (case hx => with_unfolding_all rfl); (case hy => with_unfolding_all rfl); intro w98 R98 O98)
      refine ret_rw2 rfl w.heap.size 26 fr0 _ rfl R98.out Try.underlying26 rfl fr_size rfl ?_
      rw [G.out]
      exact ⟨Fp.nil, rfl, FrO.nil _ _ _, HBZ.out.trans (O98.out.below HBZ.out.size (Nat.le_refl _))⟩
  case rest =>
    obtain ⟨F, ⟨p, q⟩, E⟩ := hcut
    have HE := Lib.hid E
    have c2 : wc.cell? ⟨w.heap.size + 1 + 1, 2, none⟩ = some (.int .i64 (q : Int)) := by
      obtain ⟨T, A, m, c, hr, _⟩ := E.r
      exact hr.cell 2 _ rfl
    have c1 : wc.cell? ⟨w.heap.size + 1 + 1, 1, none⟩ = some (.int .i64 (p : Int)) := by
      obtain ⟨T, A, m, c, hr, _⟩ := E.r
      exact hr.cell 1 _ rfl
    have HZ : Hid (Rw wc w.heap.size 26 fr0) := HZR.out.belowB E.b (Nat.lt_succ_self _)
    have HB : Hid (Below w.heap.size w wc) := HBZ.out.trans (E.b.mono (Nat.le_succ _))
    have HLT : Hid (w.heap.size + 1 + 1 < wc.heap.size) := E.r.lt
    clear E K0 HN HBY HXX HCZ hfr hX256
    by_cases hq : q = 0
    · subst hq
      obtain ⟨pl, rf, of⟩ := HE.out.f rfl
      have RF := Lib.hid rf
      have OF := Lib.hid of
      obtain ⟨hv, ehv⟩ : ∃ y, frV F pl = y := ⟨_, rfl⟩
      have HONE : Hid (∀ v ∈ hv, v.oneCell' = true) := ehv ▸ frV_one F pl
      have HLN : Hid (hv.length = 10) := ehv ▸ frV_len F pl
      have HSZ : Hid ((Try.prog.info? 26).map (·.size) = some hv.length) := by rw [HLN.out]; exact fr_size
      have HL2 : Hid (fr0.length = hv.length) := show _ = _ by rw [HLN.out]; rfl
      rw [ehv] at RF
      have HV := Lib.hid ehv
      clear ehv rf of
      go_wp2_with fail
      clear c2
      refine wp_held (S := fun u => u.rangeAt (w.heap.size + 1) 0 hv ∧ u.cell? ⟨w.heap.size + 1 + 1, 1, none⟩ = some (.int .i64 (p : Int))) (by kernel_rfl) ?_
      have hS : (wc.drew).rangeAt (w.heap.size + 1) 0 hv ∧ (wc.drew).cell? ⟨w.heap.size + 1 + 1, 1, none⟩ = some (.int .i64 (p : Int)) := ⟨(RF.out.drew).range, c1⟩
      refine wpAnyH_pickG 0 (.agg hv.toArray) rfl (by kernel_rfl) (by kernel_rfl) (by kernel_rfl) (by rfl) (fun _ _ _ h => h) (fun u hu => exec_load_mid u 26 (.tmp 5) rfl (w.heap.size + 1) 0 (by with_unfolding_all rfl) hv _ hu.1 Try.underlying26 rfl HSZ.out) hS ?_
      go_simp
      refine wpAnyH_take (i := 1) (v := ?_) rfl (by kernel_rfl) (by kernel_rfl) (by kernel_rfl) (fun _ _ _ h => h) (Or.inl ⟨by rfl, ?_⟩) hS ?_
      rotate_left 1
      · intro u hu
        go_simp
        first | done | with_reducible rfl
      go_simp
      refine wpAnyH_take (i := 2) (v := ?_) rfl (by kernel_rfl) (by kernel_rfl) (by kernel_rfl) (fun _ _ _ h => h) (Or.inl ⟨by rfl, ?_⟩) hS ?_
      rotate_left 1
      · intro u hu
        go_simp
        first | done | with_reducible rfl
      go_simp
      refine wpAnyH_take (i := 3) (v := ?_) rfl (by kernel_rfl) (by kernel_rfl) (by kernel_rfl) (fun _ _ _ h => h) (Or.inl ⟨by rfl, ?_⟩) hS ?_
      rotate_left 1
      · intro u hu
        go_simp
        first | done | with_reducible rfl
      go_simp
      refine wpAnyH_take (i := 4) (v := ?_) rfl (by kernel_rfl) (by kernel_rfl) (by kernel_rfl) (fun _ _ _ h => h) (Or.inl ⟨by rfl, ?_⟩) hS ?_
      rotate_left 1
      · intro u hu
        have q1 := hu.2
        go_simp
        first | done | with_reducible rfl
      go_simp
      refine wpAnyH_oneG 5 (by kernel_rfl) rfl (by rfl) ?_
      refine wp_store_rw 26 (.tmp 2) (.tmp 158) rfl w.heap.size hv (by with_unfolding_all rfl) (by with_unfolding_all rfl) 26 fr0 (HZ.out.drew) HSZ.out HL2.out HONE.out ?_
      intro w5 R5 O5
      have hS5 : w5.rangeAt (w.heap.size + 1) 0 hv ∧ w5.cell? ⟨w.heap.size + 1 + 1, 1, none⟩ = some (.int .i64 (p : Int)) := ⟨range_only (w := wc.drew) hS.1 O5.out (by omega) (by have := HLT.out; exact Nat.lt_of_succ_lt this), (World.cell?_of_block (w := wc.drew) (w' := w5) (a := ⟨w.heap.size + 1 + 1, 1, none⟩) (O5.out.block (w.heap.size + 1 + 1) HLT.out (by omega))).trans hS.2⟩
      refine ⟨hS5, ?_⟩
      clear hS
      refine wpAnyH_take (i := 6) (v := ?_) rfl (by kernel_rfl) (by kernel_rfl) (by kernel_rfl) (fun _ _ _ h => h) (Or.inl ⟨by rfl, ?_⟩) hS5 ?_
      rotate_left 1
      · intro u hu
        go_simp
        first | done | with_reducible rfl
      go_simp
      refine wpAnyH_take (i := 7) (v := ?_) rfl (by kernel_rfl) (by kernel_rfl) (by kernel_rfl) (fun _ _ _ h => h) (Or.inl ⟨by rfl, ?_⟩) hS5 ?_
      rotate_left 1
      · intro u hu
        go_simp
        first | done | with_reducible rfl
      go_simp
      refine wpAnyH_done (by kernel_rfl) ?_ _
      go_wp2_with fail
      refine ret_rw2 rfl w.heap.size 26 hv _ rfl R5.out Try.underlying26 rfl HSZ.out rfl ?_
      rw [HE.out.t]
      have he : endS F (p, 0) = ((F, p), 0) := rfl
      rw [he, ← HV.out]
      exact ⟨pl, rfl, ((OF.out.below (w' := wc.drew) ⟨rfl, rfl, rfl, Nat.le_refl _, fun _ _ => rfl⟩).only O5.out (by omega)).base (by omega), (show Below w.heap.size w wc.drew from ⟨HB.out.os, HB.out.tape, HB.out.output, HB.out.size, HB.out.block⟩).trans (O5.out.below HB.out.size (Nat.le_refl _))⟩
    · have t1 : ((q : Int) != 0) = true := by simp; omega
      have HQ := Lib.hid hq
      clear hq
      go_wp2_with fail
      clear t1
      refine wp_held (S := fun u => u.cell? ⟨w.heap.size + 1 + 1, 2, none⟩ = some (.int .i64 (q : Int))) (by kernel_rfl) ?_
      have hS : (wc.drew).cell? ⟨w.heap.size + 1 + 1, 2, none⟩ = some (.int .i64 (q : Int)) := c2
      refine wpAnyH_take (i := 0) (v := ?_) rfl (by kernel_rfl) (by kernel_rfl) (by kernel_rfl) (fun _ _ _ h => h) (Or.inl ⟨by rfl, ?_⟩) hS ?_
      rotate_left 1
      · intro u hu
        go_simp
        first | done | with_reducible rfl
      go_simp
      refine wpAnyH_take (i := 1) (v := ?_) rfl (by kernel_rfl) (by kernel_rfl) (by kernel_rfl) (fun _ _ _ h => h) (Or.inl ⟨by rfl, ?_⟩) hS ?_
      rotate_left 1
      · intro u hu
        go_simp
        first | done | with_reducible rfl
      go_simp
      refine wpAnyH_take (i := 2) (v := ?_) rfl (by kernel_rfl) (by kernel_rfl) (by kernel_rfl) (fun _ _ _ h => h) (Or.inl ⟨by rfl, ?_⟩) hS ?_
      rotate_left 1
      · intro u hu
        go_simp
        first | done | with_reducible rfl
      go_simp
      refine wpAnyH_take (i := 3) (v := ?_) rfl (by kernel_rfl) (by kernel_rfl) (by kernel_rfl) (fun _ _ _ h => h) (Or.inl ⟨by rfl, ?_⟩) hS ?_
      rotate_left 1
      · intro u hu
        go_simp
        first | done | with_reducible rfl
      go_simp
      refine wpAnyH_take (i := 4) (v := ?_) rfl (by kernel_rfl) (by kernel_rfl) (by kernel_rfl) (fun _ _ _ h => h) (Or.inl ⟨by rfl, ?_⟩) hS ?_
      rotate_left 1
      · intro u hu
        have q1 := hu
        go_simp
        first | done | with_reducible rfl
      go_simp
      refine wpAnyH_oneG 5 (by kernel_rfl) rfl (by rfl) ?_
      refine wp_store_rw 26 (.tmp 2) (.tmp 153) rfl w.heap.size fr0 (by with_unfolding_all rfl) (by with_unfolding_all rfl) 26 fr0 (HZ.out.drew) fr_size rfl fr0_one ?_
      intro w5 R5 O5
      have hS5 : w5.cell? ⟨w.heap.size + 1 + 1, 2, none⟩ = some (.int .i64 (q : Int)) := (World.cell?_of_block (w := wc.drew) (w' := w5) (a := ⟨w.heap.size + 1 + 1, 2, none⟩) (O5.out.block (w.heap.size + 1 + 1) HLT.out (by omega))).trans hS
      refine ⟨hS5, ?_⟩
      clear hS
      refine wpAnyH_take (i := 6) (v := ?_) rfl (by kernel_rfl) (by kernel_rfl) (by kernel_rfl) (fun _ _ _ h => h) (Or.inl ⟨by rfl, ?_⟩) hS5 ?_
      rotate_left 1
      · intro u hu
        go_simp
        first | done | with_reducible rfl
      go_simp
      refine wpAnyH_take (i := 7) (v := ?_) rfl (by kernel_rfl) (by kernel_rfl) (by kernel_rfl) (fun _ _ _ h => h) (Or.inl ⟨by rfl, ?_⟩) hS5 ?_
      rotate_left 1
      · intro u hu
        go_simp
        first | done | with_reducible rfl
      go_simp
      refine wpAnyH_done (by kernel_rfl) ?_ _
      go_wp2_with fail
      refine ret_rw2 rfl w.heap.size 26 fr0 _ rfl R5.out Try.underlying26 rfl fr_size rfl ?_
      rw [HE.out.t]
      have he : endS F (p, q) = ((Fr.of 0, 0), q) := by unfold endS; rw [if_neg HQ.out]
      rw [he]
      exact ⟨Fp.nil, rfl, FrO.nil _ _ _, (show Below w.heap.size w wc.drew from ⟨HB.out.os, HB.out.tape, HB.out.output, HB.out.size, HB.out.block⟩).trans (O5.out.below HB.out.size (Nat.le_refl _))⟩
end Go.Proofs.Ytafbhjhdnchfbaa

/-
  The document's Get and All, whatever the bytes. (All: out of the walk of the program's own, FrAll, by program.)
-/
namespace Go.Proofs.Ytafbhjhdnchfbaa
open Go.RowKit
set_option linter.unusedVariables false

theorem tell_same (n : Nat) (x : Except Nat (Fr × List UInt8)) : tellY n x = tellX n x := by cases x <;> rfl
theorem rfget_any (l : List UInt8) (A : Option Addr) (n c B : Nat) (w : World) (hs : Sl w B A n l) (hB : B ≤ w.heap.size) (hnc : n ≤ c) (hcm : c ≤ maxLen) :
    Calls Try.prog 23 #[.slice A n c] w (GetsF w (getR l)) := by
  rw [getR_tell, ← tell_same]
  cases l with
  | nil =>
    obtain rfl : n = 0 := by have := hs.1; simpa using this.symm
    clear hs
    go_enter Try.func23, Try.ntmps23
    go_wp2
    refine ret_rw2 rfl w.heap.size 26 fr0 _ rfl (heap_alloc_new w _) Try.underlying26 rfl fr_size rfl ?_
    exact ⟨Fp.nil, rfl, FrO.nil _ _ _, (Below.refl _ _).alloc (Nat.le_refl _) _⟩
  | cons x r => exact rget_cons (x :: r) r x A n c B w rfl hs hB hnc hcm
set_option maxHeartbeats 4000000 in
theorem rall_any (l : List UInt8) (A : Option Addr) (n c B : Nat) (w : World) (hs : Sl w B A n l) (hB : B ≤ w.heap.size) (hnc : n ≤ c) (hcm : c ≤ maxLen) :
    Calls Try.prog 25 #[.slice A n c] w (AllsF w (allX l)) := by
  have hl := hs.1
  by_cases h0 : l = []
  · subst h0
    obtain rfl : n = 0 := by simpa using hl.symm
    clear hs hl
    go_enter Try.func25, Try.ntmps25
    go_wp2_with fail
    go_loopw [0, 4, 5, 6, 7] (fun bs fv _ _ _ wr => bs = .slice A 0 c ∧ fv = .slice none 0 0 ∧ wr = w) (fun _ _ _ _ _ _ => 0)
    case atStart => exact ⟨rfl, rfl, rfl⟩
    case round =>
      obtain ⟨rfl, rfl, rfl⟩ := hrel
      go_wp2
      go_ret2
      exact ⟨rfl, Below.refl _ _⟩
  · have hn0 : 0 < n := by
      have : l.length ≠ 0 := fun h => h0 (List.eq_nil_of_length_eq_zero h)
      omega
    have e : allX l = rowX l.length 0 l := by unfold allX; rw [if_neg h0]
    rw [e]
    obtain ⟨X, hX⟩ : ∃ X, rowX l.length 0 l = X := ⟨_, rfl⟩
    rw [hX]
    have HX := Lib.hid hX
    have HS := Lib.hid hs
    have hn63 : n ≤ 9223372036854775807 := by unfold maxLen at hcm; omega
    have HC : Hid (n ≤ c ∧ c ≤ maxLen) := ⟨hnc, hcm⟩
    clear hX hs e h0 hl hnc hcm
    go_enter Try.func25, Try.ntmps25
    go_wp2_with fail
    go_loopw [0, 4, 5, 6, 7] (fun bs fv _ _ _ wr => ∃ (A1 : Option Addr) (m d : Nat) (l1 : List UInt8) (A2 : Option Addr) (k e : Nat) (fps : List (Fr × Fp)) (fuel : Nat), bs = .slice A1 m d ∧ fv = .slice A2 k e ∧ m ≤ n ∧ k ≤ 64 ∧ Hid (m = n ∨ 0 < k) ∧ Hid (m ≤ d ∧ d ≤ maxLen) ∧ Hid (Sl wr B A1 m l1) ∧ Hid (OwnF wr w.heap.size (.slice A2 k e) k fps) ∧ Hid (Below w.heap.size w wr) ∧ Hid (m ≤ fuel ∧ X = thenX (rowX fuel k l1) fun t => .ok (fps.map (·.1) ++ t))) (fun bs _ _ _ _ _ => match bs with | .slice _ m _ => m | _ => 0)
    case atStart =>
      refine ⟨A, n, c, l, none, 0, 0, [], l.length, rfl, rfl, Nat.le_refl _, by omega, .inl rfl, HC, HS, OwnF.nil _ _, Below.refl _ _, by rw [HS.out.1]; exact Nat.le_refl _, ?_⟩
      rw [← HX.out]
      cases rowX l.length 0 l <;> rfl
    case round =>
      obtain ⟨A1, m, d, l1, A2, k, e, fps, fuel, rfl, rfl, hm, hk, HK0, HD, S1, O1, B1, HF⟩ := hrel
      have hl1 := S1.out.1
      by_cases hm0 : m = 0
      · subst hm0
        obtain rfl : l1 = [] := List.eq_nil_of_length_eq_zero hl1
        have hXe : X = .ok (fps.map (·.1)) := by
          rw [HF.out.2]
          cases fuel <;> simp [rowX, thenX]
        have HXe := Lib.hid hXe
        have tk0 : ((k : Int) == 0) = false := by
          rcases HK0.out with h | h
          · omega
          · simp; omega
        clear hXe HX hl1
        go_wp2
        go_ret2
        rw [HXe.out]
        exact ⟨A2, k, e, fps, rfl, O1.out, rfl, B1.out⟩
      · obtain ⟨b, r, hbr⟩ : ∃ b r, l1 = b :: r := by
          cases l1 with
          | nil => simp at hl1; omega
          | cons b r => exact ⟨b, r, rfl⟩
        obtain ⟨fu, hfu⟩ : ∃ fu, fuel = fu + 1 := ⟨fuel - 1, by have := HF.out.1; omega⟩
        have hXr := HF.out.2
        rw [hbr, hfu, rowX_cons, ← hbr] at hXr
        have HBR := Lib.hid hbr
        have HFU := Lib.hid hfu
        have hmp : 0 < m := by omega
        have tm : decide ((0 : Int) < (m : Int)) = true := decide_eq_true (by omega)
        clear hbr hfu hl1
        by_cases h64 : k = 64
        · rw [if_pos h64] at hXr
          have HXe := Lib.hid hXr
          clear hXr
          subst h64
          have HG := Lib.hid (rfget_any l1 A1 m d B wr S1.out (Nat.le_trans hB B1.out.size) HD.out.1 HD.out.2)
          obtain ⟨⟨⟨f9, n9⟩, c9⟩, hg9⟩ : ∃ y, getR l1 = y := ⟨_, rfl⟩
          rw [hg9] at HG
          clear hg9
          go_wp2_with fail
          (with_reducible refine HG.out.mono ?_)
          rintro e1 w1 ⟨p, rfl, hfo, b1⟩
          simp only
          have HB1 := Lib.hid b1
          have HSZ := Lib.hid (frV_size f9 p)
          have HONE := Lib.hid (frV_one f9 p)
          have HL0 : Hid (fr0.length = (frV f9 p).length) := rfl
          generalize frV f9 p = vs at HSZ HONE HL0 ⊢
          clear hfo b1
          go_wp2_with ((with_reducible refine wpList_store_rw rfl 26 (.tmp 5) (.tmp 14) rfl w1.heap.size vs ?hx ?hy 26 fr0 ?hB HSZ.out HL0.out HONE.out ?_); (case hx => with_unfolding_all rfl); (case hy => with_unfolding_all rfl); (case hB => exact heap_alloc_new w1 _); intro w2 R2 O2)
          go_ret2
          rw [HXe.out]
          exact ⟨rfl, (B1.out.trans (HB1.out.mono B1.out.size)).trans (((Below.refl _ w1).alloc (Nat.le_refl _) _).trans (O2.out.below (by simp) (Nat.le_refl _)) |>.mono (Nat.le_trans B1.out.size HB1.out.size))⟩
        · rw [if_neg h64] at hXr
          have t64 : ((k : Int) == 64) = false := by simp; omega
          have HG := Lib.hid (rfget_any l1 A1 m d B wr S1.out (Nat.le_trans hB B1.out.size) HD.out.1 HD.out.2)
          cases hgx : getX l1 with
          | error cd =>
            rw [hgx, thenX_err, thenX_err] at hXr
            have hgr : getR l1 = ((Fr.of 0, 0), cd) := by unfold getR; rw [hgx]
            have hcd : cd ≠ 0 := getX_err l1 cd hgx
            rw [hgr] at HG
            have tc : ((cd : Int) != 0) = true := by simp; omega
            have HXe := Lib.hid hXr
            clear hXr hgx hgr hcd
            go_wp2_with fail
            (with_reducible refine HG.out.mono ?_)
            rintro e1 w1 ⟨p, rfl, hfo, b1⟩
            simp only
            have HB1 := Lib.hid b1
            have HSZ := Lib.hid (frV_size (Fr.of 0) p)
            have HONE := Lib.hid (frV_one (Fr.of 0) p)
            have HL0 : Hid (fr0.length = (frV (Fr.of 0) p).length) := rfl
            generalize frV (Fr.of 0) p = vs at HSZ HONE HL0 ⊢
            clear hfo b1
            go_wp2_with ((with_reducible refine wpList_store_rw rfl 26 (.tmp 5) (.tmp 14) rfl w1.heap.size vs ?hx ?hy 26 fr0 ?hB HSZ.out HL0.out HONE.out ?_); (case hx => with_unfolding_all rfl); (case hy => with_unfolding_all rfl); (case hB => exact heap_alloc_new w1 _); intro w2 R2 O2)
            go_ret2
            rw [HXe.out]
            exact ⟨rfl, (B1.out.trans (HB1.out.mono B1.out.size)).trans (((Below.refl _ w1).alloc (Nat.le_refl _) _).trans (O2.out.below (by simp) (Nat.le_refl _)) |>.mono (Nat.le_trans B1.out.size HB1.out.size))⟩
          | ok y =>
            obtain ⟨f, rst⟩ := y
            obtain ⟨hsl, hsd⟩ := getX_suf l1 f rst hgx
            have hgr : getR l1 = ((f, l1.length - rst.length), 0) := by unfold getR; rw [hgx]
            rw [hgr] at HG
            rw [hgx, thenX_ok] at hXr
            obtain ⟨sz, hsz⟩ : ∃ sz, l1.length - rst.length = sz := ⟨_, rfl⟩
            rw [hsz] at HG hsd
            have hlm := S1.out.1
            have hszm : sz ≤ m := by omega
            have hsz1 : 1 ≤ sz := by omega
            have HRL : Hid (rst.length = m - sz) := show _ = _ by omega
            obtain ⟨A5, eA5⟩ : ∃ v, (if d = sz then A1 else A1.map (·.add sz)) = v := ⟨_, rfl⟩
            have hcB : ∀ u : World, (Instr.slice 24 (.slice A1 m d) (some (.int .i64 (sz : Int))) none none).run Try.prog u = .ok (.slice A5 (m - sz) (d - sz)) u := fun u => by
              rw [run_cut_bytes u A1 m d sz hszm HD.out.1, eA5]
            have HS5 : Hid (∀ u : World, Below w.heap.size wr u → Sl u B A5 (m - sz) rst) := fun u hu => by
              have h1' := (S1.out.below (hu.mono hB)).drop hszm HD.out.1
              rw [eA5, ← hsd] at h1'
              exact h1'
            have HXe := Lib.hid hXr
            clear hXr hgx hgr hsd hsz hsl hlm eA5
            go_wp2_with fail
            (with_reducible refine HG.out.mono ?_)
            rintro e1 w1 ⟨p, rfl, hfo, b1⟩
            simp only at hfo
            simp only
            have HB1 := Lib.hid b1
            have HFO := Lib.hid hfo
            have HSZ := Lib.hid (frV_size f p)
            have HONE := Lib.hid (frV_one f p)
            have HL0 : Hid (fr0.length = (frV f p).length) := rfl
            obtain ⟨vs, hvs⟩ : ∃ vs, frV f p = vs := ⟨_, rfl⟩
            have HVS := Lib.hid hvs
            rw [hvs] at HSZ HONE HL0 ⊢
            clear hfo b1
            have hcells : vs = [.int .i64 f.kind, .int .u64 (f.n : Int), .int .u64 (f.delay : Int), .slice p.ra p.rn p.rc, .int .u64 (f.id : Int), .int .u64 (f.off : Int), .bool f.fin, .slice p.da p.dn p.dc, .slice p.ca p.cn p.cc, .slice p.ta p.tn p.tc] := hvs.symm
            clear hvs
            clear HSZ HONE HL0
            subst hcells
            have HBz : Hid (∀ o1 o2, Below w1.heap.size w1 ((w1.alloc o1).alloc o2)) := fun _ _ => ((Below.refl _ _).alloc (Nat.le_refl _) _).alloc (by simp) _
            have HBw : Hid (∀ o1 o2, Below w.heap.size w ((w1.alloc o1).alloc o2)) := fun o1 o2 => (B1.out.trans (HB1.out.mono B1.out.size)).trans ((HBz.out o1 o2).mono (Nat.le_trans B1.out.size HB1.out.size))
            have HBr : Hid (∀ o1 o2, Below w.heap.size wr ((w1.alloc o1).alloc o2)) := fun o1 o2 => (HB1.out.mono B1.out.size).trans ((HBz.out o1 o2).mono (Nat.le_trans B1.out.size HB1.out.size))
            go_wp2_with (at_builtin; refine wpList_append_frame rfl _ _ rfl w.heap.size (.slice A2 k e) k fps rfl ((O1.out.below HB1.out).below (HBz.out _ _)) (w1.heap.size + 1) f p rfl ?hr ?hf (by omega) (HBw.out _ _).size _ (Below.refl _ _) ?_; (case hr => exact range_row (t := 26) (fr := (0, 0)) (heap_allocs w1 [_, _] 1 _ rfl)); (case hf => exact (HFO.out.base B1.out.size).below (HBz.out _ _)); intro A6 c6 w6 O6 G6 B6)
            go_roundw
            case rel =>
              refine ⟨A5, m - sz, d - sz, rst, A6, k + 1, c6, fps ++ [(f, p)], fu, rfl, rfl, by omega, by omega, .inr (Nat.succ_pos _), ⟨by have := HD.out; omega, by have := HD.out; omega⟩, HS5.out _ ((HBr.out _ _).trans B6.out), O6, (HBw.out _ _).trans B6.out, by have := HF.out.1; have := HFU.out; omega, ?_⟩
              rw [HXe.out]
              cases rowX fu (k + 1) rst <;> simp [thenX]
            case measure => simp; omega
end Go.Proofs.Ytafbhjhdnchfbaa

/-
  The walk of FrameReads.
-/
namespace Go.Proofs.Ytafbhjhdnchfbaa
open Go.RowKit
set_option linter.unusedVariables false

theorem pick_row {w : World} {B n c : Nat} {A : Option Addr} {l : List (Fr × Fp)} (h : OwnF w B (.slice A n c) n l) (i : Nat) (hi : i < n) (f : Fr) (hf : (l.map (·.1))[i]? = some f) : ∃ p g, A = some ⟨g, 0, none⟩ ∧ g < w.heap.size ∧ FrO w B f p ∧ w.rangeAt g (i * 10) (frV f p) := by
  have hl := h.len
  obtain ⟨g, hA, _, hg, hat⟩ := h.at_ (by omega)
  have hx := hat i (by omega)
  have hm : l[i] ∈ l := List.getElem_mem _
  have hfe : l[i].1 = f := by
    have : i < (l.map (·.1)).length := by simp; omega
    rw [List.getElem?_eq_getElem this] at hf
    simpa using hf
  rw [hfe] at hx
  exact ⟨l[i].2, g, hA, hg, by rw [← hfe]; exact h.each _ hm, hx⟩
theorem range_belowR {w u : World} {g off : Nat} {cs : List Value} (h : w.rangeAt g off cs) (hg : g < w.heap.size) (hb : Below w.heap.size w u) : u.rangeAt g off cs := fun j v hv => (Below.cell hb (p := ⟨g, off + j, none⟩) hg).trans (h j v hv)
theorem row_len : ∀ (fuel cnt : Nat) (l : List UInt8) (fs : List Fr), rowX fuel cnt l = .ok fs → cnt ≤ 64 → cnt + fs.length ≤ 64
  | _, cnt, [], fs, h, hc => by
    have : fs = [] := by
      unfold rowX at h
      cases h
      rfl
    subst this
    simpa using hc
  | 0, cnt, b :: r, fs, h, hc => by
    unfold rowX at h
    cases h
  | fuel + 1, cnt, b :: r, fs, h, hc => by
    rw [rowX_cons] at h
    split at h
    · cases h
    · rcases hg : getX (b :: r) with e | ⟨f, l'⟩
      · rw [hg] at h; cases h
      · rw [hg, thenX_ok] at h
        simp only at h
        rcases hr : rowX fuel (cnt + 1) l' with e | t
        · rw [hr] at h; cases h
        · rw [hr, thenX_ok] at h
          cases h
          have := row_len fuel (cnt + 1) l' t hr (by omega)
          simp only [List.length_cons]
          omega
theorem all_len {l : List UInt8} {fs : List Fr} (h : allX l = .ok fs) : fs.length ≤ 64 := by
  unfold allX at h
  split at h
  · cases h
  · have := row_len _ _ _ _ h (Nat.zero_le _)
    omega
theorem below_dr {B : Nat} {w w' : World} (h : Below B w w') : Below B w w'.drew := ⟨h.os, h.tape, h.output, h.size, h.block⟩
theorem reads_long (A : Option Addr) (n c : Nat) (w : World) (h : 300 < n) : Calls Try.prog 4 #[.slice A n c] w fun e w' => e = .returned (.bool true) ∧ Below w.heap.size w w' := by
  have h1 : (300 : Int) < (n : Int) := by omega
  go_enter Try.func4, Try.ntmps4
  go_wp2_with fail
  (with_reducible refine (awake_any _).mono ?_)
  rintro e1 w1 ⟨rfl, b1⟩
  go_wp2
  go_ret
  exact ⟨rfl, b1⟩
set_option maxHeartbeats 8000000 in
set_option maxRecDepth 8000 in
theorem reads_any (l : List UInt8) (A : Option Addr) (n c : Nat) (w : World) (hn : n ≤ 300) (hs : Sl w w.heap.size A n l) (hnc : n ≤ c) (hcm : c ≤ maxLen) : Calls Try.prog 4 #[.slice A n c] w fun e w' => e = .returned (.bool true) ∧ Below w.heap.size w w' := by
  have k1 : ¬ (300 : Int) < (n : Int) := by omega
  obtain ⟨⟨⟨f, n9⟩, c9⟩, hg⟩ : ∃ y, getR l = y := ⟨_, rfl⟩
  obtain ⟨X, hX⟩ : ∃ X, allX l = X := ⟨_, rfl⟩
  have HG1 := Lib.hid (fget_any l A n c w.heap.size w hs (Nat.le_refl _) hnc hcm)
  have HG2 := Lib.hid (fun u (hu : Below w.heap.size w u) => rfget_any l A n c w.heap.size u (hs.below hu) hu.size hnc hcm)
  have HA1 := Lib.hid (fun u (hu : Below w.heap.size w u) => fall_any l A n c w.heap.size u (hs.below hu) hu.size hnc hcm)
  have HA2 := Lib.hid (fun u (hu : Below w.heap.size w u) => rall_any l A n c w.heap.size u (hs.below hu) hu.size hnc hcm)
  rw [hg] at HG1 HG2
  rw [hX] at HA1 HA2
  have HAW : Hid (∀ u, Below w.heap.size w u → Calls Try.prog 11 #[] u fun e w' => e = .returned (.bool true) ∧ Below w.heap.size w w') := fun u hu => (awake_any u).mono fun e w' h => ⟨h.1, hu.trans (h.2.mono hu.size)⟩
  have tn : ((n9 : Int) != (n9 : Int)) = false := by simp
  have tc : ((c9 : Int) != (c9 : Int)) = false := by simp
  have HXL : Hid (∀ fs, X = .ok fs → fs.length ≤ 64) := fun fs h => all_len (hX.trans h)
  clear hg hX hs hnc hcm hn
  go_enter Try.func4, Try.ntmps4
  go_wp2_with fail
  (with_reducible refine HG1.out.mono ?_)
  rintro e1 w1 ⟨p, rfl, hfo, b1⟩
  simp only at hfo
  simp only
  obtain ⟨vs, hvs⟩ : ∃ vs, frV f p = vs := ⟨_, rfl⟩
  have HV := Lib.hid hvs
  have HSZ : Hid ((Try.prog.info? 26).map (·.size) = some vs.length) := by rw [← hvs]; exact frV_size f p
  have HONE : Hid (∀ v ∈ vs, v.oneCell' = true) := by rw [← hvs]; exact frV_one f p
  have HL0 : Hid (fr0.length = vs.length) := by rw [← hvs]; exact rfl
  have HFO := Lib.hid hfo
  have HB1 := Lib.hid b1
  rw [hvs]
  clear hvs hfo b1 HG1
  go_wp2_with ((with_reducible refine wpList_store_rw rfl 26 (.tmp 3) (.tmp 21) rfl w1.heap.size vs ?hx ?hy 26 fr0 ?hB HSZ.out HL0.out HONE.out ?_); (case hx => with_unfolding_all rfl); (case hy => with_unfolding_all rfl); (case hB => exact heap_alloc_new w1 _); intro w2 R2 O2)
  have BB2 : Hid (Below w1.heap.size w1 w2) := ((Below.refl _ w1).alloc (Nat.le_refl _) _).trans (O2.out.below (by simp) (Nat.le_refl _))
  have B2 : Hid (Below w.heap.size w w2) := HB1.out.trans (BB2.out.mono HB1.out.size)
  have F2 := Lib.hid (HFO.out.below BB2.out)
  clear O2 HFO HL0 HONE
  (with_reducible refine (HG2.out _ B2.out).mono ?_)
  rintro e3 w3 ⟨q, rfl, hfo, b3⟩
  simp only at hfo
  simp only
  obtain ⟨us, hus⟩ : ∃ us, frV f q = us := ⟨_, rfl⟩
  have HU := Lib.hid hus
  have HSU : Hid ((Try.prog.info? 26).map (·.size) = some us.length) := by rw [← hus]; exact frV_size f q
  have HONU : Hid (∀ v ∈ us, v.oneCell' = true) := by rw [← hus]; exact frV_one f q
  have HL0 : Hid (fr0.length = us.length) := by rw [← hus]; exact rfl
  have HFO := Lib.hid hfo
  have HB3 := Lib.hid b3
  rw [hus]
  clear hus hfo b3 HG2
  go_wp2_with (first
    | ((with_reducible refine wpList_store_rw rfl 26 (.tmp 6) (.tmp 27) rfl w3.heap.size us ?hx ?hy 26 fr0 ?hB HSU.out HL0.out HONU.out ?_); (case hx => with_unfolding_all rfl); (case hy => with_unfolding_all rfl); (case hB => exact heap_alloc_new w3 _); intro w4 R4 O4; have R3 : Hid (Rw w4 w1.heap.size 26 vs) := (R2.out.below HB3.out).below (((Below.refl _ w3).alloc (Nat.le_refl _) _).trans (O4.out.below (by simp) (Nat.le_refl _))))
    | ((with_reducible refine wpList_load_rw rfl 26 (.tmp 3) rfl w1.heap.size ?hx 26 vs R3.out _ Try.underlying26 rfl HSZ.out ?_); (case hx => with_unfolding_all rfl))
    | ((with_reducible refine wpList_load_rw rfl 26 (.tmp 6) rfl w3.heap.size ?hx 26 us R4.out _ Try.underlying26 rfl HSU.out ?_); (case hx => with_unfolding_all rfl)))
  have BB4 : Hid (Below w3.heap.size w3 w4) := ((Below.refl _ w3).alloc (Nat.le_refl _) _).trans (O4.out.below (by simp) (Nat.le_refl _))
  have B4 : Hid (Below w.heap.size w w4) := (B2.out.trans (HB3.out.mono B2.out.size)).trans (BB4.out.mono (Nat.le_trans B2.out.size HB3.out.size))
  have FA : Hid (FrL w4 w4.heap.size f p) := ((F2.out.below HB3.out).below BB4.out).l
  have FB : Hid (FrL w4 w4.heap.size f q) := (HFO.out.below BB4.out).l
  have HSAME : Hid (Calls Try.prog 20 #[.agg vs.toArray, .agg us.toArray] w4 fun e w' => e = .returned (.bool true) ∧ Below w4.heap.size w4 w') := by
    rw [← HV.out, ← HU.out]
    exact rsam_any f f p q w4.heap.size w4 (Nat.le_refl _) FA.out FB.out true (by simp)
  clear R2 R3 R4 O4 F2 HFO FA FB HSZ HSU HONU HL0 BB2 BB4 HB1 HB3
  (with_reducible refine HSAME.out.mono ?_)
  rintro e5 w5 ⟨rfl, b5⟩
  have B5 := Lib.hid (B4.out.trans (b5.mono B4.out.size))
  clear HSAME b5
  go_wp2_with fail
  (with_reducible refine (HA1.out _ B5.out).mono ?_)
  rintro e6 w6 h6
  have H6 := Lib.hid h6
  clear h6 HA1
  cases X with
  | error cd =>
    obtain ⟨rfl, b6⟩ := H6.out
    have B6 := Lib.hid (B5.out.trans (b6.mono B5.out.size))
    have td : ((cd : Int) != (cd : Int)) = false := by simp
    clear H6 b6
    go_wp2_with fail
    (with_reducible refine (HA2.out _ B6.out).mono ?_)
    rintro e7 w7 ⟨rfl, b7⟩
    have B7 := Lib.hid (B6.out.trans (b7.mono B6.out.size))
    clear b7
    go_wp2_with fail
    go_loopw [13] (fun i wr => i = .int .i64 0 ∧ wr = w7) (fun _ _ => 0)
    case atStart => exact ⟨rfl, rfl⟩
    case round =>
      obtain ⟨rfl, rfl⟩ := hrel
      go_wp2_with fail
      (with_reducible refine (HAW.out _ B7.out).mono ?_)
      rintro e8 w8 ⟨rfl, b8⟩
      go_wp2
      go_ret
      exact ⟨rfl, b8⟩
  | ok fs =>
    obtain ⟨A1, k, c1, fps, rfl, o6, hf6, b6⟩ := H6.out
    have O6 := Lib.hid o6
    have B6 := Lib.hid (B5.out.trans (b6.mono B5.out.size))
    have HF6 := Lib.hid hf6
    have hk1 : k = fs.length := by rw [← hf6, List.length_map]; exact o6.len.symm
    have HK1 := Lib.hid hk1
    clear H6 o6 hf6 b6 hk1
    go_wp2_with fail
    (with_reducible refine (HA2.out _ B6.out).mono ?_)
    rintro e7 w7 ⟨A2, k2, c2, fps2, rfl, o7, hf7, b7⟩
    have hk2 : k2 = k := by rw [HK1.out, ← hf7, List.length_map]; exact o7.len.symm
    subst hk2
    have O7 := Lib.hid o7
    have O67 := Lib.hid (O6.out.below b7)
    have B7 := Lib.hid (B6.out.trans (b7.mono B6.out.size))
    have HF7 := Lib.hid hf7
    have HK := HK1
    have tk : ((k2 : Int) != (k2 : Int)) = false := by simp
    have hk64 : k2 ≤ 64 := by rw [HK.out]; exact HXL.out fs rfl
    clear o7 hf7 b7 O6 HK1
    go_wp2_with fail
    go_loopw [13] (fun i wr => ∃ j : Nat, i = .int .i64 j ∧ j ≤ k2 ∧ Hid (Below w7.heap.size w7 wr)) (fun i _ => k2 - (intOf i).toNat)
    case atStart => exact ⟨0, rfl, Nat.zero_le _, Below.refl _ _⟩
    case round =>
      obtain ⟨j, rfl, hj, B⟩ := hrel
      by_cases hlt : j < k2
      · have hfj : fs[j]? = some (fs[j]'(by have := HK.out; omega)) := List.getElem?_eq_getElem _
        obtain ⟨fj, hfe⟩ : ∃ fj, fs[j]'(by have := HK.out; omega) = fj := ⟨_, rfl⟩
        rw [hfe] at hfj
        obtain ⟨p1, g1, rfl, hg1, fo1, r1⟩ := pick_row O67.out j hlt fj (by rw [HF6.out]; exact hfj)
        obtain ⟨p2, g2, rfl, hg2, fo2, r2⟩ := pick_row O7.out j hlt fj (by rw [HF7.out]; exact hfj)
        have HSAME : Hid (∀ u, Below w7.heap.size w7 u → Calls Try.prog 20 #[.agg (frV fj p1).toArray, .agg (frV fj p2).toArray] u fun e w' => e = .returned (.bool true) ∧ Below w7.heap.size w7 w') := fun u hu =>
          (rsam_any fj fj p1 p2 u.heap.size u (Nat.le_refl _) (fo1.below hu).l (fo2.below hu).l true (by simp)).mono fun e w' h => ⟨h.1, hu.trans (h.2.mono hu.size)⟩
        have HR : Hid (∀ u, Below w7.heap.size w7 u → u.rangeAt g1 (j * 10) (frV fj p1) ∧ u.rangeAt g2 (j * 10) (frV fj p2)) := fun u hu => ⟨range_belowR r1 hg1 hu, range_belowR r2 hg2 hu⟩
        have HSZ1 := Lib.hid (frV_size fj p1)
        have HSZ2 := Lib.hid (frV_size fj p2)
        obtain ⟨vs1, hv1⟩ : ∃ y, frV fj p1 = y := ⟨_, rfl⟩
        obtain ⟨vs2, hv2⟩ : ∃ y, frV fj p2 = y := ⟨_, rfl⟩
        rw [hv1, hv2] at HSAME HR
        rw [hv1] at HSZ1
        rw [hv2] at HSZ2
        have lt1 : (j : Int) < (k2 : Int) := by omega
        clear hfj hfe hg1 hg2 fo1 fo2 r1 r2 hv1 hv2
        go_wp2_with fail
        refine wp_held (S := fun u => Below w7.heap.size w7 u) (by kernel_rfl) ?_
        have hS : Below w7.heap.size w7 wr.drew := below_dr B.out
        refine wpAnyH_take (i := 0) (v := ?_) rfl (by kernel_rfl) (by kernel_rfl) (by kernel_rfl) (fun _ _ _ h => h) (Or.inl ⟨by rfl, ?_⟩) hS ?_
        rotate_left 1
        · intro u hu
          go_simp
          first | done | with_reducible rfl
        go_simp
        refine wpAnyH_take (i := 1) (v := ?_) rfl (by kernel_rfl) (by kernel_rfl) (by kernel_rfl) (fun _ _ _ h => h) (Or.inl ⟨by rfl, ?_⟩) hS ?_
        rotate_left 1
        · intro u hu
          go_simp
          first | done | with_reducible rfl
        go_simp
        refine wpAnyH_take (i := 2) (v := ?_) rfl (by kernel_rfl) (by kernel_rfl) (by kernel_rfl) (fun _ _ _ h => h) (Or.inl ⟨by rfl, ?_⟩) hS ?_
        rotate_left 1
        · intro u hu
          go_simp
          first | done | with_reducible rfl
        go_simp
        refine wpAnyH_pickG 3 (.agg vs1.toArray) rfl (by kernel_rfl) (by kernel_rfl) (by kernel_rfl) (by rfl) (fun _ _ _ h => h) (fun u hu => exec_load_mid u 26 (.tmp 72) rfl g1 (j * 10) (by with_unfolding_all rfl) vs1 _ (HR.out u hu).1 Try.underlying26 rfl HSZ1.out) hS ?_
        go_simp
        refine wpAnyH_take (i := 4) (v := ?_) rfl (by kernel_rfl) (by kernel_rfl) (by kernel_rfl) (fun _ _ _ h => h) (Or.inl ⟨by rfl, ?_⟩) hS ?_
        rotate_left 1
        · intro u hu
          go_simp
          first | done | with_reducible rfl
        go_simp
        refine wpAnyH_take (i := 5) (v := ?_) rfl (by kernel_rfl) (by kernel_rfl) (by kernel_rfl) (fun _ _ _ h => h) (Or.inl ⟨by rfl, ?_⟩) hS ?_
        rotate_left 1
        · intro u hu
          go_simp
          first | done | with_reducible rfl
        go_simp
        refine wpAnyH_take (i := 6) (v := ?_) rfl (by kernel_rfl) (by kernel_rfl) (by kernel_rfl) (fun _ _ _ h => h) (Or.inl ⟨by rfl, ?_⟩) hS ?_
        rotate_left 1
        · intro u hu
          go_simp
          first | done | with_reducible rfl
        go_simp
        refine wpAnyH_pickG 7 (.agg vs2.toArray) rfl (by kernel_rfl) (by kernel_rfl) (by kernel_rfl) (by rfl) (fun _ _ _ h => h) (fun u hu => exec_load_mid u 26 (.tmp 76) rfl g2 (j * 10) (by with_unfolding_all rfl) vs2 _ (HR.out u hu).2 Try.underlying26 rfl HSZ2.out) hS ?_
        go_simp
        refine wpAnyH_oneG 8 (by kernel_rfl) rfl (by rfl) ?_
        go_wp2_with fail
        (with_reducible refine (HSAME.out _ hS).mono ?_)
        rintro e9 w9 ⟨rfl, hS9⟩
        refine ⟨hS9, ?_⟩
        clear hS
        refine wpAnyH_take (i := 9) (v := ?_) rfl (by kernel_rfl) (by kernel_rfl) (by kernel_rfl) (fun _ _ _ h => h) (Or.inl ⟨by rfl, ?_⟩) hS9 ?_
        rotate_left 1
        · intro u hu
          go_simp
          first | done | with_reducible rfl
        go_simp
        refine wpAnyH_done (by kernel_rfl) ?_ _
        go_wp2_with fail
        go_roundw
        case rel => exact ⟨j + 1, by go_num, Nat.succ_le_of_lt hlt, hS9⟩
        case measure => simp [intOf]; omega
      · obtain rfl : j = k2 := by omega
        have lt1 : ¬ (j : Int) < (j : Int) := by omega
        go_wp2_with fail
        (with_reducible refine (HAW.out _ (B7.out.trans (B.out.mono B7.out.size))).mono ?_)
        rintro e8 w8 ⟨rfl, b8⟩
        go_wp2
        go_ret
        exact ⟨rfl, b8⟩
theorem reads_all (l : List UInt8) (A : Option Addr) (n c : Nat) (w : World) (hs : Sl w w.heap.size A n l) (hnc : n ≤ c) (hcm : c ≤ maxLen) : Calls Try.prog 4 #[.slice A n c] w fun e w' => e = .returned (.bool true) ∧ Below w.heap.size w w' := by
  by_cases h : 300 < n
  · exact reads_long A n c w h
  · exact reads_any l A n c w (by omega) hs hnc hcm
end Go.Proofs.Ytafbhjhdnchfbaa
