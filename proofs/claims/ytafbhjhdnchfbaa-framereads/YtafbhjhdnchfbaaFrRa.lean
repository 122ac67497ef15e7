/-
  The document's reader of frames: the next number, the next bytes.
-/
import Derived.Test.YtafbhjhdnchfbaaFrP
import Derived.Test.YtafbhjhdnchfbaaPtA
import Derived.Test.YtafbhjhdnchfbaaVarintB
import Derived.Test.YtafbhjhdnchfbaaArr
import Derived.Test.YtafbhjhdnchfbaaSame
namespace Go.Proofs.Ytafbhjhdnchfbaa
open Go.RowKit
set_option linter.unusedVariables false

/-- the document's reader at block g: bytes b, in memory below B; s.1 of them are read; the code is s.2 -/
def RdW (w : World) (B g : Nat) (b : List UInt8) (s : Nat × Nat) : Prop :=
  ∃ T A n c, Rw w g T [.slice A n c, .int .i64 (s.1 : Int), .int .i64 (s.2 : Int)] ∧ Sl w B A n b ∧ n ≤ c ∧ c ≤ maxLen ∧ B ≤ g ∧ s.1 ≤ n
theorem RdW.lt {w : World} {B g : Nat} {b : List UInt8} {s : Nat × Nat} (h : RdW w B g b s) : g < w.heap.size := by
  obtain ⟨T, A, n, c, hr, _⟩ := h
  exact hr.lt
theorem RdW.le {w : World} {B g : Nat} {b : List UInt8} {s : Nat × Nat} (h : RdW w B g b s) : s.1 ≤ b.length := by
  obtain ⟨T, A, n, c, hr, hs, _, _, _, h6⟩ := h
  have := hs.1
  omega
theorem RdW.only {w w' : World} {B g g' : Nat} {b : List UInt8} {s : Nat × Nat} (h : RdW w B g b s) (ho : Only g' w w') (hne : g ≠ g') (hB : B ≤ g') : RdW w' B g b s := by
  have hlt := h.lt
  obtain ⟨T, A, n, c, hr, hs, h1, h2, h3, h4⟩ := h
  exact ⟨T, A, n, c, hr.only ho hne, hs.keep fun p hp => World.cell?_of_block (ho.block p.block (by omega) (by omega)), h1, h2, h3, h4⟩
theorem RdW.below {w w' : World} {B g : Nat} {b : List UInt8} {s : Nat × Nat} (h : RdW w B g b s) (hb : Below w.heap.size w w') : RdW w' B g b s := by
  have hlt := h.lt
  obtain ⟨T, A, n, c, hr, hs, h1, h2, h3, h4⟩ := h
  exact ⟨T, A, n, c, hr.below hb, hs.below ⟨hb.os, hb.tape, hb.output, hb.size, fun k hk => hb.block k (by omega)⟩, h1, h2, h3, h4⟩
/-- the next number by places: it, and where the reader stands -/
def numS (b : List UInt8) (s : Nat × Nat) (most : Nat) : Nat × (Nat × Nat) :=
  if s.2 ≠ 0 then (0, s) else if (getV (b.drop s.1)).2.2 ≠ 0 then (0, (s.1, (getV (b.drop s.1)).2.2)) else if most < (getV (b.drop s.1)).1 then (0, (s.1, 5)) else ((getV (b.drop s.1)).1, (s.1 + (getV (b.drop s.1)).2.1, 0))
def bytesS (b : List UInt8) (s : Nat × Nat) (k : Nat) : List UInt8 × (Nat × Nat) :=
  if s.2 ≠ 0 then ([], s) else if b.length - s.1 < k then ([], (s.1, 3)) else ((b.drop s.1).take k, (s.1 + k, 0))
theorem numS_err (b : List UInt8) (k most e : Nat) (h : numX (b.drop k) most = .error e) : numS b (k, 0) most = (0, (k, e)) := by
  unfold numX at h
  unfold numS
  simp only [ne_eq, not_true_eq_false, if_false]
  split at h
  · rename_i hz
    rw [if_pos hz]
    cases h
    rfl
  · rename_i hz
    rw [if_neg hz]
    split at h
    · rename_i hm
      rw [if_pos hm]
      cases h
      rfl
    · cases h
theorem numS_ok (b : List UInt8) (k most v : Nat) (l : List UInt8) (h : numX (b.drop k) most = .ok (v, l)) : ∃ k', numS b (k, 0) most = (v, (k', 0)) ∧ l = b.drop k' ∧ k ≤ k' := by
  unfold numX at h
  unfold numS
  simp only [ne_eq, not_true_eq_false, if_false]
  split at h
  · cases h
  · rename_i hz
    rw [if_neg hz]
    split at h
    · cases h
    · rename_i hm
      rw [if_neg hm]
      cases h
      exact ⟨_, rfl, by rw [List.drop_drop], by omega⟩
theorem bytesS_err (b : List UInt8) (k m e : Nat) (h : bytesX (b.drop k) m = .error e) : bytesS b (k, 0) m = ([], (k, e)) := by
  unfold bytesX at h
  unfold bytesS
  simp only [ne_eq, not_true_eq_false, if_false]
  rw [List.length_drop] at h
  split at h
  · rename_i hz
    rw [if_pos hz]
    cases h
    rfl
  · cases h
theorem bytesS_ok (b : List UInt8) (k m : Nat) (v l : List UInt8) (h : bytesX (b.drop k) m = .ok (v, l)) : bytesS b (k, 0) m = (v, (k + m, 0)) ∧ l = b.drop (k + m) := by
  unfold bytesX at h
  unfold bytesS
  simp only [ne_eq, not_true_eq_false, if_false]
  rw [List.length_drop] at h
  split at h
  · cases h
  · rename_i hz
    rw [if_neg hz]
    cases h
    exact ⟨rfl, by rw [List.drop_drop]⟩

set_option maxHeartbeats 1000000 in
theorem rnum_any (b : List UInt8) (s : Nat × Nat) (K : Int) (most : Nat) (hK : K = (most : Int)) (hmo : most < 18446744073709551616) (B g : Nat) (w : World) (h : RdW w B g b s) :
    Calls Try.prog 52 #[.pointer (some ⟨g, 0, none⟩), .int .u64 K] w fun e w' => e = .returned (.int .u64 ((numS b s most).1 : Nat)) ∧ RdW w' B g b (numS b s most).2 ∧ Only g w w' := by
  subst hK
  have H := Lib.hid h
  obtain ⟨k, q⟩ := s
  obtain ⟨T, A, n, c, hr, hs, h1, h2, h3, h4⟩ := h
  simp only at hr h4
  have c0 : w.cell? ⟨g, 0, none⟩ = some (.slice A n c) := hr.cell 0 _ rfl
  have c1 : w.cell? ⟨g, 1, none⟩ = some (.int .i64 (k : Int)) := hr.cell 1 _ rfl
  have c2 : w.cell? ⟨g, 2, none⟩ = some (.int .i64 (q : Int)) := hr.cell 2 _ rfl
  have f1 := hr.frozen 1
  have f2 := hr.frozen 2
  have HR := Lib.hid hr
  have HS := Lib.hid hs
  have HC : Hid (n ≤ c ∧ c ≤ maxLen ∧ B ≤ g ∧ k ≤ n) := ⟨h1, h2, h3, h4⟩
  by_cases hq : q = 0
  · subst hq
    obtain ⟨A2, eA2⟩ : ∃ v, (if c = k then A else A.map (·.add k)) = v := ⟨_, rfl⟩
    have hcB : ∀ u : World, (Instr.slice 24 (.slice A n c) (some (.int .i64 (k : Int))) none none).run Try.prog u = .ok (.slice A2 (n - k) (c - k)) u := fun u => by
      rw [run_cut_bytes u A n c k h4 h1, eA2]
    have hs2 : Sl w B A2 (n - k) (b.drop k) := by
      have h1' := hs.drop h4 h1
      rwa [eA2] at h1'
    have HG := Lib.hid (fun (j : Nat) => rget_any (b.drop k) A2 (n - k) (c - k) B (w.drewN j) (hs2.drewN j) (by omega) (by omega))
    have hfit := getV_fits (b.drop k)
    have hlen : (b.drop k).length = n - k := hs2.1
    unfold numS
    simp only [ne_eq, not_true_eq_false, if_false]
    obtain ⟨⟨x, y, z⟩, hv⟩ : ∃ v, getV (b.drop k) = v := ⟨_, rfl⟩
    rw [hv] at HG hfit ⊢
    simp only at HG hfit ⊢
    rw [hlen] at hfit
    have hn63 : n ≤ 9223372036854775807 := by unfold maxLen at h2; omega
    by_cases hz : z = 0
    · subst hz
      simp only [not_true_eq_false, if_false]
      by_cases hm : most < x
      · rw [if_pos hm]
        clear hv hlen hs hs2 h1 h2 h3 h4 hr eA2 H hfit
        go_enter Try.func52, Try.ntmps52
        go_wp2_with fail
        go_quiet ((go_at_call 66; exact quiet_first (HG.out _)))
        go_wp2_with fail
        go_ret
        have hw := (Only.refl g (w.drewN nq)).setCell 2 (.int .i64 5)
        refine ⟨rfl, ⟨T, A, n, c, ?_, (HS.out.drewN nq).only hw HC.out.2.2.1 HR.out.lt, HC.out.1, HC.out.2.1, HC.out.2.2.1, HC.out.2.2.2⟩, ((Only.refl g w).drewN nq).trans hw⟩
        simpa using (HR.out.drewN nq).put 2 (.int .i64 5)
      · rw [if_neg hm]
        have hy : k + y ≤ n := by omega
        have HY := Lib.hid hy
        have wk : IntKind.i64.wrap ((k : Int) + (y : Int)) = ((k + y : Nat) : Int) := by rw [← Int.natCast_add]; exact IntWalk.i64_in _ (by omega)
        clear hv hlen hs hs2 h1 h2 h3 h4 hr eA2 H hfit
        go_enter Try.func52, Try.ntmps52
        go_wp2_with fail
        go_quiet ((go_at_call 66; exact quiet_first (HG.out _)))
        go_wp2_with fail
        go_ret
        have hw := (Only.refl g (w.drewN nq)).setCell 1 (.int .i64 ((k + y : Nat) : Int))
        refine ⟨rfl, ⟨T, A, n, c, ?_, (HS.out.drewN nq).only hw HC.out.2.2.1 HR.out.lt, HC.out.1, HC.out.2.1, HC.out.2.2.1, HY.out⟩, ((Only.refl g w).drewN nq).trans hw⟩
        simpa using (HR.out.drewN nq).put 1 (.int .i64 ((k + y : Nat) : Int))
    · rw [if_pos (by simpa using hz)]
      have t1 : ((z : Int) != 0) = true := by simp; omega
      have t2 : ((z : Int) == 0) = false := by simp; omega
      clear hv hlen hs hs2 h1 h2 h3 h4 hr eA2 H hfit hz
      go_enter Try.func52, Try.ntmps52
      go_wp2_with fail
      go_quiet ((go_at_call 66; exact quiet_first (HG.out _)))
      go_wp2_with fail
      go_ret
      have hw := (Only.refl g (w.drewN nq)).setCell 2 (.int .i64 (z : Int))
      refine ⟨rfl, ⟨T, A, n, c, ?_, (HS.out.drewN nq).only hw HC.out.2.2.1 HR.out.lt, HC.out.1, HC.out.2.1, HC.out.2.2.1, HC.out.2.2.2⟩, ((Only.refl g w).drewN nq).trans hw⟩
      simpa using (HR.out.drewN nq).put 2 (.int .i64 (z : Int))
  · have e : numS b (k, q) most = (0, (k, q)) := by unfold numS; rw [if_pos (by simpa using hq)]
    rw [e]
    have t1 : ((q : Int) != 0) = true := by simp; omega
    clear hs h1 h2 h3 h4 hr e hq
    go_enter Try.func52, Try.ntmps52
    go_wp2_with fail
    go_ret
    exact ⟨rfl, H.out, Only.refl _ _⟩

/-- what the document's reader answers that reads bytes -/
def ReadsR (w : World) (B g : Nat) (b : List UInt8) (r : List UInt8 × (Nat × Nat)) (e : Ending) (w' : World) : Prop :=
  ∃ A m c, e = .returned (.slice A m c) ∧ Own w' w.heap.size (.slice A m c) m r.1 ∧ m ≤ c ∧ c ≤ maxLen ∧ RdW w' B g b r.2 ∧ Only g w w'

set_option maxHeartbeats 1000000 in
theorem rbytes_any (b : List UInt8) (s : Nat × Nat) (K : Int) (m : Nat) (hK : K = (m : Int)) (hmo : m ≤ 1000000) (B g : Nat) (w : World) (h : RdW w B g b s) :
    Calls Try.prog 53 #[.pointer (some ⟨g, 0, none⟩), .int .i64 K] w (ReadsR w B g b (bytesS b s m)) := by
  subst hK
  have H := Lib.hid h
  obtain ⟨k, q⟩ := s
  obtain ⟨T, A, n, c, hr, hs, h1, h2, h3, h4⟩ := h
  simp only at hr h4
  have c0 : w.cell? ⟨g, 0, none⟩ = some (.slice A n c) := hr.cell 0 _ rfl
  have c1 : w.cell? ⟨g, 1, none⟩ = some (.int .i64 (k : Int)) := hr.cell 1 _ rfl
  have c2 : w.cell? ⟨g, 2, none⟩ = some (.int .i64 (q : Int)) := hr.cell 2 _ rfl
  have f1 := hr.frozen 1
  have f2 := hr.frozen 2
  have HR := Lib.hid hr
  have HS := Lib.hid hs
  have HC : Hid (n ≤ c ∧ c ≤ maxLen ∧ B ≤ g ∧ k ≤ n) := ⟨h1, h2, h3, h4⟩
  by_cases hq : q = 0
  · subst hq
    have hlen : b.length = n := hs.1
    have hn63 : n ≤ 9223372036854775807 := by unfold maxLen at h2; omega
    unfold bytesS
    simp only [ne_eq, not_true_eq_false, if_false]
    rw [hlen]
    obtain ⟨d, hd⟩ : ∃ d, n - k = d := ⟨_, rfl⟩
    have wd : IntKind.i64.wrap ((n : Int) - (k : Int)) = (d : Int) := by rw [show (n : Int) - (k : Int) = (d : Int) by omega]; exact IntWalk.i64_in _ (by omega)
    rw [hd]
    by_cases hm : d < m
    · rw [if_pos hm]
      clear hlen hs h1 h2 h3 h4 hr H hd
      go_enter Try.func53, Try.ntmps53
      go_wp2_with fail
      go_quiet (fail)
      go_wp2_with fail
      go_ret
      have hw := (Only.refl g (w.drewN nq)).setCell 2 (.int .i64 3)
      refine ⟨none, 0, 0, rfl, Own.nil _ _, Nat.le_refl _, by simp [maxLen], ⟨T, A, n, c, ?_, (HS.out.drewN nq).only hw HC.out.2.2.1 HR.out.lt, HC.out.1, HC.out.2.1, HC.out.2.2.1, HC.out.2.2.2⟩, ((Only.refl g w).drewN nq).trans hw⟩
      simpa using (HR.out.drewN nq).put 2 (.int .i64 3)
    · rw [if_neg hm]
      have hkm : k + m ≤ n := by omega
      have Hkm := Lib.hid hkm
      obtain ⟨r, hr'⟩ : ∃ r, k + m = r := ⟨_, rfl⟩
      have wk : IntKind.i64.wrap ((k : Int) + (m : Int)) = (r : Int) := by rw [← Int.natCast_add, hr']; exact IntWalk.i64_in _ (by omega)
      have wk2 : IntKind.i64.wrap ((r : Int) - (m : Int)) = (k : Int) := by rw [show (r : Int) - (m : Int) = (k : Int) by omega]; exact IntWalk.i64_in _ (by omega)
      obtain ⟨A2, eA2⟩ : ∃ v, (if c = k then A else A.map (·.add k)) = v := ⟨_, rfl⟩
      have hcB : ∀ u : World, (Instr.slice 24 (.slice A n c) (some (.int .i64 (k : Int))) (some (.int .i64 (r : Int))) none).run Try.prog u = .ok (.slice A2 m (c - k)) u := fun u => by
        rw [run_cut2 u A n c k r (by omega) (by omega), eA2, show r - k = m by omega]
      have HS2 : Hid (Sl w B A2 m ((b.drop k).take m)) := by
        have h1' := (hs.drop h4 h1).take (k := m) (by omega)
        rwa [eA2] at h1'
      have Hr := Lib.hid hr'
      have HN1 : Hid (∀ nq, Rw ((w.drewN nq).setCell ⟨g, 1, none⟩ (.int .i64 (r : Int))) g T [.slice A n c, .int .i64 (r : Int), .int .i64 0]) := fun nq => by
        simpa using (hr.drewN nq).put 1 (.int .i64 (r : Int))
      have HO1 : Hid (∀ nq, Only g w ((w.drewN nq).setCell ⟨g, 1, none⟩ (.int .i64 (r : Int)))) := fun nq => ((Only.refl g w).drewN nq).setCell _ _
      clear hlen hs h1 h2 h3 h4 hr H hd hr' eA2 hkm
      go_enter Try.func53, Try.ntmps53
      go_wp2_with fail
      go_quiet (fail)
      go_wp2_with fail
      generalize hu : (w.drewN _).setCell _ _ = u
      have R1 : Rw u g T [.slice A n c, .int .i64 (r : Int), .int .i64 0] := hu ▸ HN1.out _
      have O1 : Only g w u := hu ▸ HO1.out _
      clear hu
      have d0 : u.cell? ⟨g, 0, none⟩ = some (.slice A n c) := R1.cell 0 _ rfl
      have d1 : u.cell? ⟨g, 1, none⟩ = some (.int .i64 (r : Int)) := R1.cell 1 _ rfl
      have HR1 := Lib.hid R1
      have HOu := Lib.hid O1
      clear R1 O1 c0 c1 c2 f1 f2
      refine wp_tail 15 (by kernel_rfl) (by kernel_rfl) ?_
      simp only [List.take_succ_cons, List.take_zero, List.drop_succ_cons, List.drop_zero]
      repeat still_step
      refine wpStill_nil ?_
      have HSu : Hid (Sl u.drew B A2 m ((b.drop k).take m)) := (HS2.out.only HOu.out HC.out.2.2.1 HR.out.lt).drew
      go_wp2_with (at_builtin; refine wpList_append_bytes rfl _ _ rfl u.drew.heap.size (.slice none 0 0) 0 [] rfl (Own.nil _ _) B A2 m (c - k) ((b.drop k).take m) rfl HSu.out (by omega) (Nat.le_refl _) u.drew (Below.refl _ _) ?_; intro A3 c3 w3 ho3 hle3 hc3 hg3 hb3)
      go_ret
      simp only [Nat.zero_add, List.nil_append] at ho3 hle3
      have hbu : Below u.heap.size u w3 := ((Below.refl _ _).drew).trans hb3
      have hon := HOu.out.trans (Only.of_below hbu)
      refine ⟨A3, m, c3, by simp, ho3.base HOu.out.size, hle3, hc3, ⟨T, A, n, c, ?_, HS.out.only hon HC.out.2.2.1 HR.out.lt, HC.out.1, HC.out.2.1, HC.out.2.2.1, Hkm.out⟩, hon⟩
      simpa [Hr.out] using HR1.out.below hbu
  · have e : bytesS b (k, q) m = ([], (k, q)) := by unfold bytesS; rw [if_pos (by simpa using hq)]
    rw [e]
    have t1 : ((q : Int) != 0) = true := by simp; omega
    clear hs h1 h2 h3 h4 hr e hq
    go_enter Try.func53, Try.ntmps53
    go_wp2_with fail
    go_ret
    exact ⟨none, 0, 0, rfl, Own.nil _ _, Nat.le_refl _, by simp [maxLen], H.out, Only.refl _ _⟩

end Go.Proofs.Ytafbhjhdnchfbaa


/-
  The ranges of an Ack as the document's reader takes them, by places.
-/
namespace Go.Proofs.Ytafbhjhdnchfbaa
set_option linter.unusedVariables false

theorem numX_code {l : List UInt8} {most e : Nat} (h : numX l most = .error e) : e ≠ 0 := by
  unfold numX at h
  split at h
  · rename_i hz
    cases h
    exact hz
  · split at h
    · cases h; omega
    · cases h
theorem numS_bad (b : List UInt8) (s : Nat × Nat) (most : Nat) (h : s.2 ≠ 0) : numS b s most = (0, s) := by unfold numS; rw [if_pos h]
theorem numS_lt (b : List UInt8) (s : Nat × Nat) (most : Nat) : (numS b s most).1 < 4611686018427387904 := by
  have h := (getV_fits (b.drop s.1)).2.1
  unfold numS
  split
  · simp
  · split
    · simp
    · split
      · simp
      · exact h
theorem numS_le (b : List UInt8) (s : Nat × Nat) (most : Nat) : (numS b s most).1 ≤ most := by
  unfold numS
  split
  · simp
  · split
    · simp
    · split
      · simp
      · simp only; omega
/-- the ranges behind the first, as the document's reader takes them: lo the lowest of the last one -/
def moreS (b : List UInt8) : Nat → Nat → Nat × Nat → List (Nat × Nat) → List (Nat × Nat) × (Nat × Nat)
  | 0, _, s, acc => (acc, s)
  | k + 1, lo, s, acc =>
    if s.2 ≠ 0 then (acc, s)
    else if (numS b s maxV).2.2 ≠ 0 then (acc, (numS b s maxV).2)
    else if lo < 2 ∨ lo - 2 < (numS b s maxV).1 then (acc, ((numS b s maxV).2.1, 5))
    else if (numS b (numS b s maxV).2 (lo - 2 - (numS b s maxV).1)).2.2 ≠ 0 then (acc, (numS b (numS b s maxV).2 (lo - 2 - (numS b s maxV).1)).2)
    else moreS b k (lo - 2 - (numS b s maxV).1 - (numS b (numS b s maxV).2 (lo - 2 - (numS b s maxV).1)).1) (numS b (numS b s maxV).2 (lo - 2 - (numS b s maxV).1)).2
      (acc ++ [(lo - 2 - (numS b s maxV).1 - (numS b (numS b s maxV).2 (lo - 2 - (numS b s maxV).1)).1, lo - 2 - (numS b s maxV).1)])
/-- what one has: its delay, its ranges, where the reader stands -/
def ackS (b : List UInt8) (s : Nat × Nat) : (Nat × List (Nat × Nat)) × (Nat × Nat) :=
  let a := numS b s maxV
  let d := numS b a.2 maxV
  let m := numS b d.2 7
  let l := numS b m.2 a.1
  if l.2.2 ≠ 0 then ((d.1, []), l.2) else ((d.1, (moreS b m.1 (a.1 - l.1) l.2 [(a.1 - l.1, a.1)]).1), (moreS b m.1 (a.1 - l.1) l.2 [(a.1 - l.1, a.1)]).2)
theorem moreS_ok (b : List UInt8) : ∀ (k lo p : Nat) (acc rs : List (Nat × Nat)) (l : List UInt8), moreX k lo (b.drop p) = .ok (rs, l) → ∃ p', moreS b k lo (p, 0) acc = (acc ++ rs, (p', 0)) ∧ l = b.drop p' ∧ p ≤ p'
  | 0, lo, p, acc, rs, l, h => by
    unfold moreX at h
    cases h
    exact ⟨p, by simp [moreS], rfl, Nat.le_refl _⟩
  | k + 1, lo, p, acc, rs, l, h => by
    unfold moreX at h
    unfold moreS
    rw [if_neg (by simp)]
    rcases hg : numX (b.drop p) maxV with e | ⟨g, lg⟩
    · rw [hg] at h; cases h
    · rw [hg, thenX_ok] at h
      simp only at h
      obtain ⟨p1, e1, rfl, h1⟩ := numS_ok b p maxV g lg hg
      rw [e1]
      simp only
      rw [if_neg (by simp)]
      split at h
      · cases h
      · rename_i hc
        rw [if_neg hc]
        rcases hm : numX (b.drop p1) (lo - 2 - g) with e | ⟨m, lm⟩
        · rw [hm] at h; cases h
        · rw [hm, thenX_ok] at h
          simp only at h
          obtain ⟨p2, e2, rfl, h2⟩ := numS_ok b p1 (lo - 2 - g) m lm hm
          rw [e2]
          simp only
          rw [if_neg (by simp)]
          rcases hr : moreX k (lo - 2 - g - m) (b.drop p2) with e | ⟨r, lr⟩
          · rw [hr] at h; cases h
          · rw [hr, thenX_ok] at h
            cases h
            obtain ⟨p3, e3, hl, h3⟩ := moreS_ok b k (lo - 2 - g - m) p2 (acc ++ [(lo - 2 - g - m, lo - 2 - g)]) r _ hr
            exact ⟨p3, by rw [e3]; simp, hl, by omega⟩
theorem moreS_err (b : List UInt8) : ∀ (k lo p : Nat) (acc : List (Nat × Nat)) (e : Nat), moreX k lo (b.drop p) = .error e → (moreS b k lo (p, 0) acc).2.2 = e ∧ e ≠ 0
  | 0, lo, p, acc, e, h => by unfold moreX at h; cases h
  | k + 1, lo, p, acc, e, h => by
    unfold moreX at h
    unfold moreS
    rw [if_neg (by simp)]
    rcases hg : numX (b.drop p) maxV with e0 | ⟨g, lg⟩
    · rw [hg] at h
      cases h
      have hne := numX_code hg
      rw [numS_err b p maxV _ hg]
      simp only
      rw [if_pos hne]
      exact ⟨rfl, hne⟩
    · rw [hg, thenX_ok] at h
      simp only at h
      obtain ⟨p1, e1, rfl, h1⟩ := numS_ok b p maxV g lg hg
      rw [e1]
      simp only
      rw [if_neg (by simp)]
      split at h
      · rename_i hc
        rw [if_pos hc]
        cases h
        exact ⟨rfl, by omega⟩
      · rename_i hc
        rw [if_neg hc]
        rcases hm : numX (b.drop p1) (lo - 2 - g) with e0 | ⟨m, lm⟩
        · rw [hm] at h
          cases h
          have hne := numX_code hm
          rw [numS_err b p1 (lo - 2 - g) _ hm]
          simp only
          rw [if_pos hne]
          exact ⟨rfl, hne⟩
        · rw [hm, thenX_ok] at h
          simp only at h
          obtain ⟨p2, e2, rfl, h2⟩ := numS_ok b p1 (lo - 2 - g) m lm hm
          rw [e2]
          simp only
          rw [if_neg (by simp)]
          rcases hr : moreX k (lo - 2 - g - m) (b.drop p2) with e0 | ⟨r, lr⟩
          · rw [hr] at h
            cases h
            exact moreS_err b k (lo - 2 - g - m) p2 _ _ hr
          · rw [hr, thenX_ok] at h; cases h
theorem ackS_ok (b : List UInt8) (p : Nat) (f : Fr) (l : List UInt8) (h : ackX (b.drop p) = .ok (f, l)) : ∃ d rs p', ackS b (p, 0) = ((d, rs), (p', 0)) ∧ f = { Fr.of 2 with delay := d, rs := rs } ∧ l = b.drop p' ∧ p ≤ p' := by
  unfold ackX at h
  unfold ackS
  rcases ha : numX (b.drop p) maxV with e | ⟨a, la⟩
  · rw [ha] at h; cases h
  rw [ha, thenX_ok] at h
  simp only at h
  obtain ⟨p1, e1, rfl, h1⟩ := numS_ok b p maxV a la ha
  rcases hd : numX (b.drop p1) maxV with e | ⟨d, ld⟩
  · rw [hd] at h; cases h
  rw [hd, thenX_ok] at h
  simp only at h
  obtain ⟨p2, e2, rfl, h2⟩ := numS_ok b p1 maxV d ld hd
  rcases hk : numX (b.drop p2) 7 with e | ⟨k, lk⟩
  · rw [hk] at h; cases h
  rw [hk, thenX_ok] at h
  simp only at h
  obtain ⟨p3, e3, rfl, h3⟩ := numS_ok b p2 7 k lk hk
  rcases hm : numX (b.drop p3) a with e | ⟨m, lm⟩
  · rw [hm] at h; cases h
  rw [hm, thenX_ok] at h
  simp only at h
  obtain ⟨p4, e4, rfl, h4⟩ := numS_ok b p3 a m lm hm
  rcases hr : moreX k (a - m) (b.drop p4) with e | ⟨r, lr⟩
  · rw [hr] at h; cases h
  rw [hr, thenX_ok] at h
  cases h
  obtain ⟨p5, e5, hl, h5⟩ := moreS_ok b k (a - m) p4 [(a - m, a)] r _ hr
  refine ⟨d, (a - m, a) :: r, p5, ?_, rfl, hl, by omega⟩
  simp only [e1, e2, e3, e4, e5]
  rw [if_neg (by simp)]
  rfl
theorem ackS_err (b : List UInt8) (p e : Nat) (h : ackX (b.drop p) = .error e) : (ackS b (p, 0)).2.2 = e ∧ e ≠ 0 := by
  unfold ackX at h
  unfold ackS
  rcases ha : numX (b.drop p) maxV with e0 | ⟨a, la⟩
  · rw [ha] at h
    cases h
    have hne := numX_code ha
    simp only [numS_err b p maxV _ ha]
    rw [numS_bad b (p, e) maxV hne]
    simp only
    rw [numS_bad b (p, e) 7 hne]
    simp only
    rw [numS_bad b (p, e) 0 hne]
    simp only
    rw [if_pos hne]
    exact ⟨rfl, hne⟩
  rw [ha, thenX_ok] at h
  simp only at h
  obtain ⟨p1, e1, rfl, h1⟩ := numS_ok b p maxV a la ha
  rcases hd : numX (b.drop p1) maxV with e0 | ⟨d, ld⟩
  · rw [hd] at h
    cases h
    have hne := numX_code hd
    simp only [e1, numS_err b p1 maxV _ hd]
    rw [numS_bad b (p1, e) 7 hne]
    simp only
    rw [numS_bad b (p1, e) a hne]
    simp only
    rw [if_pos hne]
    exact ⟨rfl, hne⟩
  rw [hd, thenX_ok] at h
  simp only at h
  obtain ⟨p2, e2, rfl, h2⟩ := numS_ok b p1 maxV d ld hd
  rcases hk : numX (b.drop p2) 7 with e0 | ⟨k, lk⟩
  · rw [hk] at h
    cases h
    have hne := numX_code hk
    simp only [e1, e2, numS_err b p2 7 _ hk]
    rw [numS_bad b (p2, e) a hne]
    simp only
    rw [if_pos hne]
    exact ⟨rfl, hne⟩
  rw [hk, thenX_ok] at h
  simp only at h
  obtain ⟨p3, e3, rfl, h3⟩ := numS_ok b p2 7 k lk hk
  rcases hm : numX (b.drop p3) a with e0 | ⟨m, lm⟩
  · rw [hm] at h
    cases h
    have hne := numX_code hm
    simp only [e1, e2, e3, numS_err b p3 a _ hm]
    rw [if_pos hne]
    exact ⟨rfl, hne⟩
  rw [hm, thenX_ok] at h
  simp only at h
  obtain ⟨p4, e4, rfl, h4⟩ := numS_ok b p3 a m lm hm
  rcases hr : moreX k (a - m) (b.drop p4) with e0 | ⟨r, lr⟩
  · rw [hr] at h
    cases h
    obtain ⟨e5, hne⟩ := moreS_err b k (a - m) p4 [(a - m, a)] _ hr
    simp only [e1, e2, e3, e4]
    rw [if_neg (by simp)]
    exact ⟨e5, hne⟩
  rw [hr, thenX_ok] at h
  cases h
end Go.Proofs.Ytafbhjhdnchfbaa

/-
  What the document's Get tells, by places (pure): a kind at a time.
-/
namespace Go.Proofs.Ytafbhjhdnchfbaa
set_option linter.unusedVariables false

def tellY (n : Nat) : Except Nat (Fr × List UInt8) → (Fr × Nat) × Nat
  | .ok (f, r) => ((f, n - r.length), 0)
  | .error e => ((Fr.of 0, 0), e)
/-- what is told of a frame and of where the reader stands -/
def endS (f : Fr) (s : Nat × Nat) : (Fr × Nat) × Nat := if s.2 = 0 then ((f, s.1), 0) else ((Fr.of 0, 0), s.2)
theorem bytesS_bad (b : List UInt8) (s : Nat × Nat) (k : Nat) (h : s.2 ≠ 0) : bytesS b s k = ([], s) := by unfold bytesS; rw [if_pos h]
theorem endS_ok {b : List UInt8} {p : Nat} (f : Fr) (h : p ≤ b.length) : endS f (p, 0) = tellY b.length (.ok (f, b.drop p)) := by
  unfold endS tellY
  simp only [if_true, List.length_drop]
  rw [show b.length - (b.length - p) = p by omega]
theorem endS_err {n e p : Nat} (f : Fr) (h : e ≠ 0) : endS f (p, e) = tellY n (.error e) := by
  unfold endS tellY
  simp only
  rw [if_neg h]
theorem bytesX_code {l : List UInt8} {k e : Nat} (h : bytesX l k = .error e) : e ≠ 0 := by
  unfold bytesX at h
  split at h
  · cases h; omega
  · cases h
/-- data behind a place -/
def dataS (b : List UInt8) (s : Nat × Nat) : (Nat × List UInt8) × (Nat × Nat) :=
  let o := numS b s maxV
  let k := numS b o.2 16383
  let d := bytesS b (if k.2.2 = 0 ∧ maxV < o.1 + k.1 then (k.2.1, 5) else k.2) k.1
  ((o.1, d.1), d.2)
theorem dataS_dead (b : List UInt8) (s : Nat × Nat) (h : s.2 ≠ 0) : (dataS b s).2 = s := by
  unfold dataS
  simp only [numS_bad b s _ h]
  rw [if_neg (fun hh => h hh.1), bytesS_bad b s _ h]
theorem dataS_ok (b : List UInt8) (p : Nat) (f g : Fr) (l : List UInt8) (h : dataX f (b.drop p) = .ok (g, l)) : ∃ o d p', dataS b (p, 0) = ((o, d), (p', 0)) ∧ g = { f with off := o, data := d } ∧ l = b.drop p' := by
  unfold dataX at h
  unfold dataS
  rcases ho : numX (b.drop p) maxV with e | ⟨o, lo⟩
  · rw [ho] at h; cases h
  rw [ho, thenX_ok] at h
  simp only at h
  obtain ⟨p1, e1, rfl, _⟩ := numS_ok b p maxV o lo ho
  rcases hk : numX (b.drop p1) 16383 with e | ⟨k, lk⟩
  · rw [hk] at h; cases h
  rw [hk, thenX_ok] at h
  simp only at h
  obtain ⟨p2, e2, rfl, _⟩ := numS_ok b p1 16383 k lk hk
  split at h
  · cases h
  rename_i hc
  rcases hd : bytesX (b.drop p2) k with e | ⟨d, ld⟩
  · rw [hd] at h; cases h
  rw [hd, thenX_ok] at h
  cases h
  obtain ⟨e3, hl⟩ := bytesS_ok b p2 k d ld hd
  refine ⟨o, d, p2 + k, ?_, rfl, hl⟩
  simp only [e1, e2]
  rw [if_neg (fun hh => hc hh.2), e3]
theorem dataS_err (b : List UInt8) (p : Nat) (f : Fr) (e : Nat) (h : dataX f (b.drop p) = .error e) : (dataS b (p, 0)).2.2 = e ∧ e ≠ 0 := by
  unfold dataX at h
  unfold dataS
  rcases ho : numX (b.drop p) maxV with e0 | ⟨o, lo⟩
  · rw [ho] at h
    cases h
    have hne := numX_code ho
    simp only [numS_err b p maxV _ ho]
    rw [numS_bad b (p, e) 16383 hne]
    simp only
    rw [if_neg (fun hh => hne hh.1), bytesS_bad b (p, e) _ hne]
    exact ⟨rfl, hne⟩
  rw [ho, thenX_ok] at h
  simp only at h
  obtain ⟨p1, e1, rfl, _⟩ := numS_ok b p maxV o lo ho
  rcases hk : numX (b.drop p1) 16383 with e0 | ⟨k, lk⟩
  · rw [hk] at h
    cases h
    have hne := numX_code hk
    simp only [e1, numS_err b p1 16383 _ hk]
    rw [if_neg (fun hh => hne hh.1), bytesS_bad b (p1, e) _ hne]
    exact ⟨rfl, hne⟩
  rw [hk, thenX_ok] at h
  simp only at h
  obtain ⟨p2, e2, rfl, _⟩ := numS_ok b p1 16383 k lk hk
  simp only [e1, e2]
  split at h
  · rename_i hc
    cases h
    rw [if_pos ⟨by first | rfl | trivial, hc⟩, bytesS_bad b (p2, 5) _ (by simp)]
    exact ⟨rfl, by omega⟩
  rename_i hc
  rw [if_neg (fun hh => hc hh.2)]
  rcases hd : bytesX (b.drop p2) k with e0 | ⟨d, ld⟩
  · rw [hd] at h
    cases h
    rw [bytesS_err b p2 k _ hd]
    exact ⟨rfl, bytesX_code hd⟩
  · rw [hd, thenX_ok] at h; cases h
section
variable {b r : List UInt8} {x : UInt8}
theorem drop_one (hb : b = x :: r) : b.drop 1 = r := by subst hb; rfl
theorem pair_eta (s : Nat × Nat) (e : Nat) (h : s.2 = e) : s = (s.1, e) := by subst h; rfl
theorem g_num (hb : b = x :: r) (hx : x.toNat = 16 ∨ x.toNat = 25) (v : Nat) (s : Nat × Nat) (h : numS b (1, 0) maxV = (v, s)) (hs : s.1 ≤ b.length) : tellY b.length (getX b) = endS { Fr.of (x.toNat : Int) with n := v } s := by
  have hg : getX b = thenX (numX (b.drop 1) maxV) fun i => .ok ({ Fr.of (x.toNat : Int) with n := i.1 }, i.2) := by
    rw [drop_one hb, hb, getX]
    rw [if_neg (by omega), if_neg (by omega), if_neg (by omega), if_neg (by omega), if_neg (by omega), if_pos hx]
  rw [hg]
  rcases hn : numX (b.drop 1) maxV with e | ⟨i, l⟩
  · rw [numS_err b 1 maxV e hn] at h
    cases h
    rw [thenX_err, endS_err _ (numX_code hn)]
  · obtain ⟨p, e1, rfl, _⟩ := numS_ok b 1 maxV i l hn
    rw [e1] at h
    cases h
    rw [thenX_ok, endS_ok _ hs]
theorem g_close (hb : b = x :: r) (hx : x.toNat = 28) (v y z : Nat) (s1 s2 s : Nat × Nat) (h1 : numS b (1, 0) maxV = (v, s1)) (h2 : numS b s1 0 = (y, s2)) (h3 : numS b s2 0 = (z, s)) (hs : s.1 ≤ b.length) : tellY b.length (getX b) = endS { Fr.of (x.toNat : Int) with n := v } s := by
  have hg : getX b = thenX (numX (b.drop 1) maxV) fun i => thenX (numX i.2 0) fun k => thenX (numX k.2 0) fun m => .ok ({ Fr.of (x.toNat : Int) with n := i.1 }, m.2) := by
    rw [drop_one hb, hb, getX]
    rw [if_neg (by omega), if_neg (by omega), if_neg (by omega), if_neg (by omega), if_neg (by omega), if_neg (by omega), if_pos hx, hx]
    rfl
  rw [hg]
  rcases hn : numX (b.drop 1) maxV with e | ⟨i, l⟩
  · have hne := numX_code hn
    rw [numS_err b 1 maxV e hn] at h1
    cases h1
    rw [numS_bad b (1, e) 0 hne] at h2
    cases h2
    rw [numS_bad b (1, e) 0 hne] at h3
    cases h3
    rw [thenX_err, endS_err _ hne]
  obtain ⟨p, e1, rfl, _⟩ := numS_ok b 1 maxV i l hn
  rw [e1] at h1
  cases h1
  rw [thenX_ok]
  simp only
  rcases hk : numX (b.drop p) 0 with e | ⟨k, l⟩
  · have hne := numX_code hk
    rw [numS_err b p 0 e hk] at h2
    cases h2
    rw [numS_bad b (p, e) 0 hne] at h3
    cases h3
    rw [thenX_err, endS_err _ hne]
  obtain ⟨p2, e2, rfl, _⟩ := numS_ok b p 0 k l hk
  rw [e2] at h2
  cases h2
  rw [thenX_ok]
  simp only
  rcases hm : numX (b.drop p2) 0 with e | ⟨m, l⟩
  · rw [numS_err b p2 0 e hm] at h3
    cases h3
    rw [thenX_err, endS_err _ (numX_code hm)]
  · obtain ⟨p3, e3, rfl, _⟩ := numS_ok b p2 0 m l hm
    rw [e3] at h3
    cases h3
    rw [thenX_ok, endS_ok _ hs]
theorem g_eight (hb : b = x :: r) (hx : x.toNat = 26 ∨ x.toNat = 27) (d : List UInt8) (s : Nat × Nat) (h : bytesS b (1, 0) 8 = (d, s)) (hs : s.1 ≤ b.length) : tellY b.length (getX b) = endS { Fr.of (x.toNat : Int) with data := d } s := by
  have hg : getX b = thenX (bytesX (b.drop 1) 8) fun i => .ok ({ Fr.of (x.toNat : Int) with data := i.1 }, i.2) := by
    rw [drop_one hb, hb, getX]
    rw [if_neg (by omega), if_neg (by omega), if_neg (by omega), if_neg (by omega), if_neg (by omega), if_neg (by omega), if_neg (by omega), if_neg (by omega), if_pos hx]
  rw [hg]
  rcases hn : bytesX (b.drop 1) 8 with e | ⟨i, l⟩
  · rw [bytesS_err b 1 8 e hn] at h
    cases h
    rw [thenX_err, endS_err _ (bytesX_code hn)]
  · obtain ⟨e1, rfl⟩ := bytesS_ok b 1 8 i l hn
    rw [e1] at h
    cases h
    rw [thenX_ok, endS_ok _ hs]
theorem g_ack (hb : b = x :: r) (hx : x.toNat = 2) (d : Nat) (rs : List (Nat × Nat)) (s : Nat × Nat) (h : ackS b (1, 0) = ((d, rs), s)) (hs : s.1 ≤ b.length) : tellY b.length (getX b) = endS { Fr.of (x.toNat : Int) with delay := d, rs := rs } s := by
  have hg : getX b = ackX (b.drop 1) := by
    rw [drop_one hb, hb, getX]
    rw [if_neg (by omega), if_neg (by omega), if_pos hx]
  rw [hg]
  rcases ha : ackX (b.drop 1) with e | ⟨f, l⟩
  · obtain ⟨h1, h2⟩ := ackS_err b 1 e ha
    rw [h] at h1
    rw [pair_eta s e h1, endS_err _ h2]
  · obtain ⟨d', rs', p', h1, rfl, rfl, _⟩ := ackS_ok b 1 f l ha
    rw [h1] at h
    cases h
    rw [endS_ok _ hs, hx]
    rfl
theorem g_crypto (hb : b = x :: r) (hx : x.toNat = 6) (o : Nat) (d : List UInt8) (s : Nat × Nat) (h : dataS b (1, 0) = ((o, d), s)) (hs : s.1 ≤ b.length) : tellY b.length (getX b) = endS { Fr.of (x.toNat : Int) with off := o, data := d } s := by
  have hg : getX b = dataX (Fr.of 6) (b.drop 1) := by
    rw [drop_one hb, hb, getX]
    rw [if_neg (by omega), if_neg (by omega), if_neg (by omega), if_pos hx]
  rw [hg]
  rcases ha : dataX (Fr.of 6) (b.drop 1) with e | ⟨f, l⟩
  · obtain ⟨h1, h2⟩ := dataS_err b 1 _ e ha
    rw [h] at h1
    rw [pair_eta s e h1, endS_err _ h2]
  · obtain ⟨o', d', p', h1, rfl, rfl⟩ := dataS_ok b 1 _ f l ha
    rw [h1] at h
    cases h
    rw [endS_ok _ hs, hx]
    rfl
theorem g_stream (hb : b = x :: r) (hx : x.toNat = 14 ∨ x.toNat = 15) (i o : Nat) (d : List UInt8) (s1 s : Nat × Nat) (h1 : numS b (1, 0) maxV = (i, s1)) (h : dataS b s1 = ((o, d), s)) (hs : s.1 ≤ b.length) :
    tellY b.length (getX b) = endS { Fr.of 8 with id := i, fin := decide (x.toNat = 15), off := o, data := d } s := by
  have hg : getX b = thenX (numX (b.drop 1) maxV) fun i => dataX { Fr.of 8 with id := i.1, fin := decide (x.toNat = 15) } i.2 := by
    rw [drop_one hb, hb, getX]
    rw [if_neg (by omega), if_neg (by omega), if_neg (by omega), if_neg (by omega), if_pos hx]
  rw [hg]
  rcases hn : numX (b.drop 1) maxV with e | ⟨i', l⟩
  · have hne := numX_code hn
    rw [numS_err b 1 maxV e hn] at h1
    cases h1
    have h2 := dataS_dead b (1, e) hne
    rw [h] at h2
    cases h2
    rw [thenX_err, endS_err _ hne]
  obtain ⟨p, e1, rfl, _⟩ := numS_ok b 1 maxV i' l hn
  rw [e1] at h1
  cases h1
  rw [thenX_ok]
  simp only
  rcases ha : dataX { Fr.of 8 with id := i, fin := decide (x.toNat = 15) } (b.drop p) with e | ⟨f, l⟩
  · obtain ⟨h1, h2⟩ := dataS_err b p _ e ha
    rw [h] at h1
    rw [pair_eta s e h1, endS_err _ h2]
  · obtain ⟨o', d', p', h1, rfl, rfl⟩ := dataS_ok b p _ f l ha
    rw [h1] at h
    cases h
    rw [endS_ok _ hs]
theorem g_cid (hb : b = x :: r) (hx : x.toNat = 24) (v y : Nat) (o cd tk : List UInt8) (s1 s2 s3 s4 s5 s : Nat × Nat) (h1 : numS b (1, 0) maxV = (v, s1)) (h2 : numS b s1 0 = (y, s2)) (h3 : bytesS b s2 1 = (o, s3)) (h4 : (if s3.2 = 0 ∧ o ≠ [8] then (s3.1, 5) else s3) = s4) (h5 : bytesS b s4 8 = (cd, s5)) (h6 : bytesS b s5 16 = (tk, s)) (hs : s.1 ≤ b.length) :
    tellY b.length (getX b) = endS { Fr.of (x.toNat : Int) with n := v, cid := cd, tok := tk } s := by
  have hg : getX b = thenX (numX (b.drop 1) maxV) fun i => thenX (numX i.2 0) fun k => thenX (bytesX k.2 1) fun o =>
      if o.1 ≠ [8] then .error 5 else thenX (bytesX o.2 8) fun c => thenX (bytesX c.2 16) fun t => .ok ({ Fr.of (x.toNat : Int) with n := i.1, cid := c.1, tok := t.1 }, t.2) := by
    rw [drop_one hb, hb, getX]
    rw [if_neg (by omega), if_neg (by omega), if_neg (by omega), if_neg (by omega), if_neg (by omega), if_neg (by omega), if_neg (by omega), if_pos hx, hx]
    rfl
  have dead : ∀ p e : Nat, e ≠ 0 → s4 = (p, e) → endS { Fr.of (x.toNat : Int) with n := v, cid := cd, tok := tk } s = tellY b.length (.error e) := fun p e he hh => by
    rw [hh, bytesS_bad b (p, e) 8 he] at h5
    cases h5
    rw [bytesS_bad b (p, e) 16 he] at h6
    cases h6
    rw [endS_err _ he]
  have dead3 : ∀ p e : Nat, e ≠ 0 → s3 = (p, e) → endS { Fr.of (x.toNat : Int) with n := v, cid := cd, tok := tk } s = tellY b.length (.error e) := fun p e he hh => by
    rw [hh, if_neg (fun h => he h.1)] at h4
    exact dead p e he h4.symm
  rw [hg]
  rcases hn : numX (b.drop 1) maxV with e | ⟨i, l⟩
  · have hne := numX_code hn
    rw [numS_err b 1 maxV e hn] at h1
    cases h1
    rw [numS_bad b (1, e) 0 hne] at h2
    cases h2
    rw [bytesS_bad b (1, e) 1 hne] at h3
    cases h3
    rw [thenX_err, dead3 1 e hne rfl]
  obtain ⟨p, e1, rfl, _⟩ := numS_ok b 1 maxV i l hn
  rw [e1] at h1
  cases h1
  rw [thenX_ok]
  simp only
  rcases hk : numX (b.drop p) 0 with e | ⟨k, l⟩
  · have hne := numX_code hk
    rw [numS_err b p 0 e hk] at h2
    cases h2
    rw [bytesS_bad b (p, e) 1 hne] at h3
    cases h3
    rw [thenX_err, dead3 p e hne rfl]
  obtain ⟨p2, e2, rfl, _⟩ := numS_ok b p 0 k l hk
  rw [e2] at h2
  cases h2
  rw [thenX_ok]
  simp only
  rcases ho : bytesX (b.drop p2) 1 with e | ⟨o', l⟩
  · have hne := bytesX_code ho
    rw [bytesS_err b p2 1 e ho] at h3
    cases h3
    rw [thenX_err, dead3 p2 e hne rfl]
  obtain ⟨e3, rfl⟩ := bytesS_ok b p2 1 o' l ho
  rw [e3] at h3
  cases h3
  rw [thenX_ok]
  simp only
  by_cases h8 : o ≠ [8]
  · rw [if_pos h8]
    rw [if_pos ⟨rfl, h8⟩] at h4
    rw [dead _ 5 (by omega) h4.symm]
  rw [if_neg h8]
  rw [if_neg (fun h => h8 h.2)] at h4
  subst h4
  rcases hc : bytesX (b.drop (p2 + 1)) 8 with e | ⟨c', l⟩
  · have hne := bytesX_code hc
    rw [bytesS_err b (p2 + 1) 8 e hc] at h5
    cases h5
    rw [bytesS_bad b (p2 + 1, e) 16 hne] at h6
    cases h6
    rw [thenX_err, endS_err _ hne]
  obtain ⟨e5, rfl⟩ := bytesS_ok b (p2 + 1) 8 c' l hc
  rw [e5] at h5
  cases h5
  rw [thenX_ok]
  simp only
  rcases ht : bytesX (b.drop (p2 + 1 + 8)) 16 with e | ⟨t', l⟩
  · rw [bytesS_err b _ 16 e ht] at h6
    cases h6
    rw [thenX_err, endS_err _ (bytesX_code ht)]
  · obtain ⟨e6, rfl⟩ := bytesS_ok b _ 16 t' l ht
    rw [e6] at h6
    cases h6
    rw [thenX_ok, endS_ok _ hs]
theorem g_bare (hb : b = x :: r) (hx : x.toNat = 1 ∨ x.toNat = 30) : tellY b.length (getX b) = endS (Fr.of (x.toNat : Int)) (1, 0) := by
  have hg : getX b = .ok (Fr.of (x.toNat : Int), b.drop 1) := by
    rw [drop_one hb, hb, getX]
    rw [if_neg (by omega), if_pos hx]
  have hl : 1 ≤ b.length := by rw [hb]; simp
  rw [hg, endS_ok _ hl]
theorem g_kind (hb : b = x :: r) (h0 : x.toNat ≠ 0) (h : ¬ (x.toNat = 1 ∨ x.toNat = 30) ∧ x.toNat ≠ 2 ∧ x.toNat ≠ 6 ∧ ¬ (x.toNat = 14 ∨ x.toNat = 15) ∧ ¬ (x.toNat = 16 ∨ x.toNat = 25) ∧ x.toNat ≠ 28 ∧ x.toNat ≠ 24 ∧ ¬ (x.toNat = 26 ∨ x.toNat = 27)) : tellY b.length (getX b) = ((Fr.of 0, 0), 6) := by
  have hg : getX b = .error 6 := by
    rw [hb, getX]
    rw [if_neg (by omega), if_neg (by omega), if_neg (by omega), if_neg (by omega), if_neg (by omega), if_neg (by omega), if_neg (by omega), if_neg (by omega), if_neg (by omega)]
  rw [hg]
  rfl
theorem g_zero (hb : b = x :: r) (h0 : x.toNat = 0) : tellY b.length (getX b) = (({ Fr.of 0 with n := min (zerosN b) 16384 }, min (zerosN b) 16384), 0) := by
  have hz : zerosN b ≤ b.length := by
    clear hb
    induction b with
    | nil => simp [zerosN]
    | cons y t ih => unfold zerosN; split <;> simp <;> omega
  have hg : getX b = .ok ({ Fr.of 0 with n := min (zerosN b) 16384 }, b.drop (min (zerosN b) 16384)) := by
    rw [hb, getX]
    rw [if_pos h0]
  rw [hg]
  unfold tellY
  simp only [List.length_drop]
  rw [show b.length - (b.length - min (zerosN b) 16384) = min (zerosN b) 16384 by omega]
end
end Go.Proofs.Ytafbhjhdnchfbaa
