/-
  Package clock: begin, smooth, Sample, PTO.
-/
import Derived.Test.YthebngmgekbpoaaClA
import Derived.StillTailTactics
namespace Go.Proofs.Ythebngmgekbpoaa
open Go.RowKit Go.Lib
set_option linter.unusedVariables false

theorem begin_any {w : World} {g : Nat} {c : Ck} (h : CkW w g c) (r : Int) (hr : 0 ≤ r ∧ r ≤ 1048576) :
    Calls Try.prog 18 #[.pointer (some ⟨g, 0, none⟩), .int .i64 r] w fun e w' => e = .returned (.tuple #[]) ∧ CkW w' g ⟨true, r, r / 2, r⟩ ∧ Only g w w' := by
  obtain ⟨hr0, hr1⟩ := hr
  have c0 := Rw.cell h 0 _ rfl
  have c1 := Rw.cell h 1 _ rfl
  have c2 := Rw.cell h 2 _ rfl
  have c3 := Rw.cell h 3 _ rfl
  have f0 := Rw.frozen h 0
  have f1 := Rw.frozen h 1
  have f2 := Rw.frozen h 2
  have f3 := Rw.frozen h 3
  have H := Lib.hid h
  clear h
  go_enter Try.func18, Try.ntmps18
  go_wp2
  go_end0
  exact ⟨rfl, (((H.out.put 0 (.bool true)).put 3 (.int .i64 r)).put 1 (.int .i64 r)).put 2 (.int .i64 (r / 2)), ((((Only.refl g w).setCell _ _).setCell _ _).setCell _ _).setCell _ _⟩
theorem smooth_any {w : World} {g : Nat} {c : Ck} (h : CkW w g c) (ok : c.Ok) (r : Int) (hr : 0 ≤ r ∧ r ≤ 1048576) :
    Calls Try.prog 19 #[.pointer (some ⟨g, 0, none⟩), .int .i64 r] w fun e w' => e = .returned (.tuple #[]) ∧ CkW w' g ⟨c.on, (7 * c.s + r) / 8, (3 * c.v + max (c.s - r) (r - c.s)) / 4, c.l⟩ ∧ Only g w w' := by
  have c1 := Rw.cell h 1 _ rfl
  have c2 := Rw.cell h 2 _ rfl
  have f1 := Rw.frozen h 1
  have f2 := Rw.frozen h 2
  have H := Lib.hid h
  clear h
  obtain ⟨on, s, v, l⟩ := c
  obtain ⟨⟨s0, s1⟩, ⟨v0, v1⟩, l0, l1⟩ := ok
  simp only at *
  have HD := Lib.hid (distance_any s r ⟨s0, s1⟩ hr)
  obtain ⟨hr0, hr1⟩ := hr
  obtain ⟨d, hd⟩ : ∃ d, max (s - r) (r - s) = d := ⟨_, rfl⟩
  have hd0 : 0 ≤ d := by omega
  have hd1 : d ≤ 1048576 := by omega
  rw [hd] at HD ⊢
  clear hd
  go_enter Try.func19, Try.ntmps19
  go_wp2_with fail
  refine wp_tail 14 (by kernel_rfl) (by kernel_rfl) ?_
  simp only [List.take_succ_cons, List.take_zero, List.drop_succ_cons, List.drop_zero]
  iterate 11 still_step
  still_call ((HD.out _).mono fun e w' h => ⟨h.1, h.2.symm⟩)
  repeat still_step
  refine wpStill_nil ?_
  go_wp2
  go_end0
  exact ⟨rfl, ((Rw.drew H.out).put 2 (.int .i64 ((3 * v + d) / 4))).put 1 (.int .i64 ((7 * s + r) / 8)), (((Only.refl g w).setCell _ _).setCell _ _).drew⟩
theorem tell_no {c : Ck} {r d : Int} (h : r < 0 ∨ 1048576 < r ∨ d < 0) : c.tell r d = c := by unfold Ck.tell; rw [if_pos h]
theorem tell_yes (c : Ck) {r d : Int} (h : ¬ (r < 0 ∨ 1048576 < r ∨ d < 0)) : c.tell r d = if c.on then ⟨true, (7 * c.s + restV (min c.l r) r d) / 8, (3 * c.v + max (c.s - restV (min c.l r) r d) (restV (min c.l r) r d - c.s)) / 4, min c.l r⟩ else ⟨true, r, r / 2, r⟩ := by unfold Ck.tell; rw [if_neg h]
theorem sample_no {w : World} {g : Nat} {c : Ck} (h : CkW w g c) (r d : Int) (hn : r < 0 ∨ 1048576 < r ∨ d < 0) :
    Calls Try.prog 10 #[.pointer (some ⟨g, 0, none⟩), .int .i64 r, .int .i64 d] w fun e w' => e = .returned (.tuple #[]) ∧ w = w' := by
  by_cases h1 : r < 0
  · go_enter Try.func10, Try.ntmps10
    go_wp2
    refine bodyPost_ret (results_none rfl _ _ _) rfl ?_
    exact ⟨rfl, rfl⟩
  · by_cases h2 : 1048576 < r
    · go_enter Try.func10, Try.ntmps10
      go_wp2
      refine bodyPost_ret (results_none rfl _ _ _) rfl ?_
      exact ⟨rfl, rfl⟩
    · have h3 : d < 0 := by omega
      go_enter Try.func10, Try.ntmps10
      go_wp2
      refine bodyPost_ret (results_none rfl _ _ _) rfl ?_
      exact ⟨rfl, rfl⟩
theorem sample_any {w : World} {g : Nat} {c : Ck} (h : CkW w g c) (ok : c.Ok) (r d : Int) :
    Calls Try.prog 10 #[.pointer (some ⟨g, 0, none⟩), .int .i64 r, .int .i64 d] w fun e w' => e = .returned (.tuple #[]) ∧ CkW w' g (c.tell r d) ∧ Only g w w' := by
  by_cases hn : r < 0 ∨ 1048576 < r ∨ d < 0
  · refine (sample_no h r d hn).mono ?_
    rintro e w' ⟨rfl, rfl⟩
    rw [tell_no hn]
    exact ⟨rfl, h, Only.refl _ _⟩
  · rw [tell_yes c hn]
    have h1 : ¬ r < 0 := by omega
    have h2 : ¬ 1048576 < r := by omega
    have h3 : ¬ d < 0 := by omega
    have HB := Lib.hid (begin_any h r (by omega))
    have H := Lib.hid h
    obtain ⟨on, s, v, l⟩ := c
    have c0 : w.cell? ⟨g, 0, none⟩ = some (.bool on) := Rw.cell h 0 _ rfl
    have c3 : w.cell? ⟨g, 3, none⟩ = some (.int .i64 l) := Rw.cell h 3 _ rfl
    have f3 := Rw.frozen h 3
    clear h hn
    cases on
    · go_enter Try.func10, Try.ntmps10
      go_wp2_with fail
      (with_reducible refine HB.out.mono ?_)
      rintro e w' ⟨rfl, hp, ho⟩
      go_wp2
      refine bodyPost_ret (results_none rfl _ _ _) rfl ?_
      exact ⟨rfl, hp, ho⟩
    · obtain ⟨⟨s0, s1⟩, ⟨v0, v1⟩, l0, l1⟩ := ok
      simp only at s0 s1 v0 v1 l0 l1
      obtain ⟨m, hm⟩ : ∃ m, min l r = m := ⟨_, rfl⟩
      have hr := rest_bd (l := m) (r := r) (d := d) (by omega) (by omega) (by omega) (by omega)
      have HP : Hid (CkW (w.setCell ⟨g, 3, none⟩ (.int .i64 m)) g ⟨true, s, v, m⟩) := H.out.put 3 (.int .i64 m)
      have HW := Lib.hid (without_any HP.out r d ⟨by simp only; omega, by simp only; omega⟩ ⟨by omega, by omega⟩ (by omega))
      simp only at HW
      rw [hm]
      obtain ⟨q, hq⟩ : ∃ q, restV m r d = q := ⟨_, rfl⟩
      rw [hq] at HW hr ⊢
      have HS := Lib.hid (smooth_any HP.out ⟨⟨s0, s1⟩, ⟨v0, v1⟩, by simp only; omega, by simp only; omega⟩ q ⟨by omega, by omega⟩)
      clear HB hq hr
      go_enter Try.func10, Try.ntmps10
      go_wp2_with fail
      (with_reducible refine HW.out.mono ?_)
      rintro e w' ⟨rfl, rfl⟩
      go_wp2_with fail
      (with_reducible refine HS.out.mono ?_)
      rintro e w' ⟨rfl, hp, ho⟩
      go_wp2
      go_end0
      exact ⟨rfl, hp, ((Only.refl g w).setCell _ _).trans ho⟩
end Go.Proofs.Ythebngmgekbpoaa
