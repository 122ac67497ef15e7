/-
  Package clock: PTO. The document's clock.
-/
import Derived.Test.YthebngmgekbpoaaClB
import Derived.Deep.QuietTactic
import Derived.BigQuiet
namespace Go.Proofs.Ythebngmgekbpoaa
open Go.RowKit Go.Lib
set_option linter.unusedVariables false

theorem shl_min {o k t p : Int} (h0 : 40 ≤ o) (h1 : o ≤ 5242880) (h : (t ≤ 0 ∧ k = 0 ∧ p = min o 64) ∨ (0 < t ∧ 1 ≤ k ∧ k ≤ 10 ∧ p = 64)) : min (wrap64 (o * 2 ^ k.toNat)) 64 = p := by
  have hk : k = 0 ∨ k = 1 ∨ k = 2 ∨ k = 3 ∨ k = 4 ∨ k = 5 ∨ k = 6 ∨ k = 7 ∨ k = 8 ∨ k = 9 ∨ k = 10 := by omega
  unfold wrap64
  rcases hk with rfl | rfl | rfl | rfl | rfl | rfl | rfl | rfl | rfl | rfl | rfl <;> simp <;> omega
theorem pto_any {w : World} {g : Nat} {c : Ck} (h : CkW w g c) (ok : c.Ok) (t : Int) :
    Calls Try.prog 15 #[.pointer (some ⟨g, 0, none⟩), .int .i64 t] w (Quiet (.int .i64 (ptoV c.s c.v t)) w) := by
  obtain ⟨on, s, v, l⟩ := c
  obtain ⟨⟨s0, s1⟩, ⟨v0, v1⟩, l0, l1⟩ := ok
  have c1 : w.cell? ⟨g, 1, none⟩ = some (.int .i64 s) := Rw.cell h 1 _ rfl
  have c2 : w.cell? ⟨g, 2, none⟩ = some (.int .i64 v) := Rw.cell h 2 _ rfl
  simp only at s0 s1 v0 v1 l0 l1
  obtain ⟨o, ho⟩ : ∃ o, max (s + max (4 * v) 1) 40 = o := ⟨_, rfl⟩
  obtain ⟨k, hk⟩ : ∃ k, min (max t 0) 10 = k := ⟨_, rfl⟩
  have ho0 : 40 ≤ o := by omega
  have ho1 : o ≤ 5242880 := by omega
  obtain ⟨p, hp⟩ : ∃ p, ptoV s v t = p := ⟨_, rfl⟩
  have hpq : (t ≤ 0 ∧ k = 0 ∧ p = min o 64) ∨ (0 < t ∧ 1 ≤ k ∧ k ≤ 10 ∧ p = 64) := by
    unfold ptoV at hp
    rw [ho] at hp
    by_cases ht : t ≤ 0
    · rw [if_pos ht] at hp; exact .inl ⟨ht, by omega, hp.symm⟩
    · rw [if_neg ht] at hp; exact .inr ⟨by omega, by omega, by omega, hp.symm⟩
  simp only
  rw [hp]
  clear h hp l0 l1
  go_enter Try.func15, Try.ntmps15
  go_wp2_with fail
  go_quiet (fail)
  go_wp2_with fail
  go_ret
  refine ⟨?_, _, rfl⟩
  show Ending.returned (.int .i64 (min (wrap64 (o * 2 ^ k.toNat)) 64)) = _
  rw [shl_min ho0 ho1 hpq]

/-- the document's clock at block g, which was told N samples -/
def RcW (w : World) (g : Nat) (c : Ck) (N : Nat) : Prop := Rw w g 31 [.int .i64 c.s, .int .i64 c.v, .int .i64 c.l, .int .i64 (N : Int)] ∧ c.on = decide (0 < N)
theorem RcW.below {w w' : World} {g N : Nat} {c : Ck} (h : RcW w g c N) (hb : Below w.heap.size w w') : RcW w' g c N := ⟨Rw.below h.1 hb, h.2⟩
theorem rnew_any (w : World) : Calls Try.prog 9 #[] w fun e w' => e = .returned (.pointer (some ⟨w.heap.size, 0, none⟩)) ∧ RcW w' w.heap.size Ck.new 0 ∧ Below w.heap.size w w' := by
  go_enter Try.func9, Try.ntmps9
  go_wp2
  go_ret
  exact ⟨rfl, ⟨heap_alloc_new w _, rfl⟩, (Below.refl _ _).alloc (Nat.le_refl _) _⟩
theorem rsample_no {w : World} (g : Nat) (r d : Int) (hn : r < 0 ∨ 1048576 < r ∨ d < 0) :
    Calls Try.prog 11 #[.pointer (some ⟨g, 0, none⟩), .int .i64 r, .int .i64 d] w fun e w' => e = .returned (.tuple #[]) ∧ w = w' := by
  by_cases h1 : r < 0
  · go_enter Try.func11, Try.ntmps11
    go_wp2
    refine bodyPost_ret (results_none rfl _ _ _) rfl ?_
    exact ⟨rfl, rfl⟩
  · by_cases h2 : 1048576 < r
    · go_enter Try.func11, Try.ntmps11
      go_wp2
      refine bodyPost_ret (results_none rfl _ _ _) rfl ?_
      exact ⟨rfl, rfl⟩
    · have h3 : d < 0 := by omega
      go_enter Try.func11, Try.ntmps11
      go_wp2
      refine bodyPost_ret (results_none rfl _ _ _) rfl ?_
      exact ⟨rfl, rfl⟩
set_option maxHeartbeats 1000000 in
theorem rsample_any {w : World} {g N : Nat} {c : Ck} (h : RcW w g c N) (ok : c.Ok) (r d : Int) (hN : N ≤ 1000) :
    Calls Try.prog 11 #[.pointer (some ⟨g, 0, none⟩), .int .i64 r, .int .i64 d] w fun e w' => e = .returned (.tuple #[]) ∧ (∃ N', N' ≤ N + 1 ∧ RcW w' g (c.tell r d) N') ∧ Only g w w' := by
  by_cases hn : r < 0 ∨ 1048576 < r ∨ d < 0
  · refine (rsample_no g r d hn).mono ?_
    rintro e w' ⟨rfl, rfl⟩
    rw [tell_no hn]
    exact ⟨rfl, ⟨N, by omega, h⟩, Only.refl _ _⟩
  · rw [tell_yes c hn]
    have h1 : ¬ r < 0 := by omega
    have h2 : ¬ 1048576 < r := by omega
    have h3 : ¬ d < 0 := by omega
    obtain ⟨h, hon⟩ := h
    have H := Lib.hid h
    obtain ⟨on, s, v, l⟩ := c
    have c0 : w.cell? ⟨g, 0, none⟩ = some (.int .i64 s) := Rw.cell h 0 _ rfl
    have c1 : w.cell? ⟨g, 1, none⟩ = some (.int .i64 v) := Rw.cell h 1 _ rfl
    have c2 : w.cell? ⟨g, 2, none⟩ = some (.int .i64 l) := Rw.cell h 2 _ rfl
    have c3 : w.cell? ⟨g, 3, none⟩ = some (.int .i64 (N : Int)) := Rw.cell h 3 _ rfl
    have f0 := Rw.frozen h 0
    have f1 := Rw.frozen h 1
    have f2 := Rw.frozen h 2
    have f3 := Rw.frozen h 3
    obtain ⟨⟨s0, s1⟩, ⟨v0, v1⟩, l0, l1⟩ := ok
    simp only at s0 s1 v0 v1 l0 l1 hon
    clear h hn
    cases on
    · obtain rfl : N = 0 := by
        have := of_decide_eq_false hon.symm
        omega
      clear hon
      go_enter Try.func11, Try.ntmps11
      go_wp2
      refine bodyPost_ret (results_none rfl _ _ _) rfl ?_
      exact ⟨rfl, ⟨1, by omega, ((((H.out.put 3 (.int .i64 1)).put 2 (.int .i64 r)).put 0 (.int .i64 r)).put 1 (.int .i64 (r / 2))), rfl⟩, ((((Only.refl g w).setCell _ _).setCell _ _).setCell _ _).setCell _ _⟩
    · have hN0 : 0 < N := of_decide_eq_true hon.symm
      clear hon
      obtain ⟨m, hm⟩ : ∃ m, min l r = m := ⟨_, rfl⟩
      obtain ⟨x, hx⟩ : ∃ x, min d 25 = x := ⟨_, rfl⟩
      have hr := rest_bd (l := m) (r := r) (d := d) (by omega) (by omega) (by omega) (by omega)
      simp only
      rw [hm]
      obtain ⟨q, hq⟩ : ∃ q, restV m r d = q := ⟨_, rfl⟩
      rw [hq] at hr ⊢
      unfold restV at hq
      rw [hx] at hq
      have n1 : ((N : Int) + 1 == 1) = false := by simp; omega
      obtain ⟨y, hy⟩ : ∃ y, max (s - q) (q - s) = y := ⟨_, rfl⟩
      have hy0 : 0 ≤ y ∧ y ≤ 1048576 := by omega
      have x0 : 0 ≤ x ∧ x ≤ 25 := by omega
      obtain ⟨y0, y1⟩ := hy0
      obtain ⟨x0, x1⟩ := x0
      obtain ⟨q0, q1⟩ := hr
      have m0 : 0 ≤ m := by omega
      by_cases ht : r - x < m
      · rw [if_pos ht] at hq
        subst hq
        have ht' : ¬ m ≤ r - x := by omega
        go_enter Try.func11, Try.ntmps11
        go_wp2_with fail
        refine wp_tail 21 (by kernel_rfl) (by kernel_rfl) ?_
        simp only [List.take_succ_cons, List.take_zero, List.drop_succ_cons, List.drop_zero]
        repeat still_step
        refine wpStill_nil ?_
        go_wp2
        go_end0
        exact ⟨rfl, ⟨N + 1, by omega, ((((Rw.put H.out 3 (.int .i64 ((N : Int) + 1))).put 2 (.int .i64 m)).put 1 (.int .i64 ((3 * v + y) / 4))).put 0 (.int .i64 ((7 * s + r) / 8))), by simp⟩, (((((Only.refl g w).setCell _ _).setCell _ _).setCell _ _).setCell _ _).drew⟩
      · rw [if_neg ht] at hq
        clear ht
        go_enter Try.func11, Try.ntmps11
        go_wp2_with fail
        refine wp_tail 21 (by kernel_rfl) (by kernel_rfl) ?_
        simp only [List.take_succ_cons, List.take_zero, List.drop_succ_cons, List.drop_zero]
        repeat still_step
        refine wpStill_nil ?_
        go_wp2
        go_end0
        exact ⟨rfl, ⟨N + 1, by omega, ((((Rw.put H.out 3 (.int .i64 ((N : Int) + 1))).put 2 (.int .i64 m)).put 1 (.int .i64 ((3 * v + y) / 4))).put 0 (.int .i64 ((7 * s + q) / 8))), by simp⟩, (((((Only.refl g w).setCell _ _).setCell _ _).setCell _ _).setCell _ _).drew⟩
end Go.Proofs.Ythebngmgekbpoaa
