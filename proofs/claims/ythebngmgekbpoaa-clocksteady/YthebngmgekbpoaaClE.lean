/-
  What samples leave (pure): bounds, a steady time, the least; one sample more of a clock that stands alone.
-/
import Derived.Test.YthebngmgekbpoaaClD
namespace Go.Proofs.Ythebngmgekbpoaa
open Go.RowKit Go.Lib
set_option linter.unusedVariables false

theorem ck_sample {w wr : World} {g B0 : Nat} {c : Ck} (S : CkW wr g c) (ok : c.Ok) (hB : Below B0 w wr) (hg : B0 ≤ g) (r d : Int) :
    Calls Try.prog 10 #[.pointer (some ⟨g, 0, none⟩), .int .i64 r, .int .i64 d] wr fun e w' => e = .returned (.tuple #[]) ∧ CkW w' g (c.tell r d) ∧ Below B0 w w' := by
  refine (sample_any S ok r d).mono ?_
  rintro e w' ⟨rfl, hs, ho⟩
  exact ⟨rfl, hs, hB.trans (ho.below (by have := S.lt; omega) hg)⟩
theorem pto_mono (s v : Int) {a b : Int} (h : a ≤ b) : ptoV s v a ≤ ptoV s v b := by
  unfold ptoV
  split <;> split <;> omega
theorem bounds_step {c : Ck} {least n : Int} (ok : c.Ok) (h : (c.on = false ∧ 2000 ≤ least) ∨ (c.on = true ∧ c.l = least ∧ c.s ≤ 2000)) (h0 : 0 ≤ n) (h1 : n ≤ 2000) :
    (c.tell n 0).on = true ∧ (c.tell n 0).l = min least n ∧ 0 ≤ (c.tell n 0).s ∧ (c.tell n 0).s ≤ 2000 := by
  obtain ⟨on, s, v, l⟩ := c
  obtain ⟨⟨s0, s1⟩, ⟨v0, v1⟩, l0, l1⟩ := ok
  simp only at s0 s1 v0 v1 l0 l1 h
  rw [tell_yes _ (by omega)]
  simp only
  rcases h with ⟨rfl, h⟩ | ⟨rfl, rfl, h⟩
  · rw [if_neg (by simp)]
    refine ⟨rfl, ?_, ?_, ?_⟩ <;> simp only <;> omega
  · rw [if_pos rfl]
    have h7 := rest_bd (l := min l n) (r := n) (d := 0) (by omega) (by omega) (by omega) (by omega)
    refine ⟨rfl, rfl, ?_, ?_⟩ <;> simp only <;> omega
theorem steady_first {r d : Int} (h0 : 0 ≤ r) (h1 : r ≤ 1048576) (hd : 0 ≤ d) : Ck.new.tell r d = ⟨true, r, r / 2, r⟩ := by
  rw [tell_yes _ (by omega), if_neg (by simp [Ck.new])]
theorem steady_more {r d v : Int} (h0 : 0 ≤ r) (h1 : r ≤ 1048576) (hd : 0 ≤ d) : (⟨true, r, v, r⟩ : Ck).tell r d = ⟨true, r, 3 * v / 4, r⟩ := by
  rw [tell_yes _ (by omega), if_pos rfl]
  have e : restV (min r r) r d = r := by
    unfold restV
    split <;> omega
  simp only [e]
  rw [Ck.mk.injEq]
  refine ⟨rfl, ?_, ?_, ?_⟩ <;> omega
theorem leasts_step {c : Ck} {least most r d : Int} (ok : c.Ok) (h : (c.on = false ∧ least = r ∧ most = r) ∨ (c.on = true ∧ c.l = least ∧ c.s ≤ most ∧ least ≤ c.s + 7 ∧ c.v ≤ most)) (h0 : 0 ≤ r) (h1 : r ≤ 10000) (hl : 0 ≤ least) (hlm : least ≤ most) (hm : most ≤ 10000) (hd : 0 ≤ d) :
    (c.tell r d).on = true ∧ (c.tell r d).l = min least r ∧ (c.tell r d).s ≤ max most r ∧ min least r ≤ (c.tell r d).s + 7 ∧ (c.tell r d).v ≤ max most r := by
  obtain ⟨on, s, v, l⟩ := c
  obtain ⟨⟨s0, s1⟩, ⟨v0, v1⟩, l0, l1⟩ := ok
  simp only at s0 s1 v0 v1 l0 l1 h
  rw [tell_yes _ (by omega)]
  simp only
  rcases h with ⟨rfl, rfl, rfl⟩ | ⟨rfl, rfl, h2, h3, h4⟩
  · rw [if_neg (by simp)]
    refine ⟨rfl, ?_, ?_, ?_, ?_⟩ <;> simp only <;> omega
  · rw [if_pos rfl]
    have h7 := rest_bd (l := min l r) (r := r) (d := d) (by omega) (by omega) (by omega) (by omega)
    generalize restV (min l r) r d = q at *
    refine ⟨rfl, rfl, ?_, ?_, ?_⟩ <;> simp only <;> omega
/-- Low(x, n), a number between -/
theorem low_bet (x n : Int) (h0 : 0 < n) (h1 : n < 4611686018427387904) : ∃ y : Int, 0 ≤ y ∧ y < n ∧ ∀ u : World, Calls Try.prog 17 #[.int .i64 x, .int .i64 n] u fun e w' => e = .returned (.int .i64 y) ∧ u = w' := by
  have hb := low_bd x n h0 h1
  exact ⟨_, hb.1, hb.2, fun u => low_any x n u h0 h1⟩
end Go.Proofs.Ythebngmgekbpoaa
