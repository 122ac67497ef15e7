/-
  Sets of numbers below a bound, of which none is forgotten; ranges written down from above.
-/
import Derived.Test.YtjbhhmjkdhkhaaaRgJ
namespace Go.Proofs.Ytjbhhmjkdhkhaaa
open Go.RowKit Go.Lib
set_option linter.unusedVariables false

theorem fall_tight {l : RL} {B N : Nat} (h : Fall B l) (hN : ∀ m, Mem m l → m < N) : Fall (N + 1) l := by
  cases l with
  | nil => trivial
  | cons x r => exact ⟨h.1, by have := hN x.2 (mem_cons.2 (.inl ⟨h.1, Nat.le_refl _⟩)); omega, h.2.2⟩
theorem fall_len : ∀ {l : RL} {B : Nat}, Fall B l → 2 * l.length ≤ B
  | [], _, _ => by simp
  | x :: r, B, h => by
    have h1 := fall_len h.2.2
    have := h.1
    have := h.2.1
    simp only [List.length_cons]
    omega
/-- just the numbers that P tells are there, and none is forgotten -/
structure SetP (s : RS) (M : Nat) (P : Nat → Prop) : Prop where
  ok : s.Ok
  most : s.most = M
  fl : s.fl = 0
  mem : ∀ m, Mem m s.l ↔ P m
theorem SetP.new {M : Nat} (h : 1 ≤ M) (h' : M ≤ 64) : SetP (RS.new M) M (fun _ => False) := ⟨RS.new_ok h h', rfl, rfl, fun m => ⟨fun h => mem_nil h, fun h => h.elim⟩⟩
theorem SetP.has {s : RS} {M : Nat} {P : Nat → Prop} (h : SetP s M P) (k : Nat) : s.mem k ↔ P k := by
  unfold RS.mem
  rw [h.fl, h.mem]
  simp
theorem SetP.old {s : RS} {M k : Nat} {P : Nat → Prop} (h : SetP s M P) (hk : P k) : s.newB k = false := decide_eq_false fun hh => hh.2 ((h.has k).2 hk)
theorem SetP.new_ {s : RS} {M k N : Nat} {P : Nat → Prop} (h : SetP s M P) (hP : ∀ m, P m → m < N) (hk : k < N) (hN : N ≤ 2 * M) (hN' : N ≤ 100) (hn : ¬ P k) : s.newB k = true ∧ SetP (s.add k) M (fun m => m = k ∨ P m) := by
  have hb : s.newB k = true := decide_eq_true ⟨by unfold topV; omega, fun hh => hn ((h.has k).1 hh)⟩
  refine ⟨hb, ?_⟩
  obtain ⟨l1, e1, F, hm, hlen, hfl, hc⟩ := RS.add_new h.ok hb
  have hm' : ∀ m, Mem m l1 ↔ m = k ∨ P m := fun m => by rw [hm, h.mem]
  have F2 := fall_tight F (N := N) (fun m hh => by
    rcases (hm' m).1 hh with rfl | h1
    · exact hk
    · exact hP m h1)
  have h3 := fall_len F2
  have h4 := h.most
  rcases hc with ⟨h1, h2⟩ | ⟨l2, x, h1, h2, _⟩
  · have hok := RS.add_ok h.ok k
    rw [h2] at hok ⊢
    exact ⟨hok, h.most, h.fl, hm'⟩
  · rw [h1, List.length_append, List.length_singleton] at h3
    omega
theorem SetP.to {s : RS} {M : Nat} {P Q : Nat → Prop} (h : SetP s M P) (hPQ : ∀ m, P m ↔ Q m) : SetP s M Q := ⟨h.ok, h.most, h.fl, fun m => (h.mem m).trans (hPQ m)⟩
/-- of n put on at the lower end -/
theorem fall_snoc {n : Nat} {x : Nat × Nat} : ∀ {l : RL} {B : Nat}, Fall B (l ++ [x]) → n ≤ x.2 → Fall B (l ++ [(n, x.2)])
  | [], _, h, hn => ⟨hn, h.2.1, trivial⟩
  | y :: r, _, h, hn => ⟨h.1, h.2.1, fall_snoc h.2.2 hn⟩
theorem fall_push {n : Nat} : ∀ {l : RL} {B : Nat}, Fall B l → n + 1 < B → (∀ x ∈ l, n + 1 < x.1) → Fall B (l ++ [(n, n)])
  | [], _, _, hB, _ => ⟨Nat.le_refl _, hB, trivial⟩
  | y :: r, _, h, hB, hx => ⟨h.1, h.2.1, fall_push h.2.2 (hx y (List.mem_cons_self ..)) fun z hz => hx z (List.mem_cons_of_mem _ hz)⟩
/-- so many numbers written down from above, as far as n -/
structure Down (N n : Nat) (P : Nat → Prop) (l : RL) : Prop where
  fall : Fall (N + 1) l
  mem : ∀ m, Mem m l ↔ n ≤ m ∧ P m
theorem down_last {N n : Nat} {P : Nat → Prop} {l : RL} {x : Nat × Nat} (h : Down N n P (l ++ [x])) : n ≤ x.1 ∧ x.1 ≤ x.2 := by
  have h1 := (mem_of h.fall (x := x) (by simp)).2
  exact ⟨((h.mem _).1 h1).1, (h.fall.at_ (x := x) (by simp)).1⟩
theorem down_join {N n : Nat} {P : Nat → Prop} {l : RL} {x : Nat × Nat} (h : Down N (n + 1) P (l ++ [x])) (hx : x.1 = n + 1) (hn : P n) : Down N n P (l ++ [(n, x.2)]) := by
  have hl := down_last h
  refine ⟨fall_snoc h.fall (by omega), fun m => ?_⟩
  have h1 := h.mem m
  rw [mem_append, mem_cons] at h1
  rw [mem_append, mem_cons]
  simp only [mem_nil, or_false] at h1 ⊢
  constructor
  · rintro (h2 | h2)
    · have := h1.1 (.inl h2)
      exact ⟨by omega, this.2⟩
    · by_cases e : m = n
      · subst e; exact ⟨Nat.le_refl _, hn⟩
      · have := h1.1 (.inr (by omega))
        exact ⟨by omega, this.2⟩
  · rintro ⟨h2, h3⟩
    by_cases e : m = n
    · right; omega
    · rcases h1.2 ⟨by omega, h3⟩ with h4 | h4
      · exact .inl h4
      · right; omega
theorem down_push {N n : Nat} {P : Nat → Prop} {l : RL} (h : Down N (n + 1) P l) (hx : ∀ x r, l = r ++ [x] → x.1 ≠ n + 1) (hn : P n) (hN : n < N) : Down N n P (l ++ [(n, n)]) := by
  have hlo : ∀ x ∈ l, n + 1 < x.1 := by
    intro x hxl
    rcases List.eq_nil_or_concat l with e | ⟨r, y, e⟩
    · rw [e] at hxl; cases hxl
    · have e' : l = r ++ [y] := by simpa using e
      have h1 := hx y r e'
      have h2 := down_last (e' ▸ h)
      have h3 : ∀ (r : RL) (B : Nat), Fall B (r ++ [y]) → ∀ z ∈ r ++ [y], y.1 ≤ z.1 := by
        intro r
        induction r with
        | nil => intro _ _ z hz; obtain rfl : z = y := by simpa using hz
                 exact Nat.le_refl _
        | cons u t ih =>
          intro B hf z hz
          rcases List.mem_cons.1 (by simpa using hz : z ∈ u :: (t ++ [y])) with rfl | hz
          · have := (hf.2.2.at_ (x := y) (by simp)); omega
          · exact ih _ hf.2.2 z hz
      have := h3 r _ (e' ▸ h.fall) x (e' ▸ hxl)
      omega
  refine ⟨fall_push h.fall (by omega) hlo, fun m => ?_⟩
  rw [mem_append, mem_cons, h.mem]
  simp only [mem_nil, or_false]
  constructor
  · rintro (⟨h1, h2⟩ | h1)
    · exact ⟨by omega, h2⟩
    · obtain rfl : m = n := by omega
      exact ⟨Nat.le_refl _, hn⟩
  · rintro ⟨h1, h2⟩
    by_cases e : m = n
    · right; omega
    · exact .inl ⟨by omega, h2⟩
theorem down_skip {N n : Nat} {P : Nat → Prop} {l : RL} (h : Down N (n + 1) P l) (hn : ¬ P n) : Down N n P l := ⟨h.fall, fun m => by
  rw [h.mem]
  constructor
  · rintro ⟨h1, h2⟩; exact ⟨by omega, h2⟩
  · rintro ⟨h1, h2⟩
    refine ⟨?_, h2⟩
    rcases Nat.lt_or_ge n m with h3 | h3
    · exact h3
    · obtain rfl : m = n := by omega
      exact absurd h2 hn⟩
end Go.Proofs.Ytjbhhmjkdhkhaaa
