/-
  What goes out of a stream: the states that the laws come by. Pure.
-/
import Derived.Test.YtkodjajhlcbmkaaDoorOuP
namespace Go.Proofs.YtkodjajhlcbmkaaDoor
open Go.RowKit
set_option linter.unusedVariables false

theorem sent_of {n a : Nat} {s : Nat → Nat} (h : ∀ i, i < n → (s i ≠ 0 ↔ i < a)) : sentV n s = min a n := by
  rw [← cnt_below a n]
  exact cnt_same fun i hi => by rw [decide_eq_decide]; exact h i hi
theorem left_of {n a : Nat} {s : Nat → Nat} (h : ∀ i, i < n → (s i ≠ 3 ↔ a ≤ i)) : leftV n s = n - a := by
  rw [← cnt_from a n]
  exact cnt_same fun i hi => by rw [decide_eq_decide]; exact h i hi
theorem done_of {n : Nat} {s : Nat → Nat} (h : ∀ i, i ≤ n → s i = 3) : doneV n s = true := by
  have : leftV n s = 0 := by
    rw [left_of (a := n) fun i hi => ?_]
    · omega
    · have := h i (by omega)
      omega
  unfold doneV
  simp [this, h n (Nat.le_refl _)]
theorem done_not {n i : Nat} {s : Nat → Nat} (hi : i ≤ n) (h : s i ≠ 3) : doneV n s = false := by
  unfold doneV
  by_cases e : i = n
  · subst e
    simp [h]
  · have : leftV n s ≠ 0 := fun h0 => by
      have := cnt_zero.1 h0 i (by omega)
      simp [h] at this
    simp [this]
theorem done_all {n : Nat} {s : Nat → Nat} (h : doneV n s = true) : ∀ i, i ≤ n → s i = 3 := by
  intro i hi
  apply Classical.byContradiction
  intro hn
  rw [done_not hi hn] at h
  cases h
/-! pieces of so many bytes -/
theorem pieces_next {n a room c : Nat} {s : Nat → Nat} (hc : c = 0 ∨ c = 2) (hs : ∀ i, i ≤ n → s i = if i < a then 1 else c) (ha : a < n ∨ (n = 0 ∧ a = 0)) (hr : 1 ≤ room) :
    nextV n s (room : Int) (n : Int) = some (a, min (a + room) n, decide (min (a + room) n = n)) := by
  rcases ha with ha | ⟨rfl, rfl⟩
  · have hn : s n = 0 ∨ s n = 2 := by rw [hs n (Nat.le_refl _), if_neg (by omega)]; exact hc
    have hx : ∀ j, a ≤ j → j ≤ n → s j = c := fun j h1 h2 => by rw [hs j h2, if_neg (by omega)]
    have hy : ∀ j, j < a → s j = 1 := fun j h1 => by rw [hs j (by omega), if_pos h1]
    rcases hc with rfl | rfl
    · rw [next_fresh (f := a) (t := min (a + room) n) (fun j hj => ?_) ha (hx a (Nat.le_refl _) (by omega)) (fun j hj => by rw [hy j hj]; decide) (by omega) (by omega) (by omega) (by omega) (by omega) (fun j h1 h2 => hx j h1 (by omega)) (by omega), send_some (by omega), end_last (by omega) hn]
      by_cases h : j < a
      · rw [hy j h]; decide
      · rw [hx j (by omega) hj]; decide
    · rw [next_lost (f := a) (t := min (a + room) n) ha (hx a (Nat.le_refl _) (by omega)) (fun j hj => by rw [hy j hj]; decide) (by omega) (by omega) (by omega) (fun j h1 h2 => hx j h1 (by omega)) (by omega), send_some (by omega), end_last (by omega) hn]
  · have h0 : s 0 = c := by rw [hs 0 (Nat.le_refl _)]; rfl
    rcases hc with rfl | rfl
    · rw [next_end_new (fun j hj => absurd hj (by omega)) (fun j hj => absurd hj (by omega)) h0]
      simp
    · rw [next_end_lost (fun j hj => absurd hj (by omega)) h0]
      simp
theorem pieces_land {n a t c : Nat} {s : Nat → Nat} (hs : ∀ i, i ≤ n → s i = if i < a then 1 else c) (h1 : a ≤ t) (h2 : t ≤ n) : ∀ i, i ≤ n → landV n s 1 (some (a, t, decide (t = n))) i = if i < t ∨ t = n then 1 else c := by
  intro i hi
  unfold landV
  simp only
  rw [hs i hi]
  by_cases e : t = n
  · by_cases hi2 : i = n
    · simp [e, hi2]
    · by_cases h : i < a <;> simp [e, h] <;> omega
  · by_cases h : i < a
    · simp [h]; omega
    · by_cases h3 : i < t <;> simp [e, h, h3] <;> omega
theorem ones_next {n : Nat} {s : Nat → Nat} (hs : ∀ i, i ≤ n → s i = 1) (room allow : Int) : nextV n s room allow = none := next_none (fun j hj => by rw [hs j hj]; decide) (fun j hj => by rw [hs j hj]; decide)
theorem ones_sent {n : Nat} {s : Nat → Nat} (hs : ∀ i, i ≤ n → s i = 1) : sentV n s = n ∧ leftV n s = n ∧ doneV n s = false := by
  refine ⟨?_, ?_, done_not (Nat.le_refl n) (by rw [hs n (Nat.le_refl _)]; decide)⟩
  · rw [sent_of (a := n) fun i hi => ?_]
    · omega
    · rw [hs i (by omega)]; omega
  · rw [left_of (a := 0) fun i hi => ?_]
    · omega
    · rw [hs i (by omega)]; omega
theorem ones_lost {n : Nat} {s : Nat → Nat} (hs : ∀ i, i ≤ n → s i = 1) : ∀ i, i ≤ n → lostV n s 0 (n : Int) true i = 2 := by
  intro i hi
  unfold lostV inV
  rw [hs i hi]
  by_cases e : i = n
  · simp [e]
  · simp [e]; omega
theorem ones_there {n : Nat} {s : Nat → Nat} (hs : ∀ i, i ≤ n → s i = 1) : ∀ i, i ≤ n → thereV n s 0 (n : Int) true i = 3 := by
  intro i hi
  unfold thereV inV
  rw [hs i hi]
  by_cases e : i = n
  · simp [e]
  · simp [e]; omega
/-! no more than is allowed -/
theorem allows_next {n a : Nat} {s : Nat → Nat} {room allow : Int} (hs : ∀ i, i < n → s i = if i < a then 1 else 0) (hn : a < n → s n = 0) (h2 : s n ≠ 2) (han : a ≤ n) (hr : 1 ≤ room) {k : Int} (hk : k = min room (min allow n - a)) :
    (0 < k → nextV n s room allow = some (a, a + k.toNat, decide (a + k.toNat = n))) ∧ (k ≤ 0 → a < n → nextV n s room allow = none) := by
  have hy : ∀ j, j < a → s j = 1 := fun j h1 => by rw [hs j (by omega), if_pos h1]
  have hx : ∀ j, a ≤ j → j < n → s j = 0 := fun j h1 h2 => by rw [hs j h2, if_neg (by omega)]
  have hl : ∀ j, j ≤ n → s j ≠ 2 := fun j hj => by
    by_cases e : j = n
    · subst e; exact h2
    · rw [hs j (by omega)]; split <;> decide
  constructor
  · intro h0
    have ha : a < n := by omega
    rw [next_fresh (f := a) (t := a + k.toNat) hl ha (hx a (Nat.le_refl _) ha) (fun j hj => by rw [hy j hj]; decide) (by omega) (by omega) (by omega) (by omega) (by omega) (fun j h1 h2 => hx j h1 (by omega)) (by omega), send_some (by omega), end_last (by omega) (.inl (hn ha))]
  · intro h0 ha
    exact next_wait hl ha (hx a (Nat.le_refl _) ha) (fun j hj => by rw [hy j hj]; decide) (by omega)
theorem allows_land {n a t : Nat} {s : Nat → Nat} (hs : ∀ i, i < n → s i = if i < a then 1 else 0) (h1 : a ≤ t) (h2 : t ≤ n) : ∀ i, i < n → landV n s 1 (some (a, t, decide (t = n))) i = if i < t then 1 else 0 := by
  intro i hi
  unfold landV
  simp only
  rw [hs i hi]
  have hne : i ≠ n := by omega
  by_cases h : i < a
  · simp [h, hne]; omega
  · by_cases h3 : i < t <;> simp [h, h3, hne] <;> omega
theorem allows_lost {n a : Nat} {s : Nat → Nat} (hs : ∀ i, i < n → s i = if i < a then 1 else 0) (han : a ≤ n) : (∀ i, i < n → lostV n s 0 (n : Int) false i = if i < a then 2 else 0) ∧ lostV n s 0 (n : Int) false n = s n := by
  refine ⟨fun i hi => ?_, ?_⟩
  · unfold lostV inV
    rw [hs i hi]
    by_cases h : i < a
    · simp [h, hi]; omega
    · simp [h]
  · unfold lostV inV
    simp
theorem allows_again {n a : Nat} {s : Nat → Nat} {allow : Int} (hs : ∀ i, i < n → s i = if i < a then 2 else 0) (h0 : 0 < a) (han : a ≤ n) : ∃ e, nextV n s (n : Int) allow = some (0, a, e) := by
  refine ⟨_, (next_lost (f := 0) (t := a) (by omega) ?_ (fun j hj => absurd hj (by omega)) (Nat.zero_le _) han (by omega) (fun j h1 h2 => ?_) ?_).trans (send_some h0)⟩
  · rw [hs 0 (by omega), if_pos h0]
  · rw [hs j (by omega), if_pos h2]
  · by_cases h : a = n
    · exact .inl h
    · refine .inr (.inr ?_)
      rw [hs a (by omega), if_neg (by omega)]
      decide
theorem allows_none {n : Nat} {s : Nat → Nat} {allow : Int} (hs : ∀ i, i < n → s i = 0) (hn : 0 < n) (h2 : s n ≠ 2) (ha : allow ≤ 0) (room : Int) : nextV n s room allow = none :=
  next_wait (f := 0) (fun j hj => by
    by_cases e : j = n
    · subst e; exact h2
    · rw [hs j (by omega)]; decide) hn (hs 0 hn) (fun j hj => absurd hj (by omega)) (by omega)
/-! with some of it lost and told again -/
/-- nothing is under way: what Next tells, if not all is there -/
theorem calm_next {n : Nat} {s : Nat → Nat} {room : Int} (hs : ∀ i, i ≤ n → s i = 0 ∨ s i = 2 ∨ s i = 3) (hd : doneV n s = false) (hr : 1 ≤ room) :
    ∃ f t e, nextV n s room (n : Int) = some (f, t, e) ∧ f ≤ t ∧ t ≤ n ∧ (t : Int) - f ≤ room ∧ (e = true → t = n ∧ s n ≠ 3) ∧ (f < t ∨ e = true) ∧ (∀ j, f ≤ j → j < t → s j ≠ 3) := by
  have hsend : ∀ f t : Nat, ∀ c : Nat, c ≠ 3 → f < t → t ≤ n → (∀ j, f ≤ j → j < t → s j = c) → (t : Int) - f ≤ room → ∃ e, sendV n s f t = some (f, t, e) ∧ (e = true → t = n ∧ s n ≠ 3) := by
    intro f t c hc h1 h2 h3 h4
    refine ⟨_, send_some h1, fun he => ?_⟩
    unfold endV at he
    simp at he
    exact ⟨he.1.1, by rcases he.2 with h | h <;> rw [h] <;> decide⟩
  rcases first_cases s 2 n with ⟨l1, l2⟩ | ⟨f, l1, l2, l3, l4⟩
  · by_cases hn2 : s n = 2
    · refine ⟨n, n, true, ?_, Nat.le_refl _, Nat.le_refl _, by omega, fun _ => ⟨rfl, by rw [hn2]; decide⟩, .inr rfl, fun j h1 h2 => absurd h2 (by omega)⟩
      exact next_end_lost l2 hn2
    · have hl : ∀ j, j ≤ n → s j ≠ 2 := fun j hj => by
        by_cases e : j = n
        · subst e; exact hn2
        · exact l2 j (by omega)
      rcases first_cases s 0 n with ⟨k1, k2⟩ | ⟨f, k1, k2, k3, k4⟩
      · have hn0 : s n = 0 := by
          rcases hs n (Nat.le_refl _) with h | h | h
          · exact h
          · exact absurd h hn2
          · have : doneV n s = true := done_of fun i hi => by
              by_cases e : i = n
              · subst e; exact h
              · rcases hs i hi with h' | h' | h'
                · exact absurd h' (k2 i (by omega))
                · exact absurd h' (hl i hi)
                · exact h'
            rw [this] at hd
            cases hd
        refine ⟨n, n, true, next_end_new l2 k2 hn0, Nat.le_refl _, Nat.le_refl _, by omega, fun _ => ⟨rfl, by rw [hn0]; decide⟩, .inr rfl, fun j h1 h2 => absurd h2 (by omega)⟩
      · obtain ⟨r1, r2, r3, r4⟩ := run_spec s 0 (min (n - f) room.toNat) f
        obtain ⟨t, ht⟩ : ∃ t, runV s 0 (min (n - f) room.toNat) f = t := ⟨_, rfl⟩
        rw [ht] at r1 r2 r3 r4
        have hft : f < t := by
          rcases Nat.lt_or_ge f t with h | h
          · exact h
          · have : t = f := by omega
            rcases r4 with h' | h'
            · omega
            · rw [this] at h'; exact absurd k3 h'
        obtain ⟨e, he, he2⟩ := hsend f t 0 (by decide) hft (by omega) r3 (by omega)
        refine ⟨f, t, e, ?_, by omega, by omega, by omega, he2, .inl hft, fun j h1 h2 => by rw [r3 j h1 h2]; decide⟩
        rw [next_fresh hl k2 k3 k4 (by omega) (by omega) (by omega) (by omega) (by omega) r3 (r4.elim (fun h => by omega) fun h => .inr (.inr (.inr h)))]
        exact he
  · obtain ⟨r1, r2, r3, r4⟩ := run_spec s 2 (min (n - f) room.toNat) f
    obtain ⟨t, ht⟩ : ∃ t, runV s 2 (min (n - f) room.toNat) f = t := ⟨_, rfl⟩
    rw [ht] at r1 r2 r3 r4
    have hft : f < t := by
      rcases Nat.lt_or_ge f t with h | h
      · exact h
      · have : t = f := by omega
        rcases r4 with h' | h'
        · omega
        · rw [this] at h'; exact absurd l3 h'
    obtain ⟨e, he, he2⟩ := hsend f t 2 (by decide) hft (by omega) r3 (by omega)
    refine ⟨f, t, e, ?_, by omega, by omega, by omega, he2, .inl hft, fun j h1 h2 => by rw [r3 j h1 h2]; decide⟩
    rw [next_lost l2 l3 l4 (by omega) (by omega) (by omega) r3 (r4.elim (fun h => by omega) fun h => .inr (.inr h))]
    exact he
theorem in_told {n f t i : Nat} {e : Bool} (hft : f ≤ t) (htn : t ≤ n) : inV n (f : Int) ((t - f : Nat) : Int) e i = true ↔ (f ≤ i ∧ i < t) ∨ (i = n ∧ e = true) := by
  unfold inV
  simp
  constructor
  · rintro (h | h)
    · left; omega
    · exact .inr h
  · rintro (h | h)
    · left; omega
    · exact .inr h
/-- what was told and came -/
theorem calm_there {n f t : Nat} {e : Bool} {s : Nat → Nat} (hft : f ≤ t) (htn : t ≤ n) (i : Nat) : thereV n (landV n s 1 (some (f, t, e))) (f : Int) ((t - f : Nat) : Int) e i = if (f ≤ i ∧ i < t) ∨ (i = n ∧ e = true) then 3 else s i := by
  unfold thereV landV
  simp only
  by_cases h : (f ≤ i ∧ i < t) ∨ (i = n ∧ e = true)
  · rw [if_pos h, if_pos ⟨(in_told hft htn).2 h, .inl rfl⟩, if_pos h]
  · rw [if_neg h, if_neg (fun h' => h ((in_told hft htn).1 h'.1)), if_neg h]
/-- what was told and was lost -/
theorem calm_lost {n f t : Nat} {e : Bool} {s : Nat → Nat} (hft : f ≤ t) (htn : t ≤ n) (i : Nat) : lostV n (landV n s 1 (some (f, t, e))) (f : Int) ((t - f : Nat) : Int) e i = if (f ≤ i ∧ i < t) ∨ (i = n ∧ e = true) then 2 else s i := by
  unfold lostV landV
  simp only
  by_cases h : (f ≤ i ∧ i < t) ∨ (i = n ∧ e = true)
  · rw [if_pos h, if_pos ⟨(in_told hft htn).2 h, rfl⟩, if_pos h]
  · rw [if_neg h, if_neg (fun h' => h ((in_told hft htn).1 h'.1)), if_neg h]
/-- how many places, the end's with them, are not there -/
def restV (n : Nat) (s : Nat → Nat) : Nat := cntV (fun i => decide (s i ≠ 3)) (n + 1)
theorem rest_le (n : Nat) (s : Nat → Nat) : restV n s ≤ n + 1 := cnt_le _ _
theorem rest_zero {n : Nat} {s : Nat → Nat} (h : restV n s = 0) : doneV n s = true := done_of fun i hi => by
  have := cnt_zero.1 h i (by omega)
  simpa using this
/-- each piece that came leaves fewer -/
theorem rest_less {n f t : Nat} {e : Bool} {s s' : Nat → Nat} (hft : f ≤ t) (htn : t ≤ n) (hs : ∀ i, i ≤ n → s' i = if (f ≤ i ∧ i < t) ∨ (i = n ∧ e = true) then 3 else s i) (h : f < t ∨ e = true) (hb : ∀ j, f ≤ j → j < t → s j ≠ 3) (he : e = true → s n ≠ 3) : restV n s' < restV n s := by
  have hmono : ∀ i, i < n + 1 → decide (s' i ≠ 3) = true → decide (s i ≠ 3) = true := fun i hi h' => by
    simp only [decide_eq_true_eq] at h' ⊢
    rw [hs i (by omega)] at h'
    split at h'
    · exact absurd rfl h'
    · exact h'
  rcases h with h | h
  · refine cnt_less (k := f) ?_ ?_ (by omega) hmono
    · rw [hs f (by omega), if_pos (.inl ⟨Nat.le_refl _, h⟩)]; rfl
    · simpa using hb f (Nat.le_refl _) h
  · refine cnt_less (k := n) ?_ ?_ (by omega) hmono
    · rw [hs n (Nat.le_refl _), if_pos (.inr ⟨rfl, h⟩)]; rfl
    · simpa using he h
/-! what is lost goes ahead of what is new -/
theorem order_first {n a : Nat} {s : Nat → Nat} (hs : ∀ i, i ≤ n → s i = 0) (h0 : 0 < a) (ha : a < n) : nextV n s (n : Int) (a : Int) = some (0, a, false) := by
  rw [next_fresh (f := 0) (t := a) (fun j hj => by rw [hs j hj]; decide) (by omega) (hs 0 (Nat.zero_le _)) (fun j hj => absurd hj (by omega)) (by omega) (Nat.zero_le _) (by omega) (by omega) (by omega) (fun j h1 h2 => hs j (by omega)) (by omega), send_some h0, end_within (by omega)]
theorem order_wait {n a : Nat} {s : Nat → Nat} (hs : ∀ i, i ≤ n → s i = if i < a then 1 else 0) (ha : a < n) (room : Int) : nextV n s room (a : Int) = none :=
  next_wait (f := a) (fun j hj => by rw [hs j hj]; split <;> decide) ha (by rw [hs a (by omega), if_neg (by omega)]) (fun j hj => by rw [hs j (by omega), if_pos hj]; decide) (by omega)
/-- ahead of x it is there, from x to y it is lost, to a it is under way, else it is new -/
theorem order_lost {n x y a : Nat} {s : Nat → Nat} (hs : ∀ i, i ≤ n → s i = if i < x then 3 else if i < y then 2 else if i < a then 1 else 0) (h1 : x < y) (h2 : y ≤ a) (h3 : a < n) : nextV n s (n : Int) (n : Int) = some (x, y, false) := by
  rw [next_lost (f := x) (t := y) (by omega) (by rw [hs x (by omega), if_neg (by omega), if_pos h1]) (fun j hj => by rw [hs j (by omega), if_pos hj]; decide) (by omega) (by omega) (by omega) (fun j h4 h5 => by rw [hs j (by omega), if_neg (by omega), if_pos h5]) (.inr (.inr (by rw [hs y (by omega), if_neg (by omega), if_neg (by omega)]; split <;> decide))), send_some h1, end_within (by omega)]
theorem order_new {n x a : Nat} {s : Nat → Nat} (hs : ∀ i, i ≤ n → s i = if i < x then 3 else if i < a then 1 else 0) (h1 : x ≤ a) (h3 : a < n) : nextV n s (n : Int) (n : Int) = some (a, n, true) := by
  rw [next_fresh (f := a) (t := n) (fun j hj => by rw [hs j hj]; by_cases c1 : j < x <;> by_cases c2 : j < a <;> simp [c1, c2]) h3 (by rw [hs a (by omega), if_neg (by omega), if_neg (by omega)]) (fun j hj => by rw [hs j (by omega), if_pos hj]; split <;> decide) (by omega) (by omega) (Nat.le_refl _) (by omega) (by omega) (fun j h4 h5 => by rw [hs j (by omega), if_neg (by omega), if_neg (by omega)]) (.inl rfl), send_some h3, end_last h3 (.inl (by rw [hs n (Nat.le_refl _), if_neg (by omega), if_neg (by omega)]))]
  simp
theorem order_none {n : Nat} {s : Nat → Nat} (hs : ∀ i, i ≤ n → s i = 3) (room allow : Int) : nextV n s room allow = none := next_none (fun j hj => by rw [hs j hj]; decide) (fun j hj => by rw [hs j hj]; decide)
end Go.Proofs.YtkodjajhlcbmkaaDoor
