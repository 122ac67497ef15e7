/-
  What goes out of a stream: each place's state (0 new, 1 under way, 2 lost, 3 there; the end's behind the bytes' own), as functions of places. Pure.
-/
import Derived.Test.YtocolaccgoochaaDoorInts
namespace Go.Proofs.YtocolaccgoochaaDoor
open Go.RowKit
set_option linter.unusedVariables false

/-- the first of the places below k in state st -/
def firstV (s : Nat → Nat) (st : Nat) : Nat → Option Nat
  | 0 => none
  | k + 1 => match firstV s st k with
    | some i => some i
    | none => if s k = st then some k else none
theorem first_none {s : Nat → Nat} {st : Nat} : ∀ {n : Nat}, (∀ j, j < n → s j ≠ st) → firstV s st n = none
  | 0, _ => rfl
  | n + 1, h => by
    unfold firstV
    rw [first_none (fun j hj => h j (by omega) : ∀ j, j < n → s j ≠ st), if_neg (h n (by omega))]
theorem first_some {s : Nat → Nat} {st f : Nat} (hs : s f = st) (hb : ∀ j, j < f → s j ≠ st) : ∀ {n : Nat}, f < n → firstV s st n = some f
  | 0, h => absurd h (by omega)
  | n + 1, h => by
    unfold firstV
    by_cases hn : f = n
    · subst hn
      rw [first_none hb, if_pos hs]
    · rw [first_some hs hb (show f < n by omega)]
theorem first_cases (s : Nat → Nat) (st : Nat) : ∀ n : Nat, (firstV s st n = none ∧ ∀ j, j < n → s j ≠ st) ∨ ∃ f, firstV s st n = some f ∧ f < n ∧ s f = st ∧ ∀ j, j < f → s j ≠ st
  | 0 => .inl ⟨rfl, fun j hj => absurd hj (by omega)⟩
  | n + 1 => by
    rcases first_cases s st n with ⟨h1, h2⟩ | ⟨f, h1, h2, h3, h4⟩
    · by_cases h : s n = st
      · exact .inr ⟨n, first_some h h2 (by omega), by omega, h, h2⟩
      · refine .inl ⟨first_none fun j hj => ?_, fun j hj => ?_⟩ <;>
        · by_cases e : j = n
          · subst e; exact h
          · exact h2 j (by omega)
    · exact .inr ⟨f, first_some h3 h4 (by omega), by omega, h3, h4⟩
/-- from a on, at most k of them in state st: where that ends -/
def runV (s : Nat → Nat) (st : Nat) : Nat → Nat → Nat
  | 0, a => a
  | k + 1, a => if s a = st then runV s st k (a + 1) else a
theorem run_eq {s : Nat → Nat} {st t : Nat} : ∀ {k a : Nat}, a ≤ t → t ≤ a + k → (∀ j, a ≤ j → j < t → s j = st) → (t = a + k ∨ s t ≠ st) → runV s st k a = t
  | 0, a, h1, h2, _, _ => by unfold runV; omega
  | k + 1, a, h1, h2, h3, h4 => by
    unfold runV
    by_cases e : a = t
    · subst e
      rw [if_neg (h4.resolve_left (by omega))]
    · rw [if_pos (h3 a (Nat.le_refl _) (by omega))]
      exact run_eq (by omega) (by omega) (fun j hj hj' => h3 j (by omega) hj') (h4.imp (fun h => by omega) id)
theorem run_spec (s : Nat → Nat) (st : Nat) : ∀ k a : Nat, a ≤ runV s st k a ∧ runV s st k a ≤ a + k ∧ (∀ j, a ≤ j → j < runV s st k a → s j = st) ∧ (runV s st k a = a + k ∨ s (runV s st k a) ≠ st)
  | 0, a => ⟨Nat.le_refl _, Nat.le_refl _, fun j h1 h2 => by unfold runV at h2; omega, .inl rfl⟩
  | k + 1, a => by
    by_cases h : s a = st
    · have e : runV s st (k + 1) a = runV s st k (a + 1) := by rw [runV, if_pos h]
      rw [e]
      obtain ⟨h1, h2, h3, h4⟩ := run_spec s st k (a + 1)
      refine ⟨by omega, by omega, fun j hj hj' => ?_, h4.imp (fun h => by omega) id⟩
      by_cases ej : j = a
      · subst ej; exact h
      · exact h3 j (by omega) hj'
    · have e : runV s st (k + 1) a = a := by rw [runV, if_neg h]
      rw [e]
      exact ⟨Nat.le_refl _, by omega, fun j hj hj' => absurd hj' (by omega), .inr h⟩
/-- whether the end goes with what ends at t -/
def endV (n : Nat) (s : Nat → Nat) (f t : Nat) : Bool := decide (t = n) && (decide (f < t) || decide (f = n)) && (decide (s n = 0) || decide (s n = 2))
/-- from, to, the end; none: nothing is sent -/
def sendV (n : Nat) (s : Nat → Nat) (f t : Nat) : Option (Nat × Nat × Bool) := if f = t ∧ endV n s f t = false then none else some (f, t, endV n s f t)
def nextV (n : Nat) (s : Nat → Nat) (room allow : Int) : Option (Nat × Nat × Bool) :=
  match firstV s 2 n with
  | some f => sendV n s f (runV s 2 (min (n - f) room.toNat) f)
  | none =>
    if s n = 2 then sendV n s n n
    else match firstV s 0 n with
      | some f => if (f : Int) < allow then sendV n s f (runV s 0 (min (min (n - f) room.toNat) (allow - f).toNat) f) else none
      | none => if s n = 0 then sendV n s n n else none
/-- what was told is in state st then -/
def landV (n : Nat) (s : Nat → Nat) (st : Nat) (r : Option (Nat × Nat × Bool)) : Nat → Nat :=
  match r with
  | none => s
  | some (f, t, e) => fun i => if (f ≤ i ∧ i < t) ∨ (i = n ∧ e = true) then st else s i
/-- whether a place is meant by There or Lost -/
def inV (n : Nat) (off m : Int) (e : Bool) (i : Nat) : Bool := (decide (i < n) && decide (off ≤ (i : Int)) && decide (0 < m) && decide ((i : Int) - off < m)) || (decide (i = n) && e)
def thereV (n : Nat) (s : Nat → Nat) (off m : Int) (e : Bool) : Nat → Nat := fun i => if inV n off m e i = true ∧ (s i = 1 ∨ s i = 2) then 3 else s i
def lostV (n : Nat) (s : Nat → Nat) (off m : Int) (e : Bool) : Nat → Nat := fun i => if inV n off m e i = true ∧ s i = 1 then 2 else s i
/-- how many of the places below n are so -/
def cntV (p : Nat → Bool) : Nat → Nat
  | 0 => 0
  | n + 1 => cntV p n + (if p n = true then 1 else 0)
def sentV (n : Nat) (s : Nat → Nat) : Nat := cntV (fun i => decide (s i ≠ 0)) n
def leftV (n : Nat) (s : Nat → Nat) : Nat := cntV (fun i => decide (s i ≠ 3)) n
def doneV (n : Nat) (s : Nat → Nat) : Bool := decide (leftV n s = 0) && decide (s n = 3)
theorem cnt_le (p : Nat → Bool) : ∀ n, cntV p n ≤ n
  | 0 => Nat.le_refl _
  | n + 1 => by
    have := cnt_le p n
    unfold cntV
    split <;> omega
theorem cnt_same {p q : Nat → Bool} : ∀ {n : Nat}, (∀ i, i < n → p i = q i) → cntV p n = cntV q n
  | 0, _ => rfl
  | n + 1, h => by
    unfold cntV
    rw [cnt_same (fun i hi => h i (by omega) : ∀ i, i < n → p i = q i), h n (by omega)]
theorem cnt_below (a : Nat) : ∀ n : Nat, cntV (fun i => decide (i < a)) n = min a n
  | 0 => by simp [cntV]
  | n + 1 => by
    unfold cntV
    rw [cnt_below a n]
    by_cases h : n < a <;> simp [h] <;> omega
theorem cnt_from (a : Nat) : ∀ n : Nat, cntV (fun i => decide (a ≤ i)) n = n - a
  | 0 => by simp [cntV]
  | n + 1 => by
    unfold cntV
    rw [cnt_from a n]
    by_cases h : a ≤ n <;> simp [h] <;> omega
theorem cnt_zero {p : Nat → Bool} : ∀ {n : Nat}, cntV p n = 0 ↔ ∀ i, i < n → p i = false
  | 0 => ⟨fun _ i hi => absurd hi (by omega), fun _ => rfl⟩
  | n + 1 => by
    have ih := cnt_zero (p := p) (n := n)
    unfold cntV
    constructor
    · intro h i hi
      by_cases e : i = n
      · subst e
        cases hp : p i
        · rfl
        · rw [hp] at h; simp at h
      · exact ih.1 (by omega) i (by omega)
    · intro h
      rw [ih.2 fun i hi => h i (by omega), h n (by omega)]
      rfl
/-- fewer are so, and at one place it was so and is no more -/
theorem cnt_mono {p q : Nat → Bool} : ∀ {n : Nat}, (∀ i, i < n → p i = true → q i = true) → cntV p n ≤ cntV q n
  | 0, _ => Nat.le_refl _
  | n + 1, h => by
    have ih := cnt_mono (fun i hi => h i (by omega) : ∀ i, i < n → p i = true → q i = true)
    unfold cntV
    by_cases hp : p n = true
    · rw [if_pos hp, if_pos (h n (by omega) hp)]; omega
    · rw [if_neg hp]; split <;> omega
theorem cnt_less {p q : Nat → Bool} {k : Nat} (hk : p k = false) (hk' : q k = true) : ∀ {n : Nat}, k < n → (∀ i, i < n → p i = true → q i = true) → cntV p n < cntV q n
  | 0, h0, _ => absurd h0 (by omega)
  | n + 1, h0, h => by
    have ih := cnt_mono (fun i hi => h i (by omega) : ∀ i, i < n → p i = true → q i = true)
    unfold cntV
    by_cases e : k = n
    · subst e
      rw [if_neg (by rw [hk]; simp), if_pos hk']
      omega
    · have ih2 := cnt_less hk hk' (show k < n by omega) (fun i hi => h i (by omega))
      by_cases hp : p n = true
      · rw [if_pos hp, if_pos (h n (by omega) hp)]; omega
      · rw [if_neg hp]; split <;> omega

/-! what Next tells, by what stands where -/
theorem next_lost {n : Nat} {s : Nat → Nat} {room allow : Int} {f t : Nat} (hf : f < n) (hs : s f = 2) (hb : ∀ j, j < f → s j ≠ 2) (h1 : f ≤ t) (h2 : t ≤ n) (h3 : (t : Int) - f ≤ room) (h4 : ∀ j, f ≤ j → j < t → s j = 2) (h5 : t = n ∨ (t : Int) - f = room ∨ s t ≠ 2) :
    nextV n s room allow = sendV n s f t := by
  unfold nextV
  rw [first_some hs hb hf]
  simp only
  rw [run_eq h1 (by omega) h4 (by rcases h5 with h | h | h <;> first | exact .inr h | exact .inl (by omega))]
theorem next_end_lost {n : Nat} {s : Nat → Nat} {room allow : Int} (hb : ∀ j, j < n → s j ≠ 2) (hs : s n = 2) : nextV n s room allow = some (n, n, true) := by
  unfold nextV
  rw [first_none hb]
  simp [hs, sendV, endV]
theorem next_fresh {n : Nat} {s : Nat → Nat} {room allow : Int} {f t : Nat} (hl : ∀ j, j ≤ n → s j ≠ 2) (hf : f < n) (hs : s f = 0) (hb : ∀ j, j < f → s j ≠ 0) (ha : (f : Int) < allow) (h1 : f ≤ t) (h2 : t ≤ n) (h3 : (t : Int) - f ≤ room) (h6 : (t : Int) ≤ allow)
    (h4 : ∀ j, f ≤ j → j < t → s j = 0) (h5 : t = n ∨ (t : Int) - f = room ∨ (t : Int) = allow ∨ s t ≠ 0) : nextV n s room allow = sendV n s f t := by
  unfold nextV
  rw [first_none fun j hj => hl j (by omega)]
  simp only
  rw [if_neg (hl n (Nat.le_refl _)), first_some hs hb hf]
  simp only
  rw [if_pos ha, run_eq h1 (by omega) h4 (by rcases h5 with h | h | h | h <;> first | exact .inr h | exact .inl (by omega))]
theorem next_wait {n : Nat} {s : Nat → Nat} {room allow : Int} {f : Nat} (hl : ∀ j, j ≤ n → s j ≠ 2) (hf : f < n) (hs : s f = 0) (hb : ∀ j, j < f → s j ≠ 0) (ha : ¬ (f : Int) < allow) : nextV n s room allow = none := by
  unfold nextV
  rw [first_none fun j hj => hl j (by omega)]
  simp only
  rw [if_neg (hl n (Nat.le_refl _)), first_some hs hb hf]
  simp only
  rw [if_neg ha]
theorem next_end_new {n : Nat} {s : Nat → Nat} {room allow : Int} (hl : ∀ j, j < n → s j ≠ 2) (hb : ∀ j, j < n → s j ≠ 0) (hs : s n = 0) : nextV n s room allow = some (n, n, true) := by
  unfold nextV
  rw [first_none hl, first_none hb]
  simp [hs, sendV, endV]
theorem next_none {n : Nat} {s : Nat → Nat} {room allow : Int} (hl : ∀ j, j ≤ n → s j ≠ 2) (hb : ∀ j, j ≤ n → s j ≠ 0) : nextV n s room allow = none := by
  unfold nextV
  rw [first_none fun j hj => hl j (by omega), first_none fun j hj => hb j (by omega)]
  simp [hl n (Nat.le_refl _), hb n (Nat.le_refl _)]
theorem send_some {n : Nat} {s : Nat → Nat} {f t : Nat} (h : f < t) : sendV n s f t = some (f, t, endV n s f t) := by
  unfold sendV
  rw [if_neg (by omega)]
theorem end_last {n : Nat} {s : Nat → Nat} {f t : Nat} (h : f < t) (hs : s n = 0 ∨ s n = 2) : endV n s f t = decide (t = n) := by
  unfold endV
  simp [h, hs]
theorem end_within {n : Nat} {s : Nat → Nat} {f t : Nat} (h : t ≠ n) : endV n s f t = false := by
  unfold endV
  simp [h]
/-- two states that are alike at each place tell alike -/
theorem first_same {s s' : Nat → Nat} {st : Nat} : ∀ {n : Nat}, (∀ i, i < n → s i = s' i) → firstV s st n = firstV s' st n
  | 0, _ => rfl
  | n + 1, h => by
    unfold firstV
    rw [first_same (fun i hi => h i (by omega) : ∀ i, i < n → s i = s' i), h n (by omega)]
end Go.Proofs.YtocolaccgoochaaDoor
