/-
  What comes in of a stream: bytes by places, the end, how many were read. Pure.
-/
import Derived.Test.YtocolaccgoochaaDoorInts
namespace Go.Proofs.YtocolaccgoochaaDoor
open Go.RowKit
set_option linter.unusedVariables false

/-- which bytes came, behind the last one, the end, how many were read -/
structure InS where
  p : Nat → Option UInt8
  hi : Nat
  en : Option Nat
  rd : Nat
def InS.new : InS := ⟨fun _ => none, 0, none, 0⟩
/-- what would come does not fit what is there -/
def clashV (s : InS) (o : Nat) (d : List UInt8) (e : Bool) : Prop :=
  (∃ E, s.en = some E ∧ (E < o + d.length ∨ (e = true ∧ o + d.length ≠ E))) ∨ (e = true ∧ o + d.length < s.hi) ∨ ∃ k, k < d.length ∧ ∃ b, s.p (o + k) = some b ∧ b ≠ d.getD k 0
def putS (s : InS) (o : Nat) (d : List UInt8) (e : Bool) : InS :=
  ⟨fun i => if o ≤ i ∧ i < o + d.length then some (d.getD (i - o) 0) else s.p i, if d.length = 0 then s.hi else max s.hi (o + d.length), if e = true then some (o + d.length) else s.en, s.rd⟩
/-- what Put answers, and what is there then -/
def PutR (most : Nat) (s : InS) (off : Int) (d : List UInt8) (e : Bool) (c : Nat) (s' : InS) : Prop :=
  (off < 0 ∧ c = 2 ∧ s' = s) ∨ ∃ o : Nat, off = (o : Int) ∧ ((most < o + d.length ∧ c = 11 ∧ s' = s) ∨ (o + d.length ≤ most ∧ clashV s o d e ∧ c = 12 ∧ s' = s) ∨ (o + d.length ≤ most ∧ ¬ clashV s o d e ∧ c = 0 ∧ s' = putS s o d e))
theorem put_same {most : Nat} {s : InS} {off : Int} {d : List UInt8} {e : Bool} {c c' : Nat} {s' s'' : InS} (h : PutR most s off d e c s') (k : PutR most s off d e c' s'') : c = c' ∧ s' = s'' := by
  rcases h with ⟨h1, rfl, rfl⟩ | ⟨o, rfl, h⟩
  · rcases k with ⟨_, rfl, rfl⟩ | ⟨o, rfl, _⟩
    · exact ⟨rfl, rfl⟩
    · omega
  · rcases k with ⟨k1, _⟩ | ⟨o', k0, k⟩
    · omega
    · obtain rfl : o = o' := by omega
      rcases h with ⟨h1, rfl, rfl⟩ | ⟨h1, h2, rfl, rfl⟩ | ⟨h1, h2, rfl, rfl⟩
      · rcases k with ⟨_, rfl, rfl⟩ | ⟨k1, _⟩ | ⟨k1, _⟩
        · exact ⟨rfl, rfl⟩
        · omega
        · omega
      · rcases k with ⟨k1, _⟩ | ⟨_, _, rfl, rfl⟩ | ⟨_, k2, _⟩
        · omega
        · exact ⟨rfl, rfl⟩
        · exact absurd h2 k2
      · rcases k with ⟨k1, _⟩ | ⟨_, k2, _⟩ | ⟨_, _, rfl, rfl⟩
        · omega
        · exact absurd k2 h2
        · exact ⟨rfl, rfl⟩
theorem put_some (most : Nat) (s : InS) (off : Int) (d : List UInt8) (e : Bool) : ∃ c s', PutR most s off d e c s' := by
  by_cases h : off < 0
  · exact ⟨2, s, .inl ⟨h, rfl, rfl⟩⟩
  · obtain ⟨o, rfl⟩ : ∃ o : Nat, off = (o : Int) := ⟨off.toNat, by omega⟩
    by_cases h1 : most < o + d.length
    · exact ⟨11, s, .inr ⟨o, rfl, .inl ⟨h1, rfl, rfl⟩⟩⟩
    · by_cases h2 : clashV s o d e
      · exact ⟨12, s, .inr ⟨o, rfl, .inr (.inl ⟨by omega, h2, rfl, rfl⟩)⟩⟩
      · exact ⟨0, _, .inr ⟨o, rfl, .inr (.inr ⟨by omega, h2, rfl, rfl⟩)⟩⟩
/-- as it can be -/
structure InS.Ok (most : Nat) (s : InS) : Prop where
  top : ∀ i, s.p i ≠ none → i < s.hi
  last : 0 < s.hi → s.p (s.hi - 1) ≠ none
  en : ∀ E, s.en = some E → s.hi ≤ E ∧ E ≤ most
  rd : ∀ i, i < s.rd → s.p i ≠ none
  most : s.hi ≤ most
theorem InS.new_ok (most : Nat) : InS.new.Ok most := ⟨fun i h => absurd rfl h, fun h => absurd h (Nat.lt_irrefl 0), (fun E h => by cases h), fun i h => absurd h (Nat.not_lt_zero i), Nat.zero_le most⟩
theorem InS.Ok.rdhi {most : Nat} {s : InS} (h : s.Ok most) : s.rd ≤ s.hi := by
  rcases Nat.eq_zero_or_pos s.rd with h0 | h0
  · omega
  · have := h.top _ (h.rd (s.rd - 1) (by omega))
    omega
theorem putS_ok {most : Nat} {s : InS} {o : Nat} {d : List UInt8} {e : Bool} (h : s.Ok most) (hm : o + d.length ≤ most) (hc : ¬ clashV s o d e) : (putS s o d e).Ok most := by
  have hE : ∀ E, s.en = some E → o + d.length ≤ E := fun E hE => Classical.byContradiction fun hh => hc (.inl ⟨E, hE, .inl (by omega)⟩)
  have hH : e = true → s.hi ≤ o + d.length := fun he => Classical.byContradiction fun hh => hc (.inr (.inl ⟨he, by omega⟩))
  have ht : ∀ i, (putS s o d e).p i = if o ≤ i ∧ i < o + d.length then some (d.getD (i - o) 0) else s.p i := fun _ => rfl
  have hh : (putS s o d e).hi = if d.length = 0 then s.hi else max s.hi (o + d.length) := rfl
  refine ⟨fun i hi => ?_, fun h0 => ?_, fun E hE' => ?_, fun i hi => ?_, ?_⟩
  · rw [ht] at hi
    rw [hh]
    by_cases c : o ≤ i ∧ i < o + d.length
    · rw [if_neg (by omega)]; omega
    · rw [if_neg c] at hi
      have := h.top i hi
      split <;> omega
  · rw [ht]
    rw [hh] at h0 ⊢
    by_cases c : d.length = 0
    · rw [if_pos c] at h0 ⊢
      rw [if_neg (by omega)]
      exact h.last h0
    · rw [if_neg c] at h0 ⊢
      by_cases c2 : s.hi ≤ o + d.length
      · rw [if_pos (by omega)]
        simp
      · rw [show max s.hi (o + d.length) = s.hi by omega, if_neg (by omega)]
        exact h.last (by omega)
  · have he : (putS s o d e).en = if e = true then some (o + d.length) else s.en := rfl
    rw [he] at hE'
    rw [hh]
    by_cases c : e = true
    · rw [if_pos c] at hE'
      injection hE' with hE'
      have := hH c
      constructor
      · split <;> omega
      · omega
    · rw [if_neg c] at hE'
      have h1 := h.en E hE'
      have h2 := hE E hE'
      exact ⟨by split <;> omega, h1.2⟩
  · rw [ht]
    split
    · simp
    · exact h.rd i hi
  · rw [hh]
    have := h.most
    split <;> omega
/-- side by side from a on, at most k -/
def runO (p : Nat → Option UInt8) : Nat → Nat → Nat
  | 0, a => a
  | k + 1, a => if (p a).isSome = true then runO p k (a + 1) else a
theorem runO_of {p : Nat → Option UInt8} {t : Nat} : ∀ {k a : Nat}, a ≤ t → t ≤ a + k → (∀ j, a ≤ j → j < t → p j ≠ none) → (t = a + k ∨ p t = none) → runO p k a = t
  | 0, a, h1, h2, _, _ => by unfold runO; omega
  | k + 1, a, h1, h2, h3, h4 => by
    unfold runO
    by_cases e : a = t
    · subst e
      rw [if_neg (by rw [h4.resolve_left (by omega)]; simp)]
    · have := h3 a (Nat.le_refl _) (by omega)
      rw [if_pos (by cases hp : p a with | none => exact absurd hp this | some b => rfl)]
      exact runO_of (by omega) (by omega) (fun j a b => h3 j (by omega) b) (h4.imp (fun h => by omega) id)
/-- behind what may be read -/
def frontV (s : InS) : Nat := runO s.p (s.hi - s.rd) s.rd
theorem front_ex {most : Nat} {s : InS} (h : s.Ok most) : ∃ t, frontV s = t ∧ s.rd ≤ t ∧ t ≤ s.hi ∧ (∀ j, j < t → s.p j ≠ none) ∧ s.p t = none := by
  have hr := h.rdhi
  have key : ∀ (k a : Nat), a + k = s.hi → ∃ t, runO s.p k a = t ∧ a ≤ t ∧ t ≤ s.hi ∧ (∀ j, a ≤ j → j < t → s.p j ≠ none) ∧ s.p t = none := by
    intro k
    induction k with
    | zero =>
      intro a ha
      refine ⟨a, rfl, Nat.le_refl _, by omega, fun j h1 h2 => absurd h2 (by omega), ?_⟩
      cases hp : s.p a with
      | none => rfl
      | some b => have := h.top a (by rw [hp]; simp); omega
    | succ k ih =>
      intro a ha
      unfold runO
      cases hp : s.p a with
      | none =>
        refine ⟨a, by simp, Nat.le_refl _, by omega, fun j h1 h2 => absurd h2 (by omega), hp⟩
      | some b =>
        obtain ⟨t, h1, h2, h3, h4, h5⟩ := ih (a + 1) (by omega)
        refine ⟨t, by simpa using h1, by omega, h3, fun j h6 h7 => ?_, h5⟩
        by_cases e : j = a
        · subst e; rw [hp]; simp
        · exact h4 j (by omega) h7
  obtain ⟨t, h1, h2, h3, h4, h5⟩ := key (s.hi - s.rd) s.rd (by omega)
  exact ⟨t, h1, h2, h3, fun j hj => if c : j < s.rd then h.rd j c else h4 j (by omega) hj, h5⟩
/-- where it is, by what is there -/
theorem front_is {most t : Nat} {s : InS} (h : s.Ok most) (h1 : ∀ j, j < t → s.p j ≠ none) (h2 : s.p t = none) : frontV s = t := by
  obtain ⟨t', e, _, _, h4, h5⟩ := front_ex h
  rw [e]
  rcases Nat.lt_trichotomy t t' with c | c | c
  · exact absurd h2 (h4 t c)
  · exact c.symm
  · exact absurd h5 (h1 t' c)
def readableV (s : InS) : Nat := frontV s - s.rd
def wholeV (s : InS) : Bool := decide (s.en = some (frontV s))
def endedV (s : InS) : Bool := decide (s.en = some s.rd)
def highestV (s : InS) : Nat := max s.hi (s.en.getD 0)
/-- what Read answers, m bytes -/
def bytesV (s : InS) (m : Nat) : List UInt8 := (List.range m).map fun k => (s.p (s.rd + k)).getD 0
def readN (s : InS) (n : Int) : Nat := min (max n 0).toNat (readableV s)
def readS (s : InS) (n : Int) : InS := ⟨s.p, s.hi, s.en, s.rd + readN s n⟩
theorem readS_ok {most : Nat} {s : InS} (h : s.Ok most) (n : Int) : (readS s n).Ok most := by
  obtain ⟨t, e, h1, h2, h3, h4⟩ := front_ex h
  refine ⟨h.top, h.last, h.en, fun i hi => h3 i ?_, h.most⟩
  have : i < s.rd + readN s n := hi
  unfold readN readableV at this
  rw [e] at this
  omega
theorem read_front {most : Nat} {s : InS} (h : s.Ok most) (n : Int) : frontV (readS s n) = frontV s := by
  obtain ⟨t, e, h1, h2, h3, h4⟩ := front_ex h
  rw [e]
  exact front_is (readS_ok h n) h3 h4
/-! what came is of D -/
structure Cons (D : List UInt8) (s : InS) : Prop where
  same : ∀ i b, s.p i = some b → i < D.length ∧ b = D.getD i 0
  en : ∀ E, s.en = some E → E = D.length
  hi : s.hi ≤ D.length
theorem cons_new (D : List UInt8) : Cons D InS.new := ⟨(fun i b h => by cases h), (fun E h => by cases h), Nat.zero_le _⟩
/-- pieces of it, as they stand there, never clash -/
theorem cons_put {D d : List UInt8} {s : InS} {o : Nat} {e : Bool} (h : Cons D s) (hd : ∀ k, k < d.length → d.getD k 0 = D.getD (o + k) 0) (hl : o + d.length ≤ D.length) (he : e = true → o + d.length = D.length) : ¬ clashV s o d e ∧ Cons D (putS s o d e) := by
  refine ⟨?_, ⟨fun i b hb => ?_, fun E hE => ?_, ?_⟩⟩
  · rintro (⟨E, hE, hh⟩ | ⟨h1, h2⟩ | ⟨k, hk, b, hb, hne⟩)
    · have := h.en E hE
      rcases hh with hh | ⟨h1, h2⟩
      · omega
      · have := he h1; omega
    · have := he h1
      have := h.hi
      omega
    · exact hne ((h.same _ b hb).2.trans (hd k hk).symm)
  · have ht : (putS s o d e).p i = if o ≤ i ∧ i < o + d.length then some (d.getD (i - o) 0) else s.p i := rfl
    rw [ht] at hb
    by_cases c : o ≤ i ∧ i < o + d.length
    · rw [if_pos c] at hb
      injection hb with hb
      refine ⟨by omega, ?_⟩
      rw [← hb, hd (i - o) (by omega), show o + (i - o) = i by omega]
    · rw [if_neg c] at hb
      exact h.same i b hb
  · have ht : (putS s o d e).en = if e = true then some (o + d.length) else s.en := rfl
    rw [ht] at hE
    by_cases c : e = true
    · rw [if_pos c] at hE
      injection hE with hE
      have := he c
      omega
    · rw [if_neg c] at hE
      exact h.en E hE
  · have ht : (putS s o d e).hi = if d.length = 0 then s.hi else max s.hi (o + d.length) := rfl
    rw [ht]
    have := h.hi
    split <;> omega
theorem cons_read {D : List UInt8} {s : InS} (h : Cons D s) (n : Int) : Cons D (readS s n) := ⟨h.same, h.en, h.hi⟩
theorem put_has {d : List UInt8} {s : InS} {o i : Nat} {e : Bool} (h : s.p i ≠ none ∨ (o ≤ i ∧ i < o + d.length)) : (putS s o d e).p i ≠ none := by
  have ht : (putS s o d e).p i = if o ≤ i ∧ i < o + d.length then some (d.getD (i - o) 0) else s.p i := rfl
  rw [ht]
  split
  · simp
  · rename_i c
    exact h.resolve_right c
theorem put_en {d : List UInt8} {s : InS} {o : Nat} {e : Bool} : (putS s o d e).en = if e = true then some (o + d.length) else s.en := rfl
/-- all came -/
theorem all_front {most : Nat} {D : List UInt8} {s : InS} (h : s.Ok most) (hc : Cons D s) (ha : ∀ i, i < D.length → s.p i ≠ none) : frontV s = D.length :=
  front_is h ha (by
    cases hp : s.p D.length with
    | none => rfl
    | some b => have := (hc.same _ b hp).1; omega)
theorem all_hi {most : Nat} {D : List UInt8} {s : InS} (h : s.Ok most) (hc : Cons D s) (ha : ∀ i, i < D.length → s.p i ≠ none) : s.hi = D.length := by
  have := hc.hi
  rcases Nat.eq_zero_or_pos D.length with h0 | h0
  · omega
  · have := h.top _ (ha (D.length - 1) (by omega))
    omega
/-- what is read of it -/
theorem bytes_of_cons {most m : Nat} {D : List UInt8} {s : InS} (h : s.Ok most) (hc : Cons D s) (hm : s.rd + m ≤ frontV s) : bytesV s m = (D.drop s.rd).take m := by
  obtain ⟨t, e, h1, h2, h3, h4⟩ := front_ex h
  rw [e] at hm
  have hD : ∀ k, k < m → s.rd + k < D.length ∧ (s.p (s.rd + k)).getD 0 = D.getD (s.rd + k) 0 := fun k hk => by
    have := h3 (s.rd + k) (by omega)
    cases hp : s.p (s.rd + k) with
    | none => exact absurd hp this
    | some b =>
      obtain ⟨h5, h6⟩ := hc.same _ b hp
      exact ⟨h5, by simpa using h6⟩
  refine List.ext_getElem ?_ fun k h1 h2 => ?_
  · unfold bytesV
    rw [List.length_map, List.length_range, List.length_take, List.length_drop]
    rcases Nat.eq_zero_or_pos m with h0 | h0
    · omega
    · have := (hD (m - 1) (by omega)).1
      omega
  · have hk : k < m := by
      unfold bytesV at h1
      simpa using h1
    have hh := hD k hk
    have hh2 := hh.2
    simp only [bytesV, List.getElem_map, List.getElem_range, List.getElem_take, List.getElem_drop]
    rw [hh2]
    simp [List.getD_eq_getElem?_getD, hh.1]
end Go.Proofs.YtocolaccgoochaaDoor
