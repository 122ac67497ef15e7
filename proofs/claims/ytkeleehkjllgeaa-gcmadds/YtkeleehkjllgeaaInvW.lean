/-
  A region that draws its order, by what holds whichever of its operations have come up: a case an operation, not a case an order.
-/
import Derived.Test.YtkeleehkjllgeaaBlkW
namespace Go.Proofs.Ytkeleehkjllgeaa
open Go.RowKit
set_option linter.unusedVariables false

/-- how many of T have not come up -/
def cntT (listed : Array Bool) (T : List Nat) : Nat := (T.filter fun t => !listed.getD t true).length
theorem cntT_set (listed : Array Bool) (T : List Nat) (hT : T.Nodup) (i : Nat) (hi : i ∈ T) (hu : listed.getD i true = false) : cntT (listed.setIfInBounds i true) T + 1 = cntT listed T := by
  unfold cntT
  have hlt : i < listed.size := by
    rcases Nat.lt_or_ge i listed.size with h | h
    · exact h
    · simp [Array.getElem?_eq_none h] at hu
  have hsame : ∀ j, j ≠ i → (listed.setIfInBounds i true).getD j true = listed.getD j true := fun j hj => getD_set_ne true (Ne.symm hj)
  have hnew : (listed.setIfInBounds i true).getD i true = true := by simp [hlt]
  induction T with
  | nil => cases hi
  | cons t T ih =>
    rw [List.nodup_cons] at hT
    by_cases e : t = i
    · subst e
      have hr : ∀ x ∈ T, (!(listed.setIfInBounds t true).getD x true) = !listed.getD x true := fun x hx => by rw [hsame x (fun e => hT.1 (e ▸ hx))]
      rw [List.filter_cons, List.filter_cons, hnew, hu, List.filter_congr hr]
      rfl
    · have hi' : i ∈ T := (List.mem_cons.1 hi).resolve_left (fun h => e h.symm)
      have h1 := ih hT.2 hi'
      rw [List.filter_cons, List.filter_cons, hsame t e]
      cases listed.getD t true
      · simp only [Bool.not_false, if_true, List.length_cons]; omega
      · simpa using h1
theorem wpAnyH_inv {P : Program} {md : Region.Mode} {ops : Array Oper} {Q : Exit → Act → World → Prop} {S : World → Prop} (T : List Nat) (hT : T.Nodup) (R : Nat) (Inv : Array Bool → Act → World → Prop)
    (hstep : ∀ listed a w, Inv listed a w → cntT listed T ≠ 0 → Region.ready md ops listed ≠ [] ∧ ∀ i ∈ Region.ready md ops listed, i ∈ T ∧ wpOp P ops Q i (fun a' w' => S w' ∧ Inv (listed.setIfInBounds i true) a' w') a w)
    (hexit : ∀ listed a w, Inv listed a w → cntT listed T = 0 → wpAnyH P md ops Q S R listed a w) :
    ∀ n listed a w, cntT listed T = n → Inv listed a w → wpAnyH P md ops Q S (n + R) listed a w := by
  intro n
  induction n with
  | zero => intro listed a w h hi; rw [Nat.zero_add]; exact hexit listed a w hi h
  | succ n ih =>
    intro listed a w h hi
    obtain ⟨h1, h2⟩ := hstep listed a w hi (by omega)
    rw [show n + 1 + R = (n + R) + 1 by omega]
    refine ⟨fun h0 => absurd h0 h1, fun i hr => ?_⟩
    obtain ⟨h3, h4⟩ := h2 i hr
    have hu := (mem_ready.1 hr).1
    have hc := cntT_set listed T hT i h3 hu
    exact wpOp_mono (fun a' w' hh => ⟨hh.1, ih _ a' w' (by omega) hh.2⟩) h4
/-- what must have come up ahead of one that may -/
theorem ready_deps {md : Region.Mode} {ops : Array Oper} {listed : Array Bool} {i : Nat} (hi : i ∈ Region.ready md ops listed) (D : List Nat) (hD : (ops[i]?.map fun o => D.all fun d => o.after.toList.any fun e => Region.binds md e && e.on == d) = some true) : ∀ d ∈ D, listed.getD d false = true := by
  obtain ⟨h0, o, ho, h⟩ := mem_ready.1 hi
  rw [ho] at hD
  simp only [Option.map_some, Option.some.injEq, List.all_eq_true, List.any_eq_true, Bool.and_eq_true, beq_iff_eq] at hD
  intro d hd
  obtain ⟨e, he, hb, rfl⟩ := hD d hd
  exact h e (by simpa using he) hb
/-- one that may come up: all that it waits for is in D, and D has come up -/
theorem ready_of {md : Region.Mode} {ops : Array Oper} {listed : Array Bool} (i : Nat) (D : List Nat) (hu : listed.getD i true = false) (hD : (ops[i]?.map fun o => o.after.toList.all fun e => !Region.binds md e || D.contains e.on) = some true) (hd : ∀ d ∈ D, listed.getD d false = true) : i ∈ Region.ready md ops listed := by
  cases ho : ops[i]? with
  | none => rw [ho] at hD; cases hD
  | some o =>
    rw [ho] at hD
    simp only [Option.map_some, Option.some.injEq, List.all_eq_true, Bool.or_eq_true, Bool.not_eq_true', List.contains_iff_mem] at hD
    refine mem_ready.2 ⟨hu, o, ho, fun e he hb => ?_⟩
    rcases hD e (by simpa using he) with h | h
    · rw [h] at hb; cases hb
    · exact hd _ h
/-- a frame under a name -/
theorem from_act {P : Program} {md : Region.Mode} {ops : Array Oper} {Q : Exit → Act → World → Prop} {S : World → Prop} {fuel : Nat} {listed : Array Bool} {A0 : Act} {w : World} (h : ∀ a0, a0 = A0 → wpAnyH P md ops Q S fuel listed a0 w) : wpAnyH P md ops Q S fuel listed A0 w := h A0 rfl
end Go.Proofs.Ytkeleehkjllgeaa
