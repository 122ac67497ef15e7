/-
  A region that draws its order: what holds till one of its operations has come up (a store into what others read), and need not hold behind it. (Nothing of a program's own functions.)
-/
import Derived.Test.YtocolaccgoochaaDoorBlkW
import Derived.StillTail
namespace Go.Proofs.YtocolaccgoochaaDoor
open Go.RowKit
set_option linter.unusedVariables false

section
variable {P : Program} {md : Region.Mode} {ops : Array Oper} {Q : Exit → Act → World → Prop} {S S' : World → Prop} {n : Nat}
/-- S holds till operation n has come up -/
def AnyP (P : Program) (md : Region.Mode) (ops : Array Oper) (Q : Exit → Act → World → Prop) (S : World → Prop) (n : Nat) : Nat → Array Bool → Act → World → Prop
  | 0, l, a, w => Region.ready md ops l = [] ∧ Q .normal a w
  | f + 1, l, a, w => (Region.ready md ops l = [] → Q .normal a w) ∧ ∀ i ∈ Region.ready md ops l, wpOp P ops Q i (fun a' w' => ((l.setIfInBounds i true).getD n false = false → S w') ∧ AnyP P md ops Q S n f (l.setIfInBounds i true) a' w') a w
theorem AnyP.any : ∀ (f : Nat) (l : Array Bool) (a : Act) (w : World), AnyP P md ops Q S n f l a w → wpAny P md ops Q f l a w
  | 0, _, _, _, h => h
  | f + 1, _, _, _, h => ⟨h.1, fun i hi => wpOp_mono (fun a' w' k => AnyP.any f _ a' w' k.2) (h.2 i hi)⟩
/-- what one that has come up waited for has come up -/
def ClosedL (md : Region.Mode) (ops : Array Oper) (l : Array Bool) : Prop :=
  l.size = ops.size ∧ ∀ j oj, ops[j]? = some oj → l.getD j false = true → ∀ e ∈ oj.after, Region.binds md e = true → l.getD e.on false = true
theorem getD_set_true {l : Array Bool} {i j : Nat} (h : l.getD j false = true) : (l.setIfInBounds i true).getD j false = true := by
  have hj : j < l.size := Classical.byContradiction fun hh => by
    rw [Array.getD_eq_getD_getElem?, Array.getElem?_eq_none (by omega)] at h
    cases h
  by_cases e : i = j
  · subst e; simp [hj]
  · rw [Array.getD_eq_getD_getElem?, Array.getElem?_setIfInBounds_ne e, ← Array.getD_eq_getD_getElem?]
    exact h
theorem ClosedL.set {l : Array Bool} {i : Nat} (h : ClosedL md ops l) (hi : i ∈ Region.ready md ops l) : ClosedL md ops (l.setIfInBounds i true) := by
  obtain ⟨_, oi, hoi, hall⟩ := mem_ready.1 hi
  refine ⟨by simp [h.1], fun j oj hj hl e he hb => ?_⟩
  by_cases hij : i = j
  · subst hij
    have : oj = oi := Option.some.inj (hj.symm.trans hoi)
    subst this
    exact getD_set_true (hall e he hb)
  · refine getD_set_true (h.2 j oj hj ?_ e he hb)
    rwa [Array.getD_eq_getD_getElem?, Array.getElem?_setIfInBounds_ne hij, ← Array.getD_eq_getD_getElem?] at hl
/-- each waits for the next -/
def pathB (md : Region.Mode) (ops : Array Oper) : List Nat → Bool
  | a :: b :: r => Region.waitsFor md ops a b && pathB md ops (b :: r)
  | _ => true
theorem ClosedL.path {l : Array Bool} (h : ClosedL md ops l) : ∀ (p : List Nat) (a : Nat), pathB md ops (a :: p) = true → l.getD a false = true → ∀ i ∈ a :: p, l.getD i false = true
  | [], a, _, ha, i, hi => by
    obtain rfl : i = a := by simpa using hi
    exact ha
  | b :: p, a, hp, ha, i, hi => by
    simp only [pathB, Bool.and_eq_true] at hp
    have hb : l.getD b false = true := by
      have hw := hp.1
      unfold Region.waitsFor at hw
      split at hw
      · rename_i oj hoj
        obtain ⟨e, he, hh⟩ := Array.any_eq_true'.1 hw
        simp only [Bool.and_eq_true, beq_iff_eq] at hh
        obtain ⟨hb, rfl⟩ := hh
        exact h.2 a oj hoj ha e he hb
      · cases hw
    rcases List.mem_cons.1 hi with rfl | hi
    · exact ha
    · exact ClosedL.path h p b hp.2 hb i hi
theorem AnyP.first (hsel : Region.noSelect ops = true) {i : Nat} {oi : Oper} {v : Value} (hi : ops[i]? = some oi) (hni : n ≠ i) (hQ : ∀ c a w, Q (.panic c) (a.put oi.dst v) w → Q (.panic c) a w)
    (hSS : ∀ (l : Array Bool) (w : World), ClosedL md ops l → l.getD i true = false → (l.getD n false = false → S w) → S' w) :
    ∀ (f : Nat) (l : Array Bool) (a : Act) (w : World), ClosedL md ops l →
      (∀ j oj, ops[j]? = some oj → j ≠ i → l.getD j true = false → (∀ e ∈ oj.after, Region.binds md e = true → e.on ≠ i) → oi.apart ops oj = true) →
      i ∈ Region.ready md ops l → YieldsIf P ops S' oi v a → (l.getD n false = false → S w) → AnyP P md ops Q S n f (l.setIfInBounds i true) (a.put oi.dst v) w → AnyP P md ops Q S n (f + 1) l a w := by
  have hsel := Region.noSelect_spec hsel
  have hmo : ∀ {l : Array Bool} {w : World}, (l.getD n false = false → S w) → (l.setIfInBounds i true).getD n false = false → S w := fun {l w} hS h0 => hS (by
    cases hc : l.getD n false
    · rfl
    · rw [getD_set_true hc] at h0; cases h0)
  intro f
  induction f with
  | zero =>
    intro l a w cl _ hr hy hS H
    have hu := (mem_ready.1 hr).1
    refine ⟨fun h => absurd hr (by rw [h]; exact List.not_mem_nil), fun j hj => ?_⟩
    rcases Decidable.em (j = i) with rfl | hne
    · exact hy.wpOp hi (hSS l w cl hu hS) ⟨hmo hS, H⟩
    · exact absurd (ready_mono hj hne) (by rw [H.1]; exact List.not_mem_nil)
  | succ f ih =>
    intro l a w cl hap hr hy hS H
    have hu := (mem_ready.1 hr).1
    refine ⟨fun h => absurd hr (by rw [h]; exact List.not_mem_nil), fun j hj => ?_⟩
    rcases Decidable.em (j = i) with rfl | hne
    · exact hy.wpOp hi (hSS l w cl hu hS) ⟨hmo hS, H⟩
    · obtain ⟨hju, oj, hoj, hall⟩ := mem_ready.1 hj
      have hno : ∀ e ∈ oj.after, Region.binds md e = true → e.on ≠ i := fun e he hb heq => by
        have := hall e he hb
        rw [heq, getD_both hu] at this
        cases this
      refine wpOp_mono (fun a' w' q => ?_)
        (wpOp_putIf hoj (hap j oj hoj hne hju hno) (fun cs b => hsel i oi cs b hi) (fun cs b => hsel j oj cs b hoj) hQ hy (H.2 j (ready_mono hj hne)))
      have hcm : ((l.setIfInBounds i true).setIfInBounds j true) = ((l.setIfInBounds j true).setIfInBounds i true) := Array.setIfInBounds_comm _ _ (Ne.symm hne)
      have hS' : (l.setIfInBounds j true).getD n false = false → S w' := fun h0 => q.2.1 (by
        rw [hcm, Array.getD_eq_getD_getElem?, Array.getElem?_setIfInBounds_ne (Ne.symm hni), ← Array.getD_eq_getD_getElem?]
        exact h0)
      refine ⟨hS', ih _ a' w' (cl.set hj) (fun x ox hx hxi hxu hxn => hap x ox hx hxi ?_ hxn) (ready_mono hr (Ne.symm hne)) q.1 hS' ?_⟩
      · rcases Decidable.em (j = x) with rfl | hjx
        · exact hju
        · rwa [getD_set_ne true hjx] at hxu
      · rw [← hcm]
        exact q.2.2
/-- the same, where what waited has been waited for -/
def HP (P : Program) (md : Region.Mode) (ops : Array Oper) (Q : Exit → Act → World → Prop) (S : World → Prop) (n f : Nat) (l : Array Bool) (a : Act) (w : World) : Prop := ClosedL md ops l → AnyP P md ops Q S n f l a w
/-- one that n waits for -/
theorem HP.take (p : List Nat) (hsel : Region.noSelect ops = true) {f : Nat} {l : Array Bool} {a : Act} {w : World} {i : Nat} {oi : Oper} {v : Value} (hi : ops[i]? = some oi) (hni : n ≠ i) (hp : (pathB md ops (n :: p) && (n :: p).contains i) = true) (hf : Region.free md ops l i = true) (hr : (Region.ready md ops l).contains i = true)
    (hQ : ∀ c a w, Q (.panic c) (a.put oi.dst v) w → Q (.panic c) a w) (hy : YieldsIf P ops S oi v a) (hS : S w) (h : HP P md ops Q S n f (l.setIfInBounds i true) (a.put oi.dst v) w) : HP P md ops Q S n (f + 1) l a w := fun cl => by
  have hr' : i ∈ Region.ready md ops l := by simpa using hr
  simp only [Bool.and_eq_true] at hp
  refine AnyP.first hsel hi hni hQ (fun l w cl hu hS => hS ?_) f l a w cl (Region.free_spec hi hf) hr' hy (fun _ => hS) (h (cl.set hr'))
  cases hc : l.getD n false
  · rfl
  · have := ClosedL.path cl p n hp.1 hc i (by simpa using hp.2)
    rw [getD_both hu] at this
    cases this
/-- one that reads nothing -/
theorem HP.pure (hsel : Region.noSelect ops = true) {f : Nat} {l : Array Bool} {a : Act} {w : World} {i : Nat} {oi : Oper} {v : Value} (hi : ops[i]? = some oi) (hni : n ≠ i) (hf : Region.free md ops l i = true) (hr : (Region.ready md ops l).contains i = true)
    (hQ : ∀ c a w, Q (.panic c) (a.put oi.dst v) w → Q (.panic c) a w) (hy : YieldsIf P ops (fun _ => True) oi v a) (hS : l.getD n false = false → S w) (h : HP P md ops Q S n f (l.setIfInBounds i true) (a.put oi.dst v) w) : HP P md ops Q S n (f + 1) l a w := fun cl => by
  have hr' : i ∈ Region.ready md ops l := by simpa using hr
  exact AnyP.first hsel hi hni hQ (fun _ _ _ _ _ => trivial) f l a w cl (Region.free_spec hi hf) hr' hy hS (h (cl.set hr'))
theorem HP.all {f : Nat} {l : Array Bool} {a : Act} {w : World} {rs : List Nat} (hr : Region.ready md ops l = rs) (hne : rs ≠ []) (h : ∀ i ∈ rs, wpOp P ops Q i (fun a' w' => ((l.setIfInBounds i true).getD n false = false → S w') ∧ HP P md ops Q S n f (l.setIfInBounds i true) a' w') a w) : HP P md ops Q S n (f + 1) l a w := fun cl =>
  ⟨fun h0 => absurd (hr ▸ h0) hne, fun i hi => wpOp_mono (fun a' w' q => ⟨q.1, q.2 (cl.set hi)⟩) (h i (hr ▸ hi))⟩
theorem HP.one {f : Nat} {l : Array Bool} {a : Act} {w : World} (i : Nat) {oi : Oper} (hr : Region.ready md ops l = [i]) (hi : ops[i]? = some oi) (hw : Region.wanted oi (yielded ops a.tmps) = true)
    (h : oi.wp P a w (fun a' w' => S w' ∧ HP P md ops Q S n f (l.setIfInBounds i true) a' w') Q) : HP P md ops Q S n (f + 1) l a w :=
  HP.all hr (by simp) fun j hj => by
    obtain rfl : j = i := by simpa using hj
    exact wpOp_of_wpG hi hw (Oper.wp_mono (fun a' w' q => ⟨fun _ => q.1, q.2⟩) h)
/-- behind n, or n -/
theorem HP.free {f : Nat} {l : Array Bool} {a : Act} {w : World} (i : Nat) {oi : Oper} (hr : Region.ready md ops l = [i]) (hd : (l.setIfInBounds i true).getD n false = true) (hi : ops[i]? = some oi) (hw : Region.wanted oi (yielded ops a.tmps) = true)
    (h : oi.wp P a w (fun a' w' => HP P md ops Q S n f (l.setIfInBounds i true) a' w') Q) : HP P md ops Q S n (f + 1) l a w :=
  HP.all hr (by simp) fun j hj => by
    obtain rfl : j = i := by simpa using hj
    exact wpOp_of_wpG hi hw (Oper.wp_mono (fun a' w' q => ⟨fun h0 => absurd (hd.symm.trans h0) (by simp), q⟩) h)
theorem HP.two {f : Nat} {l : Array Bool} {a : Act} {w : World} (i j : Nat) {oi oj : Oper} (hr : Region.ready md ops l = [i, j]) (hi : ops[i]? = some oi) (hwi : Region.wanted oi (yielded ops a.tmps) = true) (hj : ops[j]? = some oj) (hwj : Region.wanted oj (yielded ops a.tmps) = true)
    (h1 : oi.wp P a w (fun a' w' => S w' ∧ HP P md ops Q S n f (l.setIfInBounds i true) a' w') Q) (h2 : oj.wp P a w (fun a' w' => S w' ∧ HP P md ops Q S n f (l.setIfInBounds j true) a' w') Q) : HP P md ops Q S n (f + 1) l a w :=
  HP.all hr (by simp) fun x hx => by
    have hx' : x = i ∨ x = j := by simpa using hx
    rcases hx' with rfl | rfl
    · exact wpOp_of_wpG hi hwi (Oper.wp_mono (fun a' w' q => ⟨fun _ => q.1, q.2⟩) h1)
    · exact wpOp_of_wpG hj hwj (Oper.wp_mono (fun a' w' q => ⟨fun _ => q.1, q.2⟩) h2)
/-- one that reads nothing, behind n -/
theorem HP.pureF (hsel : Region.noSelect ops = true) {f : Nat} {l : Array Bool} {a : Act} {w : World} {i : Nat} {oi : Oper} {v : Value} (hd : l.getD n false = true) (hi : ops[i]? = some oi) (hni : n ≠ i) (hf : Region.free md ops l i = true) (hr : (Region.ready md ops l).contains i = true)
    (hQ : ∀ c a w, Q (.panic c) (a.put oi.dst v) w → Q (.panic c) a w) (hy : YieldsIf P ops (fun _ => True) oi v a) (h : HP P md ops Q S n f (l.setIfInBounds i true) (a.put oi.dst v) w) : HP P md ops Q S n (f + 1) l a w :=
  HP.pure hsel hi hni hf hr hQ hy (fun h0 => absurd (hd.symm.trans h0) (by simp)) h
theorem HP.done {l : Array Bool} {a : Act} {w : World} (hr : Region.ready md ops l = []) (h : Q .normal a w) : HP P md ops Q S n 0 l a w := fun _ => ⟨hr, h⟩
theorem wp_part {id : Nat} {a : Act} {w : World} (hm : P.follows .mixedOrders = true) (h : HP P .any ops Q S n ops.size (Array.replicate ops.size false) a w.drew) : (Code.region id ops true).wp P Q a w :=
  wp_region_any hm (AnyP.any _ _ _ _ (h ⟨by simp, fun j oj _ hl => (by rw [getD_replicate_false] at hl; cases hl)⟩))
end
end Go.Proofs.YtocolaccgoochaaDoor
