/-
  A region that draws its order and ends in one operation that all others are ahead of: what holds between the others need not hold behind that last one (it may store into what they read).
-/
import Derived.Test.YtjbhhmjkdhkhaaaBlkW
import Derived.StillTail
namespace Go.Proofs.Ytjbhhmjkdhkhaaa
open Go.RowKit
set_option linter.unusedVariables false

section
variable {P : Program} {md : Region.Mode} {ops : Array Oper} {Q : Exit → Act → World → Prop} {S : World → Prop} {n : Nat}
def AnyT (P : Program) (md : Region.Mode) (ops : Array Oper) (Q : Exit → Act → World → Prop) (S : World → Prop) (n : Nat) : Nat → Array Bool → Act → World → Prop
  | 0, l, a, w => Region.ready md ops l = [] ∧ Q .normal a w
  | f + 1, l, a, w => (Region.ready md ops l = [] → Q .normal a w) ∧ ∀ i ∈ Region.ready md ops l, wpOp P ops Q i (fun a' w' => (i < n → S w') ∧ AnyT P md ops Q S n f (l.setIfInBounds i true) a' w') a w
theorem AnyT.any : ∀ (f : Nat) (l : Array Bool) (a : Act) (w : World), AnyT P md ops Q S n f l a w → wpAny P md ops Q f l a w
  | 0, _, _, _, h => h
  | f + 1, _, _, _, h => ⟨h.1, fun i hi => wpOp_mono (fun a' w' k => AnyT.any f _ a' w' k.2) (h.2 i hi)⟩
/-- the last one waits for all others -/
structure LastOk (md : Region.Mode) (ops : Array Oper) (n : Nat) : Prop where
  sel : Region.noSelect ops = true
  sink : Region.sinkB md ops n = true
  chain : Region.chainB md ops n = true
  lt : n < ops.size
theorem LastOk.head {l : Array Bool} (k : LastOk md ops n) (inv : HeadInv md ops n l) {i j : Nat} (hi : i < n) (hu : l.getD i true = false) (hj : j ∈ Region.ready md ops l) : j < n := by
  rcases Nat.lt_or_ge j n with h | h
  · exact h
  · exact absurd hj (tail_waits k.sink k.chain k.lt inv _ i rfl hi hu j h)
theorem AnyT.first (k : LastOk md ops n) {i : Nat} {oi : Oper} {v : Value} (hi : ops[i]? = some oi) (hin : i < n) (hQ : ∀ c a w, Q (.panic c) (a.put oi.dst v) w → Q (.panic c) a w) :
    ∀ (f : Nat) (l : Array Bool) (a : Act) (w : World), HeadInv md ops n l →
      (∀ j oj, ops[j]? = some oj → j ≠ i → l.getD j true = false → (∀ e ∈ oj.after, Region.binds md e = true → e.on ≠ i) → oi.apart ops oj = true) →
      i ∈ Region.ready md ops l → YieldsIf P ops S oi v a → S w → AnyT P md ops Q S n f (l.setIfInBounds i true) (a.put oi.dst v) w → AnyT P md ops Q S n (f + 1) l a w := by
  have hsel := Region.noSelect_spec k.sel
  intro f
  induction f with
  | zero =>
    intro l a w inv _ hr hy hS H
    refine ⟨fun h => absurd hr (by rw [h]; exact List.not_mem_nil), fun j hj => ?_⟩
    rcases Decidable.em (j = i) with rfl | hne
    · exact hy.wpOp hi hS ⟨fun _ => hS, H⟩
    · exact absurd (ready_mono hj hne) (by rw [H.1]; exact List.not_mem_nil)
  | succ f ih =>
    intro l a w inv hap hr hy hS H
    have hu := (mem_ready.1 hr).1
    refine ⟨fun h => absurd hr (by rw [h]; exact List.not_mem_nil), fun j hj => ?_⟩
    rcases Decidable.em (j = i) with rfl | hne
    · exact hy.wpOp hi hS ⟨fun _ => hS, H⟩
    · have hjn := k.head inv hin hu hj
      obtain ⟨hju, oj, hoj, hall⟩ := mem_ready.1 hj
      have hno : ∀ e ∈ oj.after, Region.binds md e = true → e.on ≠ i := fun e he hb heq => by
        have := hall e he hb
        rw [heq, getD_both hu] at this
        cases this
      refine wpOp_mono (fun a' w' q => ⟨fun _ => q.2.1 hjn, ih _ a' w' (inv.set hj hjn) (fun x ox hx hxi hxu hxn => hap x ox hx hxi ?_ hxn) (ready_mono hr (Ne.symm hne)) q.1 (q.2.1 hjn) ?_⟩)
        (wpOp_putIf hoj (hap j oj hoj hne hju hno) (fun cs b => hsel i oi cs b hi) (fun cs b => hsel j oj cs b hoj) hQ hy (H.2 j (ready_mono hj hne)))
      · rcases Decidable.em (j = x) with rfl | hjx
        · exact hju
        · rwa [getD_set_ne true hjx] at hxu
      · rw [Array.setIfInBounds_comm _ _ hne]
        exact q.2.2
/-- the same, ahead of the last one -/
def HT (P : Program) (md : Region.Mode) (ops : Array Oper) (Q : Exit → Act → World → Prop) (S : World → Prop) (n f : Nat) (l : Array Bool) (a : Act) (w : World) : Prop := HeadInv md ops n l → AnyT P md ops Q S n f l a w
theorem HT.take (k : LastOk md ops n) {f : Nat} {l : Array Bool} {a : Act} {w : World} {i : Nat} {oi : Oper} {v : Value} (hi : ops[i]? = some oi) (hin : decide (i < n) = true) (hf : Region.free md ops l i = true) (hr : (Region.ready md ops l).contains i = true)
    (hQ : ∀ c a w, Q (.panic c) (a.put oi.dst v) w → Q (.panic c) a w) (hy : YieldsIf P ops S oi v a) (hS : S w) (h : HT P md ops Q S n f (l.setIfInBounds i true) (a.put oi.dst v) w) : HT P md ops Q S n (f + 1) l a w := fun inv => by
  have hr' : i ∈ Region.ready md ops l := by simpa using hr
  exact AnyT.first k hi (of_decide_eq_true hin) hQ f l a w inv (Region.free_spec hi hf) hr' hy hS (h (inv.set hr' (of_decide_eq_true hin)))
theorem HT.all {f : Nat} {l : Array Bool} {a : Act} {w : World} {rs : List Nat} (hr : Region.ready md ops l = rs) (hne : rs ≠ []) (hlt : rs.all (· < n) = true) (h : ∀ i ∈ rs, wpOp P ops Q i (fun a' w' => S w' ∧ HT P md ops Q S n f (l.setIfInBounds i true) a' w') a w) : HT P md ops Q S n (f + 1) l a w := fun inv =>
  ⟨fun h0 => absurd (hr ▸ h0) hne, fun i hi => wpOp_mono (fun a' w' q => ⟨fun _ => q.1, q.2 (inv.set hi (by rw [hr] at hi; simpa using List.all_eq_true.1 hlt i hi))⟩) (h i (hr ▸ hi))⟩
theorem HT.one {f : Nat} {l : Array Bool} {a : Act} {w : World} (i : Nat) {oi : Oper} (hr : Region.ready md ops l = [i]) (hlt : decide (i < n) = true) (hi : ops[i]? = some oi) (hw : Region.wanted oi (yielded ops a.tmps) = true)
    (h : oi.wp P a w (fun a' w' => S w' ∧ HT P md ops Q S n f (l.setIfInBounds i true) a' w') Q) : HT P md ops Q S n (f + 1) l a w :=
  HT.all hr (by simp) (by simpa using hlt) fun j hj => by
    obtain rfl : j = i := by simpa using hj
    exact wpOp_of_wpG hi hw h
theorem HT.two {f : Nat} {l : Array Bool} {a : Act} {w : World} (i j : Nat) {oi oj : Oper} (hr : Region.ready md ops l = [i, j]) (hlt : (decide (i < n) && decide (j < n)) = true) (hi : ops[i]? = some oi) (hwi : Region.wanted oi (yielded ops a.tmps) = true) (hj : ops[j]? = some oj) (hwj : Region.wanted oj (yielded ops a.tmps) = true)
    (h1 : oi.wp P a w (fun a' w' => S w' ∧ HT P md ops Q S n f (l.setIfInBounds i true) a' w') Q) (h2 : oj.wp P a w (fun a' w' => S w' ∧ HT P md ops Q S n f (l.setIfInBounds j true) a' w') Q) : HT P md ops Q S n (f + 1) l a w :=
  HT.all hr (by simp) (by simpa using hlt) fun x hx => by
    have hx' : x = i ∨ x = j := by simpa using hx
    rcases hx' with rfl | rfl
    · exact wpOp_of_wpG hi hwi h1
    · exact wpOp_of_wpG hj hwj h2
theorem HT.with {f : Nat} {l : Array Bool} {a : Act} {w : World} (k : LastOk md ops n) (h : Hid (LastOk md ops n) → HT P md ops Q S n f l a w) : HT P md ops Q S n f l a w := h k
/-- the last one -/
theorem HT.last {l : Array Bool} {a : Act} {w : World} {oi : Oper} (hr : Region.ready md ops l = [n]) (hd : Region.ready md ops (l.setIfInBounds n true) = []) (hi : ops[n]? = some oi) (hw : Region.wanted oi (yielded ops a.tmps) = true) (h : oi.wp P a w (fun a' w' => Q .normal a' w') Q) : HT P md ops Q S n 1 l a w := fun _ =>
  ⟨fun h0 => (by rw [hr] at h0; cases h0), fun i hi' => by
    rw [hr] at hi'
    obtain rfl : i = n := by simpa using hi'
    exact wpOp_mono (fun a' w' q => ⟨fun h0 => absurd h0 (Nat.lt_irrefl _), hd, q⟩) (wpOp_of_wpG hi hw h)⟩
/-- where the region begins -/
theorem wp_last {id : Nat} {a : Act} {w : World} (hm : P.follows .mixedOrders = true) (h : HT P .any ops Q S n ops.size (Array.replicate ops.size false) a w.drew) : (Code.region id ops true).wp P Q a w :=
  wp_region_any hm (AnyT.any _ _ _ _ (h ⟨by simp, fun j oj _ hl => (by rw [getD_replicate_false] at hl; cases hl), fun t _ ht => by simp [ht]⟩))
end
end Go.Proofs.Ytjbhhmjkdhkhaaa
