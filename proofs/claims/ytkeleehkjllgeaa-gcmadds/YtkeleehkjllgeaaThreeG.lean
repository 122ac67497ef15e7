/-
  One of three that may come up, in a region that draws its order.
-/
import Derived.Test.YtkeleehkjllgeaaBlkW
namespace Go.Proofs.Ytkeleehkjllgeaa
open Go.RowKit
set_option linter.unusedVariables false

theorem wpAnyH_threeG {P : Program} {md : Region.Mode} {ops : Array Oper} {Q : Exit → Act → World → Prop} {S : World → Prop} {fuel : Nat} {listed : Array Bool} {a : Act} {w : World} (i j k : Nat) {oi oj ok : Oper} (hr : Region.ready md ops listed = [i, j, k])
    (hi : ops[i]? = some oi) (hwi : Region.wanted oi (yielded ops a.tmps) = true) (hj : ops[j]? = some oj) (hwj : Region.wanted oj (yielded ops a.tmps) = true) (hk : ops[k]? = some ok) (hwk : Region.wanted ok (yielded ops a.tmps) = true)
    (h1 : oi.wp P a w (fun a' w' => S w' ∧ wpAnyH P md ops Q S fuel (listed.setIfInBounds i true) a' w') Q)
    (h2 : oj.wp P a w (fun a' w' => S w' ∧ wpAnyH P md ops Q S fuel (listed.setIfInBounds j true) a' w') Q)
    (h3 : ok.wp P a w (fun a' w' => S w' ∧ wpAnyH P md ops Q S fuel (listed.setIfInBounds k true) a' w') Q) : wpAnyH P md ops Q S (fuel + 1) listed a w :=
  wpAnyH_all hr (by simp) fun n hn => by
    have hn' : n = i ∨ n = j ∨ n = k := by simpa using hn
    rcases hn' with rfl | rfl | rfl
    · exact wpOp_of_wpG hi hwi h1
    · exact wpOp_of_wpG hj hwj h2
    · exact wpOp_of_wpG hk hwk h3
end Go.Proofs.Ytkeleehkjllgeaa
