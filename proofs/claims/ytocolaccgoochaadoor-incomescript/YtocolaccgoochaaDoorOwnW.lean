/-
  Slices of the call's own: over a lower base, and behind what turns another block.
-/
import Derived.Test.YtocolaccgoochaaDoorWords
import Derived.Test.YtocolaccgoochaaDoorRoom
namespace Go.Proofs.YtocolaccgoochaaDoor
open Go.RowKit
set_option linter.unusedVariables false

theorem Own.base {w : World} {B B' n : Nat} {v : Value} {l : List UInt8} (h : Own w B v n l) (hB : B' ≤ B) : Own w B' v n l :=
  ⟨h.1, h.2.imp id fun ⟨g, cap, cur, e, hb, r⟩ => ⟨g, cap, cur, e, Nat.le_trans hB hb, r⟩⟩
theorem Own.onlyA {w w' : World} {B n c g : Nat} {A : Option Addr} {l : List UInt8} (h : Own w B (.slice A n c) n l) (ho : Only g w w') (hne : ∀ a, A = some a → a.block ≠ g) : Own w' B (.slice A n c) n l := by
  cases A with
  | none => exact ⟨h.1, h.2.imp id fun ⟨g1, cap, cur, hv, _⟩ => by cases hv⟩
  | some a =>
    rcases h.2 with ⟨hv, _⟩ | ⟨g1, cap, cur, hv, _⟩
    · cases hv
    · injection hv with hA _ hc
      injection hA with hA
      subst hA
      exact Own.only h ho (hne _ rfl)
end Go.Proofs.YtocolaccgoochaaDoor
