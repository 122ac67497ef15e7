/-
  Slices and pieces in blocks that are known whole.
-/
import Derived.Test.YtnjdloocalfkmaaDoorShaH
import Derived.Lib.SlBytesConst
import Derived.Lib.SmallJoins
namespace Go.Proofs.YtnjdloocalfkmaaDoor
open Go.RowKit Go.Joins
set_option linter.unusedVariables false

/-- a slice of bytes in a block that is known whole -/
theorem sl_block {w : World} {g B : Nat} {l : List UInt8} {t : TypeId} {fr : Nat × Nat} (hg : w.heap[g]? = some (.cells (bvs l).toArray t fr)) (hB : g < B) : Sl w B (some ⟨g, 0, none⟩) l.length l := by
  refine ⟨rfl, fun _ => ⟨g, 0, rfl, hB, fun j hj => ?_⟩⟩
  rw [cell_of_row _ _ _ _ _ _ hg, Nat.zero_add]
  simp [bvs, hj]
/-- pieces in a block that is known whole -/
theorem sls_block {w : World} {g B : Nat} {ps : List Piece} {t : TypeId} {fr : Nat × Nat} (hg : w.heap[g]? = some (.cells (ps.map fun p => Value.slice p.A p.n p.c).toArray t fr)) (hB : g < B)
    (h : ∀ p ∈ ps, Sl w B p.A p.n p.l ∧ p.n ≤ p.c ∧ p.c ≤ maxLen ∧ ∀ a, p.A = some a → a.block < B) : Sls w B (some ⟨g, 0, none⟩) ps.length ps := by
  refine ⟨rfl, fun _ => ⟨g, 0, rfl, hB, fun j hj => ?_⟩, h⟩
  rw [cell_of_row _ _ _ _ _ _ hg, Nat.zero_add]
  simp [hj]
theorem slw_block {w : World} {g B : Nat} {ps : List Piece} {t : TypeId} {fr : Nat × Nat} (hg : w.heap[g]? = some (.cells (ps.map fun p => Value.slice p.A p.n p.c).toArray t fr)) (hB : g < B)
    (h : ∀ p ∈ ps, Sl w B p.A p.n p.l ∧ p.n ≤ p.c ∧ p.c ≤ maxLen) : Slw w B (some ⟨g, 0, none⟩) ps.length ps := by
  refine ⟨rfl, fun _ => ⟨g, 0, rfl, hB, fun j hj => ?_⟩, h⟩
  rw [cell_of_row _ _ _ _ _ _ hg, Nat.zero_add]
  simp [hj]
end Go.Proofs.YtnjdloocalfkmaaDoor
