/-
  A slice of slices laid of its parts, in a region that draws its order: the world behind it under a name of its own.
-/
import Derived.Test.YtkeleehkjllgeaaPieces
import Derived.Test.YtkeleehkjllgeaaOnlyW
namespace Go.Proofs.Ytkeleehkjllgeaa
open Go.RowKit
set_option linter.unusedVariables false

theorem wp_three {o : Oper} {a : Act} {w : World} {K : Act → World → Prop} {Q : Exit → Act → World → Prop} (x y z : Operand) (ho : o.op = .buildSlice 39 3 #[(0, x), (1, y), (2, z)])
    (p q r : Piece) (hx : a.eval x = .slice p.A p.n p.c) (hy : a.eval y = .slice q.A q.n q.c) (hz : a.eval z = .slice r.A r.n r.c)
    (h : ∀ g w', Hid (g = w.heap.size) → Hid (w'.heap[g]? = some (.cells #[.slice p.A p.n p.c, .slice q.A q.n q.c, .slice r.A r.n r.c] 24 (0, 0))) → Hid (Below w.heap.size w w') → K (a.put o.dst (.slice (some ⟨g, 0, none⟩) 3 3)) w') : o.wp Try.prog a w K Q := by
  have h1 := h w.heap.size (w.alloc (.cells #[.slice p.A p.n p.c, .slice q.A q.n q.c, .slice r.A r.n r.c] 24)) rfl (heap_alloc_new _ _) ((Below.refl _ _).alloc (Nat.le_refl _) _)
  have hp : (#[(0, x), (1, y), (2, z)].map fun (i, x) => (i, a.eval x)) = #[(0, Value.slice p.A p.n p.c), (1, Value.slice q.A q.n q.c), (2, Value.slice r.A r.n r.c)] := by simp [hx, hy, hz]
  unfold Oper.wp execOp
  simp only [ho, hp]
  clear h hp hx hy hz
  go_simp
  exact h1
theorem wp_two {o : Oper} {a : Act} {w : World} {K : Act → World → Prop} {Q : Exit → Act → World → Prop} (x y : Operand) (ho : o.op = .buildSlice 39 2 #[(0, x), (1, y)])
    (p q : Piece) (hx : a.eval x = .slice p.A p.n p.c) (hy : a.eval y = .slice q.A q.n q.c)
    (h : ∀ g w', Hid (g = w.heap.size) → Hid (w'.heap[g]? = some (.cells #[.slice p.A p.n p.c, .slice q.A q.n q.c] 24 (0, 0))) → Hid (Below w.heap.size w w') → K (a.put o.dst (.slice (some ⟨g, 0, none⟩) 2 2)) w') : o.wp Try.prog a w K Q := by
  have h1 := h w.heap.size (w.alloc (.cells #[.slice p.A p.n p.c, .slice q.A q.n q.c] 24)) rfl (heap_alloc_new _ _) ((Below.refl _ _).alloc (Nat.le_refl _) _)
  have hp : (#[(0, x), (1, y)].map fun (i, x) => (i, a.eval x)) = #[(0, Value.slice p.A p.n p.c), (1, Value.slice q.A q.n q.c)] := by simp [hx, hy]
  unfold Oper.wp execOp
  simp only [ho, hp]
  clear h hp hx hy
  go_simp
  exact h1
theorem wp_solo {o : Oper} {a : Act} {w : World} {K : Act → World → Prop} {Q : Exit → Act → World → Prop} (x : Operand) (ho : o.op = .buildSlice 39 1 #[(0, x)])
    (p : Piece) (hx : a.eval x = .slice p.A p.n p.c)
    (h : ∀ g w', Hid (g = w.heap.size) → Hid (w'.heap[g]? = some (.cells #[.slice p.A p.n p.c] 24 (0, 0))) → Hid (Below w.heap.size w w') → K (a.put o.dst (.slice (some ⟨g, 0, none⟩) 1 1)) w') : o.wp Try.prog a w K Q := by
  have h1 := h w.heap.size (w.alloc (.cells #[.slice p.A p.n p.c] 24)) rfl (heap_alloc_new _ _) ((Below.refl _ _).alloc (Nat.le_refl _) _)
  have hp : (#[(0, x)].map fun (i, x) => (i, a.eval x)) = #[(0, Value.slice p.A p.n p.c)] := by simp [hx]
  unfold Oper.wp execOp
  simp only [ho, hp]
  clear h hp hx
  go_simp
  exact h1
/-- a block of slices as the pieces that it holds -/
theorem slw_row {w : World} {g B : Nat} {ps : List Piece} (hg : w.heap[g]? = some (.cells (ps.map fun p => Value.slice p.A p.n p.c).toArray 24 (0, 0))) (hB : g < B) (h : ∀ p ∈ ps, Sl w B p.A p.n p.l ∧ p.n ≤ p.c ∧ p.c ≤ maxLen) (n : Nat) (hn : ps.length = n) : Slw w B (some ⟨g, 0, none⟩) n ps :=
  ⟨hn, fun _ => ⟨g, 0, rfl, hB, fun j hj => by
    rw [Nat.zero_add, cell_of_row _ _ _ _ _ _ hg, List.getElem?_toArray, List.getElem?_map, List.getElem?_eq_getElem hj]
    rfl⟩, h⟩
end Go.Proofs.Ytkeleehkjllgeaa
