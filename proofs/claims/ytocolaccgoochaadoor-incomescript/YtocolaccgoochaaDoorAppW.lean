/-
  Appends in a region that draws its order: a copy onto nil, more onto a slice of the call's own; a slice of one byte.
-/
import Derived.Test.YtocolaccgoochaaDoorWords
import Derived.Test.YtocolaccgoochaaDoorOnlyW
namespace Go.Proofs.YtocolaccgoochaaDoor
open Go.RowKit
set_option linter.unusedVariables false

theorem wp_append_bytes {w : World} {o : Oper} {a : Act} {K : Act → World → Prop} {Q : Exit → Act → World → Prop} (s x : Operand)
    (ho : o.op = .call { callee := .builtin .append, args := #[s, x], argTypes := #[30, 30] })
    (base : Nat) (v : Value) (n : Nat) (l : List UInt8) (hs : a.eval s = v) (hown : Own w base v n l)
    (B : Nat) (A : Option Addr) (m c : Nat) (r : List UInt8) (hx : a.eval x = .slice A m c) (hr : Sl w B A m r)
    (hlen : n + m ≤ 70368744177664) (hbase : base ≤ w.heap.size)
    (h : ∀ A' c' w', Hid (Own w' base (.slice A' (n + m) c') (n + m) (l ++ r)) → Hid (n + m ≤ c' ∧ c' ≤ maxLen) → Hid (Below base w w') → K (a.put o.dst (.slice A' (n + m) c')) w') : o.wp Tryd.prog a w K Q := by
  obtain ⟨v', w', hrun, h2, h3, _⟩ := run_append_bytes w base o.type v n l hown B A m c r hr hlen hbase
  obtain ⟨A', c', rfl, hle, hcm⟩ := h2.form
  unfold Oper.wp execOp
  simp only [ho, resolve, invoke, builtin, Sem.run_bind, Sem.run_pure, Result.andThen_ok, List.map_toArray, List.map_cons, List.map_nil, hs, hx, hrun]
  exact h A' c' w' h2 ⟨hle, hcm⟩ ((Below.refl base w).grown h3 hbase fun k hk => (World.ownsRow.lt hown k hk).1)
theorem wp_append_copy {w : World} {o : Oper} {a : Act} {K : Act → World → Prop} {Q : Exit → Act → World → Prop} (s x : Operand)
    (ho : o.op = .call { callee := .builtin .append, args := #[s, x], argTypes := #[30, 30] }) (hs : a.eval s = .slice none 0 0)
    (B : Nat) (A : Option Addr) (m c : Nat) (r : List UInt8) (hx : a.eval x = .slice A m c) (hr : Sl w B A m r) (hlen : m ≤ 70368744177664)
    (h : ∀ A' c' w', Hid (Own w' w.heap.size (.slice A' m c') m r) → Hid (m ≤ c' ∧ c' ≤ maxLen) → Hid (Below w.heap.size w w') → K (a.put o.dst (.slice A' m c')) w') : o.wp Tryd.prog a w K Q := by
  refine wp_append_bytes s x ho w.heap.size (.slice none 0 0) 0 [] hs (Own.nil _ _) B A m c r hx hr (by omega) (Nat.le_refl _) ?_
  intro A' c' w' h1 h2 h3
  rw [Nat.zero_add] at h1 h2 ⊢
  exact h A' c' w' h1 h2 h3
/-- a slice of one byte -/
theorem wp_byte {o : Oper} {a : Act} {w : World} {K : Act → World → Prop} {Q : Exit → Act → World → Prop} (x : Operand) (ho : o.op = .buildSlice 30 1 #[(0, x)])
    (b : UInt8) (hx : a.eval x = .int .u8 (bn b))
    (h : ∀ g w', Hid (g = w.heap.size) → Hid (Sl w' (g + 1) (some ⟨g, 0, none⟩) 1 [b]) → Hid (Below w.heap.size w w') → K (a.put o.dst (.slice (some ⟨g, 0, none⟩) 1 1)) w') : o.wp Tryd.prog a w K Q := by
  have h1 := h w.heap.size (w.alloc (.cells #[.int .u8 (bn b)] 5)) rfl (sl_one w _ b rfl) ((Below.refl _ _).alloc (Nat.le_refl _) _)
  have hp : (#[(0, x)].map fun (i, x) => (i, a.eval x)) = #[(0, Value.int .u8 (bn b))] := by simp [hx]
  unfold Oper.wp execOp
  simp only [ho, hp]
  clear h hp hx
  go_simp
  exact h1
end Go.Proofs.YtocolaccgoochaaDoor
