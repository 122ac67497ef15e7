/-
  Append onto a slice of the call's own that has room: it stays where it is; a slice made with room.
-/
import Derived.Test.YtocolaccgoochaaDoorBase
import Derived.Test.YtocolaccgoochaaDoorBlkW
import Derived.Deep.DeepAppendRoom
import Derived.Laws.MakeOwn
namespace Go.Proofs.YtocolaccgoochaaDoor
open Go.RowKit
set_option linter.unusedVariables false

theorem Only.of_grown {g : Nat} {w w' : World} (h : w.grownBy w' (some g)) : Only g w w' := ⟨h.os, h.tape, h.output, h.size, fun k hk hne => h.block k hk (fun e => hne (Option.some.inj e))⟩
theorem wpList_append_room {w : World} {ops : Array Oper} {rest : List Oper} {o : Oper} {a : Act} {Q : Exit → Act → World → Prop} (hgd : o.guard = none) (s x : Operand)
    (ho : o.op = .call { callee := .builtin .append, args := #[s, x], argTypes := #[30, 30] })
    (base g n cap : Nat) (l : List UInt8) (hs : a.eval s = .slice (some ⟨g, 0, none⟩) n cap) (hown : Own w base (.slice (some ⟨g, 0, none⟩) n cap) n l)
    (B : Nat) (A : Option Addr) (m c : Nat) (r : List UInt8) (hx : a.eval x = .slice A m c) (hr : Sl w B A m r) (hroom : n + m ≤ cap)
    (h : ∀ w', Hid (Own w' base (.slice (some ⟨g, 0, none⟩) (n + m) cap) (n + m) (l ++ r)) → Hid (Only g w w') → wpList Tryd.prog ops Q rest (a.put o.dst (.slice (some ⟨g, 0, none⟩) (n + m) cap)) w') :
    wpList Tryd.prog ops Q (o :: rest) a w := by
  obtain ⟨i, hi, hz0, hz1, hz2⟩ := info_parts byte_info
  have hm := hr.1
  have key : ∃ w', (Builtin.append_ #[30, 30] o.type #[.slice (some ⟨g, 0, none⟩) n cap, .slice A m c]).run Tryd.prog w = .ok (.slice (some ⟨g, 0, none⟩) (n + m) cap) w' ∧ Own w' base (.slice (some ⟨g, 0, none⟩) (n + m) cap) (n + m) (l ++ r) ∧ Only g w w' := by
    by_cases h0 : m = 0
    · subst h0
      obtain rfl : r = [] := List.eq_nil_of_length_eq_zero hm
      refine ⟨w, ?_, by simpa using hown, Only.refl _ _⟩
      rcases hown.2 with ⟨hv, _⟩ | ⟨g', cap', cur, hv, _, _, hnc, _⟩
      · cases hv
      · injection hv with _ _ hcap
        cases A <;> simp [Builtin.append_, run_underlying Tryd.underlying30, sizeOf, typeInfo, Builtin.lenOf, Builtin.firstCells, loadCells, loadCellsFrom, storeCells, *]
    · obtain ⟨b, off, rfl, hb, hc⟩ := hr.2 (by omega)
      have hcells : ∀ j u, (bvs r)[j]? = some u → w.cell? ((⟨b, off, none⟩ : Addr).add j) = some u := by
        intro j u hu
        have hj : j < r.length := by
          have := (List.getElem?_eq_some_iff.1 hu).1
          rwa [bvs_length] at this
        rw [addr_add, hc j hj, ← hu]
        simp [bvs, hj]
      obtain ⟨w', hrun, h2, h3⟩ := run_append_own_spare (P := Tryd.prog) w base 30 o.type 5 i 1 Tryd.underlying30 hi hz1 g n cap (bvs l) hown ⟨b, off, none⟩ m c (bvs r) (by rw [bvs_length]; omega) hcells (bvs_one r) hroom
      exact ⟨w', hrun, by unfold Own; rw [bvs_append]; exact h2, Only.of_grown h3⟩
  obtain ⟨w', hrun, h2, h3⟩ := key
  refine wpList_plain hgd fun K hK => ?_
  unfold Oper.wp execOp
  simp only [ho, resolve, invoke, builtin, Sem.run_bind, Sem.run_pure, Result.andThen_ok, List.map_toArray, List.map_cons, List.map_nil, hs, hx, hrun]
  exact hK _ _ (h w' h2 h3)
/-- a slice made with nothing in it and room for S -/
theorem run_make_room (S : Nat) (hS : S ≤ 70368744177664) (u : World) : (Instr.makeSlice 30 (.int .i64 0) (.int .i64 (S : Int))).run Tryd.prog u =
      .ok (.slice (some ⟨u.heap.size, 0, none⟩) 0 S) (u.alloc (.cells (madeCells #[.int .u8 0] S) 5)) := by
  obtain ⟨i, hi, hz0, hz1, hz2⟩ := info_parts byte_info
  have h := run_make (P := Tryd.prog) u 30 5 i (.int .u8 0) Tryd.underlying30 hi hz0 .i64 .i64 0 (S : Int) (by omega) (by omega) (by rw [hz2]; omega) (by omega)
  simpa [hz1, Value.cells] using h
theorem own_room (u : World) (S base : Nat) (hS : S ≤ 70368744177664) (hb : base ≤ u.heap.size) : Own (u.alloc (.cells (madeCells #[.int .u8 0] S) 5)) base (.slice (some ⟨u.heap.size, 0, none⟩) 0 S) 0 [] := by
  refine ⟨rfl, .inr ⟨u.heap.size, S, madeCells #[.int .u8 0] S, rfl, hb, heap_alloc_new _ _, Nat.zero_le _, by unfold maxLen; omega, ?_, ?_⟩⟩
  · rw [size_madeCells]; omega
  · simp [bvs]
theorem Own.only {w w' : World} {B n c g g' : Nat} {l : List UInt8} (h : Own w B (.slice (some ⟨g, 0, none⟩) n c) n l) (ho : Only g' w w') (hne : g ≠ g') : Own w' B (.slice (some ⟨g, 0, none⟩) n c) n l := by
  rcases h.2 with ⟨hv, _⟩ | ⟨g1, cap, cur, hv, hB, hg, r⟩
  · cases hv
  · injection hv with hA _ hc
    injection hA with hA
    injection hA with hA
    subst hA hc
    exact ⟨h.1, .inr ⟨g, c, cur, rfl, hB, (ho.block g (Array.getElem?_eq_some_iff.1 hg).1 hne).trans hg, r⟩⟩
end Go.Proofs.YtocolaccgoochaaDoor
