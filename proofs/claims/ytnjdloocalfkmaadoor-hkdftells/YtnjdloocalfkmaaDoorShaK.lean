/-
  The document's own tables: Consts, Start.
-/
import Derived.Test.YtnjdloocalfkmaaDoorShaJ
namespace Go.Proofs.YtnjdloocalfkmaaDoor
open Go.RowKit Go.Joins
set_option linter.unusedVariables false

/-- an array built of its parts -/
theorem wpList_build_as {P : Program} {ops : Array Oper} {rest : List Oper} {o : Oper} {a : Act} {w : World} {Q : Exit → Act → World → Prop} (hg : o.guard = none) (t : TypeId) (parts : Array (Nat × Operand)) (ho : o.op = .build t parts) (cells : Array Value)
    (hf : P.built t (parts.map fun (i, x) => (i, a.eval x)).toList = some cells) (h : wpList P ops Q rest (a.put o.dst (.agg cells)) w) : wpList P ops Q (o :: rest) a w := by
  refine wpList_build hg t parts ho (by rw [hf]; rfl) ?_
  rw [hf]
  exact h

set_option maxHeartbeats 1000000 in
theorem consts_any (w : World) : Calls Tryd.prog 29 #[] w fun e w' => e = .returned (.agg (wvs kV).toArray) ∧ Below w.heap.size w w' := by
  go_enter Tryd.func29, Tryd.ntmps29
  go_wp2_with (first
    | ((with_reducible refine wpList_build_as rfl 50 _ rfl (wvs kV).toArray ?hf ?_); (case hf => kernel_rfl))
    | ((with_reducible refine wpList_store_only rfl 50 (.tmp 0) (.tmp 1) rfl w.heap.size (wvs kV) ?hx ?hy 50 (List.replicate 64 (.int .u32 0)).toArray ?hg ?hi ?ho (wvs_one _) ?_); (case hx => with_unfolding_all rfl); (case hy => with_unfolding_all rfl); (case hg => exact heap_alloc_new _ _); (case hi => exact size64); (case ho => rfl); intro w1 H1 HO1))
  refine ret_row Tryd.results29 w.heap.size 50 _ (0, 0) 64 44 rfl H1.out Tryd.underlying50 size64 rfl ⟨rfl, ?_⟩
  exact ((Below.refl _ _).alloc (Nat.le_refl _) _).trans (HO1.out.below (by simp) (Nat.le_refl _))

theorem start_any (w : World) : Calls Tryd.prog 30 #[] w fun e w' => e = .returned (.agg (wvs startV).toArray) ∧ Below w.heap.size w w' := by
  go_enter Tryd.func30, Tryd.ntmps30
  go_wp2_with (first
    | ((with_reducible refine wpList_build_as rfl 45 _ rfl (wvs startV).toArray ?hf ?_); (case hf => kernel_rfl))
    | ((with_reducible refine wpList_store_only rfl 45 (.tmp 0) (.tmp 1) rfl w.heap.size (wvs startV) ?hx ?hy 45 (List.replicate 8 (.int .u32 0)).toArray ?hg ?hi ?ho (wvs_one _) ?_); (case hx => with_unfolding_all rfl); (case hy => with_unfolding_all rfl); (case hg => exact heap_alloc_new _ _); (case hi => exact size8); (case ho => rfl); intro w1 H1 HO1))
  refine ret_row Tryd.results30 w.heap.size 45 _ (0, 0) 8 44 rfl H1.out Tryd.underlying45 size8 rfl ⟨rfl, ?_⟩
  exact ((Below.refl _ _).alloc (Nat.le_refl _) _).trans (HO1.out.below (by simp) (Nat.le_refl _))
end Go.Proofs.YtnjdloocalfkmaaDoor
