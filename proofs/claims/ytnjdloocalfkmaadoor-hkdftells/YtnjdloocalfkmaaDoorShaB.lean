/-
  The contract of round.
-/
import Derived.Test.YtnjdloocalfkmaaDoorShaA
import Derived.Test.YtnjdloocalfkmaaDoorArr
namespace Go.Proofs.YtnjdloocalfkmaaDoor
open Go.RowKit
set_option linter.unusedVariables false

theorem size8 : (Tryd.prog.info? 45).map (·.size) = some 8 := by kernel_rfl

attribute [local go_sem] u32_addw u32_add u32_xor' u32_and' u32_or' u32_notw u32_notm
set_option maxHeartbeats 200000 in
theorem round_any (a b c d e f g h x : UInt32) (w : World) :
    Calls Tryd.prog 35 #[.agg #[wv a, wv b, wv c, wv d, wv e, wv f, wv g, wv h], wv x] w fun e' w' =>
      e' = .returned (.agg (wvs (rnd [a, b, c, d, e, f, g, h] x)).toArray) ∧ Below w.heap.size w w' := by
  unfold wv
  go_enter Tryd.func35, Tryd.ntmps35
  go_wp2_with fail
  go_quiet (fail)
  go_wp2_with fail
  go_quiet (first
    | (go_at_call_of 36 (Value.int IntKind.i64 6); exact quiet_more (turn_6 _ _))
    | (go_at_call_of 36 (Value.int IntKind.i64 11); exact quiet_more (turn_11 _ _))
    | (go_at_call_of 36 (Value.int IntKind.i64 25); exact quiet_more (turn_25 _ _)))
  go_wp2_with (first
    | (go_at_call_of 36 (Value.int IntKind.i64 2); refine (turn_2 _ _).mono ?_; rintro e1 w1 ⟨rfl, rfl⟩)
    | (go_at_call_of 36 (Value.int IntKind.i64 13); refine (turn_13 _ _).mono ?_; rintro e1 w1 ⟨rfl, rfl⟩)
    | (go_at_call_of 36 (Value.int IntKind.i64 22); refine (turn_22 _ _).mono ?_; rintro e1 w1 ⟨rfl, rfl⟩)
    | ((with_reducible refine wpList_store_vals rfl 45 (.tmp 4) (.tmp 80) rfl (w.heap.size + 1) ?cells ?hx ?hy 45 ?old ?hg ?hi ?ho ?h1 ?_); (case hx => with_unfolding_all rfl); (case hy => with_unfolding_all rfl); (case hg => exact heap_alloc2_new w _ _); (case hi => exact size8); (case ho => rfl); (case h1 => simp [Value.oneCell'])))
  refine ret_row Tryd.results35 (w.heap.size + 1) 45 _ (0, 0) 8 44 rfl (setRow_heap _ _ _ _ _ _ (heap_alloc2_new w _ _)) Tryd.underlying45 size8 rfl ⟨rfl, ?_⟩
  refine below_setRow (below_drewN ?_ _) (Nat.le_succ _) _
  exact ((Below.refl _ _).alloc (Nat.le_refl _) _).alloc (by simp) _
end Go.Proofs.YtnjdloocalfkmaaDoor
