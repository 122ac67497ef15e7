/-
  The contract of awake.
-/
import Derived.Test.YtgoigbclloackaaAesF
namespace Go.Proofs.Ytgoigbclloackaa
open Go.RowKit
set_option linter.unusedVariables false

def keyK : List UInt8 := [0, 1, 2, 3, 4, 5, 6, 7, 8, 9, 10, 11, 12, 13, 14, 15]
def textK : List UInt8 := [0, 17, 34, 51, 68, 85, 102, 119, 136, 153, 170, 187, 204, 221, 238, 255]
def sealK : List UInt8 := [105, 196, 224, 216, 106, 123, 4, 48, 216, 205, 183, 128, 112, 180, 197, 90]
theorem block_known : blockV keyK textK = sealK := aes_known
theorem zeroRow (u : World) : (zeroValue 22).run Try.prog u = .ok (.agg (bvs (List.replicate 16 0)).toArray) u := (zero_of_info (n := 16) (by kernel_rfl)).1 u

theorem box_0 (w : World) : Calls Try.prog 11 #[.int .u8 0] w fun e w' => e = .returned (.int .u8 99) ∧ w = w' := box_any 0 w
theorem dbl_128 (w : World) : Calls Try.prog 13 #[.int .u8 128] w fun e w' => e = .returned (.int .u8 27) ∧ w = w' := dbl_any 128 w
set_option maxHeartbeats 1000000 in
theorem awake_any (w : World) : Calls Try.prog 15 #[] w fun e w' => e = .returned (.bool true) ∧ Below w.heap.size w w' := by
  have HB := Lib.hid block_known
  go_enter Try.func15, Try.ntmps15
  go_wp2_with (first
    | ((with_reducible refine wpList_build_to 3 rfl rfl 22 _ rfl (bvs keyK).toArray ?hf ?_); (case hf => kernel_rfl))
    | ((with_reducible refine wpList_build_to 5 rfl rfl 22 _ rfl (bvs textK).toArray ?hf ?_); (case hf => kernel_rfl))
    | ((with_reducible refine wpList_store_blk rfl 22 (.tmp 1) (.tmp 3) rfl w.heap.size keyK ?hx ?hy 22 (List.replicate 16 0) ?hg 16 sizeRow rfl rfl ?_); (case hx => with_unfolding_all rfl); (case hy => with_unfolding_all rfl); (case hg => exact heap_alloc_new _ _); intro w1 H1 O1; have B1 : Hid (Below w.heap.size w w1) := ((Below.refl _ _).alloc (Nat.le_refl _) _).trans (O1.out.below (by simp) (Nat.le_refl _)))
    | ((with_reducible refine wpList_load_blk rfl 22 (.tmp 1) rfl w.heap.size ?hx 22 keyK H1.out 16 5 Try.underlying22 16 sizeRow rfl ?_); (case hx => with_unfolding_all rfl))
    | (go_at_call 7; (with_reducible refine (block_any keyK textK rfl rfl _).mono ?_); rintro e2 w2 ⟨rfl, hb2⟩; rw [HB.out]; have B2 : Hid (Below w.heap.size w w2) := B1.out.trans (hb2.mono B1.out.size); clear hb2)
    | ((with_reducible refine wpList_store_blk rfl 22 (.tmp 2) (.tmp 6) rfl w2.heap.size sealK ?hx ?hy 22 (List.replicate 16 0) ?hg 16 sizeRow rfl rfl ?_); (case hx => with_unfolding_all rfl); (case hy => with_unfolding_all rfl); (case hg => exact heap_alloc_new _ _); intro w3 H3 O3;
        have c0 : w3.cell? ⟨w2.heap.size, 0, none⟩ = some (.int .u8 105) := H3.out.cell 0 (by decide);
        have c1 : w3.cell? ⟨w2.heap.size, 1, none⟩ = some (.int .u8 196) := H3.out.cell 1 (by decide);
        have c15 : w3.cell? ⟨w2.heap.size, 15, none⟩ = some (.int .u8 90) := H3.out.cell 15 (by decide);
        have B3 : Hid (Below w.heap.size w w3) := (B2.out.alloc B2.out.size _).trans (O3.out.below (by simp; have := B2.out.size; omega) B2.out.size))
    | (go_at_call 11; (with_reducible refine (box_0 _).mono ?_); rintro e4 w4 ⟨rfl, rfl⟩)
    | (go_at_call 13; (with_reducible refine (dbl_128 _).mono ?_); rintro e5 w5 ⟨rfl, rfl⟩))
  go_ret
  exact ⟨rfl, B3.out⟩
end Go.Proofs.Ytgoigbclloackaa
