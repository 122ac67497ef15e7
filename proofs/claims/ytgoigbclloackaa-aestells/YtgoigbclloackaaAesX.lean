/-
  The document's own Block.
-/
import Derived.Test.YtgoigbclloackaaAesW
namespace Go.Proofs.Ytgoigbclloackaa
open Go.RowKit
set_option linter.unusedVariables false

set_option maxHeartbeats 1000000 in
theorem rblock_any (key inp : List UInt8) (hk : key.length = 16) (hs : inp.length = 16) (w : World) :
    Calls Try.prog 8 #[.agg (bvs key).toArray, .agg (bvs inp).toArray] w fun e w' => e = .returned (.agg (bvs (blockV key inp)).toArray) ∧ Below w.heap.size w w' := by
  have Hk := Lib.hid hk
  have Hs := Lib.hid hs
  have HCL := Lib.hid (cblock_any key inp hk hs)
  obtain ⟨bl, hbl⟩ : ∃ b, blockV key inp = b := ⟨_, rfl⟩
  have HBL0 : Hid (bl.length = 16) := show _ = _ by rw [← hbl]; exact roundsV_length key inp hk hs 10
  rw [hbl] at HCL ⊢
  clear hk hs hbl
  go_enter Try.func8, Try.ntmps8
  go_wp2_with fail
  have I0 : Hid (Blk (((w.alloc (.cells (bvs key).toArray 22)).alloc (.cells (bvs inp).toArray 22)).alloc (.cells (bvs (List.replicate 16 0)).toArray 22)) w.heap.size 22 key) := heap_allocs w [_, _, _] 0 _ rfl
  have J0 : Hid (Blk (((w.alloc (.cells (bvs key).toArray 22)).alloc (.cells (bvs inp).toArray 22)).alloc (.cells (bvs (List.replicate 16 0)).toArray 22)) (w.heap.size + 1) 22 inp) := heap_allocs w [_, _, _] 1 _ rfl
  have R0 : Hid (Blk (((w.alloc (.cells (bvs key).toArray 22)).alloc (.cells (bvs inp).toArray 22)).alloc (.cells (bvs (List.replicate 16 0)).toArray 22)) (w.heap.size + 1 + 1) 22 (List.replicate 16 0)) := heap_allocs w [_, _, _] 2 _ rfl
  have B0 : Hid (Below w.heap.size w (((w.alloc (.cells (bvs key).toArray 22)).alloc (.cells (bvs inp).toArray 22)).alloc (.cells (bvs (List.replicate 16 0)).toArray 22))) := (((Below.refl _ _).alloc (Nat.le_refl _) _).alloc (by simp) _).alloc (by simp; omega) _
  show Code.wp _ _ _ _ (((w.alloc (.cells (bvs key).toArray 22)).alloc (.cells (bvs inp).toArray 22)).alloc (.cells (bvs (List.replicate 16 0)).toArray 22))
  generalize ((w.alloc (.cells (bvs key).toArray 22)).alloc (.cells (bvs inp).toArray 22)).alloc (.cells (bvs (List.replicate 16 0)).toArray 22) = W0 at I0 J0 R0 B0 ⊢
  have hS : Blk W0.drew w.heap.size 22 key ∧ Blk W0.drew (w.heap.size + 1) 22 inp := ⟨I0.out, J0.out⟩
  refine wp_held (S := fun u => Blk u w.heap.size 22 key ∧ Blk u (w.heap.size + 1) 22 inp) (by kernel_rfl) ?_
  refine wpAnyH_pickG 0 (.agg (bvs key).toArray) rfl (by kernel_rfl) (by kernel_rfl) (by kernel_rfl) (by rfl) (fun _ _ _ h => h) (fun u hu => exec_load_part u 22 (.tmp 2) rfl w.heap.size 0 (by with_unfolding_all rfl) key hu.1.range 16 5 Try.underlying22 16 sizeRow Hk.out) hS ?_
  go_simp
  refine wpAnyH_pickG 2 (.agg (bvs inp).toArray) rfl (by kernel_rfl) (by kernel_rfl) (by kernel_rfl) (by rfl) (fun _ _ _ h => h) (fun u hu => exec_load_part u 22 (.tmp 3) rfl (w.heap.size + 1) 0 (by with_unfolding_all rfl) inp hu.2.range 16 5 Try.underlying22 16 sizeRow Hs.out) hS ?_
  go_simp
  refine wpAnyH_oneG 1 (by kernel_rfl) rfl (by rfl) ?_
  go_wp2_with fail
  (with_reducible refine (new_any key Hk.out _).mono ?_)
  rintro e1 w1 ⟨g, rfl, hg, hC, hb1⟩
  have C1 := Lib.hid hC
  have R1 : Hid (Blk w1 (w.heap.size + 1 + 1) 22 (List.replicate 16 0)) := R0.out.drew.below hb1
  have B1 : Hid (Below w.heap.size w w1) := B0.out.drew.trans (hb1.mono B0.out.size)
  have hS1 : Blk w1 w.heap.size 22 key ∧ Blk w1 (w.heap.size + 1) 22 inp := ⟨hS.1.below hb1, hS.2.below hb1⟩
  refine ⟨hS1, ?_⟩
  clear hS hb1 hC hg I0 J0 R0 B0
  refine wpAnyH_oneG 3 (by kernel_rfl) rfl (by rfl) ?_
  go_wp2_with fail
  (with_reducible refine (HCL.out g _ C1.out).mono ?_)
  rintro e2 w2 ⟨rfl, hb2⟩
  have R2 : Hid (Blk w2 (w.heap.size + 1 + 1) 22 (List.replicate 16 0)) := R1.out.below hb2
  have B2 : Hid (Below w.heap.size w w2) := B1.out.trans (hb2.mono B1.out.size)
  have hS2 : Blk w2 w.heap.size 22 key ∧ Blk w2 (w.heap.size + 1) 22 inp := ⟨hS1.1.below hb2, hS1.2.below hb2⟩
  refine ⟨hS2, ?_⟩
  clear hS1 hb2 C1 R1 B1
  refine wpAnyH_oneG 4 (by kernel_rfl) rfl (by rfl) ?_
  refine wp_store_blk 22 (.tmp 4) (.tmp 8) rfl (w.heap.size + 1 + 1) bl (by with_unfolding_all rfl) (by with_unfolding_all rfl) 22 (List.replicate 16 0) R2.out 16 sizeRow HBL0.out rfl ?_
  intro w3 R3 O3
  refine ⟨⟨hS2.1.only O3.out (by omega), hS2.2.only O3.out (by omega)⟩, ?_⟩
  refine wpAnyH_done (by kernel_rfl) ?_ _
  have B3 : Hid (Below w.heap.size w w3) := B2.out.trans (O3.out.below B2.out.size (by omega))
  clear hS2 R2 B2 O3
  go_wp2_with fail
  refine ret_blk Try.results8 (w.heap.size + 1 + 1) 22 bl 16 5 rfl R3.out Try.underlying22 16 sizeRow HBL0.out rfl ⟨rfl, B3.out⟩
end Go.Proofs.Ytgoigbclloackaa
