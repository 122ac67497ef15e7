/-
  AesTells walked.
-/
import Derived.Test.YtgoigbclloackaaAesX
import Derived.Test.YtgoigbclloackaaAesG
import Derived.Test.YtgoigbclloackaaArrEqB
namespace Go.Proofs.Ytgoigbclloackaa
open Go.RowKit
set_option linter.unusedVariables false

set_option maxHeartbeats 2000000 in
theorem tells_walk (key inp : List UInt8) (b : UInt8) (hk : key.length = 16) (hs : inp.length = 16) (w : World) : Calls Try.prog 3 #[.agg (bvs key).toArray, .agg (bvs inp).toArray, .int .u8 (bn b)] w fun e w' => e = .returned (.bool true) ∧ Below w.heap.size w w' := by
  have Hk := Lib.hid hk
  have Hs := Lib.hid hs
  have heq1 : ∀ u : World, (binOp .eql 22 (.agg (bvs (blockV key inp)).toArray) (.agg (bvs (blockV key inp)).toArray)).run Try.prog u = .ok (.bool true) u := fun u => by
    have hl : (blockV key inp).length = 16 := roundsV_length key inp hk hs 10
    rw [run_eql_bytes u 22 5 16 Try.underlying22 Try.underlying5 size1 _ _ hl hl]
    simp
  have heq2 : ∀ u : World, (binOp .eql 24 (.agg (bvs (keysV key)).toArray) (.agg (bvs (keysV key)).toArray)).run Try.prog u = .ok (.bool true) u := fun u =>
    run_eql_rows u 24 22 5 11 16 Try.underlying24 Try.underlying22 Try.underlying5 sizeRow size1 _ (keysV_length key hk)
  have HB1 : Hid (∀ u : World, Calls Try.prog 7 #[.agg (bvs key).toArray, .agg (bvs inp).toArray] u fun e w' => e = .returned (.agg (bvs (blockV key inp)).toArray) ∧ Below u.heap.size u w') := block_any key inp hk hs
  have HB2 : Hid (∀ u : World, Calls Try.prog 8 #[.agg (bvs key).toArray, .agg (bvs inp).toArray] u fun e w' => e = .returned (.agg (bvs (blockV key inp)).toArray) ∧ Below u.heap.size u w') := rblock_any key inp hk hs
  obtain ⟨bl, hbl⟩ : ∃ x, blockV key inp = x := ⟨_, rfl⟩
  rw [hbl] at heq1 HB1 HB2
  clear hk hs hbl
  go_enter Try.func3, Try.ntmps3
  go_wp2_with fail
  have I0 : Hid (Blk ((w.alloc (.cells (bvs key).toArray 22)).alloc (.cells (bvs inp).toArray 22)) w.heap.size 22 key) := heap_allocs w [_, _] 0 _ rfl
  have J0 : Hid (Blk ((w.alloc (.cells (bvs key).toArray 22)).alloc (.cells (bvs inp).toArray 22)) (w.heap.size + 1) 22 inp) := heap_allocs w [_, _] 1 _ rfl
  have B0 : Hid (Below w.heap.size w ((w.alloc (.cells (bvs key).toArray 22)).alloc (.cells (bvs inp).toArray 22))) := ((Below.refl _ _).alloc (Nat.le_refl _) _).alloc (by simp) _
  generalize (w.alloc (.cells (bvs key).toArray 22)).alloc (.cells (bvs inp).toArray 22) = W0 at I0 J0 B0 ⊢
  have hS : Blk W0.drew w.heap.size 22 key ∧ Blk W0.drew (w.heap.size + 1) 22 inp ∧ Below w.heap.size w W0.drew := ⟨I0.out, J0.out, B0.out.drew⟩
  clear I0 J0 B0
  refine wp_held (S := fun u => Blk u w.heap.size 22 key ∧ Blk u (w.heap.size + 1) 22 inp ∧ Below w.heap.size w u) (by kernel_rfl) ?_
  refine wpAnyH_pickG 0 (.agg (bvs key).toArray) rfl (by kernel_rfl) (by kernel_rfl) (by kernel_rfl) (by rfl) (fun _ _ _ h => h) (fun u hu => exec_load_part u 22 (.tmp 3) rfl w.heap.size 0 (by with_unfolding_all rfl) key hu.1.range 16 5 Try.underlying22 16 sizeRow Hk.out) hS ?_
  go_simp
  refine wpAnyH_pickG 1 (.agg (bvs inp).toArray) rfl (by kernel_rfl) (by kernel_rfl) (by kernel_rfl) (by rfl) (fun _ _ _ h => h) (fun u hu => exec_load_part u 22 (.tmp 4) rfl (w.heap.size + 1) 0 (by with_unfolding_all rfl) inp hu.2.1.range 16 5 Try.underlying22 16 sizeRow Hs.out) hS ?_
  go_simp
  refine wpAnyH_pickG 3 (.agg (bvs key).toArray) rfl (by kernel_rfl) (by kernel_rfl) (by kernel_rfl) (by rfl) (fun _ _ _ h => h) (fun u hu => exec_load_part u 22 (.tmp 3) rfl w.heap.size 0 (by with_unfolding_all rfl) key hu.1.range 16 5 Try.underlying22 16 sizeRow Hk.out) hS ?_
  go_simp
  refine wpAnyH_pickG 4 (.agg (bvs inp).toArray) rfl (by kernel_rfl) (by kernel_rfl) (by kernel_rfl) (by rfl) (fun _ _ _ h => h) (fun u hu => exec_load_part u 22 (.tmp 4) rfl (w.heap.size + 1) 0 (by with_unfolding_all rfl) inp hu.2.1.range 16 5 Try.underlying22 16 sizeRow Hs.out) hS ?_
  go_simp
  refine wpAnyH_oneG 2 (by kernel_rfl) rfl (by rfl) ?_
  go_wp2_with fail
  (with_reducible refine (HB1.out _).mono ?_)
  rintro e1 w1 ⟨rfl, hb⟩
  replace hS : Blk w1 w.heap.size 22 key ∧ Blk w1 (w.heap.size + 1) 22 inp ∧ Below w.heap.size w w1 := ⟨hS.1.below hb, hS.2.1.below hb, hS.2.2.trans (hb.mono hS.2.2.size)⟩
  refine ⟨hS, ?_⟩
  clear hb
  refine wpAnyH_oneG 5 (by kernel_rfl) rfl (by rfl) ?_
  go_wp2_with fail
  (with_reducible refine (HB2.out _).mono ?_)
  rintro e2 w2 ⟨rfl, hb⟩
  replace hS : Blk w2 w.heap.size 22 key ∧ Blk w2 (w.heap.size + 1) 22 inp ∧ Below w.heap.size w w2 := ⟨hS.1.below hb, hS.2.1.below hb, hS.2.2.trans (hb.mono hS.2.2.size)⟩
  refine ⟨hS, ?_⟩
  clear hb
  refine wpAnyH_take (i := 6) (v := ?_) rfl (by kernel_rfl) (by kernel_rfl) (by kernel_rfl) (fun _ _ _ h => h) (Or.inl ⟨by rfl, ?_⟩) hS ?_
  rotate_left 1
  · intro u hu
    go_simp
    first | done | with_reducible rfl
  go_simp
  refine wpAnyH_take (i := 7) (v := ?_) rfl (by kernel_rfl) (by kernel_rfl) (by kernel_rfl) (fun _ _ _ h => h) (Or.inl ⟨by rfl, ?_⟩) hS ?_
  rotate_left 1
  · intro u hu
    go_simp
    first | done | with_reducible rfl
  go_simp
  refine wpAnyH_pickG 8 (.agg (bvs key).toArray) rfl (by kernel_rfl) (by kernel_rfl) (by kernel_rfl) (by rfl) (fun _ _ _ h => h) (fun u hu => exec_load_part u 22 (.tmp 3) rfl w.heap.size 0 (by with_unfolding_all rfl) key hu.1.range 16 5 Try.underlying22 16 sizeRow Hk.out) hS ?_
  go_simp
  refine wpAnyH_pickG 10 (.agg (bvs key).toArray) rfl (by kernel_rfl) (by kernel_rfl) (by kernel_rfl) (by rfl) (fun _ _ _ h => h) (fun u hu => exec_load_part u 22 (.tmp 3) rfl w.heap.size 0 (by with_unfolding_all rfl) key hu.1.range 16 5 Try.underlying22 16 sizeRow Hk.out) hS ?_
  go_simp
  refine wpAnyH_oneG 9 (by kernel_rfl) rfl (by rfl) ?_
  go_wp2_with fail
  (with_reducible refine (keys_any key Hk.out _).mono ?_)
  rintro e3 w3 ⟨rfl, hb⟩
  replace hS : Blk w3 w.heap.size 22 key ∧ Blk w3 (w.heap.size + 1) 22 inp ∧ Below w.heap.size w w3 := ⟨hS.1.below hb, hS.2.1.below hb, hS.2.2.trans (hb.mono hS.2.2.size)⟩
  refine ⟨hS, ?_⟩
  clear hb
  refine wpAnyH_oneG 11 (by kernel_rfl) rfl (by rfl) ?_
  go_wp2_with fail
  (with_reducible refine (rkeys_any key Hk.out _).mono ?_)
  rintro e4 w4 ⟨rfl, hb⟩
  replace hS : Blk w4 w.heap.size 22 key ∧ Blk w4 (w.heap.size + 1) 22 inp ∧ Below w.heap.size w w4 := ⟨hS.1.below hb, hS.2.1.below hb, hS.2.2.trans (hb.mono hS.2.2.size)⟩
  refine ⟨hS, ?_⟩
  clear hb
  refine wpAnyH_take (i := 12) (v := ?_) rfl (by kernel_rfl) (by kernel_rfl) (by kernel_rfl) (fun _ _ _ h => h) (Or.inl ⟨by rfl, ?_⟩) hS ?_
  rotate_left 1
  · intro u hu
    go_simp
    first | done | with_reducible rfl
  go_simp
  refine wpAnyH_take (i := 13) (v := ?_) rfl (by kernel_rfl) (by kernel_rfl) (by kernel_rfl) (fun _ _ _ h => h) (Or.inl ⟨by rfl, ?_⟩) hS ?_
  rotate_left 1
  · intro u hu
    go_simp
    first | done | with_reducible rfl
  go_simp
  refine wpAnyH_take (i := 14) (v := ?_) rfl (by kernel_rfl) (by kernel_rfl) (by kernel_rfl) (fun _ _ _ h => h) (Or.inl ⟨by rfl, ?_⟩) hS ?_
  rotate_left 1
  · intro u hu
    go_simp
    first | done | with_reducible rfl
  go_simp
  refine wpAnyH_take (i := 15) (v := ?_) rfl (by kernel_rfl) (by kernel_rfl) (by kernel_rfl) (fun _ _ _ h => h) (Or.inl ⟨by rfl, ?_⟩) hS ?_
  rotate_left 1
  · intro u hu
    go_simp
    first | done | with_reducible rfl
  go_simp
  refine wpAnyH_take (i := 17) (v := ?_) rfl (by kernel_rfl) (by kernel_rfl) (by kernel_rfl) (fun _ _ _ h => h) (Or.inl ⟨by rfl, ?_⟩) hS ?_
  rotate_left 1
  · intro u hu
    go_simp
    first | done | with_reducible rfl
  go_simp
  refine wpAnyH_oneG 16 (by kernel_rfl) rfl (by rfl) ?_
  go_wp2_with fail
  (with_reducible refine (box_any b _).mono ?_)
  rintro _ _ ⟨rfl, rfl⟩
  refine ⟨hS, ?_⟩
  refine wpAnyH_oneG 18 (by kernel_rfl) rfl (by rfl) ?_
  go_wp2_with fail
  (with_reducible refine (rbox_any b _).mono ?_)
  rintro e6 w6 ⟨rfl, hb⟩
  replace hS : Blk w6 w.heap.size 22 key ∧ Blk w6 (w.heap.size + 1) 22 inp ∧ Below w.heap.size w w6 := ⟨hS.1.below hb, hS.2.1.below hb, hS.2.2.trans (hb.mono hS.2.2.size)⟩
  refine ⟨hS, ?_⟩
  clear hb
  refine wpAnyH_take (i := 19) (v := ?_) rfl (by kernel_rfl) (by kernel_rfl) (by kernel_rfl) (fun _ _ _ h => h) (Or.inl ⟨by rfl, ?_⟩) hS ?_
  rotate_left 1
  · intro u hu
    go_simp
    first | done | with_reducible rfl
  go_simp
  refine wpAnyH_take (i := 20) (v := ?_) rfl (by kernel_rfl) (by kernel_rfl) (by kernel_rfl) (fun _ _ _ h => h) (Or.inl ⟨by rfl, ?_⟩) hS ?_
  rotate_left 1
  · intro u hu
    go_simp
    first | done | with_reducible rfl
  go_simp
  refine wpAnyH_take (i := 21) (v := ?_) rfl (by kernel_rfl) (by kernel_rfl) (by kernel_rfl) (fun _ _ _ h => h) (Or.inl ⟨by rfl, ?_⟩) hS ?_
  rotate_left 1
  · intro u hu
    go_simp
    first | done | with_reducible rfl
  go_simp
  refine wpAnyH_take (i := 22) (v := ?_) rfl (by kernel_rfl) (by kernel_rfl) (by kernel_rfl) (fun _ _ _ h => h) (Or.inl ⟨by rfl, ?_⟩) hS ?_
  rotate_left 1
  · intro u hu
    go_simp
    first | done | with_reducible rfl
  go_simp
  refine wpAnyH_take (i := 24) (v := ?_) rfl (by kernel_rfl) (by kernel_rfl) (by kernel_rfl) (fun _ _ _ h => h) (Or.inl ⟨by rfl, ?_⟩) hS ?_
  rotate_left 1
  · intro u hu
    go_simp
    first | done | with_reducible rfl
  go_simp
  refine wpAnyH_oneG 23 (by kernel_rfl) rfl (by rfl) ?_
  go_wp2_with fail
  (with_reducible refine (dbl_any b _).mono ?_)
  rintro _ _ ⟨rfl, rfl⟩
  refine ⟨hS, ?_⟩
  refine wpAnyH_oneG 25 (by kernel_rfl) rfl (by rfl) ?_
  go_wp2_with fail
  (with_reducible refine (rdbl_any b _).mono ?_)
  rintro _ _ ⟨rfl, rfl⟩
  refine ⟨hS, ?_⟩
  refine wpAnyH_take (i := 26) (v := ?_) rfl (by kernel_rfl) (by kernel_rfl) (by kernel_rfl) (fun _ _ _ h => h) (Or.inl ⟨by rfl, ?_⟩) hS ?_
  rotate_left 1
  · intro u hu
    go_simp
    first | done | with_reducible rfl
  go_simp
  refine wpAnyH_take (i := 27) (v := ?_) rfl (by kernel_rfl) (by kernel_rfl) (by kernel_rfl) (fun _ _ _ h => h) (Or.inl ⟨by rfl, ?_⟩) hS ?_
  rotate_left 1
  · intro u hu
    go_simp
    first | done | with_reducible rfl
  go_simp
  refine wpAnyH_take (i := 28) (v := ?_) rfl (by kernel_rfl) (by kernel_rfl) (by kernel_rfl) (fun _ _ _ h => h) (Or.inl ⟨by rfl, ?_⟩) hS ?_
  rotate_left 1
  · intro u hu
    go_simp
    first | done | with_reducible rfl
  go_simp
  refine wpAnyH_oneG 29 (by kernel_rfl) rfl (by rfl) ?_
  go_wp2_with fail
  (with_reducible refine (awake_any _).mono ?_)
  rintro e9 w9 ⟨rfl, hb⟩
  replace hS : Blk w9 w.heap.size 22 key ∧ Blk w9 (w.heap.size + 1) 22 inp ∧ Below w.heap.size w w9 := ⟨hS.1.below hb, hS.2.1.below hb, hS.2.2.trans (hb.mono hS.2.2.size)⟩
  refine ⟨hS, ?_⟩
  clear hb
  refine wpAnyH_take (i := 30) (v := ?_) rfl (by kernel_rfl) (by kernel_rfl) (by kernel_rfl) (fun _ _ _ h => h) (Or.inl ⟨by rfl, ?_⟩) hS ?_
  rotate_left 1
  · intro u hu
    go_simp
    first | done | with_reducible rfl
  go_simp
  refine wpAnyH_take (i := 31) (v := ?_) rfl (by kernel_rfl) (by kernel_rfl) (by kernel_rfl) (fun _ _ _ h => h) (Or.inl ⟨by rfl, ?_⟩) hS ?_
  rotate_left 1
  · intro u hu
    go_simp
    first | done | with_reducible rfl
  go_simp
  refine wpAnyH_done (by kernel_rfl) ?_ _
  go_wp2_with fail
  go_ret
  exact ⟨rfl, hS.2.2⟩
end Go.Proofs.Ytgoigbclloackaa
