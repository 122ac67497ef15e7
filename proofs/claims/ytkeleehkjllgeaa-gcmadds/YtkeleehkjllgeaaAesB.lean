/-
  Contracts of columns, crossed and bytes.
-/
import Derived.Test.YtkeleehkjllgeaaBlkW
import Derived.Test.YtkeleehkjllgeaaAesA
namespace Go.Proofs.Ytkeleehkjllgeaa
open Go.RowKit
set_option linter.unusedVariables false

theorem sizeGrid : (Try.prog.info? 71).map (·.size) = some 16 := by kernel_rfl
theorem quart (j : Nat) (h : j < 16) : ∃ q r : Nat, (j : Int).tdiv 4 = (q : Int) ∧ (j : Int).tmod 4 = (r : Int) ∧ (q : Int) < 4 ∧ (r : Int) < 4 ∧ Hid (q * 4 + r = j) :=
  ⟨j / 4, j % 4, rfl, rfl, by omega, by omega, show _ = _ by omega⟩

set_option maxHeartbeats 1000000 in
theorem columns_any (l : List UInt8) (hl : l.length = 16) (w : World) :
    Calls Try.prog 41 #[.agg (bvs l).toArray] w fun e w' => e = .returned (.agg (bvs l).toArray) ∧ Below w.heap.size w w' := by
  have Hl := Lib.hid hl
  have hol : (bvs l).length = 16 := by rw [bvs_length, hl]
  have HOl := Lib.hid hol
  clear hl hol
  go_enter Try.func41, Try.ntmps41
  go_wp2_with ((with_reducible refine wpList_load_row rfl 22 (.tmp 1) rfl w.heap.size ?hx 22 (bvs l).toArray (0, 0) _ ?hg Try.underlying22 rfl ?hi ?_); (case hx => with_unfolding_all rfl); (case hg => exact heap_allocs w [_, _, _] 0 _ rfl); (case hi => rw [sizeRow, List.size_toArray, HOl.out]))
  go_loopw [7] (fun i wr => ∃ j : Nat, j ≤ 16 ∧ i = .int .i64 j ∧ Hid (Blk wr (w.heap.size + 1 + 1) 71 (mixr l (List.replicate 16 0) j)) ∧ Hid (Blk wr (w.heap.size + 1) 71 (List.replicate 16 0)) ∧ Hid (Below w.heap.size w wr)) (fun i _ => 16 - (intOf i).toNat)
  case atStart =>
    refine ⟨0, by omega, rfl, ?_, ?_, (((Below.refl _ _).alloc (Nat.le_refl _) _).alloc (by simp) _).alloc (by simp; omega) _⟩
    · exact heap_allocs w [_, _, _] 2 _ (by rw [mixr_zero, ← zeros_bvs]; rfl)
    · exact heap_allocs w [_, _, _] 1 _ (by rw [← zeros_bvs]; rfl)
  case round =>
    obtain ⟨j, hj, rfl, H0, H1, HB⟩ := hrel
    have hl := Hl.out
    by_cases hlt : j < 16
    · obtain ⟨q, r, eq, er, hq, hr, hqr⟩ := quart j hlt
      obtain ⟨y, hy⟩ : ∃ y, l.getD j 0 = y := ⟨_, rfl⟩
      have hidx : ∀ u : World, (Instr.index 22 (.agg (bvs l).toArray) (.int .i64 (j : Int))).run Try.prog u = .ok (.int .u8 (bn y)) u := fun u => by
        rw [← hy]
        exact run_index_byte u 22 5 16 Try.underlying22 size1 Try.underlying5 l .i64 _ j rfl hlt (by omega)
      have lj : (j : Int) < 16 := by omega
      have cd := H0.out.cell (q * 4 + r) (by rw [mixr_length _ _ _ (by simp [hl])]; simp; omega)
      have cf := H0.out.frozen (q * 4 + r)
      have HN : Hid ((mixr l (List.replicate 16 0) j).set (q * 4 + r) y = mixr l (List.replicate 16 0) (j + 1)) := by
        show _ = _
        rw [hqr.out, ← hy]
        exact mixr_set _ _ _ (by simp [hl]) (by simpa using hlt)
      clear hy
      go_wp2_with fail
      go_roundw
      case rel =>
        refine ⟨j + 1, by omega, by go_num, ?_, H1.out.other _ _ _ (by omega), HB.out.setCell (by simp; omega) _⟩
        show Blk _ _ _ _
        rw [← HN.out]
        exact H0.out.put _ _
      case measure => simp [intOf]; omega
    · obtain rfl : j = 16 := by omega
      rw [mixr_full _ _ _ (by simp [hl]) (by simp)] at H0
      clear hl
      go_wp2_with (first
        | ((with_reducible refine wpList_load_blk rfl 71 (.tmp 3) rfl (w.heap.size + 1 + 1) ?hx 71 l H0.out 4 69 Try.underlying71 16 sizeGrid Hl.out ?_); (case hx => with_unfolding_all rfl))
        | ((with_reducible refine wpList_store_blk rfl 71 (.tmp 2) (.tmp 19) rfl (w.heap.size + 1) l ?hx ?hy 71 (List.replicate 16 0) H1.out 16 sizeGrid Hl.out ?ho ?_); (case hx => with_unfolding_all rfl); (case hy => with_unfolding_all rfl); (case ho => rfl); intro w2 H2 HO2))
      refine ret_blk Try.results41 (w.heap.size + 1) 71 l 4 69 rfl H2.out Try.underlying71 16 sizeGrid Hl.out rfl ⟨rfl, ?_⟩
      exact HB.out.trans (HO2.out.below HB.out.size (by omega))

attribute [local go_sem] u8_xor'
set_option maxHeartbeats 1000000 in
theorem gridx_any (l k : List UInt8) (hl : l.length = 16) (hk : k.length = 16) (w : World) :
    Calls Try.prog 42 #[.agg (bvs l).toArray, .agg (bvs k).toArray] w fun e w' => e = .returned (.agg (bvs (crossV l k)).toArray) ∧ Below w.heap.size w w' := by
  have Hl := Lib.hid hl
  have Hk := Lib.hid hk
  have HC := Lib.hid (crossV_length l k hl hk)
  clear hl hk
  go_enter Try.func42, Try.ntmps42
  go_wp2_with ((with_reducible refine wpList_load_blk rfl 22 (.tmp 3) rfl (w.heap.size + 1) ?hx 22 k ?hg 16 5 Try.underlying22 16 sizeRow Hk.out ?_); (case hx => with_unfolding_all rfl); (case hg => exact heap_allocs w [_, _, _] 1 _ rfl))
  go_loopw [8] (fun i wr => ∃ j : Nat, j ≤ 16 ∧ i = .int .i64 j ∧ Hid (Blk wr w.heap.size 71 (mixr (crossV l k) l j)) ∧ Hid (Blk wr (w.heap.size + 1 + 1) 71 (List.replicate 16 0)) ∧ Hid (Below w.heap.size w wr)) (fun i _ => 16 - (intOf i).toNat)
  case atStart =>
    refine ⟨0, by omega, rfl, ?_, ?_, (((Below.refl _ _).alloc (Nat.le_refl _) _).alloc (by simp) _).alloc (by simp; omega) _⟩
    · exact heap_allocs w [_, _, _] 0 _ (by rw [mixr_zero]; rfl)
    · exact heap_allocs w [_, _, _] 2 _ (by rw [← zeros_bvs]; rfl)
  case round =>
    obtain ⟨j, hj, rfl, H0, H1, HB⟩ := hrel
    have hl := Hl.out
    have hk := Hk.out
    have hC := HC.out
    by_cases hlt : j < 16
    · obtain ⟨q, r, eq, er, hq, hr, hqr⟩ := quart j hlt
      obtain ⟨y, hy⟩ : ∃ y, k.getD j 0 = y := ⟨_, rfl⟩
      obtain ⟨x, hx⟩ : ∃ y, l.getD j 0 = y := ⟨_, rfl⟩
      have hidx : ∀ u : World, (Instr.index 22 (.agg (bvs k).toArray) (.int .i64 (j : Int))).run Try.prog u = .ok (.int .u8 (bn y)) u := fun u => by
        rw [← hy]
        exact run_index_byte u 22 5 16 Try.underlying22 size1 Try.underlying5 k .i64 _ j rfl hlt (by omega)
      have vq : IntKind.i64.wrap (q : Int) = (q : Int) := IntWalk.i64_in _ (by omega)
      have lj : (j : Int) < 16 := by omega
      have cd : wr.cell? ⟨w.heap.size, q * 4 + r, none⟩ = some (.int .u8 (bn x)) := by
        rw [H0.out.cell (q * 4 + r) (by rw [mixr_length _ _ _ (by omega)]; omega), hqr.out, mixr_old _ _ _ _ (by omega) (by omega) (Nat.le_refl _), hx]
      have cf := H0.out.frozen (q * 4 + r)
      have HN : Hid ((mixr (crossV l k) l j).set (q * 4 + r) (x ^^^ y) = mixr (crossV l k) l (j + 1)) := by
        show _ = _
        rw [hqr.out, ← hy, ← hx, ← mixr_set _ _ _ (by omega) (by omega)]
        congr 1
        exact (cross_get l k j (by omega) (by omega)).symm
      clear hy hx hl hk hC
      go_wp2_with fail
      refine wp_tail 11 (by kernel_rfl) (by kernel_rfl) ?_
      simp only [List.take_succ_cons, List.take_zero, List.drop_succ_cons, List.drop_zero]
      repeat still_step
      refine wpStill_nil ?_
      go_wp2
      go_roundw
      case rel =>
        refine ⟨j + 1, by omega, by go_num, ?_, (H1.out.other _ _ _ (by omega)).drew, (HB.out.setCell (by simp) _).drew⟩
        show Blk _ _ _ _
        rw [← HN.out]
        exact (H0.out.put _ _).drew
      case measure => simp [intOf]; omega
    · obtain rfl : j = 16 := by omega
      rw [mixr_full _ _ _ (by omega) (by omega)] at H0
      clear hl hk hC
      go_wp2_with (first
        | ((with_reducible refine wpList_load_blk rfl 71 (.tmp 2) rfl w.heap.size ?hx 71 _ H0.out 4 69 Try.underlying71 16 sizeGrid HC.out ?_); (case hx => with_unfolding_all rfl))
        | ((with_reducible refine wpList_store_blk rfl 71 (.tmp 4) (.tmp 24) rfl (w.heap.size + 1 + 1) (crossV l k) ?hx ?hy 71 (List.replicate 16 0) H1.out 16 sizeGrid HC.out ?ho ?_); (case hx => with_unfolding_all rfl); (case hy => with_unfolding_all rfl); (case ho => rfl); intro w2 H2 HO2))
      refine ret_blk Try.results42 (w.heap.size + 1 + 1) 71 _ 4 69 rfl H2.out Try.underlying71 16 sizeGrid HC.out rfl ⟨rfl, ?_⟩
      exact HB.out.trans (HO2.out.below HB.out.size (by omega))

set_option maxHeartbeats 1000000 in
theorem bytes_any (l : List UInt8) (hl : l.length = 16) (w : World) :
    Calls Try.prog 45 #[.agg (bvs l).toArray] w fun e w' => e = .returned (.agg (bvs l).toArray) ∧ Below w.heap.size w w' := by
  have Hl := Lib.hid hl
  clear hl
  go_enter Try.func45, Try.ntmps45
  go_wp2_with fail
  go_loopw [5] (fun i wr => ∃ j : Nat, j ≤ 16 ∧ i = .int .i64 j ∧ Hid (Blk wr (w.heap.size + 1 + 1) 22 (mixr l (List.replicate 16 0) j)) ∧ Hid (Blk wr (w.heap.size + 1) 22 (List.replicate 16 0)) ∧ Hid (Blk wr w.heap.size 71 l) ∧ Hid (Below w.heap.size w wr)) (fun i _ => 16 - (intOf i).toNat)
  case atStart =>
    refine ⟨0, by omega, rfl, ?_, ?_, ?_, (((Below.refl _ _).alloc (Nat.le_refl _) _).alloc (by simp) _).alloc (by simp; omega) _⟩
    · exact heap_allocs w [_, _, _] 2 _ (by rw [mixr_zero, ← zeros_bvs]; rfl)
    · exact heap_allocs w [_, _, _] 1 _ (by rw [← zeros_bvs]; rfl)
    · exact heap_allocs w [_, _, _] 0 _ rfl
  case round =>
    obtain ⟨j, hj, rfl, H0, H1, HI, HB⟩ := hrel
    have hl := Hl.out
    by_cases hlt : j < 16
    · obtain ⟨q, r, eq, er, hq, hr, hqr⟩ := quart j hlt
      obtain ⟨y, hy⟩ : ∃ y, l.getD j 0 = y := ⟨_, rfl⟩
      have lj : (j : Int) < 16 := by omega
      have ci : wr.cell? ⟨w.heap.size, q * 4 + r, none⟩ = some (.int .u8 (bn y)) := by
        rw [HI.out.cell (q * 4 + r) (by omega), hqr.out, hy]
      have cd := H0.out.cell j (by rw [mixr_length _ _ _ (by simp [hl])]; simp; omega)
      have cf := H0.out.frozen j
      have HN : Hid ((mixr l (List.replicate 16 0) j).set j y = mixr l (List.replicate 16 0) (j + 1)) := by
        show _ = _
        rw [← hy]
        exact mixr_set _ _ _ (by simp [hl]) (by simpa using hlt)
      clear hy hl
      go_wp2_with fail
      go_roundw
      case rel =>
        refine ⟨j + 1, by omega, by go_num, ?_, H1.out.other _ _ _ (by omega), HI.out.other _ _ _ (by omega), HB.out.setCell (by simp; omega) _⟩
        show Blk _ _ _ _
        rw [← HN.out]
        exact H0.out.put _ _
      case measure => simp [intOf]; omega
    · obtain rfl : j = 16 := by omega
      rw [mixr_full _ _ _ (by simp [hl]) (by simp)] at H0
      clear hl
      go_wp2_with (first
        | ((with_reducible refine wpList_load_blk rfl 22 (.tmp 3) rfl (w.heap.size + 1 + 1) ?hx 22 l H0.out 16 5 Try.underlying22 16 sizeRow Hl.out ?_); (case hx => with_unfolding_all rfl))
        | ((with_reducible refine wpList_store_blk rfl 22 (.tmp 2) (.tmp 18) rfl (w.heap.size + 1) l ?hx ?hy 22 (List.replicate 16 0) H1.out 16 sizeRow Hl.out ?ho ?_); (case hx => with_unfolding_all rfl); (case hy => with_unfolding_all rfl); (case ho => rfl); intro w2 H2 HO2))
      refine ret_blk Try.results45 (w.heap.size + 1) 22 l 16 5 rfl H2.out Try.underlying22 16 sizeRow Hl.out rfl ⟨rfl, ?_⟩
      exact HB.out.trans (HO2.out.below HB.out.size (by omega))

set_option maxHeartbeats 1000000 in
theorem rcross_any (l k : List UInt8) (hl : l.length = 16) (hk : k.length = 16) (w : World) :
    Calls Try.prog 47 #[.agg (bvs l).toArray, .agg (bvs k).toArray] w fun e w' => e = .returned (.agg (bvs (crossV l k)).toArray) ∧ Below w.heap.size w w' := by
  have Hl := Lib.hid hl
  have Hk := Lib.hid hk
  have HC := Lib.hid (crossV_length l k hl hk)
  clear hl hk
  go_enter Try.func47, Try.ntmps47
  go_wp2_with fail
  go_loopw [5] (fun i wr => ∃ j : Nat, j ≤ 16 ∧ i = .int .i64 j ∧ Hid (Blk wr w.heap.size 22 (mixr (crossV l k) l j)) ∧ Hid (Blk wr (w.heap.size + 1 + 1) 22 (List.replicate 16 0)) ∧ Hid (Blk wr (w.heap.size + 1) 22 k) ∧ Hid (Below w.heap.size w wr)) (fun i _ => 16 - (intOf i).toNat)
  case atStart =>
    refine ⟨0, by omega, rfl, ?_, ?_, ?_, (((Below.refl _ _).alloc (Nat.le_refl _) _).alloc (by simp) _).alloc (by simp; omega) _⟩
    · exact heap_allocs w [_, _, _] 0 _ (by rw [mixr_zero]; rfl)
    · exact heap_allocs w [_, _, _] 2 _ (by rw [← zeros_bvs]; rfl)
    · exact heap_allocs w [_, _, _] 1 _ rfl
  case round =>
    obtain ⟨j, hj, rfl, H0, H1, HK, HB⟩ := hrel
    have hl := Hl.out
    have hk := Hk.out
    have hC := HC.out
    by_cases hlt : j < 16
    · obtain ⟨y, hy⟩ : ∃ y, k.getD j 0 = y := ⟨_, rfl⟩
      obtain ⟨x, hx⟩ : ∃ y, l.getD j 0 = y := ⟨_, rfl⟩
      have lj : (j : Int) < 16 := by omega
      have cd : wr.cell? ⟨w.heap.size, j, none⟩ = some (.int .u8 (bn x)) := by
        rw [H0.out.cell j (by rw [mixr_length _ _ _ (by omega)]; omega), mixr_old _ _ _ _ (by omega) (by omega) (Nat.le_refl _), hx]
      have ck : wr.cell? ⟨w.heap.size + 1, j, none⟩ = some (.int .u8 (bn y)) := by
        rw [HK.out.cell j (by omega), hy]
      have cf := H0.out.frozen j
      have HN : Hid ((mixr (crossV l k) l j).set j (x ^^^ y) = mixr (crossV l k) l (j + 1)) := by
        show _ = _
        rw [← hy, ← hx, ← mixr_set _ _ _ (by omega) (by omega)]
        congr 1
        exact (cross_get l k j (by omega) (by omega)).symm
      clear hy hx hl hk hC
      go_wp2_with fail
      refine wp_tail 9 (by kernel_rfl) (by kernel_rfl) ?_
      simp only [List.take_succ_cons, List.take_zero, List.drop_succ_cons, List.drop_zero]
      repeat still_step
      refine wpStill_nil ?_
      go_wp2
      go_roundw
      case rel =>
        refine ⟨j + 1, by omega, by go_num, ?_, (H1.out.other _ _ _ (by omega)).drew, (HK.out.other _ _ _ (by omega)).drew, (HB.out.setCell (by simp) _).drew⟩
        show Blk _ _ _ _
        rw [← HN.out]
        exact (H0.out.put _ _).drew
      case measure => simp [intOf]; omega
    · obtain rfl : j = 16 := by omega
      rw [mixr_full _ _ _ (by omega) (by omega)] at H0
      clear hl hk hC
      go_wp2_with (first
        | ((with_reducible refine wpList_load_blk rfl 22 (.tmp 2) rfl w.heap.size ?hx 22 _ H0.out 16 5 Try.underlying22 16 sizeRow HC.out ?_); (case hx => with_unfolding_all rfl))
        | ((with_reducible refine wpList_store_blk rfl 22 (.tmp 4) (.tmp 19) rfl (w.heap.size + 1 + 1) (crossV l k) ?hx ?hy 22 (List.replicate 16 0) H1.out 16 sizeRow HC.out ?ho ?_); (case hx => with_unfolding_all rfl); (case hy => with_unfolding_all rfl); (case ho => rfl); intro w2 H2 HO2))
      refine ret_blk Try.results47 (w.heap.size + 1 + 1) 22 _ 16 5 rfl H2.out Try.underlying22 16 sizeRow HC.out rfl ⟨rfl, ?_⟩
      exact HB.out.trans (HO2.out.below HB.out.size (by omega))
end Go.Proofs.Ytkeleehkjllgeaa
