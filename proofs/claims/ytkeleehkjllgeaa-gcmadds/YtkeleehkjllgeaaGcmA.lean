/-
  Contracts of halves and bytes: a block as a pair, a pair as a block.
-/
import Derived.Test.YtkeleehkjllgeaaGcmW
namespace Go.Proofs.Ytkeleehkjllgeaa
open Go.RowKit
set_option linter.unusedVariables false

theorem oct (j : Nat) (h : j < 16) : ∃ q : Nat, (j : Int).tdiv 8 = (q : Int) ∧ (q : Int) < 2 ∧ Hid (q = j / 8) := ⟨j / 8, rfl, by omega, rfl⟩
attribute [local go_sem] u64_xor' u64_and' u64_or' u64_shl8 u64_shl8w u64_byte u64_bytem
set_option maxHeartbeats 1000000 in
theorem halves_any (l : List UInt8) (hl : l.length = 16) (w : World) :
    Calls Try.prog 27 #[.agg (bvs l).toArray] w fun e w' => e = .returned (.agg #[.int .u64 (qn (hiQ l)), .int .u64 (qn (loQ l))]) ∧ Below w.heap.size w w' := by
  have Hl := Lib.hid hl
  clear hl
  go_enter Try.func27, Try.ntmps27
  go_wp2_with ((with_reducible refine wpList_load_blk rfl 22 (.tmp 1) rfl w.heap.size ?hx 22 l ?hg 16 5 Try.underlying22 16 sizeRow Hl.out ?_); (case hx => with_unfolding_all rfl); (case hg => exact heap_allocs w [_, _, _] 0 _ rfl))
  go_loopw [7] (fun i wr => ∃ j : Nat, j ≤ 16 ∧ i = .int .i64 j ∧ Hid (Blq wr (w.heap.size + 1 + 1) 51 (hvQ l j)) ∧ Hid (Blq wr (w.heap.size + 1) 51 [0, 0]) ∧ Hid (Below w.heap.size w wr)) (fun i _ => 16 - (intOf i).toNat)
  case atStart =>
    refine ⟨0, by omega, rfl, ?_, ?_, (((Below.refl _ _).alloc (Nat.le_refl _) _).alloc (by simp) _).alloc (by simp; omega) _⟩
    · exact heap_allocs w [_, _, _] 2 _ rfl
    · exact heap_allocs w [_, _, _] 1 _ rfl
  case round =>
    obtain ⟨j, hj, rfl, H0, H1, HB⟩ := hrel
    have hl := Hl.out
    by_cases hlt : j < 16
    · obtain ⟨q, eq, hq, hqr⟩ := oct j hlt
      obtain ⟨y, hy⟩ : ∃ y, l.getD j 0 = y := ⟨_, rfl⟩
      obtain ⟨x, hx⟩ : ∃ x, (hvQ l j).getD q 0 = x := ⟨_, rfl⟩
      have hidx : ∀ u : World, (Instr.index 22 (.agg (bvs l).toArray) (.int .i64 (j : Int))).run Try.prog u = .ok (.int .u8 (bn y)) u := fun u => by
        rw [← hy]
        exact run_index_byte u 22 5 16 Try.underlying22 size1 Try.underlying5 l .i64 _ j rfl hlt (by omega)
      have vq : IntKind.i64.wrap (q : Int) = (q : Int) := IntWalk.i64_in _ (by omega)
      have lj : (j : Int) < 16 := by omega
      have cd : wr.cell? ⟨w.heap.size + 1 + 1, q, none⟩ = some (.int .u64 (qn x)) := by
        rw [← hx]
        exact H0.out.cell q (by show q < 2; omega)
      have cf := H0.out.frozen q
      have HN : Hid ((hvQ l j).set q ((x <<< 8) ||| y.toUInt64) = hvQ l (j + 1)) := by
        show _ = _
        rw [← hy, ← hx, hqr.out]
        exact hvQ_next l j hl hlt
      clear hy hx hl
      go_wp2_with fail
      go_roundw
      case rel =>
        refine ⟨j + 1, by omega, by go_num, ?_, H1.out.other _ _ _ (by omega), HB.out.setCell (by simp; omega) _⟩
        show Blq _ _ _ _
        rw [← HN.out]
        exact H0.out.put _ _
      case measure => simp [intOf]; omega
    · obtain rfl : j = 16 := by omega
      rw [hvQ_full l hl] at H0
      clear hl
      go_wp2_with (first
        | ((with_reducible refine wpList_load_blq rfl 51 (.tmp 3) rfl (w.heap.size + 1 + 1) ?hx 51 _ H0.out 2 49 Try.underlying51 2 sizePair rfl ?_); (case hx => with_unfolding_all rfl))
        | ((with_reducible refine wpList_store_blq rfl 51 (.tmp 2) (.tmp 23) rfl (w.heap.size + 1) [hiQ l, loQ l] ?hx ?hy 51 [0, 0] H1.out 2 sizePair rfl rfl ?_); (case hx => with_unfolding_all rfl); (case hy => with_unfolding_all rfl); intro w2 H2 HO2))
      refine ret_blq Try.results27 (w.heap.size + 1) 51 _ 2 49 rfl H2.out Try.underlying51 2 sizePair rfl rfl ⟨rfl, ?_⟩
      exact HB.out.trans (HO2.out.below HB.out.size (by omega))

theorem shr_byte (x : UInt64) (j : Nat) (h : j < 16) : ∃ r : Nat, (j : Int).tmod 8 = (r : Int) ∧ (r : Int) < 8 ∧ Hid (r = j % 8) := ⟨j % 8, rfl, by omega, rfl⟩
theorem qn_byte (x : UInt64) (k : Nat) : qn x / 2 ^ k % 256 = bn (UInt8.ofNat (x.toNat / 2 ^ k)) := by
  have e : ((2 ^ k : Nat) : Int) = (2 : Int) ^ k := by simp
  unfold qn bn
  rw [UInt8.toNat_ofNat', ← e, ← Int.natCast_ediv]
  omega
set_option maxHeartbeats 1000000 in
theorem pbytes_any (h l : UInt64) (w : World) :
    Calls Try.prog 30 #[.agg #[.int .u64 (qn h), .int .u64 (qn l)]] w fun e w' => e = .returned (.agg (bvs (pairB h l)).toArray) ∧ Below w.heap.size w w' := by
  have HL := Lib.hid (pairB_length h l)
  go_enter Try.func30, Try.ntmps30
  go_wp2_with fail
  go_loopw [5] (fun i wr => ∃ j : Nat, j ≤ 16 ∧ i = .int .i64 j ∧ Hid (Blk wr (w.heap.size + 1 + 1) 22 (mixr (pairB h l) (List.replicate 16 0) j)) ∧ Hid (Blk wr (w.heap.size + 1) 22 (List.replicate 16 0)) ∧ Hid (Blq wr w.heap.size 51 [h, l]) ∧ Hid (Below w.heap.size w wr)) (fun i _ => 16 - (intOf i).toNat)
  case atStart =>
    refine ⟨0, by omega, rfl, ?_, ?_, ?_, (((Below.refl _ _).alloc (Nat.le_refl _) _).alloc (by simp) _).alloc (by simp; omega) _⟩
    · exact heap_allocs w [_, _, _] 2 _ (by rw [mixr_zero, ← zeros_bvs]; rfl)
    · exact heap_allocs w [_, _, _] 1 _ (by rw [← zeros_bvs]; rfl)
    · exact heap_allocs w [_, _, _] 0 _ rfl
  case round =>
    obtain ⟨j, hj, rfl, H0, H1, H3, HB⟩ := hrel
    have hL := HL.out
    by_cases hlt : j < 16
    · obtain ⟨q, eq, hq, hqr⟩ := oct j hlt
      obtain ⟨r, er, hr, hrr⟩ := shr_byte h j hlt
      obtain ⟨x, hx⟩ : ∃ x, [h, l].getD q 0 = x := ⟨_, rfl⟩
      have vq : IntKind.i64.wrap (q : Int) = (q : Int) := IntWalk.i64_in _ (by omega)
      have lj : (j : Int) < 16 := by omega
      have cd : wr.cell? ⟨w.heap.size, q, none⟩ = some (.int .u64 (qn x)) := by
        rw [← hx]
        exact H3.out.cell q (by show q < 2; omega)
      have ce := H0.out.cell j (by rw [mixr_length _ _ _ (by simp [hL])]; simp; omega)
      have cf := H0.out.frozen j
      obtain ⟨k, hk⟩ : ∃ k : Nat, 56 - 8 * (r : Int) = (k : Int) := ⟨56 - 8 * r, by omega⟩
      have hv : qn x / 2 ^ k % 256 = bn (UInt8.ofNat (x.toNat / 2 ^ k)) := qn_byte x k
      obtain ⟨y, hy⟩ : ∃ y, UInt8.ofNat (x.toNat / 2 ^ k) = y := ⟨_, rfl⟩
      rw [hy] at hv
      have HN : Hid ((mixr (pairB h l) (List.replicate 16 0) j).set j y = mixr (pairB h l) (List.replicate 16 0) (j + 1)) := by
        show _ = _
        have ex : (if j < 8 then h else l) = x := by
          rw [← hx, hqr.out]
          by_cases h8 : j < 8
          · rw [if_pos h8, show j / 8 = 0 by omega]; rfl
          · rw [if_neg h8, show j / 8 = 1 by omega]; rfl
        have ey : y = (pairB h l).getD j 0 := by
          rw [pairB_getD h l j hlt, ex, ← hy, show 56 - 8 * (j % 8) = k by have := hrr.out; omega]
        rw [ey]
        exact mixr_set _ _ _ (by simp [hL]) (by simpa using hlt)
      clear hy hx hL
      go_wp2_with fail
      go_roundw
      case rel =>
        refine ⟨j + 1, by omega, by go_num, ?_, H1.out.other _ _ _ (by omega), H3.out.other _ _ _ (by omega), HB.out.setCell (by simp; omega) _⟩
        show Blk _ _ _ _
        rw [← HN.out]
        exact H0.out.put _ _
      case measure => simp [intOf]; omega
    · obtain rfl : j = 16 := by omega
      rw [mixr_full _ _ _ (by simp [hL]) (by simp)] at H0
      clear hL
      go_wp2_with (first
        | ((with_reducible refine wpList_load_blk rfl 22 (.tmp 3) rfl (w.heap.size + 1 + 1) ?hx 22 _ H0.out 16 5 Try.underlying22 16 sizeRow HL.out ?_); (case hx => with_unfolding_all rfl))
        | ((with_reducible refine wpList_store_blk rfl 22 (.tmp 2) (.tmp 21) rfl (w.heap.size + 1) (pairB h l) ?hx ?hy 22 (List.replicate 16 0) H1.out 16 sizeRow HL.out ?ho ?_); (case hx => with_unfolding_all rfl); (case hy => with_unfolding_all rfl); (case ho => rfl); intro w2 H2 HO2))
      refine ret_blk Try.results30 (w.heap.size + 1) 22 _ 16 5 rfl H2.out Try.underlying22 16 sizeRow HL.out rfl ⟨rfl, ?_⟩
      exact HB.out.trans (HO2.out.below HB.out.size (by omega))
end Go.Proofs.Ytkeleehkjllgeaa
