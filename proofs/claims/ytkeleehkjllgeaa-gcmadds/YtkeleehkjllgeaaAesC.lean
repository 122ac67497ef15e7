/-
  Contracts of boxed and mixed.
-/
import Derived.Test.YtkeleehkjllgeaaAesB
namespace Go.Proofs.Ytkeleehkjllgeaa
open Go.RowKit
set_option linter.unusedVariables false

theorem sub_get (l : List UInt8) (i j : Nat) (hi : i < 4) (hj : j < 4) : (subV l).getD (i * 4 + j) 0 = boxV (l.getD ((i + j) % 4 * 4 + j) 0) := by
  have h : i * 4 + j < 16 := by omega
  unfold subV
  rw [List.getD_eq_getElem?_getD, List.getElem?_map, List.getElem?_range h]
  show boxV (l.getD ((i * 4 + j + 4 * ((i * 4 + j) % 4)) % 16) 0) = _
  congr 2
  omega
theorem col_get (l : List UInt8) (i k : Nat) (hk : k < 4) : ((l.drop (i * 4)).take 4).getD k 0 = l.getD (i * 4 + k) 0 := by
  rw [List.getD_eq_getElem?_getD, List.getD_eq_getElem?_getD, List.getElem?_take, if_pos hk, List.getElem?_drop]
theorem mix_at (l : List UInt8) (i j : Nat) (hi : i < 4) (hj : j < 4) : (mixV16 l).getD (i * 4 + j) 0 = (colV (l.getD (i * 4) 0) (l.getD (i * 4 + 1) 0) (l.getD (i * 4 + 2) 0) (l.getD (i * 4 + 3) 0)).getD j 0 := by
  have h1 : i = 0 ∨ i = 1 ∨ i = 2 ∨ i = 3 := by omega
  have h2 : j = 0 ∨ j = 1 ∨ j = 2 ∨ j = 3 := by omega
  rcases h1 with rfl | rfl | rfl | rfl <;> rcases h2 with rfl | rfl | rfl | rfl <;> rfl
theorem mix_get (l : List UInt8) (i j : Nat) (hi : i < 4) (hj : j < 4) : (mixV16 l).getD (i * 4 + j) 0 =
    l.getD (i * 4 + j) 0 ^^^ (l.getD (i * 4) 0 ^^^ l.getD (i * 4 + 1) 0 ^^^ l.getD (i * 4 + 2) 0 ^^^ l.getD (i * 4 + 3) 0) ^^^ dblV (l.getD (i * 4 + j) 0 ^^^ l.getD (i * 4 + (j + 1) % 4) 0) := by
  rw [mix_at l i j hi hj, ← hand_col]
  have h2 : j = 0 ∨ j = 1 ∨ j = 2 ∨ j = 3 := by omega
  rcases h2 with rfl | rfl | rfl | rfl <;> rfl
theorem sizeCol : (Try.prog.info? 69).map (·.size) = some 4 := by kernel_rfl

attribute [local go_sem] u8_xor'
set_option maxHeartbeats 1000000 in
theorem boxed_any (l : List UInt8) (hl : l.length = 16) (w : World) :
    Calls Try.prog 43 #[.agg (bvs l).toArray] w fun e w' => e = .returned (.agg (bvs (subV l)).toArray) ∧ Below w.heap.size w w' := by
  have Hl := Lib.hid hl
  have HC := Lib.hid (subV_length l)
  clear hl
  go_enter Try.func43, Try.ntmps43
  go_wp2_with fail
  go_loopw [6] (fun i wr => ∃ j : Nat, j ≤ 4 ∧ i = .int .i64 j ∧ Hid (Blk wr (w.heap.size + 1 + 1) 71 (mixr (subV l) (List.replicate 16 0) (j * 4))) ∧ Hid (Blk wr (w.heap.size + 1) 71 (List.replicate 16 0)) ∧ Hid (Blk wr w.heap.size 71 l) ∧ Hid (Below w.heap.size w wr)) (fun i _ => 4 - (intOf i).toNat)
  case atStart =>
    refine ⟨0, by omega, rfl, ?_, ?_, ?_, (((Below.refl _ _).alloc (Nat.le_refl _) _).alloc (by simp) _).alloc (by simp; omega) _⟩
    · exact heap_allocs w [_, _, _] 2 _ (by rw [mixr_zero, ← zeros_bvs]; rfl)
    · exact heap_allocs w [_, _, _] 1 _ (by rw [← zeros_bvs]; rfl)
    · exact heap_allocs w [_, _, _] 0 _ rfl
  case round =>
    obtain ⟨i, hi, rfl, H0, H1, HI, HB⟩ := hrel
    by_cases hlt : i < 4
    · have li : (i : Int) < 4 := by omega
      go_wp2_with fail
      go_loopw [9] (fun v wr => ∃ j : Nat, j ≤ 4 ∧ v = .int .i64 j ∧ Hid (Blk wr (w.heap.size + 1 + 1) 71 (mixr (subV l) (List.replicate 16 0) (i * 4 + j))) ∧ Hid (Blk wr (w.heap.size + 1) 71 (List.replicate 16 0)) ∧ Hid (Blk wr w.heap.size 71 l) ∧ Hid (Below w.heap.size w wr)) (fun v _ => 4 - (intOf v).toNat)
      case atStart => exact ⟨0, by omega, rfl, H0, H1, HI, HB⟩
      case round =>
        clear H0 H1 HI HB
        obtain ⟨j, hj, rfl, H0, H1, HI, HB⟩ := hrel
        have hl := Hl.out
        by_cases hjt : j < 4
        · have lj : (j : Int) < 4 := by omega
          obtain ⟨s, es, hs⟩ : ∃ s : Nat, ((i : Int) + (j : Int)).tmod 4 = (s : Int) ∧ Hid ((i + j) % 4 = s) := ⟨(i + j) % 4, by rw [show (i : Int) + (j : Int) = ((i + j : Nat) : Int) by omega]; rfl, rfl⟩
          have vij : IntKind.i64.wrap ((i : Int) + (j : Int)) = (i : Int) + (j : Int) := IntWalk.i64_in _ (by omega)
          have ls : (s : Int) < 4 := by have := hs.out; omega
          obtain ⟨x, hx⟩ : ∃ y, l.getD (s * 4 + j) 0 = y := ⟨_, rfl⟩
          have ci : wr.cell? ⟨w.heap.size, s * 4 + j, none⟩ = some (.int .u8 (bn x)) := by
            rw [HI.out.cell (s * 4 + j) (by omega), hx]
          have cd := H0.out.cell (i * 4 + j) (by rw [mixr_length _ _ _ (by simp [subV_length])]; simp; omega)
          have cf := H0.out.frozen (i * 4 + j)
          have HN : Hid ((mixr (subV l) (List.replicate 16 0) (i * 4 + j)).set (i * 4 + j) (boxV x) = mixr (subV l) (List.replicate 16 0) (i * 4 + (j + 1))) := by
            show _ = _
            rw [← hx, ← hs.out, ← sub_get l i j hlt hjt]
            exact mixr_set _ _ _ (by simp [subV_length]) (by simp; omega)
          clear hx hl
          go_wp2_with fail
          refine wp_tail 13 (by kernel_rfl) (by kernel_rfl) ?_
          simp only [List.take_succ_cons, List.take_zero, List.drop_succ_cons, List.drop_zero]
          repeat still_step
          still_call (still_of (box_any _ _))
          repeat still_step
          refine wpStill_nil ?_
          go_wp2
          go_roundw
          case rel =>
            refine ⟨j + 1, by omega, by go_num, ?_, (H1.out.other _ _ _ (by omega)).drew, (HI.out.other _ _ _ (by omega)).drew, (HB.out.setCell (by simp; omega) _).drew⟩
            show Blk _ _ _ _
            rw [← HN.out]
            exact (H0.out.put _ _).drew
          case measure => simp [intOf]; omega
        · obtain rfl : j = 4 := by omega
          clear hl
          go_wp2_with fail
          go_roundw
          case rel =>
            refine ⟨i + 1, by omega, by go_num, ?_, H1, HI, HB⟩
            rw [show (i + 1) * 4 = i * 4 + 4 by omega]
            exact H0
          case measure => simp [intOf]; omega
    · obtain rfl : i = 4 := by omega
      rw [mixr_full _ _ _ (by simp [subV_length]) (by simp)] at H0
      go_wp2_with (first
        | ((with_reducible refine wpList_load_blk rfl 71 (.tmp 3) rfl (w.heap.size + 1 + 1) ?hx 71 _ H0.out 4 69 Try.underlying71 16 sizeGrid HC.out ?_); (case hx => with_unfolding_all rfl))
        | ((with_reducible refine wpList_store_blk rfl 71 (.tmp 2) (.tmp 27) rfl (w.heap.size + 1) (subV l) ?hx ?hy 71 (List.replicate 16 0) H1.out 16 sizeGrid HC.out ?ho ?_); (case hx => with_unfolding_all rfl); (case hy => with_unfolding_all rfl); (case ho => rfl); intro w2 H2 HO2))
      refine ret_blk Try.results43 (w.heap.size + 1) 71 _ 4 69 rfl H2.out Try.underlying71 16 sizeGrid HC.out rfl ⟨rfl, ?_⟩
      exact HB.out.trans (HO2.out.below HB.out.size (by omega))

set_option maxHeartbeats 2000000 in
theorem mixed_any (l : List UInt8) (hl : l.length = 16) (w : World) :
    Calls Try.prog 44 #[.agg (bvs l).toArray] w fun e w' => e = .returned (.agg (bvs (mixV16 l)).toArray) ∧ Below w.heap.size w w' := by
  have Hl := Lib.hid hl
  have HC := Lib.hid (mixV16_length l)
  clear hl
  go_enter Try.func44, Try.ntmps44
  go_wp2_with ((with_reducible refine wpList_load_blk rfl 71 (.tmp 1) rfl w.heap.size ?hx 71 l ?hg 4 69 Try.underlying71 16 sizeGrid Hl.out ?_); (case hx => with_unfolding_all rfl); (case hg => exact heap_allocs w [_, _] 0 _ rfl))
  go_loopw [9] (fun i wr => ∃ j : Nat, j ≤ 4 ∧ i = .int .i64 j ∧ Hid (Blk wr w.heap.size 71 (mixr (mixV16 l) l (j * 4))) ∧ Hid (Blk wr (w.heap.size + 1) 71 (List.replicate 16 0)) ∧ Hid (Below w.heap.size w wr)) (fun i _ => 4 - (intOf i).toNat)
  case atStart =>
    refine ⟨0, by omega, rfl, ?_, ?_, ((Below.refl _ _).alloc (Nat.le_refl _) _).alloc (by simp) _⟩
    · exact heap_allocs w [_, _] 0 _ (by rw [mixr_zero]; rfl)
    · exact heap_allocs w [_, _] 1 _ (by rw [← zeros_bvs]; rfl)
  case round =>
    obtain ⟨i, hi, rfl, H0, H1, HB⟩ := hrel
    have hl := Hl.out
    by_cases hlt : i < 4
    · have li : (i : Int) < 4 := by omega
      obtain ⟨c, hc⟩ : ∃ c, (l.drop (i * 4)).take 4 = c := ⟨_, rfl⟩
      have hcl : c.length = 4 := by rw [← hc]; simp; omega
      have hidx : ∀ u : World, (Instr.index 71 (.agg (bvs l).toArray) (.int .i64 (i : Int))).run Try.prog u = .ok (.agg (bvs c).toArray) u := fun u => by
        rw [← hc]
        exact run_index_row u 71 69 5 4 4 Try.underlying71 sizeCol Try.underlying69 l .i64 _ i rfl hlt
      have HG : Hid (∀ k, k < 4 → c.getD k 0 = l.getD (i * 4 + k) 0) := fun k hk => by rw [← hc]; exact col_get l i k hk
      have HCl := Lib.hid hcl
      clear hc hcl hl
      obtain ⟨x0, E0⟩ : ∃ x, Hid (c.getD 0 0 = x) := ⟨_, rfl⟩
      obtain ⟨x1, E1⟩ : ∃ x, Hid (c.getD 1 0 = x) := ⟨_, rfl⟩
      obtain ⟨x2, E2⟩ : ∃ x, Hid (c.getD 2 0 = x) := ⟨_, rfl⟩
      obtain ⟨x3, E3⟩ : ∃ x, Hid (c.getD 3 0 = x) := ⟨_, rfl⟩
      go_wp2_with (first
        | ((with_reducible refine wpList_store_blk rfl 69 (.tmp 4) (.tmp 12) rfl wr.heap.size c ?hx ?hy 69 (List.replicate 4 0) ?hg 4 sizeCol HCl.out ?ho ?_); (case hx => with_unfolding_all rfl); (case hy => with_unfolding_all rfl); (case hg => exact heap_alloc_new _ _); (case ho => rfl); intro w2 H2 HO2;
            have c0 : w2.cell? ⟨wr.heap.size, 0, none⟩ = some (.int .u8 (bn x0)) := (by rw [H2.out.cell 0 (by rw [HCl.out]; omega), E0.out]);
            have c1 : w2.cell? ⟨wr.heap.size, 1, none⟩ = some (.int .u8 (bn x1)) := (by rw [H2.out.cell 1 (by rw [HCl.out]; omega), E1.out]);
            have c2 : w2.cell? ⟨wr.heap.size, 2, none⟩ = some (.int .u8 (bn x2)) := (by rw [H2.out.cell 2 (by rw [HCl.out]; omega), E2.out]);
            have c3 : w2.cell? ⟨wr.heap.size, 3, none⟩ = some (.int .u8 (bn x3)) := (by rw [H2.out.cell 3 (by rw [HCl.out]; omega), E3.out]))
        | ((with_reducible refine wpList_load_blk rfl 69 (.tmp 4) rfl wr.heap.size ?hx 69 c H2.out 4 5 Try.underlying69 4 sizeCol HCl.out ?_); (case hx => with_unfolding_all rfl)))
      have hn1 : w.heap.size + 1 < wr.heap.size := H1.out.lt
      have HN1 := Lib.hid hn1
      have K0 : Hid (Blk w2 w.heap.size 71 (mixr (mixV16 l) l (i * 4))) := (H0.out.alloc _).only HO2.out (by omega)
      have K1 : Hid (Blk w2 (w.heap.size + 1) 71 (List.replicate 16 0)) := (H1.out.alloc _).only HO2.out (by omega)
      have KB : Hid (Below w.heap.size w w2) := (HB.out.alloc HB.out.size _).trans (HO2.out.below (by simp; omega) (by omega))
      clear H0 H1 HB HO2 c0 c1 c2 c3 hn1
      go_loopw [25] (fun v wt => ∃ j : Nat, j ≤ 4 ∧ v = .int .i64 j ∧ Hid (Blk wt w.heap.size 71 (mixr (mixV16 l) l (i * 4 + j))) ∧ Hid (Blk wt (w.heap.size + 1) 71 (List.replicate 16 0)) ∧ Hid (Blk wt wr.heap.size 69 c) ∧ Hid (Below w.heap.size w wt)) (fun v _ => 4 - (intOf v).toNat)
      case atStart => exact ⟨0, by omega, rfl, K0, K1, H2, KB⟩
      case round =>
        clear K0 K1 H2 KB
        obtain ⟨j, hj, rfl, H0, H1, H2, HB⟩ := hrel
        by_cases hjt : j < 4
        · have lj : (j : Int) < 4 := by omega
          have hl := Hl.out
          obtain ⟨s, es, hs⟩ : ∃ s : Nat, ((j : Int) + 1).tmod 4 = (s : Int) ∧ Hid ((j + 1) % 4 = s) := ⟨(j + 1) % 4, by rw [show (j : Int) + 1 = ((j + 1 : Nat) : Int) by omega]; rfl, rfl⟩
          have vj : IntKind.i64.wrap ((j : Int) + 1) = (j : Int) + 1 := IntWalk.i64_in _ (by omega)
          have ls : (s : Int) < 4 := by have := hs.out; omega
          obtain ⟨x, hx⟩ : ∃ y, c.getD j 0 = y := ⟨_, rfl⟩
          obtain ⟨y, hy⟩ : ∃ y, c.getD s 0 = y := ⟨_, rfl⟩
          have hidx2 : ∀ u : World, (Instr.index 69 (.agg (bvs c).toArray) (.int .i64 (j : Int))).run Try.prog u = .ok (.int .u8 (bn x)) u := fun u => by
            rw [← hx]
            exact run_index_byte u 69 5 4 Try.underlying69 size1 Try.underlying5 c .i64 _ j rfl hjt (by rw [HCl.out]; omega)
          have ci := H2.out.cell s (by rw [HCl.out]; omega)
          rw [hy] at ci
          have cd := H0.out.cell (i * 4 + j) (by rw [mixr_length _ _ _ (by rw [mixV16_length, hl])]; omega)
          have cf := H0.out.frozen (i * 4 + j)
          have HN : Hid ((mixr (mixV16 l) l (i * 4 + j)).set (i * 4 + j) (x ^^^ (x0 ^^^ x1 ^^^ x2 ^^^ x3) ^^^ dblV (x ^^^ y)) = mixr (mixV16 l) l (i * 4 + (j + 1))) := by
            have hG := HG.out
            have e0 := (hG 0 (by omega)).symm.trans E0.out
            have e1 := (hG 1 (by omega)).symm.trans E1.out
            have e2 := (hG 2 (by omega)).symm.trans E2.out
            have e3 := (hG 3 (by omega)).symm.trans E3.out
            rw [Nat.add_zero] at e0
            show _ = _
            have e := mix_get l i j hlt hjt
            rw [e0, e1, e2, e3, ← hG j hjt, hs.out, ← hG s (by omega), hx, hy] at e
            rw [← e]
            exact mixr_set _ _ _ (by rw [mixV16_length, hl]) (by omega)
          have hne := HN1.out
          clear hx hy hl
          go_wp2_with fail
          refine wp_tail 16 (by kernel_rfl) (by kernel_rfl) ?_
          simp only [List.take_succ_cons, List.take_zero, List.drop_succ_cons, List.drop_zero]
          repeat still_step
          still_call (still_of (dbl_any _ _))
          repeat still_step
          refine wpStill_nil ?_
          go_wp2
          go_roundw
          case rel =>
            refine ⟨j + 1, by omega, by go_num, ?_, (H1.out.other _ _ _ (by omega)).drew, (H2.out.other _ _ _ (by omega)).drew, (HB.out.setCell (by simp) _).drew⟩
            show Blk _ _ _ _
            rw [← HN.out]
            exact (H0.out.put _ _).drew
          case measure => simp [intOf]; omega
        · obtain rfl : j = 4 := by omega
          go_wp2_with fail
          go_roundw
          case rel =>
            refine ⟨i + 1, by omega, by go_num, ?_, H1, HB⟩
            rw [show (i + 1) * 4 = i * 4 + 4 by omega]
            exact H0
          case measure => simp [intOf]; omega
    · obtain rfl : i = 4 := by omega
      rw [mixr_full _ _ _ (by rw [mixV16_length, hl]) (by omega)] at H0
      clear hl
      go_wp2_with (first
        | ((with_reducible refine wpList_load_blk rfl 71 (.tmp 1) rfl w.heap.size ?hx 71 _ H0.out 4 69 Try.underlying71 16 sizeGrid HC.out ?_); (case hx => with_unfolding_all rfl))
        | ((with_reducible refine wpList_store_blk rfl 71 (.tmp 2) (.tmp 47) rfl (w.heap.size + 1) (mixV16 l) ?hx ?hy 71 (List.replicate 16 0) H1.out 16 sizeGrid HC.out ?ho ?_); (case hx => with_unfolding_all rfl); (case hy => with_unfolding_all rfl); (case ho => rfl); intro w2 H2 HO2))
      refine ret_blk Try.results44 (w.heap.size + 1) 71 _ 4 69 rfl H2.out Try.underlying71 16 sizeGrid HC.out rfl ⟨rfl, ?_⟩
      exact HB.out.trans (HO2.out.below HB.out.size (by omega))
end Go.Proofs.Ytkeleehkjllgeaa
