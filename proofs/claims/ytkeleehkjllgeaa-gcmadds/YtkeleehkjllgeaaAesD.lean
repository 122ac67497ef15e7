/-
  Contracts of nextKey and Keys.
-/
import Derived.Test.YtkeleehkjllgeaaAesC
namespace Go.Proofs.Ytkeleehkjllgeaa
open Go.RowKit
set_option linter.unusedVariables false

theorem nk_put (p : List UInt8) (hp : p.length = 16) (r : UInt8) (i : Nat) (hi : i < 16) (x : UInt8) (hx : x = p.getD i 0 ^^^ (if i < 4 then (ktV p r).getD i 0 else (nkUp p (ktV p r) 16).getD (i - 4) 0)) :
    (mixr (nkUp p (ktV p r) 16) p i).set i x = mixr (nkUp p (ktV p r) 16) p (i + 1) := by
  rw [hx, ← nk_get p (ktV p r) 16 i hi]
  exact mixr_set _ _ _ (by rw [nkUp_length, hp]) (by omega)

attribute [local go_sem] u8_xor'
set_option maxHeartbeats 2000000 in
theorem nextKey_any (p : List UInt8) (r : UInt8) (hp : p.length = 16) (w : World) :
    Calls Try.prog 48 #[.agg (bvs p).toArray, .int .u8 (bn r)] w fun e w' => e = .returned (.agg (bvs (nkUp p (ktV p r) 16)).toArray) ∧ Below w.heap.size w w' := by
  have Hp := Lib.hid hp
  obtain ⟨N, hN⟩ : ∃ N, nkUp p (ktV p r) 16 = N := ⟨_, rfl⟩
  have hNl : N.length = 16 := by rw [← hN, nkUp_length]
  have HNl := Lib.hid hNl
  have HP : Hid (∀ i, i < 16 → ∀ x, x = p.getD i 0 ^^^ (if i < 4 then (ktV p r).getD i 0 else N.getD (i - 4) 0) → (mixr N p i).set i x = mixr N p (i + 1)) := fun i hi x hx => by
    rw [← hN] at hx ⊢
    exact nk_put p hp r i hi x hx
  obtain ⟨q0, e0⟩ : ∃ x, Hid (p.getD 0 0 = x) := ⟨_, rfl⟩
  obtain ⟨q1, e1⟩ : ∃ x, Hid (p.getD 1 0 = x) := ⟨_, rfl⟩
  obtain ⟨q2, e2⟩ : ∃ x, Hid (p.getD 2 0 = x) := ⟨_, rfl⟩
  obtain ⟨q3, e3⟩ : ∃ x, Hid (p.getD 3 0 = x) := ⟨_, rfl⟩
  obtain ⟨q12, e12⟩ : ∃ x, Hid (p.getD 12 0 = x) := ⟨_, rfl⟩
  obtain ⟨q13, e13⟩ : ∃ x, Hid (p.getD 13 0 = x) := ⟨_, rfl⟩
  obtain ⟨q14, e14⟩ : ∃ x, Hid (p.getD 14 0 = x) := ⟨_, rfl⟩
  obtain ⟨q15, e15⟩ : ∃ x, Hid (p.getD 15 0 = x) := ⟨_, rfl⟩
  have P0 : Hid ((mixr N p 0).set 0 (q0 ^^^ (boxV q13 ^^^ r)) = mixr N p 1) := HP.out 0 (by omega) _ (by rw [e0.out, ← e13.out]; rfl)
  have P1 : Hid ((mixr N p 1).set 1 (q1 ^^^ boxV q14) = mixr N p 2) := HP.out 1 (by omega) _ (by rw [e1.out, ← e14.out]; rfl)
  have P2 : Hid ((mixr N p 2).set 2 (q2 ^^^ boxV q15) = mixr N p 3) := HP.out 2 (by omega) _ (by rw [e2.out, ← e15.out]; rfl)
  have P3 : Hid ((mixr N p 3).set 3 (q3 ^^^ boxV q12) = mixr N p 4) := HP.out 3 (by omega) _ (by rw [e3.out, ← e12.out]; rfl)
  have HM : Hid (∀ i, (mixr N p i).length = 16) := fun i => by rw [mixr_length _ _ _ (by omega)]; exact hp
  have HO : Hid (∀ i, i < 16 → (mixr N p i).getD i 0 = p.getD i 0) := fun i hi => mixr_old _ _ _ _ (by omega) (by omega) (Nat.le_refl _)
  have HQ : Hid (∀ i, 4 ≤ i → i < 16 → (mixr N p i).getD (i - 4) 0 = N.getD (i - 4) 0) := fun i hi hi' => mixr_new _ _ _ _ (by omega) (by omega) (by omega)
  rw [hN]
  clear hp hN hNl
  go_enter Try.func48, Try.ntmps48
  go_wp2_with (first
    | ((with_reducible refine wpList_load_blk rfl 22 (.tmp 2) rfl w.heap.size ?hx 22 p ?hg 16 5 Try.underlying22 16 sizeRow Hp.out ?_); (case hx => with_unfolding_all rfl); (case hg => exact heap_allocs w [_, _] 0 _ rfl))
    | ((with_reducible refine wpList_store_blk rfl 22 (.tmp 5) (.tmp 7) rfl (w.heap.size + 1 + 1) p ?hx ?hy 22 (List.replicate 16 0) ?hg 16 sizeRow Hp.out ?ho ?_); (case hx => with_unfolding_all rfl); (case hy => with_unfolding_all rfl); (case hg => exact heap_allocs w [_, _, _] 2 _ (by rw [← zeros_bvs]; rfl)); (case ho => rfl); intro w1 H1 HO1))
  have K1 : Hid (Blk w1 w.heap.size 22 p) := Blk.only (heap_allocs w [_, _, _] 0 _ rfl) HO1.out (by omega)
  have R1 : Hid (Blk w1 (w.heap.size + 1) 22 (List.replicate 16 0)) := Blk.only (heap_allocs w [_, _, _] 1 _ (by rw [← zeros_bvs]; rfl)) HO1.out (by omega)
  have B1 : Hid (Below w.heap.size w w1) := ((((Below.refl _ _).alloc (Nat.le_refl _) _).alloc (by simp) _).alloc (by simp; omega) _).trans (HO1.out.below (by simp; omega) (by omega))
  have M1 : Hid (Blk w1 (w.heap.size + 1 + 1) 22 (mixr N p 0)) := by rw [mixr_zero]; exact H1
  clear H1 HO1
  have ca : w1.cell? ⟨w.heap.size + 1 + 1, 0, none⟩ = some (.int .u8 (bn q0)) := by rw [M1.out.cell 0 (by rw [HM.out]; omega), HO.out 0 (by omega), e0.out]
  have cb : w1.cell? ⟨w.heap.size, 13, none⟩ = some (.int .u8 (bn q13)) := by rw [K1.out.cell 13 (by rw [Hp.out]; omega), e13.out]
  refine wp_tail 9 (by kernel_rfl) (by kernel_rfl) ?_
  simp only [List.take_succ_cons, List.take_zero, List.drop_succ_cons, List.drop_zero]
  repeat still_step
  still_call (still_of (box_any _ _))
  repeat still_step
  refine wpStill_nil ?_
  go_wp2_with ((with_reducible refine wpList_put_blk rfl 5 (.tmp 16) (.tmp 15) rfl (w.heap.size + 1 + 1) 0 (q0 ^^^ (boxV q13 ^^^ r)) ?hx ?hy 22 (mixr N p 0) M1.out.drew size1 ?hl ?_); (case hx => with_unfolding_all rfl); (case hy => with_unfolding_all rfl); (case hl => rw [HM.out]; omega); rw [P0.out]; intro w2 M2 O2)
  have K2 : Hid (Blk w2 w.heap.size 22 p) := K1.out.drew.only O2.out (by omega)
  have R2 : Hid (Blk w2 (w.heap.size + 1) 22 (List.replicate 16 0)) := R1.out.drew.only O2.out (by omega)
  have B2 : Hid (Below w.heap.size w w2) := B1.out.drew.trans (O2.out.below B1.out.size (by omega))
  clear K1 R1 B1 M1 O2 ca cb
  have ca : w2.cell? ⟨w.heap.size + 1 + 1, 1, none⟩ = some (.int .u8 (bn q1)) := by rw [M2.out.cell 1 (by rw [HM.out]; omega), HO.out 1 (by omega), e1.out]
  have cb : w2.cell? ⟨w.heap.size, 14, none⟩ = some (.int .u8 (bn q14)) := by rw [K2.out.cell 14 (by rw [Hp.out]; omega), e14.out]
  refine wp_tail 7 (by kernel_rfl) (by kernel_rfl) ?_
  simp only [List.take_succ_cons, List.take_zero, List.drop_succ_cons, List.drop_zero]
  repeat still_step
  still_call (still_of (box_any _ _))
  repeat still_step
  refine wpStill_nil ?_
  go_wp2_with ((with_reducible refine wpList_put_blk rfl 5 (.tmp 23) (.tmp 22) rfl (w.heap.size + 1 + 1) 1 (q1 ^^^ boxV q14) ?hx ?hy 22 (mixr N p 1) M2.out.drew size1 ?hl ?_); (case hx => with_unfolding_all rfl); (case hy => with_unfolding_all rfl); (case hl => rw [HM.out]; omega); rw [P1.out]; intro w3 M3 O3)
  have K3 : Hid (Blk w3 w.heap.size 22 p) := K2.out.drew.only O3.out (by omega)
  have R3 : Hid (Blk w3 (w.heap.size + 1) 22 (List.replicate 16 0)) := R2.out.drew.only O3.out (by omega)
  have B3 : Hid (Below w.heap.size w w3) := B2.out.drew.trans (O3.out.below B2.out.size (by omega))
  clear K2 R2 B2 M2 O3 ca cb
  have ca : w3.cell? ⟨w.heap.size + 1 + 1, 2, none⟩ = some (.int .u8 (bn q2)) := by rw [M3.out.cell 2 (by rw [HM.out]; omega), HO.out 2 (by omega), e2.out]
  have cb : w3.cell? ⟨w.heap.size, 15, none⟩ = some (.int .u8 (bn q15)) := by rw [K3.out.cell 15 (by rw [Hp.out]; omega), e15.out]
  refine wp_tail 7 (by kernel_rfl) (by kernel_rfl) ?_
  simp only [List.take_succ_cons, List.take_zero, List.drop_succ_cons, List.drop_zero]
  repeat still_step
  still_call (still_of (box_any _ _))
  repeat still_step
  refine wpStill_nil ?_
  go_wp2_with ((with_reducible refine wpList_put_blk rfl 5 (.tmp 30) (.tmp 29) rfl (w.heap.size + 1 + 1) 2 (q2 ^^^ boxV q15) ?hx ?hy 22 (mixr N p 2) M3.out.drew size1 ?hl ?_); (case hx => with_unfolding_all rfl); (case hy => with_unfolding_all rfl); (case hl => rw [HM.out]; omega); rw [P2.out]; intro w4 M4 O4)
  have K4 : Hid (Blk w4 w.heap.size 22 p) := K3.out.drew.only O4.out (by omega)
  have R4 : Hid (Blk w4 (w.heap.size + 1) 22 (List.replicate 16 0)) := R3.out.drew.only O4.out (by omega)
  have B4 : Hid (Below w.heap.size w w4) := B3.out.drew.trans (O4.out.below B3.out.size (by omega))
  clear K3 R3 B3 M3 O4 ca cb
  have ca : w4.cell? ⟨w.heap.size + 1 + 1, 3, none⟩ = some (.int .u8 (bn q3)) := by rw [M4.out.cell 3 (by rw [HM.out]; omega), HO.out 3 (by omega), e3.out]
  have cb : w4.cell? ⟨w.heap.size, 12, none⟩ = some (.int .u8 (bn q12)) := by rw [K4.out.cell 12 (by rw [Hp.out]; omega), e12.out]
  refine wp_tail 7 (by kernel_rfl) (by kernel_rfl) ?_
  simp only [List.take_succ_cons, List.take_zero, List.drop_succ_cons, List.drop_zero]
  repeat still_step
  still_call (still_of (box_any _ _))
  repeat still_step
  refine wpStill_nil ?_
  go_wp2_with ((with_reducible refine wpList_put_blk rfl 5 (.tmp 37) (.tmp 36) rfl (w.heap.size + 1 + 1) 3 (q3 ^^^ boxV q12) ?hx ?hy 22 (mixr N p 3) M4.out.drew size1 ?hl ?_); (case hx => with_unfolding_all rfl); (case hy => with_unfolding_all rfl); (case hl => rw [HM.out]; omega); rw [P3.out]; intro w5 M5 O5)
  have K5 : Hid (Blk w5 w.heap.size 22 p) := K4.out.drew.only O5.out (by omega)
  have R5 : Hid (Blk w5 (w.heap.size + 1) 22 (List.replicate 16 0)) := R4.out.drew.only O5.out (by omega)
  have B5 : Hid (Below w.heap.size w w5) := B4.out.drew.trans (O5.out.below B4.out.size (by omega))
  clear K4 R4 B4 M4 O5 ca cb
  go_loopw [6] (fun v wr => ∃ i : Nat, 4 ≤ i ∧ i ≤ 16 ∧ v = .int .i64 i ∧ Hid (Blk wr (w.heap.size + 1 + 1) 22 (mixr N p i)) ∧ Hid (Blk wr (w.heap.size + 1) 22 (List.replicate 16 0)) ∧ Hid (Below w.heap.size w wr)) (fun v _ => 16 - (intOf v).toNat)
  case atStart => exact ⟨4, by omega, by omega, rfl, M5, R5, B5⟩
  case round =>
    clear M5 R5 B5
    obtain ⟨i, hi4, hi, rfl, H0, H1, HB⟩ := hrel
    by_cases hlt : i < 16
    · obtain ⟨m, em, hm⟩ : ∃ m : Nat, (i : Int) - 4 = (m : Int) ∧ Hid (i - 4 = m) := ⟨i - 4, by omega, rfl⟩
      have lm : (m : Int) < 16 := by omega
      have li : (i : Int) < 16 := by omega
      have vm : IntKind.i64.wrap (m : Int) = (m : Int) := IntWalk.i64_in _ (by omega)
      obtain ⟨x, hx⟩ : ∃ x, p.getD i 0 = x := ⟨_, rfl⟩
      obtain ⟨y, hy⟩ : ∃ x, N.getD m 0 = x := ⟨_, rfl⟩
      have ca : wr.cell? ⟨w.heap.size + 1 + 1, i, none⟩ = some (.int .u8 (bn x)) := by rw [H0.out.cell i (by rw [HM.out]; omega), HO.out i (by omega), hx]
      have cb : wr.cell? ⟨w.heap.size + 1 + 1, m, none⟩ = some (.int .u8 (bn y)) := by
        rw [H0.out.cell m (by rw [HM.out]; omega), ← hm.out, HQ.out i hi4 hlt, hm.out, hy]
      have cf := H0.out.frozen i
      have PN : Hid ((mixr N p i).set i (x ^^^ y) = mixr N p (i + 1)) := HP.out i hlt _ (by rw [if_neg (by omega), hm.out, hx, hy])
      clear hx hy
      go_wp2_with fail
      refine wp_tail 9 (by kernel_rfl) (by kernel_rfl) ?_
      simp only [List.take_succ_cons, List.take_zero, List.drop_succ_cons, List.drop_zero]
      repeat still_step
      refine wpStill_nil ?_
      go_wp2
      go_roundw
      case rel =>
        refine ⟨i + 1, by omega, by omega, by go_num, ?_, (H1.out.other _ _ _ (by omega)).drew, (HB.out.setCell (by simp; omega) _).drew⟩
        show Blk _ _ _ _
        rw [← PN.out]
        exact (H0.out.put _ _).drew
      case measure => simp [intOf]; omega
    · obtain rfl : i = 16 := by omega
      rw [mixr_full _ _ _ (by rw [HNl.out, Hp.out]) (by rw [Hp.out]; omega)] at H0
      go_wp2_with (first
        | ((with_reducible refine wpList_load_blk rfl 22 (.tmp 5) rfl (w.heap.size + 1 + 1) ?hx 22 N H0.out 16 5 Try.underlying22 16 sizeRow HNl.out ?_); (case hx => with_unfolding_all rfl))
        | ((with_reducible refine wpList_store_blk rfl 22 (.tmp 4) (.tmp 51) rfl (w.heap.size + 1) N ?hx ?hy 22 (List.replicate 16 0) H1.out 16 sizeRow HNl.out ?ho ?_); (case hx => with_unfolding_all rfl); (case hy => with_unfolding_all rfl); (case ho => rfl); intro w2 H2 HO2))
      refine ret_blk Try.results48 (w.heap.size + 1) 22 N 16 5 rfl H2.out Try.underlying22 16 sizeRow HNl.out rfl ⟨rfl, ?_⟩
      exact HB.out.trans (HO2.out.below HB.out.size (by omega))
end Go.Proofs.Ytkeleehkjllgeaa
