/-
  The contract of header.Get. (Its three ways are written out by a small program.)
-/
import Derived.Test.YtonoljcgcfjkmaaHdE
namespace Go.Proofs.Ytonoljcgcfjkmaa
open Go.RowKit
set_option linter.unusedVariables false

theorem expectP_le (s : List UInt8 × Nat) (k : Nat) : (expectP s k).1.length ≤ s.1.length := by
  unfold expectP failP
  split
  · simp
  · exact Nat.le_refl _
theorem failP_le (s : List UInt8 × Nat) (k : Nat) : (failP s k).1.length ≤ s.1.length := by simp [failP]
theorem bytesP_le (s : List UInt8 × Nat) (k : Nat) : (bytesP s k).2.1.length ≤ s.1.length := by
  have h := expectP_le s k
  unfold bytesP
  split
  · simp only [List.length_drop]; omega
  · exact h
theorem wholeP_le (s : List UInt8 × Nat) (k : Nat) : (wholeP s k).2.1.length ≤ s.1.length := bytesP_le s k
theorem varintP_le (s : List UInt8 × Nat) : (varintP s).2.1.length ≤ s.1.length := by
  unfold varintP
  split
  · simp only [List.length_drop]; omega
  · exact failP_le _ _
theorem nameP_le (s : List UInt8 × Nat) (lo hi : Nat) : (nameP s lo hi).2.1.length ≤ s.1.length := by
  have h := wholeP_le s 1
  unfold nameP
  refine Nat.le_trans (bytesP_le _ _) ?_
  split
  · exact Nat.le_trans (failP_le _ _) h
  · exact h
theorem tokenP_le (s : List UInt8 × Nat) : (tokenP s).2.1.length ≤ s.1.length := by
  have h := varintP_le s
  unfold tokenP
  split
  · exact Nat.le_trans (failP_le _ _) h
  · exact Nat.le_trans (bytesP_le _ _) h
theorem toldP_le (s : List UInt8 × Nat) (k : Nat) : (toldP s k).2.1.length ≤ s.1.length := by
  have h := varintP_le s
  unfold toldP
  split
  · exact Nat.le_trans (failP_le _ _) h
  · exact h
theorem firstP_le (s : List UInt8 × Nat) : (firstP s).2.1.length ≤ s.1.length := by
  have h := wholeP_le s 1
  unfold firstP
  simp only
  split
  · exact Nat.le_trans (failP_le _ _) h
  · exact h
theorem toldP_lt (s : List UInt8 × Nat) (k : Nat) : (toldP s k).1 < 4611686018427387904 := by
  have h := varintP_lt s
  unfold toldP
  split
  · simp
  · simp only; omega
theorem nlB_le (b : Nat) : nlB b ≤ 4 := by unfold nlB; omega
set_option maxHeartbeats 4000000 in
set_option maxRecDepth 4000 in
theorem get_short_any (l : List UInt8) (b : Nat) (s1 : List UInt8 × Nat) (hf : firstP (l, 0) = (b, s1)) (A : Option Addr) (n c : Nat) (w : World) (hs : Sl w w.heap.size A n l) (hnc : n ≤ c) (hcm : c ≤ maxLen) (hL : longB b = false) :
    Calls Try.prog 12 #[.slice A n c] w (Gets w (shortP n b s1)) := by
  have HF := Lib.hid (fun u hp => first_any (l, 0) w.heap.size (w.heap.size + 2) u hp)
  have hle1 := firstP_le (l, 0)
  rw [hf] at HF hle1
  simp only at HF hle1
  have hnl := nlB_le b
  have hln := hs.1
  have HS := Lib.hid hs
  have HC : Hid (n ≤ c ∧ c ≤ maxLen) := ⟨hnc, hcm⟩
  have hn63 : n ≤ 9223372036854775807 := by unfold maxLen at hcm; omega
  have HONE := Lib.hid (hdrC_one b)
  have HL0 : Hid (hdr0.length = (hdrC b).length) := rfl
  have HSZ : Hid ((Try.prog.info? 26).map (·.size) = some (hdrC b).length) := hdr_size
  clear hf hs hnc hcm
  unfold shortP
  generalize hd : bytesP s1 8 = d at *
  obtain ⟨dl, s2⟩ := d
  have HD8 := Lib.hid (fun u hp => bytes_any s1 8 8 rfl (by omega) (by omega) w.heap.size (w.heap.size + 2) u hp)
  have hle2 := bytesP_le s1 8
  rw [hd] at hle2 HD8
  clear hd
  simp only at hle2 ⊢
  generalize hm : wholeP s2 (nlB b) = m at *
  obtain ⟨num, s3⟩ := m
  have HM := Lib.hid (fun u hp => whole_any s2 (nlB b : Int) (nlB b) rfl (by omega) w.heap.size (w.heap.size + 2) u hp)
  have hle3 := wholeP_le s2 (nlB b)
  rw [hm] at hle3 HM
  clear hm
  simp only at HM hle3 ⊢
  obtain ⟨⟨le, q⟩, hq⟩ : ∃ v, expectP s3 s3.1.length = v := ⟨_, rfl⟩
  have HQ := Lib.hid hq
  generalize hrr : endP _ _ _ _ = rr
  have HRR := Lib.hid hrr
  clear hq hrr
  go_enter Try.func12, Try.ntmps12
  go_wp2_with fail
  refine wp_scope_ahead 0 rfl ?_
  go_wp2_with fail
  (with_reducible refine (of_at A n c _).mono ?_)
  rintro e0 w0 ⟨rfl, rfl⟩
  go_wp2_with fail
  (with_reducible refine (HF.out _ ?hp).mono ?_)
  case hp => exact ⟨_, A, n, c, heap_allocs w [_, _, _] 2 _ rfl, HS.out.below ((((Below.refl _ w).alloc (Nat.le_refl _) _).alloc (by simp) _).alloc (by simp; omega) _), HC.out.1, HC.out.2, by omega⟩
  rintro e1 w1 ⟨rfl, hp1, ho1⟩
  have Z1 : Hid (Rw w1 w.heap.size 26 hdr0) := (show Rw _ _ _ _ from heap_allocs w [_, _, _] 0 _ rfl).only ho1 (by omega)
  have B1 : Hid (Below w.heap.size w w1) := ((((Below.refl _ w).alloc (Nat.le_refl _) _).alloc (by simp) _).alloc (by simp; omega) _).trans (ho1.below (by simp; omega) (by omega))
  have LT : Hid (w.heap.size + 2 < w1.heap.size) := show _ < _ by have := ho1.size; simp at this; omega
  have P1 := Lib.hid hp1
  clear hp1 ho1
  obtain ⟨hb, ehb⟩ : ∃ x, x = w1.heap.size := ⟨_, rfl⟩
  go_wp2_with ((with_reducible refine wpList_store_rw rfl 26 (.tmp 7) (.tmp 13) rfl w1.heap.size (hdrC b) ?hx ?hy 26 hdr0 ?hB HSZ.out HL0.out HONE.out ?_); (case hx => with_unfolding_all rfl); (case hy => with_unfolding_all rfl); (case hB => exact heap_alloc_new w1 _); intro w2 R2 O2; have K2 : Hid (GS w w1.heap.size w2 s1 (hdrC b)) := ⟨(P1.out.below ((Below.refl _ _).alloc (Nat.le_refl _) _)).only O2.out (by have := LT.out; omega) (by have := LT.out; omega), R2.out, (Z1.out.alloc _).only O2.out (by have := LT.out; omega), (B1.out.alloc B1.out.size _).trans (O2.out.below (by have := B1.out.size; simp; omega) B1.out.size), LT.out⟩; have c2 := K2.out.h.cell 0 (.bool (longB b)) rfl; rw [hL] at c2)
  clear ehb
  (with_reducible refine (HD8.out w2 K2.out.p).mono ?_)
  rintro e3 w3 ⟨Ad, nd, cd, rfl, ho, hle, hc, hp, hon⟩
  have K3 := Lib.hid (K2.out.call hp hon)
  have Dd3 : Hid (OwnS w1.heap.size w3 Ad nd cd dl) := ⟨ho.base K2.out.h.lt, hle, hc⟩
  clear ho hle hc hp hon
  go_wp2_with ((with_reducible refine wpList_put_rw rfl 23 (.tmp 19) (.tmp 18) rfl w1.heap.size 3 (.slice Ad nd cd) ?hx ?hy rfl rfl 26 (hdrC b) K3.out.h sz_slice ?hl ?_); (case hx => with_unfolding_all rfl); (case hy => with_unfolding_all rfl); (case hl => simp [hdrC]); intro w4 R4 O4; have K4 := Lib.hid (K3.out.put R4.out O4.out); have Dd4 := Lib.hid (Dd3.out.only O4.out (Nat.le_refl _)); have c4 : w4.cell? ⟨w1.heap.size, 9, none⟩ = some (.int .i64 (nlB b : Int)) := K4.out.h.cell 9 _ rfl)
  go_step3
  refine ⟨rfl, ?_⟩
  go_wp2_with fail
  (with_reducible refine (HM.out w4 K4.out.p).mono ?_)
  rintro e5 w5 ⟨rfl, hp, hon⟩
  have K5 := Lib.hid (K4.out.call hp hon)
  have Dd5 := Lib.hid (Dd4.out.only hon (by have := LT.out; omega))
  clear hp hon
  go_wp2_with ((with_reducible refine wpList_put_rw rfl 24 (.tmp 40) (.tmp 39) rfl w1.heap.size 8 (.int .u64 (num : Int)) ?hx ?hy rfl rfl 26 ((hdrC b).set 3 (.slice Ad nd cd)) K5.out.h sz_u64 ?hl ?_); (case hx => with_unfolding_all rfl); (case hy => with_unfolding_all rfl); (case hl => simp [hdrC]); intro w6 R6 O6; have K6 := Lib.hid (K5.out.put R6.out O6.out); have Dd6 := Lib.hid (Dd5.out.only O6.out (Nat.le_refl _)); have c6 := K6.out.h.cell 0 (.bool (longB b)) rfl; rw [hL] at c6)
  (with_reducible refine (plen_any s3 w.heap.size (w.heap.size + 2) w6 K6.out.p).mono ?_)
  rintro e w9 ⟨rfl, rfl⟩
  go_wp2_with fail
  (with_reducible refine (plen_any s3 w.heap.size (w.heap.size + 2) w6 K6.out.p).mono ?_)
  rintro e w9 ⟨rfl, rfl⟩
  go_wp2_with fail
  (with_reducible refine (expect_any s3 _ s3.1.length rfl (by omega) w.heap.size (w.heap.size + 2) w6 K6.out.p).mono ?_)
  rintro e7 w7 ⟨rfl, hp, hon⟩
  have K7 := Lib.hid (K6.out.call hp hon)
  have Dd7 := Lib.hid (Dd6.out.only hon (by have := LT.out; omega))
  clear hp hon
  obtain ⟨hv, ehv⟩ : ∃ x, (((hdrC b).set 3 (.slice Ad nd cd)).set 8 (.int .u64 (num : Int))) = x := ⟨_, rfl⟩
  have HV := Lib.hid ehv
  have HONE2 : Hid (∀ v ∈ hv, v.oneCell' = true) := by rw [← ehv]; simp [hdrC, Value.oneCell', Hid]
  have HLN : Hid (hv.length = 10) := show _ = _ by rw [← ehv]; simp [hdrC]
  have HSZ2 : Hid ((Try.prog.info? 26).map (·.size) = some hv.length) := show _ = _ by rw [HLN.out]; exact hdr_size
  have HL2 : Hid (hdr0.length = hv.length) := show _ = _ by rw [HLN.out]; rfl
  rw [ehv] at K7
  clear ehv
  rw [HQ.out] at K7
  go_wp2_with fail
  (with_reducible refine (code_any (le, q) w.heap.size (w.heap.size + 2) w7 K7.out.p).mono ?_)
  rintro e w9 ⟨rfl, rfl⟩
  by_cases hz : q = 0
  · subst hz
    go_wp2_with (first | ((with_reducible refine wpList_load_rw rfl 26 (.tmp 7) rfl w1.heap.size ?hx 26 hv K7.out.h _ Try.underlying26 rfl HSZ2.out ?_); (case hx => with_unfolding_all rfl)) | ((with_reducible refine wpList_store_rw rfl 26 (.tmp 2) (.tmp 61) rfl w.heap.size hv ?hx ?hy 26 hdr0 K7.out.z HSZ2.out HL2.out HONE2.out ?_); (case hx => with_unfolding_all rfl); (case hy => with_unfolding_all rfl); intro w99 R99 O99))
    first | rw [Exit.noGoto_ret] | skip
    refine ret_rw3 rfl w.heap.size 26 hv _ rfl R99.out Try.underlying26 rfl HSZ2.out rfl ?_
    have Ed := (Dd7.out).only O99.out (by have := LT.out; omega)
    rw [← HRR.out]
    unfold endP
    rw [HQ.out, if_pos rfl]
    refine ⟨hv, ?_, ⟨Ad, nd, cd, none, 0, 0, none, 0, 0, ?_, ⟨Ed.o.base (by have := LT.out; omega), Ed.le, Ed.m⟩, ⟨Own.nil _ _, Nat.le_refl _, by simp [maxLen]⟩, ⟨Own.nil _ _, Nat.le_refl _, by simp [maxLen]⟩, fun _ _ _ h => by cases h⟩, K7.out.b.trans (O99.out.below K7.out.b.size (Nat.le_refl _))⟩
    · exact congrArg (fun x => Ending.returned (.tuple #[.agg hv.toArray, .int .i64 x, .int .i64 _, .int .i64 _])) (show ((n : Int) - (s3.1.length : Int)) = ((n - s3.1.length : Nat) : Int) by omega)
    · rw [← HV.out]; rfl
  · have t1 : ((q : Int) != 0) = true := by simp; omega
    have Hz := Lib.hid hz
    clear hz
    go_wp2_with fail
    (with_reducible refine (code_any (le, q) w.heap.size (w.heap.size + 2) w7 K7.out.p).mono ?_)
    rintro e w9 ⟨rfl, rfl⟩
    have HSZ0 : Hid ((Try.prog.info? 26).map (·.size) = some hdr0.length) := hdr_size
    go_wp2_with ((with_reducible refine wpList_store_rw rfl 26 (.tmp 2) (.tmp 58) rfl w.heap.size hdr0 ?hx ?hy 26 hdr0 K7.out.z HSZ0.out rfl hdr0_one ?_); (case hx => with_unfolding_all rfl); (case hy => with_unfolding_all rfl); intro w98 R98 O98)
    first | rw [Exit.noGoto_ret] | skip
    refine ret_rw3 rfl w.heap.size 26 hdr0 _ rfl R98.out Try.underlying26 rfl hdr_size rfl ?_
    rw [← HRR.out]
    unfold endP
    rw [HQ.out, if_neg Hz.out]
    exact ⟨hdr0, rfl, hdr0_w _ _, K7.out.b.trans (O98.out.below K7.out.b.size (Nat.le_refl _))⟩
set_option maxHeartbeats 8000000 in
set_option maxRecDepth 4000 in
theorem get_long2_any (l : List UInt8) (b : Nat) (s1 : List UInt8 × Nat) (hf : firstP (l, 0) = (b, s1)) (A : Option Addr) (n c : Nat) (w : World) (hs : Sl w w.heap.size A n l) (hnc : n ≤ c) (hcm : c ≤ maxLen) (hL : longB b = true) (hK : kindB b = 2) :
    Calls Try.prog 12 #[.slice A n c] w (Gets w (tailP n b (wholeP s1 4).1 (nameP (wholeP s1 4).2 8 8).1 (nameP (nameP (wholeP s1 4).2 8 8).2 0 20).1 [] (nameP (nameP (wholeP s1 4).2 8 8).2 0 20).2)) := by
  have HF := Lib.hid (fun u hp => first_any (l, 0) w.heap.size (w.heap.size + 2) u hp)
  have hle1 := firstP_le (l, 0)
  rw [hf] at HF hle1
  simp only at HF hle1
  have hnl := nlB_le b
  have hln := hs.1
  have HS := Lib.hid hs
  have HC : Hid (n ≤ c ∧ c ≤ maxLen) := ⟨hnc, hcm⟩
  have hn63 : n ≤ 9223372036854775807 := by unfold maxLen at hcm; omega
  have HONE := Lib.hid (hdrC_one b)
  have HL0 : Hid (hdr0.length = (hdrC b).length) := rfl
  have HSZ : Hid ((Try.prog.info? 26).map (·.size) = some (hdrC b).length) := hdr_size
  clear hf hs hnc hcm
  generalize hv4 : wholeP s1 4 = vv at *
  obtain ⟨ver, s2⟩ := vv
  have HV4 := Lib.hid (fun u hp => whole_any s1 4 4 rfl (by omega) w.heap.size (w.heap.size + 2) u hp)
  have hle2 := wholeP_le s1 4
  have hver := wholeP_lt s1 4
  rw [hv4] at hle2 HV4 hver
  clear hv4
  simp only at HV4 hle2 hver ⊢
  generalize hd : nameP s2 8 8 = d at *
  obtain ⟨dl, s3⟩ := d
  have HD8 := Lib.hid (fun u hp => name_any s2 8 8 8 8 rfl rfl w.heap.size (w.heap.size + 2) u hp)
  have hle3 := nameP_le s2 8 8
  rw [hd] at hle3 HD8
  clear hd
  simp only at hle3 ⊢
  generalize hr : nameP s3 0 20 = d at *
  obtain ⟨sl, s4⟩ := d
  have HS20 := Lib.hid (fun u hp => name_any s3 0 20 0 20 rfl rfl w.heap.size (w.heap.size + 2) u hp)
  have hle4 := nameP_le s3 0 20
  rw [hr] at hle4 HS20
  clear hr
  simp only at hle4 ⊢
  unfold tailP
  generalize hk : toldP s4 (nlB b) = kk at *
  obtain ⟨bh, s6⟩ := kk
  have HTD := Lib.hid (fun u hp => told_any s4 (nlB b : Int) (nlB b) rfl (by omega) w.heap.size (w.heap.size + 2) u hp)
  have hle6 := toldP_le s4 (nlB b)
  have hbh := toldP_lt s4 (nlB b)
  rw [hk] at hle6 HTD hbh
  clear hk
  simp only at HTD hle6 hbh ⊢
  generalize hm : wholeP s6 (nlB b) = m at *
  obtain ⟨num, s7⟩ := m
  have HM := Lib.hid (fun u hp => whole_any s6 (nlB b : Int) (nlB b) rfl (by omega) w.heap.size (w.heap.size + 2) u hp)
  have hle7 := wholeP_le s6 (nlB b)
  rw [hm] at hle7 HM
  clear hm
  simp only at HM hle7 ⊢
  obtain ⟨⟨le, q⟩, hq⟩ : ∃ v, expectP s7 bh = v := ⟨_, rfl⟩
  have HQ := Lib.hid hq
  generalize hrr : endP _ _ _ _ = rr
  have HRR := Lib.hid hrr
  clear hq hrr
  go_enter Try.func12, Try.ntmps12
  go_wp2_with fail
  refine wp_scope_ahead 1 rfl ?_
  go_wp2_with fail
  (with_reducible refine (of_at A n c _).mono ?_)
  rintro e0 w0 ⟨rfl, rfl⟩
  go_wp2_with fail
  (with_reducible refine (HF.out _ ?hp).mono ?_)
  case hp => exact ⟨_, A, n, c, heap_allocs w [_, _, _] 2 _ rfl, HS.out.below ((((Below.refl _ w).alloc (Nat.le_refl _) _).alloc (by simp) _).alloc (by simp; omega) _), HC.out.1, HC.out.2, by omega⟩
  rintro e1 w1 ⟨rfl, hp1, ho1⟩
  have Z1 : Hid (Rw w1 w.heap.size 26 hdr0) := (show Rw _ _ _ _ from heap_allocs w [_, _, _] 0 _ rfl).only ho1 (by omega)
  have B1 : Hid (Below w.heap.size w w1) := ((((Below.refl _ w).alloc (Nat.le_refl _) _).alloc (by simp) _).alloc (by simp; omega) _).trans (ho1.below (by simp; omega) (by omega))
  have LT : Hid (w.heap.size + 2 < w1.heap.size) := show _ < _ by have := ho1.size; simp at this; omega
  have P1 := Lib.hid hp1
  clear hp1 ho1
  obtain ⟨hb, ehb⟩ : ∃ x, x = w1.heap.size := ⟨_, rfl⟩
  go_wp2_with ((with_reducible refine wpList_store_rw rfl 26 (.tmp 7) (.tmp 13) rfl w1.heap.size (hdrC b) ?hx ?hy 26 hdr0 ?hB HSZ.out HL0.out HONE.out ?_); (case hx => with_unfolding_all rfl); (case hy => with_unfolding_all rfl); (case hB => exact heap_alloc_new w1 _); intro w2 R2 O2; have K2 : Hid (GS w w1.heap.size w2 s1 (hdrC b)) := ⟨(P1.out.below ((Below.refl _ _).alloc (Nat.le_refl _) _)).only O2.out (by have := LT.out; omega) (by have := LT.out; omega), R2.out, (Z1.out.alloc _).only O2.out (by have := LT.out; omega), (B1.out.alloc B1.out.size _).trans (O2.out.below (by have := B1.out.size; simp; omega) B1.out.size), LT.out⟩; have c2 := K2.out.h.cell 0 (.bool (longB b)) rfl; rw [hL] at c2)
  clear ehb
  (with_reducible refine (HV4.out w2 K2.out.p).mono ?_)
  rintro e3 w3 ⟨rfl, hp, hon⟩
  have K3 := Lib.hid (K2.out.call hp hon)
  clear hp hon
  go_wp2_with ((with_reducible refine wpList_put_rw rfl 22 (.tmp 23) (.tmp 22) rfl w1.heap.size 2 (.int .u32 (ver : Int)) ?hx ?hy rfl rfl 26 (hdrC b) K3.out.h sz_u32 ?hl ?_); (case hx => with_unfolding_all rfl); (case hy => with_unfolding_all rfl); (case hl => simp [hdrC]); intro w4 R4 O4; have K4 := Lib.hid (K3.out.put R4.out O4.out))
  (with_reducible refine (HD8.out w4 K4.out.p).mono ?_)
  rintro e5 w5 ⟨Ad, nd, cd, rfl, ho, hle, hc, hp, hon⟩
  have K5 := Lib.hid (K4.out.call hp hon)
  have Dd5 : Hid (OwnS w1.heap.size w5 Ad nd cd dl) := ⟨ho.base K4.out.h.lt, hle, hc⟩
  clear ho hle hc hp hon
  go_wp2_with ((with_reducible refine wpList_put_rw rfl 23 (.tmp 25) (.tmp 24) rfl w1.heap.size 3 (.slice Ad nd cd) ?hx ?hy rfl rfl 26 ((hdrC b).set 2 (.int .u32 (ver : Int))) K5.out.h sz_slice ?hl ?_); (case hx => with_unfolding_all rfl); (case hy => with_unfolding_all rfl); (case hl => simp [hdrC]); intro w6 R6 O6; have K6 := Lib.hid (K5.out.put R6.out O6.out); have Dd6 := Lib.hid (Dd5.out.only O6.out (Nat.le_refl _)))
  (with_reducible refine (HS20.out w6 K6.out.p).mono ?_)
  rintro e7 w7 ⟨As, ns, cs, rfl, ho, hle, hc, hp, hon⟩
  have K7 := Lib.hid (K6.out.call hp hon)
  have Ds7 : Hid (OwnS w1.heap.size w7 As ns cs sl) := ⟨ho.base K6.out.h.lt, hle, hc⟩
  have Dd7 := Lib.hid (Dd6.out.only hon (by have := LT.out; omega))
  clear ho hle hc hp hon
  go_wp2_with ((with_reducible refine wpList_put_rw rfl 23 (.tmp 27) (.tmp 26) rfl w1.heap.size 4 (.slice As ns cs) ?hx ?hy rfl rfl 26 (((hdrC b).set 2 (.int .u32 (ver : Int))).set 3 (.slice Ad nd cd)) K7.out.h sz_slice ?hl ?_); (case hx => with_unfolding_all rfl); (case hy => with_unfolding_all rfl); (case hl => simp [hdrC]); intro w8 R8 O8; have K8 := Lib.hid (K7.out.put R8.out O8.out); have Dd8 := Lib.hid (Dd7.out.only O8.out (Nat.le_refl _)); have Ds8 := Lib.hid (Ds7.out.only O8.out (Nat.le_refl _)); have c8 := K8.out.h.cell 1 (.int .i64 (kindB b : Int)) rfl; rw [hK] at c8; have d8 : w8.cell? ⟨w1.heap.size, 9, none⟩ = some (.int .i64 (nlB b : Int)) := K8.out.h.cell 9 _ rfl)
  go_step3
  refine ⟨rfl, ?_⟩
  go_wp2_with fail
  (with_reducible refine (HTD.out w8 K8.out.p).mono ?_)
  rintro e9 w9 ⟨rfl, hp, hon⟩
  have K9 := Lib.hid (K8.out.call hp hon)
  have Dd9 := Lib.hid (Dd8.out.only hon (by have := LT.out; omega))
  have Ds9 := Lib.hid (Ds8.out.only hon (by have := LT.out; omega))
  clear hp hon
  have c9 : w9.cell? ⟨w1.heap.size, 9, none⟩ = some (.int .i64 (nlB b : Int)) := K9.out.h.cell 9 _ rfl
  go_wp2_with fail
  go_step3
  go_wp2_with fail
  (with_reducible refine (HM.out w9 K9.out.p).mono ?_)
  rintro e10 w10 ⟨rfl, hp, hon⟩
  have K10 := Lib.hid (K9.out.call hp hon)
  have Dd10 := Lib.hid (Dd9.out.only hon (by have := LT.out; omega))
  have Ds10 := Lib.hid (Ds9.out.only hon (by have := LT.out; omega))
  clear hp hon
  go_wp2_with ((with_reducible refine wpList_put_rw rfl 24 (.tmp 40) (.tmp 39) rfl w1.heap.size 8 (.int .u64 (num : Int)) ?hx ?hy rfl rfl 26 ((((hdrC b).set 2 (.int .u32 (ver : Int))).set 3 (.slice Ad nd cd)).set 4 (.slice As ns cs)) K10.out.h sz_u64 ?hl ?_); (case hx => with_unfolding_all rfl); (case hy => with_unfolding_all rfl); (case hl => simp [hdrC]); intro w11 R11 O11; have K11 := Lib.hid (K10.out.put R11.out O11.out); have Dd11 := Lib.hid (Dd10.out.only O11.out (Nat.le_refl _)); have Ds11 := Lib.hid (Ds10.out.only O11.out (Nat.le_refl _)); have c11 := K11.out.h.cell 0 (.bool (longB b)) rfl; rw [hL] at c11)
  (with_reducible refine (plen_any s7 w.heap.size (w.heap.size + 2) w11 K11.out.p).mono ?_)
  rintro e w9 ⟨rfl, rfl⟩
  go_wp2_with fail
  (with_reducible refine (expect_any s7 _ bh rfl (by omega) w.heap.size (w.heap.size + 2) w11 K11.out.p).mono ?_)
  rintro e12 w12 ⟨rfl, hp, hon⟩
  have K12 := Lib.hid (K11.out.call hp hon)
  have Dd12 := Lib.hid (Dd11.out.only hon (by have := LT.out; omega))
  have Ds12 := Lib.hid (Ds11.out.only hon (by have := LT.out; omega))
  clear hp hon
  obtain ⟨hv, ehv⟩ : ∃ x, (((((hdrC b).set 2 (.int .u32 (ver : Int))).set 3 (.slice Ad nd cd)).set 4 (.slice As ns cs)).set 8 (.int .u64 (num : Int))) = x := ⟨_, rfl⟩
  have HV := Lib.hid ehv
  have HONE2 : Hid (∀ v ∈ hv, v.oneCell' = true) := by rw [← ehv]; simp [hdrC, Value.oneCell', Hid]
  have HLN : Hid (hv.length = 10) := show _ = _ by rw [← ehv]; simp [hdrC]
  have HSZ2 : Hid ((Try.prog.info? 26).map (·.size) = some hv.length) := show _ = _ by rw [HLN.out]; exact hdr_size
  have HL2 : Hid (hdr0.length = hv.length) := show _ = _ by rw [HLN.out]; rfl
  rw [ehv] at K12
  clear ehv
  rw [HQ.out] at K12
  go_wp2_with fail
  (with_reducible refine (code_any (le, q) w.heap.size (w.heap.size + 2) w12 K12.out.p).mono ?_)
  rintro e w9 ⟨rfl, rfl⟩
  by_cases hz : q = 0
  · subst hz
    go_wp2_with (first | ((with_reducible refine wpList_load_rw rfl 26 (.tmp 7) rfl w1.heap.size ?hx 26 hv K12.out.h _ Try.underlying26 rfl HSZ2.out ?_); (case hx => with_unfolding_all rfl)) | ((with_reducible refine wpList_store_rw rfl 26 (.tmp 2) (.tmp 61) rfl w.heap.size hv ?hx ?hy 26 hdr0 K12.out.z HSZ2.out HL2.out HONE2.out ?_); (case hx => with_unfolding_all rfl); (case hy => with_unfolding_all rfl); intro w99 R99 O99))
    first | rw [Exit.noGoto_ret] | skip
    refine ret_rw3 rfl w.heap.size 26 hv _ rfl R99.out Try.underlying26 rfl HSZ2.out rfl ?_
    have Ed := (Dd12.out).only O99.out (by have := LT.out; omega)
    have Es := (Ds12.out).only O99.out (by have := LT.out; omega)
    rw [← HRR.out]
    unfold endP
    rw [HQ.out, if_pos rfl]
    refine ⟨hv, ?_, ⟨Ad, nd, cd, As, ns, cs, none, 0, 0, ?_, ⟨Ed.o.base (by have := LT.out; omega), Ed.le, Ed.m⟩, ⟨Es.o.base (by have := LT.out; omega), Es.le, Es.m⟩, ⟨Own.nil _ _, Nat.le_refl _, by simp [maxLen]⟩, fun _ _ _ h => by cases h⟩, K12.out.b.trans (O99.out.below K12.out.b.size (Nat.le_refl _))⟩
    · exact congrArg (fun x => Ending.returned (.tuple #[.agg hv.toArray, .int .i64 x, .int .i64 _, .int .i64 _])) (show ((n : Int) - (s7.1.length : Int)) = ((n - s7.1.length : Nat) : Int) by omega)
    · rw [← HV.out]; rfl
  · have t1 : ((q : Int) != 0) = true := by simp; omega
    have Hz := Lib.hid hz
    clear hz
    go_wp2_with fail
    (with_reducible refine (code_any (le, q) w.heap.size (w.heap.size + 2) w12 K12.out.p).mono ?_)
    rintro e w9 ⟨rfl, rfl⟩
    have HSZ0 : Hid ((Try.prog.info? 26).map (·.size) = some hdr0.length) := hdr_size
    go_wp2_with ((with_reducible refine wpList_store_rw rfl 26 (.tmp 2) (.tmp 58) rfl w.heap.size hdr0 ?hx ?hy 26 hdr0 K12.out.z HSZ0.out rfl hdr0_one ?_); (case hx => with_unfolding_all rfl); (case hy => with_unfolding_all rfl); intro w98 R98 O98)
    first | rw [Exit.noGoto_ret] | skip
    refine ret_rw3 rfl w.heap.size 26 hdr0 _ rfl R98.out Try.underlying26 rfl hdr_size rfl ?_
    rw [← HRR.out]
    unfold endP
    rw [HQ.out, if_neg Hz.out]
    exact ⟨hdr0, rfl, hdr0_w _ _, K12.out.b.trans (O98.out.below K12.out.b.size (Nat.le_refl _))⟩
set_option maxHeartbeats 8000000 in
set_option maxRecDepth 4000 in
theorem get_longT_any (l : List UInt8) (b : Nat) (s1 : List UInt8 × Nat) (hf : firstP (l, 0) = (b, s1)) (A : Option Addr) (n c : Nat) (w : World) (hs : Sl w w.heap.size A n l) (hnc : n ≤ c) (hcm : c ≤ maxLen) (hL : longB b = true) (hK : kindB b ≠ 2) :
    Calls Try.prog 12 #[.slice A n c] w (Gets w (tailP n b (wholeP s1 4).1 (nameP (wholeP s1 4).2 8 8).1 (nameP (nameP (wholeP s1 4).2 8 8).2 0 20).1 (tokenP (nameP (nameP (wholeP s1 4).2 8 8).2 0 20).2).1 (tokenP (nameP (nameP (wholeP s1 4).2 8 8).2 0 20).2).2)) := by
  have HF := Lib.hid (fun u hp => first_any (l, 0) w.heap.size (w.heap.size + 2) u hp)
  have hle1 := firstP_le (l, 0)
  rw [hf] at HF hle1
  simp only at HF hle1
  have hnl := nlB_le b
  have hln := hs.1
  have HS := Lib.hid hs
  have HC : Hid (n ≤ c ∧ c ≤ maxLen) := ⟨hnc, hcm⟩
  have hn63 : n ≤ 9223372036854775807 := by unfold maxLen at hcm; omega
  have HONE := Lib.hid (hdrC_one b)
  have HL0 : Hid (hdr0.length = (hdrC b).length) := rfl
  have HSZ : Hid ((Try.prog.info? 26).map (·.size) = some (hdrC b).length) := hdr_size
  clear hf hs hnc hcm
  have tK : ((kindB b : Int) == 2) = false := by simp; omega
  generalize hv4 : wholeP s1 4 = vv at *
  obtain ⟨ver, s2⟩ := vv
  have HV4 := Lib.hid (fun u hp => whole_any s1 4 4 rfl (by omega) w.heap.size (w.heap.size + 2) u hp)
  have hle2 := wholeP_le s1 4
  have hver := wholeP_lt s1 4
  rw [hv4] at hle2 HV4 hver
  clear hv4
  simp only at HV4 hle2 hver ⊢
  generalize hd : nameP s2 8 8 = d at *
  obtain ⟨dl, s3⟩ := d
  have HD8 := Lib.hid (fun u hp => name_any s2 8 8 8 8 rfl rfl w.heap.size (w.heap.size + 2) u hp)
  have hle3 := nameP_le s2 8 8
  rw [hd] at hle3 HD8
  clear hd
  simp only at hle3 ⊢
  generalize hr : nameP s3 0 20 = d at *
  obtain ⟨sl, s4⟩ := d
  have HS20 := Lib.hid (fun u hp => name_any s3 0 20 0 20 rfl rfl w.heap.size (w.heap.size + 2) u hp)
  have hle4 := nameP_le s3 0 20
  rw [hr] at hle4 HS20
  clear hr
  simp only at hle4 ⊢
  generalize ht : tokenP s4 = d at *
  obtain ⟨tl, s5⟩ := d
  have HT := Lib.hid (fun u hp => token_any s4 w.heap.size (w.heap.size + 2) u hp)
  have hle5 := tokenP_le s4
  rw [ht] at hle5 HT
  clear ht
  simp only at hle5 ⊢
  unfold tailP
  generalize hk : toldP s5 (nlB b) = kk at *
  obtain ⟨bh, s6⟩ := kk
  have HTD := Lib.hid (fun u hp => told_any s5 (nlB b : Int) (nlB b) rfl (by omega) w.heap.size (w.heap.size + 2) u hp)
  have hle6 := toldP_le s5 (nlB b)
  have hbh := toldP_lt s5 (nlB b)
  rw [hk] at hle6 HTD hbh
  clear hk
  simp only at HTD hle6 hbh ⊢
  generalize hm : wholeP s6 (nlB b) = m at *
  obtain ⟨num, s7⟩ := m
  have HM := Lib.hid (fun u hp => whole_any s6 (nlB b : Int) (nlB b) rfl (by omega) w.heap.size (w.heap.size + 2) u hp)
  have hle7 := wholeP_le s6 (nlB b)
  rw [hm] at hle7 HM
  clear hm
  simp only at HM hle7 ⊢
  obtain ⟨⟨le, q⟩, hq⟩ : ∃ v, expectP s7 bh = v := ⟨_, rfl⟩
  have HQ := Lib.hid hq
  generalize hrr : endP _ _ _ _ = rr
  have HRR := Lib.hid hrr
  clear hq hrr
  go_enter Try.func12, Try.ntmps12
  go_wp2_with fail
  refine wp_scope_straight ?_
  go_wp2_with fail
  (with_reducible refine (of_at A n c _).mono ?_)
  rintro e0 w0 ⟨rfl, rfl⟩
  go_wp2_with fail
  (with_reducible refine (HF.out _ ?hp).mono ?_)
  case hp => exact ⟨_, A, n, c, heap_allocs w [_, _, _] 2 _ rfl, HS.out.below ((((Below.refl _ w).alloc (Nat.le_refl _) _).alloc (by simp) _).alloc (by simp; omega) _), HC.out.1, HC.out.2, by omega⟩
  rintro e1 w1 ⟨rfl, hp1, ho1⟩
  have Z1 : Hid (Rw w1 w.heap.size 26 hdr0) := (show Rw _ _ _ _ from heap_allocs w [_, _, _] 0 _ rfl).only ho1 (by omega)
  have B1 : Hid (Below w.heap.size w w1) := ((((Below.refl _ w).alloc (Nat.le_refl _) _).alloc (by simp) _).alloc (by simp; omega) _).trans (ho1.below (by simp; omega) (by omega))
  have LT : Hid (w.heap.size + 2 < w1.heap.size) := show _ < _ by have := ho1.size; simp at this; omega
  have P1 := Lib.hid hp1
  clear hp1 ho1
  obtain ⟨hb, ehb⟩ : ∃ x, x = w1.heap.size := ⟨_, rfl⟩
  go_wp2_with ((with_reducible refine wpList_store_rw rfl 26 (.tmp 7) (.tmp 13) rfl w1.heap.size (hdrC b) ?hx ?hy 26 hdr0 ?hB HSZ.out HL0.out HONE.out ?_); (case hx => with_unfolding_all rfl); (case hy => with_unfolding_all rfl); (case hB => exact heap_alloc_new w1 _); intro w2 R2 O2; have K2 : Hid (GS w w1.heap.size w2 s1 (hdrC b)) := ⟨(P1.out.below ((Below.refl _ _).alloc (Nat.le_refl _) _)).only O2.out (by have := LT.out; omega) (by have := LT.out; omega), R2.out, (Z1.out.alloc _).only O2.out (by have := LT.out; omega), (B1.out.alloc B1.out.size _).trans (O2.out.below (by have := B1.out.size; simp; omega) B1.out.size), LT.out⟩; have c2 := K2.out.h.cell 0 (.bool (longB b)) rfl; rw [hL] at c2)
  clear ehb
  (with_reducible refine (HV4.out w2 K2.out.p).mono ?_)
  rintro e3 w3 ⟨rfl, hp, hon⟩
  have K3 := Lib.hid (K2.out.call hp hon)
  clear hp hon
  go_wp2_with ((with_reducible refine wpList_put_rw rfl 22 (.tmp 23) (.tmp 22) rfl w1.heap.size 2 (.int .u32 (ver : Int)) ?hx ?hy rfl rfl 26 (hdrC b) K3.out.h sz_u32 ?hl ?_); (case hx => with_unfolding_all rfl); (case hy => with_unfolding_all rfl); (case hl => simp [hdrC]); intro w4 R4 O4; have K4 := Lib.hid (K3.out.put R4.out O4.out))
  (with_reducible refine (HD8.out w4 K4.out.p).mono ?_)
  rintro e5 w5 ⟨Ad, nd, cd, rfl, ho, hle, hc, hp, hon⟩
  have K5 := Lib.hid (K4.out.call hp hon)
  have Dd5 : Hid (OwnS w1.heap.size w5 Ad nd cd dl) := ⟨ho.base K4.out.h.lt, hle, hc⟩
  clear ho hle hc hp hon
  go_wp2_with ((with_reducible refine wpList_put_rw rfl 23 (.tmp 25) (.tmp 24) rfl w1.heap.size 3 (.slice Ad nd cd) ?hx ?hy rfl rfl 26 ((hdrC b).set 2 (.int .u32 (ver : Int))) K5.out.h sz_slice ?hl ?_); (case hx => with_unfolding_all rfl); (case hy => with_unfolding_all rfl); (case hl => simp [hdrC]); intro w6 R6 O6; have K6 := Lib.hid (K5.out.put R6.out O6.out); have Dd6 := Lib.hid (Dd5.out.only O6.out (Nat.le_refl _)))
  (with_reducible refine (HS20.out w6 K6.out.p).mono ?_)
  rintro e7 w7 ⟨As, ns, cs, rfl, ho, hle, hc, hp, hon⟩
  have K7 := Lib.hid (K6.out.call hp hon)
  have Ds7 : Hid (OwnS w1.heap.size w7 As ns cs sl) := ⟨ho.base K6.out.h.lt, hle, hc⟩
  have Dd7 := Lib.hid (Dd6.out.only hon (by have := LT.out; omega))
  clear ho hle hc hp hon
  go_wp2_with ((with_reducible refine wpList_put_rw rfl 23 (.tmp 27) (.tmp 26) rfl w1.heap.size 4 (.slice As ns cs) ?hx ?hy rfl rfl 26 (((hdrC b).set 2 (.int .u32 (ver : Int))).set 3 (.slice Ad nd cd)) K7.out.h sz_slice ?hl ?_); (case hx => with_unfolding_all rfl); (case hy => with_unfolding_all rfl); (case hl => simp [hdrC]); intro w8 R8 O8; have K8 := Lib.hid (K7.out.put R8.out O8.out); have Dd8 := Lib.hid (Dd7.out.only O8.out (Nat.le_refl _)); have Ds8 := Lib.hid (Ds7.out.only O8.out (Nat.le_refl _)); have c8 := K8.out.h.cell 1 (.int .i64 (kindB b : Int)) rfl; have d8 : w8.cell? ⟨w1.heap.size, 9, none⟩ = some (.int .i64 (nlB b : Int)) := K8.out.h.cell 9 _ rfl)
  (with_reducible refine (HT.out w8 K8.out.p).mono ?_)
  rintro e9 w9 ⟨At, nt, ct, rfl, ho, hle, hc, hp, hon⟩
  have K9 := Lib.hid (K8.out.call hp hon)
  have Dt9 : Hid (OwnS w1.heap.size w9 At nt ct tl) := ⟨ho.base K8.out.h.lt, hle, hc⟩
  have Dd9 := Lib.hid (Dd8.out.only hon (by have := LT.out; omega))
  have Ds9 := Lib.hid (Ds8.out.only hon (by have := LT.out; omega))
  have HAP : Hid (∀ a1 a3, Ad = some a1 → At = some a3 → a1.block ≠ a3.block) := fun a1 a3 h1 h3 => by have := (Dd8.out.o.blk a1 h1).2; have := (ho.blk a3 h3).1; omega
  clear ho hle hc hp hon
  go_wp2_with ((with_reducible refine wpList_put_rw rfl 23 (.tmp 32) (.tmp 31) rfl w1.heap.size 5 (.slice At nt ct) ?hx ?hy rfl rfl 26 ((((hdrC b).set 2 (.int .u32 (ver : Int))).set 3 (.slice Ad nd cd)).set 4 (.slice As ns cs)) K9.out.h sz_slice ?hl ?_); (case hx => with_unfolding_all rfl); (case hy => with_unfolding_all rfl); (case hl => simp [hdrC]); intro w10 R10 O10; have K10 := Lib.hid (K9.out.put R10.out O10.out); have Dd10 := Lib.hid (Dd9.out.only O10.out (Nat.le_refl _)); have Ds10 := Lib.hid (Ds9.out.only O10.out (Nat.le_refl _)); have Dt10 := Lib.hid (Dt9.out.only O10.out (Nat.le_refl _)); have c10 : w10.cell? ⟨w1.heap.size, 9, none⟩ = some (.int .i64 (nlB b : Int)) := K10.out.h.cell 9 _ rfl)
  go_step3
  go_wp2_with fail
  (with_reducible refine (HTD.out w10 K10.out.p).mono ?_)
  rintro e11 w11 ⟨rfl, hp, hon⟩
  have K11 := Lib.hid (K10.out.call hp hon)
  have Dd11 := Lib.hid (Dd10.out.only hon (by have := LT.out; omega))
  have Ds11 := Lib.hid (Ds10.out.only hon (by have := LT.out; omega))
  have Dt11 := Lib.hid (Dt10.out.only hon (by have := LT.out; omega))
  clear hp hon
  have c11 : w11.cell? ⟨w1.heap.size, 9, none⟩ = some (.int .i64 (nlB b : Int)) := K11.out.h.cell 9 _ rfl
  go_wp2_with fail
  go_step3
  go_wp2_with fail
  (with_reducible refine (HM.out w11 K11.out.p).mono ?_)
  rintro e12 w12 ⟨rfl, hp, hon⟩
  have K12 := Lib.hid (K11.out.call hp hon)
  have Dd12 := Lib.hid (Dd11.out.only hon (by have := LT.out; omega))
  have Ds12 := Lib.hid (Ds11.out.only hon (by have := LT.out; omega))
  have Dt12 := Lib.hid (Dt11.out.only hon (by have := LT.out; omega))
  clear hp hon
  go_wp2_with ((with_reducible refine wpList_put_rw rfl 24 (.tmp 40) (.tmp 39) rfl w1.heap.size 8 (.int .u64 (num : Int)) ?hx ?hy rfl rfl 26 (((((hdrC b).set 2 (.int .u32 (ver : Int))).set 3 (.slice Ad nd cd)).set 4 (.slice As ns cs)).set 5 (.slice At nt ct)) K12.out.h sz_u64 ?hl ?_); (case hx => with_unfolding_all rfl); (case hy => with_unfolding_all rfl); (case hl => simp [hdrC]); intro w13 R13 O13; have K13 := Lib.hid (K12.out.put R13.out O13.out); have Dd13 := Lib.hid (Dd12.out.only O13.out (Nat.le_refl _)); have Ds13 := Lib.hid (Ds12.out.only O13.out (Nat.le_refl _)); have Dt13 := Lib.hid (Dt12.out.only O13.out (Nat.le_refl _)); have c13 := K13.out.h.cell 0 (.bool (longB b)) rfl; rw [hL] at c13)
  (with_reducible refine (plen_any s7 w.heap.size (w.heap.size + 2) w13 K13.out.p).mono ?_)
  rintro e w9 ⟨rfl, rfl⟩
  go_wp2_with fail
  (with_reducible refine (expect_any s7 _ bh rfl (by omega) w.heap.size (w.heap.size + 2) w13 K13.out.p).mono ?_)
  rintro e14 w14 ⟨rfl, hp, hon⟩
  have K14 := Lib.hid (K13.out.call hp hon)
  have Dd14 := Lib.hid (Dd13.out.only hon (by have := LT.out; omega))
  have Ds14 := Lib.hid (Ds13.out.only hon (by have := LT.out; omega))
  have Dt14 := Lib.hid (Dt13.out.only hon (by have := LT.out; omega))
  clear hp hon
  obtain ⟨hv, ehv⟩ : ∃ x, ((((((hdrC b).set 2 (.int .u32 (ver : Int))).set 3 (.slice Ad nd cd)).set 4 (.slice As ns cs)).set 5 (.slice At nt ct)).set 8 (.int .u64 (num : Int))) = x := ⟨_, rfl⟩
  have HV := Lib.hid ehv
  have HONE2 : Hid (∀ v ∈ hv, v.oneCell' = true) := by rw [← ehv]; simp [hdrC, Value.oneCell', Hid]
  have HLN : Hid (hv.length = 10) := show _ = _ by rw [← ehv]; simp [hdrC]
  have HSZ2 : Hid ((Try.prog.info? 26).map (·.size) = some hv.length) := show _ = _ by rw [HLN.out]; exact hdr_size
  have HL2 : Hid (hdr0.length = hv.length) := show _ = _ by rw [HLN.out]; rfl
  rw [ehv] at K14
  clear ehv
  rw [HQ.out] at K14
  go_wp2_with fail
  (with_reducible refine (code_any (le, q) w.heap.size (w.heap.size + 2) w14 K14.out.p).mono ?_)
  rintro e w9 ⟨rfl, rfl⟩
  by_cases hz : q = 0
  · subst hz
    go_wp2_with (first | ((with_reducible refine wpList_load_rw rfl 26 (.tmp 7) rfl w1.heap.size ?hx 26 hv K14.out.h _ Try.underlying26 rfl HSZ2.out ?_); (case hx => with_unfolding_all rfl)) | ((with_reducible refine wpList_store_rw rfl 26 (.tmp 2) (.tmp 61) rfl w.heap.size hv ?hx ?hy 26 hdr0 K14.out.z HSZ2.out HL2.out HONE2.out ?_); (case hx => with_unfolding_all rfl); (case hy => with_unfolding_all rfl); intro w99 R99 O99))
    first | rw [Exit.noGoto_ret] | skip
    refine ret_rw3 rfl w.heap.size 26 hv _ rfl R99.out Try.underlying26 rfl HSZ2.out rfl ?_
    have Ed := (Dd14.out).only O99.out (by have := LT.out; omega)
    have Es := (Ds14.out).only O99.out (by have := LT.out; omega)
    have Et := (Dt14.out).only O99.out (by have := LT.out; omega)
    rw [← HRR.out]
    unfold endP
    rw [HQ.out, if_pos rfl]
    refine ⟨hv, ?_, ⟨Ad, nd, cd, As, ns, cs, At, nt, ct, ?_, ⟨Ed.o.base (by have := LT.out; omega), Ed.le, Ed.m⟩, ⟨Es.o.base (by have := LT.out; omega), Es.le, Es.m⟩, ⟨Et.o.base (by have := LT.out; omega), Et.le, Et.m⟩, HAP.out⟩, K14.out.b.trans (O99.out.below K14.out.b.size (Nat.le_refl _))⟩
    · exact congrArg (fun x => Ending.returned (.tuple #[.agg hv.toArray, .int .i64 x, .int .i64 _, .int .i64 _])) (show ((n : Int) - (s7.1.length : Int)) = ((n - s7.1.length : Nat) : Int) by omega)
    · rw [← HV.out]; rfl
  · have t1 : ((q : Int) != 0) = true := by simp; omega
    have Hz := Lib.hid hz
    clear hz
    go_wp2_with fail
    (with_reducible refine (code_any (le, q) w.heap.size (w.heap.size + 2) w14 K14.out.p).mono ?_)
    rintro e w9 ⟨rfl, rfl⟩
    have HSZ0 : Hid ((Try.prog.info? 26).map (·.size) = some hdr0.length) := hdr_size
    go_wp2_with ((with_reducible refine wpList_store_rw rfl 26 (.tmp 2) (.tmp 58) rfl w.heap.size hdr0 ?hx ?hy 26 hdr0 K14.out.z HSZ0.out rfl hdr0_one ?_); (case hx => with_unfolding_all rfl); (case hy => with_unfolding_all rfl); intro w98 R98 O98)
    first | rw [Exit.noGoto_ret] | skip
    refine ret_rw3 rfl w.heap.size 26 hdr0 _ rfl R98.out Try.underlying26 rfl hdr_size rfl ?_
    rw [← HRR.out]
    unfold endP
    rw [HQ.out, if_neg Hz.out]
    exact ⟨hdr0, rfl, hdr0_w _ _, K14.out.b.trans (O98.out.below K14.out.b.size (Nat.le_refl _))⟩
/-- header.Get, whatever the bytes -/
theorem hget_any (l : List UInt8) (A : Option Addr) (n c B : Nat) (w : World) (hs : Sl w B A n l) (hB : B ≤ w.heap.size) (hnc : n ≤ c) (hcm : c ≤ maxLen) :
    Calls Try.prog 12 #[.slice A n c] w (Gets w (getP l)) := by
  have hs := hs.more hB
  have hl := hs.1
  obtain ⟨⟨b, s1⟩, hf⟩ : ∃ v, firstP (l, 0) = v := ⟨_, rfl⟩
  unfold getP
  rw [hf, hl]
  simp only
  cases hL : longB b with
  | false => rw [if_neg (by simp)]; exact get_short_any l b s1 hf A n c w hs hnc hcm hL
  | true =>
    rw [if_pos rfl]
    unfold longP
    simp only
    by_cases hK : kindB b = 2
    · rw [if_pos hK]; exact get_long2_any l b s1 hf A n c w hs hnc hcm hL hK
    · rw [if_neg hK]; exact get_longT_any l b s1 hf A n c w hs hnc hcm hL hK
end Go.Proofs.Ytonoljcgcfjkmaa
