/-
  The first byte of a header: the contract of first. (Its nine ways are written out by a small program.)
-/
import Derived.Test.YtonoljcgcfjkmaaHdC
namespace Go.Proofs.Ytonoljcgcfjkmaa
open Go.RowKit
set_option linter.unusedVariables false

set_option maxHeartbeats 4000000 in
theorem first_any (s : List UInt8 × Nat) (B g : Nat) (w : World) (h : PtW w B g s) :
    Calls Try.prog 31 #[.pointer (some ⟨g, 0, none⟩)] w fun e w' => e = .returned (.agg (hdrC (firstP s).1).toArray) ∧ PtW w' B g (firstP s).2 ∧ Only g w w' := by
  have HW := Lib.hid (fun u hp => whole_any s 1 1 rfl (by omega) B g u hp)
  have H := Lib.hid (fun o => h.below ((Below.refl _ w).alloc (Nat.le_refl _) o))
  have HGW : Hid (g < w.heap.size) := h.lt
  have HBG : Hid (B ≤ g) := by obtain ⟨_, _, _, _, _, _, _, _, h3⟩ := h; exact h3
  have hx := wholeP_lt s 1
  rw [Nat.pow_one] at hx
  unfold firstP
  generalize wholeP s 1 = r at *
  obtain ⟨b, s1⟩ := r
  simp only at hx HW ⊢
  clear h
  obtain ⟨a128, a64, a32, a4, a3, a24, a12, a16⟩ := ands_at b hx
  obtain ⟨q, hq⟩ : ∃ q, b % 4 = q := ⟨_, rfl⟩
  have hq4 : q < 4 := by omega
  have e3 := and_u8 b 3 hx (by omega) 3 rfl q (by omega)
  have hnl : nlB b = q + 1 := by unfold nlB; omega
  have HONE := Lib.hid (hdrC_one b)
  have HLEN : Hid ((hdrC b).length = 10) := rfl
  have HL0 : Hid (hdr0.length = (hdrC b).length) := rfl
  have HSZ : Hid ((Try.prog.info? 26).map (·.size) = some (hdrC b).length) := show _ = _ by rw [HLEN.out]; exact hdr_size
  by_cases hL : 128 ≤ b
  · have e128 := and_u8 b 128 hx (by omega) 128 rfl 128 (by omega)
    obtain ⟨k, hk⟩ : ∃ k, b / 16 % 4 = k := ⟨_, rfl⟩
    have hk4 : k < 4 := by omega
    have e16 : bits .and .u8 ((b : Int) / 16) 3 = (k : Int) := by
      rw [show (b : Int) / 16 = ((b / 16 : Nat) : Int) by omega]
      exact and_u8 (b / 16) 3 (by omega) (by omega) 3 rfl k (by omega)
    have hC : hdrC b = [.bool true, .int .i64 (k : Int), .int .u32 0, .slice none 0 0, .slice none 0 0, .slice none 0 0, .bool false, .bool false, .int .u64 0, .int .i64 ((q : Int) + 1)] := by
      unfold hdrC
      rw [hnl, show longB b = true by unfold longB; simpa using hL, show kindB b = k by unfold kindB; rw [if_pos hL]; exact hk, show spinB b = false by unfold spinB; simp; omega, show phaseB b = false by unfold phaseB; simp; omega]
      simp
    have hways : (b / 64 % 2 = 0) ∨ (b / 64 % 2 = 1 ∧ b / 4 % 4 ≠ 0) ∨ (b / 64 % 2 = 1 ∧ b / 4 % 4 = 0 ∧ k = 0) ∨ (b / 64 % 2 = 1 ∧ b / 4 % 4 = 0 ∧ k = 1) ∨ (b / 64 % 2 = 1 ∧ b / 4 % 4 = 0 ∧ k = 2) ∨ (b / 64 % 2 = 1 ∧ b / 4 % 4 = 0 ∧ k = 3) := by omega
    rcases hways with h64 | ⟨h64, h12⟩ | ⟨h64, h12, rfl⟩ | ⟨h64, h12, rfl⟩ | ⟨h64, h12, rfl⟩ | ⟨h64, h12, rfl⟩
    · have e64 := and_u8 b 64 hx (by omega) 64 rfl 0 (by omega)
      have hbad : badB b = true := by unfold badB; simp [h64]
      rw [hbad]
      rw [if_pos rfl]
      have HC := Lib.hid hC
      clear a128 a64 a32 a4 a3 a24 a12 a16 hq hnl hC hbad hL hk h64
      generalize hdrC b = cs at HC HONE HLEN HSZ HL0 ⊢
      go_enter Try.func31, Try.ntmps31
      go_wp2_with fail
      (with_reducible refine (HW.out _ (H.out _)).mono ?_)
      rintro e1 w1 ⟨rfl, hp1, ho1⟩
      have HP1 := Lib.hid hp1
      have HO1 := Lib.hid ho1
      have R0 : Hid (Rw w1 w.heap.size 26 hdr0) := (show Rw _ _ _ _ from heap_alloc_new w _).only ho1 (by have := HGW.out; omega)
      have HS1 : Hid (w.heap.size + 1 ≤ w1.heap.size) := show _ ≤ _ by have := ho1.size; simpa using this
      clear hp1 ho1
      go_wp2_with (first | (go_at_call 49; (with_reducible refine (HK.out _).mono ?_); rintro e w' ⟨rfl, rfl⟩) | (go_at_call 50; (with_reducible refine (fail_any s1 5 5 rfl B g _ (HP1.out.below ((Below.refl _ w1).alloc (Nat.le_refl _) _))).mono ?_); rintro e2 w2 ⟨rfl, hp2, ho2⟩; have HP2 := Lib.hid hp2; have HO2 := Lib.hid ho2; have R1 : Hid (Rw w2 w1.heap.size 26 cs) := (show Rw _ _ _ cs by rw [HC.out]; exact heap_alloc_new w1 _).only ho2 (by have := HP1.out.lt; omega); have R2 := Lib.hid ((R0.out.alloc _).only ho2 (by have := HGW.out; omega)); clear hp2 ho2) | ((with_reducible refine wpList_load_rw rfl 26 (.tmp 4) rfl w1.heap.size ?hx 26 cs ?hB _ Try.underlying26 rfl HSZ.out ?_); (case hx => with_unfolding_all rfl); (case hB => exact R1.out)) | ((with_reducible refine wpList_store_rw rfl 26 (.tmp 2) (.tmp 53) rfl w.heap.size cs ?hx ?hy 26 hdr0 R2.out HSZ.out HL0.out HONE.out ?_); (case hx => with_unfolding_all rfl); (case hy => with_unfolding_all rfl); intro w3 R3 O3))
      refine ret_rw rfl w.heap.size 26 cs _ rfl R3.out Try.underlying26 rfl HSZ.out rfl ?_
      exact ⟨rfl, HP2.out.only O3.out (by have := HGW.out; omega) (by have := HGW.out; have := HBG.out; omega), (Only.trans (((Only.of_below ((Below.refl _ w).alloc (Nat.le_refl _) _)).trans HO1.out).alloc _) HO2.out).new O3.out (Nat.le_refl _)⟩
    · have e64 := and_u8 b 64 hx (by omega) 64 rfl 64 (by omega)
      obtain ⟨z, hz⟩ : ∃ z, b / 4 % 4 * 4 = z := ⟨_, rfl⟩
      have hz0 : ((z : Int) == 0) = false := by simp; omega
      have hz1 : ((z : Int) != 0) = true := by simp; omega
      have hz2 : ¬ z = 0 := by omega
      have e12 := and_u8 b 12 hx (by omega) 12 rfl z (by omega)
      have hbad : badB b = true := by unfold badB; rw [if_pos hL]; simp [h12]
      rw [hbad]
      rw [if_pos rfl]
      have HC := Lib.hid hC
      clear a128 a64 a32 a4 a3 a24 a12 a16 hq hnl hC hbad hL hk h64 h12 hz
      generalize hdrC b = cs at HC HONE HLEN HSZ HL0 ⊢
      go_enter Try.func31, Try.ntmps31
      go_wp2_with fail
      (with_reducible refine (HW.out _ (H.out _)).mono ?_)
      rintro e1 w1 ⟨rfl, hp1, ho1⟩
      have HP1 := Lib.hid hp1
      have HO1 := Lib.hid ho1
      have R0 : Hid (Rw w1 w.heap.size 26 hdr0) := (show Rw _ _ _ _ from heap_alloc_new w _).only ho1 (by have := HGW.out; omega)
      have HS1 : Hid (w.heap.size + 1 ≤ w1.heap.size) := show _ ≤ _ by have := ho1.size; simpa using this
      clear hp1 ho1
      go_wp2_with (first | (go_at_call 49; (with_reducible refine (HK.out _).mono ?_); rintro e w' ⟨rfl, rfl⟩) | (go_at_call 50; (with_reducible refine (fail_any s1 5 5 rfl B g _ (HP1.out.below ((Below.refl _ w1).alloc (Nat.le_refl _) _))).mono ?_); rintro e2 w2 ⟨rfl, hp2, ho2⟩; have HP2 := Lib.hid hp2; have HO2 := Lib.hid ho2; have R1 : Hid (Rw w2 w1.heap.size 26 cs) := (show Rw _ _ _ cs by rw [HC.out]; exact heap_alloc_new w1 _).only ho2 (by have := HP1.out.lt; omega); have R2 := Lib.hid ((R0.out.alloc _).only ho2 (by have := HGW.out; omega)); clear hp2 ho2) | ((with_reducible refine wpList_load_rw rfl 26 (.tmp 4) rfl w1.heap.size ?hx 26 cs ?hB _ Try.underlying26 rfl HSZ.out ?_); (case hx => with_unfolding_all rfl); (case hB => exact R1.out)) | ((with_reducible refine wpList_store_rw rfl 26 (.tmp 2) (.tmp 53) rfl w.heap.size cs ?hx ?hy 26 hdr0 R2.out HSZ.out HL0.out HONE.out ?_); (case hx => with_unfolding_all rfl); (case hy => with_unfolding_all rfl); intro w3 R3 O3))
      refine ret_rw rfl w.heap.size 26 cs _ rfl R3.out Try.underlying26 rfl HSZ.out rfl ?_
      exact ⟨rfl, HP2.out.only O3.out (by have := HGW.out; omega) (by have := HGW.out; have := HBG.out; omega), (Only.trans (((Only.of_below ((Below.refl _ w).alloc (Nat.le_refl _) _)).trans HO1.out).alloc _) HO2.out).new O3.out (Nat.le_refl _)⟩
    · have e64 := and_u8 b 64 hx (by omega) 64 rfl 64 (by omega)
      have e12 := and_u8 b 12 hx (by omega) 12 rfl 0 (by omega)
      have HK := Lib.hid (fun u => mayKind_is 0 true (by simp) u)
      have hbad : badB b = false := by unfold badB; rw [if_pos hL, show b / 16 % 2 = 0 by omega]; simp [h12, h64]
      rw [hbad]
      rw [if_neg (by simp)]
      have HC := Lib.hid hC
      clear a128 a64 a32 a4 a3 a24 a12 a16 hq hnl hC hbad hL hk h64 h12
      generalize hdrC b = cs at HC HONE HLEN HSZ HL0 ⊢
      go_enter Try.func31, Try.ntmps31
      go_wp2_with fail
      (with_reducible refine (HW.out _ (H.out _)).mono ?_)
      rintro e1 w1 ⟨rfl, hp1, ho1⟩
      have HP1 := Lib.hid hp1
      have HO1 := Lib.hid ho1
      have R0 : Hid (Rw w1 w.heap.size 26 hdr0) := (show Rw _ _ _ _ from heap_alloc_new w _).only ho1 (by have := HGW.out; omega)
      have HS1 : Hid (w.heap.size + 1 ≤ w1.heap.size) := show _ ≤ _ by have := ho1.size; simpa using this
      clear hp1 ho1
      go_wp2_with (first | (go_at_call 49; (with_reducible refine (HK.out _).mono ?_); rintro e w' ⟨rfl, rfl⟩) | ((with_reducible refine wpList_load_rw rfl 26 (.tmp 4) rfl w1.heap.size ?hx 26 cs ?hB _ Try.underlying26 rfl HSZ.out ?_); (case hx => with_unfolding_all rfl); (case hB => rw [HC.out]; exact heap_alloc_new w1 _)) | ((with_reducible refine wpList_store_rw rfl 26 (.tmp 2) (.tmp 53) rfl w.heap.size cs ?hx ?hy 26 hdr0 (R0.out.alloc _) HSZ.out HL0.out HONE.out ?_); (case hx => with_unfolding_all rfl); (case hy => with_unfolding_all rfl); intro w3 R3 O3))
      refine ret_rw rfl w.heap.size 26 cs _ rfl R3.out Try.underlying26 rfl HSZ.out rfl ?_
      exact ⟨rfl, (HP1.out.below ((Below.refl _ w1).alloc (Nat.le_refl _) _)).only O3.out (by have := HGW.out; omega) (by have := HGW.out; have := HBG.out; omega), (((Only.of_below ((Below.refl _ w).alloc (Nat.le_refl _) _)).trans HO1.out).alloc _).new O3.out (Nat.le_refl _)⟩
    · have e64 := and_u8 b 64 hx (by omega) 64 rfl 64 (by omega)
      have e12 := and_u8 b 12 hx (by omega) 12 rfl 0 (by omega)
      have HK := Lib.hid (fun u => mayKind_is 1 false (by simp) u)
      have hbad : badB b = true := by unfold badB; rw [if_pos hL, show b / 16 % 2 = 1 by omega]; simp [h12, h64]
      rw [hbad]
      rw [if_pos rfl]
      have HC := Lib.hid hC
      clear a128 a64 a32 a4 a3 a24 a12 a16 hq hnl hC hbad hL hk h64 h12
      generalize hdrC b = cs at HC HONE HLEN HSZ HL0 ⊢
      go_enter Try.func31, Try.ntmps31
      go_wp2_with fail
      (with_reducible refine (HW.out _ (H.out _)).mono ?_)
      rintro e1 w1 ⟨rfl, hp1, ho1⟩
      have HP1 := Lib.hid hp1
      have HO1 := Lib.hid ho1
      have R0 : Hid (Rw w1 w.heap.size 26 hdr0) := (show Rw _ _ _ _ from heap_alloc_new w _).only ho1 (by have := HGW.out; omega)
      have HS1 : Hid (w.heap.size + 1 ≤ w1.heap.size) := show _ ≤ _ by have := ho1.size; simpa using this
      clear hp1 ho1
      go_wp2_with (first | (go_at_call 49; (with_reducible refine (HK.out _).mono ?_); rintro e w' ⟨rfl, rfl⟩) | (go_at_call 50; (with_reducible refine (fail_any s1 5 5 rfl B g _ (HP1.out.below ((Below.refl _ w1).alloc (Nat.le_refl _) _))).mono ?_); rintro e2 w2 ⟨rfl, hp2, ho2⟩; have HP2 := Lib.hid hp2; have HO2 := Lib.hid ho2; have R1 : Hid (Rw w2 w1.heap.size 26 cs) := (show Rw _ _ _ cs by rw [HC.out]; exact heap_alloc_new w1 _).only ho2 (by have := HP1.out.lt; omega); have R2 := Lib.hid ((R0.out.alloc _).only ho2 (by have := HGW.out; omega)); clear hp2 ho2) | ((with_reducible refine wpList_load_rw rfl 26 (.tmp 4) rfl w1.heap.size ?hx 26 cs ?hB _ Try.underlying26 rfl HSZ.out ?_); (case hx => with_unfolding_all rfl); (case hB => exact R1.out)) | ((with_reducible refine wpList_store_rw rfl 26 (.tmp 2) (.tmp 53) rfl w.heap.size cs ?hx ?hy 26 hdr0 R2.out HSZ.out HL0.out HONE.out ?_); (case hx => with_unfolding_all rfl); (case hy => with_unfolding_all rfl); intro w3 R3 O3))
      refine ret_rw rfl w.heap.size 26 cs _ rfl R3.out Try.underlying26 rfl HSZ.out rfl ?_
      exact ⟨rfl, HP2.out.only O3.out (by have := HGW.out; omega) (by have := HGW.out; have := HBG.out; omega), (Only.trans (((Only.of_below ((Below.refl _ w).alloc (Nat.le_refl _) _)).trans HO1.out).alloc _) HO2.out).new O3.out (Nat.le_refl _)⟩
    · have e64 := and_u8 b 64 hx (by omega) 64 rfl 64 (by omega)
      have e12 := and_u8 b 12 hx (by omega) 12 rfl 0 (by omega)
      have HK := Lib.hid (fun u => mayKind_is 2 true (by simp) u)
      have hbad : badB b = false := by unfold badB; rw [if_pos hL, show b / 16 % 2 = 0 by omega]; simp [h12, h64]
      rw [hbad]
      rw [if_neg (by simp)]
      have HC := Lib.hid hC
      clear a128 a64 a32 a4 a3 a24 a12 a16 hq hnl hC hbad hL hk h64 h12
      generalize hdrC b = cs at HC HONE HLEN HSZ HL0 ⊢
      go_enter Try.func31, Try.ntmps31
      go_wp2_with fail
      (with_reducible refine (HW.out _ (H.out _)).mono ?_)
      rintro e1 w1 ⟨rfl, hp1, ho1⟩
      have HP1 := Lib.hid hp1
      have HO1 := Lib.hid ho1
      have R0 : Hid (Rw w1 w.heap.size 26 hdr0) := (show Rw _ _ _ _ from heap_alloc_new w _).only ho1 (by have := HGW.out; omega)
      have HS1 : Hid (w.heap.size + 1 ≤ w1.heap.size) := show _ ≤ _ by have := ho1.size; simpa using this
      clear hp1 ho1
      go_wp2_with (first | (go_at_call 49; (with_reducible refine (HK.out _).mono ?_); rintro e w' ⟨rfl, rfl⟩) | ((with_reducible refine wpList_load_rw rfl 26 (.tmp 4) rfl w1.heap.size ?hx 26 cs ?hB _ Try.underlying26 rfl HSZ.out ?_); (case hx => with_unfolding_all rfl); (case hB => rw [HC.out]; exact heap_alloc_new w1 _)) | ((with_reducible refine wpList_store_rw rfl 26 (.tmp 2) (.tmp 53) rfl w.heap.size cs ?hx ?hy 26 hdr0 (R0.out.alloc _) HSZ.out HL0.out HONE.out ?_); (case hx => with_unfolding_all rfl); (case hy => with_unfolding_all rfl); intro w3 R3 O3))
      refine ret_rw rfl w.heap.size 26 cs _ rfl R3.out Try.underlying26 rfl HSZ.out rfl ?_
      exact ⟨rfl, (HP1.out.below ((Below.refl _ w1).alloc (Nat.le_refl _) _)).only O3.out (by have := HGW.out; omega) (by have := HGW.out; have := HBG.out; omega), (((Only.of_below ((Below.refl _ w).alloc (Nat.le_refl _) _)).trans HO1.out).alloc _).new O3.out (Nat.le_refl _)⟩
    · have e64 := and_u8 b 64 hx (by omega) 64 rfl 64 (by omega)
      have e12 := and_u8 b 12 hx (by omega) 12 rfl 0 (by omega)
      have HK := Lib.hid (fun u => mayKind_is 3 false (by simp) u)
      have hbad : badB b = true := by unfold badB; rw [if_pos hL, show b / 16 % 2 = 1 by omega]; simp [h12, h64]
      rw [hbad]
      rw [if_pos rfl]
      have HC := Lib.hid hC
      clear a128 a64 a32 a4 a3 a24 a12 a16 hq hnl hC hbad hL hk h64 h12
      generalize hdrC b = cs at HC HONE HLEN HSZ HL0 ⊢
      go_enter Try.func31, Try.ntmps31
      go_wp2_with fail
      (with_reducible refine (HW.out _ (H.out _)).mono ?_)
      rintro e1 w1 ⟨rfl, hp1, ho1⟩
      have HP1 := Lib.hid hp1
      have HO1 := Lib.hid ho1
      have R0 : Hid (Rw w1 w.heap.size 26 hdr0) := (show Rw _ _ _ _ from heap_alloc_new w _).only ho1 (by have := HGW.out; omega)
      have HS1 : Hid (w.heap.size + 1 ≤ w1.heap.size) := show _ ≤ _ by have := ho1.size; simpa using this
      clear hp1 ho1
      go_wp2_with (first | (go_at_call 49; (with_reducible refine (HK.out _).mono ?_); rintro e w' ⟨rfl, rfl⟩) | (go_at_call 50; (with_reducible refine (fail_any s1 5 5 rfl B g _ (HP1.out.below ((Below.refl _ w1).alloc (Nat.le_refl _) _))).mono ?_); rintro e2 w2 ⟨rfl, hp2, ho2⟩; have HP2 := Lib.hid hp2; have HO2 := Lib.hid ho2; have R1 : Hid (Rw w2 w1.heap.size 26 cs) := (show Rw _ _ _ cs by rw [HC.out]; exact heap_alloc_new w1 _).only ho2 (by have := HP1.out.lt; omega); have R2 := Lib.hid ((R0.out.alloc _).only ho2 (by have := HGW.out; omega)); clear hp2 ho2) | ((with_reducible refine wpList_load_rw rfl 26 (.tmp 4) rfl w1.heap.size ?hx 26 cs ?hB _ Try.underlying26 rfl HSZ.out ?_); (case hx => with_unfolding_all rfl); (case hB => exact R1.out)) | ((with_reducible refine wpList_store_rw rfl 26 (.tmp 2) (.tmp 53) rfl w.heap.size cs ?hx ?hy 26 hdr0 R2.out HSZ.out HL0.out HONE.out ?_); (case hx => with_unfolding_all rfl); (case hy => with_unfolding_all rfl); intro w3 R3 O3))
      refine ret_rw rfl w.heap.size 26 cs _ rfl R3.out Try.underlying26 rfl HSZ.out rfl ?_
      exact ⟨rfl, HP2.out.only O3.out (by have := HGW.out; omega) (by have := HGW.out; have := HBG.out; omega), (Only.trans (((Only.of_below ((Below.refl _ w).alloc (Nat.le_refl _) _)).trans HO1.out).alloc _) HO2.out).new O3.out (Nat.le_refl _)⟩
  · have e128 := and_u8 b 128 hx (by omega) 128 rfl 0 (by omega)
    obtain ⟨sp, hsp⟩ : ∃ v, spinB b = v := ⟨_, rfl⟩
    obtain ⟨ph, hph⟩ : ∃ v, phaseB b = v := ⟨_, rfl⟩
    obtain ⟨x32, hx32⟩ : ∃ v, b / 32 % 2 * 32 = v := ⟨_, rfl⟩
    obtain ⟨x4, hx4⟩ : ∃ v, b / 4 % 2 * 4 = v := ⟨_, rfl⟩
    have e32 := and_u8 b 32 hx (by omega) 32 rfl x32 (by omega)
    have e4 := and_u8 b 4 hx (by omega) 4 rfl x4 (by omega)
    have t32 : ((x32 : Int) != 0) = sp := by
      rw [← hsp]; unfold spinB
      rcases (show b / 32 % 2 = 0 ∨ b / 32 % 2 = 1 by omega) with h | h <;> (have : x32 = 0 ∨ x32 = 32 := by omega) <;> simp [h, show b < 128 by omega] <;> omega
    have t4 : ((x4 : Int) != 0) = ph := by
      rw [← hph]; unfold phaseB
      rcases (show b / 4 % 2 = 0 ∨ b / 4 % 2 = 1 by omega) with h | h <;> (have : x4 = 0 ∨ x4 = 4 := by omega) <;> simp [h, show b < 128 by omega] <;> omega
    have hC : hdrC b = [.bool false, .int .i64 0, .int .u32 0, .slice none 0 0, .slice none 0 0, .slice none 0 0, .bool sp, .bool ph, .int .u64 0, .int .i64 ((q : Int) + 1)] := by
      unfold hdrC
      rw [hnl, show longB b = false by unfold longB; simp; omega, show kindB b = 0 by unfold kindB; rw [if_neg hL], hsp, hph]
      simp
    have HK := Lib.hid (fun u => mayKind_is 0 true (by simp) u)
    have hways : (b / 64 % 2 = 0) ∨ (b / 64 % 2 = 1 ∧ b / 8 % 4 ≠ 0) ∨ (b / 64 % 2 = 1 ∧ b / 8 % 4 = 0) := by omega
    rcases hways with h64 | ⟨h64, h24⟩ | ⟨h64, h24⟩
    · have e64 := and_u8 b 64 hx (by omega) 64 rfl 0 (by omega)
      have hbad : badB b = true := by unfold badB; simp [h64]
      rw [hbad]
      rw [if_pos rfl]
      have HC := Lib.hid hC
      clear a128 a64 a32 a4 a3 a24 a12 a16 hq hnl hC hbad hL hsp hph hx32 hx4 h64
      generalize hdrC b = cs at HC HONE HLEN HSZ HL0 ⊢
      go_enter Try.func31, Try.ntmps31
      go_wp2_with fail
      (with_reducible refine (HW.out _ (H.out _)).mono ?_)
      rintro e1 w1 ⟨rfl, hp1, ho1⟩
      have HP1 := Lib.hid hp1
      have HO1 := Lib.hid ho1
      have R0 : Hid (Rw w1 w.heap.size 26 hdr0) := (show Rw _ _ _ _ from heap_alloc_new w _).only ho1 (by have := HGW.out; omega)
      have HS1 : Hid (w.heap.size + 1 ≤ w1.heap.size) := show _ ≤ _ by have := ho1.size; simpa using this
      clear hp1 ho1
      go_wp2_with (first | (go_at_call 49; (with_reducible refine (HK.out _).mono ?_); rintro e w' ⟨rfl, rfl⟩) | (go_at_call 50; (with_reducible refine (fail_any s1 5 5 rfl B g _ (HP1.out.below ((Below.refl _ w1).alloc (Nat.le_refl _) _))).mono ?_); rintro e2 w2 ⟨rfl, hp2, ho2⟩; have HP2 := Lib.hid hp2; have HO2 := Lib.hid ho2; have R1 : Hid (Rw w2 w1.heap.size 26 cs) := (show Rw _ _ _ cs by rw [HC.out]; exact heap_alloc_new w1 _).only ho2 (by have := HP1.out.lt; omega); have R2 := Lib.hid ((R0.out.alloc _).only ho2 (by have := HGW.out; omega)); clear hp2 ho2) | ((with_reducible refine wpList_load_rw rfl 26 (.tmp 4) rfl w1.heap.size ?hx 26 cs ?hB _ Try.underlying26 rfl HSZ.out ?_); (case hx => with_unfolding_all rfl); (case hB => exact R1.out)) | ((with_reducible refine wpList_store_rw rfl 26 (.tmp 2) (.tmp 53) rfl w.heap.size cs ?hx ?hy 26 hdr0 R2.out HSZ.out HL0.out HONE.out ?_); (case hx => with_unfolding_all rfl); (case hy => with_unfolding_all rfl); intro w3 R3 O3))
      refine ret_rw rfl w.heap.size 26 cs _ rfl R3.out Try.underlying26 rfl HSZ.out rfl ?_
      exact ⟨rfl, HP2.out.only O3.out (by have := HGW.out; omega) (by have := HGW.out; have := HBG.out; omega), (Only.trans (((Only.of_below ((Below.refl _ w).alloc (Nat.le_refl _) _)).trans HO1.out).alloc _) HO2.out).new O3.out (Nat.le_refl _)⟩
    · have e64 := and_u8 b 64 hx (by omega) 64 rfl 64 (by omega)
      obtain ⟨z, hz⟩ : ∃ z, b / 8 % 4 * 8 = z := ⟨_, rfl⟩
      have hz0 : ((z : Int) == 0) = false := by simp; omega
      have hz1 : ((z : Int) != 0) = true := by simp; omega
      have hz2 : ¬ z = 0 := by omega
      have e24 := and_u8 b 24 hx (by omega) 24 rfl z (by omega)
      have hbad : badB b = true := by unfold badB; rw [if_neg hL]; simp [h24]
      rw [hbad]
      rw [if_pos rfl]
      have HC := Lib.hid hC
      clear a128 a64 a32 a4 a3 a24 a12 a16 hq hnl hC hbad hL hsp hph hx32 hx4 h64 h24 hz
      generalize hdrC b = cs at HC HONE HLEN HSZ HL0 ⊢
      go_enter Try.func31, Try.ntmps31
      go_wp2_with fail
      (with_reducible refine (HW.out _ (H.out _)).mono ?_)
      rintro e1 w1 ⟨rfl, hp1, ho1⟩
      have HP1 := Lib.hid hp1
      have HO1 := Lib.hid ho1
      have R0 : Hid (Rw w1 w.heap.size 26 hdr0) := (show Rw _ _ _ _ from heap_alloc_new w _).only ho1 (by have := HGW.out; omega)
      have HS1 : Hid (w.heap.size + 1 ≤ w1.heap.size) := show _ ≤ _ by have := ho1.size; simpa using this
      clear hp1 ho1
      go_wp2_with (first | (go_at_call 49; (with_reducible refine (HK.out _).mono ?_); rintro e w' ⟨rfl, rfl⟩) | (go_at_call 50; (with_reducible refine (fail_any s1 5 5 rfl B g _ (HP1.out.below ((Below.refl _ w1).alloc (Nat.le_refl _) _))).mono ?_); rintro e2 w2 ⟨rfl, hp2, ho2⟩; have HP2 := Lib.hid hp2; have HO2 := Lib.hid ho2; have R1 : Hid (Rw w2 w1.heap.size 26 cs) := (show Rw _ _ _ cs by rw [HC.out]; exact heap_alloc_new w1 _).only ho2 (by have := HP1.out.lt; omega); have R2 := Lib.hid ((R0.out.alloc _).only ho2 (by have := HGW.out; omega)); clear hp2 ho2) | ((with_reducible refine wpList_load_rw rfl 26 (.tmp 4) rfl w1.heap.size ?hx 26 cs ?hB _ Try.underlying26 rfl HSZ.out ?_); (case hx => with_unfolding_all rfl); (case hB => exact R1.out)) | ((with_reducible refine wpList_store_rw rfl 26 (.tmp 2) (.tmp 53) rfl w.heap.size cs ?hx ?hy 26 hdr0 R2.out HSZ.out HL0.out HONE.out ?_); (case hx => with_unfolding_all rfl); (case hy => with_unfolding_all rfl); intro w3 R3 O3))
      refine ret_rw rfl w.heap.size 26 cs _ rfl R3.out Try.underlying26 rfl HSZ.out rfl ?_
      exact ⟨rfl, HP2.out.only O3.out (by have := HGW.out; omega) (by have := HGW.out; have := HBG.out; omega), (Only.trans (((Only.of_below ((Below.refl _ w).alloc (Nat.le_refl _) _)).trans HO1.out).alloc _) HO2.out).new O3.out (Nat.le_refl _)⟩
    · have e64 := and_u8 b 64 hx (by omega) 64 rfl 64 (by omega)
      have e24 := and_u8 b 24 hx (by omega) 24 rfl 0 (by omega)
      have hbad : badB b = false := by unfold badB; rw [if_neg hL]; simp [h24, h64]
      rw [hbad]
      rw [if_neg (by simp)]
      have HC := Lib.hid hC
      clear a128 a64 a32 a4 a3 a24 a12 a16 hq hnl hC hbad hL hsp hph hx32 hx4 h64 h24
      generalize hdrC b = cs at HC HONE HLEN HSZ HL0 ⊢
      go_enter Try.func31, Try.ntmps31
      go_wp2_with fail
      (with_reducible refine (HW.out _ (H.out _)).mono ?_)
      rintro e1 w1 ⟨rfl, hp1, ho1⟩
      have HP1 := Lib.hid hp1
      have HO1 := Lib.hid ho1
      have R0 : Hid (Rw w1 w.heap.size 26 hdr0) := (show Rw _ _ _ _ from heap_alloc_new w _).only ho1 (by have := HGW.out; omega)
      have HS1 : Hid (w.heap.size + 1 ≤ w1.heap.size) := show _ ≤ _ by have := ho1.size; simpa using this
      clear hp1 ho1
      go_wp2_with (first | (go_at_call 49; (with_reducible refine (HK.out _).mono ?_); rintro e w' ⟨rfl, rfl⟩) | ((with_reducible refine wpList_load_rw rfl 26 (.tmp 4) rfl w1.heap.size ?hx 26 cs ?hB _ Try.underlying26 rfl HSZ.out ?_); (case hx => with_unfolding_all rfl); (case hB => rw [HC.out]; exact heap_alloc_new w1 _)) | ((with_reducible refine wpList_store_rw rfl 26 (.tmp 2) (.tmp 53) rfl w.heap.size cs ?hx ?hy 26 hdr0 (R0.out.alloc _) HSZ.out HL0.out HONE.out ?_); (case hx => with_unfolding_all rfl); (case hy => with_unfolding_all rfl); intro w3 R3 O3))
      refine ret_rw rfl w.heap.size 26 cs _ rfl R3.out Try.underlying26 rfl HSZ.out rfl ?_
      exact ⟨rfl, (HP1.out.below ((Below.refl _ w1).alloc (Nat.le_refl _) _)).only O3.out (by have := HGW.out; omega) (by have := HGW.out; have := HBG.out; omega), (((Only.of_below ((Below.refl _ w).alloc (Nat.le_refl _) _)).trans HO1.out).alloc _).new O3.out (Nat.le_refl _)⟩
end Go.Proofs.Ytonoljcgcfjkmaa
