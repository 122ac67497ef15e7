/-
  The walk through HeaderTells.
-/
import Derived.Test.YtonoljcgcfjkmaaHdM
import Derived.Test.YtonoljcgcfjkmaaHdQ
import Derived.Test.YtonoljcgcfjkmaaHdY
namespace Go.Proofs.Ytonoljcgcfjkmaa
open Go.RowKit
set_option linter.unusedVariables false

def Lens (l : List UInt8) (r : (Hdr × Nat × Nat) × Nat) : Prop := r.1.1.dst.length ≤ l.length ∧ r.1.1.tok.length ≤ l.length
theorem lens_err (l : List UInt8) (c : Nat) : Lens l (errR c) := ⟨Nat.zero_le _, Nat.zero_le _⟩
theorem lens_end (l : List UInt8) (b ver : Nat) (d s t : List UInt8) (p : Nat) (hd : d.length ≤ l.length) (ht : t.length ≤ l.length) : Lens l (endL l b ver d s t p) := by
  unfold endL
  split
  · exact lens_err _ _
  · exact ⟨hd, ht⟩
theorem lens_tok (l : List UInt8) (b ver : Nat) (d s : List UInt8) (p : Nat) (hd : d.length ≤ l.length) : Lens l (tokL l b ver d s p) := by
  unfold tokL
  split
  · exact lens_err _ _
  · split
    · exact lens_err _ _
    · split
      · exact lens_err _ _
      · exact lens_end _ _ _ _ _ _ _ hd (by rw [List.length_take, List.length_drop]; omega)
theorem lens_lead (l : List UInt8) : Lens l (leadR l) := by
  unfold leadR
  split
  · exact lens_err _ _
  · split
    · exact lens_err _ _
    · generalize (l.getD 0 0).toNat = b
      split
      · unfold longL
        split
        · exact lens_err _ _
        · split
          · exact lens_err _ _
          · generalize beN 0 ((l.drop 1).take 4) = ver
            unfold dstL
            split
            · exact lens_err _ _
            · split
              · exact lens_err _ _
              · split
                · exact lens_err _ _
                · unfold srcL
                  split
                  · exact lens_err _ _
                  · split
                    · exact lens_err _ _
                    · split
                      · exact lens_err _ _
                      · unfold restL
                        split
                        · exact lens_tok _ _ _ _ _ _ (by rw [List.length_take, List.length_drop]; omega)
                        · exact lens_end _ _ _ _ _ _ _ (by rw [List.length_take, List.length_drop]; omega) (Nat.zero_le _)
      · unfold shortL
        split
        · exact lens_err _ _
        · split
          · exact lens_err _ _
          · exact ⟨by show ((l.drop 1).take 8).length ≤ _; rw [List.length_take, List.length_drop]; omega, Nat.zero_le _⟩
theorem getP_lens (l : List UInt8) (hl : l.length < 1073741824) : Lens l (getP l) := by
  rw [← getR_getP l hl]
  unfold getR finR
  have h := lens_lead l
  split
  · exact lens_err _ _
  · split
    · exact lens_err _ _
    · split
      · exact lens_err _ _
      · split
        · exact lens_err _ _
        · exact h
set_option maxHeartbeats 8000000 in
set_option maxRecDepth 8000 in
theorem tells_walk (L : Bool) (K : Int) (V : Nat) (A1 : Option Addr) (n1 c1 : Nat) (A2 : Option Addr) (n2 c2 : Nat) (A3 : Option Addr) (n3 c3 : Nat) (S P : Bool) (N : Nat) (NL : Int) (dst src tok : List UInt8) (hV : V < 4294967296) (hN : N < 18446744073709551616)
    (rest : Int) (bl : List UInt8) (A : Option Addr) (n c : Nat) (w : World) (s1 : Sl w w.heap.size A1 n1 dst) (r1 : n1 ≤ c1) (m1 : c1 ≤ maxLen) (s2 : Sl w w.heap.size A2 n2 src) (r2 : n2 ≤ c2) (m2 : c2 ≤ maxLen) (s3 : Sl w w.heap.size A3 n3 tok) (r3 : n3 ≤ c3) (m3 : c3 ≤ maxLen) (sb : Sl w w.heap.size A n bl) (hnc : n ≤ c) (hcm : c ≤ maxLen) :
    Calls Try.prog 3 #[.agg (hdrV L K V A1 n1 c1 A2 n2 c2 A3 n3 c3 S P N NL).toArray, .int .i64 rest, .slice A n c] w fun e w' => e = .returned (.bool true) ∧ Below w.heap.size w w' := by
  have HV := Lib.hid hV
  have HP : Hid (∀ u : World, Below w.heap.size w u → Calls Try.prog 10 #[.agg (hdrV L K V A1 n1 c1 A2 n2 c2 A3 n3 c3 S P N NL).toArray, .int .i64 rest] u (Puts u (putR L K V N NL rest S P dst src tok))) := fun u hu => hput_any L K V N NL rest S P dst src tok hV hN A1 n1 c1 A2 n2 c2 A3 n3 c3 w.heap.size u (s1.below hu) (s2.below hu) (s3.below hu) hu.size
  have HQ : Hid (∀ u : World, Below w.heap.size w u → Calls Try.prog 11 #[.agg (hdrV L K V A1 n1 c1 A2 n2 c2 A3 n3 c3 S P N NL).toArray, .int .i64 rest] u (Puts u (putR L K V N NL rest S P dst src tok))) := fun u hu => rhput_any L K V N NL rest S P dst src tok hV hN A1 n1 c1 A2 n2 c2 A3 n3 c3 w.heap.size u (s1.below hu) (s2.below hu) (s3.below hu) hu.size
  have HM := Lib.hid (may_any L K V A1 n1 c1 A2 n2 c2 A3 n3 c3 S P N NL)
  have HN := Lib.hid (rmay_any L K V A1 n1 c1 A2 n2 c2 A3 n3 c3 S P N NL)
  obtain ⟨mb, hmb⟩ : ∃ b, decide (MayP L K V n1 n2 n3 S P N NL) = b := ⟨_, rfl⟩
  rw [hmb] at HM HN
  obtain ⟨⟨X, pe⟩, hr⟩ : ∃ r, putR L K V N NL rest S P dst src tok = r := ⟨_, rfl⟩
  rw [hr] at HP HQ
  obtain ⟨vs, hvs⟩ : ∃ vs, hdrV L K V A1 n1 c1 A2 n2 c2 A3 n3 c3 S P N NL = vs := ⟨_, rfl⟩
  have HVS := Lib.hid hvs
  have HSZ : Hid ((Try.prog.info? 26).map (·.size) = some vs.length) := show _ = _ by rw [← hvs]; exact hdr_size
  rw [hvs] at HP HQ HM HN
  have HG : Hid (n ≤ 300 → ∀ u : World, Below w.heap.size w u → Calls Try.prog 12 #[.slice A n c] u (Gets u (getP bl))) := fun hn u hu => hget_any bl A n c w.heap.size u (sb.below hu) hu.size hnc hcm
  have HRG : Hid (n ≤ 300 → ∀ u : World, Below w.heap.size w u → Calls Try.prog 13 #[.slice A n c] u (Gets u (getP bl))) := fun hn u hu => by rw [← getR_getP bl (by rw [sb.1]; omega)]; exact rhget_any bl A n c w.heap.size u (sb.below hu) hu.size hnc hcm (by omega)
  obtain ⟨s12, es12⟩ : ∃ x, IntKind.i64.wrap ((n1 : Int) + (n2 : Int)) = x := ⟨_, rfl⟩
  obtain ⟨s, es⟩ : ∃ x, IntKind.i64.wrap (s12 + (n3 : Int)) = x := ⟨_, rfl⟩
  clear hr hmb
  have hways : (decide ((150 : Int) < s) = true) ∨ (decide ((150 : Int) < s) = false ∧ decide ((300 : Int) < (n : Int)) = true) ∨ (decide ((150 : Int) < s) = false ∧ decide ((300 : Int) < (n : Int)) = false ∧ n ≤ 300) := by
    simp only [decide_eq_true_eq, decide_eq_false_iff_not]
    omega
  have HBL := Lib.hid sb.1
  clear s1 s2 s3 sb hV hN hnc hcm m1 m2 m3 r1 r2 r3 hvs
  unfold hdrV
  rcases hways with t1 | ⟨t1, t2⟩ | ⟨t1, t2, hn⟩
  · go_enter Try.func3, Try.ntmps3
    go_wp2_with (go_at_call 9; (with_reducible refine (awake_any _).mono ?_); rintro e9 w9 ⟨rfl, b9⟩)
    go_ret
    exact ⟨rfl, ((Below.refl _ _).alloc (Nat.le_refl _) _).trans (b9.mono (by simp))⟩
  · go_enter Try.func3, Try.ntmps3
    go_wp2_with (go_at_call 9; (with_reducible refine (awake_any _).mono ?_); rintro e9 w9 ⟨rfl, b9⟩)
    go_ret
    exact ⟨rfl, ((Below.refl _ _).alloc (Nat.le_refl _) _).trans (b9.mono (by simp))⟩
  · have HG := Lib.hid (HG.out hn)
    have HRG := Lib.hid (HRG.out hn)
    obtain ⟨⟨⟨hh, gx, gy⟩, gq⟩, hgp⟩ : ∃ r, getP bl = r := ⟨_, rfl⟩
    rw [hgp] at HG HRG
    have hls := getP_lens bl (by rw [HBL.out]; omega)
    unfold Lens at hls
    rw [hgp, HBL.out] at hls
    have HLS : Hid (hh.dst.length ≤ 1000000 ∧ hh.tok.length ≤ 1000000) := ⟨by have := hls.1; simp only at this; omega, by have := hls.2; simp only at this; omega⟩
    clear hgp hls
    go_enter Try.func3, Try.ntmps3
    go_upto_region 7 with (first | ((with_reducible refine wpList_load_rw rfl 26 (.tmp 3) rfl w.heap.size ?hx 26 vs ?hB _ Try.underlying26 rfl HSZ.out ?_); (case hx => with_unfolding_all rfl); (case hB => first | exact R1.out | (rw [← HVS.out]; exact heap_alloc_new w _))) | (go_at_call 10; (with_reducible refine (HP.out _ ((Below.refl _ w).alloc (Nat.le_refl _) _)).mono ?_); rintro e1 w1 ⟨X1, x1, xc1, rfl, ox, lx, mx, b1⟩; simp only at ox; have R1 : Hid (Rw w1 w.heap.size 26 vs) := (show Rw (w.alloc _) _ _ vs by rw [← HVS.out]; exact heap_alloc_new w _).below b1; have B1 : Hid (Below w.heap.size w w1) := ((Below.refl _ w).alloc (Nat.le_refl _) _).trans (b1.mono (by simp)); have OX1 := Lib.hid ox; have LX : Hid (x1 ≤ xc1 ∧ xc1 ≤ maxLen) := ⟨lx, mx⟩; clear ox lx mx b1) | (go_at_call 11; (with_reducible refine (HQ.out _ B1.out).mono ?_); rintro e2 w2 ⟨X2, x2, xc2, rfl, oy, ly, my, b2⟩; simp only at oy; have R2 := Lib.hid (R1.out.below b2); have B2 := Lib.hid (B1.out.trans (b2.mono B1.out.size)); have OX2 := Lib.hid (OX1.out.below b2); have OY2 := Lib.hid oy; clear oy ly my b2) | (go_at_call 12; (with_reducible refine (HG.out _ B2.out).mono ?_); rintro e3 w3 ⟨hv1, rfl, hw1, b3⟩; simp only at hw1; have R3 := Lib.hid (R2.out.below b3); have B3 := Lib.hid (B2.out.trans (b3.mono B2.out.size)); have OX3 := Lib.hid (OX2.out.below b3); have OY3 := Lib.hid (OY2.out.below b3); have W3 := Lib.hid hw1; have HB23 : Hid (w2.heap.size ≤ w3.heap.size) := b3.size; have HL1 := Lib.hid hw1.len; have HO1 := Lib.hid hw1.one; have HZ1 : Hid (hdr0.length = hv1.length) := hw1.len0; clear hw1 b3) | ((with_reducible refine wpList_store_rw rfl 26 (.tmp 11) (.tmp 53) rfl w3.heap.size hv1 ?hx ?hy 26 hdr0 ?hB (hdr_sizeL hv1 HL1.out) HZ1.out HO1.out ?_); (case hx => with_unfolding_all rfl); (case hy => with_unfolding_all rfl); (case hB => exact heap_alloc_new w3 _); intro w4 R4 O4; have b4 : Below w3.heap.size w3 w4 := ((Below.refl _ w3).alloc (Nat.le_refl _) _).trans (O4.out.below (by simp) (Nat.le_refl _)); have Q4 := Lib.hid R4.out; have R4 := Lib.hid (R3.out.below b4); have B4 := Lib.hid (B3.out.trans (b4.mono B3.out.size)); have OX4 := Lib.hid (OX3.out.below b4); have OY4 := Lib.hid (OY3.out.below b4); have BB4 := Lib.hid b4; clear b4 O4) | (go_at_call 13; (with_reducible refine (HRG.out _ B4.out).mono ?_); rintro e5 w5 ⟨hv2, rfl, hw1, b5⟩; simp only at hw1; have R5 := Lib.hid (R4.out.below b5); have Q5 := Lib.hid (Q4.out.below b5); have B5 := Lib.hid (B4.out.trans (b5.mono B4.out.size)); have OX5 := Lib.hid (OX4.out.below b5); have OY5 := Lib.hid (OY4.out.below b5); have BB5 := Lib.hid (BB4.out.trans (b5.mono BB4.out.size)); have U5 := Lib.hid hw1; have HL2 := Lib.hid hw1.len; have HO2 := Lib.hid hw1.one; have HZ2 : Hid (hdr0.length = hv2.length) := hw1.len0; clear hw1 b5) | ((with_reducible refine wpList_store_rw rfl 26 (.tmp 15) (.tmp 60) rfl w5.heap.size hv2 ?hx ?hy 26 hdr0 ?hB (hdr_sizeL hv2 HL2.out) HZ2.out HO2.out ?_); (case hx => with_unfolding_all rfl); (case hy => with_unfolding_all rfl); (case hB => exact heap_alloc_new w5 _); intro w6 R6 O6; have b6 : Below w5.heap.size w5 w6 := ((Below.refl _ w5).alloc (Nat.le_refl _) _).trans (O6.out.below (by simp) (Nat.le_refl _)); have T6 := Lib.hid R6.out; have R6 := Lib.hid (R5.out.below b6); have Q6 := Lib.hid (Q5.out.below b6); have B6 := Lib.hid (B5.out.trans (b6.mono B5.out.size)); have OX6 := Lib.hid (OX5.out.below b6); have OY6 := Lib.hid (OY5.out.below b6); have BB6 := Lib.hid (BB5.out.trans (b6.mono BB5.out.size)); have U6 := Lib.hid (U5.out.below b6); clear b6 O6))
    obtain rfl : x1 = x2 := OX6.out.len.symm.trans OY6.out.len
    have HW3 : Hid (w.heap.size + 1 ≤ w3.heap.size) := R3.out.lt
    have HW31 : Hid (w3.heap.size < w6.heap.size) := Q6.out.lt
    have HB2S : Hid (w.heap.size + 1 ≤ w2.heap.size) := R2.out.lt
    have tm : (mb == mb) = true := by simp
    have te : (pe == pe) = true := by simp
    have tx : ((gx : Int) == (gx : Int)) = true := by simp
    have ty : ((gy : Int) == (gy : Int)) = true := by simp
    have tq : ((gq : Int) == (gq : Int)) = true := by simp
    refine wp_held (S := fun u => Rw u w.heap.size 26 vs ∧ Rw u w3.heap.size 26 hv1 ∧ Rw u w5.heap.size 26 hv2) (by kernel_rfl) ?_
    replace R6 := Lib.hid R6.out.drew
    replace Q6 := Lib.hid Q6.out.drew
    replace T6 := Lib.hid T6.out.drew
    replace B6 := Lib.hid B6.out.drew
    replace OX6 := Lib.hid OX6.out.drew
    replace OY6 := Lib.hid OY6.out.drew
    replace BB6 := Lib.hid BB6.out.drew
    replace U6 := Lib.hid (U6.out.below (w' := w6.drew) (Below.refl _ _).drew)
    replace HW31 : Hid (w3.heap.size < w6.drew.heap.size) := HW31.out
    obtain ⟨w0, hw0⟩ : ∃ x, w6.drew = x := ⟨_, rfl⟩
    rw [hw0] at R6 Q6 T6 B6 OX6 OY6 BB6 U6 HW31 ⊢
    clear hw0
    have hS : Rw w0 w.heap.size 26 vs ∧ Rw w0 w3.heap.size 26 hv1 ∧ Rw w0 w5.heap.size 26 hv2 := ⟨R6.out, Q6.out, T6.out⟩
    have b0 : Below w0.heap.size w0 w0 := Below.refl _ _
    refine wpAnyH_pickG 0 (.agg vs.toArray) rfl (by kernel_rfl) (by kernel_rfl) (by kernel_rfl) (by rfl) (fun _ _ _ h => h) (fun u hu => exec_load_mid u 26 (.tmp 3) rfl w.heap.size 0 (by with_unfolding_all rfl) vs _ (range_row hu.1) Try.underlying26 rfl (HSZ.out)) hS ?_
    go_simp
    refine wpAnyH_pickG 2 (.agg vs.toArray) rfl (by kernel_rfl) (by kernel_rfl) (by kernel_rfl) (by rfl) (fun _ _ _ h => h) (fun u hu => exec_load_mid u 26 (.tmp 3) rfl w.heap.size 0 (by with_unfolding_all rfl) vs _ (range_row hu.1) Try.underlying26 rfl (HSZ.out)) hS ?_
    go_simp
    refine wpAnyH_oneG 1 (by kernel_rfl) rfl (by rfl) ?_
    go_wp2_with fail
    (with_reducible refine (HM.out _).mono ?_)
    rintro f1 v1 ⟨rfl, c1⟩
    have b1 := b0.trans (c1.mono b0.size)
    have hS1 : Rw v1 w.heap.size 26 vs ∧ Rw v1 w3.heap.size 26 hv1 ∧ Rw v1 w5.heap.size 26 hv2 := ⟨R6.out.below b1, Q6.out.below b1, T6.out.below b1⟩
    refine ⟨hS1, ?_⟩
    clear c1
    go_simp
    refine wpAnyH_oneG 3 (by kernel_rfl) rfl (by rfl) ?_
    go_wp2_with fail
    (with_reducible refine (HN.out _).mono ?_)
    rintro f2 v2 ⟨rfl, c2⟩
    have b2 := b1.trans (c2.mono b1.size)
    have hS2 : Rw v2 w.heap.size 26 vs ∧ Rw v2 w3.heap.size 26 hv1 ∧ Rw v2 w5.heap.size 26 hv2 := ⟨R6.out.below b2, Q6.out.below b2, T6.out.below b2⟩
    refine ⟨hS2, ?_⟩
    clear c2
    go_simp
    refine wpAnyH_take (i := 4) (v := ?_) rfl (by kernel_rfl) (by kernel_rfl) (by kernel_rfl) (fun _ _ _ h => h) (Or.inl ⟨by rfl, ?_⟩) hS2 ?_
    rotate_left 1
    · intro u hu
      go_simp
      first | done | with_reducible rfl
    go_simp
    refine wpAnyH_take (i := 5) (v := ?_) rfl (by kernel_rfl) (by kernel_rfl) (by kernel_rfl) (fun _ _ _ h => h) (Or.inl ⟨by rfl, ?_⟩) hS2 ?_
    rotate_left 1
    · intro u hu
      go_simp
      first | done | with_reducible rfl
    go_simp
    refine wpAnyH_take (i := 6) (v := ?_) rfl (by kernel_rfl) (by kernel_rfl) (by kernel_rfl) (fun _ _ _ h => h) (Or.inl ⟨by rfl, ?_⟩) hS2 ?_
    rotate_left 1
    · intro u hu
      go_simp
      first | done | with_reducible rfl
    go_simp
    refine wpAnyH_take (i := 7) (v := ?_) rfl (by kernel_rfl) (by kernel_rfl) (by kernel_rfl) (fun _ _ _ h => h) (Or.inl ⟨by rfl, ?_⟩) hS2 ?_
    rotate_left 1
    · intro u hu
      go_simp
      first | done | with_reducible rfl
    go_simp
    refine wpAnyH_oneG 8 (by kernel_rfl) rfl (by rfl) ?_
    go_wp2_with fail
    (with_reducible refine (same_w X X1 X2 x1 xc1 xc2 _ _ _ ((OX6.out.below b2).sl) ((OY6.out.below b2).sl) (Nat.le_trans LX.out.1 LX.out.2)).mono ?_)
    rintro f3 v3 ⟨rfl, c3⟩
    have b3 := b2.trans (c3.mono b2.size)
    have hS3 : Rw v3 w.heap.size 26 vs ∧ Rw v3 w3.heap.size 26 hv1 ∧ Rw v3 w5.heap.size 26 hv2 := ⟨R6.out.below b3, Q6.out.below b3, T6.out.below b3⟩
    refine ⟨hS3, ?_⟩
    clear c3
    go_simp
    refine wpAnyH_take (i := 9) (v := ?_) rfl (by kernel_rfl) (by kernel_rfl) (by kernel_rfl) (fun _ _ _ h => h) (Or.inl ⟨by rfl, ?_⟩) hS3 ?_
    rotate_left 1
    · intro u hu
      go_simp
      first | done | with_reducible rfl
    go_simp
    refine wpAnyH_take (i := 10) (v := ?_) rfl (by kernel_rfl) (by kernel_rfl) (by kernel_rfl) (fun _ _ _ h => h) (Or.inl ⟨by rfl, ?_⟩) hS3 ?_
    rotate_left 1
    · intro u hu
      go_simp
      first | done | with_reducible rfl
    go_simp
    refine wpAnyH_take (i := 11) (v := ?_) rfl (by kernel_rfl) (by kernel_rfl) (by kernel_rfl) (fun _ _ _ h => h) (Or.inl ⟨by rfl, ?_⟩) hS3 ?_
    rotate_left 1
    · intro u hu
      go_simp
      first | done | with_reducible rfl
    go_simp
    refine wpAnyH_take (i := 12) (v := ?_) rfl (by kernel_rfl) (by kernel_rfl) (by kernel_rfl) (fun _ _ _ h => h) (Or.inl ⟨by rfl, ?_⟩) hS3 ?_
    rotate_left 1
    · intro u hu
      go_simp
      first | done | with_reducible rfl
    go_simp
    refine wpAnyH_take (i := 13) (v := ?_) rfl (by kernel_rfl) (by kernel_rfl) (by kernel_rfl) (fun _ _ _ h => h) (Or.inl ⟨by rfl, ?_⟩) hS3 ?_
    rotate_left 1
    · intro u hu
      go_simp
      first | done | with_reducible rfl
    go_simp
    refine wpAnyH_take (i := 14) (v := ?_) rfl (by kernel_rfl) (by kernel_rfl) (by kernel_rfl) (fun _ _ _ h => h) (Or.inl ⟨by rfl, ?_⟩) hS3 ?_
    rotate_left 1
    · intro u hu
      go_simp
      first | done | with_reducible rfl
    go_simp
    refine wpAnyH_take (i := 15) (v := ?_) rfl (by kernel_rfl) (by kernel_rfl) (by kernel_rfl) (fun _ _ _ h => h) (Or.inl ⟨by rfl, ?_⟩) hS3 ?_
    rotate_left 1
    · intro u hu
      go_simp
      first | done | with_reducible rfl
    go_simp
    refine wpAnyH_pickG 16 (.agg hv1.toArray) rfl (by kernel_rfl) (by kernel_rfl) (by kernel_rfl) (by rfl) (fun _ _ _ h => h) (fun u hu => exec_load_mid u 26 (.tmp 11) rfl w3.heap.size 0 (by with_unfolding_all rfl) hv1 _ (range_row hu.2.1) Try.underlying26 rfl (hdr_sizeL hv1 HL1.out)) hS3 ?_
    go_simp
    refine wpAnyH_pickG 17 (.agg hv2.toArray) rfl (by kernel_rfl) (by kernel_rfl) (by kernel_rfl) (by rfl) (fun _ _ _ h => h) (fun u hu => exec_load_mid u 26 (.tmp 15) rfl w5.heap.size 0 (by with_unfolding_all rfl) hv2 _ (range_row hu.2.2) Try.underlying26 rfl (hdr_sizeL hv2 HL2.out)) hS3 ?_
    go_simp
    refine wpAnyH_oneG 18 (by kernel_rfl) rfl (by rfl) ?_
    go_wp2_with fail
    (with_reducible refine (sameHdr (W3.out.below (BB6.out.trans (b3.mono BB6.out.size))) (U6.out.below b3)).mono ?_)
    rintro f4 v4 ⟨rfl, c4⟩
    have b4 := b3.trans (c4.mono b3.size)
    have hS4 : Rw v4 w.heap.size 26 vs ∧ Rw v4 w3.heap.size 26 hv1 ∧ Rw v4 w5.heap.size 26 hv2 := ⟨R6.out.below b4, Q6.out.below b4, T6.out.below b4⟩
    refine ⟨hS4, ?_⟩
    clear c4
    go_simp
    refine wpAnyH_take (i := 19) (v := ?_) rfl (by kernel_rfl) (by kernel_rfl) (by kernel_rfl) (fun _ _ _ h => h) (Or.inl ⟨by rfl, ?_⟩) hS4 ?_
    rotate_left 1
    · intro u hu
      go_simp
      first | done | with_reducible rfl
    go_simp
    refine wpAnyH_take (i := 20) (v := ?_) rfl (by kernel_rfl) (by kernel_rfl) (by kernel_rfl) (fun _ _ _ h => h) (Or.inl ⟨by rfl, ?_⟩) hS4 ?_
    rotate_left 1
    · intro u hu
      go_simp
      first | done | with_reducible rfl
    go_simp
    refine wpAnyH_take (i := 21) (v := ?_) rfl (by kernel_rfl) (by kernel_rfl) (by kernel_rfl) (fun _ _ _ h => h) (Or.inl ⟨by rfl, ?_⟩) hS4 ?_
    rotate_left 1
    · intro u hu
      go_simp
      first | done | with_reducible rfl
    go_simp
    refine wpAnyH_take (i := 22) (v := ?_) rfl (by kernel_rfl) (by kernel_rfl) (by kernel_rfl) (fun _ _ _ h => h) (Or.inl ⟨by rfl, ?_⟩) hS4 ?_
    rotate_left 1
    · intro u hu
      go_simp
      first | done | with_reducible rfl
    go_simp
    refine wpAnyH_take (i := 23) (v := ?_) rfl (by kernel_rfl) (by kernel_rfl) (by kernel_rfl) (fun _ _ _ h => h) (Or.inl ⟨by rfl, ?_⟩) hS4 ?_
    rotate_left 1
    · intro u hu
      go_simp
      first | done | with_reducible rfl
    go_simp
    refine wpAnyH_take (i := 24) (v := ?_) rfl (by kernel_rfl) (by kernel_rfl) (by kernel_rfl) (fun _ _ _ h => h) (Or.inl ⟨by rfl, ?_⟩) hS4 ?_
    rotate_left 1
    · intro u hu
      go_simp
      first | done | with_reducible rfl
    go_simp
    refine wpAnyH_take (i := 25) (v := ?_) rfl (by kernel_rfl) (by kernel_rfl) (by kernel_rfl) (fun _ _ _ h => h) (Or.inl ⟨by rfl, ?_⟩) hS4 ?_
    rotate_left 1
    · intro u hu
      go_simp
      first | done | with_reducible rfl
    go_simp
    refine wpAnyH_take (i := 26) (v := ?_) rfl (by kernel_rfl) (by kernel_rfl) (by kernel_rfl) (fun _ _ _ h => h) (Or.inl ⟨by rfl, ?_⟩) hS4 ?_
    rotate_left 1
    · intro u hu
      go_simp
      first | done | with_reducible rfl
    go_simp
    refine wpAnyH_take (i := 27) (v := ?_) rfl (by kernel_rfl) (by kernel_rfl) (by kernel_rfl) (fun _ _ _ h => h) (Or.inl ⟨by rfl, ?_⟩) hS4 ?_
    rotate_left 1
    · intro u hu
      go_simp
      first | done | with_reducible rfl
    go_simp
    refine wpAnyH_take (i := 28) (v := ?_) rfl (by kernel_rfl) (by kernel_rfl) (by kernel_rfl) (fun _ _ _ h => h) (Or.inl ⟨by rfl, ?_⟩) hS4 ?_
    rotate_left 1
    · intro u hu
      go_simp
      first | done | with_reducible rfl
    go_simp
    refine wpAnyH_take (i := 29) (v := ?_) rfl (by kernel_rfl) (by kernel_rfl) (by kernel_rfl) (fun _ _ _ h => h) (Or.inl ⟨by rfl, ?_⟩) hS4 ?_
    rotate_left 1
    · intro u hu
      go_simp
      first | done | with_reducible rfl
    go_simp
    refine wpAnyH_take (i := 30) (v := ?_) rfl (by kernel_rfl) (by kernel_rfl) (by kernel_rfl) (fun _ _ _ h => h) (Or.inl ⟨by rfl, ?_⟩) hS4 ?_
    rotate_left 1
    · intro u hu
      go_simp
      first | done | with_reducible rfl
    go_simp
    refine wpAnyH_take (i := 31) (v := ?_) rfl (by kernel_rfl) (by kernel_rfl) (by kernel_rfl) (fun _ _ _ h => h) (Or.inl ⟨by rfl, ?_⟩) hS4 ?_
    rotate_left 1
    · intro u hu
      go_simp
      first | done | with_reducible rfl
    go_simp
    refine wpAnyH_take (i := 32) (v := ?_) rfl (by kernel_rfl) (by kernel_rfl) (by kernel_rfl) (fun _ _ _ h => h) (Or.inl ⟨by rfl, ?_⟩) hS4 ?_
    rotate_left 1
    · intro u hu
      go_simp
      first | done | with_reducible rfl
    go_simp
    refine wpAnyH_take (i := 33) (v := ?_) rfl (by kernel_rfl) (by kernel_rfl) (by kernel_rfl) (fun _ _ _ h => h) (Or.inl ⟨by rfl, ?_⟩) hS4 ?_
    rotate_left 1
    · intro u hu
      go_simp
      first | done | with_reducible rfl
    go_simp
    refine wpAnyH_take (i := 34) (v := ?_) rfl (by kernel_rfl) (by kernel_rfl) (by kernel_rfl) (fun _ _ _ h => h) (Or.inl ⟨by rfl, ?_⟩) hS4 ?_
    rotate_left 1
    · intro u hu
      go_simp
      first | done | with_reducible rfl
    go_simp
    refine wpAnyH_take (i := 35) (v := ?_) rfl (by kernel_rfl) (by kernel_rfl) (by kernel_rfl) (fun _ _ _ h => h) (Or.inl ⟨by rfl, ?_⟩) hS4 ?_
    rotate_left 1
    · intro u hu
      go_simp
      first | done | with_reducible rfl
    go_simp
    refine wpAnyH_done (by kernel_rfl) ?_ _
    have BB7 := Lib.hid (BB6.out.trans (b4.mono BB6.out.size))
    have Q7 := Lib.hid (Q6.out.below b4)
    have B7 := Lib.hid (B6.out.trans (b4.mono B6.out.size))
    obtain ⟨D1, d1, dc1, D2, d2, dc2, D3, d3, dc3, ehv, ⟨o1, i1, j1⟩, ⟨o2, i2, j2⟩, ⟨o3, i3, j3⟩, hap⟩ := W3.out
    have z3 : v4.cell? ⟨w3.heap.size, 3, none⟩ = some (.slice D1 d1 dc1) := Q7.out.cell 3 _ (by rw [ehv]; rfl)
    have O13 := Lib.hid o1
    have O1 := Lib.hid (o1.below BB7.out)
    have O3 := Lib.hid (o3.below BB7.out)
    have HAP := Lib.hid hap
    have EHV := Lib.hid ehv
    have HV4 : Hid (w2.heap.size ≤ v4.heap.size) := Nat.le_trans (Nat.le_trans HB23.out (Nat.le_of_lt HW31.out)) b4.size
    have HD1 : Hid (d1 ≤ 1000000 ∧ d3 ≤ 1000000) := ⟨by rw [← o1.len]; exact HLS.out.1, by rw [← o3.len]; exact HLS.out.2⟩
    have HQL : Hid (w3.heap.size < v4.heap.size) := Q7.out.lt
    clear o1 o2 o3 i1 j1 i2 j2 i3 j3 hap ehv hS hS1 hS2 hS3 hS4 b0 b1 b2 b3 b4
    go_upto_region 9 with (go_at_call 18; (with_reducible refine (over_own hh.dst D1 d1 dc1 w2.heap.size v4 O1.out HV4.out HD1.out.1).mono ?_); rintro e7 w7 ⟨rfl, g1, hg1, hlo1, on1⟩; have G1 := Lib.hid hg1; have L1 := Lib.hid hlo1; have N1 := Lib.hid on1; clear hg1 hlo1 on1)
    have HNE : Hid (w3.heap.size ≠ g1) := show _ ≠ _ by
      rcases G1.out with ⟨_, h⟩ | ⟨a, ha, h⟩
      · have := HQL.out; omega
      · have := (O13.out.blk a ha).2; omega
    have Q8 := Lib.hid (Q7.out.only N1.out HNE.out)
    have z5 : w7.cell? ⟨w3.heap.size, 5, none⟩ = some (.slice D3 d3 dc3) := Q8.out.cell 5 _ (by rw [EHV.out]; rfl)
    have O38 : Hid (Own w7 w2.heap.size (.slice D3 d3 dc3) d3 hh.tok) := O3.out.onlyA N1.out fun a ha => by
      rcases G1.out with ⟨_, h⟩ | ⟨a1, ha1, h⟩
      · have := (O3.out.blk a ha).2; omega
      · rw [← h]; exact fun he => HAP.out a1 a ha1 ha he.symm
    have HV7 : Hid (w2.heap.size ≤ w7.heap.size) := Nat.le_trans HV4.out N1.out.size
    go_wp2_with (first | (go_at_call 18; (with_reducible refine (over_own hh.tok D3 d3 dc3 w2.heap.size w7 O38.out HV7.out HD1.out.2).mono ?_); rintro e8 w8 ⟨rfl, g2, hg2, hlo2, on2⟩; have L2 := Lib.hid hlo2; have N2 := Lib.hid on2; clear hg2 hlo2 on2) | (go_at_call 9; (with_reducible refine (awake_any _).mono ?_); rintro e9 w9 ⟨rfl, b9⟩))
    go_ret
    have B8 := B7.out.trans (N1.out.below B7.out.size (by have := L1.out; have := HB2S.out; omega))
    have B9 := B8.trans (N2.out.below B8.size (by have := L2.out; have := HB2S.out; omega))
    exact ⟨rfl, B9.trans (b9.mono B9.size)⟩
end Go.Proofs.Ytonoljcgcfjkmaa
