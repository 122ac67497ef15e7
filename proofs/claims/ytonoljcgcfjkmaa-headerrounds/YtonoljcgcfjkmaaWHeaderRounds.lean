/-
  The walk through HeaderRounds.
-/
import Derived.Test.YtonoljcgcfjkmaaCopyW
import Derived.Test.YtonoljcgcfjkmaaHdM
import Derived.Test.YtonoljcgcfjkmaaHdY
import Derived.Test.YtonoljcgcfjkmaaHdO
import Derived.Test.YtonoljcgcfjkmaaHkZ
namespace Go.Proofs.Ytonoljcgcfjkmaa
open Go.RowKit
set_option linter.unusedVariables false

theorem enc_le (v : Nat) : (enc v).length ≤ 8 := by
  unfold enc
  split
  · rw [encV_length]
    rcases cls_cases v with h | h | h | h | h
    · rw [h.2.1]; decide
    · rw [h.2.2.1]; decide
    · rw [h.2.2.1]; decide
    · rw [h.2.2.1]; decide
    · omega
  · simp
/-- a header that may be is read as it was -/
theorem put_get (L : Bool) (k V N nl r : Nat) (S P : Bool) (dst src tok : List UInt8) (hM : MayP L (k : Int) V dst.length src.length tok.length S P N (nl : Int)) (hV : V < 4294967296) (hr : r < 100) :
    ∃ X : List UInt8, putR L (k : Int) V N (nl : Int) (r : Int) S P dst src tok = (X, 0) ∧ 1 ≤ X.length ∧ X.length ≤ 1000 ∧ getP (X ++ List.replicate r 0) = ((⟨L, k, V, dst, src, tok, S, P, N % 256 ^ nl, nl⟩, X.length, r), 0) := by
  have h1 : 1 ≤ nl := by have := hM.1; omega
  have h4 : nl ≤ 4 := by have := hM.1; omega
  have hd : dst.length = 8 := hM.2.2.1
  have e : putR L (k : Int) V N (nl : Int) (r : Int) S P dst src tok = (if L = true then putLV k V nl N r dst src tok else putSV S P nl N dst, 0) := by
    unfold putR
    rw [if_pos ⟨hM, by omega, by omega⟩]
    rfl
  have hrest := hM.2.2.2
  cases L
  · simp only [Bool.false_eq_true, if_false] at hrest e
    obtain ⟨hk, rfl, hs, ht⟩ := hrest
    obtain rfl : k = 0 := by omega
    obtain rfl := List.eq_nil_of_length_eq_zero hs
    obtain rfl := List.eq_nil_of_length_eq_zero ht
    refine ⟨_, e, ?_, ?_, ?_⟩
    · unfold putSV; simp
    · unfold putSV; simp [lowB_length, hd]; omega
    · have h := get_putS S P nl N dst (List.replicate r 0) h1 h4 hd
      rw [h, List.length_replicate]
  · rw [if_pos rfl] at hrest e
    obtain ⟨rfl, rfl, hk, hs, ht, h2⟩ := hrest
    have hk : k = 0 ∨ k = 2 := by omega
    have ht2 : k = 2 → tok = [] := fun h => List.eq_nil_of_length_eq_zero (h2 (by omega))
    refine ⟨_, e, ?_, ?_, ?_⟩
    · unfold putLV; rcases hk with rfl | rfl <;> simp
    · have := enc_le tok.length
      unfold putLV
      rcases hk with rfl | rfl
      · rw [if_pos rfl]
        simp only [List.length_append, List.length_cons, List.length_nil, lowB_length]
        omega
      · rw [if_neg (by omega)]
        simp only [List.length_append, List.length_cons, List.length_nil, lowB_length]
        omega
    · exact get_putL k V nl N r dst src tok (List.replicate r 0) hk hV h1 h4 (by omega) hd hs ht ht2 (by rw [List.length_replicate]; omega)

set_option maxHeartbeats 8000000 in
set_option maxRecDepth 8000 in
theorem rounds_walk (L : Bool) (K : Int) (V : Nat) (A1 : Option Addr) (n1 c1 : Nat) (A2 : Option Addr) (n2 c2 : Nat) (A3 : Option Addr) (n3 c3 : Nat) (S P : Bool) (N : Nat) (NL : Int) (dst src tok : List UInt8) (hV : V < 4294967296) (hN : N < 18446744073709551616)
    (rest at_ : Int) (by_ : UInt8) (w : World) (s1 : Sl w w.heap.size A1 n1 dst) (r1 : n1 ≤ c1) (m1 : c1 ≤ maxLen) (s2 : Sl w w.heap.size A2 n2 src) (r2 : n2 ≤ c2) (m2 : c2 ≤ maxLen) (s3 : Sl w w.heap.size A3 n3 tok) (r3 : n3 ≤ c3) (m3 : c3 ≤ maxLen) :
    Calls Try.prog 4 #[.agg (hdrV L K V A1 n1 c1 A2 n2 c2 A3 n3 c3 S P N NL).toArray, .int .i64 rest, .int .i64 at_, .int .u8 (bn by_)] w fun e w' => e = .returned (.bool true) ∧ Below w.heap.size w w' := by
  have HM := Lib.hid (rmay_any L K V A1 n1 c1 A2 n2 c2 A3 n3 c3 S P N NL)
  obtain ⟨vs, hvs⟩ : ∃ vs, (hdrV L K V A1 n1 c1 A2 n2 c2 A3 n3 c3 S P N NL) = vs := ⟨_, rfl⟩
  have HVS := Lib.hid hvs
  have HSZ : Hid ((Try.prog.info? 26).map (·.size) = some vs.length) := show _ = _ by rw [← hvs]; exact hdr_size
  rw [hvs] at HM
  obtain ⟨s12, es12⟩ : ∃ x, IntKind.i64.wrap ((n1 : Int) + (n2 : Int)) = x := ⟨_, rfl⟩
  obtain ⟨s, es⟩ : ∃ x, IntKind.i64.wrap (s12 + (n3 : Int)) = x := ⟨_, rfl⟩
  by_cases t1 : (150 : Int) < s
  · have t1 : decide ((150 : Int) < s) = true := decide_eq_true t1
    clear s1 s2 s3 hvs
    unfold hdrV
    go_enter Try.func4, Try.ntmps4
    go_wp2_with (go_at_call 9; (with_reducible refine (awake_any _).mono ?_); rintro e99 w99 ⟨rfl, b99⟩)
    go_ret
    exact ⟨rfl, ((Below.refl _ _).alloc (Nat.le_refl _) _).trans (b99.mono (by simp))⟩
  have t1 : decide ((150 : Int) < s) = false := decide_eq_false t1
  by_cases hM : MayP L K V n1 n2 n3 S P N NL
  · rw [decide_eq_true hM] at HM
    obtain ⟨k, nl, rfl, rfl, hnl⟩ : ∃ k nl : Nat, K = (k : Int) ∧ NL = (nl : Int) ∧ (nl = 1 ∨ nl = 2 ∨ nl = 3 ∨ nl = 4) := by
      obtain ⟨hnl, _, _, hk⟩ := hM
      refine ⟨K.toNat, NL.toNat, ?_, by omega, by omega⟩
      cases L
      · simp only [Bool.false_eq_true, if_false] at hk; omega
      · rw [if_pos rfl] at hk; have := hk.2.2.1; omega
    obtain ⟨r, hr, hlow⟩ := low_nat rest 100 (by omega) (by omega)
    have HL : Hid (∀ u : World, Calls Try.prog 19 #[.int .i64 rest, .int .i64 100] u fun e w' => e = .returned (.int .i64 (r : Int)) ∧ u = w') := hlow
    obtain ⟨X, hput, hX1, hX2, hget⟩ := put_get L k V N nl r S P dst src tok (by rw [s1.1, s2.1, s3.1]; exact hM) hV hr
    have HP : Hid (∀ u : World, Below w.heap.size w u → Calls Try.prog 10 #[.agg vs.toArray, .int .i64 (r : Int)] u (Puts u (X, 0))) := fun u hu => by
      have h := hput_any L k V N nl r S P dst src tok hV hN A1 n1 c1 A2 n2 c2 A3 n3 c3 w.heap.size u (s1.below hu) (s2.below hu) (s3.below hu) hu.size
      rw [hput, hvs] at h
      exact h
    obtain ⟨x1, hx1⟩ : ∃ x, X.length = x := ⟨_, rfl⟩
    have HX1L := Lib.hid hx1
    rw [hx1] at hX1 hX2 hget
    obtain ⟨nw, hnw⟩ : ∃ x, x1 + r = x := ⟨_, rfl⟩
    have hnwb : nw ≤ 2000 := by omega
    have hnw0 : 0 < nw := by omega
    have HNW := Lib.hid hnw
    obtain ⟨a, ha, hlow2⟩ := low_nat at_ nw hnw0 (by omega)
    have HL2 := Lib.hid hlow2
    obtain ⟨W0, hW0⟩ : ∃ x : List UInt8, X ++ List.replicate r 0 = x := ⟨_, rfl⟩
    rw [hW0] at hget
    have HW0 := Lib.hid hW0
    have hW0l : W0.length = nw := by rw [← hW0]; simp [hx1]; omega
    have HWL := Lib.hid hW0l
    obtain ⟨G, hG⟩ : ∃ g : Hdr, (⟨L, k, V, dst, src, tok, S, P, N % 256 ^ nl, nl⟩ : Hdr) = g := ⟨_, rfl⟩
    rw [hG] at hget
    have HG0 := Lib.hid hG
    have HGET : Hid (∀ (u : World) (A : Option Addr) (c B : Nat), Own u B (.slice A nw c) nw W0 → nw ≤ c → c ≤ maxLen → Calls Try.prog 12 #[.slice A nw c] u fun e w' => ∃ hv : List Value, e = .returned (.tuple #[.agg hv.toArray, .int .i64 (x1 : Int), .int .i64 (r : Int), .int .i64 0]) ∧ HdrW w' u.heap.size hv G ∧ Below u.heap.size u w') := fun u A c B ho h1 h2 => by
      have h := hget_any W0 A nw c u.heap.size u ho.sl (Nat.le_refl _) h1 h2
      rw [hget] at h
      exact h
    obtain ⟨⟨⟨hT, iT, jT⟩, qT⟩, hgT⟩ : ∃ g, getP (W0.take a) = g := ⟨_, rfl⟩
    have hlT : (W0.take a).length = a := by rw [List.length_take]; omega
    have HPT : Hid (∀ (u : World) (A : Option Addr) (c B : Nat), Sl u u.heap.size A a (W0.take a) → a ≤ c → c ≤ maxLen → Calls Try.prog 12 #[.slice A a c] u fun e w' => ∃ hv : List Value, e = .returned (.tuple #[.agg hv.toArray, .int .i64 (iT : Int), .int .i64 (jT : Int), .int .i64 (qT : Int)]) ∧ HdrW w' u.heap.size hv hT ∧ Below u.heap.size u w') := fun u A c B hs h1 h2 => by
      have h := hget_any (W0.take a) A a c u.heap.size u hs (Nat.le_refl _) h1 h2
      rw [hgT] at h
      exact h
    have HRT : Hid (∀ (u : World) (A : Option Addr) (c B : Nat), Sl u u.heap.size A a (W0.take a) → a ≤ c → c ≤ maxLen → Calls Try.prog 13 #[.slice A a c] u fun e w' => ∃ hv : List Value, e = .returned (.tuple #[.agg hv.toArray, .int .i64 (iT : Int), .int .i64 (jT : Int), .int .i64 (qT : Int)]) ∧ HdrW w' u.heap.size hv hT ∧ Below u.heap.size u w') := fun u A c B hs h1 h2 => by
      have h := rhget_any (W0.take a) A a c u.heap.size u hs (Nat.le_refl _) h1 h2 (by omega)
      rw [getR_getP _ (by rw [hlT]; omega), hgT] at h
      exact h
    clear hgT
    obtain ⟨⟨⟨hY, iY, jY⟩, qY⟩, hgY⟩ : ∃ g, getP (W0.set a by_) = g := ⟨_, rfl⟩
    have hlY : (W0.set a by_).length = nw := by rw [List.length_set]; exact hW0l
    have HPY : Hid (∀ (u : World) (A : Option Addr) (c B : Nat), Sl u u.heap.size A nw (W0.set a by_) → nw ≤ c → c ≤ maxLen → Calls Try.prog 12 #[.slice A nw c] u fun e w' => ∃ hv : List Value, e = .returned (.tuple #[.agg hv.toArray, .int .i64 (iY : Int), .int .i64 (jY : Int), .int .i64 (qY : Int)]) ∧ HdrW w' u.heap.size hv hY ∧ Below u.heap.size u w') := fun u A c B hs h1 h2 => by
      have h := hget_any (W0.set a by_) A nw c u.heap.size u hs (Nat.le_refl _) h1 h2
      rw [hgY] at h
      exact h
    have HRY : Hid (∀ (u : World) (A : Option Addr) (c B : Nat), Sl u u.heap.size A nw (W0.set a by_) → nw ≤ c → c ≤ maxLen → Calls Try.prog 13 #[.slice A nw c] u fun e w' => ∃ hv : List Value, e = .returned (.tuple #[.agg hv.toArray, .int .i64 (iY : Int), .int .i64 (jY : Int), .int .i64 (qY : Int)]) ∧ HdrW w' u.heap.size hv hY ∧ Below u.heap.size u w') := fun u A c B hs h1 h2 => by
      have h := rhget_any (W0.set a by_) A nw c u.heap.size u hs (Nat.le_refl _) h1 h2 (by omega)
      rw [getR_getP _ (by rw [hlY]; omega), hgY] at h
      exact h
    clear hgY
    have HS1 : Hid (∀ u : World, Below w.heap.size w u → Sl u w.heap.size A1 n1 dst ∧ Sl u w.heap.size A2 n2 src ∧ Sl u w.heap.size A3 n3 tok) := fun u hu => ⟨s1.below hu, s2.below hu, s3.below hu⟩
    have HN1 : Hid (dst.length = n1 ∧ src.length = n2 ∧ tok.length = n3 ∧ n1 ≤ maxLen ∧ n2 ≤ maxLen ∧ n3 ≤ maxLen) := ⟨s1.1, s2.1, s3.1, Nat.le_trans r1 m1, Nat.le_trans r2 m2, Nat.le_trans r3 m3⟩
    obtain ⟨P8, Q8, hcase⟩ : ∃ P8 Q8 : Nat, (nl = 1 ∧ P8 = 256 ∧ Q8 = 255) ∨ (nl = 2 ∧ P8 = 65536 ∧ Q8 = 65535) ∨ (nl = 3 ∧ P8 = 16777216 ∧ Q8 = 16777215) ∨ (nl = 4 ∧ P8 = 4294967296 ∧ Q8 = 4294967295) := by
      rcases hnl with rfl | rfl | rfl | rfl
      · exact ⟨_, _, .inl ⟨rfl, rfl, rfl⟩⟩
      · exact ⟨_, _, .inr (.inl ⟨rfl, rfl, rfl⟩)⟩
      · exact ⟨_, _, .inr (.inr (.inl ⟨rfl, rfl, rfl⟩))⟩
      · exact ⟨_, _, .inr (.inr (.inr ⟨rfl, rfl, rfl⟩))⟩
    have HCS := Lib.hid hcase
    obtain ⟨N2, hN2⟩ : ∃ x, N % 256 ^ nl = x := ⟨_, rfl⟩
    have eA : bits .and .u64 (N : Int) (Q8 : Int) = (N2 : Int) := by
      rcases hcase with ⟨rfl, rfl, rfl⟩ | ⟨rfl, rfl, rfl⟩ | ⟨rfl, rfl, rfl⟩ | ⟨rfl, rfl, rfl⟩
      · exact and_u64 N 255 N2 hN (by omega) _ rfl (by rw [← hN2]; exact Nat.and_two_pow_sub_one_eq_mod N 8)
      · exact and_u64 N 65535 N2 hN (by omega) _ rfl (by rw [← hN2]; exact Nat.and_two_pow_sub_one_eq_mod N 16)
      · exact and_u64 N 16777215 N2 hN (by omega) _ rfl (by rw [← hN2]; exact Nat.and_two_pow_sub_one_eq_mod N 24)
      · exact and_u64 N 4294967295 N2 hN (by omega) _ rfl (by rw [← hN2]; exact Nat.and_two_pow_sub_one_eq_mod N 32)
    rw [hN2] at hG
    have HG0 := Lib.hid hG
    have tx : ((x1 : Int) != (x1 : Int)) = false := by simp
    have tr : ((r : Int) != (r : Int)) = false := by simp
    have tqT : ((qT : Int) == (qT : Int)) = true := by simp
    have tiY : ((iY : Int) == (iY : Int)) = true := by simp
    have tjY : ((jY : Int) == (jY : Int)) = true := by simp
    have tqY : ((qY : Int) == (qY : Int)) = true := by simp
    have hx1b : x1 ≤ 1000 := hX2
    clear s1 s2 s3 hV hN r1 m1 r2 m2 r3 m3 hvs hM hput hget hnl hlow hlow2 hx1 hnw hW0 hW0l hG hlT hlY hcase hN2 hX1 hX2
    unfold hdrV
    go_enter Try.func4, Try.ntmps4
    have HV1 : Hid (∀ v ∈ vs, v.oneCell' = true) := by rw [← HVS.out]; exact hdrV_one _ _ _ _ _ _ _ _ _ _ _ _ _ _ _ _
    have HV0 : Hid (hdr0.length = vs.length) := by rw [← HVS.out]; exact rfl
    go_upto_region 10 with (first | ((with_reducible refine wpList_load_rwG 46 rfl 26 (.tmp 4) rfl ?hw w.heap.size ?hx 26 vs ?hB _ Try.underlying26 rfl HSZ.out ?_); (case hw => rfl); (case hx => with_unfolding_all rfl); (case hB => rw [← HVS.out]; exact heap_alloc_new w _)) | (go_at_call 15; (with_reducible refine (HM.out _).mono ?_); rintro e1 w1 ⟨rfl, b1⟩; have R1 : Hid (Rw w1 w.heap.size 26 vs) := (show Rw (w.alloc _) _ _ vs by rw [← HVS.out]; exact heap_alloc_new w _).below b1; have B1 : Hid (Below w.heap.size w w1) := ((Below.refl _ w).alloc (Nat.le_refl _) _).trans (b1.mono (by simp)); clear b1) | (go_at_call 19; (with_reducible refine (HL.out _).mono ?_); rintro e w' ⟨rfl, rfl⟩) | ((with_reducible refine wpList_load_rw rfl 26 (.tmp 4) rfl w.heap.size ?hx 26 vs ?hB _ Try.underlying26 rfl HSZ.out ?_); (case hx => with_unfolding_all rfl); (case hB => first | exact R6.out | exact R1.out)) | (go_at_call 10; (with_reducible refine (HP.out _ B1.out).mono ?_); rintro e2 w2 ⟨X1, x2, xc1, rfl, ox, lx, mx, b2⟩; simp only at ox; obtain rfl : x1 = x2 := HX1L.out.symm.trans ox.len; have R2 := Lib.hid (R1.out.below b2); have B2 := Lib.hid (B1.out.trans (b2.mono B1.out.size)); have OX2 := Lib.hid ox; clear ox lx mx b2) | (go_at_call 20; (with_reducible refine (copied_any X X1 x1 xc1 w2.heap.size w2 OX2.out.sl (by omega)).mono ?_); rintro e3 w3 ⟨X3, d3, rfl, ho, hle, hc, b3⟩; have R3 := Lib.hid (R2.out.below b3); have B3 := Lib.hid (B2.out.trans (b3.mono B2.out.size)); have O3 := Lib.hid ho; have S3 := Lib.hid b3; clear ho hle hc b3) | (at_builtin; (refine wpList_append_zeros rfl (.tmp 62) (.tmp 63) rfl w2.heap.size (.slice X3 x1 d3) x1 r nw X rfl O3.out rfl HNW.out (by omega) S3.out.size w3 (Below.refl _ _) ?_); intro X4 d4 w4 O4 hle4 hc4 b4; rw [HW0.out] at O4; have HD4 : Hid (nw ≤ d4 ∧ d4 ≤ maxLen) := ⟨hle4, hc4⟩; have S4 := Lib.hid (S3.out.trans b4.out); have R4 := Lib.hid (R3.out.belowB b4.out (R2.out.lt)); have B4 := Lib.hid (B3.out.trans (b4.out.mono B2.out.size)); clear hle4 hc4 b4) | (go_at_call 12; (with_reducible refine (HGET.out _ X4 d4 _ O4.out HD4.out.1 HD4.out.2).mono ?_); rintro e5 w5 ⟨hv1, rfl, hw1, b5⟩; have R5 := Lib.hid (R4.out.below b5); have B5 := Lib.hid (B4.out.trans (b5.mono B4.out.size)); have O5 := Lib.hid (O4.out.below b5); have W5 := Lib.hid hw1; have HA1 := Lib.hid hw1.len; have HA2 := Lib.hid hw1.one; have HA3 : Hid (hdr0.length = hv1.length) := hw1.len0; have HS45 : Hid (w4.heap.size ≤ w5.heap.size) := b5.size; clear hw1 b5) | ((with_reducible refine wpList_store_rw rfl 26 (.tmp 12) (.tmp 68) rfl w5.heap.size hv1 ?hx ?hy 26 hdr0 ?hB (hdr_sizeL hv1 HA1.out) HA3.out HA2.out ?_); (case hx => with_unfolding_all rfl); (case hy => with_unfolding_all rfl); (case hB => exact heap_alloc_new w5 _); intro w6 Rn On; have bn : Below w5.heap.size w5 w6 := ((Below.refl _ w5).alloc (Nat.le_refl _) _).trans (On.out.below (by simp) (Nat.le_refl _)); have Q6 := Lib.hid Rn.out; have R6 := Lib.hid (R5.out.below bn); have B6 := Lib.hid (B5.out.trans (bn.mono B5.out.size)); have O6 := Lib.hid (O5.out.below bn); have W6 := Lib.hid (W5.out.below bn); clear On bn Rn) | ((with_reducible refine wpList_store_rw rfl 26 (.tmp 16) (.tmp 72) rfl w6.heap.size vs ?hx ?hy 26 hdr0 ?hB (HSZ.out) HV0.out HV1.out ?_); (case hx => with_unfolding_all rfl); (case hy => with_unfolding_all rfl); (case hB => exact heap_alloc_new w6 _); intro w7 Rn On; have bn : Below w6.heap.size w6 w7 := ((Below.refl _ w6).alloc (Nat.le_refl _) _).trans (On.out.below (by simp) (Nat.le_refl _)); have T7 := Lib.hid Rn.out; have R7 := Lib.hid (R6.out.below bn); have B7 := Lib.hid (B6.out.trans (bn.mono B6.out.size)); have O7 := Lib.hid (O6.out.below bn); have W7 := Lib.hid (W6.out.below bn); have Q7 := Lib.hid (Q6.out.below bn); clear On bn Rn))
    refine wp_held (S := fun u => Rw u w.heap.size 26 vs) (by kernel_rfl) ?_
    replace R7 := Lib.hid R7.out.drew
    replace B7 := Lib.hid B7.out.drew
    replace O7 := Lib.hid O7.out.drew
    replace Q7 := Lib.hid Q7.out.drew
    replace T7 := Lib.hid T7.out.drew
    replace W7 := Lib.hid (W7.out.below (w' := w7.drew) (Below.refl _ _).drew)
    obtain ⟨w0, hw0⟩ : ∃ x, w7.drew = x := ⟨_, rfl⟩
    have HSW : Hid (w7.heap.size = w0.heap.size) := show _ = _ by rw [← hw0]; rfl
    rw [hw0] at R7 B7 O7 Q7 T7 W7 ⊢
    clear hw0
    have hS := R7.out
    refine wpAnyH_take (i := 0) (v := ?_) rfl (by kernel_rfl) (by kernel_rfl) (by kernel_rfl) (fun _ _ _ h => h) (Or.inl ⟨by rfl, ?_⟩) hS ?_
    rotate_left 1
    · intro u hu
      obtain ⟨q0, q1, q2, q3, q4, q5, q6, q7, q8, q9⟩ := hdr_cells (HVS.out ▸ hu)
      go_simp
      first | done | with_reducible rfl
    go_simp
    refine wpAnyH_take (i := 1) (v := ?_) rfl (by kernel_rfl) (by kernel_rfl) (by kernel_rfl) (fun _ _ _ h => h) (Or.inl ⟨by rfl, ?_⟩) hS ?_
    rotate_left 1
    · intro u hu
      obtain ⟨q0, q1, q2, q3, q4, q5, q6, q7, q8, q9⟩ := hdr_cells (HVS.out ▸ hu)
      go_simp
      first | done | with_reducible rfl
    go_simp
    refine wpAnyH_take (i := 2) (v := ?_) rfl (by kernel_rfl) (by kernel_rfl) (by kernel_rfl) (fun _ _ _ h => h) (Or.inl ⟨by rfl, ?_⟩) hS ?_
    rotate_left 1
    · intro u hu
      obtain ⟨q0, q1, q2, q3, q4, q5, q6, q7, q8, q9⟩ := hdr_cells (HVS.out ▸ hu)
      go_simp
      first | done | with_reducible rfl
    go_simp
    refine wpAnyH_take (i := 3) (v := ?_) rfl (by kernel_rfl) (by kernel_rfl) (by kernel_rfl) (fun _ _ _ h => h) (Or.inl ⟨by rfl, ?_⟩) hS ?_
    rotate_left 1
    · intro u hu
      obtain ⟨q0, q1, q2, q3, q4, q5, q6, q7, q8, q9⟩ := hdr_cells (HVS.out ▸ hu)
      go_simp
      first | done | with_reducible rfl
    go_simp
    refine wpAnyH_take (i := 4) (v := .int .i64 (8 * (nl : Int))) rfl (by kernel_rfl) (by kernel_rfl) (by kernel_rfl) (fun _ _ _ h => h) (Or.inl ⟨by rfl, ?_⟩) hS ?_
    · intro u hu
      rcases HCS.out with ⟨rfl, rfl, rfl⟩ | ⟨rfl, rfl, rfl⟩ | ⟨rfl, rfl, rfl⟩ | ⟨rfl, rfl, rfl⟩ <;> (go_simp; first | done | rfl)
    go_simp
    refine wpAnyH_take (i := 5) (v := .int .u64 (P8 : Int)) rfl (by kernel_rfl) (by kernel_rfl) (by kernel_rfl) (fun _ _ _ h => h) (Or.inl ⟨by rfl, ?_⟩) hS ?_
    · intro u hu
      rcases HCS.out with ⟨rfl, rfl, rfl⟩ | ⟨rfl, rfl, rfl⟩ | ⟨rfl, rfl, rfl⟩ | ⟨rfl, rfl, rfl⟩ <;> (go_simp; first | done | rfl)
    go_simp
    refine wpAnyH_take (i := 6) (v := .int .u64 (Q8 : Int)) rfl (by kernel_rfl) (by kernel_rfl) (by kernel_rfl) (fun _ _ _ h => h) (Or.inl ⟨by rfl, ?_⟩) hS ?_
    · intro u hu
      rcases HCS.out with ⟨rfl, rfl, rfl⟩ | ⟨rfl, rfl, rfl⟩ | ⟨rfl, rfl, rfl⟩ | ⟨rfl, rfl, rfl⟩ <;> (go_simp; first | done | rfl)
    go_simp
    refine wpAnyH_take (i := 7) (v := ?_) rfl (by kernel_rfl) (by kernel_rfl) (by kernel_rfl) (fun _ _ _ h => h) (Or.inl ⟨by rfl, ?_⟩) hS ?_
    rotate_left 1
    · intro u hu
      obtain ⟨q0, q1, q2, q3, q4, q5, q6, q7, q8, q9⟩ := hdr_cells (HVS.out ▸ hu)
      go_simp
      first | done | with_reducible rfl
    go_simp
    refine wpAnyH_take (i := 8) (v := ?_) rfl (by kernel_rfl) (by kernel_rfl) (by kernel_rfl) (fun _ _ _ h => h) (Or.inl ⟨by rfl, ?_⟩) hS ?_
    rotate_left 1
    · intro u hu
      obtain ⟨q0, q1, q2, q3, q4, q5, q6, q7, q8, q9⟩ := hdr_cells (HVS.out ▸ hu)
      go_simp
      first | done | with_reducible rfl
    go_simp
    refine wpAnyH_oneG 9 (by kernel_rfl) rfl (by rfl) ?_
    refine wp_put_rw 24 (.tmp 81) (.tmp 80) rfl w6.heap.size 8 (.int .u64 (N2 : Int)) (by with_unfolding_all rfl) (by with_unfolding_all rfl) rfl rfl 26 vs T7.out sz_u64 (by rw [← HVS.out]; simp [hdrV]) ?_
    intro w8 R8n O8n
    obtain ⟨ws, hws⟩ : ∃ x, vs.set 8 (.int .u64 (N2 : Int)) = x := ⟨_, rfl⟩
    rw [hws] at R8n
    have HWS : Hid (hdrV L k V A1 n1 c1 A2 n2 c2 A3 n3 c3 S P N2 nl = ws) := show _ = _ by rw [← hws, ← HVS.out]; rfl
    have HWZ : Hid ((Try.prog.info? 26).map (·.size) = some ws.length) := show _ = _ by rw [← HWS.out]; exact hdr_size
    clear hws
    have H61 : Hid (w.heap.size + 1 ≤ w6.heap.size) := R6.out.lt
    have H56 : Hid (w5.heap.size < w6.heap.size) := Q6.out.lt
    have H24 : Hid (w2.heap.size ≤ w4.heap.size) := S4.out.size
    have H46 : Hid (w4.heap.size ≤ w6.heap.size) := Nat.le_trans HS45.out (Nat.le_of_lt H56.out)
    have HLO : Hid (w.heap.size + 1 ≤ w2.heap.size) := R2.out.lt
    have R8 := Lib.hid (R7.out.only O8n.out (by have := H61.out; omega))
    have Q8b := Lib.hid (Q7.out.only O8n.out (by have := H56.out; omega))
    have B8 := Lib.hid (B7.out.trans (O8n.out.below B7.out.size (by have := H61.out; omega)))
    obtain ⟨g4, rfl, hg4a, hg4b⟩ := O4.out.at_ hnw0
    have HG4 : Hid (w2.heap.size ≤ g4 ∧ g4 < w4.heap.size) := ⟨hg4a, hg4b⟩
    clear hg4a hg4b
    have O8 := Lib.hid (O7.out.only O8n.out (by have := HG4.out; have := H46.out; omega))
    have HO5 := Lib.hid W5.out
    obtain ⟨D1, d1, dc1, D2, d2, dc2, D3, d3', dc3, ehv, ⟨p1, _, _⟩, ⟨p2, _, _⟩, ⟨p3, _, _⟩, _⟩ := W7.out
    obtain ⟨E1, f1, fc1, E2, f2, fc2, E3, f3, fc3, ehv5, ⟨u1, _, _⟩, ⟨u2, _, _⟩, ⟨u3, _, _⟩, _⟩ := HO5.out
    have einj := ehv5.symm.trans ehv
    simp only [List.cons.injEq, Value.slice.injEq, true_and, and_true] at einj
    obtain ⟨⟨rfl, rfl, rfl⟩, ⟨rfl, rfl, rfl⟩, rfl, rfl, rfl⟩ := einj
    have HSH : Hid (∀ u : World, Below w8.heap.size w8 u → Calls Try.prog 17 #[.agg hv1.toArray, .agg ws.toArray] u fun e w' => e = .returned (.bool true) ∧ Below u.heap.size u w') := fun u hu => by
      have hne : ∀ a : Addr, a.block < w5.heap.size → a.block ≠ w6.heap.size := fun a h => by have := H56.out; omega
      have z1 := ((p1.onlyA O8n.out fun a h => hne a (u1.blk a h).2).below hu).sl
      have z2 := ((p2.onlyA O8n.out fun a h => hne a (u2.blk a h).2).below hu).sl
      have z3 := ((p3.onlyA O8n.out fun a h => hne a (u3.blk a h).2).below hu).sl
      have bu := B8.out.trans (hu.mono B8.out.size)
      obtain ⟨y1, y2, y3⟩ := HS1.out u bu
      obtain ⟨l1, l2, l3, m1, m2, m3⟩ := HN1.out
      have e := HG0.out
      subst e
      simp only at z1 z2 z3 ehv5
      obtain rfl : n1 = f1 := l1.symm.trans z1.1
      obtain rfl : n2 = f2 := l2.symm.trans z2.1
      obtain rfl : n3 = f3 := l3.symm.trans z3.1
      rw [← HWS.out, ehv5]
      exact sameHeader_yes L k V N2 nl S P dst src tok E1 n1 fc1 E2 n2 fc2 E3 n3 fc3 A1 c1 A2 c2 A3 c3 u z1 z2 z3 (y1.more bu.size) (y2.more bu.size) (y3.more bu.size) m1 m2 m3
    clear p1 p2 p3 u1 u2 u3 ehv ehv5
    refine ⟨R8.out, ?_⟩
    go_simp
    refine wpAnyH_done (by kernel_rfl) ?_ _
    clear hS
    go_upto_region 13 with (first | ((with_reducible refine wpList_load_rwG 96 rfl 26 (.tmp 12) rfl ?hw w5.heap.size ?hx 26 hv1 Q8b.out _ Try.underlying26 rfl (hdr_sizeL hv1 HA1.out) ?_); (case hw => rfl); (case hx => with_unfolding_all rfl)) | ((with_reducible refine wpList_load_rwG 97 rfl 26 (.tmp 16) rfl ?hw w6.heap.size ?hx 26 ws R8n.out _ Try.underlying26 rfl HWZ.out ?_); (case hw => rfl); (case hx => with_unfolding_all rfl)) | (go_at_call 17; (with_reducible refine (HSH.out _ (Below.refl _ _)).mono ?_); rintro e9 w9 ⟨rfl, b9⟩; have B9 := Lib.hid (B8.out.trans (b9.mono B8.out.size)); have O9 := Lib.hid (O8.out.below b9); clear b9))
    have hcut : ∀ u : World, (Instr.slice 23 (.slice (some ⟨g4, 0, none⟩) nw d4) none (some (.int .i64 (a : Int))) none).run Try.prog u = .ok (.slice (some ⟨g4, 0, none⟩) a d4) u := fun u => by
      rw [run_cut_to u _ nw d4 a (by have := HD4.out.1; omega), if_neg (by have := HD4.out.1; omega)]
      rfl
    have hab : a ≤ 2000 := by omega
    go_upto_region 16 with (first | (go_at_call 19; (with_reducible refine (HL2.out _).mono ?_); rintro e w' ⟨rfl, rfl⟩) | (go_at_call 12; (with_reducible refine (HPT.out _ _ d4 0 ( (O9.out.sl.take (Nat.le_of_lt ha))) ?hle HD4.out.2).mono ?_); (case hle => have := HD4.out.1; omega); rintro e10 w10 ⟨hv3, rfl, hw1, bb⟩; have W10 := Lib.hid hw1; have HT1 := Lib.hid hw1.len; have HT2 := Lib.hid hw1.one; have HT3 : Hid (hdr0.length = hv3.length) := hw1.len0; have B10 := Lib.hid (B9.out.trans (bb.mono B9.out.size)); have O10 := Lib.hid (O9.out.below bb); clear hw1 bb) | ((with_reducible refine wpList_store_rw rfl 26 (.tmp 17) (.tmp 110) rfl w10.heap.size hv3 ?hx ?hy 26 hdr0 ?hB (hdr_sizeL hv3 HT1.out) HT3.out HT2.out ?_); (case hx => with_unfolding_all rfl); (case hy => with_unfolding_all rfl); (case hB => exact heap_alloc_new w10 _); intro w11 Rn On; have bn : Below w10.heap.size w10 w11 := ((Below.refl _ w10).alloc (Nat.le_refl _) _).trans (On.out.below (by simp) (Nat.le_refl _)); have B11 := Lib.hid (B10.out.trans (bn.mono B10.out.size)); have O11 := Lib.hid (O10.out.below bn); clear On bn Rn) | (go_at_call 13; (with_reducible refine (HRT.out _ _ d4 0 ((O11.out.sl.take (Nat.le_of_lt ha))) ?hle HD4.out.2).mono ?_); (case hle => have := HD4.out.1; omega); rintro e12 w12 ⟨hv4, rfl, hw1, bb⟩; have W12 := Lib.hid hw1; have HU1 := Lib.hid hw1.len; have HU2 := Lib.hid hw1.one; have HU3 : Hid (hdr0.length = hv4.length) := hw1.len0; have B12 := Lib.hid (B11.out.trans (bb.mono B11.out.size)); have O12 := Lib.hid (O11.out.below bb); clear hw1 bb) | ((with_reducible refine wpList_store_rw rfl 26 (.tmp 21) (.tmp 119) rfl w12.heap.size hv4 ?hx ?hy 26 hdr0 ?hB (hdr_sizeL hv4 HU1.out) HU3.out HU2.out ?_); (case hx => with_unfolding_all rfl); (case hy => with_unfolding_all rfl); (case hB => exact heap_alloc_new w12 _); intro w13 Rn On; have bn : Below w12.heap.size w12 w13 := ((Below.refl _ w12).alloc (Nat.le_refl _) _).trans (On.out.below (by simp) (Nat.le_refl _)); have B13 := Lib.hid (B12.out.trans (bn.mono B12.out.size)); have O13 := Lib.hid (O12.out.below bn); have cd := O13.out.cell a (by rw [HWL.out]; exact ha); have cf := O13.out.frozen a; clear On bn Rn))
    have la : (a : Int) < (nw : Int) := by omega
    go_upto_region 17 with fail
    obtain ⟨w14, hw14⟩ : ∃ x, w13.setCell ⟨g4, a, none⟩ (.int .u8 (bn by_)) = x := ⟨_, rfl⟩
    have O14 : Hid (Own w14 w2.heap.size (.slice (some ⟨g4, 0, none⟩) nw d4) nw (W0.set a by_)) := show Own _ _ _ _ _ by rw [← hw14]; exact O13.out.store a by_ _ rfl
    have B14 : Hid (Below w.heap.size w w14) := show Below _ _ _ by rw [← hw14]; exact B13.out.trans (((Only.refl g4 w13).setCell a _).below B13.out.size (by have := HG4.out; have := HLO.out; omega))
    rw [hw14]
    clear hw14 cd cf
    go_wp2_with (first | (go_at_call 12; (with_reducible refine (HPY.out _ _ d4 0 (O14.out.sl) ?hle HD4.out.2).mono ?_); (case hle => have := HD4.out.1; omega); rintro e15 w15 ⟨hv5, rfl, hw1, bb⟩; have W15 := Lib.hid hw1; have HE1 := Lib.hid hw1.len; have HE2 := Lib.hid hw1.one; have HE3 : Hid (hdr0.length = hv5.length) := hw1.len0; have B15 := Lib.hid (B14.out.trans (bb.mono B14.out.size)); have O15 := Lib.hid (O14.out.below bb); clear hw1 bb) | ((with_reducible refine wpList_store_rw rfl 26 (.tmp 25) (.tmp 130) rfl w15.heap.size hv5 ?hx ?hy 26 hdr0 ?hB (hdr_sizeL hv5 HE1.out) HE3.out HE2.out ?_); (case hx => with_unfolding_all rfl); (case hy => with_unfolding_all rfl); (case hB => exact heap_alloc_new w15 _); intro w16 Rn On; have bn : Below w15.heap.size w15 w16 := ((Below.refl _ w15).alloc (Nat.le_refl _) _).trans (On.out.below (by simp) (Nat.le_refl _)); have Q16 := Lib.hid Rn.out; have B16 := Lib.hid (B15.out.trans (bn.mono B15.out.size)); have O16 := Lib.hid (O15.out.below bn); have W16 := Lib.hid (W15.out.below bn); clear On bn Rn) | (go_at_call 13; (with_reducible refine (HRY.out _ _ d4 0 (O16.out.sl) ?hle HD4.out.2).mono ?_); (case hle => have := HD4.out.1; omega); rintro e17 w17 ⟨hv6, rfl, hw1, bb⟩; have U17 := Lib.hid hw1; have W17 := Lib.hid (W16.out.below bb); have HF1 := Lib.hid hw1.len; have HF2 := Lib.hid hw1.one; have HF3 : Hid (hdr0.length = hv6.length) := hw1.len0; have B17 := Lib.hid (B16.out.trans (bb.mono B16.out.size)); have O17 := Lib.hid (O16.out.below bb); have Q17 := Lib.hid (Q16.out.below bb); clear hw1 bb) | ((with_reducible refine wpList_store_rw rfl 26 (.tmp 29) (.tmp 137) rfl w17.heap.size hv6 ?hx ?hy 26 hdr0 ?hB (hdr_sizeL hv6 HF1.out) HF3.out HF2.out ?_); (case hx => with_unfolding_all rfl); (case hy => with_unfolding_all rfl); (case hB => exact heap_alloc_new w17 _); intro w18 Rn On; have bn : Below w17.heap.size w17 w18 := ((Below.refl _ w17).alloc (Nat.le_refl _) _).trans (On.out.below (by simp) (Nat.le_refl _)); have T18 := Lib.hid Rn.out; have B18 := Lib.hid (B17.out.trans (bn.mono B17.out.size)); have W18 := Lib.hid (W17.out.below bn); have U18 := Lib.hid (U17.out.below bn); have Q18 := Lib.hid (Q17.out.below bn); clear On bn Rn) | ((with_reducible refine wpList_load_rwG 145 rfl 26 (.tmp 25) rfl ?hw w15.heap.size ?hx 26 hv5 Q18.out _ Try.underlying26 rfl (hdr_sizeL hv5 HE1.out) ?_); (case hw => rfl); (case hx => with_unfolding_all rfl)) | ((with_reducible refine wpList_load_rwG 146 rfl 26 (.tmp 29) rfl ?hw w17.heap.size ?hx 26 hv6 T18.out _ Try.underlying26 rfl (hdr_sizeL hv6 HF1.out) ?_); (case hw => rfl); (case hx => with_unfolding_all rfl)) | (go_at_call 17; (with_reducible refine (sameHdr W18.out U18.out).mono ?_); rintro e19 w19 ⟨rfl, b19⟩; have B19 := Lib.hid (B18.out.trans (b19.mono B18.out.size)); clear b19) | (go_at_call 9; (with_reducible refine (awake_any _).mono ?_); rintro e99 w99 ⟨rfl, b99⟩))
    go_ret
    exact ⟨rfl, B19.out.trans (b99.mono B19.out.size)⟩
  · rw [decide_eq_false hM] at HM
    clear s1 s2 s3 hvs hM
    unfold hdrV
    go_enter Try.func4, Try.ntmps4
    go_wp2_with (first | ((with_reducible refine wpList_load_rwG 46 rfl 26 (.tmp 4) rfl ?hw w.heap.size ?hx 26 vs ?hB _ Try.underlying26 rfl HSZ.out ?_); (case hw => rfl); (case hx => with_unfolding_all rfl); (case hB => rw [← HVS.out]; exact heap_alloc_new w _)) | (go_at_call 15; (with_reducible refine (HM.out _).mono ?_); rintro e1 w1 ⟨rfl, b1⟩; have R1 : Hid (Rw w1 w.heap.size 26 vs) := (show Rw (w.alloc _) _ _ vs by rw [← HVS.out]; exact heap_alloc_new w _).below b1; have B1 : Hid (Below w.heap.size w w1) := ((Below.refl _ w).alloc (Nat.le_refl _) _).trans (b1.mono (by simp)); clear b1) | (go_at_call 9; (with_reducible refine (awake_any _).mono ?_); rintro e99 w99 ⟨rfl, b99⟩))
    go_ret
    exact ⟨rfl, B1.out.trans (b99.mono B1.out.size)⟩
end Go.Proofs.Ytonoljcgcfjkmaa
