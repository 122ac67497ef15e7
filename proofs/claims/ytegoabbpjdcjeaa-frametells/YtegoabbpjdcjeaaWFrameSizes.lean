/-
  FrameSizes: the law's walk.
-/
import Derived.Test.YtegoabbpjdcjeaaFrU
import Derived.Test.YtegoabbpjdcjeaaLow
namespace Go.Proofs.Ytegoabbpjdcjeaa
open Go.RowKit
set_option linter.unusedVariables false

theorem and_u64F (b m V : Nat) (hb : b < 18446744073709551616) (hm : m < 18446744073709551616) (M : Int) (hM : M = (m : Int)) (hV : b &&& m = V) : bits .and .u64 (b : Int) M = (V : Int) := by
  subst hM
  rw [u64_and_nat b m hb hm, hV]
def strF (id off : Nat) (fin : Bool) (d : List UInt8) : Fr := { Fr.of 8 with id := id, off := off, fin := fin, data := d }
def cryF (off : Nat) (d : List UInt8) : Fr := { Fr.of 6 with off := off, data := d }
theorem strF_may (id off : Nat) (fin : Bool) (d : List UInt8) (hi : id ≤ maxV) (hd : d.length < 16384) (ho : off + d.length ≤ maxV) : MayF (strF id off fin d) := by
  unfold MayF strF
  simp [plainF, Fr.of, hi, hd, ho]
theorem cryF_may (off : Nat) (d : List UInt8) (hd : d.length < 16384) (ho : off + d.length ≤ maxV) : MayF (cryF off d) := by
  unfold MayF cryF
  simp [plainF, Fr.of, hd, ho]
/-- where the list of a frame of data lies -/
def datP (A : Option Addr) (n c : Nat) : Fp := { Fp.nil with da := A, dn := n, dc := c }
theorem datP_l {u : World} {B : Nat} {A : Option Addr} {n c : Nat} {f : Fr} (hr : f.rs = []) (hc : f.cid = []) (ht : f.tok = []) (hs : Sl u B A n f.data) (hnc : n ≤ c) (hm : c ≤ maxLen) : FrL u B f (datP A n c) := by
  refine ⟨?_, hs, ?_, ?_, ⟨Nat.le_refl _, by simp [datP, Fp.nil, maxLen]⟩, ⟨hnc, hm⟩, ⟨Nat.le_refl _, by simp [datP, Fp.nil, maxLen]⟩, ⟨Nat.le_refl _, by simp [datP, Fp.nil, maxLen]⟩⟩
  · rw [hr]; exact SlR.nil
  · rw [hc]; exact Sl.nil
  · rw [ht]; exact Sl.nil
set_option maxHeartbeats 8000000 in
set_option maxRecDepth 8000 in
theorem sizes_walk (i0 o0 : Nat) (hi0 : i0 < 18446744073709551616) (ho0 : o0 < 18446744073709551616) (a : Int) (fin : Bool) (w : World) :
    Calls Try.prog 8 #[.int .u64 (i0 : Int), .int .u64 (o0 : Int), .int .i64 a, .bool fin] w fun e w' => e = .returned (.bool true) ∧ Below w.heap.size w w' := by
  obtain ⟨m, hm, hlow⟩ := low_nat a 401 (by omega) (by omega)
  have HLOW : Hid (∀ u : World, Calls Try.prog 26 #[.int .i64 a, .int .i64 401] u fun e w' => e = .returned (.int .i64 (m : Int)) ∧ u = w') := hlow
  obtain ⟨id, hid⟩ : ∃ v, i0 % 2305843009213693952 = v := ⟨_, rfl⟩
  obtain ⟨off, hoff⟩ : ∃ v, o0 % 2305843009213693952 = v := ⟨_, rfl⟩
  have e1 := and_u64F i0 2305843009213693951 id hi0 (by omega) 2305843009213693951 rfl (by rw [← hid]; exact Nat.and_two_pow_sub_one_eq_mod i0 61)
  have e2 := and_u64F o0 2305843009213693951 off ho0 (by omega) 2305843009213693951 rfl (by rw [← hoff]; exact Nat.and_two_pow_sub_one_eq_mod o0 61)
  have hid2 : id < 2305843009213693952 := by omega
  have hoff2 : off < 2305843009213693952 := by omega
  have HGR := Lib.hid (fun u => grow_any m m (by omega) (by omega) u)
  have hgl := growL_length m m
  obtain ⟨dl, hdl⟩ : ∃ l, growL m m = l := ⟨_, rfl⟩
  rw [hdl] at HGR hgl
  have hmf : MayF (strF id off fin dl) := strF_may id off fin dl (by unfold maxV; omega) (by omega) (by unfold maxV; omega)
  have hmg : MayF (cryF off dl) := cryF_may off dl (by omega) (by unfold maxV; omega)
  have hnf : FrN (strF id off fin dl) := ⟨by show -9223372036854775808 ≤ (8 : Int) ∧ (8 : Int) < _; omega, by show 0 < _; omega, by show 0 < _; omega, by show id < _; omega, by show off < _; omega, fun x hx => by cases hx⟩
  have hng : FrN (cryF off dl) := ⟨by show -9223372036854775808 ≤ (6 : Int) ∧ (6 : Int) < _; omega, by show 0 < _; omega, by show 0 < _; omega, by show 0 < _; omega, by show off < _; omega, fun x hx => by cases hx⟩
  have hlf : (putF (strF id off fin dl)).length = 1 + lenV id + lenV off + lenV m + m := by
    have := stream_len id off fin dl (by unfold maxV; omega) (by unfold maxV; omega) (by unfold maxV; omega)
    rw [hgl] at this
    exact this
  have hlg : (putF (cryF off dl)).length = 1 + lenV off + lenV m + m := by
    have := crypto_len off dl (by unfold maxV; omega) (by unfold maxV; omega)
    rw [hgl] at this
    exact this
  have HF : Hid (∀ (u : World) (A : Option Addr) (c : Nat), Sl u u.heap.size A m dl → m ≤ c → c ≤ maxLen →
      (Calls Try.prog 17 #[.agg (frV (strF id off fin dl) (datP A m c)).toArray] u fun e w' => e = .returned (.int .i64 ((1 + lenV id + lenV off + lenV m + m : Nat) : Int)) ∧ Below u.heap.size u w') ∧
      (Calls Try.prog 18 #[.agg (frV (strF id off fin dl) (datP A m c)).toArray] u fun e w' => e = .returned (.bool true) ∧ Below u.heap.size u w')) := fun u A c hs h1 h2 => by
    have hl := flen_any (strF id off fin dl) (datP A m c) u.heap.size u (Nat.le_refl _) (datP_l rfl rfl rfl hs h1 h2) hnf _ ⟨fun _ => rfl, fun h => absurd hmf h⟩
    rw [hlf] at hl
    exact ⟨hl, elic_any _ _ u true (by simp [strF, Fr.of])⟩
  have HG : Hid (∀ (u : World) (A : Option Addr) (c : Nat), Sl u u.heap.size A m dl → m ≤ c → c ≤ maxLen →
      (Calls Try.prog 17 #[.agg (frV (cryF off dl) (datP A m c)).toArray] u fun e w' => e = .returned (.int .i64 ((1 + lenV off + lenV m + m : Nat) : Int)) ∧ Below u.heap.size u w') ∧
      (Calls Try.prog 18 #[.agg (frV (cryF off dl) (datP A m c)).toArray] u fun e w' => e = .returned (.bool true) ∧ Below u.heap.size u w')) := fun u A c hs h1 h2 => by
    have hl := flen_any (cryF off dl) (datP A m c) u.heap.size u (Nat.le_refl _) (datP_l rfl rfl rfl hs h1 h2) hng _ ⟨fun _ => rfl, fun h => absurd hmg h⟩
    rw [hlg] at hl
    exact ⟨hl, elic_any _ _ u true (by simp [cryF, Fr.of])⟩
  have HS : Hid (∀ (u : World) (A : Option Addr) (c : Nat) (A' : Option Addr) (c' : Nat), Sl u u.heap.size A m dl → m ≤ c → c ≤ maxLen → Sl u u.heap.size A' m dl → m ≤ c' → c' ≤ maxLen →
      Calls Try.prog 19 #[.agg (frV (strF id off fin dl) (datP A m c)).toArray, .agg (frV (cryF off dl) (datP A' m c')).toArray] u fun e w' => e = .returned (.bool false) ∧ Below u.heap.size u w') := fun u A c A' c' hs h1 h2 hs' h1' h2' =>
    fsame_any _ _ (datP A m c) (datP A' m c') u.heap.size u (Nat.le_refl _) (datP_l rfl rfl rfl hs h1 h2) (datP_l rfl rfl rfl hs' h1' h2') false (by simp [strF, cryF, Fr.of])
  obtain ⟨s1, hs1⟩ : ∃ v, lenV id = v := ⟨_, rfl⟩
  obtain ⟨s2, hs2⟩ : ∃ v, lenV off = v := ⟨_, rfl⟩
  obtain ⟨s3, hs3⟩ : ∃ v, lenV m = v := ⟨_, rfl⟩
  have b1 : s1 ≤ 8 := by have := cls_cases id; omega
  have b2 : s2 ≤ 8 := by have := cls_cases off; omega
  have b3 : s3 ≤ 8 := by have := cls_cases m; omega
  have HZ1 : Hid (∀ u : World, Calls Try.prog 29 #[.int .u64 (id : Int)] u fun e w' => e = .returned (.int .i64 (s1 : Int)) ∧ u = w') := fun u => by have := size_any id (by omega) u; rwa [hs1] at this
  have HZ2 : Hid (∀ u : World, Calls Try.prog 29 #[.int .u64 (off : Int)] u fun e w' => e = .returned (.int .i64 (s2 : Int)) ∧ u = w') := fun u => by have := size_any off (by omega) u; rwa [hs2] at this
  have HZ3 : Hid (∀ u : World, Calls Try.prog 29 #[.int .u64 (m : Int)] u fun e w' => e = .returned (.int .i64 (s3 : Int)) ∧ u = w') := fun u => by have := size_any m (by omega) u; rwa [hs3] at this
  rw [hs1, hs2, hs3] at HF
  rw [hs2, hs3] at HG
  obtain ⟨t1, ht1⟩ : ∃ t : Nat, 1 + s1 + s2 + s3 + m = t := ⟨_, rfl⟩
  obtain ⟨t2, ht2⟩ : ∃ t : Nat, 1 + s2 + s3 + m = t := ⟨_, rfl⟩
  rw [ht1] at HF
  rw [ht2] at HG
  have q1 : (((t1 : Int)) == 1 + (s1 : Int) + (s2 : Int) + (s3 : Int) + (m : Int)) = true := by simp; omega
  have q2 : (((t2 : Int)) == 1 + (s2 : Int) + (s3 : Int) + (m : Int)) = true := by simp; omega
  have wm : IntKind.u64.wrap (m : Int) = (m : Int) := by rw [wrap_u64N]; omega
  have HGL := Lib.hid hgl
  have HAW := Lib.hid awake_any
  clear hmf hmg hnf hng hlf hlg hgl hdl hid hoff hs1 hs2 hs3 ht1 ht2 hlow
  go_enter Try.func8, Try.ntmps8
  go_wp2_with fail
  (with_reducible refine (HLOW.out _).mono ?_)
  rintro e0 w0 ⟨rfl, rfl⟩
  go_wp2_with fail
  (with_reducible refine (HGR.out _).mono ?_)
  rintro e1 w1 ⟨A1, n1, c1, rfl, o, b⟩
  obtain rfl : m = n1 := HGL.out.symm.trans o.len
  have O1 := Lib.hid o
  have B1 := Lib.hid b
  clear o b
  obtain ⟨vs, hvs⟩ : ∃ vs, frV (strF id off fin dl) (datP A1 m c1) = vs := ⟨_, rfl⟩
  have HVS : Hid (vs = [.int .i64 8, .int .u64 0, .int .u64 0, .slice none 0 0, .int .u64 (id : Int), .int .u64 (off : Int), .bool fin, .slice A1 m c1, .slice none 0 0, .slice none 0 0]) := show _ = _ by rw [← hvs]; rfl
  have HSZ : Hid ((Try.prog.info? 26).map (·.size) = some vs.length) := show _ = _ by rw [← hvs]; exact fr_size
  have HF1 := Lib.hid (fun u hs => HF.out u A1 c1 hs O1.out.bnd.1 O1.out.bnd.2)
  have HS1 := Lib.hid (fun u A2 c2 hs => HS.out u A1 c1 A2 c2 hs O1.out.bnd.1 O1.out.bnd.2)
  rw [hvs] at HF1 HS1
  clear hvs HF HS
  go_wp2_with fail
  (with_reducible refine (HGR.out _).mono ?_)
  rintro e2 w2 ⟨A2, n2, c2, rfl, o, b⟩
  obtain rfl : m = n2 := HGL.out.symm.trans o.len
  have R2 : Hid (Rw w2 w1.heap.size 26 vs) := (show Rw _ _ _ vs by rw [HVS.out]; exact heap_alloc_new w1 _).below b
  have P2 := Lib.hid ((O1.out.alloc _).below b)
  have B2 : Hid (Below w.heap.size w w2) := (B1.out.alloc B1.out.size _).trans (b.mono (Nat.le_trans B1.out.size (by simp)))
  have O2 := Lib.hid o
  clear o b O1
  obtain ⟨us, hus⟩ : ∃ vs, frV (cryF off dl) (datP A2 m c2) = vs := ⟨_, rfl⟩
  have HUS : Hid (us = [.int .i64 6, .int .u64 0, .int .u64 0, .slice none 0 0, .int .u64 0, .int .u64 (off : Int), .bool false, .slice A2 m c2, .slice none 0 0, .slice none 0 0]) := show _ = _ by rw [← hus]; rfl
  have HSU : Hid ((Try.prog.info? 26).map (·.size) = some us.length) := show _ = _ by rw [← hus]; exact fr_size
  have HG1 := Lib.hid (fun u hs => HG.out u A2 c2 hs O2.out.bnd.1 O2.out.bnd.2)
  have HS2 := Lib.hid (fun u hs hs2 => HS1.out u A2 c2 hs hs2 O2.out.bnd.1 O2.out.bnd.2)
  rw [hus] at HG1 HS2
  clear hus HG HS1
  go_wp2_with ((with_reducible refine wpList_load_rw rfl 26 (.tmp 9) rfl w1.heap.size ?hx 26 vs ?hB _ Try.underlying26 rfl HSZ.out ?_); (case hx => with_unfolding_all rfl); (case hB => exact R2.out.alloc _))
  (with_reducible refine ((HF1.out _ ?hs).1).mono ?_)
  case hs => exact (P2.out.alloc _).sl
  rintro e3 w3 ⟨rfl, b⟩
  have R3 := Lib.hid ((R2.out.alloc _).below b)
  have Q3 : Hid (Rw w3 w2.heap.size 26 us) := (show Rw _ _ _ us by rw [HUS.out]; exact heap_alloc_new w2 _).below b
  have P3 := Lib.hid ((P2.out.alloc _).below b)
  have O3 := Lib.hid ((O2.out.alloc _).below b)
  have B3 : Hid (Below w.heap.size w w3) := (B2.out.alloc B2.out.size _).trans (b.mono (Nat.le_trans B2.out.size (by simp)))
  clear b
  go_wp2_with fail
  (with_reducible refine (HZ1.out _).mono ?_)
  rintro e w' ⟨rfl, rfl⟩
  go_wp2_with fail
  (with_reducible refine (HZ2.out _).mono ?_)
  rintro e w' ⟨rfl, rfl⟩
  go_wp2_with fail
  (with_reducible refine (HZ3.out _).mono ?_)
  rintro e w' ⟨rfl, rfl⟩
  go_wp2_with (first | ((with_reducible refine wpList_load_rwG 45 rfl 26 (.tmp 10) rfl ?hw w2.heap.size ?hx 26 us Q3.out _ Try.underlying26 rfl HSU.out ?_); (case hw => rfl); (case hx => with_unfolding_all rfl)))
  (with_reducible refine ((HG1.out w3 O3.out.sl).1).mono ?_)
  rintro e4 w4 ⟨rfl, b⟩
  have R4 := Lib.hid (R3.out.below b)
  have Q4 := Lib.hid (Q3.out.below b)
  have P4 := Lib.hid (P3.out.below b)
  have O4 := Lib.hid (O3.out.below b)
  have B4 := Lib.hid (B3.out.trans (b.mono B3.out.size))
  clear b
  go_wp2_with fail
  (with_reducible refine (HZ2.out _).mono ?_)
  rintro e w' ⟨rfl, rfl⟩
  go_wp2_with fail
  (with_reducible refine (HZ3.out _).mono ?_)
  rintro e w' ⟨rfl, rfl⟩
  go_wp2_with (first | ((with_reducible refine wpList_load_rwG 59 rfl 26 (.tmp 9) rfl ?hw w1.heap.size ?hx 26 vs R4.out _ Try.underlying26 rfl HSZ.out ?_); (case hw => rfl); (case hx => with_unfolding_all rfl)))
  (with_reducible refine ((HF1.out w4 P4.out.sl).2).mono ?_)
  rintro e5 w5 ⟨rfl, b⟩
  have R5 := Lib.hid (R4.out.below b)
  have Q5 := Lib.hid (Q4.out.below b)
  have P5 := Lib.hid (P4.out.below b)
  have O5 := Lib.hid (O4.out.below b)
  have B5 := Lib.hid (B4.out.trans (b.mono B4.out.size))
  clear b
  go_wp2_with (first | ((with_reducible refine wpList_load_rwG 63 rfl 26 (.tmp 10) rfl ?hw w2.heap.size ?hx 26 us Q5.out _ Try.underlying26 rfl HSU.out ?_); (case hw => rfl); (case hx => with_unfolding_all rfl)))
  (with_reducible refine ((HG1.out w5 O5.out.sl).2).mono ?_)
  rintro e6 w6 ⟨rfl, b⟩
  have R6 := Lib.hid (R5.out.below b)
  have Q6 := Lib.hid (Q5.out.below b)
  have P6 := Lib.hid (P5.out.below b)
  have O6 := Lib.hid (O5.out.below b)
  have B6 := Lib.hid (B5.out.trans (b.mono B5.out.size))
  clear b
  go_wp2_with (first | ((with_reducible refine wpList_load_rwG 67 rfl 26 (.tmp 9) rfl ?hw w1.heap.size ?hx 26 vs R6.out _ Try.underlying26 rfl HSZ.out ?_); (case hw => rfl); (case hx => with_unfolding_all rfl)) | ((with_reducible refine wpList_load_rwG 68 rfl 26 (.tmp 10) rfl ?hw w2.heap.size ?hx 26 us Q6.out _ Try.underlying26 rfl HSU.out ?_); (case hw => rfl); (case hx => with_unfolding_all rfl)))
  (with_reducible refine (HS2.out w6 P6.out.sl O6.out.sl).mono ?_)
  rintro e7 w7 ⟨rfl, b⟩
  have R7 := Lib.hid (R6.out.below b)
  have Q7 := Lib.hid (Q6.out.below b)
  have P7 := Lib.hid (P6.out.below b)
  have O7 := Lib.hid (O6.out.below b)
  have B7 := Lib.hid (B6.out.trans (b.mono B6.out.size))
  clear b
  go_wp2_with fail
  (with_reducible refine (HAW.out w7).mono ?_)
  rintro e8 w8 ⟨rfl, b⟩
  have B8 := Lib.hid (B7.out.trans (b.mono B7.out.size))
  clear b
  go_wp2_with fail
  go_ret
  exact ⟨by first | rfl | simp, B8.out⟩
end Go.Proofs.Ytegoabbpjdcjeaa
