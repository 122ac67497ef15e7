/-
  The walk of VarintPads.
-/
import Derived.Test.YtnagoababcmkaaaVarintD
namespace Go.Proofs.Ytnagoababcmkaaa
open Go.RowKit
set_option linter.unusedVariables false

/-- the lowest bytes, the first one marked, are the number as it is laid -/
theorem mark_low (v q t : Nat) (hqt : t = 2 ^ q) (hq : q ≤ 3) (hv : v < 64 * 256 ^ (2 ^ q - 1)) : (lowB v t).set 0 (UInt8.ofNat (v / 256 ^ (t - 1) % 256 + 64 * q)) = encV v q := by
  have h0 : 0 < 2 ^ q := Nat.pow_pos (by omega)
  obtain ⟨r, hr⟩ : ∃ r, t = r + 1 := ⟨t - 1, by omega⟩
  have hr' : 2 ^ q - 1 = r := by omega
  unfold encV
  rw [hr'] at hv ⊢
  rw [hr]
  have hd : v / 256 ^ r < 64 := Nat.div_lt_of_lt_mul (by rw [Nat.mul_comm]; exact hv)
  simp only [lowB, List.set_cons_zero, Nat.add_sub_cancel]
  clear hv hr hr'
  generalize v / 256 ^ r = d at *
  congr 2
  omega

set_option maxHeartbeats 1000000 in
theorem pads_any (n v k s q t : Nat) (more : Int) (bh : UInt8) (w : World) (hn : n < 18446744073709551616)
    (hv : v = n % 4611686018427387904) (hs : lenV v = s) (hks : (k = 0 ∧ s = 1) ∨ (k = 1 ∧ s = 2) ∨ (k = 2 ∧ s = 4) ∨ (k = 3 ∧ s = 8)) (hr : v < 64 * 256 ^ (2 ^ k - 1))
    (hq : (q : Int) = k + lowV more (4 - k)) (hqt : (q = 0 ∧ t = 1) ∨ (q = 1 ∧ t = 2) ∨ (q = 2 ∧ t = 4) ∨ (q = 3 ∧ t = 8)) (hkq : k ≤ q) :
    Calls Try.prog 6 #[.int .u64 n, .int .i64 more, .int .u8 (bh.toNat : Int)] w fun e w' => e = .returned (.bool true) ∧ Below w.heap.size w w' := by
  have hv62 : v < 4611686018427387904 := by omega
  have hv64 : v < 18446744073709551616 := by omega
  have hand : bits .and .u64 (n : Int) 4611686018427387903 = (v : Int) := by
    have h := u64_and_nat n 4611686018427387903 hn (by omega)
    rw [show n &&& 4611686018427387903 = v by rw [hv]; exact Nat.and_two_pow_sub_one_eq_mod n 62] at h
    exact h
  obtain ⟨hs2, hk3⟩ := two_pow_of hks
  obtain ⟨ht2, hq3⟩ := two_pow_of hqt
  have hr' := room_mono hkq hr
  have hL := len_any v
  rw [hs] at hL
  have HL := Lib.hid hL
  have HK := Lib.hid hks
  have HQ := Lib.hid hqt
  have g1 := getV_enc v q hq3 hr' [bh]
  rw [← ht2] at g1
  have G1 := Lib.hid g1
  have HM := Lib.hid (mark_low v q t ht2 hq3 hr')
  have hlow := fun u => low_any more (4 - k) u (by omega) (by omega)
  have hlb := low_bd more (4 - k) (by omega) (by omega)
  generalize lowV more (4 - k) = lw at *
  have HW := Lib.hid hlow
  have HS2 : Hid (wrap64 ((2 : Int) ^ k) = (s : Int)) := by
    show _ = _
    rcases hks with ⟨rfl, rfl⟩ | ⟨rfl, rfl⟩ | ⟨rfl, rfl⟩ | ⟨rfl, rfl⟩ <;> (unfold wrap64; simp)
  have HT2 : Hid (wrap64 ((2 : Int) ^ q) = (t : Int)) := by
    show _ = _
    rcases hqt with ⟨rfl, rfl⟩ | ⟨rfl, rfl⟩ | ⟨rfl, rfl⟩ | ⟨rfl, rfl⟩ <;> (unfold wrap64; simp)
  have z1 : ((s : Int) != (s : Int)) = false := by simp
  have z2 : ((v : Int) == (v : Int)) = true := by simp
  have z3 : ((t : Int) == (t : Int)) = true := by simp
  have ht1 : 1 ≤ t := by omega
  have ht8 : t ≤ 8 := by omega
  have HKL := Lib.hid hq.symm
  have HR : Hid (v < 64 * 256 ^ (t - 1)) := by rw [ht2]; exact hr'
  clear hv hs hks hr hq hqt hs2 ht2 hr' hL g1 hlow hn
  go_enter Try.func6, Try.ntmps6
  go_wp2_with fail
  go_loopw [7] (fun i wr => ∃ j m : Nat, j ≤ k ∧ i = .int .i64 j ∧ wr = w.drewN m) (fun i _ => 4 - (intOf i).toNat)
  case atStart => exact ⟨0, 0, by omega, rfl, rfl⟩
  case round =>
    obtain ⟨j, m, hj, rfl, rfl⟩ := hrel
    have hks := HK.out
    by_cases hjk : j < k
    · have h4 : j = 0 ∨ j = 1 ∨ j = 2 := by omega
      rcases h4 with rfl | rfl | rfl
      · have hlt : (1 : Int) < (s : Int) := by omega
        clear hks
        go_wp2_with fail
        go_quiet ((go_at_call 11; exact quiet_more (HL.out _ hv64)))
        go_wp2
        go_roundw
        case rel => exact ⟨1, m + nq, by omega, rfl, rfl⟩
        case measure => simp [intOf]
      · have hlt : (2 : Int) < (s : Int) := by omega
        clear hks
        go_wp2_with fail
        go_quiet ((go_at_call 11; exact quiet_more (HL.out _ hv64)))
        go_wp2
        go_roundw
        case rel => exact ⟨2, m + nq, by omega, rfl, rfl⟩
        case measure => simp [intOf]
      · have hlt : (4 : Int) < (s : Int) := by omega
        clear hks
        go_wp2_with fail
        go_quiet ((go_at_call 11; exact quiet_more (HL.out _ hv64)))
        go_wp2
        go_roundw
        case rel => exact ⟨3, m + nq, by omega, rfl, rfl⟩
        case measure => simp [intOf]
    · obtain rfl : j = k := by omega
      have hsh : wrap64 ((2 : Int) ^ j) = (s : Int) := HS2.out
      have zlt : decide ((s : Int) < (s : Int)) = false := by simp
      clear hks hjk hj
      by_cases h3 : j < 3
      · have h3' : decide ((j : Int) < 3) = true := by simp; omega
        have hsh2 : IntKind.i64.wrap ((2 : Int) ^ j) = (s : Int) := by rw [IntWalk.i64_left]; exact hsh
        go_wp2_with fail
        go_quiet ((go_at_call 11; exact quiet_more (HL.out _ hv64)))
        obtain ⟨m1, hm1⟩ : ∃ m1, m + nq = m1 := ⟨_, rfl⟩
        go_wp2_with fail
        go_quiet ((go_at_call 11; exact quiet_more (HL.out _ hv64)))
        obtain ⟨m2, hm2⟩ : ∃ m2, m1 + nq = m2 := ⟨_, rfl⟩
        go_wp2_with fail
        clear hsh hsh2 zlt h3 h3' hm1 hm2
        have hkl : (j : Int) + lw = (q : Int) := HKL.out
        (with_reducible refine (HW.out _).mono ?_)
        rintro e w' ⟨rfl, rfl⟩
        have hbW : Below w.heap.size w (w.drewN m2) := below_drewN (Below.refl _ _) _
        generalize w.drewN m2 = W at *
        have hsh : wrap64 ((2 : Int) ^ q) = (t : Int) := HT2.out
        go_wp2_with fail
        clear hsh
        go_loopw [8, 9] (fun out i wr => ∃ (j m : Nat) (A' : Option Addr) (c' : Nat) (X : List UInt8), m + j ≤ t ∧ t ≤ m + j ∧ i = .int .i64 ((j : Int) - 1) ∧ out = .slice A' m c' ∧
            Hid (Own wr w.heap.size (.slice A' m c') m X) ∧ m ≤ c' ∧ c' ≤ maxLen ∧ Hid (X ++ lowB v j = lowB v t) ∧ Below w.heap.size w wr) (fun _ i _ => (intOf i + 1).toNat)
        case atStart => exact ⟨t, 0, none, 0, [], by omega, by omega, by go_num, rfl, Own.nil _ _, by omega, by simp [maxLen], rfl, hbW⟩
        case round =>
          obtain ⟨i, m, A', c', X, hmj, hmj', rfl, rfl, HO, hmc, hcm, HX, hbr⟩ := hrel
          rcases Nat.eq_zero_or_pos i with rfl | hpos
          · obtain rfl : m = t := by omega
            obtain rfl : X = lowB v m := by simpa [lowB] using HX.out
            obtain ⟨g, rfl, hg, hgl⟩ := HO.out.at_ (by omega)
            obtain ⟨x, hx⟩ : ∃ x, x = v / 256 ^ (m - 1) % 256 := ⟨_, rfl⟩
            have hc0 : wr.cell? ⟨g, 0, none⟩ = some (.int .u8 (x : Int)) := by
              have h := HO.out.cell 0 (by rw [lowB_length]; omega)
              rw [h]
              obtain ⟨r, hr⟩ : ∃ r, m = r + 1 := ⟨m - 1, by omega⟩
              subst hr
              simp [lowB, bv, hx]
            have hx64 : x < 64 := by
              have h1 : v / 256 ^ (m - 1) < 64 := by
                have h2 := HR.out
                exact Nat.div_lt_of_lt_mul (by rw [Nat.mul_comm]; exact h2)
              rw [hx]
              exact Nat.lt_of_le_of_lt (Nat.mod_le _ _) h1
            obtain ⟨y, hy⟩ : ∃ y, y = x + 64 * q := ⟨_, rfl⟩
            have hor : bits .or .u8 (x : Int) ((q : Int) * 64) = (y : Int) := by
              have h := u8_or_nat x (q * 64) (by omega) (by omega)
              rw [Nat.or_comm, nat_join 6 _ _ (by omega) (by omega)] at h
              rw [show ((q : Int) * 64) = ((q * 64 : Nat) : Int) by simp, h, hy]
              omega
            have hy256 : y < 256 := by omega
            have Hx := Lib.hid hx
            have Hy := Lib.hid hy
            have hf0 := HO.out.frozen 0
            have hp0 : (0 : Int) < (m : Int) := by omega
            have HO' := Lib.hid (HO.out.store 0 (UInt8.ofNat y) (.int .u8 (y : Int)) (byte_small y hy256))
            have hbs : Below w.heap.size w (wr.setCell ⟨g, 0, none⟩ (.int .u8 (y : Int))) := hbr.setCell hg _
            have hsz := hbs.size
            clear hx hy
            go_wp2_with (at_builtin; (refine wpList_append_bytes rfl _ _ rfl w.heap.size (.slice (some ⟨g, 0, none⟩) m c') m _ rfl (HO'.out.alloc _) _ _ 1 1 [bh] rfl (sl_one_at _ _ ?hg _ _ ?hV) (by omega) ?hB w ?hb ?_); (case hV => rfl); (case hg => simp); (case hB => simp at hsz ⊢; omega); (case hb => exact hbs.alloc hsz _); intro A1 c1 w1 ho1 hle1 hc1 hg1 hb1)
            have he : (lowB v m).set 0 (UInt8.ofNat y) ++ [bh] = encV v q ++ [bh] := by
              rw [← HM.out, Hy.out, Hx.out]
            rw [he] at ho1
            have HO1 := Lib.hid ho1
            have hsh : wrap64 ((2 : Int) ^ q) = (m : Int) := HT2.out
            clear ho1 he
            (with_reducible refine (get_is (encV v q ++ [bh]) v m 0 A1 (m + 1) c1 _ _ HO1.out.sl hle1 hc1 (by simp [G1.out]) (by simp [G1.out]) (by simp [G1.out])).mono ?_)
            rintro e w' ⟨rfl, rfl⟩
            go_wp2_with fail
            (with_reducible refine (awake_any _).mono ?_)
            rintro e w5 ⟨rfl, hb5⟩
            go_wp2
            go_ret
            exact ⟨rfl, hb1.trans (hb5.mono hb1.size)⟩
          · obtain ⟨t', rfl⟩ : ∃ t', i = t' + 1 := ⟨i - 1, by omega⟩
            rw [show (((t' + 1 : Nat) : Int) - 1) = (t' : Int) by omega]
            go_wp2_with (at_builtin; (refine wpList_append_bytes rfl _ _ rfl w.heap.size (.slice A' m c') m X rfl (HO.out.alloc _) _ _ 1 1 [UInt8.ofNat (v / 256 ^ t')] rfl (sl_one _ _ _ ?hV) (by omega) ?hB w ?hb ?_); (case hV => exact byte_at v t'); (case hB => have := hbr.size; simp; omega); (case hb => exact hbr.alloc hbr.size _); intro A1 c1 w1 ho1 hle1 hc1 hg1 hb1)
            go_roundw
            case rel =>
              refine ⟨t', m + 1, A1, c1, X ++ [UInt8.ofNat (v / 256 ^ t')], by omega, by omega, by go_num, rfl, ho1, hle1, hc1, ?_, hb1⟩
              show _ = _
              rw [← HX.out]; simp [lowB]
            case measure => simp [intOf]
      · have h3' : decide ((j : Int) < 3) = false := by simp; omega
        have hsh2 : IntKind.i64.wrap ((2 : Int) ^ j) = (s : Int) := by rw [IntWalk.i64_left]; exact hsh
        go_wp2_with fail
        go_quiet (fail)
        obtain ⟨m1, hm1⟩ : ∃ m1, m + nq = m1 := ⟨_, rfl⟩
        go_wp2_with fail
        go_quiet ((go_at_call 11; exact quiet_more (HL.out _ hv64)))
        obtain ⟨m2, hm2⟩ : ∃ m2, m1 + nq = m2 := ⟨_, rfl⟩
        go_wp2_with fail
        clear hsh hsh2 zlt h3 h3' hm1 hm2
        have hkl : (j : Int) + lw = (q : Int) := HKL.out
        (with_reducible refine (HW.out _).mono ?_)
        rintro e w' ⟨rfl, rfl⟩
        have hbW : Below w.heap.size w (w.drewN m2) := below_drewN (Below.refl _ _) _
        generalize w.drewN m2 = W at *
        have hsh : wrap64 ((2 : Int) ^ q) = (t : Int) := HT2.out
        go_wp2_with fail
        clear hsh
        go_loopw [8, 9] (fun out i wr => ∃ (j m : Nat) (A' : Option Addr) (c' : Nat) (X : List UInt8), m + j ≤ t ∧ t ≤ m + j ∧ i = .int .i64 ((j : Int) - 1) ∧ out = .slice A' m c' ∧
            Hid (Own wr w.heap.size (.slice A' m c') m X) ∧ m ≤ c' ∧ c' ≤ maxLen ∧ Hid (X ++ lowB v j = lowB v t) ∧ Below w.heap.size w wr) (fun _ i _ => (intOf i + 1).toNat)
        case atStart => exact ⟨t, 0, none, 0, [], by omega, by omega, by go_num, rfl, Own.nil _ _, by omega, by simp [maxLen], rfl, hbW⟩
        case round =>
          obtain ⟨i, m, A', c', X, hmj, hmj', rfl, rfl, HO, hmc, hcm, HX, hbr⟩ := hrel
          rcases Nat.eq_zero_or_pos i with rfl | hpos
          · obtain rfl : m = t := by omega
            obtain rfl : X = lowB v m := by simpa [lowB] using HX.out
            obtain ⟨g, rfl, hg, hgl⟩ := HO.out.at_ (by omega)
            obtain ⟨x, hx⟩ : ∃ x, x = v / 256 ^ (m - 1) % 256 := ⟨_, rfl⟩
            have hc0 : wr.cell? ⟨g, 0, none⟩ = some (.int .u8 (x : Int)) := by
              have h := HO.out.cell 0 (by rw [lowB_length]; omega)
              rw [h]
              obtain ⟨r, hr⟩ : ∃ r, m = r + 1 := ⟨m - 1, by omega⟩
              subst hr
              simp [lowB, bv, hx]
            have hx64 : x < 64 := by
              have h1 : v / 256 ^ (m - 1) < 64 := by
                have h2 := HR.out
                exact Nat.div_lt_of_lt_mul (by rw [Nat.mul_comm]; exact h2)
              rw [hx]
              exact Nat.lt_of_le_of_lt (Nat.mod_le _ _) h1
            obtain ⟨y, hy⟩ : ∃ y, y = x + 64 * q := ⟨_, rfl⟩
            have hor : bits .or .u8 (x : Int) ((q : Int) * 64) = (y : Int) := by
              have h := u8_or_nat x (q * 64) (by omega) (by omega)
              rw [Nat.or_comm, nat_join 6 _ _ (by omega) (by omega)] at h
              rw [show ((q : Int) * 64) = ((q * 64 : Nat) : Int) by simp, h, hy]
              omega
            have hy256 : y < 256 := by omega
            have Hx := Lib.hid hx
            have Hy := Lib.hid hy
            have hf0 := HO.out.frozen 0
            have hp0 : (0 : Int) < (m : Int) := by omega
            have HO' := Lib.hid (HO.out.store 0 (UInt8.ofNat y) (.int .u8 (y : Int)) (byte_small y hy256))
            have hbs : Below w.heap.size w (wr.setCell ⟨g, 0, none⟩ (.int .u8 (y : Int))) := hbr.setCell hg _
            have hsz := hbs.size
            clear hx hy
            go_wp2_with (at_builtin; (refine wpList_append_bytes rfl _ _ rfl w.heap.size (.slice (some ⟨g, 0, none⟩) m c') m _ rfl (HO'.out.alloc _) _ _ 1 1 [bh] rfl (sl_one_at _ _ ?hg _ _ ?hV) (by omega) ?hB w ?hb ?_); (case hV => rfl); (case hg => simp); (case hB => simp at hsz ⊢; omega); (case hb => exact hbs.alloc hsz _); intro A1 c1 w1 ho1 hle1 hc1 hg1 hb1)
            have he : (lowB v m).set 0 (UInt8.ofNat y) ++ [bh] = encV v q ++ [bh] := by
              rw [← HM.out, Hy.out, Hx.out]
            rw [he] at ho1
            have HO1 := Lib.hid ho1
            have hsh : wrap64 ((2 : Int) ^ q) = (m : Int) := HT2.out
            clear ho1 he
            (with_reducible refine (get_is (encV v q ++ [bh]) v m 0 A1 (m + 1) c1 _ _ HO1.out.sl hle1 hc1 (by simp [G1.out]) (by simp [G1.out]) (by simp [G1.out])).mono ?_)
            rintro e w' ⟨rfl, rfl⟩
            go_wp2_with fail
            (with_reducible refine (awake_any _).mono ?_)
            rintro e w5 ⟨rfl, hb5⟩
            go_wp2
            go_ret
            exact ⟨rfl, hb1.trans (hb5.mono hb1.size)⟩
          · obtain ⟨t', rfl⟩ : ∃ t', i = t' + 1 := ⟨i - 1, by omega⟩
            rw [show (((t' + 1 : Nat) : Int) - 1) = (t' : Int) by omega]
            go_wp2_with (at_builtin; (refine wpList_append_bytes rfl _ _ rfl w.heap.size (.slice A' m c') m X rfl (HO.out.alloc _) _ _ 1 1 [UInt8.ofNat (v / 256 ^ t')] rfl (sl_one _ _ _ ?hV) (by omega) ?hB w ?hb ?_); (case hV => exact byte_at v t'); (case hB => have := hbr.size; simp; omega); (case hb => exact hbr.alloc hbr.size _); intro A1 c1 w1 ho1 hle1 hc1 hg1 hb1)
            go_roundw
            case rel =>
              refine ⟨t', m + 1, A1, c1, X ++ [UInt8.ofNat (v / 256 ^ t')], by omega, by omega, by go_num, rfl, ho1, hle1, hc1, ?_, hb1⟩
              show _ = _
              rw [← HX.out]; simp [lowB]
            case measure => simp [intOf]
end Go.Proofs.Ytnagoababcmkaaa
