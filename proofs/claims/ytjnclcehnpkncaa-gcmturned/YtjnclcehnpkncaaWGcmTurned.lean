/-
  The walk through GcmTurned.
-/
import Derived.Test.YtjnclcehnpkncaaWGcmTells
import Derived.Test.YtjnclcehnpkncaaLow
namespace Go.Proofs.Ytjnclcehnpkncaa
open Go.RowKit
set_option linter.unusedVariables false

theorem turned_long (key nonce : List UInt8) (A1 A2 : Option Addr) (n1 c1 n2 c2 : Nat) (wh bit : Int) (w : World) (h : 60 < n1 ∨ 60 < n2) :
    Calls Try.prog 4 #[.agg (bvs key).toArray, .agg (bvs nonce).toArray, .slice A1 n1 c1, .slice A2 n2 c2, .int .i64 wh, .int .i64 bit] w fun e w' => e = .returned (.bool true) ∧ Below w.heap.size w w' := by
  have hways : (decide ((60 : Int) < (n1 : Int)) = true) ∨ (decide ((60 : Int) < (n1 : Int)) = false ∧ decide ((60 : Int) < (n2 : Int)) = true) := by
    by_cases h1 : 60 < n1
    · exact .inl (by simp; omega)
    · exact .inr ⟨by simp; omega, by simp; omega⟩
  clear h
  rcases hways with t1 | ⟨t1, t2⟩
  all_goals
    go_enter Try.func4, Try.ntmps4
    go_wp2_with (go_at_call 9; (with_reducible refine (awake_any _).mono ?_); rintro e1 w1 ⟨rfl, b1⟩)
    go_ret
    exact ⟨rfl, (((Below.refl _ _).alloc (Nat.le_refl _) _).alloc (by simp) _).trans (b1.mono (by simp; omega))⟩
theorem open_lens (key nonce s data : List UInt8) : (openG key nonce s data 3 7).1.length ≤ s.length := by
  unfold openG
  split
  · simp
  · split
    · rw [turnG_length, List.length_take]; omega
    · simp
theorem Own.onlyA {w w' : World} {B n c g : Nat} {A : Option Addr} {l : List UInt8} (h : Own w B (.slice A n c) n l) (ho : Only g w w') (hne : ∀ a, A = some a → a.block ≠ g) : Own w' B (.slice A n c) n l := by
  cases A with
  | none => exact ⟨h.1, h.2.imp id fun ⟨g1, cap, cur, hv, _⟩ => by cases hv⟩
  | some a =>
    rcases h.2 with ⟨hv, _⟩ | ⟨g1, cap, cur, hv, _⟩
    · cases hv
    · injection hv with hA _ hc
      injection hA with hA
      subst hA
      exact Own.only h ho (hne _ rfl)
theorem low_nat (x : Int) (n : Nat) (h0 : 0 < n) (h1 : n < 1000000) : ∃ i : Nat, i < n ∧ ∀ u : World, Calls Try.prog 17 #[.int .i64 x, .int .i64 (n : Int)] u fun e w' => e = .returned (.int .i64 (i : Int)) ∧ u = w' := by
  have hb := low_bd x n (by omega) (by omega)
  refine ⟨(lowV x n).toNat, by omega, fun u => ?_⟩
  have h := low_any x n u (by omega) (by omega)
  rw [show ((lowV x n).toNat : Int) = lowV x n by omega]
  exact h

attribute [local go_sem] u8_xor'
set_option maxRecDepth 8000 in
set_option maxHeartbeats 4000000 in
theorem turned_walk (key nonce text data : List UInt8) (hk : key.length = 16) (hno : nonce.length = 12) (A1 A2 : Option Addr) (n1 c1 n2 c2 : Nat) (wh bit : Int) (w : World) (hs1 : Sl w w.heap.size A1 n1 text) (hs2 : Sl w w.heap.size A2 n2 data) (hnc1 : n1 ≤ c1) (hcm1 : c1 ≤ maxLen) (hnc2 : n2 ≤ c2) (hcm2 : c2 ≤ maxLen) (hbit : -9223372036854775808 ≤ bit ∧ bit ≤ 9223372036854775807) (hn1 : n1 ≤ 60) (hn2 : n2 ≤ 60) :
    Calls Try.prog 4 #[.agg (bvs key).toArray, .agg (bvs nonce).toArray, .slice A1 n1 c1, .slice A2 n2 c2, .int .i64 wh, .int .i64 bit] w fun e w' => e = .returned (.bool true) ∧ Below w.heap.size w w' := by
  have Hk := Lib.hid hk
  have Hno := Lib.hid hno
  have HN1 : Hid (n1 ≤ c1 ∧ c1 ≤ maxLen) := ⟨hnc1, hcm1⟩
  have HN2 : Hid (n2 ≤ c2 ∧ c2 ≤ maxLen) := ⟨hnc2, hcm2⟩
  have HP : Hid (∀ u : World, Below w.heap.size w u → Sl u w.heap.size A1 n1 text ∧ Sl u w.heap.size A2 n2 data) := fun u hu => ⟨hs1.below hu, hs2.below hu⟩
  obtain ⟨X, hX⟩ : ∃ x, sealG key nonce text data = x := ⟨_, rfl⟩
  have HX := Lib.hid hX
  have t1 : decide ((60 : Int) < (n1 : Int)) = false := by simp; omega
  have t2 : decide ((60 : Int) < (n2 : Int)) = false := by simp; omega
  have t3 : (((n1 + 16 : Nat) : Int) != (n1 : Int) + 16) = false := by simp
  obtain ⟨k8, hk8, hl8⟩ := low_nat bit 8 (by omega) (by omega)
  obtain ⟨k3, hk3, hl3⟩ := low_nat wh 3 (by omega) (by omega)
  obtain ⟨z, hz⟩ : ∃ z, bit.tdiv 8 = z := ⟨_, rfl⟩
  have hzb : -9223372036854775808 ≤ z ∧ z ≤ 9223372036854775807 := by
    have h := Int.natAbs_tdiv bit 8
    rw [hz] at h
    have h2 : z.natAbs = bit.natAbs / 8 := h
    omega
  have vz : IntKind.i64.wrap z = z := IntWalk.i64_in _ hzb
  obtain ⟨k12, hk12, hl12⟩ := low_nat z 12 (by omega) (by omega)
  obtain ⟨kS, hkS, hlS⟩ := low_nat z (n1 + 16) (by omega) (by omega)
  obtain ⟨y, hy⟩ : ∃ y, UInt8.ofNat (2 ^ k8) = y := ⟨_, rfl⟩
  have HL8 : Hid (∀ u : World, Calls Try.prog 17 #[.int .i64 bit, .int .i64 8] u fun e w' => e = .returned (.int .i64 (k8 : Int)) ∧ u = w') := hl8
  have HL3 : Hid (∀ u : World, Calls Try.prog 17 #[.int .i64 wh, .int .i64 3] u fun e w' => e = .returned (.int .i64 (k3 : Int)) ∧ u = w') := hl3
  have HL12 : Hid (∀ u : World, Calls Try.prog 17 #[.int .i64 z, .int .i64 12] u fun e w' => e = .returned (.int .i64 (k12 : Int)) ∧ u = w') := hl12
  have HLS : Hid (∀ u : World, Calls Try.prog 17 #[.int .i64 z, .int .i64 ((n1 : Int) + 16)] u fun e w' => e = .returned (.int .i64 (kS : Int)) ∧ u = w') := fun u => by
    have h := hlS u
    rwa [show ((n1 + 16 : Nat) : Int) = (n1 : Int) + 16 by omega] at h
  have hy1 : (2 : Int) ^ k8 % 256 = bn y := by
    rw [← hy]; unfold bn; rw [UInt8.toNat_ofNat']
    have e : ((2 ^ k8 : Nat) : Int) = (2 : Int) ^ k8 := by simp
    rw [← e]; omega
  have hy2 : IntKind.u8.wrap ((2 : Int) ^ k8) = bn y := by rw [← hy1]; simp [IntKind.wrap, IntKind.bits, IntKind.signed]
  have Hz := Lib.hid hz
  clear hk hno hs1 hs2 hnc1 hcm1 hnc2 hcm2 hX hl8 hl3 hl12 hlS hy
  go_enter Try.func4, Try.ntmps4
  go_upto_region 3 with fail
  refine wp_forget (fun w1 => TeW w w1 key nonce) ⟨heap_allocs w [_, _] 0 _ rfl, heap_allocs w [_, _] 1 _ rfl, ((Below.refl _ _).alloc (Nat.le_refl _) _).alloc (by simp) _⟩ ?_
  intro w1 h1
  have TW := Lib.hid h1
  have HZ1 := Lib.hid h1.n.lt
  clear h1
  go_upto_region 5 with (first
    | ((with_reducible refine wpList_load_blk rfl 22 (.tmp 6) rfl w.heap.size ?hx 22 key ?hg 16 5 Try.underlying22 16 sizeRow Hk.out ?_); (case hx => with_unfolding_all rfl); (case hg => with_reducible exact TW.out.k))
    | ((with_reducible refine wpList_load_blk rfl 23 (.tmp 7) rfl (w.heap.size + 1) ?hx 23 nonce ?hg 12 5 Try.underlying23 12 size12 Hno.out ?_); (case hx => with_unfolding_all rfl); (case hg => with_reducible exact TW.out.n))
    | (go_at_call 10; (with_reducible refine (seal_any key nonce text data Hk.out Hno.out A1 A2 n1 c1 n2 c2 w.heap.size _ (HP.out _ TW.out.b).1 (HP.out _ TW.out.b).2 TW.out.b.size HN1.out.1 HN1.out.2 (by omega) HN2.out.1 HN2.out.2 (by omega)).mono ?_); rintro e2 w2 ⟨As, cs, rfl, o2, ls, ms, b2⟩; rw [HX.out] at o2;
        replace TW := Lib.hid (TW.out.below b2); have OS := Lib.hid o2; have HZ2 := Lib.hid b2.size; clear o2 ls ms b2)
    | (go_at_call 16; (with_reducible refine (copied_any data A2 n2 c2 w.heap.size _ (HP.out _ TW.out.b).2 (by omega)).mono ?_); rintro e3 w3 ⟨Ad, cd, rfl, o3, ld, md, b3⟩;
        replace TW := Lib.hid (TW.out.below b3); replace OS := Lib.hid (OS.out.below b3); have OD := Lib.hid o3; have HD : Hid (∀ a, Ad = some a → w2.heap.size ≤ a.block ∧ a.block < w3.heap.size) := fun a ha => o3.blk a ha; have LD : Hid (n2 ≤ cd ∧ cd ≤ maxLen) := ⟨ld, md⟩; have HZ3 := Lib.hid b3.size; clear o3 ld md b3))
  go_upto_region 8 with (go_at_call 16; (with_reducible refine (copied_any X As (n1 + 16) cs w3.heap.size _ OS.out.sl (by omega)).mono ?_); rintro e4 w4 ⟨A5, c5, rfl, o4, l5, m5, b4⟩; replace TW := Lib.hid (TW.out.below b4); replace OD := Lib.hid (OD.out.below b4); have OT := Lib.hid o4; have LT : Hid (n1 + 16 ≤ c5 ∧ c5 ≤ maxLen) := ⟨l5, m5⟩; clear o4 l5 m5 b4)
  obtain ⟨gt, et, hgt1, hgt2⟩ := OT.out.at_ (by omega)
  subst et
  go_upto_region 10 with (go_at_call 17; (with_reducible refine (HL8.out _).mono ?_); rintro e5 w5 ⟨rfl, rfl⟩)
  have hg2 : w.heap.size + 1 < w2.heap.size := by have := HZ1.out; have := HZ2.out; omega
  have hg3 : w2.heap.size ≤ w3.heap.size := HZ3.out
  have HG2 := Lib.hid hg2
  have HG3 := Lib.hid hg3
  have HGT := Lib.hid hgt1
  by_cases h0 : k3 = 0
  · subst h0
    have t4 : (((0 : Nat) : Int) == 0) = true := by decide
    obtain ⟨p, hp⟩ : ∃ b, nonce.getD k12 0 = b := ⟨_, rfl⟩
    have cp : w4.cell? ⟨w.heap.size + 1, k12, none⟩ = some (.int .u8 (bn p)) := by rw [TW.out.n.cell k12 (by rw [Hno.out]; omega), hp]
    have cf := TW.out.n.frozen k12
    have lk : (k12 : Int) < 12 := by omega
    go_upto_region 14 with (go_at_call 17; (first | ((with_reducible refine (HL3.out _).mono ?_); rintro e5 w5 ⟨rfl, rfl⟩) | ((with_reducible refine (HL12.out _).mono ?_); rintro e5 w5 ⟨rfl, rfl⟩)))
    have ho : Only (w.heap.size + 1) w4 (w4.setCell ⟨w.heap.size + 1, k12, none⟩ (.int .u8 (bn (p ^^^ y)))) := (Only.refl _ _).setCell _ _
    have TW5 : Hid (TeW w (w4.setCell ⟨w.heap.size + 1, k12, none⟩ (.int .u8 (bn (p ^^^ y)))) key (nonce.set k12 (p ^^^ y))) := ⟨TW.out.k.only ho (by omega), TW.out.n.put _ _, TW.out.b.trans (ho.below TW.out.b.size (by omega))⟩
    have OT5 := Lib.hid (OT.out.only ho (by omega))
    have OD5 := Lib.hid (OD.out.onlyA ho (fun a ha => by have := (HD.out a ha).1; omega))
    obtain ⟨w5, hw5⟩ : ∃ x, w4.setCell ⟨w.heap.size + 1, k12, none⟩ (.int .u8 (bn (p ^^^ y))) = x := ⟨_, rfl⟩
    rw [hw5] at TW5 OT5 OD5 ⊢
    clear hw5 ho TW OT OD cp cf hp
    have TW := TW5
    have OT := OT5
    have OD := OD5
    clear TW5 OT5 OD5
    obtain ⟨N5, hN5⟩ : ∃ x, nonce.set k12 (p ^^^ y) = x := ⟨_, rfl⟩
    have HN5 : Hid (N5.length = 12) := show _ = _ by rw [← hN5, List.length_set]; exact Hno.out
    obtain ⟨S5, hS5⟩ : ∃ x, X = x := ⟨_, rfl⟩
    obtain ⟨D5, hD5⟩ : ∃ x, data = x := ⟨_, rfl⟩
    rw [hN5] at TW
    rw [hS5] at OT
    rw [hD5] at OD
    clear hN5 hS5 hD5
    obtain ⟨⟨lo, eo⟩, hro⟩ : ∃ r, openG key N5 S5 D5 3 7 = r := ⟨_, rfl⟩
    have HLO : Hid (lo.length ≤ n1 + 16) := by
      have h := open_lens key N5 S5 D5
      have hl := OT.out.len
      rw [hro, hl] at h
      exact h
    have HRO := Lib.hid hro
    have t6 : (eo == eo) = true := by simp
    clear hro
    go_wp2_with (first
      | ((with_reducible refine wpList_load_blk rfl 22 (.tmp 6) rfl w.heap.size ?hx 22 key ?hg 16 5 Try.underlying22 16 sizeRow Hk.out ?_); (case hx => with_unfolding_all rfl); (case hg => with_reducible exact TW.out.k))
      | ((with_reducible refine wpList_load_blk rfl 23 (.tmp 7) rfl (w.heap.size + 1) ?hx 23 N5 ?hg 12 5 Try.underlying23 12 size12 HN5.out ?_); (case hx => with_unfolding_all rfl); (case hg => with_reducible exact TW.out.n))
      | (go_at_call 13; (with_reducible refine (open_any key N5 S5 D5 Hk.out HN5.out _ Ad (n1 + 16) c5 n2 cd w5.heap.size _ OT.out.sl OD.out.sl (Nat.le_refl _) LT.out.1 LT.out.2 (by omega) LD.out.1 LD.out.2 (by omega)).mono ?_); rw [HRO.out]; rintro e6 w6 ⟨Ab, nb, cb, rfl, o6, lb, mb, b6⟩; replace TW := Lib.hid (TW.out.below b6); replace OT := Lib.hid (OT.out.below b6); replace OD := Lib.hid (OD.out.below b6); have OB := Lib.hid o6; clear o6 lb mb b6)
      | (go_at_call 14; (with_reducible refine (ropen_any key N5 S5 D5 Hk.out HN5.out _ Ad (n1 + 16) c5 n2 cd w6.heap.size _ OT.out.sl OD.out.sl (Nat.le_refl _) LT.out.1 LT.out.2 (by omega) LD.out.1 LD.out.2 (by omega)).mono ?_); rw [HRO.out]; rintro e7 w7 ⟨Ac, nc, cc, rfl, o7, lc, mc, b7⟩; replace TW := Lib.hid (TW.out.below b7); replace OB := Lib.hid (OB.out.below b7); have OC := Lib.hid o7; have HNB : Hid (nb = lo.length) := OB.out.len.symm; clear o7 lc mc b7)
      | (go_at_call 11; (with_reducible refine (same_yes lo lo rfl Ab Ac nb nc cb cc w7.heap.size w7.heap.size _ OB.out.sl OC.out.sl (by have := HNB.out; have := HLO.out; simp [maxLen]; omega)).mono ?_); rintro e8 w8 ⟨rfl, k8', rfl⟩)
      | (go_at_call 9; (with_reducible refine (awake_any _).mono ?_); rintro e9 w9 ⟨rfl, b9⟩))
    go_ret
    exact ⟨rfl, (below_drewN TW.out.b k8').trans (b9.mono TW.out.b.size)⟩
  · have t4 : ((k3 : Int) == 0) = false := by simp; omega
    by_cases h1 : k3 = 1 ∧ 0 < n2
    · obtain ⟨rfl, hn0⟩ := h1
      have t5 : (((1 : Nat) : Int) == 1) = true := by decide
      have t5' : decide ((0 : Int) < (n2 : Int)) = true := by simp; omega
      obtain ⟨kD, hkD, hlD⟩ := low_nat z n2 hn0 (by omega)
      have HLD := Lib.hid hlD
      obtain ⟨gd, ed, _, _⟩ := OD.out.at_ hn0
      subst ed
      have hgd := HD.out _ rfl
      simp only at hgd
      obtain ⟨p, hp⟩ : ∃ b, data.getD kD 0 = b := ⟨_, rfl⟩
      have hdl := OD.out.len
      have cp : w4.cell? ⟨gd, kD, none⟩ = some (.int .u8 (bn p)) := by
        have e := OD.out.sl.cellD kD (by omega)
        rw [Nat.zero_add, hp] at e
        exact e
      have cf := OD.out.frozen kD
      have lk : (kD : Int) < (n2 : Int) := by omega
      clear hdl hlD
      go_upto_region 14 with (go_at_call 17; (first | ((with_reducible refine (HL3.out _).mono ?_); rintro e5 w5 ⟨rfl, rfl⟩) | ((with_reducible refine (HLD.out _).mono ?_); rintro e5 w5 ⟨rfl, rfl⟩)))
      have ho : Only gd w4 (w4.setCell ⟨gd, kD, none⟩ (.int .u8 (bn (p ^^^ y)))) := (Only.refl _ _).setCell _ _
      have TW5 := Lib.hid (TW.out.only ho (by omega))
      have OT5 := Lib.hid (OT.out.only ho (by omega))
      have OD5 := Lib.hid (OD.out.store kD (p ^^^ y) (.int .u8 (bn (p ^^^ y))) rfl)
      obtain ⟨w5, hw5⟩ : ∃ x, w4.setCell ⟨gd, kD, none⟩ (.int .u8 (bn (p ^^^ y))) = x := ⟨_, rfl⟩
      obtain ⟨Ad, hAd⟩ : ∃ x : Option Addr, some (⟨gd, 0, none⟩ : Addr) = x := ⟨_, rfl⟩
      rw [hw5] at TW5 OT5 OD5 ⊢
      rw [hAd] at OD5 ⊢
      clear hw5 ho TW OT OD cp cf hp
      have TW := TW5
      have OT := OT5
      have OD := OD5
      clear TW5 OT5 OD5
      obtain ⟨N5, hN5⟩ : ∃ x, nonce = x := ⟨_, rfl⟩
      have HN5 : Hid (N5.length = 12) := show _ = _ by rw [← hN5]; exact Hno.out
      obtain ⟨S5, hS5⟩ : ∃ x, X = x := ⟨_, rfl⟩
      obtain ⟨D5, hD5⟩ : ∃ x, data.set kD (p ^^^ y) = x := ⟨_, rfl⟩
      rw [hN5] at TW
      rw [hS5] at OT
      rw [hD5] at OD
      clear hS5 hD5 hAd
      obtain ⟨⟨lo, eo⟩, hro⟩ : ∃ r, openG key N5 S5 D5 3 7 = r := ⟨_, rfl⟩
      have HLO : Hid (lo.length ≤ n1 + 16) := by
        have h := open_lens key N5 S5 D5
        have hl := OT.out.len
        rw [hro, hl] at h
        exact h
      have HRO := Lib.hid hro
      have t6 : (eo == eo) = true := by simp
      clear hro
      go_wp2_with (first
        | ((with_reducible refine wpList_load_blk rfl 22 (.tmp 6) rfl w.heap.size ?hx 22 key ?hg 16 5 Try.underlying22 16 sizeRow Hk.out ?_); (case hx => with_unfolding_all rfl); (case hg => with_reducible exact TW.out.k))
        | ((with_reducible refine wpList_load_blk rfl 23 (.tmp 7) rfl (w.heap.size + 1) ?hx 23 N5 ?hg 12 5 Try.underlying23 12 size12 HN5.out ?_); (case hx => with_unfolding_all rfl); (case hg => with_reducible exact TW.out.n))
        | (go_at_call 13; (with_reducible refine (open_any key N5 S5 D5 Hk.out HN5.out _ Ad (n1 + 16) c5 n2 cd w5.heap.size _ OT.out.sl OD.out.sl (Nat.le_refl _) LT.out.1 LT.out.2 (by omega) LD.out.1 LD.out.2 (by omega)).mono ?_); rw [HRO.out]; rintro e6 w6 ⟨Ab, nb, cb, rfl, o6, lb, mb, b6⟩; replace TW := Lib.hid (TW.out.below b6); replace OT := Lib.hid (OT.out.below b6); replace OD := Lib.hid (OD.out.below b6); have OB := Lib.hid o6; clear o6 lb mb b6)
        | (go_at_call 14; (with_reducible refine (ropen_any key N5 S5 D5 Hk.out HN5.out _ Ad (n1 + 16) c5 n2 cd w6.heap.size _ OT.out.sl OD.out.sl (Nat.le_refl _) LT.out.1 LT.out.2 (by omega) LD.out.1 LD.out.2 (by omega)).mono ?_); rw [HRO.out]; rintro e7 w7 ⟨Ac, nc, cc, rfl, o7, lc, mc, b7⟩; replace TW := Lib.hid (TW.out.below b7); replace OB := Lib.hid (OB.out.below b7); have OC := Lib.hid o7; have HNB : Hid (nb = lo.length) := OB.out.len.symm; clear o7 lc mc b7)
        | (go_at_call 11; (with_reducible refine (same_yes lo lo rfl Ab Ac nb nc cb cc w7.heap.size w7.heap.size _ OB.out.sl OC.out.sl (by have := HNB.out; have := HLO.out; simp [maxLen]; omega)).mono ?_); rintro e8 w8 ⟨rfl, k8', rfl⟩)
        | (go_at_call 9; (with_reducible refine (awake_any _).mono ?_); rintro e9 w9 ⟨rfl, b9⟩))
      go_ret
      exact ⟨rfl, (below_drewN TW.out.b k8').trans (b9.mono TW.out.b.size)⟩
    · have hways : ((k3 : Int) == 1) = false ∨ (((k3 : Int) == 1) = true ∧ decide ((0 : Int) < (n2 : Int)) = false ∧ decide (0 < n2) = false) := by
        by_cases h2 : k3 = 1
        · exact .inr ⟨by simp; omega, by simp; omega, by simp; omega⟩
        · exact .inl (by simp; omega)
      obtain ⟨p, hp⟩ : ∃ b, X.getD kS 0 = b := ⟨_, rfl⟩
      have hxl := OT.out.len
      have cp : w4.cell? ⟨gt, kS, none⟩ = some (.int .u8 (bn p)) := by
        have e := OT.out.sl.cellD kS (by omega)
        rw [Nat.zero_add, hp] at e
        exact e
      have cf := OT.out.frozen kS
      have lk : (kS : Int) < (n1 : Int) + 16 := by omega
      have H1 := Lib.hid h1
      clear hxl h1
      rcases hways with t5 | ⟨t5, t5', t5''⟩
      all_goals
        go_upto_region 14 with (go_at_call 17; (first | ((with_reducible refine (HL3.out _).mono ?_); rintro e5 w5 ⟨rfl, rfl⟩) | ((with_reducible refine (HLS.out _).mono ?_); rintro e5 w5 ⟨rfl, rfl⟩)))
        have ho : Only gt w4 (w4.setCell ⟨gt, kS, none⟩ (.int .u8 (bn (p ^^^ y)))) := (Only.refl _ _).setCell _ _
        have TW5 := Lib.hid (TW.out.only ho (by omega))
        have OD5 := Lib.hid (OD.out.onlyA ho (fun a ha => by have := (HD.out a ha).2; omega))
        have OT5 := Lib.hid (OT.out.store kS (p ^^^ y) (.int .u8 (bn (p ^^^ y))) rfl)
        obtain ⟨w5, hw5⟩ : ∃ x, w4.setCell ⟨gt, kS, none⟩ (.int .u8 (bn (p ^^^ y))) = x := ⟨_, rfl⟩
        rw [hw5] at TW5 OT5 OD5 ⊢
        clear hw5 ho TW OT OD cp cf hp
        have TW := TW5
        have OT := OT5
        have OD := OD5
        clear TW5 OT5 OD5
        obtain ⟨N5, hN5⟩ : ∃ x, nonce = x := ⟨_, rfl⟩
        have HN5 : Hid (N5.length = 12) := show _ = _ by rw [← hN5]; exact Hno.out
        obtain ⟨S5, hS5⟩ : ∃ x, X.set kS (p ^^^ y) = x := ⟨_, rfl⟩
        obtain ⟨D5, hD5⟩ : ∃ x, data = x := ⟨_, rfl⟩
        rw [hN5] at TW
        rw [hS5] at OT
        rw [hD5] at OD
        clear hS5 hD5
        obtain ⟨⟨lo, eo⟩, hro⟩ : ∃ r, openG key N5 S5 D5 3 7 = r := ⟨_, rfl⟩
        have HLO : Hid (lo.length ≤ n1 + 16) := by
          have h := open_lens key N5 S5 D5
          have hl := OT.out.len
          rw [hro, hl] at h
          exact h
        have HRO := Lib.hid hro
        have t6 : (eo == eo) = true := by simp
        clear hro
        go_wp2_with (first
          | ((with_reducible refine wpList_load_blk rfl 22 (.tmp 6) rfl w.heap.size ?hx 22 key ?hg 16 5 Try.underlying22 16 sizeRow Hk.out ?_); (case hx => with_unfolding_all rfl); (case hg => with_reducible exact TW.out.k))
          | ((with_reducible refine wpList_load_blk rfl 23 (.tmp 7) rfl (w.heap.size + 1) ?hx 23 N5 ?hg 12 5 Try.underlying23 12 size12 HN5.out ?_); (case hx => with_unfolding_all rfl); (case hg => with_reducible exact TW.out.n))
          | (go_at_call 13; (with_reducible refine (open_any key N5 S5 D5 Hk.out HN5.out _ Ad (n1 + 16) c5 n2 cd w5.heap.size _ OT.out.sl OD.out.sl (Nat.le_refl _) LT.out.1 LT.out.2 (by omega) LD.out.1 LD.out.2 (by omega)).mono ?_); rw [HRO.out]; rintro e6 w6 ⟨Ab, nb, cb, rfl, o6, lb, mb, b6⟩; replace TW := Lib.hid (TW.out.below b6); replace OT := Lib.hid (OT.out.below b6); replace OD := Lib.hid (OD.out.below b6); have OB := Lib.hid o6; clear o6 lb mb b6)
          | (go_at_call 14; (with_reducible refine (ropen_any key N5 S5 D5 Hk.out HN5.out _ Ad (n1 + 16) c5 n2 cd w6.heap.size _ OT.out.sl OD.out.sl (Nat.le_refl _) LT.out.1 LT.out.2 (by omega) LD.out.1 LD.out.2 (by omega)).mono ?_); rw [HRO.out]; rintro e7 w7 ⟨Ac, nc, cc, rfl, o7, lc, mc, b7⟩; replace TW := Lib.hid (TW.out.below b7); replace OB := Lib.hid (OB.out.below b7); have OC := Lib.hid o7; have HNB : Hid (nb = lo.length) := OB.out.len.symm; clear o7 lc mc b7)
          | (go_at_call 11; (with_reducible refine (same_yes lo lo rfl Ab Ac nb nc cb cc w7.heap.size w7.heap.size _ OB.out.sl OC.out.sl (by have := HNB.out; have := HLO.out; simp [maxLen]; omega)).mono ?_); rintro e8 w8 ⟨rfl, k8', rfl⟩)
          | (go_at_call 9; (with_reducible refine (awake_any _).mono ?_); rintro e9 w9 ⟨rfl, b9⟩))
        go_ret
        exact ⟨rfl, (below_drewN TW.out.b k8').trans (b9.mono TW.out.b.size)⟩
theorem turned_all (key nonce text data : List UInt8) (hk : key.length = 16) (hno : nonce.length = 12) (A1 A2 : Option Addr) (n1 c1 n2 c2 : Nat) (wh bit : Int) (w : World) (hs1 : Sl w w.heap.size A1 n1 text) (hs2 : Sl w w.heap.size A2 n2 data) (hnc1 : n1 ≤ c1) (hcm1 : c1 ≤ maxLen) (hnc2 : n2 ≤ c2) (hcm2 : c2 ≤ maxLen) (hbit : -9223372036854775808 ≤ bit ∧ bit ≤ 9223372036854775807) :
    Calls Try.prog 4 #[.agg (bvs key).toArray, .agg (bvs nonce).toArray, .slice A1 n1 c1, .slice A2 n2 c2, .int .i64 wh, .int .i64 bit] w fun e w' => e = .returned (.bool true) ∧ Below w.heap.size w w' := by
  by_cases h : 60 < n1 ∨ 60 < n2
  · exact turned_long key nonce A1 A2 n1 c1 n2 c2 wh bit w h
  · exact turned_walk key nonce text data hk hno A1 A2 n1 c1 n2 c2 wh bit w hs1 hs2 hnc1 hcm1 hnc2 hcm2 hbit (by omega) (by omega)
end Go.Proofs.Ytjnclcehnpkncaa
