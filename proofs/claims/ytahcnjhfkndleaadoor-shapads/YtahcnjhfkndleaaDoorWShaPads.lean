/-
  The walk of ShaPads.
-/
import Derived.Test.YtahcnjhfkndleaaDoorShaI
namespace Go.Proofs.YtahcnjhfkndleaaDoor
open Go.RowKit
set_option linter.unusedVariables false

theorem beB_inj (x y t : Nat) (h : beB x t = beB y t) : x % 256 ^ t = y % 256 ^ t := by
  induction t with
  | zero => simp [Nat.mod_one]
  | succ t ih =>
    simp only [beB, List.cons.injEq] at h
    have h1 := ih h.2
    have h2 : x / 256 ^ t % 256 = y / 256 ^ t % 256 := by
      have := congrArg UInt8.toNat h.1
      simpa using this
    rw [Nat.mod_pow_succ, Nat.mod_pow_succ, h1, h2]
theorem padV_inj (n m : Nat) (hn : n < 1099511627776) (hm : m < 1099511627776) (h : padV n = padV m) : n = m := by
  have hl : padN n = padN m := by rw [← padV_length, ← padV_length, h]
  unfold padV at h
  rw [hl] at h
  simp only [List.cons.injEq, true_and, List.append_cancel_left_eq] at h
  have := beB_inj _ _ _ h
  omega
/-- what the last bytes tell so far -/
def bitsI (n i : Nat) : Nat := if i + 8 ≤ padN n then 0 else 8 * n / 256 ^ (padN n - i)
theorem padV_first (n : Nat) : (padV n)[0]? = some 128 := rfl
theorem padV_zero (n i : Nat) (h0 : 0 < i) (h : i + 8 < padN n) : (padV n)[i]? = some 0 := by
  obtain ⟨k, rfl⟩ : ∃ k, i = k + 1 := ⟨i - 1, by omega⟩
  unfold padV
  rw [List.getElem?_cons_succ, List.getElem?_append_left (by rw [List.length_replicate]; omega), List.getElem?_replicate, if_pos (by omega)]
theorem beB_get (x t k : Nat) (h : k < t) : (beB x t)[k]? = some (UInt8.ofNat (x / 256 ^ (t - 1 - k))) := by
  induction t generalizing k with
  | zero => omega
  | succ t ih =>
    cases k with
    | zero => simp [beB]
    | succ k =>
      rw [beB, List.getElem?_cons_succ, ih k (by omega)]
      congr 4
      omega
theorem padV_last (n i : Nat) (h : padN n ≤ i + 8) (hi : i < padN n) : (padV n)[i]? = some (UInt8.ofNat (8 * n / 256 ^ (padN n - 1 - i))) := by
  have hb := padN_bd n
  obtain ⟨k, rfl⟩ : ∃ k, i = k + 1 := ⟨i - 1, by omega⟩
  unfold padV
  rw [List.getElem?_cons_succ, List.getElem?_append_right (by simp; omega), List.length_replicate, beB_get _ _ _ (by omega)]
  congr 4
  omega
theorem bitsI_succ (n i : Nat) (hn : n < 1099511627776) (h : padN n ≤ i + 8) (hi : i < padN n) : bitsI n (i + 1) = bitsI n i * 256 + 8 * n / 256 ^ (padN n - 1 - i) % 256 ∧ bitsI n i < 8796093022208 := by
  have hb := padN_bd n
  unfold bitsI
  rw [if_neg (by omega)]
  have e1 : padN n - (i + 1) = padN n - 1 - i := by omega
  rw [e1]
  by_cases he : i + 8 ≤ padN n
  · rw [if_pos he]
    have e : padN n - 1 - i = 7 := by omega
    rw [e]
    refine ⟨?_, by omega⟩
    have : 8 * n / 256 ^ 7 = 0 := by omega
    omega
  · rw [if_neg he]
    have e2 : padN n - i = (padN n - 1 - i) + 1 := by omega
    rw [e2, Nat.pow_succ, ← Nat.div_div_eq_div_mul]
    refine ⟨by omega, ?_⟩
    have h1 : 8 * n / 256 ^ (padN n - 1 - i) ≤ 8 * n := Nat.div_le_self _ _
    omega
theorem bitsI_full (n : Nat) (hn : n < 1099511627776) : bitsI n (padN n) = 8 * n := by
  unfold bitsI
  rw [if_neg (by omega), Nat.sub_self]
  simp
theorem bitsI_low (n i : Nat) (h : i + 8 ≤ padN n) : bitsI n i = 0 := by unfold bitsI; rw [if_pos h]

theorem i64_or_nat (a b : Nat) (ha : a < 4611686018427387904) (hb : b < 4611686018427387904) : bits .or .i64 (a : Int) (b : Int) = ((a ||| b : Nat) : Int) := by
  have hx : a ||| b < 2 ^ 62 := Nat.or_lt_two_pow (by omega) (by omega)
  show IntKind.i64.wrap ((BitVec.ofInt 64 (a : Int) ||| BitVec.ofInt 64 (b : Int)).toNat : Int) = _
  rw [BitVec.toNat_or, ofInt_u64 a (by omega), ofInt_u64 b (by omega)]
  exact IntWalk.i64_in _ (by omega)

set_option maxHeartbeats 1000000 in
theorem pads_walk (x y : Int) (N M : Nat) (hN : lowV x 1099511627776 = (N : Int)) (hM : lowV y 1099511627776 = (M : Int)) (hNb : N < 1099511627776) (hMb : M < 1099511627776) (w : World) (hG : Glob w) :
    Calls Tryd.prog 5 #[.int .i64 x, .int .i64 y] w fun e w' => e = .returned (.bool true) ∧ Below w.heap.size w w' := by
  have L1 := low_any x 1099511627776
  have L2 := low_any y 1099511627776
  rw [hN] at L1
  rw [hM] at L2
  have HL1 := Lib.hid L1
  have HL2 := Lib.hid L2
  have HG := Lib.hid hG
  clear L1 L2 hN hM hG
  go_enter Tryd.func5, Tryd.ntmps5
  go_wp2_with fail
  (with_reducible refine (HL1.out _ (by omega) (by omega)).mono ?_)
  rintro e w' ⟨rfl, rfl⟩
  go_wp2_with fail
  (with_reducible refine (HL2.out _ (by omega) (by omega)).mono ?_)
  rintro e w' ⟨rfl, rfl⟩
  go_wp2_with fail
  (with_reducible refine (pad_any N (by omega) _).mono ?_)
  rintro e w1 ⟨A1, c1, rfl, ho1, hle1, hc1, hb1⟩
  go_wp2_with fail
  (with_reducible refine (pad_any M (by omega) _).mono ?_)
  rintro e w2 ⟨A2, c2, rfl, ho2, hle2, hc2, hb2⟩
  have hb12 : Below w.heap.size w w2 := hb1.trans (hb2.mono hb1.size)
  have HO1 := Lib.hid (ho1.below hb2)
  have HO2 := Lib.hid ho2
  have HB := Lib.hid hb12
  have hS := padN_bd N
  have hR := padN_bd M
  obtain ⟨S, hSe⟩ : ∃ S, padN N = S := ⟨_, rfl⟩
  obtain ⟨R, hRe⟩ : ∃ R, padN M = R := ⟨_, rfl⟩
  rw [hSe] at hS hle1 HO1 ⊢
  rw [hRe] at hR hle2 HO2 ⊢
  obtain ⟨g, rfl, hg1, hg2⟩ := HO1.out.at_ (by omega)
  have s1 : decide ((S : Int) < 9) = false := by simp; omega
  have s2 : decide ((72 : Int) < (S : Int)) = false := by simp; omega
  have s3 : (((N : Int) + (S : Int)) % 64 != 0) = false := by simp; omega
  have s4 : decide ((R : Int) < 9) = false := by simp; omega
  have c0 : w2.cell? ⟨g, 0, none⟩ = some (.int .u8 128) := HO1.out.cell 0 (by rw [padV_length]; omega)
  have hS9 : 9 ≤ S := hS.1
  have hS72 : S ≤ 72 := hS.2.1
  have HSe := Lib.hid hSe
  have s5 : (0 : Int) < (S : Int) := by omega
  clear hb1 ho1 ho2 hb2 hb12 hS hR hSe
  go_wp2_with fail
  go_loop [7, 8] (fun b i => ∃ j : Nat, j ≤ S ∧ i = .int .i64 j ∧ b = .int .i64 (bitsI N j)) (fun _ i => S - (intOf i).toNat)
  case atStart => exact ⟨0, by omega, rfl, by rw [bitsI_low N 0 (by rw [HSe.out]; omega)]; rfl⟩
  case round =>
    obtain ⟨j, hj, rfl, rfl⟩ := hrel
    by_cases hlt : j < S
    · have hjI : (j : Int) < (S : Int) := by omega
      by_cases hlast : S ≤ j + 8
      · have t1 : decide ((S : Int) - 8 ≤ (j : Int)) = true := by simp; omega
        obtain ⟨X, hX⟩ : ∃ X, 8 * N / 256 ^ (padN N - 1 - j) % 256 = X := ⟨_, rfl⟩
        obtain ⟨B, hB⟩ : ∃ B, bitsI N j = B := ⟨_, rfl⟩
        have hs := bitsI_succ N j hNb (by rw [HSe.out]; exact hlast) (by rw [HSe.out]; exact hlt)
        have hX256 : X < 256 := by omega
        rw [hX, hB] at hs
        have cj : w2.cell? ⟨g, j, none⟩ = some (.int .u8 (X : Int)) := by
          have hjl : j < (padV N).length := by rw [padV_length, HSe.out]; exact hlt
          have h1 := HO1.out.cell j hjl
          have h2 := padV_last N j (by rw [HSe.out]; exact hlast) (by rw [HSe.out]; exact hlt)
          rw [List.getElem?_eq_getElem hjl] at h2
          injection h2 with h2
          rw [h1, h2, ← hX]
          simp [bv]
        have hor : bits .or .i64 ((B : Int) * 256) (X : Int) = ((B * 256 + X : Nat) : Int) := by
          have h := i64_or_nat (B * 256) X (by omega) (by omega)
          rw [nat_join 8 _ _ (by omega) (by omega)] at h
          rw [← h]; simp
        have hBb : (B : Int) < 8796093022208 := by omega
        have HN : Hid (bitsI N (j + 1) = B * 256 + X) := hs.1
        rw [hB]
        clear hs hX hB
        go_wp2_with fail
        go_round
        case rel => exact ⟨j + 1, by omega, by go_num, by rw [HN.out]; simp⟩
        case measure => simp [intOf]; omega
      · have t1 : decide ((S : Int) - 8 ≤ (j : Int)) = false := by simp; omega
        have hz := bitsI_low N j (by rw [HSe.out]; omega)
        have HN : Hid (bitsI N (j + 1) = 0) := bitsI_low N (j + 1) (by rw [HSe.out]; omega)
        rw [hz]
        clear hz
        by_cases h0 : j = 0
        · subst h0
          go_wp2_with fail
          go_round
          case rel => exact ⟨1, by omega, by go_num, by rw [HN.out]⟩
          case measure => simp [intOf]; omega
        · have cj : w2.cell? ⟨g, j, none⟩ = some (.int .u8 0) := by
            have hjl : j < (padV N).length := by rw [padV_length, HSe.out]; exact hlt
            have h1 := HO1.out.cell j hjl
            have h2 := padV_zero N j (by omega) (by rw [HSe.out]; omega)
            rw [List.getElem?_eq_getElem hjl] at h2
            injection h2 with h2
            rw [h1, h2]; rfl
          have t2 : decide ((0 : Int) < (j : Int)) = true := by simp; omega
          go_wp2_with fail
          go_round
          case rel => exact ⟨j + 1, by omega, by go_num, by rw [HN.out]; rfl⟩
          case measure => simp [intOf]; omega
    · obtain rfl : j = S := by omega
      have hfull := bitsI_full N hNb
      rw [HSe.out] at hfull
      rw [hfull]
      have t1 : (((8 * N : Nat) : Int) == 8 * (N : Int)) = true := by simp
      have hdec : (decide (padV N = padV M) == ((N : Int) == (M : Int))) = true := by
        by_cases h : N = M
        · subst h; simp
        · have h1 : padV N ≠ padV M := fun e => h (padV_inj N M hNb hMb e)
          have h2 : ¬ (N : Int) = (M : Int) := by omega
          simp [h1, h2]
      have HD := Lib.hid hdec
      clear hdec hfull
      go_wp2_with fail
      (with_reducible refine (same_any (padV N) (padV M) _ _ _ _ _ _ w2.heap.size w2.heap.size _ ?h1 ?h2 (by simp [maxLen]; omega)).mono ?_)
      case h1 => exact HO1.out.sl
      case h2 => exact HO2.out.sl
      rintro e w3 ⟨rfl, k3, rfl⟩
      have hd := HD.out
      obtain ⟨q1, hq1⟩ : ∃ q, decide (padV N = padV M) = q := ⟨_, rfl⟩
      rw [hq1] at hd ⊢
      clear hq1
      go_wp2_with fail
      (with_reducible refine (pad_neg _ _ (by omega)).mono ?_)
      rintro e w' ⟨rfl, rfl⟩
      go_wp2_with fail
      (with_reducible refine (awake_any _ ?hGl).mono ?_)
      case hGl => exact HG.out.below (below_drewN HB.out _)
      rintro e w5 ⟨rfl, hb5⟩
      go_wp2
      go_ret
      have hbk := below_drewN HB.out k3
      exact ⟨rfl, hbk.trans (hb5.mono hbk.size)⟩
end Go.Proofs.YtahcnjhfkndleaaDoor
