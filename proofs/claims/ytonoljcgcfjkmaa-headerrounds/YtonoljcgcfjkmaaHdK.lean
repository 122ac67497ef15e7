/-
  A number found again: the contract of Full.
-/
import Derived.Test.YtonoljcgcfjkmaaHdJ
namespace Go.Proofs.Ytonoljcgcfjkmaa
open Go.RowKit
set_option linter.unusedVariables false

theorem mask_out (a k m : Nat) (ha : a < 2 ^ 64) (hk : k ≤ 64) (hm : m = (2 ^ (64 - k) - 1) <<< k) : a &&& m = a / 2 ^ k * 2 ^ k := by
  rw [hm]
  apply Nat.eq_of_testBit_eq
  intro i
  rw [Nat.testBit_and, Nat.testBit_shiftLeft, Nat.testBit_two_pow_sub_one, ← Nat.shiftRight_eq_div_pow, ← Nat.shiftLeft_eq, Nat.testBit_shiftLeft, Nat.testBit_shiftRight]
  by_cases h : k ≤ i
  · rw [show k + (i - k) = i by omega]
    by_cases h2 : i < 64
    · have : i - k < 64 - k := by omega
      simp [h, this]
    · have h3 : a.testBit i = false := Nat.testBit_lt_two_pow (Nat.lt_of_lt_of_le ha (Nat.pow_le_pow_right (by omega) (by omega)))
      simp [h3]
  · simp [h]
/-- the parts of a number, of n bytes -/
theorem near_bits (n k W M : Nat) (hW : W = 2 ^ k) (hM : M = W - 1) (hk : k ≤ 32) (hm : 18446744073709551615 - M = (2 ^ (64 - k) - 1) <<< k) (a b : Nat) (ha : a < 4611686018427387905) (hb : b < 18446744073709551616) :
    ∃ p q c : Nat, bits .andNot .u64 (a : Int) (M : Int) = (p : Int) ∧ bits .and .u64 (b : Int) (M : Int) = (q : Int) ∧ bits .or .u64 (p : Int) (q : Int) = (c : Int) ∧ c = a / W * W + b % W ∧ c < 9223372036854775808 := by
  have hWp : 2 ^ k ≤ 2 ^ 32 := Nat.pow_le_pow_right (by omega) hk
  have hW0 : 0 < 2 ^ k := Nat.pow_pos (by omega)
  have e1 : a &&& (18446744073709551615 - M) = a / 2 ^ k * 2 ^ k := mask_out a k _ (by omega) (by omega) hm
  have e2 : b &&& M = b % 2 ^ k := by rw [hM, hW]; exact Nat.and_two_pow_sub_one_eq_mod b k
  have h1 : a / 2 ^ k * 2 ^ k ≤ a := Nat.div_mul_le_self a _
  have h2 : b % 2 ^ k < 2 ^ k := Nat.mod_lt _ hW0
  have e3 : (a / 2 ^ k * 2 ^ k) ||| (b % 2 ^ k) = a / 2 ^ k * 2 ^ k + b % 2 ^ k := nat_join k _ _ (Nat.mul_mod_left _ _) h2
  refine ⟨a / 2 ^ k * 2 ^ k, b % 2 ^ k, a / 2 ^ k * 2 ^ k + b % 2 ^ k, ?_, ?_, ?_, by rw [hW], by omega⟩
  · rw [u64_andNot_nat a M (by omega) (by omega), e1]
  · rw [u64_and_nat b M hb (by omega), e2]
  · rw [u64_or_nat _ _ (by omega) (by omega), e3]

set_option maxRecDepth 8000 in
set_option maxHeartbeats 4000000 in
theorem full1_any (cut largest : Nat) (any : Bool) (hc : cut < 18446744073709551616) (hl : largest ≤ 4611686018427387903) (w : World) :
    Calls Try.prog 23 #[.int .u64 (cut : Int), .int .i64 1, .int .u64 (largest : Int), .bool any] w fun e w' => e = .returned (.int .u64 (fullV cut 1 largest any : Nat)) ∧ w = w' := by
  have HN := Lib.hid (mayNumLen_any 1)
  rw [decide_eq_true (by omega)] at HN
  have t1 : decide ((4611686018427387903 : Int) < (largest : Int)) = false := by simp; omega
  obtain ⟨N0, hN0⟩ : ∃ N0 : Nat, (if any = true then largest + 1 else 0) = N0 := ⟨_, rfl⟩
  have hNb : N0 < 4611686018427387905 := by rw [← hN0]; split <;> omega
  obtain ⟨p, q, c, e1, e2, e3, hcd, hcb⟩ := near_bits 1 8 256 255 (by decide) (by decide) (by decide) (by decide) N0 cut hNb hc
  have e1 : bits .andNot .u64 (N0 : Int) 255 = (p : Int) := e1
  have e2 : bits .and .u64 (cut : Int) 255 = (q : Int) := e2
  obtain ⟨R, hR⟩ : ∃ R, fullV cut 1 largest any = R := ⟨_, rfl⟩
  have hR2 : R = if c + 128 ≤ N0 ∧ c ≤ 4611686018427387647 then c + 256 else if N0 + 128 < c ∧ 256 ≤ c then c - 256 else c := by
    rw [← hR]
    unfold fullV
    rw [if_neg (by omega), hN0]
    have e : nearV 1 N0 cut = c := by rw [hcd]; rfl
    rw [e]
    rfl
  rw [hR]
  have hi : any = true → (largest : Int) + 1 = (N0 : Int) := fun h => by rw [← hN0, if_pos h]; omega
  have hi0 : any = false → N0 = 0 := fun h => by rw [← hN0, if_neg (by simp [h])]
  have hb64 : N0 < 4611686018427387905 := by omega
  clear hl hR hN0 hNb hcd
  have hways : (c + 128 ≤ N0 ∧ c ≤ 4611686018427387647 ∧ R = c + 256) ∨ (c + 128 ≤ N0 ∧ ¬ c ≤ 4611686018427387647 ∧ ¬ N0 + 128 < c ∧ R = c) ∨ (¬ c + 128 ≤ N0 ∧ N0 + 128 < c ∧ 256 ≤ c ∧ R + 256 = c) ∨ (¬ c + 128 ≤ N0 ∧ N0 + 128 < c ∧ ¬ 256 ≤ c ∧ R = c) ∨ (¬ c + 128 ≤ N0 ∧ ¬ N0 + 128 < c ∧ R = c) := by
    rw [hR2]
    by_cases h1 : c + 128 ≤ N0
    · by_cases h0 : c ≤ 4611686018427387647
      · exact .inl ⟨h1, h0, if_pos ⟨h1, h0⟩⟩
      · exact .inr (.inl ⟨h1, h0, by omega, by rw [if_neg (fun h => h0 h.2), if_neg (by omega)]⟩)
    · rw [if_neg (fun h => h1 h.1)]
      by_cases h2 : N0 + 128 < c
      · by_cases h3 : 256 ≤ c
        · exact .inr (.inr (.inl ⟨h1, h2, h3, by rw [if_pos ⟨h2, h3⟩]; omega⟩))
        · exact .inr (.inr (.inr (.inl ⟨h1, h2, h3, by rw [if_neg (fun h => h3 h.2)]⟩)))
      · exact .inr (.inr (.inr (.inr ⟨h1, h2, by rw [if_neg (fun h => h2 h.1)]⟩)))
  clear hR2
  have hways : (decide ((c : Int) + 128 ≤ (N0 : Int)) = true ∧ decide ((c : Int) ≤ 4611686018427387647) = true ∧ R = c + 256) ∨ (decide ((c : Int) + 128 ≤ (N0 : Int)) = true ∧ decide ((c : Int) ≤ 4611686018427387647) = false ∧ decide ((N0 : Int) + 128 < (c : Int)) = false ∧ R = c) ∨ (decide ((c : Int) + 128 ≤ (N0 : Int)) = false ∧ decide ((N0 : Int) + 128 < (c : Int)) = true ∧ decide ((256 : Int) ≤ (c : Int)) = true ∧ (c : Int) - 256 = (R : Int)) ∨
      (decide ((c : Int) + 128 ≤ (N0 : Int)) = false ∧ decide ((N0 : Int) + 128 < (c : Int)) = true ∧ decide ((256 : Int) ≤ (c : Int)) = false ∧ R = c) ∨ (decide ((c : Int) + 128 ≤ (N0 : Int)) = false ∧ decide ((N0 : Int) + 128 < (c : Int)) = false ∧ R = c) := by
    simp only [decide_eq_true_eq, decide_eq_false_iff_not]
    omega
  have hRb : R < 18446744073709551616 := by
    simp only [decide_eq_true_eq, decide_eq_false_iff_not] at hways
    omega
  have hz : decide (((0 : Nat) : Int) = 0) = true := rfl
  cases any
  · obtain rfl := hi0 rfl
    clear hi hi0 hz
    simp only [Int.ofNat_zero, Int.zero_add] at e1 hways
    rcases hways with ⟨d1, d2, rfl⟩ | ⟨d1, d2, d3, rfl⟩ | ⟨d1, d2, d3, hR⟩ | ⟨d1, d2, d3, rfl⟩ | ⟨d1, d2, rfl⟩
    all_goals
      go_enter Try.func23, Try.ntmps23
      go_wp2_with (first | (go_at_call 42; (with_reducible refine (HN.out _).mono ?_); rintro e w' ⟨rfl, rfl⟩) | (go_at_call 44; (with_reducible refine (half_1 _).mono ?_); rintro e w' ⟨rfl, rfl⟩))
      go_ret
      exact ⟨by first | rfl | simp, rfl⟩
  · have hi := hi rfl
    clear hi0 hz
    have hB1 : IntKind.u64.wrap (4611686018427387903 - 256) = 4611686018427387647 := IntWalk.u64_in _ (by omega)
    have hB2 : IntKind.u64.wrap 4611686018427387647 = 4611686018427387647 := IntWalk.u64_in _ (by omega)
    rcases hways with ⟨d1, d2, rfl⟩ | ⟨d1, d2, d3, rfl⟩ | ⟨d1, d2, d3, hR⟩ | ⟨d1, d2, d3, rfl⟩ | ⟨d1, d2, rfl⟩
    all_goals
      go_enter Try.func23, Try.ntmps23
      go_wp2_with (first | (go_at_call 42; (with_reducible refine (HN.out _).mono ?_); rintro e w' ⟨rfl, rfl⟩) | (go_at_call 44; (with_reducible refine (half_1 _).mono ?_); rintro e w' ⟨rfl, rfl⟩))
      go_ret
      exact ⟨by first | rfl | simp, rfl⟩
set_option maxRecDepth 8000 in
set_option maxHeartbeats 4000000 in
theorem full2_any (cut largest : Nat) (any : Bool) (hc : cut < 18446744073709551616) (hl : largest ≤ 4611686018427387903) (w : World) :
    Calls Try.prog 23 #[.int .u64 (cut : Int), .int .i64 2, .int .u64 (largest : Int), .bool any] w fun e w' => e = .returned (.int .u64 (fullV cut 2 largest any : Nat)) ∧ w = w' := by
  have HN := Lib.hid (mayNumLen_any 2)
  rw [decide_eq_true (by omega)] at HN
  have t1 : decide ((4611686018427387903 : Int) < (largest : Int)) = false := by simp; omega
  obtain ⟨N0, hN0⟩ : ∃ N0 : Nat, (if any = true then largest + 1 else 0) = N0 := ⟨_, rfl⟩
  have hNb : N0 < 4611686018427387905 := by rw [← hN0]; split <;> omega
  obtain ⟨p, q, c, e1, e2, e3, hcd, hcb⟩ := near_bits 2 16 65536 65535 (by decide) (by decide) (by decide) (by decide) N0 cut hNb hc
  have e1 : bits .andNot .u64 (N0 : Int) 65535 = (p : Int) := e1
  have e2 : bits .and .u64 (cut : Int) 65535 = (q : Int) := e2
  obtain ⟨R, hR⟩ : ∃ R, fullV cut 2 largest any = R := ⟨_, rfl⟩
  have hR2 : R = if c + 32768 ≤ N0 ∧ c ≤ 4611686018427322367 then c + 65536 else if N0 + 32768 < c ∧ 65536 ≤ c then c - 65536 else c := by
    rw [← hR]
    unfold fullV
    rw [if_neg (by omega), hN0]
    have e : nearV 2 N0 cut = c := by rw [hcd]; rfl
    rw [e]
    rfl
  rw [hR]
  have hi : any = true → (largest : Int) + 1 = (N0 : Int) := fun h => by rw [← hN0, if_pos h]; omega
  have hi0 : any = false → N0 = 0 := fun h => by rw [← hN0, if_neg (by simp [h])]
  have hb64 : N0 < 4611686018427387905 := by omega
  clear hl hR hN0 hNb hcd
  have hways : (c + 32768 ≤ N0 ∧ c ≤ 4611686018427322367 ∧ R = c + 65536) ∨ (c + 32768 ≤ N0 ∧ ¬ c ≤ 4611686018427322367 ∧ ¬ N0 + 32768 < c ∧ R = c) ∨ (¬ c + 32768 ≤ N0 ∧ N0 + 32768 < c ∧ 65536 ≤ c ∧ R + 65536 = c) ∨ (¬ c + 32768 ≤ N0 ∧ N0 + 32768 < c ∧ ¬ 65536 ≤ c ∧ R = c) ∨ (¬ c + 32768 ≤ N0 ∧ ¬ N0 + 32768 < c ∧ R = c) := by
    rw [hR2]
    by_cases h1 : c + 32768 ≤ N0
    · by_cases h0 : c ≤ 4611686018427322367
      · exact .inl ⟨h1, h0, if_pos ⟨h1, h0⟩⟩
      · exact .inr (.inl ⟨h1, h0, by omega, by rw [if_neg (fun h => h0 h.2), if_neg (by omega)]⟩)
    · rw [if_neg (fun h => h1 h.1)]
      by_cases h2 : N0 + 32768 < c
      · by_cases h3 : 65536 ≤ c
        · exact .inr (.inr (.inl ⟨h1, h2, h3, by rw [if_pos ⟨h2, h3⟩]; omega⟩))
        · exact .inr (.inr (.inr (.inl ⟨h1, h2, h3, by rw [if_neg (fun h => h3 h.2)]⟩)))
      · exact .inr (.inr (.inr (.inr ⟨h1, h2, by rw [if_neg (fun h => h2 h.1)]⟩)))
  clear hR2
  have hways : (decide ((c : Int) + 32768 ≤ (N0 : Int)) = true ∧ decide ((c : Int) ≤ 4611686018427322367) = true ∧ R = c + 65536) ∨ (decide ((c : Int) + 32768 ≤ (N0 : Int)) = true ∧ decide ((c : Int) ≤ 4611686018427322367) = false ∧ decide ((N0 : Int) + 32768 < (c : Int)) = false ∧ R = c) ∨ (decide ((c : Int) + 32768 ≤ (N0 : Int)) = false ∧ decide ((N0 : Int) + 32768 < (c : Int)) = true ∧ decide ((65536 : Int) ≤ (c : Int)) = true ∧ (c : Int) - 65536 = (R : Int)) ∨
      (decide ((c : Int) + 32768 ≤ (N0 : Int)) = false ∧ decide ((N0 : Int) + 32768 < (c : Int)) = true ∧ decide ((65536 : Int) ≤ (c : Int)) = false ∧ R = c) ∨ (decide ((c : Int) + 32768 ≤ (N0 : Int)) = false ∧ decide ((N0 : Int) + 32768 < (c : Int)) = false ∧ R = c) := by
    simp only [decide_eq_true_eq, decide_eq_false_iff_not]
    omega
  have hRb : R < 18446744073709551616 := by
    simp only [decide_eq_true_eq, decide_eq_false_iff_not] at hways
    omega
  have hz : decide (((0 : Nat) : Int) = 0) = true := rfl
  cases any
  · obtain rfl := hi0 rfl
    clear hi hi0 hz
    simp only [Int.ofNat_zero, Int.zero_add] at e1 hways
    rcases hways with ⟨d1, d2, rfl⟩ | ⟨d1, d2, d3, rfl⟩ | ⟨d1, d2, d3, hR⟩ | ⟨d1, d2, d3, rfl⟩ | ⟨d1, d2, rfl⟩
    all_goals
      go_enter Try.func23, Try.ntmps23
      go_wp2_with (first | (go_at_call 42; (with_reducible refine (HN.out _).mono ?_); rintro e w' ⟨rfl, rfl⟩) | (go_at_call 44; (with_reducible refine (half_2 _).mono ?_); rintro e w' ⟨rfl, rfl⟩))
      go_ret
      exact ⟨by first | rfl | simp, rfl⟩
  · have hi := hi rfl
    clear hi0 hz
    have hB1 : IntKind.u64.wrap (4611686018427387903 - 65536) = 4611686018427322367 := IntWalk.u64_in _ (by omega)
    have hB2 : IntKind.u64.wrap 4611686018427322367 = 4611686018427322367 := IntWalk.u64_in _ (by omega)
    rcases hways with ⟨d1, d2, rfl⟩ | ⟨d1, d2, d3, rfl⟩ | ⟨d1, d2, d3, hR⟩ | ⟨d1, d2, d3, rfl⟩ | ⟨d1, d2, rfl⟩
    all_goals
      go_enter Try.func23, Try.ntmps23
      go_wp2_with (first | (go_at_call 42; (with_reducible refine (HN.out _).mono ?_); rintro e w' ⟨rfl, rfl⟩) | (go_at_call 44; (with_reducible refine (half_2 _).mono ?_); rintro e w' ⟨rfl, rfl⟩))
      go_ret
      exact ⟨by first | rfl | simp, rfl⟩
set_option maxRecDepth 8000 in
set_option maxHeartbeats 4000000 in
theorem full3_any (cut largest : Nat) (any : Bool) (hc : cut < 18446744073709551616) (hl : largest ≤ 4611686018427387903) (w : World) :
    Calls Try.prog 23 #[.int .u64 (cut : Int), .int .i64 3, .int .u64 (largest : Int), .bool any] w fun e w' => e = .returned (.int .u64 (fullV cut 3 largest any : Nat)) ∧ w = w' := by
  have HN := Lib.hid (mayNumLen_any 3)
  rw [decide_eq_true (by omega)] at HN
  have t1 : decide ((4611686018427387903 : Int) < (largest : Int)) = false := by simp; omega
  obtain ⟨N0, hN0⟩ : ∃ N0 : Nat, (if any = true then largest + 1 else 0) = N0 := ⟨_, rfl⟩
  have hNb : N0 < 4611686018427387905 := by rw [← hN0]; split <;> omega
  obtain ⟨p, q, c, e1, e2, e3, hcd, hcb⟩ := near_bits 3 24 16777216 16777215 (by decide) (by decide) (by decide) (by decide) N0 cut hNb hc
  have e1 : bits .andNot .u64 (N0 : Int) 16777215 = (p : Int) := e1
  have e2 : bits .and .u64 (cut : Int) 16777215 = (q : Int) := e2
  obtain ⟨R, hR⟩ : ∃ R, fullV cut 3 largest any = R := ⟨_, rfl⟩
  have hR2 : R = if c + 8388608 ≤ N0 ∧ c ≤ 4611686018410610687 then c + 16777216 else if N0 + 8388608 < c ∧ 16777216 ≤ c then c - 16777216 else c := by
    rw [← hR]
    unfold fullV
    rw [if_neg (by omega), hN0]
    have e : nearV 3 N0 cut = c := by rw [hcd]; rfl
    rw [e]
    rfl
  rw [hR]
  have hi : any = true → (largest : Int) + 1 = (N0 : Int) := fun h => by rw [← hN0, if_pos h]; omega
  have hi0 : any = false → N0 = 0 := fun h => by rw [← hN0, if_neg (by simp [h])]
  have hb64 : N0 < 4611686018427387905 := by omega
  clear hl hR hN0 hNb hcd
  have hways : (c + 8388608 ≤ N0 ∧ c ≤ 4611686018410610687 ∧ R = c + 16777216) ∨ (c + 8388608 ≤ N0 ∧ ¬ c ≤ 4611686018410610687 ∧ ¬ N0 + 8388608 < c ∧ R = c) ∨ (¬ c + 8388608 ≤ N0 ∧ N0 + 8388608 < c ∧ 16777216 ≤ c ∧ R + 16777216 = c) ∨ (¬ c + 8388608 ≤ N0 ∧ N0 + 8388608 < c ∧ ¬ 16777216 ≤ c ∧ R = c) ∨ (¬ c + 8388608 ≤ N0 ∧ ¬ N0 + 8388608 < c ∧ R = c) := by
    rw [hR2]
    by_cases h1 : c + 8388608 ≤ N0
    · by_cases h0 : c ≤ 4611686018410610687
      · exact .inl ⟨h1, h0, if_pos ⟨h1, h0⟩⟩
      · exact .inr (.inl ⟨h1, h0, by omega, by rw [if_neg (fun h => h0 h.2), if_neg (by omega)]⟩)
    · rw [if_neg (fun h => h1 h.1)]
      by_cases h2 : N0 + 8388608 < c
      · by_cases h3 : 16777216 ≤ c
        · exact .inr (.inr (.inl ⟨h1, h2, h3, by rw [if_pos ⟨h2, h3⟩]; omega⟩))
        · exact .inr (.inr (.inr (.inl ⟨h1, h2, h3, by rw [if_neg (fun h => h3 h.2)]⟩)))
      · exact .inr (.inr (.inr (.inr ⟨h1, h2, by rw [if_neg (fun h => h2 h.1)]⟩)))
  clear hR2
  have hways : (decide ((c : Int) + 8388608 ≤ (N0 : Int)) = true ∧ decide ((c : Int) ≤ 4611686018410610687) = true ∧ R = c + 16777216) ∨ (decide ((c : Int) + 8388608 ≤ (N0 : Int)) = true ∧ decide ((c : Int) ≤ 4611686018410610687) = false ∧ decide ((N0 : Int) + 8388608 < (c : Int)) = false ∧ R = c) ∨ (decide ((c : Int) + 8388608 ≤ (N0 : Int)) = false ∧ decide ((N0 : Int) + 8388608 < (c : Int)) = true ∧ decide ((16777216 : Int) ≤ (c : Int)) = true ∧ (c : Int) - 16777216 = (R : Int)) ∨
      (decide ((c : Int) + 8388608 ≤ (N0 : Int)) = false ∧ decide ((N0 : Int) + 8388608 < (c : Int)) = true ∧ decide ((16777216 : Int) ≤ (c : Int)) = false ∧ R = c) ∨ (decide ((c : Int) + 8388608 ≤ (N0 : Int)) = false ∧ decide ((N0 : Int) + 8388608 < (c : Int)) = false ∧ R = c) := by
    simp only [decide_eq_true_eq, decide_eq_false_iff_not]
    omega
  have hRb : R < 18446744073709551616 := by
    simp only [decide_eq_true_eq, decide_eq_false_iff_not] at hways
    omega
  have hz : decide (((0 : Nat) : Int) = 0) = true := rfl
  cases any
  · obtain rfl := hi0 rfl
    clear hi hi0 hz
    simp only [Int.ofNat_zero, Int.zero_add] at e1 hways
    rcases hways with ⟨d1, d2, rfl⟩ | ⟨d1, d2, d3, rfl⟩ | ⟨d1, d2, d3, hR⟩ | ⟨d1, d2, d3, rfl⟩ | ⟨d1, d2, rfl⟩
    all_goals
      go_enter Try.func23, Try.ntmps23
      go_wp2_with (first | (go_at_call 42; (with_reducible refine (HN.out _).mono ?_); rintro e w' ⟨rfl, rfl⟩) | (go_at_call 44; (with_reducible refine (half_3 _).mono ?_); rintro e w' ⟨rfl, rfl⟩))
      go_ret
      exact ⟨by first | rfl | simp, rfl⟩
  · have hi := hi rfl
    clear hi0 hz
    have hB1 : IntKind.u64.wrap (4611686018427387903 - 16777216) = 4611686018410610687 := IntWalk.u64_in _ (by omega)
    have hB2 : IntKind.u64.wrap 4611686018410610687 = 4611686018410610687 := IntWalk.u64_in _ (by omega)
    rcases hways with ⟨d1, d2, rfl⟩ | ⟨d1, d2, d3, rfl⟩ | ⟨d1, d2, d3, hR⟩ | ⟨d1, d2, d3, rfl⟩ | ⟨d1, d2, rfl⟩
    all_goals
      go_enter Try.func23, Try.ntmps23
      go_wp2_with (first | (go_at_call 42; (with_reducible refine (HN.out _).mono ?_); rintro e w' ⟨rfl, rfl⟩) | (go_at_call 44; (with_reducible refine (half_3 _).mono ?_); rintro e w' ⟨rfl, rfl⟩))
      go_ret
      exact ⟨by first | rfl | simp, rfl⟩
set_option maxRecDepth 8000 in
set_option maxHeartbeats 4000000 in
theorem full4_any (cut largest : Nat) (any : Bool) (hc : cut < 18446744073709551616) (hl : largest ≤ 4611686018427387903) (w : World) :
    Calls Try.prog 23 #[.int .u64 (cut : Int), .int .i64 4, .int .u64 (largest : Int), .bool any] w fun e w' => e = .returned (.int .u64 (fullV cut 4 largest any : Nat)) ∧ w = w' := by
  have HN := Lib.hid (mayNumLen_any 4)
  rw [decide_eq_true (by omega)] at HN
  have t1 : decide ((4611686018427387903 : Int) < (largest : Int)) = false := by simp; omega
  obtain ⟨N0, hN0⟩ : ∃ N0 : Nat, (if any = true then largest + 1 else 0) = N0 := ⟨_, rfl⟩
  have hNb : N0 < 4611686018427387905 := by rw [← hN0]; split <;> omega
  obtain ⟨p, q, c, e1, e2, e3, hcd, hcb⟩ := near_bits 4 32 4294967296 4294967295 (by decide) (by decide) (by decide) (by decide) N0 cut hNb hc
  have e1 : bits .andNot .u64 (N0 : Int) 4294967295 = (p : Int) := e1
  have e2 : bits .and .u64 (cut : Int) 4294967295 = (q : Int) := e2
  obtain ⟨R, hR⟩ : ∃ R, fullV cut 4 largest any = R := ⟨_, rfl⟩
  have hR2 : R = if c + 2147483648 ≤ N0 ∧ c ≤ 4611686014132420607 then c + 4294967296 else if N0 + 2147483648 < c ∧ 4294967296 ≤ c then c - 4294967296 else c := by
    rw [← hR]
    unfold fullV
    rw [if_neg (by omega), hN0]
    have e : nearV 4 N0 cut = c := by rw [hcd]; rfl
    rw [e]
    rfl
  rw [hR]
  have hi : any = true → (largest : Int) + 1 = (N0 : Int) := fun h => by rw [← hN0, if_pos h]; omega
  have hi0 : any = false → N0 = 0 := fun h => by rw [← hN0, if_neg (by simp [h])]
  have hb64 : N0 < 4611686018427387905 := by omega
  clear hl hR hN0 hNb hcd
  have hways : (c + 2147483648 ≤ N0 ∧ c ≤ 4611686014132420607 ∧ R = c + 4294967296) ∨ (c + 2147483648 ≤ N0 ∧ ¬ c ≤ 4611686014132420607 ∧ ¬ N0 + 2147483648 < c ∧ R = c) ∨ (¬ c + 2147483648 ≤ N0 ∧ N0 + 2147483648 < c ∧ 4294967296 ≤ c ∧ R + 4294967296 = c) ∨ (¬ c + 2147483648 ≤ N0 ∧ N0 + 2147483648 < c ∧ ¬ 4294967296 ≤ c ∧ R = c) ∨ (¬ c + 2147483648 ≤ N0 ∧ ¬ N0 + 2147483648 < c ∧ R = c) := by
    rw [hR2]
    by_cases h1 : c + 2147483648 ≤ N0
    · by_cases h0 : c ≤ 4611686014132420607
      · exact .inl ⟨h1, h0, if_pos ⟨h1, h0⟩⟩
      · exact .inr (.inl ⟨h1, h0, by omega, by rw [if_neg (fun h => h0 h.2), if_neg (by omega)]⟩)
    · rw [if_neg (fun h => h1 h.1)]
      by_cases h2 : N0 + 2147483648 < c
      · by_cases h3 : 4294967296 ≤ c
        · exact .inr (.inr (.inl ⟨h1, h2, h3, by rw [if_pos ⟨h2, h3⟩]; omega⟩))
        · exact .inr (.inr (.inr (.inl ⟨h1, h2, h3, by rw [if_neg (fun h => h3 h.2)]⟩)))
      · exact .inr (.inr (.inr (.inr ⟨h1, h2, by rw [if_neg (fun h => h2 h.1)]⟩)))
  clear hR2
  have hways : (decide ((c : Int) + 2147483648 ≤ (N0 : Int)) = true ∧ decide ((c : Int) ≤ 4611686014132420607) = true ∧ R = c + 4294967296) ∨ (decide ((c : Int) + 2147483648 ≤ (N0 : Int)) = true ∧ decide ((c : Int) ≤ 4611686014132420607) = false ∧ decide ((N0 : Int) + 2147483648 < (c : Int)) = false ∧ R = c) ∨ (decide ((c : Int) + 2147483648 ≤ (N0 : Int)) = false ∧ decide ((N0 : Int) + 2147483648 < (c : Int)) = true ∧ decide ((4294967296 : Int) ≤ (c : Int)) = true ∧ (c : Int) - 4294967296 = (R : Int)) ∨
      (decide ((c : Int) + 2147483648 ≤ (N0 : Int)) = false ∧ decide ((N0 : Int) + 2147483648 < (c : Int)) = true ∧ decide ((4294967296 : Int) ≤ (c : Int)) = false ∧ R = c) ∨ (decide ((c : Int) + 2147483648 ≤ (N0 : Int)) = false ∧ decide ((N0 : Int) + 2147483648 < (c : Int)) = false ∧ R = c) := by
    simp only [decide_eq_true_eq, decide_eq_false_iff_not]
    omega
  have hRb : R < 18446744073709551616 := by
    simp only [decide_eq_true_eq, decide_eq_false_iff_not] at hways
    omega
  have hz : decide (((0 : Nat) : Int) = 0) = true := rfl
  cases any
  · obtain rfl := hi0 rfl
    clear hi hi0 hz
    simp only [Int.ofNat_zero, Int.zero_add] at e1 hways
    rcases hways with ⟨d1, d2, rfl⟩ | ⟨d1, d2, d3, rfl⟩ | ⟨d1, d2, d3, hR⟩ | ⟨d1, d2, d3, rfl⟩ | ⟨d1, d2, rfl⟩
    all_goals
      go_enter Try.func23, Try.ntmps23
      go_wp2_with (first | (go_at_call 42; (with_reducible refine (HN.out _).mono ?_); rintro e w' ⟨rfl, rfl⟩) | (go_at_call 44; (with_reducible refine (half_4 _).mono ?_); rintro e w' ⟨rfl, rfl⟩))
      go_ret
      exact ⟨by first | rfl | simp, rfl⟩
  · have hi := hi rfl
    clear hi0 hz
    have hB1 : IntKind.u64.wrap (4611686018427387903 - 4294967296) = 4611686014132420607 := IntWalk.u64_in _ (by omega)
    have hB2 : IntKind.u64.wrap 4611686014132420607 = 4611686014132420607 := IntWalk.u64_in _ (by omega)
    rcases hways with ⟨d1, d2, rfl⟩ | ⟨d1, d2, d3, rfl⟩ | ⟨d1, d2, d3, hR⟩ | ⟨d1, d2, d3, rfl⟩ | ⟨d1, d2, rfl⟩
    all_goals
      go_enter Try.func23, Try.ntmps23
      go_wp2_with (first | (go_at_call 42; (with_reducible refine (HN.out _).mono ?_); rintro e w' ⟨rfl, rfl⟩) | (go_at_call 44; (with_reducible refine (half_4 _).mono ?_); rintro e w' ⟨rfl, rfl⟩))
      go_ret
      exact ⟨by first | rfl | simp, rfl⟩
theorem full_any (cut n largest : Nat) (any : Bool) (hc : cut < 18446744073709551616) (h1 : 1 ≤ n) (h4 : n ≤ 4) (hl : largest ≤ 4611686018427387903) (w : World) :
    Calls Try.prog 23 #[.int .u64 (cut : Int), .int .i64 (n : Int), .int .u64 (largest : Int), .bool any] w fun e w' => e = .returned (.int .u64 (fullV cut n largest any : Nat)) ∧ w = w' := by
  have h : n = 1 ∨ n = 2 ∨ n = 3 ∨ n = 4 := by omega
  rcases h with rfl | rfl | rfl | rfl
  · exact full1_any cut largest any hc hl w
  · exact full2_any cut largest any hc hl w
  · exact full3_any cut largest any hc hl w
  · exact full4_any cut largest any hc hl w
/-- of no length, or above the greatest: 0 -/
theorem full_no (cut largest : Nat) (n : Int) (any : Bool) (h : n < 1 ∨ 4 < n ∨ 4611686018427387903 < largest) (w : World) :
    Calls Try.prog 23 #[.int .u64 (cut : Int), .int .i64 n, .int .u64 (largest : Int), .bool any] w fun e w' => e = .returned (.int .u64 0) ∧ w = w' := by
  by_cases hn : 1 ≤ n ∧ n ≤ 4
  · have t1 : decide ((4611686018427387903 : Int) < (largest : Int)) = true := by simp; omega
    have HN := Lib.hid (mayNumLen_any n)
    rw [decide_eq_true hn] at HN
    go_enter Try.func23, Try.ntmps23
    go_wp2_with (go_at_call 42; (with_reducible refine (HN.out _).mono ?_); rintro e w' ⟨rfl, rfl⟩)
    go_ret
    exact ⟨by first | rfl | simp, rfl⟩
  · have HN := Lib.hid (mayNumLen_any n)
    rw [decide_eq_false hn] at HN
    go_enter Try.func23, Try.ntmps23
    go_wp2_with (go_at_call 42; (with_reducible refine (HN.out _).mono ?_); rintro e w' ⟨rfl, rfl⟩)
    go_ret
    exact ⟨by first | rfl | simp, rfl⟩
/-- a number at most half a window ahead is found again -/
theorem full_back (n next num cut : Nat) (h1 : 1 ≤ n) (h4 : n ≤ 4) (hle : next ≤ num) (hd : num - next < halfV n) (hmx : num ≤ 4611686018427387903) (hc : cut % (2 * halfV n) = num % (2 * halfV n)) : pickV n next (nearV n next cut) = num := by
  have hH : 0 < halfV n := by unfold halfV; split <;> (try split) <;> (try split) <;> omega
  generalize hHH : halfV n = H at *
  unfold nearV pickV
  rw [hHH, hc]
  generalize hW : 2 * H = W at *
  have hW0 : 0 < W := by omega
  have e1 := Nat.div_add_mod next W
  have e2 := Nat.div_add_mod num W
  have m1 := Nat.mod_lt next hW0
  have m2 := Nat.mod_lt num hW0
  have hq : num / W = next / W ∨ num / W = next / W + 1 := by
    have h1 : next / W ≤ num / W := Nat.div_le_div_right hle
    have h2 : num / W < next / W + 2 := by
      rw [Nat.div_lt_iff_lt_mul hW0, Nat.add_mul]
      rw [Nat.mul_comm] at e1
      omega
    omega
  rw [Nat.mul_comm] at e1 e2
  rcases hq with hq | hq
  · rw [hq] at e2
    have hcn : next / W * W + num % W = num := e2
    rw [hcn, if_neg (by omega), if_neg (by omega)]
  · rw [hq, Nat.add_mul] at e2
    have hcn : next / W * W + num % W + W = num := by omega
    generalize next / W * W + num % W = c at *
    rw [if_pos ⟨by omega, by omega⟩]
    omega
theorem and_u64 (b m V : Nat) (hb : b < 18446744073709551616) (hm : m < 18446744073709551616) (M : Int) (hM : M = (m : Int)) (hV : b &&& m = V) : bits .and .u64 (b : Int) M = (V : Int) := by
  subst hM
  rw [u64_and_nat b m hb hm, hV]
end Go.Proofs.Ytonoljcgcfjkmaa
