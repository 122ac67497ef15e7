/-
  Numbers cut and found again: the contracts of half, Cut, Full.
-/
import Derived.Test.YtonoljcgcfjkmaaHdG
import Derived.Lib.MinMax
namespace Go.Proofs.Ytonoljcgcfjkmaa
open Go.RowKit
set_option linter.unusedVariables false

def halfV (n : Nat) : Nat := if n = 1 then 128 else if n = 2 then 32768 else if n = 3 then 8388608 else 2147483648
/-- how many bytes tell a number that is so far from what is known -/
def cutN (d : Nat) : Nat := if d ≤ 128 then 1 else if d ≤ 32768 then 2 else if d ≤ 8388608 then 3 else 4
def cutV (num acked : Nat) (any : Bool) : Nat := cutN (if any = true then num - acked else min num 4611686018427387903 + 1)
/-- the nearest number, of c's lowest n bytes -/
def nearV (n next cut : Nat) : Nat := next / (2 * halfV n) * (2 * halfV n) + cut % (2 * halfV n)
def pickV (n next c : Nat) : Nat := if c + halfV n ≤ next ∧ c ≤ 4611686018427387903 - 2 * halfV n then c + 2 * halfV n else if next + halfV n < c ∧ 2 * halfV n ≤ c then c - 2 * halfV n else c
def fullV (cut n largest : Nat) (any : Bool) : Nat :=
  if 4611686018427387903 < largest then 0 else pickV n (if any = true then largest + 1 else 0) (nearV n (if any = true then largest + 1 else 0) cut)

theorem half_any (n : Nat) (h1 : 1 ≤ n) (h4 : n ≤ 4) (w : World) : Calls Try.prog 44 #[.int .i64 (n : Int)] w fun e w' => e = .returned (.int .u64 (halfV n : Nat)) ∧ w = w' := by
  have h : n = 1 ∨ n = 2 ∨ n = 3 ∨ n = 4 := by omega
  rcases h with rfl | rfl | rfl | rfl
  all_goals
    go_enter Try.func44, Try.ntmps44
    go_wp2
    go_ret
    exact ⟨rfl, rfl⟩
theorem half_is (K : Int) (H : Int) (h : (K = 1 ∧ H = 128) ∨ (K = 2 ∧ H = 32768) ∨ (K = 3 ∧ H = 8388608) ∨ (K = 4 ∧ H = 2147483648)) (w : World) : Calls Try.prog 44 #[.int .i64 K] w fun e w' => e = .returned (.int .u64 H) ∧ w = w' := by
  rcases h with ⟨rfl, rfl⟩ | ⟨rfl, rfl⟩ | ⟨rfl, rfl⟩ | ⟨rfl, rfl⟩
  · exact half_any 1 (by omega) (by omega) w
  · exact half_any 2 (by omega) (by omega) w
  · exact half_any 3 (by omega) (by omega) w
  · exact half_any 4 (by omega) (by omega) w
theorem half_1 (w : World) : Calls Try.prog 44 #[.int .i64 1] w fun e w' => e = .returned (.int .u64 128) ∧ w = w' := half_is 1 128 (by simp) w
theorem half_2 (w : World) : Calls Try.prog 44 #[.int .i64 2] w fun e w' => e = .returned (.int .u64 32768) ∧ w = w' := half_is 2 32768 (by simp) w
theorem half_3 (w : World) : Calls Try.prog 44 #[.int .i64 3] w fun e w' => e = .returned (.int .u64 8388608) ∧ w = w' := half_is 3 8388608 (by simp) w
theorem half_4 (w : World) : Calls Try.prog 44 #[.int .i64 4] w fun e w' => e = .returned (.int .u64 2147483648) ∧ w = w' := half_is 4 2147483648 (by simp) w
theorem cutN_cases (d : Nat) : (d ≤ 128 ∧ cutN d = 1) ∨ (128 < d ∧ d ≤ 32768 ∧ cutN d = 2) ∨ (32768 < d ∧ d ≤ 8388608 ∧ cutN d = 3) ∨ (8388608 < d ∧ cutN d = 4) := by
  unfold cutN
  split
  · exact .inl ⟨by assumption, rfl⟩
  · split
    · exact .inr (.inl ⟨by omega, by assumption, rfl⟩)
    · split
      · exact .inr (.inr (.inl ⟨by omega, by assumption, rfl⟩))
      · exact .inr (.inr (.inr ⟨by omega, rfl⟩))

set_option maxHeartbeats 4000000 in
theorem cut_any (num acked : Nat) (any : Bool) (hn : num < 18446744073709551616) (ha : acked < 18446744073709551616) (w : World) :
    Calls Try.prog 21 #[.int .u64 (num : Int), .int .u64 (acked : Int), .bool any] w fun e w' => e = .returned (.int .i64 (cutV num acked any : Nat)) ∧ w = w' := by
  obtain ⟨d, hd⟩ : ∃ d, (if any = true then num - acked else min num 4611686018427387903 + 1) = d := ⟨_, rfl⟩
  have e : cutV num acked any = cutN d := by unfold cutV; rw [hd]
  rw [e]
  obtain ⟨r, hr⟩ : ∃ r, cutN d = r := ⟨_, rfl⟩
  rw [hr]
  have hw : (any = false ∧ min (num : Int) 4611686018427387903 + 1 = (d : Int)) ∨ (any = true ∧ acked < num ∧ (num : Int) - (acked : Int) = (d : Int)) ∨ (any = true ∧ ¬ acked < num ∧ d = 0) := by
    cases any
    · left
      simp at hd
      exact ⟨rfl, by omega⟩
    · right
      simp at hd
      by_cases h : acked < num
      · exact .inl ⟨rfl, h, by omega⟩
      · exact .inr ⟨rfl, h, by omega⟩
  have hc := cutN_cases d
  rw [hr] at hc
  have HC := Lib.hid hc
  have hd64 : d < 18446744073709551616 := by
    rcases hw with ⟨_, h⟩ | ⟨_, _, h⟩ | ⟨_, _, h⟩ <;> omega
  clear hd e hr hc
  rcases hw with ⟨rfl, hm⟩ | ⟨rfl, hlt, hm⟩ | ⟨rfl, hlt, rfl⟩
  · have hmin : (min (num : Int) 4611686018427387903) < 4611686018427387904 := by omega
    obtain ⟨m, hmm⟩ : ∃ m, min (num : Int) 4611686018427387903 = m := ⟨_, rfl⟩
    rw [hmm] at hm hmin
    have hm0 : 0 ≤ m := by omega
    go_enter Try.func21, Try.ntmps21
    go_wp2_with fail
    go_loop [8] (fun v => ∃ k : Nat, 1 ≤ k ∧ k ≤ r ∧ v = .int .i64 k) (fun v => 4 - (intOf v).toNat)
    case atStart => exact ⟨1, by omega, by have := HC.out; omega, rfl⟩
    case round =>
      obtain ⟨k, hk1, hkr, rfl⟩ := hrel
      have hr4 : r ≤ 4 := by have := HC.out; omega
      have h4 : k = 1 ∨ k = 2 ∨ k = 3 ∨ k = 4 := by omega
      rcases h4 with rfl | rfl | rfl | rfl
      · by_cases hkk : r = 1
        · have t : ¬ (128 < d) := by have := HC.out; omega
          go_wp2_with ((with_reducible refine (half_1 _).mono ?_); rintro e w' ⟨rfl, rfl⟩)
          go_ret
          exact ⟨by rw [hkk]; rfl, rfl⟩
        · have t : 128 < d := by have := HC.out; omega
          go_wp2_with ((with_reducible refine (half_1 _).mono ?_); rintro e w' ⟨rfl, rfl⟩)
          go_round
          case rel => exact ⟨2, by omega, by omega, rfl⟩
          case measure => simp [intOf]
      · by_cases hkk : r = 2
        · have t : ¬ (32768 < d) := by have := HC.out; omega
          go_wp2_with ((with_reducible refine (half_2 _).mono ?_); rintro e w' ⟨rfl, rfl⟩)
          go_ret
          exact ⟨by rw [hkk]; rfl, rfl⟩
        · have t : 32768 < d := by have := HC.out; omega
          go_wp2_with ((with_reducible refine (half_2 _).mono ?_); rintro e w' ⟨rfl, rfl⟩)
          go_round
          case rel => exact ⟨3, by omega, by omega, rfl⟩
          case measure => simp [intOf]
      · by_cases hkk : r = 3
        · have t : ¬ (8388608 < d) := by have := HC.out; omega
          go_wp2_with ((with_reducible refine (half_3 _).mono ?_); rintro e w' ⟨rfl, rfl⟩)
          go_ret
          exact ⟨by rw [hkk]; rfl, rfl⟩
        · have t : 8388608 < d := by have := HC.out; omega
          go_wp2_with ((with_reducible refine (half_3 _).mono ?_); rintro e w' ⟨rfl, rfl⟩)
          go_round
          case rel => exact ⟨4, by omega, by omega, rfl⟩
          case measure => simp [intOf]
      · go_wp2
        go_ret
        have hkk : r = 4 := by omega
        exact ⟨by rw [hkk]; rfl, rfl⟩
  · skip
    go_enter Try.func21, Try.ntmps21
    go_wp2_with fail
    go_loop [8] (fun v => ∃ k : Nat, 1 ≤ k ∧ k ≤ r ∧ v = .int .i64 k) (fun v => 4 - (intOf v).toNat)
    case atStart => exact ⟨1, by omega, by have := HC.out; omega, rfl⟩
    case round =>
      obtain ⟨k, hk1, hkr, rfl⟩ := hrel
      have hr4 : r ≤ 4 := by have := HC.out; omega
      have h4 : k = 1 ∨ k = 2 ∨ k = 3 ∨ k = 4 := by omega
      rcases h4 with rfl | rfl | rfl | rfl
      · by_cases hkk : r = 1
        · have t : ¬ (128 < d) := by have := HC.out; omega
          go_wp2_with ((with_reducible refine (half_1 _).mono ?_); rintro e w' ⟨rfl, rfl⟩)
          go_ret
          exact ⟨by rw [hkk]; rfl, rfl⟩
        · have t : 128 < d := by have := HC.out; omega
          go_wp2_with ((with_reducible refine (half_1 _).mono ?_); rintro e w' ⟨rfl, rfl⟩)
          go_round
          case rel => exact ⟨2, by omega, by omega, rfl⟩
          case measure => simp [intOf]
      · by_cases hkk : r = 2
        · have t : ¬ (32768 < d) := by have := HC.out; omega
          go_wp2_with ((with_reducible refine (half_2 _).mono ?_); rintro e w' ⟨rfl, rfl⟩)
          go_ret
          exact ⟨by rw [hkk]; rfl, rfl⟩
        · have t : 32768 < d := by have := HC.out; omega
          go_wp2_with ((with_reducible refine (half_2 _).mono ?_); rintro e w' ⟨rfl, rfl⟩)
          go_round
          case rel => exact ⟨3, by omega, by omega, rfl⟩
          case measure => simp [intOf]
      · by_cases hkk : r = 3
        · have t : ¬ (8388608 < d) := by have := HC.out; omega
          go_wp2_with ((with_reducible refine (half_3 _).mono ?_); rintro e w' ⟨rfl, rfl⟩)
          go_ret
          exact ⟨by rw [hkk]; rfl, rfl⟩
        · have t : 8388608 < d := by have := HC.out; omega
          go_wp2_with ((with_reducible refine (half_3 _).mono ?_); rintro e w' ⟨rfl, rfl⟩)
          go_round
          case rel => exact ⟨4, by omega, by omega, rfl⟩
          case measure => simp [intOf]
      · go_wp2
        go_ret
        have hkk : r = 4 := by omega
        exact ⟨by rw [hkk]; rfl, rfl⟩
  · skip
    go_enter Try.func21, Try.ntmps21
    go_wp2_with fail
    go_loop [8] (fun v => v = .int .i64 1) (fun v => 0)
    case atStart => rfl
    case round =>
      obtain rfl := hrel
      go_wp2_with ((with_reducible refine (half_1 _).mono ?_); rintro e w' ⟨rfl, rfl⟩)
      go_ret
      have hkk : r = 1 := by have := HC.out; omega
      exact ⟨by rw [hkk]; rfl, rfl⟩

end Go.Proofs.Ytonoljcgcfjkmaa
