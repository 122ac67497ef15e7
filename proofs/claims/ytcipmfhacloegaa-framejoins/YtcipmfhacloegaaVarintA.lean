/-
  Contracts of the leaf functions of package varint and of the helpers of the laws: what each call answers, for every argument.
-/
import Derived.Test.YtcipmfhacloegaaBase
namespace Go.Proofs.Ytcipmfhacloegaa
open Go.RowKit
set_option linter.unusedVariables false

/-- a number's class: it has 2^class bytes; 4 above MaxVar -/
def cls (n : Nat) : Nat := if n < 64 then 0 else if n < 16384 then 1 else if n < 1073741824 then 2 else if n < 4611686018427387904 then 3 else 4
def lenV (n : Nat) : Nat := if n < 64 then 1 else if n < 16384 then 2 else if n < 1073741824 then 4 else if n < 4611686018427387904 then 8 else 0
def roomV (k : Nat) : Nat := if k = 0 then 6 else if k = 1 then 14 else if k = 2 then 30 else 62
theorem cls_cases (n : Nat) : (n < 64 ∧ cls n = 0 ∧ lenV n = 1) ∨ (64 ≤ n ∧ n < 16384 ∧ cls n = 1 ∧ lenV n = 2) ∨ (16384 ≤ n ∧ n < 1073741824 ∧ cls n = 2 ∧ lenV n = 4) ∨
    (1073741824 ≤ n ∧ n < 4611686018427387904 ∧ cls n = 3 ∧ lenV n = 8) ∨ (4611686018427387904 ≤ n ∧ cls n = 4 ∧ lenV n = 0) := by
  unfold cls lenV
  by_cases h1 : n < 64
  · simp [h1]
  by_cases h2 : n < 16384
  · simp [h1, h2]; omega
  by_cases h3 : n < 1073741824
  · simp [h1, h2, h3]; omega
  by_cases h4 : n < 4611686018427387904
  · simp [h1, h2, h3, h4]; omega
  · simp [h1, h2, h3, h4]; omega
theorem cls_le (n : Nat) : cls n ≤ 4 := by have := cls_cases n; omega
theorem room_0 (w : World) : Calls Try.prog 56 #[.int .i64 0] w fun e w' => e = .returned (.int .i64 6) ∧ w = w' := by
  go_enter Try.func56, Try.ntmps56
  go_wp2
  go_ret
  exact ⟨rfl, rfl⟩
theorem room_1 (w : World) : Calls Try.prog 56 #[.int .i64 1] w fun e w' => e = .returned (.int .i64 14) ∧ w = w' := by
  go_enter Try.func56, Try.ntmps56
  go_wp2
  go_ret
  exact ⟨rfl, rfl⟩
theorem room_2 (w : World) : Calls Try.prog 56 #[.int .i64 2] w fun e w' => e = .returned (.int .i64 30) ∧ w = w' := by
  go_enter Try.func56, Try.ntmps56
  go_wp2
  go_ret
  exact ⟨rfl, rfl⟩
theorem room_3 (w : World) : Calls Try.prog 56 #[.int .i64 3] w fun e w' => e = .returned (.int .i64 62) ∧ w = w' := by
  go_enter Try.func56, Try.ntmps56
  go_wp2
  go_ret
  exact ⟨rfl, rfl⟩

set_option maxHeartbeats 400000 in
theorem class_any (n : Nat) (w : World) (_hn : n < 18446744073709551616) :
    Calls Try.prog 55 #[.int .u64 n] w fun e w' => e = .returned (.int .i64 (cls n)) ∧ w = w' := by
  go_enter Try.func55, Try.ntmps55
  go_wp2
  go_loop [3] (fun k => ∃ j : Nat, j ≤ cls n ∧ k = .int .i64 j) (fun k => 4 - (intOf k).toNat)
  case atStart => exact ⟨0, by omega, rfl⟩
  case round =>
    obtain ⟨j, hj, rfl⟩ := hrel
    have hc := cls_le n
    have h : j = 0 ∨ j = 1 ∨ j = 2 ∨ j = 3 ∨ j = 4 := by omega
    rcases h with rfl | rfl | rfl | rfl | rfl
    · by_cases hk : n < 64
      · have hf : ((n : Int) / 64 != 0) = false := by simp; omega
        go_wp2_with ((with_reducible refine (room_0 _).mono ?_); rintro e w' ⟨rfl, rfl⟩)
        go_ret
        have hv : cls n = 0 := by have := cls_cases n; omega
        exact ⟨by rw [hv]; rfl, rfl⟩
      · have hf : ((n : Int) / 64 != 0) = true := by simp; omega
        have hv : 1 ≤ cls n := by have := cls_cases n; omega
        go_wp2_with ((with_reducible refine (room_0 _).mono ?_); rintro e w' ⟨rfl, rfl⟩)
        go_round
        case rel => exact ⟨1, hv, rfl⟩
        case measure => simp [intOf]
    · by_cases hk : n < 16384
      · have hf : ((n : Int) / 16384 != 0) = false := by simp; omega
        go_wp2_with ((with_reducible refine (room_1 _).mono ?_); rintro e w' ⟨rfl, rfl⟩)
        go_ret
        have hv : cls n = 1 := by have := cls_cases n; omega
        exact ⟨by rw [hv]; rfl, rfl⟩
      · have hf : ((n : Int) / 16384 != 0) = true := by simp; omega
        have hv : 2 ≤ cls n := by have := cls_cases n; omega
        go_wp2_with ((with_reducible refine (room_1 _).mono ?_); rintro e w' ⟨rfl, rfl⟩)
        go_round
        case rel => exact ⟨2, hv, rfl⟩
        case measure => simp [intOf]
    · by_cases hk : n < 1073741824
      · have hf : ((n : Int) / 1073741824 != 0) = false := by simp; omega
        go_wp2_with ((with_reducible refine (room_2 _).mono ?_); rintro e w' ⟨rfl, rfl⟩)
        go_ret
        have hv : cls n = 2 := by have := cls_cases n; omega
        exact ⟨by rw [hv]; rfl, rfl⟩
      · have hf : ((n : Int) / 1073741824 != 0) = true := by simp; omega
        have hv : 3 ≤ cls n := by have := cls_cases n; omega
        go_wp2_with ((with_reducible refine (room_2 _).mono ?_); rintro e w' ⟨rfl, rfl⟩)
        go_round
        case rel => exact ⟨3, hv, rfl⟩
        case measure => simp [intOf]
    · by_cases hk : n < 4611686018427387904
      · have hf : ((n : Int) / 4611686018427387904 != 0) = false := by simp; omega
        go_wp2_with ((with_reducible refine (room_3 _).mono ?_); rintro e w' ⟨rfl, rfl⟩)
        go_ret
        have hv : cls n = 3 := by have := cls_cases n; omega
        exact ⟨by rw [hv]; rfl, rfl⟩
      · have hf : ((n : Int) / 4611686018427387904 != 0) = true := by simp; omega
        have hv : 4 ≤ cls n := by have := cls_cases n; omega
        go_wp2_with ((with_reducible refine (room_3 _).mono ?_); rintro e w' ⟨rfl, rfl⟩)
        go_round
        case rel => exact ⟨4, hv, rfl⟩
        case measure => simp [intOf]
    · go_wp2
      go_ret
      have hv : cls n = 4 := by omega
      exact ⟨by rw [hv]; rfl, rfl⟩

theorem len_any (n : Nat) (w : World) (hn : n < 18446744073709551616) :
    Calls Try.prog 54 #[.int .u64 n] w fun e w' => e = .returned (.int .i64 (lenV n)) ∧ w = w' := by
  have hc := cls_le n
  have hl : lenV n = if cls n = 4 then 0 else 2 ^ cls n := by
    rcases cls_cases n with ⟨_, h, h'⟩ | ⟨_, _, h, h'⟩ | ⟨_, _, h, h'⟩ | ⟨_, _, h, h'⟩ | ⟨_, h, h'⟩ <;> rw [h, h'] <;> rfl
  rw [hl]
  have H := class_any n w hn
  generalize cls n = k at *
  clear hl
  have h : k = 0 ∨ k = 1 ∨ k = 2 ∨ k = 3 ∨ k = 4 := by omega
  have H := Lib.hid H
  rcases h with rfl | rfl | rfl | rfl | rfl <;>
  · go_enter Try.func54, Try.ntmps54
    go_wp2_with ((with_reducible refine H.out.mono ?_); rintro e w' ⟨rfl, rfl⟩)
    go_ret
    exact ⟨rfl, rfl⟩

theorem rlen_any (n : Nat) (w : World) (_hn : n < 18446744073709551616) :
    Calls Try.prog 58 #[.int .u64 n] w fun e w' => e = .returned (.int .i64 (lenV n)) ∧ w = w' := by
  rcases cls_cases n with ⟨h, _, h'⟩ | ⟨h0, h, _, h'⟩ | ⟨h0, h, _, h'⟩ | ⟨h0, h, _, h'⟩ | ⟨h0, _, h'⟩ <;> rw [h'] <;> clear h' _hn
  · have t0 : decide ((n : Int) < 64) = true := by simp; omega
    clear h
    go_enter Try.func58, Try.ntmps58
    go_wp2
    go_ret
    exact ⟨rfl, rfl⟩
  · have t0 : decide ((n : Int) < 64) = false := by simp; omega
    have t1 : decide ((n : Int) < 16384) = true := by simp; omega
    clear h0 h
    go_enter Try.func58, Try.ntmps58
    go_wp2
    go_ret
    exact ⟨rfl, rfl⟩
  · have t0 : decide ((n : Int) < 64) = false := by simp; omega
    have t1 : decide ((n : Int) < 16384) = false := by simp; omega
    have t2 : decide ((n : Int) < 1073741824) = true := by simp; omega
    clear h0 h
    go_enter Try.func58, Try.ntmps58
    go_wp2
    go_ret
    exact ⟨rfl, rfl⟩
  · have t0 : decide ((n : Int) < 64) = false := by simp; omega
    have t1 : decide ((n : Int) < 16384) = false := by simp; omega
    have t2 : decide ((n : Int) < 1073741824) = false := by simp; omega
    have t3 : decide ((n : Int) ≤ 4611686018427387903) = true := by simp; omega
    clear h0 h
    go_enter Try.func58, Try.ntmps58
    go_wp2
    go_ret
    exact ⟨rfl, rfl⟩
  · have t0 : decide ((n : Int) < 64) = false := by simp; omega
    have t1 : decide ((n : Int) < 16384) = false := by simp; omega
    have t2 : decide ((n : Int) < 1073741824) = false := by simp; omega
    have t3 : decide ((n : Int) ≤ 4611686018427387903) = false := by simp; omega
    clear h0
    go_enter Try.func58, Try.ntmps58
    go_wp2
    go_ret
    exact ⟨rfl, rfl⟩

end Go.Proofs.Ytcipmfhacloegaa
