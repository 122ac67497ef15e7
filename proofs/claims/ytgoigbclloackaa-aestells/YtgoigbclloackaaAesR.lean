/-
  The document's own product and box.
-/
import Derived.Test.YtgoigbclloackaaAesC
namespace Go.Proofs.Ytgoigbclloackaa
open Go.RowKit
set_option linter.unusedVariables false

theorem and_bits (b : UInt8) : bits .and .u8 (bn b) 1 = ((b.toNat % 2 : Nat) : Int) :=
  bn_all (p := fun z b => bits .and .u8 z 1 = ((b.toNat % 2 : Nat) : Int)) (by kernel_rfl) b
theorem half_bits (b : UInt8) : bn b / (2 : Int) = bn (b >>> 1) :=
  bn_all (p := fun z b => z / (2 : Int) = bn (b >>> 1)) (by kernel_rfl) b

attribute [local go_sem] u8_xor'
set_option maxHeartbeats 1000000 in
theorem times_any (a b : UInt8) (w : World) : Calls Try.prog 26 #[.int .u8 (bn a), .int .u8 (bn b)] w fun e w' => e = .returned (.int .u8 (bn (timesV a b))) ∧ w = w' := by
  obtain ⟨v, hv⟩ : ∃ v, timesV a b = v := ⟨_, rfl⟩
  rw [hv]
  have HV0 : Hid (timesU 8 0 a b = v) := hv
  clear hv
  go_enter Try.func26, Try.ntmps26
  go_wp2_with fail
  go_loopw [0, 1, 5] (fun va vb vc wr => ∃ (n : Nat) (a b c : UInt8), va = .int .u8 (bn a) ∧ vb = .int .u8 (bn b) ∧ vc = .int .u8 (bn c) ∧ w = wr ∧ Hid (timesU n c a b = v) ∧ b.toNat < 2 ^ n) (fun _ vb _ _ => (intOf vb).toNat)
  case atStart => exact ⟨8, a, b, 0, rfl, rfl, rfl, rfl, HV0, b.toNat_lt⟩
  case round =>
    clear HV0
    obtain ⟨n, a, b, c, rfl, rfl, rfl, rfl, HV, hlt⟩ := hrel
    by_cases h0 : b = 0
    · subst h0
      have e : c = v := by rw [← timesU_zero n c a]; exact HV.out
      subst e
      have t0 : decide ((0 : Int) < bn 0) = false := by decide
      have H := Lib.hid hlt
      clear hlt
      go_wp2_with fail
      go_ret
      exact ⟨rfl, rfl⟩
    · have hb0 : 0 < b.toNat := by
        rcases Nat.eq_zero_or_pos b.toNat with h | h
        · exact absurd (UInt8.toNat_inj.1 h) h0
        · exact h
      have t0 : decide ((0 : Int) < bn b) = true := by unfold bn; simp; omega
      obtain ⟨m, rfl⟩ : ∃ m, n = m + 1 := by
        cases n with
        | zero => simp at hlt; omega
        | succ m => exact ⟨m, rfl⟩
      have hh := half_bits b
      have ha := and_bits b
      have hbd := bn_bd b
      have hlt2 : (b >>> 1).toNat < 2 ^ m := by
        rw [half_nat]
        rw [Nat.pow_succ] at hlt
        omega
      have hms : (bn (b >>> 1)).toNat < (bn b).toNat := by
        rw [← hh]; unfold bn; omega
      have HMS := Lib.hid hms
      have HL2 := Lib.hid hlt2
      rw [timesU] at HV
      by_cases h1 : b &&& 1 = 1
      · have h2 := (and_one b).1 h1
        rw [if_pos h1] at HV
        rw [h2] at ha
        have t1 : (((1 : Nat) : Int) == 1) = true := by decide
        clear hlt hlt2 hms
        go_wp2_with (go_at_call 14; (with_reducible refine (rdbl_any _ _).mono ?_); rintro e1 w1 ⟨rfl, rfl⟩)
        go_roundw
        case rel =>
          first
            | exact ⟨m, dblV a, b >>> 1, c ^^^ a, rfl, by first | rfl | rw [hh], rfl, by trivial, HV, HL2.out⟩
            | ((repeat apply Exists.intro); exact ⟨⟨m, dblV a, b >>> 1, c ^^^ a, rfl, by first | rfl | rw [hh], rfl, by trivial, HV, HL2.out⟩, rfl⟩)
        case measure =>
          have h3 := HMS.out
          simpa [intOf] using h3
      · have h2 : b.toNat % 2 = 0 := by
          have : ¬ b.toNat % 2 = 1 := fun e => h1 ((and_one b).2 e)
          omega
        rw [if_neg h1] at HV
        rw [h2] at ha
        have t1 : (((0 : Nat) : Int) == 1) = false := by decide
        clear hlt hlt2 hms
        go_wp2_with (go_at_call 14; (with_reducible refine (rdbl_any _ _).mono ?_); rintro e1 w1 ⟨rfl, rfl⟩)
        go_roundw
        case rel =>
          first
            | exact ⟨m, dblV a, b >>> 1, c, rfl, by first | rfl | rw [hh], rfl, by trivial, HV, HL2.out⟩
            | ((repeat apply Exists.intro); exact ⟨⟨m, dblV a, b >>> 1, c, rfl, by first | rfl | rw [hh], rfl, by trivial, HV, HL2.out⟩, rfl⟩)
        case measure =>
          have h3 := HMS.out
          simpa [intOf] using h3
end Go.Proofs.Ytgoigbclloackaa
