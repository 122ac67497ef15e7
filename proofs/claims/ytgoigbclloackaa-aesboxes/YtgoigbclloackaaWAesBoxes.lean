/-
  AesBoxes walked.
-/
import Derived.Test.YtgoigbclloackaaAesG
namespace Go.Proofs.Ytgoigbclloackaa
open Go.RowKit
set_option linter.unusedVariables false

def dblUp (a : UInt8) : Nat → UInt8
  | 0 => a
  | n + 1 => dblV (dblUp a n)
theorem dblUp_eight (a : UInt8) : dblUp a 8 = a ^^^ dblV a ^^^ dblV (dblV (dblV a)) ^^^ dblV (dblV (dblV (dblV a))) := dbl_eight a
theorem bn_inj (x y : UInt8) : bn x = bn y ↔ x = y := by
  unfold bn
  constructor
  · intro h; exact UInt8.toNat_inj.1 (by omega)
  · rintro rfl; rfl
theorem bn_beq (x y : UInt8) : (bn x == bn y) = decide (x = y) := by
  by_cases h : x = y
  · subst h; simp
  · have : bn x ≠ bn y := fun e => h ((bn_inj x y).1 e)
    simp [h, this]
theorem u8_notw (x : UInt8) : bits .xor .u8 (if IntKind.u8.signed = true then -1 else IntKind.u8.max) (bn x) = bn (~~~x) :=
  bn_all (p := fun z b => bits .xor .u8 (if IntKind.u8.signed = true then -1 else IntKind.u8.max) z = bn (~~~b)) (by kernel_rfl) x
theorem u8_notm (x : UInt8) : bits .xor .u8 255 (bn x) = bn (~~~x) := u8_notw x

attribute [local go_sem] u8_xor' u8_notw u8_notm
set_option maxHeartbeats 1000000 in
theorem boxes_walk (a b : UInt8) (w : World) : Calls Try.prog 5 #[.int .u8 (bn a), .int .u8 (bn b)] w fun e w' => e = .returned (.bool true) ∧ Below w.heap.size w w' := by
  have t1 : ((bn (boxV a) == bn (boxV b)) == (bn a == bn b)) = true := by
    rw [bn_beq, bn_beq]
    have h := box_inj a b
    by_cases hab : a = b
    · simp [hab]
    · have : boxV a ≠ boxV b := fun e => hab (h.1 e)
      simp [hab, this]
  have own := box_own a
  have o1 : boxV a ≠ a := fun e => by simp [e] at own
  have o2 : boxV a ≠ ~~~a := fun e => by simp [← e] at own
  have t2 : (bn (boxV a) != bn a) = true := by rw [bne, bn_beq]; simp [o1]
  have t3 : (bn (boxV a) != bn (~~~a)) = true := by rw [bne, bn_beq]; simp [o2]
  have t4 : (bn (dblUp a 8) == bn (a ^^^ dblV a ^^^ dblV (dblV (dblV a)) ^^^ dblV (dblV (dblV (dblV a))))) = true := by rw [dblUp_eight]; simp
  have t5 : (bn (dblV (a ^^^ b)) == bn (dblV a ^^^ dblV b)) = true := by rw [dbl_xor]; simp
  clear own o1 o2
  have T1 := Lib.hid t1
  have T2 := Lib.hid t2
  have T3 := Lib.hid t3
  have T4 := Lib.hid t4
  have T5 := Lib.hid t5
  clear t1 t2 t3 t4 t5
  go_enter Try.func5, Try.ntmps5
  go_wp2_with fail
  go_loopw [5, 6] (fun x v wr => ∃ k : Nat, k ≤ 8 ∧ v = .int .i64 k ∧ x = .int .u8 (bn (dblUp a k)) ∧ wr = w) (fun _ v _ => 8 - (intOf v).toNat)
  case atStart => exact ⟨0, by omega, rfl, rfl, rfl⟩
  case round =>
    obtain ⟨k, hk, rfl, rfl, rfl⟩ := hrel
    by_cases hlt : k < 8
    · have lk : (k : Int) < 8 := by omega
      go_wp2_with (go_at_call 13; (with_reducible refine (dbl_any _ _).mono ?_); rintro e1 w1 ⟨rfl, rfl⟩)
      go_roundw
      case rel => exact ⟨k + 1, by omega, by go_num, rfl, by trivial⟩
      case measure => simp [intOf]; omega
    · obtain rfl : k = 8 := by omega
      obtain ⟨d8, hd8⟩ : ∃ x, dblUp a 8 = x := ⟨_, rfl⟩
      rw [hd8] at T4 ⊢
      clear hd8
      have t1 := T1.out
      have t2 := T2.out
      have t3 := T3.out
      have t4 := T4.out
      have t5 := T5.out
      go_wp2_with (first
        | (go_at_call 13; (with_reducible refine (dbl_any _ _).mono ?_); rintro e1 w1 ⟨rfl, rfl⟩)
        | (go_at_call 11; (with_reducible refine (box_any _ _).mono ?_); rintro e1 w1 ⟨rfl, rfl⟩)
        | (go_at_call 15; (with_reducible refine (awake_any _).mono ?_); rintro e9 w9 ⟨rfl, hb9⟩))
      go_ret
      exact ⟨rfl, hb9⟩
end Go.Proofs.Ytgoigbclloackaa
