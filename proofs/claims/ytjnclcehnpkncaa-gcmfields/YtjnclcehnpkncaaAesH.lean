/-
  Bytes of the document's product and boxes: halves, turned parts; nothing that calls.
-/
import Derived.Test.YtjnclcehnpkncaaAesC
namespace Go.Proofs.Ytjnclcehnpkncaa
open Go.RowKit
set_option linter.unusedVariables false

theorem and_bits (b : UInt8) : bits .and .u8 (bn b) 1 = ((b.toNat % 2 : Nat) : Int) :=
  bn_all (p := fun z b => bits .and .u8 z 1 = ((b.toNat % 2 : Nat) : Int)) (by kernel_rfl) b
theorem half_bits (b : UInt8) : bn b / (2 : Int) = bn (b >>> 1) :=
  bn_all (p := fun z b => z / (2 : Int) = bn (b >>> 1)) (by kernel_rfl) b

theorem inv_zero : invU 0 255 = 0 := by
  apply UInt8.toNat_inj.1
  rw [invU_nat 0 255 (Nat.le_refl _)]
  kernel_rfl
theorem byte_conv (k : Nat) (h : k < 256) : IntKind.u8.wrap (k : Int) = bn (UInt8.ofNat k) := by
  unfold bn
  simp [IntKind.wrap, IntKind.bits, IntKind.signed]
/-- the two parts of a byte that is turned -/
def loU (v : UInt8) (i : Nat) : UInt8 := UInt8.ofNat (v.toNat * 2 ^ i % 256)
def hiU (v : UInt8) (i : Nat) : UInt8 := UInt8.ofNat (v.toNat / 2 ^ (8 - i))
theorem lo_0 (v : UInt8) : IntKind.u8.wrap (bn v) = bn (loU v 0) := bn_all (p := fun z b => IntKind.u8.wrap (z) = bn (loU b 0)) (by kernel_rfl) v
theorem hi_0 (v : UInt8) : bn v / (256 : Int) = bn (hiU v 0) := bn_all (p := fun z b => z / (256 : Int) = bn (hiU b 0)) (by kernel_rfl) v
theorem lo_1 (v : UInt8) : IntKind.u8.wrap (bn v * 2) = bn (loU v 1) := bn_all (p := fun z b => IntKind.u8.wrap (z * 2) = bn (loU b 1)) (by kernel_rfl) v
theorem hi_1 (v : UInt8) : bn v / (128 : Int) = bn (hiU v 1) := bn_all (p := fun z b => z / (128 : Int) = bn (hiU b 1)) (by kernel_rfl) v
theorem lo_2 (v : UInt8) : IntKind.u8.wrap (bn v * 4) = bn (loU v 2) := bn_all (p := fun z b => IntKind.u8.wrap (z * 4) = bn (loU b 2)) (by kernel_rfl) v
theorem hi_2 (v : UInt8) : bn v / (64 : Int) = bn (hiU v 2) := bn_all (p := fun z b => z / (64 : Int) = bn (hiU b 2)) (by kernel_rfl) v
theorem lo_3 (v : UInt8) : IntKind.u8.wrap (bn v * 8) = bn (loU v 3) := bn_all (p := fun z b => IntKind.u8.wrap (z * 8) = bn (loU b 3)) (by kernel_rfl) v
theorem hi_3 (v : UInt8) : bn v / (32 : Int) = bn (hiU v 3) := bn_all (p := fun z b => z / (32 : Int) = bn (hiU b 3)) (by kernel_rfl) v
theorem lo_4 (v : UInt8) : IntKind.u8.wrap (bn v * 16) = bn (loU v 4) := bn_all (p := fun z b => IntKind.u8.wrap (z * 16) = bn (loU b 4)) (by kernel_rfl) v
theorem hi_4 (v : UInt8) : bn v / (16 : Int) = bn (hiU v 4) := bn_all (p := fun z b => z / (16 : Int) = bn (hiU b 4)) (by kernel_rfl) v
theorem turn_all : (List.range 5).all (fun i => (List.range 256).all fun n => decide (loU (UInt8.ofNat n) i ||| hiU (UInt8.ofNat n) i = turnU (UInt8.ofNat n) i)) = true := by kernel_rfl
theorem turn_eq (v : UInt8) (i : Nat) (h : i < 5) : loU v i ||| hiU v i = turnU v i := by
  have h1 := List.all_eq_true.1 turn_all i (List.mem_range.2 h)
  have h2 := List.all_eq_true.1 h1 v.toNat (List.mem_range.2 v.toNat_lt)
  simpa using h2
theorem aff_next (v : UInt8) (i : Nat) (h : i < 5) : affU v (i + 1) = affU v i ^^^ (loU v i ||| hiU v i) := by rw [affU, turn_eq v i h]

end Go.Proofs.Ytjnclcehnpkncaa
