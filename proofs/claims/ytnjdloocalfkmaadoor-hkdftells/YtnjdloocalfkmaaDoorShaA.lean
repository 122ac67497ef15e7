/-
  Words of 32 bits in the walk; contracts of turn (the program's and the document's) and of round.
-/
import Derived.Test.YtnjdloocalfkmaaDoorBase
import Derived.Test.YtnjdloocalfkmaaDoorSame
import Derived.Test.YtnjdloocalfkmaaDoorShaP
import Derived.Laws.BitsAllLaws
namespace Go.Proofs.YtnjdloocalfkmaaDoor
open Go.RowKit
set_option linter.unusedVariables false

/-- a word as a number, under a name that the walk's rules do not open -/
def wn (x : UInt32) : Int := (x.toNat : Int)
theorem wn_bd (x : UInt32) : 0 ≤ wn x ∧ wn x < 4294967296 := by have := x.toNat_lt; unfold wn; omega
/-- a byte as a number, under such a name -/
def bn (x : UInt8) : Int := (x.toNat : Int)
theorem bn_bd (x : UInt8) : 0 ≤ bn x ∧ bn x < 256 := by have := x.toNat_lt; unfold bn; omega
/-- a word as a value -/
def wv (x : UInt32) : Value := .int .u32 (wn x)
theorem wv_one (x : UInt32) : (wv x).oneCell' = true := rfl
def wvs (l : List UInt32) : List Value := l.map wv
theorem wvs_length (l : List UInt32) : (wvs l).length = l.length := by simp [wvs]
theorem wvs_one (l : List UInt32) : ∀ u ∈ wvs l, u.oneCell' = true := by
  intro u hu
  obtain ⟨b, _, rfl⟩ := List.mem_map.1 hu
  rfl

theorem u32_add (x y : UInt32) : (wn x + (wn y)) % 4294967296 = wn (x + y) := by
  unfold wn
  rw [UInt32.toNat_add]; omega
theorem u32_addw (x y : UInt32) : IntKind.u32.wrap (wn x + (wn y)) = wn (x + y) := by
  rw [← u32_add]; simp [IntKind.wrap, IntKind.bits, IntKind.signed]
theorem u32_xor' (x y : UInt32) : bits .xor .u32 (wn x) (wn y) = wn (x ^^^ y) := by
  unfold wn
  rw [u32_xor_nat _ _ x.toNat_lt y.toNat_lt, UInt32.toNat_xor]
theorem u32_and' (x y : UInt32) : bits .and .u32 (wn x) (wn y) = wn (x &&& y) := by
  unfold wn
  rw [u32_and_nat _ _ x.toNat_lt y.toNat_lt, UInt32.toNat_and]
theorem u32_or' (x y : UInt32) : bits .or .u32 (wn x) (wn y) = wn (x ||| y) := by
  unfold wn
  rw [u32_or_nat _ _ x.toNat_lt y.toNat_lt, UInt32.toNat_or]
theorem u32_shl (x : UInt32) (k : Nat) (hk : k < 32) : (wn x * ((2 ^ k : Nat) : Int)) % 4294967296 = wn (x <<< UInt32.ofNat k) := by
  unfold wn
  rw [← Int.natCast_mul, UInt32.toNat_shiftLeft, Nat.shiftLeft_eq]
  simp only [UInt32.toNat_ofNat', Nat.reducePow]
  rw [Nat.mod_eq_of_lt (by omega : k < 4294967296), Nat.mod_eq_of_lt hk]
  omega
theorem u32_shr (x : UInt32) (k : Nat) (hk : k < 32) : (wn x) / ((2 ^ k : Nat) : Int) = wn (x >>> UInt32.ofNat k) := by
  unfold wn
  rw [← Int.natCast_ediv, UInt32.toNat_shiftRight, Nat.shiftRight_eq_div_pow]
  simp only [UInt32.toNat_ofNat', Nat.reducePow]
  rw [Nat.mod_eq_of_lt (by omega : k < 4294967296), Nat.mod_eq_of_lt hk]
theorem rot_of (x : UInt32) (k : Nat) (h0 : 0 < k) (hk : k < 32) :
    bits .or .u32 ((wn x * ((2 ^ (32 - k) : Nat) : Int)) % 4294967296) (wn x / ((2 ^ k : Nat) : Int)) = wn (rotr x k) := by
  rw [u32_shl _ _ (by omega), u32_shr _ _ hk, u32_or', rotr, UInt32.or_comm]
theorem rot_of' (x : UInt32) (k : Nat) (h0 : 0 < k) (hk : k < 32) :
    bits .or .u32 (wn x / ((2 ^ k : Nat) : Int)) ((wn x * ((2 ^ (32 - k) : Nat) : Int)) % 4294967296) = wn (rotr x k) := by
  rw [u32_shl _ _ (by omega), u32_shr _ _ hk, u32_or', rotr]
theorem u32_notw (x : UInt32) : bits .xor .u32 (if IntKind.u32.signed = true then -1 else IntKind.u32.max) (wn x) = wn (~~~x) := by
  have h : (if IntKind.u32.signed = true then (-1 : Int) else IntKind.u32.max) = wn 4294967295 := by rfl
  rw [h, u32_xor']
  congr 1
theorem u32_notm (x : UInt32) : bits .xor .u32 4294967295 (wn x) = wn (~~~x) := u32_notw x
theorem u32_byte (x : UInt8) : IntKind.u32.wrap (bn x) = wn x.toUInt32 := by
  have := bn_bd x
  have e : wn x.toUInt32 = bn x := by simp [wn, bn]
  rw [e]
  simp [IntKind.wrap, IntKind.bits, IntKind.signed]; omega
theorem u32_bytem (x : UInt8) : bn x % 4294967296 = wn x.toUInt32 := by
  have := bn_bd x
  have e : wn x.toUInt32 = bn x := by simp [wn, bn]
  rw [e]; omega
theorem u32_shl24 (x : UInt32) : ((wn x * (16777216 : Int)) % (4294967296 : Int) : Int) = wn (x <<< 24) := by
  have h := u32_shl x 24 (by omega)
  exact h
theorem u32_shl16 (x : UInt32) : ((wn x * (65536 : Int)) % (4294967296 : Int) : Int) = wn (x <<< 16) := by
  have h := u32_shl x 16 (by omega)
  exact h
theorem u32_shl8 (x : UInt32) : ((wn x * (256 : Int)) % (4294967296 : Int) : Int) = wn (x <<< 8) := by
  have h := u32_shl x 8 (by omega)
  exact h
theorem wrap_u32m (n : Int) : IntKind.u32.wrap n = n % 4294967296 := by simp [IntKind.wrap, IntKind.bits, IntKind.signed]
theorem u32_shl24w (x : UInt32) : IntKind.u32.wrap (wn x * (16777216 : Int)) = wn (x <<< 24) := (wrap_u32m _).trans (u32_shl24 x)
theorem u32_shl16w (x : UInt32) : IntKind.u32.wrap (wn x * (65536 : Int)) = wn (x <<< 16) := (wrap_u32m _).trans (u32_shl16 x)
theorem u32_shl8w (x : UInt32) : IntKind.u32.wrap (wn x * (256 : Int)) = wn (x <<< 8) := (wrap_u32m _).trans (u32_shl8 x)
theorem u32_shr10 (x : UInt32) : (wn x / (1024 : Int) : Int) = wn (x >>> 10) := by
  have h := u32_shr x 10 (by omega)
  exact h
theorem u32_shr3 (x : UInt32) : (wn x / (8 : Int) : Int) = wn (x >>> 3) := by
  have h := u32_shr x 3 (by omega)
  exact h
theorem turn_2 (x : UInt32) (w : World) : Calls Tryd.prog 36 #[.int .u32 (wn x), .int .i64 2] w fun e w' => e = .returned (.int .u32 (wn (rotr x 2))) ∧ w = w' := by
  have hb := wn_bd x
  have hr : bits .or .u32 (((wn x) * 1073741824 % 4294967296)) ((wn x) / 4) = (wn (rotr x 2)) := rot_of x 2 (by omega) (by omega)
  have hs : bits .and .u64 (IntKind.u64.wrap (-2)) 31 = 30 := by kernel_rfl
  go_enter Tryd.func36, Tryd.ntmps36
  go_wp2
  go_ret
  exact ⟨rfl, rfl⟩
theorem rturn_2 (x : UInt32) (w : World) : Calls Tryd.prog 33 #[.int .u32 (wn x), .int .i64 2] w (Quiet (.int .u32 (wn (rotr x 2))) w) := by
  have hb := wn_bd x
  have hr : bits .or .u32 ((wn x) / 4) (((wn x) * 1073741824 % 4294967296)) = (wn (rotr x 2)) := rot_of' x 2 (by omega) (by omega)
  go_enter Tryd.func33, Tryd.ntmps33
  go_wp2_with fail
  go_quiet (fail)
  go_wp2
  go_ret
  exact ⟨rfl, _, rfl⟩
theorem turn_6 (x : UInt32) (w : World) : Calls Tryd.prog 36 #[.int .u32 (wn x), .int .i64 6] w fun e w' => e = .returned (.int .u32 (wn (rotr x 6))) ∧ w = w' := by
  have hb := wn_bd x
  have hr : bits .or .u32 (((wn x) * 67108864 % 4294967296)) ((wn x) / 64) = (wn (rotr x 6)) := rot_of x 6 (by omega) (by omega)
  have hs : bits .and .u64 (IntKind.u64.wrap (-6)) 31 = 26 := by kernel_rfl
  go_enter Tryd.func36, Tryd.ntmps36
  go_wp2
  go_ret
  exact ⟨rfl, rfl⟩
theorem rturn_6 (x : UInt32) (w : World) : Calls Tryd.prog 33 #[.int .u32 (wn x), .int .i64 6] w (Quiet (.int .u32 (wn (rotr x 6))) w) := by
  have hb := wn_bd x
  have hr : bits .or .u32 ((wn x) / 64) (((wn x) * 67108864 % 4294967296)) = (wn (rotr x 6)) := rot_of' x 6 (by omega) (by omega)
  go_enter Tryd.func33, Tryd.ntmps33
  go_wp2_with fail
  go_quiet (fail)
  go_wp2
  go_ret
  exact ⟨rfl, _, rfl⟩
theorem turn_7 (x : UInt32) (w : World) : Calls Tryd.prog 36 #[.int .u32 (wn x), .int .i64 7] w fun e w' => e = .returned (.int .u32 (wn (rotr x 7))) ∧ w = w' := by
  have hb := wn_bd x
  have hr : bits .or .u32 (((wn x) * 33554432 % 4294967296)) ((wn x) / 128) = (wn (rotr x 7)) := rot_of x 7 (by omega) (by omega)
  have hs : bits .and .u64 (IntKind.u64.wrap (-7)) 31 = 25 := by kernel_rfl
  go_enter Tryd.func36, Tryd.ntmps36
  go_wp2
  go_ret
  exact ⟨rfl, rfl⟩
theorem rturn_7 (x : UInt32) (w : World) : Calls Tryd.prog 33 #[.int .u32 (wn x), .int .i64 7] w (Quiet (.int .u32 (wn (rotr x 7))) w) := by
  have hb := wn_bd x
  have hr : bits .or .u32 ((wn x) / 128) (((wn x) * 33554432 % 4294967296)) = (wn (rotr x 7)) := rot_of' x 7 (by omega) (by omega)
  go_enter Tryd.func33, Tryd.ntmps33
  go_wp2_with fail
  go_quiet (fail)
  go_wp2
  go_ret
  exact ⟨rfl, _, rfl⟩
theorem turn_11 (x : UInt32) (w : World) : Calls Tryd.prog 36 #[.int .u32 (wn x), .int .i64 11] w fun e w' => e = .returned (.int .u32 (wn (rotr x 11))) ∧ w = w' := by
  have hb := wn_bd x
  have hr : bits .or .u32 (((wn x) * 2097152 % 4294967296)) ((wn x) / 2048) = (wn (rotr x 11)) := rot_of x 11 (by omega) (by omega)
  have hs : bits .and .u64 (IntKind.u64.wrap (-11)) 31 = 21 := by kernel_rfl
  go_enter Tryd.func36, Tryd.ntmps36
  go_wp2
  go_ret
  exact ⟨rfl, rfl⟩
theorem rturn_11 (x : UInt32) (w : World) : Calls Tryd.prog 33 #[.int .u32 (wn x), .int .i64 11] w (Quiet (.int .u32 (wn (rotr x 11))) w) := by
  have hb := wn_bd x
  have hr : bits .or .u32 ((wn x) / 2048) (((wn x) * 2097152 % 4294967296)) = (wn (rotr x 11)) := rot_of' x 11 (by omega) (by omega)
  go_enter Tryd.func33, Tryd.ntmps33
  go_wp2_with fail
  go_quiet (fail)
  go_wp2
  go_ret
  exact ⟨rfl, _, rfl⟩
theorem turn_13 (x : UInt32) (w : World) : Calls Tryd.prog 36 #[.int .u32 (wn x), .int .i64 13] w fun e w' => e = .returned (.int .u32 (wn (rotr x 13))) ∧ w = w' := by
  have hb := wn_bd x
  have hr : bits .or .u32 (((wn x) * 524288 % 4294967296)) ((wn x) / 8192) = (wn (rotr x 13)) := rot_of x 13 (by omega) (by omega)
  have hs : bits .and .u64 (IntKind.u64.wrap (-13)) 31 = 19 := by kernel_rfl
  go_enter Tryd.func36, Tryd.ntmps36
  go_wp2
  go_ret
  exact ⟨rfl, rfl⟩
theorem rturn_13 (x : UInt32) (w : World) : Calls Tryd.prog 33 #[.int .u32 (wn x), .int .i64 13] w (Quiet (.int .u32 (wn (rotr x 13))) w) := by
  have hb := wn_bd x
  have hr : bits .or .u32 ((wn x) / 8192) (((wn x) * 524288 % 4294967296)) = (wn (rotr x 13)) := rot_of' x 13 (by omega) (by omega)
  go_enter Tryd.func33, Tryd.ntmps33
  go_wp2_with fail
  go_quiet (fail)
  go_wp2
  go_ret
  exact ⟨rfl, _, rfl⟩
theorem turn_17 (x : UInt32) (w : World) : Calls Tryd.prog 36 #[.int .u32 (wn x), .int .i64 17] w fun e w' => e = .returned (.int .u32 (wn (rotr x 17))) ∧ w = w' := by
  have hb := wn_bd x
  have hr : bits .or .u32 (((wn x) * 32768 % 4294967296)) ((wn x) / 131072) = (wn (rotr x 17)) := rot_of x 17 (by omega) (by omega)
  have hs : bits .and .u64 (IntKind.u64.wrap (-17)) 31 = 15 := by kernel_rfl
  go_enter Tryd.func36, Tryd.ntmps36
  go_wp2
  go_ret
  exact ⟨rfl, rfl⟩
theorem rturn_17 (x : UInt32) (w : World) : Calls Tryd.prog 33 #[.int .u32 (wn x), .int .i64 17] w (Quiet (.int .u32 (wn (rotr x 17))) w) := by
  have hb := wn_bd x
  have hr : bits .or .u32 ((wn x) / 131072) (((wn x) * 32768 % 4294967296)) = (wn (rotr x 17)) := rot_of' x 17 (by omega) (by omega)
  go_enter Tryd.func33, Tryd.ntmps33
  go_wp2_with fail
  go_quiet (fail)
  go_wp2
  go_ret
  exact ⟨rfl, _, rfl⟩
theorem turn_18 (x : UInt32) (w : World) : Calls Tryd.prog 36 #[.int .u32 (wn x), .int .i64 18] w fun e w' => e = .returned (.int .u32 (wn (rotr x 18))) ∧ w = w' := by
  have hb := wn_bd x
  have hr : bits .or .u32 (((wn x) * 16384 % 4294967296)) ((wn x) / 262144) = (wn (rotr x 18)) := rot_of x 18 (by omega) (by omega)
  have hs : bits .and .u64 (IntKind.u64.wrap (-18)) 31 = 14 := by kernel_rfl
  go_enter Tryd.func36, Tryd.ntmps36
  go_wp2
  go_ret
  exact ⟨rfl, rfl⟩
theorem rturn_18 (x : UInt32) (w : World) : Calls Tryd.prog 33 #[.int .u32 (wn x), .int .i64 18] w (Quiet (.int .u32 (wn (rotr x 18))) w) := by
  have hb := wn_bd x
  have hr : bits .or .u32 ((wn x) / 262144) (((wn x) * 16384 % 4294967296)) = (wn (rotr x 18)) := rot_of' x 18 (by omega) (by omega)
  go_enter Tryd.func33, Tryd.ntmps33
  go_wp2_with fail
  go_quiet (fail)
  go_wp2
  go_ret
  exact ⟨rfl, _, rfl⟩
theorem turn_19 (x : UInt32) (w : World) : Calls Tryd.prog 36 #[.int .u32 (wn x), .int .i64 19] w fun e w' => e = .returned (.int .u32 (wn (rotr x 19))) ∧ w = w' := by
  have hb := wn_bd x
  have hr : bits .or .u32 (((wn x) * 8192 % 4294967296)) ((wn x) / 524288) = (wn (rotr x 19)) := rot_of x 19 (by omega) (by omega)
  have hs : bits .and .u64 (IntKind.u64.wrap (-19)) 31 = 13 := by kernel_rfl
  go_enter Tryd.func36, Tryd.ntmps36
  go_wp2
  go_ret
  exact ⟨rfl, rfl⟩
theorem rturn_19 (x : UInt32) (w : World) : Calls Tryd.prog 33 #[.int .u32 (wn x), .int .i64 19] w (Quiet (.int .u32 (wn (rotr x 19))) w) := by
  have hb := wn_bd x
  have hr : bits .or .u32 ((wn x) / 524288) (((wn x) * 8192 % 4294967296)) = (wn (rotr x 19)) := rot_of' x 19 (by omega) (by omega)
  go_enter Tryd.func33, Tryd.ntmps33
  go_wp2_with fail
  go_quiet (fail)
  go_wp2
  go_ret
  exact ⟨rfl, _, rfl⟩
theorem turn_22 (x : UInt32) (w : World) : Calls Tryd.prog 36 #[.int .u32 (wn x), .int .i64 22] w fun e w' => e = .returned (.int .u32 (wn (rotr x 22))) ∧ w = w' := by
  have hb := wn_bd x
  have hr : bits .or .u32 (((wn x) * 1024 % 4294967296)) ((wn x) / 4194304) = (wn (rotr x 22)) := rot_of x 22 (by omega) (by omega)
  have hs : bits .and .u64 (IntKind.u64.wrap (-22)) 31 = 10 := by kernel_rfl
  go_enter Tryd.func36, Tryd.ntmps36
  go_wp2
  go_ret
  exact ⟨rfl, rfl⟩
theorem rturn_22 (x : UInt32) (w : World) : Calls Tryd.prog 33 #[.int .u32 (wn x), .int .i64 22] w (Quiet (.int .u32 (wn (rotr x 22))) w) := by
  have hb := wn_bd x
  have hr : bits .or .u32 ((wn x) / 4194304) (((wn x) * 1024 % 4294967296)) = (wn (rotr x 22)) := rot_of' x 22 (by omega) (by omega)
  go_enter Tryd.func33, Tryd.ntmps33
  go_wp2_with fail
  go_quiet (fail)
  go_wp2
  go_ret
  exact ⟨rfl, _, rfl⟩
theorem turn_25 (x : UInt32) (w : World) : Calls Tryd.prog 36 #[.int .u32 (wn x), .int .i64 25] w fun e w' => e = .returned (.int .u32 (wn (rotr x 25))) ∧ w = w' := by
  have hb := wn_bd x
  have hr : bits .or .u32 (((wn x) * 128 % 4294967296)) ((wn x) / 33554432) = (wn (rotr x 25)) := rot_of x 25 (by omega) (by omega)
  have hs : bits .and .u64 (IntKind.u64.wrap (-25)) 31 = 7 := by kernel_rfl
  go_enter Tryd.func36, Tryd.ntmps36
  go_wp2
  go_ret
  exact ⟨rfl, rfl⟩
theorem rturn_25 (x : UInt32) (w : World) : Calls Tryd.prog 33 #[.int .u32 (wn x), .int .i64 25] w (Quiet (.int .u32 (wn (rotr x 25))) w) := by
  have hb := wn_bd x
  have hr : bits .or .u32 ((wn x) / 33554432) (((wn x) * 128 % 4294967296)) = (wn (rotr x 25)) := rot_of' x 25 (by omega) (by omega)
  go_enter Tryd.func33, Tryd.ntmps33
  go_wp2_with fail
  go_quiet (fail)
  go_wp2
  go_ret
  exact ⟨rfl, _, rfl⟩
end Go.Proofs.YtnjdloocalfkmaaDoor
