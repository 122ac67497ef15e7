/-
  How the walk reckons with words of 64 bits; which bits of a word mark places; how many bits are set, and which is the first of them.
-/
import Derived.Test.YtkodjajhlcbmkaaDoorOuW
import Derived.Test.YtkodjajhlcbmkaaDoorRwC
import Derived.Lib.MinMax
import Derived.Deep.QuietTactic
import Derived.BigQuiet
import Derived.Shelf.Spec.TrailingZeros
namespace Go.Proofs.YtkodjajhlcbmkaaDoor
open Go.RowKit Go.Lib
set_option linter.unusedVariables false

theorem u64_xor' (x y : UInt64) : bits .xor .u64 (qn x) (qn y) = qn (x ^^^ y) := by
  unfold qn
  rw [u64_xor_nat _ _ x.toNat_lt y.toNat_lt, UInt64.toNat_xor]
theorem u64_and' (x y : UInt64) : bits .and .u64 (qn x) (qn y) = qn (x &&& y) := by
  unfold qn
  rw [u64_and_nat _ _ x.toNat_lt y.toNat_lt, UInt64.toNat_and]
theorem u64_or' (x y : UInt64) : bits .or .u64 (qn x) (qn y) = qn (x ||| y) := by
  unfold qn
  rw [u64_or_nat _ _ x.toNat_lt y.toNat_lt, UInt64.toNat_or]
theorem u64_andNot' (x y : UInt64) : bits .andNot .u64 (qn x) (qn y) = qn (x &&& ~~~ y) := by
  unfold qn
  have := y.toNat_lt
  rw [u64_andNot_nat _ _ x.toNat_lt y.toNat_lt, UInt64.toNat_and, toNat_notQ, show 18446744073709551615 - y.toNat = 2 ^ 64 - (y.toNat + 1) by omega]
theorem wrap_u64m (n : Int) : IntKind.u64.wrap n = n % 18446744073709551616 := by simp [IntKind.wrap, IntKind.bits, IntKind.signed]
theorem u64_add (x y : UInt64) : (qn x + qn y) % 18446744073709551616 = qn (x + y) := by
  unfold qn
  rw [UInt64.toNat_add, ← Int.natCast_add]
  omega
theorem u64_addw (x y : UInt64) : IntKind.u64.wrap (qn x + qn y) = qn (x + y) := (wrap_u64m _).trans (u64_add x y)
theorem u64_shr (x : UInt64) (k : Nat) (hk : k < 64) : (qn x) / ((2 ^ k : Nat) : Int) = qn (x >>> UInt64.ofNat k) := by
  unfold qn
  rw [← Int.natCast_ediv, shrQ x k hk]
theorem u64_shr1 (x : UInt64) : (qn x / (2 : Int) : Int) = qn (x >>> 1) := u64_shr x 1 (by omega)
theorem u64_shr2 (x : UInt64) : (qn x / (4 : Int) : Int) = qn (x >>> 2) := u64_shr x 2 (by omega)
theorem u64_shr4 (x : UInt64) : (qn x / (16 : Int) : Int) = qn (x >>> 4) := u64_shr x 4 (by omega)
theorem u64_shr8 (x : UInt64) : (qn x / (256 : Int) : Int) = qn (x >>> 8) := u64_shr x 8 (by omega)
theorem u64_shr16 (x : UInt64) : (qn x / (65536 : Int) : Int) = qn (x >>> 16) := u64_shr x 16 (by omega)
theorem u64_shr32 (x : UInt64) : (qn x / (4294967296 : Int) : Int) = qn (x >>> 32) := u64_shr x 32 (by omega)
theorem u64_and55 (x : UInt64) : bits .and .u64 (qn x) 6148914691236517205 = qn (x &&& 6148914691236517205) := u64_and' x 6148914691236517205
theorem u64_and33 (x : UInt64) : bits .and .u64 (qn x) 3689348814741910323 = qn (x &&& 3689348814741910323) := u64_and' x 3689348814741910323
theorem u64_and0f (x : UInt64) : bits .and .u64 (qn x) 1085102592571150095 = qn (x &&& 1085102592571150095) := u64_and' x 1085102592571150095

theorem foldA (x : UInt64) : qn ((x >>> 1 &&& 6148914691236517205) + (x &&& 6148914691236517205)) = qn (onesA x) := rfl
theorem foldB (x : UInt64) : qn ((x >>> 2 &&& 3689348814741910323) + (x &&& 3689348814741910323)) = qn (onesB x) := rfl
theorem foldC (x : UInt64) : qn ((x >>> 4 + x) &&& 1085102592571150095) = qn (onesC x) := rfl
theorem foldD (x : UInt64) : qn (x + x >>> 8) = qn (onesD x) := rfl
theorem foldE (x : UInt64) : qn (x + x >>> 16) = qn (onesE x) := rfl
theorem foldG (x : UInt64) : qn (x + x >>> 32) = qn (onesG x) := rfl
theorem i64_and127 (n : Nat) (h : n < 9223372036854775808) : bits .and .i64 (n : Int) 127 = ((n % 128 : Nat) : Int) := by
  have h1 : (BitVec.ofInt 64 (n : Int)).toNat = n := by
    rw [BitVec.ofInt_natCast, BitVec.toNat_ofNat]
    omega
  show IntKind.i64.wrap ((BitVec.ofInt 64 (n : Int) &&& BitVec.ofInt 64 127).toNat : Int) = _
  rw [BitVec.toNat_and, h1, show (BitVec.ofInt 64 127).toNat = 127 by decide, nat_mask7, IntKind.wrap_i64]
  omega
attribute [local go_sem] u64_and' u64_and55 u64_and33 u64_and0f u64_add u64_addw u64_shr1 u64_shr2 u64_shr4 u64_shr8 u64_shr16 u64_shr32 foldA foldB foldC foldD foldE foldG in
theorem ones_any (x : UInt64) (w : World) : Calls Tryd.prog 39 #[.int .u64 (qn x)] w fun e w' => e = .returned (.int .i64 (cntV (bitQ x) 64 : Nat)) ∧ w = w' := by
  obtain ⟨h1, h2⟩ := ones_all x
  obtain ⟨c, hc⟩ : ∃ c, cntV (bitQ x) 64 = c := ⟨_, rfl⟩
  rw [hc] at h1
  rw [hc]
  clear hc
  have b1 := qn_bd x
  have hz : bits .and .i64 (qn (onesG (onesE (onesD (onesC (onesB (onesA x))))))) 127 = (c : Int) := by
    unfold qn
    rw [i64_and127 _ h2, h1]
  have hw : IntKind.i64.wrap (qn (onesG (onesE (onesD (onesC (onesB (onesA x))))))) = qn (onesG (onesE (onesD (onesC (onesB (onesA x)))))) := by
    unfold qn
    rw [IntKind.wrap_i64]
    omega
  clear h1 h2
  go_enter Tryd.func39, Tryd.ntmps39
  go_wp2_with fail
  go_ret
  exact ⟨by simp, rfl⟩
/-- the first bit that is set, of a word that is not 0: the library's table stands at block 0 -/
def Glob (w : World) : Prop := ∀ j, j < Lib.deBruijn64tab.length → w.cell? ⟨0, j, none⟩ = some (.int .u8 (Lib.deBruijn64tab.getD j 0))
theorem Glob.below {w w' : World} {B : Nat} (h : Glob w) (hb : Below B w w') (hB : 0 < B) : Glob w' := fun j hj => (hb.cell (p := ⟨0, j, none⟩) hB).trans (h j hj)
theorem tz_core (x k idx : Nat) (w : World) (hx0 : ((x : Int) == 0) = false)
    (key : IntKind.u64.wrap (bits BinOp.and IntKind.u64 (x : Int) (IntKind.u64.wrap (-(x : Int))) * 285870213051353865) / 288230376151711744 = (idx : Int))
    (hi : idx < 64) (hk : k < 64) (hcell : w.cell? ⟨0, idx, none⟩ = some (.int .u8 (k : Int))) :
    Calls Tryd.prog 41 #[.int .u64 (x : Int)] w fun e w' => e = .returned (.int .i64 (k : Int)) ∧ w = w' := by
  go_enter Tryd.func41, Tryd.ntmps41
  go_wp2_with (simp only [key])
  go_ret
  exact ⟨rfl, rfl⟩
theorem tz_any (x : UInt64) (hx : x ≠ 0) (w : World) (hG : Glob w) : Calls Tryd.prog 41 #[.int .u64 (qn x)] w fun e w' => e = .returned (.int .i64 (Lib.ctz 64 x.toNat : Nat)) ∧ w = w' := by
  have hx0 : x.toNat ≠ 0 := fun e => hx (UInt64.toNat_inj.1 (by rw [e]; rfl))
  obtain ⟨hlow, hk⟩ := Lib.lowest_bit 64 x.toNat hx0 x.toNat_lt
  obtain ⟨hi, htab⟩ := Lib.deBruijn64_at _ hk
  have hcell := hG _ hi
  rw [htab] at hcell
  exact tz_core x.toNat _ _ w (by simp; omega) (tz64_key x.toNat _ x.toNat_lt hx0 hlow) hi hk hcell
attribute [local go_sem] u64_and' in
theorem part_any (v lo hi : Nat) (hv : 64 * v < hi) (hl : lo < 64 * v + 64) (hlo : lo < 4611686018427387904) (hhi : hi < 4611686018427387904) (w : World) :
    Calls Tryd.prog 38 #[.int .i64 (v : Int), .int .i64 (lo : Int), .int .i64 (hi : Int)] w (Quiet (.int .u64 (qn (partQ v lo hi))) w) := by
  obtain ⟨f, hf⟩ : ∃ f, lo - 64 * v = f := ⟨_, rfl⟩
  obtain ⟨d, hd⟩ : ∃ d, 64 - min (hi - 64 * v) 64 = d := ⟨_, rfl⟩
  have H : Hid (partQ v lo hi = fromQ f &&& uptoQ d) := by
    show _ = _
    unfold partQ
    rw [hf, hd]
  have m1 : max ((lo : Int) - (v : Int) * 64) 0 = (f : Int) := by omega
  have m2 : min ((hi : Int) - (v : Int) * 64) 64 = ((64 - d : Nat) : Int) := by omega
  have hd64 : d < 64 := by omega
  obtain ⟨t, ht⟩ : ∃ t, 64 - d = t := ⟨_, rfl⟩
  rw [ht] at m2
  have m3 : (64 : Int) - (t : Int) = (d : Int) := by omega
  have s1 : IntKind.u64.wrap (18446744073709551615 * 2 ^ min f 64) = qn (fromQ f) := by
    rw [wrap_u64m, show min f 64 = f by omega]
    unfold qn fromQ
    have e : (18446744073709551615 * 2 ^ f : Int) = ((18446744073709551615 * 2 ^ f : Nat) : Int) := by simp
    rw [UInt64.toNat_ofNat', e]
    omega
  have s2 : (18446744073709551615 : Int) / 2 ^ d = qn (uptoQ d) := by
    unfold qn uptoQ
    have e : (18446744073709551615 : Int) / 2 ^ d = ((18446744073709551615 / 2 ^ d : Nat) : Int) := by simp
    have hlt : 18446744073709551615 / 2 ^ d < 18446744073709551616 := Nat.lt_of_le_of_lt (Nat.div_le_self _ _) (by decide)
    rw [UInt64.toNat_ofNat', e, Nat.mod_eq_of_lt hlt]
  have w1 : (v : Int) < 72057594037927936 := by omega
  clear hf hd hv ht hl
  go_enter Tryd.func38, Tryd.ntmps38
  go_wp2_with fail
  go_quiet (fail)
  go_wp2_with fail
  go_ret
  exact ⟨by rw [H.out]; rfl, _, rfl⟩
end Go.Proofs.YtkodjajhlcbmkaaDoor
