/-
  How the walk reckons with words of 64 bits; which bit of a word is the first that is set.
-/
import Derived.Test.YtocolaccgoochaaDoorOuW
import Derived.Test.YtocolaccgoochaaDoorRwC
import Derived.Lib.MinMax
import Derived.Deep.QuietTactic
import Derived.BigQuiet
import Derived.Shelf.Spec.TrailingZeros
namespace Go.Proofs.YtocolaccgoochaaDoor
open Go.RowKit Go.Lib
set_option linter.unusedVariables false

theorem u64_xor' (x y : UInt64) : bits .xor .u64 (qn x) (qn y) = qn (x ^^^ y) := by
  unfold qn
  rw [u64_xor_nat _ _ x.toNat_lt y.toNat_lt, UInt64.toNat_xor]
theorem u64_and' (x y : UInt64) : bits .and .u64 (qn x) (qn y) = qn (x &&& y) := by
  unfold qn
  rw [u64_and_nat _ _ x.toNat_lt y.toNat_lt, UInt64.toNat_and]
theorem u64_or' (x y : UInt64) : bits .or .u64 (qn x) (qn y) = qn (x ||| y) := by
  unfold qn
  rw [u64_or_nat _ _ x.toNat_lt y.toNat_lt, UInt64.toNat_or]
theorem u64_andNot' (x y : UInt64) : bits .andNot .u64 (qn x) (qn y) = qn (x &&& ~~~ y) := by
  unfold qn
  have := y.toNat_lt
  rw [u64_andNot_nat _ _ x.toNat_lt y.toNat_lt, UInt64.toNat_and, toNat_notQ, show 18446744073709551615 - y.toNat = 2 ^ 64 - (y.toNat + 1) by omega]
theorem wrap_u64m (n : Int) : IntKind.u64.wrap n = n % 18446744073709551616 := by simp [IntKind.wrap, IntKind.bits, IntKind.signed]
theorem u64_add (x y : UInt64) : (qn x + qn y) % 18446744073709551616 = qn (x + y) := by
  unfold qn
  rw [UInt64.toNat_add, ← Int.natCast_add]
  omega
theorem u64_addw (x y : UInt64) : IntKind.u64.wrap (qn x + qn y) = qn (x + y) := (wrap_u64m _).trans (u64_add x y)
theorem u64_shr (x : UInt64) (k : Nat) (hk : k < 64) : (qn x) / ((2 ^ k : Nat) : Int) = qn (x >>> UInt64.ofNat k) := by
  unfold qn
  rw [← Int.natCast_ediv, shrQ x k hk]
/-- the first bit that is set, of a word that is not 0: the library's table stands at block 0 -/
def Glob (w : World) : Prop := ∀ j, j < Lib.deBruijn64tab.length → w.cell? ⟨0, j, none⟩ = some (.int .u8 (Lib.deBruijn64tab.getD j 0))
theorem Glob.below {w w' : World} {B : Nat} (h : Glob w) (hb : Below B w w') (hB : 0 < B) : Glob w' := fun j hj => (hb.cell (p := ⟨0, j, none⟩) hB).trans (h j hj)
theorem tz_core (x k idx : Nat) (w : World) (hx0 : ((x : Int) == 0) = false)
    (key : IntKind.u64.wrap (bits BinOp.and IntKind.u64 (x : Int) (IntKind.u64.wrap (-(x : Int))) * 285870213051353865) / 288230376151711744 = (idx : Int))
    (hi : idx < 64) (hk : k < 64) (hcell : w.cell? ⟨0, idx, none⟩ = some (.int .u8 (k : Int))) :
    Calls Tryd.prog 35 #[.int .u64 (x : Int)] w fun e w' => e = .returned (.int .i64 (k : Int)) ∧ w = w' := by
  go_enter Tryd.func35, Tryd.ntmps35
  go_wp2_with (simp only [key])
  go_ret
  exact ⟨rfl, rfl⟩
theorem tz_any (x : UInt64) (hx : x ≠ 0) (w : World) (hG : Glob w) : Calls Tryd.prog 35 #[.int .u64 (qn x)] w fun e w' => e = .returned (.int .i64 (Lib.ctz 64 x.toNat : Nat)) ∧ w = w' := by
  have hx0 : x.toNat ≠ 0 := fun e => hx (UInt64.toNat_inj.1 (by rw [e]; rfl))
  obtain ⟨hlow, hk⟩ := Lib.lowest_bit 64 x.toNat hx0 x.toNat_lt
  obtain ⟨hi, htab⟩ := Lib.deBruijn64_at _ hk
  have hcell := hG _ hi
  rw [htab] at hcell
  exact tz_core x.toNat _ _ w (by simp; omega) (tz64_key x.toNat _ x.toNat_lt hx0 hlow) hi hk hcell
end Go.Proofs.YtocolaccgoochaaDoor
