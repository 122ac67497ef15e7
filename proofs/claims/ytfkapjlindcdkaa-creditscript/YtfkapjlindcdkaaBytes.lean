/-
  Words for bytes: as values, as numbers, in rows; nothing of slices.
-/
import Derived.Test.YtfkapjlindcdkaaRows
import Derived.WalkKit
import Derived.Outline
import Derived.WalkLawsBesides
import Derived.Lib.Hide
import Derived.Below
import Derived.Laws.OwnMore
import Derived.Deep.AppendLies
import Derived.Deep.Draws
import Derived.Maps.AppendAt
import Derived.Laws.BitsAllLaws
namespace Go.Proofs.Ytfkapjlindcdkaa
open Go.RowKit
set_option linter.unusedVariables false

/-- a byte as a value -/
def bv (b : UInt8) : Value := .int .u8 (b.toNat : Int)
theorem bv_one (b : UInt8) : (bv b).oneCell' = true := rfl
def bvs (l : List UInt8) : List Value := l.map bv
theorem bvs_append (l r : List UInt8) : bvs (l ++ r) = bvs l ++ bvs r := by simp [bvs]
theorem bvs_length (l : List UInt8) : (bvs l).length = l.length := by simp [bvs]
theorem bvs_one (l : List UInt8) : ∀ u ∈ bvs l, u.oneCell' = true := by
  intro u hu
  obtain ⟨b, _, rfl⟩ := List.mem_map.1 hu
  rfl

def intOf : Value → Int | .int _ q => q | _ => 0
/-- a byte as a number, under such a name -/
def bn (x : UInt8) : Int := (x.toNat : Int)
theorem bn_bd (x : UInt8) : 0 ≤ bn x ∧ bn x < 256 := by have := x.toNat_lt; unfold bn; omega
theorem size1 : (Try.prog.info? 5).map (·.size) = some 1 := by kernel_rfl

theorem still_of {f : FuncId} {args : Array Value} {w : World} {v : Value} (h : Calls Try.prog f args w fun e w' => e = .returned v ∧ w = w') : Calls Try.prog f args w fun e w' => e = .returned v ∧ w' = w :=
  h.mono fun _ _ ⟨a, b⟩ => ⟨a, b.symm⟩

theorem u8_xor' (x y : UInt8) : bits .xor .u8 (bn x) (bn y) = bn (x ^^^ y) := by
  unfold bn
  rw [u8_xor_nat _ _ x.toNat_lt y.toNat_lt, UInt8.toNat_xor]
theorem u8_or' (x y : UInt8) : bits .or .u8 (bn x) (bn y) = bn (x ||| y) := by
  unfold bn
  rw [u8_or_nat _ _ x.toNat_lt y.toNat_lt, UInt8.toNat_or]
/-- a call that answers v and turns nothing (it may have drawn) -/
def Quiet (v : Value) (w : World) (e : Ending) (w' : World) : Prop := e = .returned v ∧ ∃ k, w' = w.drewN k

end Go.Proofs.Ytfkapjlindcdkaa
