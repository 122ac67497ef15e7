/-
  Copied, of the laws: bytes of their own.
-/
import Derived.Test.YtocolaccgoochaaDoorBase
namespace Go.Proofs.YtocolaccgoochaaDoor
open Go.RowKit
set_option linter.unusedVariables false
theorem copied_any (l : List UInt8) (A : Option Addr) (n c B : Nat) (w : World) (h : Sl w B A n l) (hm : n ≤ 70368744177664) :
    Calls Tryd.prog 14 #[.slice A n c] w (MakesBytes w n l) := by
  have H := Lib.hid h
  clear h
  go_enter Tryd.func14, Tryd.ntmps14
  go_wp2_with (at_builtin; refine wpList_append_bytes rfl _ _ rfl w.heap.size (.slice none 0 0) 0 [] rfl (Own.nil _ _) B A n c l rfl H.out (by omega) (Nat.le_refl _) w (Below.refl _ _) ?_; intro A1 c1 w1 ho hle hc hg hb)
  go_ret
  simp only [Nat.zero_add, List.nil_append] at *
  exact ⟨A1, c1, rfl, ho, hle, hc, hb⟩
end Go.Proofs.YtocolaccgoochaaDoor
