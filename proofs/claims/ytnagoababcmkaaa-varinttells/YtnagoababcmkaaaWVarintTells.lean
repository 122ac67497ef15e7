/-
  The walk of VarintTells.
-/
import Derived.Test.YtnagoababcmkaaaVarintD
namespace Go.Proofs.Ytnagoababcmkaaa
open Go.RowKit
set_option linter.unusedVariables false

set_option maxHeartbeats 400000 in
theorem tells_long (n : Int) (A1 A2 : Option Addr) (n1 c1 n2 c2 : Nat) (w : World) (h : 40 < n1 ∨ 40 < n2) :
    Calls Try.prog 3 #[.int .u64 n, .slice A1 n1 c1, .slice A2 n2 c2] w fun e w' => e = .returned (.bool true) ∧ Below w.heap.size w w' := by
  have HA := Lib.hid (awake_any)
  by_cases h1 : 40 < n1
  · have t1 : decide ((40 : Int) < (n1 : Int)) = true := by simp; omega
    clear h h1
    go_enter Try.func3, Try.ntmps3
    go_wp2_with ((with_reducible refine (HA.out _).mono ?_); rintro e w1 ⟨rfl, hb⟩)
    go_ret
    exact ⟨rfl, hb⟩
  · have t1 : decide ((40 : Int) < (n1 : Int)) = false := by simp; omega
    have t2 : decide ((40 : Int) < (n2 : Int)) = true := by simp; omega
    clear h h1
    go_enter Try.func3, Try.ntmps3
    go_wp2_with ((with_reducible refine (HA.out _).mono ?_); rintro e w1 ⟨rfl, hb⟩)
    go_ret
    exact ⟨rfl, hb⟩

set_option maxHeartbeats 400000 in
theorem tells_short (n : Nat) (A1 A2 : Option Addr) (n1 c1 n2 c2 : Nat) (l1 l2 : List UInt8) (w : World) (hn : n < 18446744073709551616) (h1 : Sl w w.heap.size A1 n1 l1) (h2 : Sl w w.heap.size A2 n2 l2)
    (hc1 : n1 ≤ c1) (hm1 : c1 ≤ maxLen) (hc2 : n2 ≤ c2) (hm2 : c2 ≤ maxLen) (s1 : n1 ≤ 40) (s2 : n2 ≤ 40) :
    Calls Try.prog 3 #[.int .u64 n, .slice A1 n1 c1, .slice A2 n2 c2] w fun e w' => e = .returned (.bool true) ∧ Below w.heap.size w w' := by
  have t1 : decide ((40 : Int) < (n1 : Int)) = false := by simp; omega
  have t2 : decide ((40 : Int) < (n2 : Int)) = false := by simp; omega
  obtain ⟨X, hX⟩ : ∃ X, (getV l2).1 = X := ⟨_, rfl⟩
  obtain ⟨K, hK⟩ : ∃ X, (getV l2).2.1 = X := ⟨_, rfl⟩
  obtain ⟨E, hE⟩ : ∃ X, (getV l2).2.2 = X := ⟨_, rfl⟩
  have G1 := get_any l2 A2 n2 c2 _ w h2 hc2 hm2
  have G2 := rget_any l2 A2 n2 c2 _ w h2 hc2 hm2
  rw [hX, hK, hE] at G1 G2
  have G1 := Lib.hid G1
  have G2 := Lib.hid G2
  have HL := Lib.hid (len_any n)
  have HR := Lib.hid (rlen_any n)
  have H1 := Lib.hid h1
  have hn8 : lenV n ≤ 8 := by have := cls_cases n; omega
  have q1 : ((X : Int) == (X : Int)) = true := by simp
  have q2 : ((K : Int) == (K : Int)) = true := by simp
  have q3 : ((E : Int) == (E : Int)) = true := by simp
  have q4 : ((lenV n : Int) == (lenV n : Int)) = true := by simp
  clear h1 h2 hX hK hE hm1 hm2 hc1 hc2
  go_enter Try.func3, Try.ntmps3
  go_wp2_with fail
  (with_reducible refine G1.out.mono ?_)
  rintro e w' ⟨rfl, rfl⟩
  go_wp2_with fail
  (with_reducible refine G2.out.mono ?_)
  rintro e w' ⟨rfl, rfl⟩
  go_wp2_with fail
  (with_reducible refine (HL.out _ hn).mono ?_)
  rintro e w' ⟨rfl, rfl⟩
  go_wp2_with fail
  (with_reducible refine (HR.out _ hn).mono ?_)
  rintro e w' ⟨rfl, rfl⟩
  go_wp2_with fail
  (with_reducible refine (copied_any l1 A1 n1 c1 _ _ H1.out (by omega)).mono ?_)
  rintro e w1 ⟨B1, d1, rfl, ho1, hle1, hd1, hb1⟩
  go_wp2_with fail
  (with_reducible refine (put_any l1 B1 n1 d1 _ n _ ho1.sl (by simp) (by omega) hn).mono ?_)
  rintro e w2 ⟨B2, d2, rfl, ho2, hle2, hd2, hb2⟩
  have hb2' : Below w.heap.size w w2 := hb1.trans (hb2.mono hb1.size)
  have H1' := Lib.hid (H1.out.below hb2')
  go_wp2_with fail
  (with_reducible refine (rput_any l1 A1 n1 c1 _ n _ H1'.out hb2'.size (by omega) hn).mono ?_)
  rintro e w3 ⟨B3, d3, rfl, ho3, hle3, hd3, hb3⟩
  have hb3' : Below w.heap.size w w3 := hb2'.trans (hb3.mono hb2'.size)
  go_wp2_with fail
  (with_reducible refine (same_yes (l1 ++ enc n) (l1 ++ enc n) rfl _ _ _ _ _ _ ?E1 ?E2 _ ?h1 ?h2 (by simp [maxLen]; omega)).mono ?_)
  case h1 => exact (ho2.below hb3).sl
  case h2 => exact ho3.sl
  rintro e w4 ⟨rfl, k4, rfl⟩
  go_wp2_with fail
  (with_reducible refine (awake_any _).mono ?_)
  rintro e w5 ⟨rfl, hb5⟩
  go_wp2
  go_ret
  exact ⟨rfl, (below_drewN hb3' k4).trans (hb5.mono hb3'.size)⟩
end Go.Proofs.Ytnagoababcmkaaa
