/-
  The contract of Low.
-/
import Derived.Test.YtfkapjlindcdkaaBytes
namespace Go.Proofs.Ytfkapjlindcdkaa
open Go.RowKit
set_option linter.unusedVariables false

def lowV (x n : Int) : Int := wrap64 ((IntKind.u64.wrap x).tmod n)
theorem low_bd (x n : Int) (h0 : 0 < n) (h1 : n < 4611686018427387904) : 0 ≤ lowV x n ∧ lowV x n < n := by
  have hx : 0 ≤ IntKind.u64.wrap x := by simp [IntKind.wrap, IntKind.bits, IntKind.signed]; omega
  have a := Int.tmod_nonneg n hx
  have b := Int.tmod_lt_of_pos (IntKind.u64.wrap x) h0
  unfold lowV
  have e : wrap64 ((IntKind.u64.wrap x).tmod n) = (IntKind.u64.wrap x).tmod n := by unfold wrap64; omega
  rw [e]
  exact ⟨a, b⟩

/-- Low(x, n) for a positive n: some number below n -/
theorem low_any (x n : Int) (w : World) (h0 : 0 < n) (h1 : n < 4611686018427387904) :
    Calls Try.prog 18 #[.int .i64 x, .int .i64 n] w fun e w' => e = .returned (.int .i64 (lowV x n)) ∧ w = w' := by
  go_enter Try.func18, Try.ntmps18
  go_wp2
  go_ret
  exact ⟨rfl, rfl⟩
theorem low_nat (x : Int) (n : Nat) (h0 : 0 < n) (h1 : n < 1000000) : ∃ i : Nat, i < n ∧ ∀ u : World, Calls Try.prog 18 #[.int .i64 x, .int .i64 (n : Int)] u fun e w' => e = .returned (.int .i64 (i : Int)) ∧ u = w' := by
  have hb := low_bd x n (by omega) (by omega)
  refine ⟨(lowV x n).toNat, by omega, fun u => ?_⟩
  have h := low_any x n u (by omega) (by omega)
  rw [show ((lowV x n).toNat : Int) = lowV x n by omega]
  exact h
theorem low_int (x n : Int) (h0 : 0 < n) (h1 : n < 4611686018427387904) : ∃ y : Int, 0 ≤ y ∧ y < n ∧ ∀ u : World, Calls Try.prog 18 #[.int .i64 x, .int .i64 n] u fun e w' => e = .returned (.int .i64 y) ∧ u = w' := by
  have h := low_bd x n h0 h1
  exact ⟨_, h.1, h.2, fun u => low_any x n u h0 h1⟩

end Go.Proofs.Ytfkapjlindcdkaa
