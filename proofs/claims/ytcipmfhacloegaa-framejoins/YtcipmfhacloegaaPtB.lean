/-
  What is left to read is never more than there was.
-/
import Derived.Test.YtcipmfhacloegaaPtA
namespace Go.Proofs.Ytcipmfhacloegaa
open Go.RowKit
set_option linter.unusedVariables false

theorem expectP_le (s : List UInt8 × Nat) (k : Nat) : (expectP s k).1.length ≤ s.1.length := by
  unfold expectP failP
  split
  · simp
  · exact Nat.le_refl _
theorem failP_le (s : List UInt8 × Nat) (k : Nat) : (failP s k).1.length ≤ s.1.length := by simp [failP]
theorem bytesP_le (s : List UInt8 × Nat) (k : Nat) : (bytesP s k).2.1.length ≤ s.1.length := by
  have h := expectP_le s k
  unfold bytesP
  split
  · simp only [List.length_drop]; omega
  · exact h
theorem wholeP_le (s : List UInt8 × Nat) (k : Nat) : (wholeP s k).2.1.length ≤ s.1.length := bytesP_le s k
theorem varintP_le (s : List UInt8 × Nat) : (varintP s).2.1.length ≤ s.1.length := by
  unfold varintP
  split
  · simp only [List.length_drop]; omega
  · exact failP_le _ _
end Go.Proofs.Ytcipmfhacloegaa
