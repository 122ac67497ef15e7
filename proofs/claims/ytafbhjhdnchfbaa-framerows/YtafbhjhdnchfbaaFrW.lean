/-
  The laws' SameRanges; a number of a row of ranges written over; a frame of ranges as a value.
-/
import Derived.Test.YtafbhjhdnchfbaaFrB
import Derived.Test.YtafbhjhdnchfbaaFrJ
namespace Go.Proofs.Ytafbhjhdnchfbaa
open Go.RowKit
set_option linter.unusedVariables false

/-- an Ack -/
def ackF (d : Nat) (rs : List (Nat × Nat)) : Fr := { Fr.of 2 with delay := d, rs := rs }
def rngP (A : Option Addr) (n c : Nat) : Fp := { Fp.nil with ra := A, rn := n, rc := c }
def ackV (d : Nat) (A : Option Addr) (n c : Nat) : List Value := [.int .i64 2, .int .u64 0, .int .u64 (d : Int), .slice A n c, .int .u64 0, .int .u64 0, .bool false, .slice none 0 0, .slice none 0 0, .slice none 0 0]
theorem ackV_eq (d : Nat) (rs : List (Nat × Nat)) (A : Option Addr) (n c : Nat) : frV (ackF d rs) (rngP A n c) = ackV d A n c := rfl
theorem ackV_size (d : Nat) (A : Option Addr) (n c : Nat) : (Try.prog.info? 26).map (·.size) = some (ackV d A n c).length := fr_size
theorem rngP_l {u : World} {B : Nat} {A : Option Addr} {n c d : Nat} {rs : List (Nat × Nat)} (hs : SlR u B A n rs) (hnc : n ≤ c) (hm : c ≤ maxLen) : FrL u B (ackF d rs) (rngP A n c) :=
  ⟨hs, Sl.nil, Sl.nil, Sl.nil, ⟨hnc, hm⟩, ⟨Nat.le_refl _, by simp [rngP, Fp.nil, maxLen]⟩, ⟨Nat.le_refl _, by simp [rngP, Fp.nil, maxLen]⟩, ⟨Nat.le_refl _, by simp [rngP, Fp.nil, maxLen]⟩⟩
theorem rvs_set (l : List (Nat × Nat)) (j v : Nat) (hj : j < l.length) : (rvs l).set (j * 2 + 1) (.int .u64 (v : Int)) = rvs (l.set j ((l.getD j (0, 0)).1, v)) := by
  induction l generalizing j with
  | nil => simp at hj
  | cons x r ih =>
    cases j with
    | zero => simp [rvs]
    | succ j =>
      have := ih j (by simpa using hj)
      rw [show (j + 1) * 2 + 1 = j * 2 + 1 + 1 + 1 by omega]
      simp only [rvs, List.set_cons_succ, this]
      simp
theorem ranges_n (rs : List (Nat × Nat)) (h : RangesP rs) : ∀ x ∈ rs, x.1 < 18446744073709551616 ∧ x.2 < 18446744073709551616 := by
  intro x hx
  obtain ⟨_, _, hc⟩ := (ranges_index rs).1 h
  obtain ⟨i, hi, rfl⟩ := List.getElem_of_mem hx
  have := hc i hi
  unfold condR at this
  rw [show rs.getD i (0, 0) = rs[i] by simp [hi]] at this
  unfold maxV at this
  omega
end Go.Proofs.Ytafbhjhdnchfbaa
