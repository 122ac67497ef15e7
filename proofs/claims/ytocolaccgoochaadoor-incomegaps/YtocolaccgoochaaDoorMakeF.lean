/-
  A slice of bytes made at its full length, all zeros.
-/
import Derived.Test.YtocolaccgoochaaDoorBase
import Derived.Test.YtocolaccgoochaaDoorBlkW
namespace Go.Proofs.YtocolaccgoochaaDoor
open Go.RowKit
set_option linter.unusedVariables false

/-- 'make([]byte, S)' -/
theorem run_make_full (S : Nat) (hS : S ≤ 70368744177664) (u : World) : (Instr.makeSlice 30 (.int .i64 (S : Int)) (.int .i64 (S : Int))).run Tryd.prog u =
      .ok (.slice (some ⟨u.heap.size, 0, none⟩) S S) (u.alloc (.cells (madeCells #[.int .u8 0] S) 5)) := by
  obtain ⟨i, hi, hz0, hz1, hz2⟩ := info_parts byte_info
  have h := run_make (P := Tryd.prog) u 30 5 i (.int .u8 0) Tryd.underlying30 hi hz0 .i64 .i64 (S : Int) (S : Int) (by omega) (Int.le_refl _) (by rw [hz2]; omega) (by omega)
  simpa [hz1, Value.cells] using h
theorem made_zeros (S : Nat) : madeCells #[.int .u8 0] S = (bvs (List.replicate S 0)).toArray := by
  rw [← zeros_bvs]
  apply Array.ext'
  rw [toList_madeCells_one]
theorem Blk.own {w : World} {g n B : Nat} {l : List UInt8} (h : Blk w g 5 l) (hn : l.length = n) (hB : B ≤ g) (hm : n ≤ maxLen) : Own w B (.slice (some ⟨g, 0, none⟩) n n) n l :=
  ⟨by rw [bvs_length, hn]; omega, .inr ⟨g, n, (bvs l).toArray, rfl, hB, h, Nat.le_refl _, hm, by simp [bvs_length, hn], by simp only [Nat.mul_one]; rw [List.take_of_length_le (by simp [bvs_length, hn])]⟩⟩
end Go.Proofs.YtocolaccgoochaaDoor
