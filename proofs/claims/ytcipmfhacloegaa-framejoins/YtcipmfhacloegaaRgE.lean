/-
  Ranges compared: as values; the laws' SameRanges.
-/
import Derived.Test.YtcipmfhacloegaaRgW
import Derived.Laws.StructEq
import Derived.Deep.QuietTactic
import Derived.BigQuiet
namespace Go.Proofs.Ytcipmfhacloegaa
open Go.RowKit
set_option linter.unusedVariables false

theorem Quiet.below {v : Value} {w w' : World} {e : Ending} (h : Quiet v w e w') : e = .returned v ∧ Below w.heap.size w w' := by
  obtain ⟨he, k, rfl⟩ := h
  exact ⟨he, rfl, rfl, rfl, Nat.le_refl _, fun _ _ => rfl⟩
def rvA (x : Nat × Nat) : Value := .agg #[.int .u64 (x.1 : Int), .int .u64 (x.2 : Int)]
theorem range_guard : Try.prog.eqGuardType Try.prog.depth 44 = false := by kernel_rfl
theorem range_eqIn (x y : Nat × Nat) (w : World) : (Op.equalIn 10000 44 (rvA x) (rvA y)).run Try.prog w = .ok (decide (x = y)) w := by
  have hS : Try.prog.underlying 44 = some (.struct (Try.prog.fieldsOf 44)) := by kernel_rfl
  have hp : Try.prog.stoodInHeld 44 = false := by kernel_rfl
  obtain ⟨x1, x2⟩ := x
  obtain ⟨y1, y2⟩ := y
  have u3 := Try.underlying22
  unfold rvA
  rw [show (10000 : Nat) = 9999 + 1 from rfl, run_equalIn_agg w 9999 44 _ _ hS hp]
  simp only [Program.fieldsOf, Try.underlying44]
  go_simp
  by_cases h1 : x1 = y1 <;> by_cases h2 : x2 = y2 <;> first | (simp [h1, h2]; done) | (simp [h1, h2]; omega)
theorem range_neq (x y : Nat × Nat) (b : Bool) (h : decide (x = y) = b) (w : World) : (binOp .neq 44 (.agg #[.int .u64 (x.1 : Int), .int .u64 (x.2 : Int)]) (.agg #[.int .u64 (y.1 : Int), .int .u64 (y.2 : Int)])).run Try.prog w = .ok (.bool (!b)) w := by
  rw [run_neq_struct, show (Value.agg #[.int .u64 (x.1 : Int), .int .u64 (x.2 : Int)]) = rvA x from rfl, show (Value.agg #[.int .u64 (y.1 : Int), .int .u64 (y.2 : Int)]) = rvA y from rfl, range_eqIn, h]
  rfl
set_option maxHeartbeats 1000000 in
theorem rsame_len (l r : List (Nat × Nat)) (A A' : Option Addr) (n c c' B B' : Nat) (w : World) (h : SlR w B A n l) (h' : SlR w B' A' n r) (hm : n ≤ maxLen) :
    Calls Try.prog 27 #[.slice A n c, .slice A' n c'] w (Quiet (.bool (decide (l = r))) w) := by
  have hl := h.1
  have hl' := h'.1
  have hn63 : n ≤ 9223372036854775807 := by unfold maxLen at hm; omega
  have hne : ((n : Int) != (n : Int)) = false := by simp
  have H := Lib.hid h
  have H' := Lib.hid h'
  have Hl := Lib.hid hl
  have Hl' := Lib.hid hl'
  clear hl hl' h h' hm
  go_enter Try.func27, Try.ntmps27
  go_wp2_with fail
  go_loopw [5] (fun i wr => ∃ j k : Nat, j ≤ n ∧ i = .int .i64 j ∧ wr = w.drewN k ∧ Hid (l.take j = r.take j)) (fun i _ => n - (intOf i).toNat)
  case atStart => exact ⟨0, 0, by omega, rfl, rfl, rfl⟩
  case round =>
    obtain ⟨j, k, hj, rfl, rfl, HE⟩ := hrel
    by_cases hlt : j < n
    · obtain ⟨b, off, rfl, hb, hcell⟩ := H.out.2 (by omega)
      obtain ⟨b', off', rfl, hb', hcell'⟩ := H'.out.2 (by omega)
      have hjl : j < l.length := by have := Hl.out; omega
      have hjr : j < r.length := by have := Hl'.out; omega
      obtain ⟨⟨x, x2⟩, hx⟩ : ∃ x, l[j] = x := ⟨_, rfl⟩
      obtain ⟨⟨y, y2⟩, hy⟩ : ∃ y, r[j] = y := ⟨_, rfl⟩
      have c1 := hcell j hjl
      have c2 := hcell' j hjr
      rw [hx] at c1
      rw [hy] at c2
      simp only at c1 c2
      obtain ⟨c11, c12⟩ := c1
      obtain ⟨c21, c22⟩ := c2
      have Hx := Lib.hid hx
      have Hy := Lib.hid hy
      clear hx hy hcell hcell'
      have hgd := range_guard
      cases hxy : decide ((x, x2) = (y, y2))
      · have hq := range_neq (x, x2) (y, y2) false hxy
        simp only at hq
        have hd : decide (l = r) = false := by
          simp only [decide_eq_false_iff_not]
          rintro rfl
          have e : (x, x2) = (y, y2) := by rw [← Hx.out, ← Hy.out]
          rw [e] at hxy
          simp at hxy
        have Hd := Lib.hid hd
        clear hd hxy
        go_wp2_with fail
        go_quiet (fail)
        go_wp2
        go_ret
        exact ⟨by rw [Hd.out]; rfl, _, by simp [World.drewN_drewN]; rfl⟩
      · have hq := range_neq (x, x2) (y, y2) true hxy
        simp only at hq
        have Hxy := Lib.hid (of_decide_eq_true hxy)
        clear hxy
        go_wp2_with fail
        go_quiet (fail)
        go_wp2
        go_roundw
        case rel =>
          refine ⟨j + 1, k + nq, by omega, by go_num, by simp, ?_⟩
          show l.take (j + 1) = r.take (j + 1)
          rw [List.take_succ_eq_append_getElem hjl, List.take_succ_eq_append_getElem hjr, HE.out, Hx.out, Hy.out, Hxy.out]
        case measure => simp [intOf]; omega
    · go_wp2
      go_ret
      have e : l = r := by
        have h := HE.out
        rwa [List.take_of_length_le (by have := Hl.out; omega), List.take_of_length_le (by have := Hl'.out; omega)] at h
      exact ⟨by simp [e], _, rfl⟩
theorem rsame_unlike (l r : List (Nat × Nat)) (A A' : Option Addr) (n n' c c' : Nat) (w : World) (hl : l.length = n) (hr : r.length = n') (hne : n ≠ n') :
    Calls Try.prog 27 #[.slice A n c, .slice A' n' c'] w (Quiet (.bool (decide (l = r))) w) := by
  have hd : decide (l = r) = false := by
    simp only [decide_eq_false_iff_not]
    rintro rfl
    omega
  rw [hd]
  have ht : ((n : Int) != (n' : Int)) = true := by simp; omega
  clear hl hr hne hd
  go_enter Try.func27, Try.ntmps27
  go_wp2
  go_ret
  exact ⟨rfl, 0, rfl⟩
theorem rsame_any (l r : List (Nat × Nat)) (A A' : Option Addr) (n n' c c' B B' : Nat) (w : World) (h : SlR w B A n l) (h' : SlR w B' A' n' r) (hm : n ≤ maxLen) (b : Bool) (hb : decide (l = r) = b) :
    Calls Try.prog 27 #[.slice A n c, .slice A' n' c'] w fun e w' => e = .returned (.bool b) ∧ Below w.heap.size w w' := by
  subst hb
  by_cases e : n = n'
  · subst e
    exact (rsame_len l r A A' n c c' B B' w h h' hm).mono fun _ _ => Quiet.below
  · exact (rsame_unlike l r A A' n n' c c' w h.1 h'.1 e).mono fun _ _ => Quiet.below
end Go.Proofs.Ytcipmfhacloegaa
