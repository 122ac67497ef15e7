/-
  The laws' SameRanges; a number of a row of ranges written over; a frame of ranges as a value.
-/
import Derived.Test.YtegoabbpjdcjeaaFrB
import Derived.Test.YtegoabbpjdcjeaaFrJ
namespace Go.Proofs.Ytegoabbpjdcjeaa
open Go.RowKit
set_option linter.unusedVariables false

set_option maxHeartbeats 1000000 in
theorem rsame_len (l r : List (Nat × Nat)) (A A' : Option Addr) (n c c' B B' : Nat) (w : World) (h : SlR w B A n l) (h' : SlR w B' A' n r) (hm : n ≤ maxLen) :
    Calls Try.prog 27 #[.slice A n c, .slice A' n c'] w (Quiet (.bool (decide (l = r))) w) := by
  have hl := h.1
  have hl' := h'.1
  have hn63 : n ≤ 9223372036854775807 := by unfold maxLen at hm; omega
  have hne : ((n : Int) != (n : Int)) = false := by simp
  have H := Lib.hid h
  have H' := Lib.hid h'
  have Hl := Lib.hid hl
  have Hl' := Lib.hid hl'
  clear hl hl' h h' hm
  go_enter Try.func27, Try.ntmps27
  go_wp2_with fail
  go_loopw [5] (fun i wr => ∃ j k : Nat, j ≤ n ∧ i = .int .i64 j ∧ wr = w.drewN k ∧ Hid (l.take j = r.take j)) (fun i _ => n - (intQ i).toNat)
  case atStart => exact ⟨0, 0, by omega, rfl, rfl, rfl⟩
  case round =>
    obtain ⟨j, k, hj, rfl, rfl, HE⟩ := hrel
    by_cases hlt : j < n
    · obtain ⟨b, off, rfl, hb, hcell⟩ := H.out.2 (by omega)
      obtain ⟨b', off', rfl, hb', hcell'⟩ := H'.out.2 (by omega)
      have hjl : j < l.length := by have := Hl.out; omega
      have hjr : j < r.length := by have := Hl'.out; omega
      obtain ⟨⟨x, x2⟩, hx⟩ : ∃ x, l[j] = x := ⟨_, rfl⟩
      obtain ⟨⟨y, y2⟩, hy⟩ : ∃ y, r[j] = y := ⟨_, rfl⟩
      have c1 := hcell j hjl
      have c2 := hcell' j hjr
      rw [hx] at c1
      rw [hy] at c2
      simp only at c1 c2
      obtain ⟨c11, c12⟩ := c1
      obtain ⟨c21, c22⟩ := c2
      have Hx := Lib.hid hx
      have Hy := Lib.hid hy
      clear hx hy hcell hcell'
      have hgd := range_guard
      cases hxy : decide ((x, x2) = (y, y2))
      · have hq := range_neq (x, x2) (y, y2) false hxy
        simp only at hq
        have hd : decide (l = r) = false := by
          simp only [decide_eq_false_iff_not]
          rintro rfl
          have e : (x, x2) = (y, y2) := by rw [← Hx.out, ← Hy.out]
          rw [e] at hxy
          simp at hxy
        have Hd := Lib.hid hd
        clear hd hxy
        go_wp2_with fail
        go_quiet (fail)
        go_wp2
        go_ret
        exact ⟨by rw [Hd.out]; rfl, _, by simp [World.drewN_drewN]; rfl⟩
      · have hq := range_neq (x, x2) (y, y2) true hxy
        simp only at hq
        have Hxy := Lib.hid (of_decide_eq_true hxy)
        clear hxy
        go_wp2_with fail
        go_quiet (fail)
        go_wp2
        go_roundw
        case rel =>
          refine ⟨j + 1, k + nq, by omega, by go_num, by simp, ?_⟩
          show l.take (j + 1) = r.take (j + 1)
          rw [List.take_succ_eq_append_getElem hjl, List.take_succ_eq_append_getElem hjr, HE.out, Hx.out, Hy.out, Hxy.out]
        case measure => simp [intQ]; omega
    · go_wp2
      go_ret
      have e : l = r := by
        have h := HE.out
        rwa [List.take_of_length_le (by have := Hl.out; omega), List.take_of_length_le (by have := Hl'.out; omega)] at h
      exact ⟨by simp [e], _, rfl⟩
theorem rsame_unlike (l r : List (Nat × Nat)) (A A' : Option Addr) (n n' c c' : Nat) (w : World) (hl : l.length = n) (hr : r.length = n') (hne : n ≠ n') :
    Calls Try.prog 27 #[.slice A n c, .slice A' n' c'] w (Quiet (.bool (decide (l = r))) w) := by
  have hd : decide (l = r) = false := by
    simp only [decide_eq_false_iff_not]
    rintro rfl
    omega
  rw [hd]
  have ht : ((n : Int) != (n' : Int)) = true := by simp; omega
  clear hl hr hne hd
  go_enter Try.func27, Try.ntmps27
  go_wp2
  go_ret
  exact ⟨rfl, 0, rfl⟩
theorem rsame_any (l r : List (Nat × Nat)) (A A' : Option Addr) (n n' c c' B B' : Nat) (w : World) (h : SlR w B A n l) (h' : SlR w B' A' n' r) (hm : n ≤ maxLen) (b : Bool) (hb : decide (l = r) = b) :
    Calls Try.prog 27 #[.slice A n c, .slice A' n' c'] w fun e w' => e = .returned (.bool b) ∧ Below w.heap.size w w' := by
  subst hb
  by_cases e : n = n'
  · subst e
    exact (rsame_len l r A A' n c c' B B' w h h' hm).mono fun _ _ => Quiet.below
  · exact (rsame_unlike l r A A' n n' c c' w h.1 h'.1 e).mono fun _ _ => Quiet.below
/-- an Ack -/
def ackF (d : Nat) (rs : List (Nat × Nat)) : Fr := { Fr.of 2 with delay := d, rs := rs }
def rngP (A : Option Addr) (n c : Nat) : Fp := { Fp.nil with ra := A, rn := n, rc := c }
def ackV (d : Nat) (A : Option Addr) (n c : Nat) : List Value := [.int .i64 2, .int .u64 0, .int .u64 (d : Int), .slice A n c, .int .u64 0, .int .u64 0, .bool false, .slice none 0 0, .slice none 0 0, .slice none 0 0]
theorem ackV_eq (d : Nat) (rs : List (Nat × Nat)) (A : Option Addr) (n c : Nat) : frV (ackF d rs) (rngP A n c) = ackV d A n c := rfl
theorem ackV_size (d : Nat) (A : Option Addr) (n c : Nat) : (Try.prog.info? 26).map (·.size) = some (ackV d A n c).length := fr_size
theorem rngP_l {u : World} {B : Nat} {A : Option Addr} {n c d : Nat} {rs : List (Nat × Nat)} (hs : SlR u B A n rs) (hnc : n ≤ c) (hm : c ≤ maxLen) : FrL u B (ackF d rs) (rngP A n c) :=
  ⟨hs, Sl.nil, Sl.nil, Sl.nil, ⟨hnc, hm⟩, ⟨Nat.le_refl _, by simp [rngP, Fp.nil, maxLen]⟩, ⟨Nat.le_refl _, by simp [rngP, Fp.nil, maxLen]⟩, ⟨Nat.le_refl _, by simp [rngP, Fp.nil, maxLen]⟩⟩
theorem rvs_set (l : List (Nat × Nat)) (j v : Nat) (hj : j < l.length) : (rvs l).set (j * 2 + 1) (.int .u64 (v : Int)) = rvs (l.set j ((l.getD j (0, 0)).1, v)) := by
  induction l generalizing j with
  | nil => simp at hj
  | cons x r ih =>
    cases j with
    | zero => simp [rvs]
    | succ j =>
      have := ih j (by simpa using hj)
      rw [show (j + 1) * 2 + 1 = j * 2 + 1 + 1 + 1 by omega]
      simp only [rvs, List.set_cons_succ, this]
      simp
theorem ranges_n (rs : List (Nat × Nat)) (h : RangesP rs) : ∀ x ∈ rs, x.1 < 18446744073709551616 ∧ x.2 < 18446744073709551616 := by
  intro x hx
  obtain ⟨_, _, hc⟩ := (ranges_index rs).1 h
  obtain ⟨i, hi, rfl⟩ := List.getElem_of_mem hx
  have := hc i hi
  unfold condR at this
  rw [show rs.getD i (0, 0) = rs[i] by simp [hi]] at this
  unfold maxV at this
  omega
end Go.Proofs.Ytegoabbpjdcjeaa
