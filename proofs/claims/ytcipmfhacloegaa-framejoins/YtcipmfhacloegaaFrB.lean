/-
  Ranges compared: slices.Equal.
-/
import Derived.Test.YtcipmfhacloegaaFrA
import Derived.Test.YtcipmfhacloegaaRgE
import Derived.Laws.StructEq
namespace Go.Proofs.Ytcipmfhacloegaa
open Go.RowKit
set_option linter.unusedVariables false

set_option maxHeartbeats 1000000 in
theorem requal_len (l r : List (Nat × Nat)) (A A' : Option Addr) (n c c' B B' : Nat) (w : World) (h : SlR w B A n l) (h' : SlR w B' A' n r) (hm : n ≤ maxLen) :
    Calls Try.prog 38 #[.slice A n c, .slice A' n c'] w (Quiet (.bool (decide (l = r))) w) := by
  have hl := h.1
  have hl' := h'.1
  have hn63 : n ≤ 9223372036854775807 := by unfold maxLen at hm; omega
  have hne : ((n : Int) != (n : Int)) = false := by simp
  have H := Lib.hid h
  have H' := Lib.hid h'
  have Hl := Lib.hid hl
  have Hl' := Lib.hid hl'
  clear hl hl' h h' hm
  go_enter Try.func38, Try.ntmps38
  go_wp2_with fail
  go_loopw [5, 13] (fun ii i wr => ∃ j k : Nat, j ≤ n ∧ i = .int .i64 j ∧ wr = w.drewN k ∧ Hid (l.take j = r.take j)) (fun _ i _ => n - (intQ i).toNat)
  case atStart => exact ⟨0, 0, by omega, rfl, rfl, rfl⟩
  case round =>
    obtain ⟨j, k, hj, rfl, rfl, HE⟩ := hrel
    by_cases hlt : j < n
    · obtain ⟨b, off, rfl, hb, hcell⟩ := H.out.2 (by omega)
      obtain ⟨b', off', rfl, hb', hcell'⟩ := H'.out.2 (by omega)
      have hjl : j < l.length := by have := Hl.out; omega
      have hjr : j < r.length := by have := Hl'.out; omega
      obtain ⟨⟨x, x2⟩, hx⟩ : ∃ x, l[j] = x := ⟨_, rfl⟩
      obtain ⟨⟨y, y2⟩, hy⟩ : ∃ y, r[j] = y := ⟨_, rfl⟩
      have c1 := hcell j hjl
      have c2 := hcell' j hjr
      rw [hx] at c1
      rw [hy] at c2
      simp only at c1 c2
      obtain ⟨c11, c12⟩ := c1
      obtain ⟨c21, c22⟩ := c2
      have Hx := Lib.hid hx
      have Hy := Lib.hid hy
      clear hx hy hcell hcell'
      have hgd := range_guard
      cases hxy : decide ((x, x2) = (y, y2))
      · have hq := range_neq (x, x2) (y, y2) false hxy
        simp only at hq
        have hd : decide (l = r) = false := by
          simp only [decide_eq_false_iff_not]
          rintro rfl
          have e : (x, x2) = (y, y2) := by rw [← Hx.out, ← Hy.out]
          rw [e] at hxy
          simp at hxy
        have Hd := Lib.hid hd
        clear hd hxy
        go_wp2_with fail
        go_quiet (fail)
        go_wp2
        go_ret
        exact ⟨by rw [Hd.out]; rfl, _, by simp [World.drewN_drewN]; rfl⟩
      · have hq := range_neq (x, x2) (y, y2) true hxy
        simp only at hq
        have Hxy := Lib.hid (of_decide_eq_true hxy)
        clear hxy
        go_wp2_with fail
        go_quiet (fail)
        go_wp2
        go_roundw
        case rel =>
          refine ⟨j + 1, k + nq, by omega, by go_num, by simp, ?_⟩
          show l.take (j + 1) = r.take (j + 1)
          rw [List.take_succ_eq_append_getElem hjl, List.take_succ_eq_append_getElem hjr, HE.out, Hx.out, Hy.out, Hxy.out]
        case measure => simp [intQ]; omega
    · go_wp2
      go_ret
      have e : l = r := by
        have h := HE.out
        rwa [List.take_of_length_le (by have := Hl.out; omega), List.take_of_length_le (by have := Hl'.out; omega)] at h
      exact ⟨by simp [e], _, rfl⟩
theorem requal_unlike (l r : List (Nat × Nat)) (A A' : Option Addr) (n n' c c' : Nat) (w : World) (hl : l.length = n) (hr : r.length = n') (hne : n ≠ n') :
    Calls Try.prog 38 #[.slice A n c, .slice A' n' c'] w (Quiet (.bool (decide (l = r))) w) := by
  have hd : decide (l = r) = false := by
    simp only [decide_eq_false_iff_not]
    rintro rfl
    omega
  rw [hd]
  have ht : ((n : Int) != (n' : Int)) = true := by simp; omega
  clear hl hr hne hd
  go_enter Try.func38, Try.ntmps38
  go_wp2
  go_ret
  exact ⟨rfl, 0, rfl⟩
theorem requal_any (l r : List (Nat × Nat)) (A A' : Option Addr) (n n' c c' B B' : Nat) (w : World) (h : SlR w B A n l) (h' : SlR w B' A' n' r) (hm : n ≤ maxLen) (b : Bool) (hb : decide (l = r) = b) :
    Calls Try.prog 38 #[.slice A n c, .slice A' n' c'] w fun e w' => e = .returned (.bool b) ∧ Below w.heap.size w w' := by
  subst hb
  by_cases e : n = n'
  · subst e
    exact (requal_len l r A A' n c c' B B' w h h' hm).mono fun _ _ => Quiet.below
  · exact (requal_unlike l r A A' n n' c c' w h.1 h'.1 e).mono fun _ _ => Quiet.below
end Go.Proofs.Ytcipmfhacloegaa
