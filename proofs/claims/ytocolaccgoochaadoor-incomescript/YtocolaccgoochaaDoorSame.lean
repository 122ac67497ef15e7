/-
  Contracts of the laws' helpers over bytes: SameBytes, Copied.
-/
import Derived.Test.YtocolaccgoochaaDoorWords
import Derived.Deep.QuietTactic
import Derived.BigQuiet
namespace Go.Proofs.YtocolaccgoochaaDoor
open Go.RowKit
set_option linter.unusedVariables false

def intQ : Value → Int | .int _ q => q | _ => 0

/-- a call that turns nothing, in a region that draws its order; behind a first one: 'quiet_more' -/
theorem quiet_first {P : Program} {f : FuncId} {args : Array Value} {w : World} {n : Nat} {v : Value} (h : Calls P f args (w.drewN n) fun e w' => e = .returned v ∧ w.drewN n = w') :
    Calls P f args (w.drewN n) fun e w'' => e = .returned v ∧ ∃ m, w'' = w.drewN m := h.mono fun _ _ ⟨he, hm⟩ => ⟨he, n, hm.symm⟩
theorem quiet_more {P : Program} {f : FuncId} {args : Array Value} {w : World} {a n : Nat} {v : Value} (h : Calls P f args (w.drewN (a + n)) fun e w' => e = .returned v ∧ w.drewN (a + n) = w') :
    Calls P f args (w.drewN (a + n)) fun e w'' => e = .returned v ∧ ∃ m, w'' = w.drewN (a + m) := h.mono fun _ _ ⟨he, hm⟩ => ⟨he, n, hm.symm⟩

theorem byte_eq_of {x y : UInt8} (h : ((x.toNat : Int) != (y.toNat : Int)) = false) : x = y := by
  simp at h
  exact UInt8.toNat_inj.1 (by omega)

set_option maxHeartbeats 400000 in
theorem same_len (l r : List UInt8) (A A' : Option Addr) (n c c' B B' : Nat) (w : World) (h : Sl w B A n l) (h' : Sl w B' A' n r) (hm : n ≤ maxLen) :
    Calls Tryd.prog 25 #[.slice A n c, .slice A' n c'] w (Quiet (.bool (decide (l = r))) w) := by
  have hl := h.1
  have hl' := h'.1
  have hn63 : n ≤ 9223372036854775807 := by unfold maxLen at hm; omega
  have hne : ((n : Int) != (n : Int)) = false := by simp
  have H := Lib.hid h
  have H' := Lib.hid h'
  have Hl := Lib.hid hl
  have Hl' := Lib.hid hl'
  clear hl hl' h h' hm
  go_enter Tryd.func25, Tryd.ntmps25
  go_wp2_with fail
  go_loopw [5] (fun i wr => ∃ j k : Nat, j ≤ n ∧ i = .int .i64 j ∧ wr = w.drewN k ∧ Hid (l.take j = r.take j)) (fun i _ => n - (intQ i).toNat)
  case atStart => exact ⟨0, 0, by omega, rfl, rfl, rfl⟩
  case round =>
    obtain ⟨j, k, hj, rfl, rfl, HE⟩ := hrel
    by_cases hlt : j < n
    · obtain ⟨b, off, rfl, hb, hcell⟩ := H.out.2 (by omega)
      obtain ⟨b', off', rfl, hb', hcell'⟩ := H'.out.2 (by omega)
      have hjl : j < l.length := by have := Hl.out; omega
      have hjr : j < r.length := by have := Hl'.out; omega
      obtain ⟨x, hx⟩ : ∃ x, l[j] = x := ⟨_, rfl⟩
      obtain ⟨y, hy⟩ : ∃ y, r[j] = y := ⟨_, rfl⟩
      have c1 : w.cell? ⟨b, off + j, none⟩ = some (.int .u8 (x.toNat : Int)) := by rw [← hx]; exact hcell j hjl
      have c2 : w.cell? ⟨b', off' + j, none⟩ = some (.int .u8 (y.toNat : Int)) := by rw [← hy]; exact hcell' j hjr
      have Hx := Lib.hid hx
      have Hy := Lib.hid hy
      clear hx hy hcell hcell'
      cases hxy : ((x.toNat : Int) != (y.toNat : Int))
      · go_wp2_with fail
        go_quiet (fail)
        go_wp2
        go_roundw
        case rel =>
          refine ⟨j + 1, k + nq, by omega, by go_num, by simp, ?_⟩
          show l.take (j + 1) = r.take (j + 1)
          rw [List.take_succ_eq_append_getElem hjl, List.take_succ_eq_append_getElem hjr, HE.out, Hx.out, Hy.out, byte_eq_of hxy]
        case measure => simp [intQ]; omega
      · have hd : decide (l = r) = false := by
          simp only [decide_eq_false_iff_not]
          rintro rfl
          have e : x = y := by rw [← Hx.out, ← Hy.out]
          subst e
          simp at hxy
        have Hd := Lib.hid hd
        clear hd
        go_wp2_with fail
        go_quiet (fail)
        go_wp2
        go_ret
        exact ⟨by rw [Hd.out]; rfl, _, by simp [World.drewN_drewN]; rfl⟩
    · go_wp2
      go_ret
      have e : l = r := by
        have h := HE.out
        rwa [List.take_of_length_le (by have := Hl.out; omega), List.take_of_length_le (by have := Hl'.out; omega)] at h
      exact ⟨by simp [e], _, rfl⟩

theorem same_unlike (l r : List UInt8) (A A' : Option Addr) (n n' c c' : Nat) (w : World) (hl : l.length = n) (hr : r.length = n') (hne : n ≠ n') :
    Calls Tryd.prog 25 #[.slice A n c, .slice A' n' c'] w (Quiet (.bool (decide (l = r))) w) := by
  have hd : decide (l = r) = false := by
    simp only [decide_eq_false_iff_not]
    rintro rfl
    omega
  rw [hd]
  have ht : ((n : Int) != (n' : Int)) = true := by simp; omega
  clear hl hr hne hd
  go_enter Tryd.func25, Tryd.ntmps25
  go_wp2
  go_ret
  exact ⟨rfl, 0, rfl⟩

theorem same_any (l r : List UInt8) (A A' : Option Addr) (n n' c c' B B' : Nat) (w : World) (h : Sl w B A n l) (h' : Sl w B' A' n' r) (hm : n ≤ maxLen) :
    Calls Tryd.prog 25 #[.slice A n c, .slice A' n' c'] w (Quiet (.bool (decide (l = r))) w) := by
  by_cases e : n = n'
  · subst e
    exact same_len l r A A' n c c' B B' w h h' hm
  · exact same_unlike l r A A' n n' c c' w h.1 h'.1 e
/-- of two that are the same -/
theorem same_yes (l r : List UInt8) (he : l = r) (A A' : Option Addr) (n n' c c' B B' : Nat) (w : World) (h : Sl w B A n l) (h' : Sl w B' A' n' r) (hm : n ≤ maxLen) :
    Calls Tryd.prog 25 #[.slice A n c, .slice A' n' c'] w (Quiet (.bool true) w) := by
  have := same_any l r A A' n n' c c' B B' w h h' hm
  rwa [decide_eq_true he] at this
end Go.Proofs.YtocolaccgoochaaDoor
