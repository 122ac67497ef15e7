/-
  When a host sends: asks, busy, slots, as functions of lists. Pure.
-/
import Derived.Test.YtlaehoggfnlljaaInts
import Derived.Lib.Hide
namespace Go.Proofs.Ytlaehoggfnlljaa
open Go.RowKit
set_option linter.unusedVariables false

/-- something was asked at t, or lately then -/
def busyL (A : List Int) (t : Int) : Bool := A.any fun a => decide (0 ≤ a) && decide (a ≤ t) && decide (t - 24 < a)
def slowL (h t : Int) : Bool := decide ((t + 2 * h) % 4 = 0)
def slotL (h : Int) (A : List Int) (t : Int) : Bool := decide (0 ≤ t) && (busyL A t || slowL h t)
/-- of n ticks from f on those that are slots -/
def slotsL (h : Int) (A : List Int) (f : Int) (n : Nat) : List Int := ((List.range n).map fun (i : Nat) => f + (i : Int)).filter fun t => slotL h A t
def slotsV (h : Int) (A : List Int) (f t : Int) : List Int := if t < f ∨ 10000 ≤ t - f then [] else slotsL h A f (t - f + 1).toNat

theorem busy_neg (A : List Int) {t : Int} (h : t < 0) : busyL A t = false := by
  unfold busyL
  rw [List.any_eq_false]
  intro a _
  simp
  omega
theorem busy_iff {A : List Int} {t : Int} : busyL A t = true ↔ ∃ a ∈ A, 0 ≤ a ∧ a ≤ t ∧ t - 24 < a := by
  unfold busyL
  simp [and_assoc]
theorem busy_of {A : List Int} {t a : Int} (h : a ∈ A) (h0 : 0 ≤ a) (h1 : a ≤ t) (h2 : t - 24 < a) : busyL A t = true := busy_iff.2 ⟨a, h, h0, h1, h2⟩
theorem busy_not {A : List Int} {t : Int} (h : ∀ a ∈ A, 0 ≤ a → a ≤ t → t - 24 < a → False) : busyL A t = false := by
  cases e : busyL A t
  · rfl
  · obtain ⟨a, h0, h1, h2, h3⟩ := busy_iff.1 e
    exact (h a h0 h1 h2 h3).elim
theorem busy_append (A B : List Int) (t : Int) : busyL (A ++ B) t = (busyL A t || busyL B t) := by unfold busyL; rw [List.any_append]
theorem slots_zero (h : Int) (A : List Int) (f : Int) : slotsL h A f 0 = [] := rfl
theorem slots_succ (h : Int) (A : List Int) (f : Int) (n : Nat) : slotsL h A f (n + 1) = slotsL h A f n ++ (if slotL h A (f + n) = true then [f + (n : Int)] else []) := by
  unfold slotsL
  rw [List.range_succ, List.map_append, List.filter_append]
  simp [List.filter_cons]
theorem slots_len (h : Int) (A : List Int) (f : Int) (n : Nat) : (slotsL h A f n).length ≤ n := by
  unfold slotsL
  exact Nat.le_trans (List.length_filter_le _ _) (by simp)
theorem slots_add (h : Int) (A : List Int) (f : Int) (n : Nat) : ∀ m : Nat, slotsL h A f (n + m) = slotsL h A f n ++ slotsL h A (f + n) m
  | 0 => by simp [slots_zero]
  | m + 1 => by
    rw [← Nat.add_assoc, slots_succ, slots_succ, slots_add h A f n m, List.append_assoc]
    simp [Int.add_assoc]
theorem slotsV_none {h f t : Int} {A : List Int} (hn : t < f ∨ 10000 ≤ t - f) : slotsV h A f t = [] := by unfold slotsV; rw [if_pos hn]
theorem slotsV_some {h f t : Int} {A : List Int} (h1 : f ≤ t) (h2 : t - f < 10000) : slotsV h A f t = slotsL h A f (t - f + 1).toNat := by unfold slotsV; rw [if_neg (by omega)]
/-- what the program reckons is whether 4 divides the sum -/
theorem slow_wrap (h t : Int) : ((wrap64 (t + wrap64 (2 * h))).tmod 4 == 0) = slowL h t := by
  unfold slowL
  have e : (wrap64 (t + wrap64 (2 * h))).tmod 4 = 0 ↔ (t + 2 * h) % 4 = 0 := by
    rw [← Int.dvd_iff_tmod_eq_zero, Int.dvd_iff_emod_eq_zero]
    unfold wrap64
    omega
  rw [Bool.eq_iff_iff]
  simp [e]
end Go.Proofs.Ytlaehoggfnlljaa
