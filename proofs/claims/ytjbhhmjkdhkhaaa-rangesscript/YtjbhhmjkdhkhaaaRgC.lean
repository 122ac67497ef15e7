/-
  (*Set).List.
-/
import Derived.Test.YtjbhhmjkdhkhaaaRgB
namespace Go.Proofs.Ytjbhhmjkdhkhaaa
open Go.RowKit Go.Lib
set_option linter.unusedVariables false

theorem ownR_empty (w : World) (B : Nat) (hB : B ≤ w.heap.size) : OwnR (w.alloc (.cells #[] 39)) B (.slice (some ⟨w.heap.size, 0, none⟩) 0 0) 0 [] :=
  ⟨rfl, .inr ⟨w.heap.size, 0, _, rfl, hB, heap_alloc_new w _, Nat.le_refl _, by simp [maxLen], rfl, rfl⟩⟩
/-- it lies below the block behind its own -/
theorem OwnR.slA {w : World} {B g n c : Nat} {l : List (Nat × Nat)} (h : OwnR w B (.slice (some ⟨g, 0, none⟩) n c) n l) : SlR w (g + 1) (some ⟨g, 0, none⟩) n l := by
  have h1 := h.sl
  refine ⟨h1.1, fun hn => ?_⟩
  obtain ⟨b, off, e, hb, hc⟩ := h1.2 hn
  injection e with e
  injection e with e1 e2
  subst e1
  subst e2
  exact ⟨_, _, rfl, by omega, hc⟩
set_option maxHeartbeats 2000000 in
theorem clone_any (A : Option Addr) (n c B : Nat) (l : RL) (w : World) (h : OwnR w B (.slice A n c) n l) (hn : n ≤ 1000) :
    Calls Try.prog 24 #[.slice A n c] w fun e w' => ∃ A' c', e = .returned (.slice A' n c') ∧ OwnR w' w.heap.size (.slice A' n c') n l ∧ Below w.heap.size w w' := by
  have hl := h.len
  rcases h.2 with ⟨hv, rfl⟩ | ⟨g, cap, cur, hv, hB, hg, hnc, hm, hs, ht⟩
  · injection hv with h1 h2 h3
    subst h1
    subst h3
    obtain rfl : l = [] := List.eq_nil_of_length_eq_zero hl
    clear h
    have hq : ∀ w : World, (binOp .eql 31 (.slice none 0 0) (.slice none 0 0)).run Try.prog w = .ok (.bool true) w := fun w => by
      have := run_eql_slice_nil (P := Try.prog) w 31 39 none 0 0 0 0 Try.underlying31
      simpa using this
    go_enter Try.func24, Try.ntmps24
    go_wp2
    go_ret
    exact ⟨none, 0, rfl, OwnR.nil _ _, Below.refl _ _⟩
  · injection hv with h1 h2 h3
    subst h1
    subst h3
    have H := Lib.hid h
    clear h hs ht
    have hq : ∀ w : World, (binOp .eql 31 (.slice (some ⟨g, 0, none⟩) n c) (.slice none 0 0)).run Try.prog w = .ok (.bool false) w := fun w => by
      have := run_eql_slice_nil (P := Try.prog) w 31 39 (some ⟨g, 0, none⟩) n c 0 0 Try.underlying31
      simpa using this
    by_cases h0 : n = 0
    · subst h0
      obtain rfl : l = [] := List.eq_nil_of_length_eq_zero hl
      clear hl
      go_enter Try.func24, Try.ntmps24
      go_wp2
      go_ret
      exact ⟨_, 0, rfl, ownR_empty w _ (Nat.le_refl _), (Below.refl _ _).alloc (Nat.le_refl _) _⟩
    · go_enter Try.func24, Try.ntmps24
      go_wp2_with (at_builtin; refine wpList_append_ranges rfl _ _ rfl w.heap.size (.slice (some ⟨w.heap.size, 0, none⟩) 0 0) 0 [] rfl (ownR_empty w _ (Nat.le_refl _)) g 0 n c l rfl ?hsl (by omega) (by omega) (by simp) w ((Below.refl _ _).alloc (Nat.le_refl _) _) ?_; (case hsl => exact H.out.slA.below ((Below.refl _ _).alloc (Nat.succ_le_of_lt (H.out.blk _ rfl).2) _)); intro A7 c7 w7 O7 G7 B7)
      go_ret
      have O8 := O7.out
      rw [List.nil_append] at O8
      simp only [Nat.zero_add] at O8 ⊢
      exact ⟨A7, c7, rfl, O8, B7.out⟩
set_option maxHeartbeats 2000000 in
theorem list_any (g : Nat) (A : Option Addr) (n c B : Nat) (s : RS) (w : World) (h : SetW w B g A n c s) (hn : n ≤ 1000) :
    Calls Try.prog 13 #[.pointer (some ⟨g, 0, none⟩)] w fun e w' => ∃ A' c', e = .returned (.slice A' n c') ∧ OwnR w' w.heap.size (.slice A' n c') n s.l ∧ Below w.heap.size w w' := by
  obtain ⟨h0, h1, h2⟩ := h.cells
  have HC := Lib.hid (clone_any A n c B s.l w h.o hn)
  clear h
  go_enter Try.func13, Try.ntmps13
  go_wp2_with fail
  (with_reducible refine HC.out.mono ?_)
  rintro e1 w1 ⟨A', c', rfl, ho, hb⟩
  have HO := Lib.hid ho
  have HB := Lib.hid hb
  clear ho hb
  go_wp2
  go_ret
  exact ⟨A', c', rfl, HO.out, HB.out⟩
end Go.Proofs.Ytjbhhmjkdhkhaaa
