/-
  The document's own reading of headers: the contracts of its part and Number.
-/
import Derived.Test.YtonoljcgcfjkmaaHdF
namespace Go.Proofs.Ytonoljcgcfjkmaa
open Go.RowKit
set_option linter.unusedVariables false

theorem part_no (AT K : Int) (at_ k : Nat) (hAT : AT = (at_ : Int)) (hK : K = (k : Int)) (A : Option Addr) (n c : Nat) (w : World) (hn : n ≤ 70368744177664) (ha : at_ ≤ 70368744177664) (hk : k ≤ 70368744177664) (hlt : n < at_ + k) :
    Calls Try.prog 52 #[.slice A n c, .int .i64 AT, .int .i64 K] w fun e w' => e = .returned (.tuple #[.slice none 0 0, .bool false]) ∧ w = w' := by
  subst hAT hK
  obtain ⟨s, hs⟩ : ∃ s, at_ + k = s := ⟨_, rfl⟩
  have e1 : (at_ : Int) + (k : Int) = (s : Int) := by omega
  have hlt' : n < s := by omega
  have hsb : s ≤ 9223372036854775807 := by omega
  clear hs hlt
  go_enter Try.func52, Try.ntmps52
  go_wp2_with fail
  go_ret2
  exact ⟨rfl, rfl⟩
set_option maxHeartbeats 1000000 in
theorem part_yes (AT K : Int) (at_ k : Nat) (hAT : AT = (at_ : Int)) (hK : K = (k : Int)) (l : List UInt8) (A : Option Addr) (n c B : Nat) (w : World) (h : Sl w B A n l) (hc : n ≤ c) (hm : c ≤ maxLen) (hn : n ≤ 35184372088832) (hle : at_ + k ≤ n) :
    Calls Try.prog 52 #[.slice A n c, .int .i64 AT, .int .i64 K] w fun e w' => ∃ A' c', e = .returned (.tuple #[.slice A' k c', .bool true]) ∧ Own w' w.heap.size (.slice A' k c') k ((l.drop at_).take k) ∧ k ≤ c' ∧ c' ≤ maxLen ∧ Below w.heap.size w w' := by
  subst hAT hK
  obtain ⟨s, hs⟩ : ∃ s, at_ + k = s := ⟨_, rfl⟩
  have e1 : (at_ : Int) + (k : Int) = (s : Int) := by omega
  have hlt' : ¬ n < s := by omega
  have hsb : s ≤ 9223372036854775807 := by omega
  obtain ⟨A1, eA1⟩ : ∃ v, (if c = at_ then A else A.map (·.add at_)) = v := ⟨_, rfl⟩
  have hcut : ∀ u : World, (Instr.slice 23 (.slice A n c) (some (.int .i64 (at_ : Int))) (some (.int .i64 (s : Int))) none).run Try.prog u = .ok (.slice A1 k (c - at_)) u := fun u => by
    rw [run_cut2 u A n c at_ s (by omega) (by omega), eA1, show s - at_ = k by omega]
  have HS : Hid (Sl w B A1 k ((l.drop at_).take k)) := by
    have h1 := (h.drop (k := at_) (c := c) (by omega) hc).take (k := k) (by omega)
    rwa [eA1] at h1
  clear hs hle eA1 h
  go_enter Try.func52, Try.ntmps52
  go_wp2_with (at_builtin; refine wpList_append_bytes rfl _ _ rfl w.heap.size (.slice none 0 0) 0 [] rfl (Own.nil _ _) B A1 k (c - at_) ((l.drop at_).take k) rfl HS.out (by omega) (Nat.le_refl _) w (Below.refl _ _) ?_; intro A3 c3 w3 ho3 hle3 hc3 hg3 hb3)
  go_ret2
  simp only [Nat.zero_add, List.nil_append] at ho3 hle3
  exact ⟨A3, c3, by simp, ho3, hle3, hc3, hb3⟩
set_option maxHeartbeats 1000000 in
theorem number_any (L : List UInt8) (A : Option Addr) (m c B : Nat) (w : World) (h : Sl w B A m L) (hm : m ≤ 7) :
    Calls Try.prog 41 #[.slice A m c] w fun e w' => e = .returned (.int .u64 (beN 0 L : Nat)) ∧ w = w' := by
  have Hm := Lib.hid h.1
  have HS := Lib.hid h
  clear h
  go_enter Try.func41, Try.ntmps41
  go_wp2_with fail
  go_loop [3, 4] (fun nn i => ∃ j N : Nat, j ≤ m ∧ i = .int .i64 j ∧ nn = .int .u64 (N : Int) ∧ Hid (beN 0 (L.take j) = N)) (fun _ i => m - (intOf i).toNat)
  case atStart => exact ⟨0, 0, by omega, rfl, rfl, rfl⟩
  case round =>
    obtain ⟨j, N, hj, rfl, rfl, HNN⟩ := hrel
    by_cases hlt : j < m
    · obtain ⟨b, off, rfl, hb, hcell⟩ := HS.out.2 (by omega)
      obtain ⟨X, hX, hN, hor, hcj, HN'⟩ := whole_step (by rw [Hm.out]; exact hlt) (by rw [Hm.out]; exact hm) hcell HNN.out
      clear hcell
      go_wp2
      go_round
      case rel => exact ⟨j + 1, N * 256 + X, by omega, by go_num, by go_num, HN'⟩
      case measure => simp [intOf]; omega
    · go_wp2
      go_ret
      obtain rfl : j = m := by omega
      refine ⟨?_, rfl⟩
      rw [← HNN.out, List.take_of_length_le (by rw [Hm.out]; omega)]
      rfl
end Go.Proofs.Ytonoljcgcfjkmaa
