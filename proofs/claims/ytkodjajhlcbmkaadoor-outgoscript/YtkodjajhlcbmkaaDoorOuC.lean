/-
  Package outgo: newMarks, first, gap; slices.Clone of bytes; what an Out holds; New.
-/
import Derived.Test.YtkodjajhlcbmkaaDoorOuB
import Derived.Test.YtkodjajhlcbmkaaDoorOuQ
import Derived.Test.YtkodjajhlcbmkaaDoorRwW
import Derived.Test.YtkodjajhlcbmkaaDoorMakeF
namespace Go.Proofs.YtkodjajhlcbmkaaDoor
open Go.RowKit Go.Lib
set_option linter.unusedVariables false

theorem u64_info : (Tryd.prog.info? 41).map (fun i => (i.zero, i.size, i.bytes)) = some (some (.int .u64 0), 1, 8) := by kernel_rfl
/-- 'make(marks, k)' -/
theorem run_make_marks (k : Nat) (hk : k ≤ 1000000) (u : World) : (Instr.makeSlice 50 (.int .i64 (k : Int)) (.int .i64 (k : Int))).run Tryd.prog u =
      .ok (.slice (some ⟨u.heap.size, 0, none⟩) k k) (u.alloc (.cells (madeCells #[.int .u64 0] k) 41)) := by
  obtain ⟨i, hi, hz0, hz1, hz2⟩ := info_parts u64_info
  have h := run_make (P := Tryd.prog) u 50 41 i (.int .u64 0) Tryd.underlying50 hi hz0 .i64 .i64 (k : Int) (k : Int) (by omega) (Int.le_refl _) (by rw [hz2]; omega) (by omega)
  simpa [hz1, Value.cells] using h
theorem made_words (k : Nat) : madeCells #[.int .u64 0] k = (qvs (List.replicate k 0)).toArray := by
  apply Array.ext'
  rw [toList_madeCells_one]
  simp [qvs, qv, qn]
theorem newMarks_any (n : Nat) (hn : n ≤ 1000000) (w : World) :
    Calls Tryd.prog 27 #[.int .i64 (n : Int)] w fun e w' => e = .returned (.slice (some ⟨w.heap.size, 0, none⟩) ((n + 63) / 64) ((n + 63) / 64)) ∧ MkW w' w.heap.size ((n + 63) / 64) (fun _ => false) ∧ Below w.heap.size w w' := by
  obtain ⟨k, hk⟩ : ∃ k, (n + 63) / 64 = k := ⟨_, rfl⟩
  have hd : ((n : Int) + 63) / 64 = (k : Int) := by omega
  have hd2 : Int.tdiv ((n : Int) + 63) 64 = (k : Int) := by
    rw [← hd]; rfl
  have hd3 : ((n : Int) + 64 - 1) / 64 = (k : Int) := by omega
  have hd4 : Int.tdiv ((n : Int) + 64 - 1) 64 = (k : Int) := by
    rw [← hd3]; exact Int.tdiv_eq_ediv_of_nonneg (by omega)
  have hmk := run_make_marks k (by omega)
  rw [hk]
  have HK := Lib.hid hk
  clear hk
  go_enter Tryd.func27, Tryd.ntmps27
  go_wp2_with fail
  go_ret
  refine ⟨rfl, ⟨List.replicate k 0, ?_, Mk.zeros k⟩, (Below.refl _ _).alloc (Nat.le_refl _) _⟩
  rw [made_words]
  exact heap_alloc_new w _
theorem first_any {w : World} {g k lo hi r : Nat} {p : Nat → Bool} (h : MkW w g k p) (hhi : hi ≤ 64 * k) (hh : hi < 4611686018427387904) (hlh : lo ≤ hi) (hG : Glob w) (hF : FirstW p false lo hi r) :
    Calls Tryd.prog 36 #[.slice (some ⟨g, 0, none⟩) k k, .int .i64 (lo : Int), .int .i64 (hi : Int)] w (Quiet (.int .i64 (r : Int)) w) := by
  have P1 : Calls Tryd.prog 40 #[.slice (some ⟨g, 0, none⟩) k k, .int .i64 (lo : Int), .int .i64 (hi : Int), .int .u64 0] w (Quiet (.int .i64 (r : Int)) w) := find_any h hhi hh hlh hG 0 false (fun j _ => bit_zero j) hF
  have P := Lib.hid P1
  clear P1 h hhi hh hlh hG hF
  go_enter Tryd.func36, Tryd.ntmps36
  go_wp2_with fail
  (with_reducible refine P.out.mono ?_)
  rintro e w' ⟨rfl, q, rfl⟩
  go_wp2_with fail
  go_ret
  exact ⟨rfl, q, rfl⟩
theorem gap_any {w : World} {g k lo hi r : Nat} {p : Nat → Bool} (h : MkW w g k p) (hhi : hi ≤ 64 * k) (hh : hi < 4611686018427387904) (hlh : lo ≤ hi) (hG : Glob w) (hF : FirstW p true lo hi r) :
    Calls Tryd.prog 37 #[.slice (some ⟨g, 0, none⟩) k k, .int .i64 (lo : Int), .int .i64 (hi : Int)] w (Quiet (.int .i64 (r : Int)) w) := by
  have P1 : Calls Tryd.prog 40 #[.slice (some ⟨g, 0, none⟩) k k, .int .i64 (lo : Int), .int .i64 (hi : Int), .int .u64 18446744073709551615] w (Quiet (.int .i64 (r : Int)) w) := find_any h hhi hh hlh hG 18446744073709551615 true (fun j hj => bit_all hj) hF
  have P := Lib.hid P1
  clear P1 h hhi hh hlh hG hF
  go_enter Tryd.func37, Tryd.ntmps37
  go_wp2_with fail
  (with_reducible refine P.out.mono ?_)
  rintro e w' ⟨rfl, q, rfl⟩
  go_wp2_with fail
  go_ret
  exact ⟨rfl, q, rfl⟩
theorem own_empty (w : World) (B : Nat) (hB : B ≤ w.heap.size) : Own (w.alloc (.cells #[] 5)) B (.slice (some ⟨w.heap.size, 0, none⟩) 0 0) 0 [] :=
  ⟨rfl, .inr ⟨w.heap.size, 0, _, rfl, hB, heap_alloc_new w _, Nat.le_refl _, by simp [maxLen], rfl, rfl⟩⟩
/-- slices.Clone, of bytes -/
theorem clone_any (A : Option Addr) (n c B : Nat) (l : List UInt8) (w : World) (h : Sl w B A n l) (hB : B ≤ w.heap.size) (hn : n ≤ 1000000) :
    Calls Tryd.prog 26 #[.slice A n c] w (MakesBytes w n l) := by
  have hl := h.1
  cases A with
  | none =>
    obtain rfl : n = 0 := by
      rcases Nat.eq_zero_or_pos n with h0 | h0
      · exact h0
      · obtain ⟨b, off, e, _⟩ := h.2 h0
        cases e
    obtain rfl : l = [] := List.eq_nil_of_length_eq_zero hl
    have hq : ∀ w : World, (binOp .eql 22 (.slice none 0 c) (.slice none 0 0)).run Tryd.prog w = .ok (.bool true) w := fun w => by
      have := run_eql_slice_nil (P := Tryd.prog) w 22 5 none 0 c 0 0 Tryd.underlying22
      simpa using this
    clear h hB hn
    go_enter Tryd.func26, Tryd.ntmps26
    go_wp2
    go_ret
    exact ⟨none, 0, rfl, Own.nil _ _, Nat.le_refl _, by simp [maxLen], Below.refl _ _⟩
  | some a =>
    have H := Lib.hid (h.below ((Below.refl B w).alloc hB (.cells #[] 5)))
    have hq : ∀ w : World, (binOp .eql 22 (.slice (some a) n c) (.slice none 0 0)).run Tryd.prog w = .ok (.bool false) w := fun w => by
      have := run_eql_slice_nil (P := Tryd.prog) w 22 5 (some a) n c 0 0 Tryd.underlying22
      simpa using this
    clear h hl
    go_enter Tryd.func26, Tryd.ntmps26
    go_wp2_with (at_builtin; refine wpList_append_bytes rfl _ _ rfl w.heap.size (.slice (some ⟨w.heap.size, 0, none⟩) 0 0) 0 [] rfl (own_empty w _ (Nat.le_refl _)) B (some a) n c l rfl H.out (by omega) (by simp) w ((Below.refl _ _).alloc (Nat.le_refl _) _) ?_; intro A1 c1 w1 ho hle hc hg hb)
    go_ret
    simp only [Nat.zero_add, List.nil_append] at *
    exact ⟨A1, c1, rfl, ho, hle, hc, hb⟩
end Go.Proofs.YtkodjajhlcbmkaaDoor
