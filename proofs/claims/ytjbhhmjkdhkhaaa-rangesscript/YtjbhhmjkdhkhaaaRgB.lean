/-
  (*Set).from, Has, Largest, List.
-/
import Derived.Test.YtjbhhmjkdhkhaaaRgY
namespace Go.Proofs.Ytjbhhmjkdhkhaaa
open Go.RowKit Go.Lib
set_option linter.unusedVariables false

theorem getD_at {l : RL} {i : Nat} (h : i < l.length) : l.getD i (0, 0) = l[i] := by simp [List.getD_eq_getElem?_getD, h]
theorem fall_mono {l : RL} {B : Nat} (h : Fall B l) : ∀ a b, a ≤ b → b < l.length → (l.getD b (0, 0)).1 ≤ (l.getD a (0, 0)).1 := by
  induction l generalizing B with
  | nil => intro a b _ hb; simp at hb
  | cons x r ih =>
    intro a b hab hb
    cases b with
    | zero => obtain rfl : a = 0 := by omega
              exact Nat.le_refl _
    | succ b =>
      have hb' : b < r.length := by simpa using hb
      cases a with
      | zero =>
        have h1 := (h.2.2.at_ (List.getElem_mem hb')).1
        have h2 := (h.2.2.at_ (List.getElem_mem hb')).2
        simp only [List.getD_cons_succ, List.getD_cons_zero, getD_at hb']
        omega
      | succ a => simpa using ih h.2.2 a b (by omega) hb'
/-- i is the place of k: all ahead begin above it, none behind -/
def Place (l : RL) (k i : Nat) : Prop := i ≤ l.length ∧ (∀ t, t < i → k < (l.getD t (0, 0)).1) ∧ (∀ t, i ≤ t → t < l.length → (l.getD t (0, 0)).1 ≤ k)
theorem place_mem {l : RL} {B k i : Nat} (hf : Fall B l) (h : Place l k i) : Mem k l ↔ i < l.length ∧ k ≤ (l.getD i (0, 0)).2 := by
  obtain ⟨h1, h2, h3⟩ := h
  constructor
  · rintro ⟨x, hx, h4, h5⟩
    obtain ⟨t, ht, rfl⟩ := List.getElem_of_mem hx
    have hti : i ≤ t := by
      rcases Nat.lt_or_ge t i with h6 | h6
      · have := h2 t h6
        rw [getD_at ht] at this
        omega
      · exact h6
    refine ⟨by omega, ?_⟩
    rcases Nat.lt_or_ge i t with h6 | h6
    · -- the one at i begins above the end of the one at t
      have h7 : ∀ (l : RL) (B : Nat), Fall B l → ∀ a b, a < b → (hb : b < l.length) → (l.getD b (0, 0)).2 + 1 < (l.getD a (0, 0)).1 := by
        intro l
        induction l with
        | nil => intro _ _ a b _ hb; simp at hb
        | cons y r ih =>
          intro B hf a b hab hb
          cases b with
          | zero => omega
          | succ b =>
            have hb' : b < r.length := by simpa using hb
            cases a with
            | zero =>
              have h2 := (hf.2.2.at_ (List.getElem_mem hb')).2
              simp only [List.getD_cons_succ, List.getD_cons_zero, getD_at hb']
              exact h2
            | succ a => simpa using ih _ hf.2.2 a b (by omega) hb'
      have h8 := h7 l B hf i t h6 ht
      have h9 := h3 i (Nat.le_refl _) (by omega)
      rw [getD_at ht] at h8
      omega
    · obtain rfl : i = t := by omega
      rw [getD_at ht]
      exact h5
  · rintro ⟨h4, h5⟩
    have h6 := h3 i (Nat.le_refl _) h4
    rw [getD_at h4] at h5 h6
    exact ⟨l[i], List.getElem_mem h4, h6, h5⟩

section
variable {P : Program}
theorem enters {f : FuncId} {fn : Func} {c : Code} (hf : P.funcs[f]? = some fn) (hname : (fn.name == "runtime.NumGoroutine") = false) (hb : fn.body = some c) (args : Array Value) (w : World) :
    (callFunc f args).run P w = .ok (.enter f args) w := by
  have h1 : fn.name ≠ "runtime.NumGoroutine" := by simpa using hname
  simp [callFunc, hf, h1, hb]
end
set_option maxHeartbeats 2000000 in
theorem from_any (g : Nat) (A : Option Addr) (n c B k : Nat) (s : RS) (w : World) (h : SetW w B g A n c s) (hf : ∃ T, Fall T s.l) (hk : k < 18446744073709551616) (hn : n ≤ 1000) :
    Calls Try.prog 23 #[.pointer (some ⟨g, 0, none⟩), .int .u64 (k : Int)] w fun e w' => ∃ i : Nat, e = .returned (.int .i64 (i : Int)) ∧ Place s.l k i ∧ Below w.heap.size w w' := by
  obtain ⟨W0, hW0⟩ : ∃ W0, W0 = (w.alloc (.cells #[.pointer (some ⟨g, 0, none⟩)] 25)).alloc (.cells #[.int .u64 (k : Int)] 27) := ⟨_, rfl⟩
  have hsize : W0.heap.size = w.heap.size + 1 + 1 := by rw [hW0]; simp
  have hB0 : Below w.heap.size w W0 := by rw [hW0]; exact ((Below.refl _ w).alloc (Nat.le_refl _) _).alloc (by simp) _
  have c1 : W0.cell? ⟨w.heap.size, 0, none⟩ = some (.pointer (some ⟨g, 0, none⟩)) := by rw [hW0]; simp
  have c2 : W0.cell? ⟨w.heap.size + 1, 0, none⟩ = some (.int .u64 (k : Int)) := by
    rw [hW0]
    have := World.cell?_of_block (a := ⟨w.heap.size + 1, 0, none⟩) (w := W0) (w' := W0) rfl
    simp
  have hS0 : SetW W0 B g A n c s := h.below hB0
  have hl := h.o.len
  have hS := search_any 29 #[.pointer (some ⟨w.heap.size, 0, none⟩), .pointer (some ⟨w.heap.size + 1, 0, none⟩)] n (fun i => decide ((s.l.getD i (0, 0)).1 ≤ k)) W0 (enters Try.func29 (by kernel_rfl) rfl) (by omega)
    (fun m i hi => by
      have h1 := from_fn g A n c w.heap.size (w.heap.size + 1) B k i s (W0.drewN m) (hS0.drewN m) (by omega) hk c1 c2
      rwa [← getD_at (by omega : i < s.l.length)] at h1)
    (fun a b hab hb ha => by
      obtain ⟨T, hf⟩ := hf
      have := fall_mono hf a b hab (by omega)
      have := of_decide_eq_true ha
      exact decide_eq_true (by omega))
  obtain ⟨h0, h1, h2⟩ := h.cells
  have h3 : ((w.alloc (.cells #[.pointer (some ⟨g, 0, none⟩)] 25)).alloc (.cells #[.int .u64 (k : Int)] 27)).cell? ⟨g, 2, none⟩ = some (.slice A n c) := cell?_alloc_some _ (cell?_alloc_some _ h2)
  clear h hS0 hf c1 c2 h0 h1 h2
  have e25 : ∀ args w, (callFunc 25 args).run Try.prog w = .ok (.enter 25 args) w := enters Try.func25 (by kernel_rfl) rfl
  go_enter Try.func23, Try.ntmps23
  go_wp2_with (go_at_fn 25; rw [← hW0]; refine hS.mono ?_; rintro e w' ⟨i, rfl, hi, ha, hb, q, rfl⟩)
  go_ret
  refine ⟨i, rfl, ⟨by omega, fun t ht => ?_, fun t h1 h2 => ?_⟩, ?_⟩
  · have := ha t ht; simpa using this
  · have := hb t h1 (by omega); simpa using this
  · rw [hW0] at hB0
    exact ⟨hB0.os, hB0.tape, hB0.output, hB0.size, hB0.block⟩
set_option maxHeartbeats 2000000 in
theorem has_any (g : Nat) (A : Option Addr) (n c B k : Nat) (s : RS) (w : World) (h : SetW w B g A n c s) (hf : ∃ T, Fall T s.l) (hfl : s.fl < 18446744073709551616) (hk : k < 18446744073709551616) (hn : n ≤ 1000) (b : Bool) (hb : decide (s.mem k) = b) :
    Calls Try.prog 12 #[.pointer (some ⟨g, 0, none⟩), .int .u64 (k : Int)] w fun e w' => e = .returned (.bool b) ∧ Below w.heap.size w w' := by
  obtain ⟨h0, h1, h2⟩ := h.cells
  have HF := Lib.hid (from_any g A n c B k s w h hf hk hn)
  have H := Lib.hid h
  obtain ⟨T, hfT⟩ := hf
  have HT := Lib.hid hfT
  clear h hfT
  by_cases hlt : k < s.fl
  · have hlt' : (k : Int) < (s.fl : Int) := by omega
    obtain rfl : b = true := by rw [← hb]; exact decide_eq_true (.inl hlt)
    clear hb
    go_enter Try.func12, Try.ntmps12
    go_wp2
    go_ret
    exact ⟨rfl, Below.refl _ _⟩
  · have hlt' : ¬ (k : Int) < (s.fl : Int) := by omega
    go_enter Try.func12, Try.ntmps12
    go_wp2_with fail
    (with_reducible refine HF.out.mono ?_)
    rintro e1 w1 ⟨i, rfl, hi, hb1⟩
    obtain ⟨h0, h1, h2⟩ := (H.out.below hb1).cells
    have hl := H.out.o.len
    have hm := place_mem HT.out hi
    by_cases hin : i < n
    · have hin' : (i : Int) < (n : Int) := by omega
      obtain ⟨gl, off, rfl, hbl, hcell⟩ := (H.out.below hb1).o.sl.2 (by omega)
      have c3 := (hcell i (by omega)).2
      rw [← getD_at (by omega : i < s.l.length)] at c3
      generalize (s.l.getD i (0, 0)).2 = x at c3 hm
      have hb2 : decide (k ≤ x) = b := by
        rw [← hb]
        refine decide_eq_decide.2 ⟨fun hh => .inr (hm.2 ⟨by omega, by omega⟩), fun hh => ?_⟩
        rcases hh with hh | hh
        · omega
        · have := (hm.1 hh).2; omega
      have B1 := Lib.hid hb1
      clear hm hb hi hcell hb1
      go_wp2
      go_ret
      exact ⟨rfl, B1.out⟩
    · have hin' : ¬ (i : Int) < (n : Int) := by omega
      obtain rfl : b = false := by
        rw [← hb]
        refine decide_eq_false fun hh => ?_
        rcases hh with hh | hh
        · omega
        · have := (hm.1 hh).1; omega
      have B1 := Lib.hid hb1
      clear hm hb hi hb1
      go_wp2
      go_ret
      exact ⟨rfl, B1.out⟩
theorem largest_any (g : Nat) (A : Option Addr) (n c B : Nat) (s : RS) (w : World) (h : SetW w B g A n c s) :
    Calls Try.prog 10 #[.pointer (some ⟨g, 0, none⟩)] w fun e w' => e = .returned (.tuple #[.int .u64 (((s.l.getD 0 (0, 0)).2 : Nat) : Int), .bool (decide (0 < n))]) ∧ w = w' := by
  obtain ⟨h0, h1, h2⟩ := h.cells
  have hl := h.o.len
  by_cases hn : n = 0
  · subst hn
    obtain e : s.l = [] := List.eq_nil_of_length_eq_zero hl
    rw [e]
    clear h
    go_enter Try.func10, Try.ntmps10
    go_wp2
    go_ret2
    exact ⟨rfl, rfl⟩
  · obtain ⟨gl, off, rfl, hbl, hcell⟩ := h.o.sl.2 (by omega)
    have c3 := (hcell 0 (by omega)).2
    rw [← getD_at (by omega : 0 < s.l.length)] at c3
    simp only [Nat.zero_mul, Nat.add_zero] at c3
    generalize (s.l.getD 0 (0, 0)).2 = x at c3 ⊢
    have hn1 : ¬ ((n : Int) = 0) := by omega
    have hn2 : (0 : Int) < (n : Int) := by omega
    have hn3 : decide (0 < n) = true := decide_eq_true (by omega)
    rw [hn3]
    clear h hcell hl hn3
    go_enter Try.func10, Try.ntmps10
    go_wp2
    go_ret2
    exact ⟨rfl, rfl⟩
theorem largest_nil (w : World) : Calls Try.prog 10 #[.pointer none] w fun e w' => e = .returned (.tuple #[.int .u64 0, .bool false]) ∧ w = w' := by
  go_enter Try.func10, Try.ntmps10
  go_wp2
  go_ret2
  exact ⟨rfl, rfl⟩
theorem has_nil (k : Nat) (w : World) : Calls Try.prog 12 #[.pointer none, .int .u64 (k : Int)] w fun e w' => e = .returned (.bool false) ∧ w = w' := by
  go_enter Try.func12, Try.ntmps12
  go_wp2
  go_ret
  exact ⟨rfl, rfl⟩
theorem list_nil (w : World) : Calls Try.prog 13 #[.pointer none] w fun e w' => e = .returned (.slice none 0 0) ∧ w = w' := by
  go_enter Try.func13, Try.ntmps13
  go_wp2
  go_ret
  exact ⟨rfl, rfl⟩
end Go.Proofs.Ytjbhhmjkdhkhaaa
