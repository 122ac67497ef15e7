/-
  (*Set).put. (The ways are written out by a small program.)
-/
import Derived.Test.YtjbhhmjkdhkhaaaRgG
namespace Go.Proofs.Ytjbhhmjkdhkhaaa
open Go.RowKit Go.Lib
set_option linter.unusedVariables false

theorem insert_any (A : Option Addr) (n c B gv i : Nat) (x : Nat × Nat) (l : RL) (w : World) (h : OwnR w B (.slice A n c) n l) (hv : One w gv x) (hne : ∀ a, A = some a → a.block ≠ gv) (hi : i ≤ n) (hB : B ≤ w.heap.size) (hn : n ≤ 1000) :
    Calls Try.prog 28 #[.slice A n c, .int .i64 (i : Int), .slice (some ⟨gv, 0, none⟩) 1 1] w fun e w' => ∃ A' c', e = .returned (.slice A' (n + 1) c') ∧ OwnR w' B (.slice A' (n + 1) c') (n + 1) (l.take i ++ x :: l.drop i) ∧ ∀ g, Moves g A A' w w' := by
  by_cases hin : i = n
  · subst hin
    have := insert_end A i c B gv x l w h hv hB hn
    have hl := h.len
    rwa [show l.take i ++ x :: l.drop i = l ++ [x] by rw [List.take_of_length_le (by omega), List.drop_of_length_le (by omega)]]
  · cases A with
    | none => exact absurd (h.sl.2 (by omega)) (fun ⟨_, _, e, _⟩ => by cases e)
    | some a =>
      obtain ⟨gl, rfl⟩ : ∃ gl, a = ⟨gl, 0, none⟩ := ⟨_, h.spot a rfl⟩
      by_cases hr : n + 1 ≤ c
      · refine (insert_room gl n c B gv i x l w h hv (hne _ rfl).symm (by omega) hr hn).mono ?_
        rintro e w' ⟨rfl, ho, hm⟩
        exact ⟨_, _, rfl, ho, fun g => Moves.onlyA hm⟩
      · refine (insert_grow gl n c B gv i x l w h hv (by omega) (by omega) hn hB).mono ?_
        rintro e w' ⟨c', rfl, ho, hm⟩
        exact ⟨_, _, rfl, ho, fun g => ⟨hm.os, hm.tape, hm.output, hm.size, fun k hk _ _ => hm.block k hk, fun a ha => by
          injection ha with ha
          subst ha
          exact .inr (Nat.le_refl _)⟩⟩
theorem delete_at (gl n c B i : Nat) (l : RL) (w : World) (h : OwnR w B (.slice (some ⟨gl, 0, none⟩) n c) n l) (hi : i < n) (hn : n ≤ 1000) :
    Calls Try.prog 27 #[.slice (some ⟨gl, 0, none⟩) n c, .int .i64 (i : Int), .int .i64 ((i : Int) + 1)] w fun e w' => e = .returned (.slice (some ⟨gl, 0, none⟩) (n - 1) c) ∧ OwnR w' B (.slice (some ⟨gl, 0, none⟩) (n - 1) c) (n - 1) (l.eraseIdx i) ∧ Only gl w w' :=
  delete_any gl n c B i (i + 1) l w h rfl hi hn
theorem fall_gap : ∀ {l : RL} {B : Nat}, Fall B l → ∀ a b, a < b → b < l.length → (l.getD b (0, 0)).2 + 1 < (l.getD a (0, 0)).1
  | [], _, _, a, b, _, hb => by simp at hb
  | y :: r, B, hf, a, b, hab, hb => by
    cases b with
    | zero => omega
    | succ b =>
      have hb' : b < r.length := by simpa using hb
      cases a with
      | zero =>
        have h2 := (hf.2.2.at_ (List.getElem_mem hb')).2
        simp only [List.getD_cons_succ, List.getD_cons_zero, getD_at hb']
        exact h2
      | succ a => simpa using fall_gap hf.2.2 a b (by omega) hb'
theorem place_unique {l : RL} {k i i' : Nat} (h : Place l k i) (h' : Place l k i') : i = i' := by
  rcases Nat.lt_trichotomy i i' with hlt | rfl | hlt
  · have h1 := h'.2.1 i hlt
    have h2 := h.2.2 i (Nat.le_refl _) (by have := h'.1; omega)
    omega
  · rfl
  · have h1 := h.2.1 i' hlt
    have h2 := h'.2.2 i' (Nat.le_refl _) (by have := h.1; omega)
    omega
theorem place_ex (k : Nat) : ∀ {l : RL} {B : Nat}, Fall B l → ∃ i, Place l k i
  | [], _, _ => ⟨0, Nat.le_refl _, fun t ht => absurd ht (Nat.not_lt_zero _), fun t _ ht => by simp at ht⟩
  | x :: r, B, hf => by
    by_cases hx : k < x.1
    · obtain ⟨i, h1, h2, h3⟩ := place_ex k hf.2.2
      refine ⟨i + 1, by simpa using h1, fun t ht => ?_, fun t ht htl => ?_⟩
      · cases t with
        | zero => simpa using hx
        | succ t => simpa using h2 t (by omega)
      · cases t with
        | zero => omega
        | succ t => simpa using h3 t (by omega) (by simpa using htl)
    · refine ⟨0, Nat.zero_le _, fun t ht => absurd ht (Nat.not_lt_zero _), fun t _ htl => ?_⟩
      have := fall_mono hf 0 t (Nat.zero_le _) htl
      simp only [List.getD_cons_zero] at this
      omega
/-- where what is left begins at k or below it -/
theorem put_head {k : Nat} {y : Nat × Nat} {r : RL} (h : y.1 ≤ k) : putR k (y :: r) = if y.2 + 1 = k then (y.1, k) :: r else (k, k) :: y :: r := by
  rw [putR.eq_def]
  simp only
  rw [if_neg (by omega)]
section
variable {l : RL} {T k i j : Nat}
theorem cut_at (h : i < l.length) : l = l.take i ++ l.getD i (0, 0) :: l.drop (i + 1) := by rw [getD_at h]; simp
theorem place_ahead (hf : Fall T l) (hp : Place l k (j + 1)) : ∀ x ∈ l.take j, k + 1 < x.1 := by
  intro x hx
  obtain ⟨t, ht, rfl⟩ := List.getElem_of_mem hx
  rw [List.length_take] at ht
  have h1 := hp.1
  have h2 := fall_gap hf t j (by omega) (by omega)
  have h3 := hp.2.1 j (by omega)
  have h4 := (hf.at_ (List.getElem_mem (show j < l.length by omega))).1
  rw [← getD_at (by omega : j < l.length)] at h4
  rw [List.getElem_take, ← getD_at (by omega : t < l.length)]
  omega
theorem put_at (hf : Fall T l) (hp : Place l k (j + 1)) : putR k l = l.take j ++ putR k (l.getD j (0, 0) :: l.drop (j + 1)) := by
  have h1 := cut_at (l := l) (i := j) (by have := hp.1; omega)
  have h2 := put_skip k (l.getD j (0, 0) :: l.drop (j + 1)) (l.take j) (place_ahead hf hp)
  rw [← h1] at h2
  exact h2
theorem place_lo (hp : Place l k (j + 1)) : k < (l.getD j (0, 0)).1 := hp.2.1 j (by omega)
theorem put_both (hf : Fall T l) (hp : Place l k i) (hj : i = j + 1) (hi : i < l.length) (ha : (l.getD j (0, 0)).1 = k + 1) (hb : (l.getD i (0, 0)).2 + 1 = k) :
    putR k l = (l.set j ((l.getD i (0, 0)).1, (l.getD j (0, 0)).2)).eraseIdx i := by
  subst hj
  have h1 := place_lo hp
  have h2 := cut_at (l := l) (i := j) (by omega)
  have h3 := cut_at (l := l.drop (j + 1)) (i := 0) (by rw [List.length_drop]; omega)
  have h4 : (l.drop (j + 1)).getD 0 (0, 0) = l.getD (j + 1) (0, 0) := by rw [getD_at hi, getD_at (by rw [List.length_drop]; omega)]; simp
  rw [h4] at h3
  simp only [List.take_zero, List.nil_append, List.drop_drop] at h3
  rw [put_at hf hp, putR.eq_def]
  simp only
  rw [if_pos h1, if_pos ha.symm]
  have hl : (l.take j).length = j := by rw [List.length_take]; omega
  generalize l.getD j (0, 0) = x at *
  generalize l.getD (j + 1) (0, 0) = y at *
  rw [h3]
  simp only
  rw [if_pos hb, List.eraseIdx_eq_take_drop_succ]
  have e : l.set j (y.1, x.2) = l.take j ++ (y.1, x.2) :: l.drop (j + 1) := by
    rw [List.set_eq_take_append_cons_drop, if_pos (by omega)]
  rw [e]
  have e2 : (l.take j ++ (y.1, x.2) :: l.drop (j + 1)).take (j + 1) = l.take j ++ [(y.1, x.2)] := by
    rw [List.take_append, hl, List.take_of_length_le (l := l.take j) (by omega)]
    simp
  have e3 : (l.take j ++ (y.1, x.2) :: l.drop (j + 1)).drop (j + 1 + 1) = l.drop (j + 1 + 1) := by
    rw [List.drop_append, hl, List.drop_of_length_le (l := l.take j) (by omega), show j + 1 + 1 - j = 2 by omega]
    simp [List.drop_drop]
  rw [e2, e3, List.append_assoc]
  congr 3
theorem put_above (hf : Fall T l) (hp : Place l k i) (hj : i = j + 1) (ha : (l.getD j (0, 0)).1 = k + 1) (hb : ¬ (i < l.length ∧ (l.getD i (0, 0)).2 + 1 = k)) :
    putR k l = l.set j (k, (l.getD j (0, 0)).2) := by
  subst hj
  have h1 := place_lo hp
  have h0 := hp.1
  have h2 := cut_at (l := l) (i := j) (by omega)
  rw [put_at hf hp, putR.eq_def]
  simp only
  rw [if_pos h1, if_pos ha.symm]
  have hl : (l.take j).length = j := by rw [List.length_take]; omega
  have e : l.set j (k, (l.getD j (0, 0)).2) = l.take j ++ (k, (l.getD j (0, 0)).2) :: l.drop (j + 1) := by
    have : ∀ v, l.set j v = l.take j ++ v :: l.drop (j + 1) := fun v => by
      rw [List.set_eq_take_append_cons_drop, if_pos (by omega)]
    exact this _
  rw [e]
  congr 1
  cases hd : l.drop (j + 1) with
  | nil => rfl
  | cons y t =>
    simp only
    have hi : j + 1 < l.length := by
      rcases Nat.lt_or_ge (j + 1) l.length with h | h
      · exact h
      · rw [List.drop_of_length_le h] at hd; cases hd
    have hy : y = l.getD (j + 1) (0, 0) := by
      rw [List.drop_eq_getElem_cons hi] at hd
      injection hd with e1 _
      rw [getD_at hi, e1]
    rw [if_neg fun h => hb ⟨hi, by rw [← hy]; exact h⟩]
theorem put_rest (hf : Fall T l) (hp : Place l k i) (ha : ¬ (∃ j, i = j + 1 ∧ (l.getD j (0, 0)).1 = k + 1)) : putR k l = l.take i ++ putR k (l.drop i) := by
  cases i with
  | zero => simp
  | succ j =>
    have h1 := place_lo hp
    have h0 := hp.1
    rw [put_at hf hp, putR.eq_def]
    simp only
    rw [if_pos h1, if_neg fun h => ha ⟨j, rfl, h.symm⟩, List.take_succ_eq_append_getElem (by omega), ← getD_at (by omega : j < l.length)]
    simp
theorem place_next (hp : Place l k i) (hi : i < l.length) : (l.getD i (0, 0)).1 ≤ k := hp.2.2 i (Nat.le_refl _) hi
theorem put_below (hf : Fall T l) (hp : Place l k i) (hi : i < l.length) (ha : ¬ (∃ j, i = j + 1 ∧ (l.getD j (0, 0)).1 = k + 1)) (hb : (l.getD i (0, 0)).2 + 1 = k) : putR k l = l.set i ((l.getD i (0, 0)).1, k) := by
  have h1 := place_next hp hi
  rw [put_rest hf hp ha, List.drop_eq_getElem_cons hi, List.set_eq_take_append_cons_drop, if_pos hi]
  rw [getD_at hi] at hb h1 ⊢
  rw [put_head h1, if_pos hb]
theorem put_none (hf : Fall T l) (hp : Place l k i) (ha : ¬ (∃ j, i = j + 1 ∧ (l.getD j (0, 0)).1 = k + 1)) (hb : ¬ (i < l.length ∧ (l.getD i (0, 0)).2 + 1 = k)) : putR k l = l.take i ++ (k, k) :: l.drop i := by
  rw [put_rest hf hp ha]
  by_cases hi : i < l.length
  · have h1 := place_next hp hi
    have h2 : ¬ (l.getD i (0, 0)).2 + 1 = k := fun h => hb ⟨hi, h⟩
    rw [getD_at hi] at h1 h2
    rw [List.drop_eq_getElem_cons hi, put_head h1, if_neg h2]
  · rw [List.drop_of_length_le (by omega)]
    rfl
end
theorem bound_next {l : RL} {T k i y : Nat} (hf : Fall T l) (hp : Place l k i) (hi : i < l.length) (hy : (l.getD i (0, 0)).2 = y) (hnm : ¬ Mem k l) (hk : k < 4611686018427387904) : y < 4611686018427387904 := by
  have h : ¬ k ≤ (l.getD i (0, 0)).2 := fun h => hnm ((place_mem hf hp).2 ⟨hi, h⟩)
  rw [hy] at h
  omega
/-- what put leaves -/
def Puts (w : World) (B g : Nat) (A : Option Addr) (s : RS) (k : Nat) (e : Ending) (w' : World) : Prop :=
  e = .returned (.tuple #[]) ∧ ∃ A' n' c', SetW w' B g A' n' c' { s with l := putR k s.l } ∧ Moves g A A' w w'
theorem from_at (g : Nat) (A : Option Addr) (n c B k i : Nat) (s : RS) (w : World) (h : SetW w B g A n c s) (hf : ∃ T, Fall T s.l) (hk : k < 18446744073709551616) (hn : n ≤ 1000) (hp : Place s.l k i) :
    Calls Try.prog 23 #[.pointer (some ⟨g, 0, none⟩), .int .u64 (k : Int)] w fun e w' => e = .returned (.int .i64 (i : Int)) ∧ Below w.heap.size w w' :=
  (from_any g A n c B k s w h hf hk hn).mono fun e w' ⟨i', he, hp', hb⟩ => ⟨by rw [he, place_unique hp hp'], hb⟩
set_option maxHeartbeats 4000000 in
theorem put_ze (g : Nat) (A : Option Addr) (n c B k i : Nat) (s : RS) (w : World) (h : SetW w B g A n c s) {T : Nat} (hf : Fall T s.l) (hk : k ≤ topV) (hnm : ¬ Mem k s.l) (hn : n ≤ 100) (hBw : B ≤ w.heap.size) (hp : Place s.l k i) (hj : i = 0) (hi : i = n) :
    Calls Try.prog 21 #[.pointer (some ⟨g, 0, none⟩), .int .u64 (k : Int)] w (Puts w B g A s k) := by
  have hl := h.o.len
  have HN : Hid (s.l.length = n) := hl
  have hput := put_none hf hp (fun ⟨j0, e1, e2⟩ => (by omega)) (fun ⟨e1, e2⟩ => (by omega))
  have HPUT := Lib.hid hput
  have HF := Lib.hid (from_at g A n c B k i s w h ⟨T, hf⟩ (by unfold topV at hk; omega) (by omega) hp)
  have H := Lib.hid h
  have hkk : k < 4611686018427387904 := by unfold topV at hk; omega
  have k1 : ¬ (0 : Int) < (i : Int) := by omega
  have HIN0 : i ≤ n := by omega
  have k5 : ¬ (i : Int) < (n : Int) := by omega
  have HI := Lib.hid hi
  clear hi
  have HIN : Hid (i ≤ n) := show i ≤ n by omega
  clear h hf hp hput hl  hk hj
  go_enter Try.func21, Try.ntmps21
  go_wp2_with fail
  (with_reducible refine HF.out.mono ?_)
  rintro e1 w1 ⟨rfl, hb1⟩
  have S1 := Lib.hid (H.out.below hb1)
  have B1 := Lib.hid hb1
  clear hb1
  have c2 : w1.cell? ⟨g, 2, none⟩ = some (.slice A n c) := S1.out.cells.2.2
  have B2 : Hid (Below w1.heap.size w1 (w1.alloc (.cells #[.int .u64 (k : Int), .int .u64 (k : Int)] 39))) := (Below.refl _ _).alloc (Nat.le_refl _) _
  have S2 := Lib.hid (S1.out.below B2.out)
  have V2 : Hid (One (w1.alloc (.cells #[.int .u64 (k : Int), .int .u64 (k : Int)] 39)) w1.heap.size (k, k)) := heap_alloc_new w1 _
  have Z2 : Hid (B ≤ (w1.alloc (.cells #[.int .u64 (k : Int), .int .u64 (k : Int)] 39)).heap.size) := by have := B1.out.size; have := B2.out.size; exact Nat.le_trans (Nat.le_trans hBw ‹_›) ‹_›
  go_wp2_with fail
  (with_reducible refine (insert_any A n c B w1.heap.size i (k, k) s.l _ S2.out.o V2.out (fun a ha => by have := (S1.out.o.blk a ha).2; omega) HIN.out Z2.out (by omega)).mono ?_)
  rintro e3 w3 ⟨A', c', rfl, o3, m3⟩
  have R3 : Hid (Rw w3 g 49 [.int .i64 (s.most : Int), .int .u64 (s.fl : Int), .slice A n c]) := ((m3 (w1.heap.size)).block g S2.out.lt (by have := S1.out.lt; omega) (fun a ha => (S1.out.ne a ha).symm)).trans S2.out.r
  have O3 := Lib.hid o3
  have M3 : Hid (Moves g A A' w w3) := (Moves.of_below B1.out).trans ((Moves.of_below B2.out).trans (m3 g) S1.out.lt) H.out.lt
  have N3 : Hid (∀ a, A' = some a → a.block ≠ g) := fun a ha => by
    rcases (m3 g).at_ a ha with ⟨a0, e0, e1⟩ | h2
    · rw [e1]; exact S1.out.ne a0 e0
    · have := S2.out.lt; omega
  clear o3 m3
  go_wp2_with ((with_reducible refine wpList_put_rw rfl 31 (.tmp 58) (.tmp 56) rfl g 2 (.slice A' (n + 1) c') ?hx ?hy ?hv ?h1 49 _ R3.out size_slR ?hl ?_); (case hx => with_unfolding_all rfl); (case hy => with_unfolding_all rfl); (case hv => rfl); (case h1 => rfl); (case hl => simp); intro w5 R5 O5)
  go_end0
  refine ⟨rfl, A', n + 1, c', ⟨R5.out, ?_, H.out.hB, N3.out⟩, M3.out.trans (Moves.onlyG O5.out) H.out.lt⟩
  simp only
  rw [HPUT.out]
  exact O3.out.onlyA O5.out N3.out
set_option maxHeartbeats 4000000 in
theorem put_zn (g : Nat) (A : Option Addr) (n c B k i y1 y2 : Nat) (s : RS) (w : World) (h : SetW w B g A n c s) {T : Nat} (hf : Fall T s.l) (hk : k ≤ topV) (hnm : ¬ Mem k s.l) (hn : n ≤ 100) (hBw : B ≤ w.heap.size) (hp : Place s.l k i) (hj : i = 0) (hi : i < n) (hy1 : (s.l.getD i (0, 0)).1 = y1) (hy2 : (s.l.getD i (0, 0)).2 = y2) (hb : ¬ y2 + 1 = k) :
    Calls Try.prog 21 #[.pointer (some ⟨g, 0, none⟩), .int .u64 (k : Int)] w (Puts w B g A s k) := by
  have hl := h.o.len
  have HN : Hid (s.l.length = n) := hl
  have hput := put_none hf hp (fun ⟨j0, e1, e2⟩ => (by omega)) (fun ⟨e1, e2⟩ => hb (by rw [← hy2]; exact e2))
  have HPUT := Lib.hid hput
  have HF := Lib.hid (from_at g A n c B k i s w h ⟨T, hf⟩ (by unfold topV at hk; omega) (by omega) hp)
  have H := Lib.hid h
  have hkk : k < 4611686018427387904 := by unfold topV at hk; omega
  obtain ⟨a, rfl⟩ : ∃ a, A = some a := by
    cases A with
    | none => exact absurd (h.o.sl.2 (by omega)) (fun ⟨_, _, e, _⟩ => by cases e)
    | some a => exact ⟨a, rfl⟩
  obtain ⟨gl, rfl⟩ : ∃ gl, a = ⟨gl, 0, none⟩ := ⟨_, h.o.spot a rfl⟩
  have k1 : ¬ (0 : Int) < (i : Int) := by omega
  have k5 : (i : Int) < (n : Int) := by omega
  have k6 : ¬ (y2 : Int) + 1 = (k : Int) := by omega
  have k7 : y2 < 4611686018427387904 := by
    have h1 := place_ex k hf
    have h2 := hf
    exact bound_next hf hp (by omega) hy2 hnm hkk
  have HY1 := Lib.hid hy1
  have HY2 := Lib.hid hy2
  have HIN : Hid (i ≤ n) := show i ≤ n by omega
  clear h hf hp hput hl hy1 hy2 hb hk hj
  go_enter Try.func21, Try.ntmps21
  go_wp2_with fail
  (with_reducible refine HF.out.mono ?_)
  rintro e1 w1 ⟨rfl, hb1⟩
  have S1 := Lib.hid (H.out.below hb1)
  have B1 := Lib.hid hb1
  clear hb1
  have c2 : w1.cell? ⟨g, 2, none⟩ = some (.slice (some ⟨gl, 0, none⟩) n c) := S1.out.cells.2.2
  obtain ⟨c4, c5⟩ := S1.out.o.cells i hi
  rw [HY1.out] at c4
  rw [HY2.out] at c5
  have B2 : Hid (Below w1.heap.size w1 (w1.alloc (.cells #[.int .u64 (k : Int), .int .u64 (k : Int)] 39))) := (Below.refl _ _).alloc (Nat.le_refl _) _
  have S2 := Lib.hid (S1.out.below B2.out)
  have V2 : Hid (One (w1.alloc (.cells #[.int .u64 (k : Int), .int .u64 (k : Int)] 39)) w1.heap.size (k, k)) := heap_alloc_new w1 _
  have Z2 : Hid (B ≤ (w1.alloc (.cells #[.int .u64 (k : Int), .int .u64 (k : Int)] 39)).heap.size) := by have := B1.out.size; have := B2.out.size; exact Nat.le_trans (Nat.le_trans hBw ‹_›) ‹_›
  go_wp2_with fail
  (with_reducible refine (insert_any (some ⟨gl, 0, none⟩) n c B w1.heap.size i (k, k) s.l _ S2.out.o V2.out (fun a ha => by have := (S1.out.o.blk a ha).2; omega) HIN.out Z2.out (by omega)).mono ?_)
  rintro e3 w3 ⟨A', c', rfl, o3, m3⟩
  have R3 : Hid (Rw w3 g 49 [.int .i64 (s.most : Int), .int .u64 (s.fl : Int), .slice (some ⟨gl, 0, none⟩) n c]) := ((m3 (w1.heap.size)).block g S2.out.lt (by have := S1.out.lt; omega) (fun a ha => (S1.out.ne a ha).symm)).trans S2.out.r
  have O3 := Lib.hid o3
  have M3 : Hid (Moves g (some ⟨gl, 0, none⟩) A' w w3) := (Moves.of_below B1.out).trans ((Moves.of_below B2.out).trans (m3 g) S1.out.lt) H.out.lt
  have N3 : Hid (∀ a, A' = some a → a.block ≠ g) := fun a ha => by
    rcases (m3 g).at_ a ha with ⟨a0, e0, e1⟩ | h2
    · rw [e1]; exact S1.out.ne a0 e0
    · have := S2.out.lt; omega
  clear o3 m3
  go_wp2_with ((with_reducible refine wpList_put_rw rfl 31 (.tmp 58) (.tmp 56) rfl g 2 (.slice A' (n + 1) c') ?hx ?hy ?hv ?h1 49 _ R3.out size_slR ?hl ?_); (case hx => with_unfolding_all rfl); (case hy => with_unfolding_all rfl); (case hv => rfl); (case h1 => rfl); (case hl => simp); intro w5 R5 O5)
  go_end0
  refine ⟨rfl, A', n + 1, c', ⟨R5.out, ?_, H.out.hB, N3.out⟩, M3.out.trans (Moves.onlyG O5.out) H.out.lt⟩
  simp only
  rw [HPUT.out]
  exact O3.out.onlyA O5.out N3.out
set_option maxHeartbeats 4000000 in
theorem put_znb (g : Nat) (A : Option Addr) (n c B k i y1 y2 : Nat) (s : RS) (w : World) (h : SetW w B g A n c s) {T : Nat} (hf : Fall T s.l) (hk : k ≤ topV) (hnm : ¬ Mem k s.l) (hn : n ≤ 100) (hBw : B ≤ w.heap.size) (hp : Place s.l k i) (hj : i = 0) (hi : i < n) (hy1 : (s.l.getD i (0, 0)).1 = y1) (hy2 : (s.l.getD i (0, 0)).2 = y2) (hb : y2 + 1 = k) :
    Calls Try.prog 21 #[.pointer (some ⟨g, 0, none⟩), .int .u64 (k : Int)] w (Puts w B g A s k) := by
  have hl := h.o.len
  have HN : Hid (s.l.length = n) := hl
  have hput := put_below hf hp (by omega) (fun ⟨j0, e1, e2⟩ => (by omega)) (by rw [hy2]; exact hb)
  have HPUT := Lib.hid hput
  have HF := Lib.hid (from_at g A n c B k i s w h ⟨T, hf⟩ (by unfold topV at hk; omega) (by omega) hp)
  have H := Lib.hid h
  have hkk : k < 4611686018427387904 := by unfold topV at hk; omega
  obtain ⟨a, rfl⟩ : ∃ a, A = some a := by
    cases A with
    | none => exact absurd (h.o.sl.2 (by omega)) (fun ⟨_, _, e, _⟩ => by cases e)
    | some a => exact ⟨a, rfl⟩
  obtain ⟨gl, rfl⟩ : ∃ gl, a = ⟨gl, 0, none⟩ := ⟨_, h.o.spot a rfl⟩
  have k1 : ¬ (0 : Int) < (i : Int) := by omega
  have k5 : (i : Int) < (n : Int) := by omega
  have k6 : (y2 : Int) + 1 = (k : Int) := by omega
  have k7 : y2 < 4611686018427387904 := by
    have h1 := place_ex k hf
    have h2 := hf
    omega
  have HY1 := Lib.hid hy1
  have HY2 := Lib.hid hy2
  have HIN : Hid (i ≤ n) := show i ≤ n by omega
  clear h hf hp hput hl hy1 hy2 hb hk hj
  go_enter Try.func21, Try.ntmps21
  go_wp2_with fail
  (with_reducible refine HF.out.mono ?_)
  rintro e1 w1 ⟨rfl, hb1⟩
  have S1 := Lib.hid (H.out.below hb1)
  have B1 := Lib.hid hb1
  clear hb1
  have c2 : w1.cell? ⟨g, 2, none⟩ = some (.slice (some ⟨gl, 0, none⟩) n c) := S1.out.cells.2.2
  obtain ⟨c4, c5⟩ := S1.out.o.cells i hi
  rw [HY1.out] at c4
  rw [HY2.out] at c5
  go_wp2_with ((with_reducible refine wpList_put_own rfl 27 (.tmp 111) (.tmp 109) rfl gl (i * 2 + 1) (.int .u64 (k : Int)) ?hx ?hy ?hv ?h1 S1.out.o size_u64 ?hl ?_); (case hx => with_unfolding_all rfl); (case hy => with_unfolding_all rfl); (case hv => rfl); (case h1 => rfl); (case hl => omega); intro O2)
  go_end0
  refine ⟨rfl, some ⟨gl, 0, none⟩, n, c, ⟨S1.out.r.only O2.out (fun e => S1.out.ne _ rfl e.symm), ?_, H.out.hB, H.out.ne⟩, (Moves.of_below B1.out).trans (Moves.onlyA (a := ⟨gl, 0, none⟩) O2.out) H.out.lt⟩
  simp only
  rw [HPUT.out]
  exact S1.out.o.put2 i k hi
set_option maxHeartbeats 4000000 in
theorem put_pe (g : Nat) (A : Option Addr) (n c B k i j x1 : Nat) (s : RS) (w : World) (h : SetW w B g A n c s) {T : Nat} (hf : Fall T s.l) (hk : k ≤ topV) (hnm : ¬ Mem k s.l) (hn : n ≤ 100) (hBw : B ≤ w.heap.size) (hp : Place s.l k i) (hj : i = j + 1) (hx : (s.l.getD j (0, 0)).1 = x1) (ha : ¬ x1 = k + 1) (hi : i = n) :
    Calls Try.prog 21 #[.pointer (some ⟨g, 0, none⟩), .int .u64 (k : Int)] w (Puts w B g A s k) := by
  have hl := h.o.len
  have HN : Hid (s.l.length = n) := hl
  have hput := put_none hf hp (fun ⟨j0, e1, e2⟩ => (by obtain rfl : j0 = j := (by omega); exact ha (by rw [← hx]; exact e2))) (fun ⟨e1, e2⟩ => (by omega))
  have HPUT := Lib.hid hput
  have HF := Lib.hid (from_at g A n c B k i s w h ⟨T, hf⟩ (by unfold topV at hk; omega) (by omega) hp)
  have H := Lib.hid h
  have hkk : k < 4611686018427387904 := by unfold topV at hk; omega
  obtain ⟨a, rfl⟩ : ∃ a, A = some a := by
    cases A with
    | none => exact absurd (h.o.sl.2 (by omega)) (fun ⟨_, _, e, _⟩ => by cases e)
    | some a => exact ⟨a, rfl⟩
  obtain ⟨gl, rfl⟩ : ∃ gl, a = ⟨gl, 0, none⟩ := ⟨_, h.o.spot a rfl⟩
  have k1 : (0 : Int) < (i : Int) := by omega
  have k2 : (i : Int) - 1 = (j : Int) := by omega
  have k3 : j < n := by omega
  have k4 : ¬ (x1 : Int) = (k : Int) + 1 := by omega
  have HJ := Lib.hid hj
  have HX := Lib.hid hx
  have HIN0 : i ≤ n := by omega
  have k5 : ¬ (i : Int) < (n : Int) := by omega
  have HI := Lib.hid hi
  clear hi
  have HIN : Hid (i ≤ n) := show i ≤ n by omega
  clear h hf hp hput hl hx ha  hk hj
  go_enter Try.func21, Try.ntmps21
  go_wp2_with fail
  (with_reducible refine HF.out.mono ?_)
  rintro e1 w1 ⟨rfl, hb1⟩
  have S1 := Lib.hid (H.out.below hb1)
  have B1 := Lib.hid hb1
  clear hb1
  have c2 : w1.cell? ⟨g, 2, none⟩ = some (.slice (some ⟨gl, 0, none⟩) n c) := S1.out.cells.2.2
  have c3 := (S1.out.o.cells j k3).1
  rw [HX.out] at c3
  have B2 : Hid (Below w1.heap.size w1 (w1.alloc (.cells #[.int .u64 (k : Int), .int .u64 (k : Int)] 39))) := (Below.refl _ _).alloc (Nat.le_refl _) _
  have S2 := Lib.hid (S1.out.below B2.out)
  have V2 : Hid (One (w1.alloc (.cells #[.int .u64 (k : Int), .int .u64 (k : Int)] 39)) w1.heap.size (k, k)) := heap_alloc_new w1 _
  have Z2 : Hid (B ≤ (w1.alloc (.cells #[.int .u64 (k : Int), .int .u64 (k : Int)] 39)).heap.size) := by have := B1.out.size; have := B2.out.size; exact Nat.le_trans (Nat.le_trans hBw ‹_›) ‹_›
  go_wp2_with fail
  (with_reducible refine (insert_any (some ⟨gl, 0, none⟩) n c B w1.heap.size i (k, k) s.l _ S2.out.o V2.out (fun a ha => by have := (S1.out.o.blk a ha).2; omega) HIN.out Z2.out (by omega)).mono ?_)
  rintro e3 w3 ⟨A', c', rfl, o3, m3⟩
  have R3 : Hid (Rw w3 g 49 [.int .i64 (s.most : Int), .int .u64 (s.fl : Int), .slice (some ⟨gl, 0, none⟩) n c]) := ((m3 (w1.heap.size)).block g S2.out.lt (by have := S1.out.lt; omega) (fun a ha => (S1.out.ne a ha).symm)).trans S2.out.r
  have O3 := Lib.hid o3
  have M3 : Hid (Moves g (some ⟨gl, 0, none⟩) A' w w3) := (Moves.of_below B1.out).trans ((Moves.of_below B2.out).trans (m3 g) S1.out.lt) H.out.lt
  have N3 : Hid (∀ a, A' = some a → a.block ≠ g) := fun a ha => by
    rcases (m3 g).at_ a ha with ⟨a0, e0, e1⟩ | h2
    · rw [e1]; exact S1.out.ne a0 e0
    · have := S2.out.lt; omega
  clear o3 m3
  go_wp2_with ((with_reducible refine wpList_put_rw rfl 31 (.tmp 58) (.tmp 56) rfl g 2 (.slice A' (n + 1) c') ?hx ?hy ?hv ?h1 49 _ R3.out size_slR ?hl ?_); (case hx => with_unfolding_all rfl); (case hy => with_unfolding_all rfl); (case hv => rfl); (case h1 => rfl); (case hl => simp); intro w5 R5 O5)
  go_end0
  refine ⟨rfl, A', n + 1, c', ⟨R5.out, ?_, H.out.hB, N3.out⟩, M3.out.trans (Moves.onlyG O5.out) H.out.lt⟩
  simp only
  rw [HPUT.out]
  exact O3.out.onlyA O5.out N3.out
set_option maxHeartbeats 4000000 in
theorem put_pea (g : Nat) (A : Option Addr) (n c B k i j x1 : Nat) (s : RS) (w : World) (h : SetW w B g A n c s) {T : Nat} (hf : Fall T s.l) (hk : k ≤ topV) (hnm : ¬ Mem k s.l) (hn : n ≤ 100) (hBw : B ≤ w.heap.size) (hp : Place s.l k i) (hj : i = j + 1) (hx : (s.l.getD j (0, 0)).1 = x1) (ha : x1 = k + 1) (hi : i = n) :
    Calls Try.prog 21 #[.pointer (some ⟨g, 0, none⟩), .int .u64 (k : Int)] w (Puts w B g A s k) := by
  have hl := h.o.len
  have HN : Hid (s.l.length = n) := hl
  have hput := put_above hf hp hj (by rw [hx]; exact ha) (fun ⟨e1, e2⟩ => (by omega))
  have HPUT := Lib.hid hput
  have HF := Lib.hid (from_at g A n c B k i s w h ⟨T, hf⟩ (by unfold topV at hk; omega) (by omega) hp)
  have H := Lib.hid h
  have hkk : k < 4611686018427387904 := by unfold topV at hk; omega
  obtain ⟨a, rfl⟩ : ∃ a, A = some a := by
    cases A with
    | none => exact absurd (h.o.sl.2 (by omega)) (fun ⟨_, _, e, _⟩ => by cases e)
    | some a => exact ⟨a, rfl⟩
  obtain ⟨gl, rfl⟩ : ∃ gl, a = ⟨gl, 0, none⟩ := ⟨_, h.o.spot a rfl⟩
  have k1 : (0 : Int) < (i : Int) := by omega
  have k2 : (i : Int) - 1 = (j : Int) := by omega
  have k3 : j < n := by omega
  have k4 : (x1 : Int) = (k : Int) + 1 := by omega
  have HJ := Lib.hid hj
  have HX := Lib.hid hx
  have HIN0 : i ≤ n := by omega
  have k5 : ¬ (i : Int) < (n : Int) := by omega
  have HI := Lib.hid hi
  clear hi
  have HIN : Hid (i ≤ n) := show i ≤ n by omega
  clear h hf hp hput hl hx ha  hk hj
  go_enter Try.func21, Try.ntmps21
  go_wp2_with fail
  (with_reducible refine HF.out.mono ?_)
  rintro e1 w1 ⟨rfl, hb1⟩
  have S1 := Lib.hid (H.out.below hb1)
  have B1 := Lib.hid hb1
  clear hb1
  have c2 : w1.cell? ⟨g, 2, none⟩ = some (.slice (some ⟨gl, 0, none⟩) n c) := S1.out.cells.2.2
  have c3 := (S1.out.o.cells j k3).1
  rw [HX.out] at c3
  go_wp2_with ((with_reducible refine wpList_put_own rfl 27 (.tmp 101) (.tmp 99) rfl gl (j * 2) (.int .u64 (k : Int)) ?hx ?hy ?hv ?h1 S1.out.o size_u64 ?hl ?_); (case hx => with_unfolding_all rfl); (case hy => with_unfolding_all rfl); (case hv => rfl); (case h1 => rfl); (case hl => omega); intro O2)
  go_end0
  refine ⟨rfl, some ⟨gl, 0, none⟩, n, c, ⟨S1.out.r.only O2.out (fun e => S1.out.ne _ rfl e.symm), ?_, H.out.hB, H.out.ne⟩, (Moves.of_below B1.out).trans (Moves.onlyA (a := ⟨gl, 0, none⟩) O2.out) H.out.lt⟩
  simp only
  rw [HPUT.out]
  exact S1.out.o.put1 j k k3
set_option maxHeartbeats 4000000 in
theorem put_pn (g : Nat) (A : Option Addr) (n c B k i j x1 y1 y2 : Nat) (s : RS) (w : World) (h : SetW w B g A n c s) {T : Nat} (hf : Fall T s.l) (hk : k ≤ topV) (hnm : ¬ Mem k s.l) (hn : n ≤ 100) (hBw : B ≤ w.heap.size) (hp : Place s.l k i) (hj : i = j + 1) (hx : (s.l.getD j (0, 0)).1 = x1) (ha : ¬ x1 = k + 1) (hi : i < n) (hy1 : (s.l.getD i (0, 0)).1 = y1) (hy2 : (s.l.getD i (0, 0)).2 = y2) (hb : ¬ y2 + 1 = k) :
    Calls Try.prog 21 #[.pointer (some ⟨g, 0, none⟩), .int .u64 (k : Int)] w (Puts w B g A s k) := by
  have hl := h.o.len
  have HN : Hid (s.l.length = n) := hl
  have hput := put_none hf hp (fun ⟨j0, e1, e2⟩ => (by obtain rfl : j0 = j := (by omega); exact ha (by rw [← hx]; exact e2))) (fun ⟨e1, e2⟩ => hb (by rw [← hy2]; exact e2))
  have HPUT := Lib.hid hput
  have HF := Lib.hid (from_at g A n c B k i s w h ⟨T, hf⟩ (by unfold topV at hk; omega) (by omega) hp)
  have H := Lib.hid h
  have hkk : k < 4611686018427387904 := by unfold topV at hk; omega
  obtain ⟨a, rfl⟩ : ∃ a, A = some a := by
    cases A with
    | none => exact absurd (h.o.sl.2 (by omega)) (fun ⟨_, _, e, _⟩ => by cases e)
    | some a => exact ⟨a, rfl⟩
  obtain ⟨gl, rfl⟩ : ∃ gl, a = ⟨gl, 0, none⟩ := ⟨_, h.o.spot a rfl⟩
  have k1 : (0 : Int) < (i : Int) := by omega
  have k2 : (i : Int) - 1 = (j : Int) := by omega
  have k3 : j < n := by omega
  have k4 : ¬ (x1 : Int) = (k : Int) + 1 := by omega
  have HJ := Lib.hid hj
  have HX := Lib.hid hx
  have k5 : (i : Int) < (n : Int) := by omega
  have k6 : ¬ (y2 : Int) + 1 = (k : Int) := by omega
  have k7 : y2 < 4611686018427387904 := by
    have h1 := place_ex k hf
    have h2 := hf
    exact bound_next hf hp (by omega) hy2 hnm hkk
  have HY1 := Lib.hid hy1
  have HY2 := Lib.hid hy2
  have HIN : Hid (i ≤ n) := show i ≤ n by omega
  clear h hf hp hput hl hx ha hy1 hy2 hb hk hj
  go_enter Try.func21, Try.ntmps21
  go_wp2_with fail
  (with_reducible refine HF.out.mono ?_)
  rintro e1 w1 ⟨rfl, hb1⟩
  have S1 := Lib.hid (H.out.below hb1)
  have B1 := Lib.hid hb1
  clear hb1
  have c2 : w1.cell? ⟨g, 2, none⟩ = some (.slice (some ⟨gl, 0, none⟩) n c) := S1.out.cells.2.2
  have c3 := (S1.out.o.cells j k3).1
  rw [HX.out] at c3
  obtain ⟨c4, c5⟩ := S1.out.o.cells i hi
  rw [HY1.out] at c4
  rw [HY2.out] at c5
  have B2 : Hid (Below w1.heap.size w1 (w1.alloc (.cells #[.int .u64 (k : Int), .int .u64 (k : Int)] 39))) := (Below.refl _ _).alloc (Nat.le_refl _) _
  have S2 := Lib.hid (S1.out.below B2.out)
  have V2 : Hid (One (w1.alloc (.cells #[.int .u64 (k : Int), .int .u64 (k : Int)] 39)) w1.heap.size (k, k)) := heap_alloc_new w1 _
  have Z2 : Hid (B ≤ (w1.alloc (.cells #[.int .u64 (k : Int), .int .u64 (k : Int)] 39)).heap.size) := by have := B1.out.size; have := B2.out.size; exact Nat.le_trans (Nat.le_trans hBw ‹_›) ‹_›
  go_wp2_with fail
  (with_reducible refine (insert_any (some ⟨gl, 0, none⟩) n c B w1.heap.size i (k, k) s.l _ S2.out.o V2.out (fun a ha => by have := (S1.out.o.blk a ha).2; omega) HIN.out Z2.out (by omega)).mono ?_)
  rintro e3 w3 ⟨A', c', rfl, o3, m3⟩
  have R3 : Hid (Rw w3 g 49 [.int .i64 (s.most : Int), .int .u64 (s.fl : Int), .slice (some ⟨gl, 0, none⟩) n c]) := ((m3 (w1.heap.size)).block g S2.out.lt (by have := S1.out.lt; omega) (fun a ha => (S1.out.ne a ha).symm)).trans S2.out.r
  have O3 := Lib.hid o3
  have M3 : Hid (Moves g (some ⟨gl, 0, none⟩) A' w w3) := (Moves.of_below B1.out).trans ((Moves.of_below B2.out).trans (m3 g) S1.out.lt) H.out.lt
  have N3 : Hid (∀ a, A' = some a → a.block ≠ g) := fun a ha => by
    rcases (m3 g).at_ a ha with ⟨a0, e0, e1⟩ | h2
    · rw [e1]; exact S1.out.ne a0 e0
    · have := S2.out.lt; omega
  clear o3 m3
  go_wp2_with ((with_reducible refine wpList_put_rw rfl 31 (.tmp 58) (.tmp 56) rfl g 2 (.slice A' (n + 1) c') ?hx ?hy ?hv ?h1 49 _ R3.out size_slR ?hl ?_); (case hx => with_unfolding_all rfl); (case hy => with_unfolding_all rfl); (case hv => rfl); (case h1 => rfl); (case hl => simp); intro w5 R5 O5)
  go_end0
  refine ⟨rfl, A', n + 1, c', ⟨R5.out, ?_, H.out.hB, N3.out⟩, M3.out.trans (Moves.onlyG O5.out) H.out.lt⟩
  simp only
  rw [HPUT.out]
  exact O3.out.onlyA O5.out N3.out
set_option maxHeartbeats 4000000 in
theorem put_pnb (g : Nat) (A : Option Addr) (n c B k i j x1 y1 y2 : Nat) (s : RS) (w : World) (h : SetW w B g A n c s) {T : Nat} (hf : Fall T s.l) (hk : k ≤ topV) (hnm : ¬ Mem k s.l) (hn : n ≤ 100) (hBw : B ≤ w.heap.size) (hp : Place s.l k i) (hj : i = j + 1) (hx : (s.l.getD j (0, 0)).1 = x1) (ha : ¬ x1 = k + 1) (hi : i < n) (hy1 : (s.l.getD i (0, 0)).1 = y1) (hy2 : (s.l.getD i (0, 0)).2 = y2) (hb : y2 + 1 = k) :
    Calls Try.prog 21 #[.pointer (some ⟨g, 0, none⟩), .int .u64 (k : Int)] w (Puts w B g A s k) := by
  have hl := h.o.len
  have HN : Hid (s.l.length = n) := hl
  have hput := put_below hf hp (by omega) (fun ⟨j0, e1, e2⟩ => (by obtain rfl : j0 = j := (by omega); exact ha (by rw [← hx]; exact e2))) (by rw [hy2]; exact hb)
  have HPUT := Lib.hid hput
  have HF := Lib.hid (from_at g A n c B k i s w h ⟨T, hf⟩ (by unfold topV at hk; omega) (by omega) hp)
  have H := Lib.hid h
  have hkk : k < 4611686018427387904 := by unfold topV at hk; omega
  obtain ⟨a, rfl⟩ : ∃ a, A = some a := by
    cases A with
    | none => exact absurd (h.o.sl.2 (by omega)) (fun ⟨_, _, e, _⟩ => by cases e)
    | some a => exact ⟨a, rfl⟩
  obtain ⟨gl, rfl⟩ : ∃ gl, a = ⟨gl, 0, none⟩ := ⟨_, h.o.spot a rfl⟩
  have k1 : (0 : Int) < (i : Int) := by omega
  have k2 : (i : Int) - 1 = (j : Int) := by omega
  have k3 : j < n := by omega
  have k4 : ¬ (x1 : Int) = (k : Int) + 1 := by omega
  have HJ := Lib.hid hj
  have HX := Lib.hid hx
  have k5 : (i : Int) < (n : Int) := by omega
  have k6 : (y2 : Int) + 1 = (k : Int) := by omega
  have k7 : y2 < 4611686018427387904 := by
    have h1 := place_ex k hf
    have h2 := hf
    omega
  have HY1 := Lib.hid hy1
  have HY2 := Lib.hid hy2
  have HIN : Hid (i ≤ n) := show i ≤ n by omega
  clear h hf hp hput hl hx ha hy1 hy2 hb hk hj
  go_enter Try.func21, Try.ntmps21
  go_wp2_with fail
  (with_reducible refine HF.out.mono ?_)
  rintro e1 w1 ⟨rfl, hb1⟩
  have S1 := Lib.hid (H.out.below hb1)
  have B1 := Lib.hid hb1
  clear hb1
  have c2 : w1.cell? ⟨g, 2, none⟩ = some (.slice (some ⟨gl, 0, none⟩) n c) := S1.out.cells.2.2
  have c3 := (S1.out.o.cells j k3).1
  rw [HX.out] at c3
  obtain ⟨c4, c5⟩ := S1.out.o.cells i hi
  rw [HY1.out] at c4
  rw [HY2.out] at c5
  go_wp2_with ((with_reducible refine wpList_put_own rfl 27 (.tmp 111) (.tmp 109) rfl gl (i * 2 + 1) (.int .u64 (k : Int)) ?hx ?hy ?hv ?h1 S1.out.o size_u64 ?hl ?_); (case hx => with_unfolding_all rfl); (case hy => with_unfolding_all rfl); (case hv => rfl); (case h1 => rfl); (case hl => omega); intro O2)
  go_end0
  refine ⟨rfl, some ⟨gl, 0, none⟩, n, c, ⟨S1.out.r.only O2.out (fun e => S1.out.ne _ rfl e.symm), ?_, H.out.hB, H.out.ne⟩, (Moves.of_below B1.out).trans (Moves.onlyA (a := ⟨gl, 0, none⟩) O2.out) H.out.lt⟩
  simp only
  rw [HPUT.out]
  exact S1.out.o.put2 i k hi
set_option maxHeartbeats 4000000 in
theorem put_pna (g : Nat) (A : Option Addr) (n c B k i j x1 y1 y2 : Nat) (s : RS) (w : World) (h : SetW w B g A n c s) {T : Nat} (hf : Fall T s.l) (hk : k ≤ topV) (hnm : ¬ Mem k s.l) (hn : n ≤ 100) (hBw : B ≤ w.heap.size) (hp : Place s.l k i) (hj : i = j + 1) (hx : (s.l.getD j (0, 0)).1 = x1) (ha : x1 = k + 1) (hi : i < n) (hy1 : (s.l.getD i (0, 0)).1 = y1) (hy2 : (s.l.getD i (0, 0)).2 = y2) (hb : ¬ y2 + 1 = k) :
    Calls Try.prog 21 #[.pointer (some ⟨g, 0, none⟩), .int .u64 (k : Int)] w (Puts w B g A s k) := by
  have hl := h.o.len
  have HN : Hid (s.l.length = n) := hl
  have hput := put_above hf hp hj (by rw [hx]; exact ha) (fun ⟨e1, e2⟩ => hb (by rw [← hy2]; exact e2))
  have HPUT := Lib.hid hput
  have HF := Lib.hid (from_at g A n c B k i s w h ⟨T, hf⟩ (by unfold topV at hk; omega) (by omega) hp)
  have H := Lib.hid h
  have hkk : k < 4611686018427387904 := by unfold topV at hk; omega
  obtain ⟨a, rfl⟩ : ∃ a, A = some a := by
    cases A with
    | none => exact absurd (h.o.sl.2 (by omega)) (fun ⟨_, _, e, _⟩ => by cases e)
    | some a => exact ⟨a, rfl⟩
  obtain ⟨gl, rfl⟩ : ∃ gl, a = ⟨gl, 0, none⟩ := ⟨_, h.o.spot a rfl⟩
  have k1 : (0 : Int) < (i : Int) := by omega
  have k2 : (i : Int) - 1 = (j : Int) := by omega
  have k3 : j < n := by omega
  have k4 : (x1 : Int) = (k : Int) + 1 := by omega
  have HJ := Lib.hid hj
  have HX := Lib.hid hx
  have k5 : (i : Int) < (n : Int) := by omega
  have k6 : ¬ (y2 : Int) + 1 = (k : Int) := by omega
  have k7 : y2 < 4611686018427387904 := by
    have h1 := place_ex k hf
    have h2 := hf
    exact bound_next hf hp (by omega) hy2 hnm hkk
  have HY1 := Lib.hid hy1
  have HY2 := Lib.hid hy2
  have HIN : Hid (i ≤ n) := show i ≤ n by omega
  clear h hf hp hput hl hx ha hy1 hy2 hb hk hj
  go_enter Try.func21, Try.ntmps21
  go_wp2_with fail
  (with_reducible refine HF.out.mono ?_)
  rintro e1 w1 ⟨rfl, hb1⟩
  have S1 := Lib.hid (H.out.below hb1)
  have B1 := Lib.hid hb1
  clear hb1
  have c2 : w1.cell? ⟨g, 2, none⟩ = some (.slice (some ⟨gl, 0, none⟩) n c) := S1.out.cells.2.2
  have c3 := (S1.out.o.cells j k3).1
  rw [HX.out] at c3
  obtain ⟨c4, c5⟩ := S1.out.o.cells i hi
  rw [HY1.out] at c4
  rw [HY2.out] at c5
  go_wp2_with ((with_reducible refine wpList_put_own rfl 27 (.tmp 101) (.tmp 99) rfl gl (j * 2) (.int .u64 (k : Int)) ?hx ?hy ?hv ?h1 S1.out.o size_u64 ?hl ?_); (case hx => with_unfolding_all rfl); (case hy => with_unfolding_all rfl); (case hv => rfl); (case h1 => rfl); (case hl => omega); intro O2)
  go_end0
  refine ⟨rfl, some ⟨gl, 0, none⟩, n, c, ⟨S1.out.r.only O2.out (fun e => S1.out.ne _ rfl e.symm), ?_, H.out.hB, H.out.ne⟩, (Moves.of_below B1.out).trans (Moves.onlyA (a := ⟨gl, 0, none⟩) O2.out) H.out.lt⟩
  simp only
  rw [HPUT.out]
  exact S1.out.o.put1 j k k3
set_option maxHeartbeats 4000000 in
theorem put_pnab (g : Nat) (A : Option Addr) (n c B k i j x1 y1 y2 : Nat) (s : RS) (w : World) (h : SetW w B g A n c s) {T : Nat} (hf : Fall T s.l) (hk : k ≤ topV) (hnm : ¬ Mem k s.l) (hn : n ≤ 100) (hBw : B ≤ w.heap.size) (hp : Place s.l k i) (hj : i = j + 1) (hx : (s.l.getD j (0, 0)).1 = x1) (ha : x1 = k + 1) (hi : i < n) (hy1 : (s.l.getD i (0, 0)).1 = y1) (hy2 : (s.l.getD i (0, 0)).2 = y2) (hb : y2 + 1 = k) :
    Calls Try.prog 21 #[.pointer (some ⟨g, 0, none⟩), .int .u64 (k : Int)] w (Puts w B g A s k) := by
  have hl := h.o.len
  have HN : Hid (s.l.length = n) := hl
  have hput := put_both hf hp hj (by omega) (by rw [hx]; exact ha) (by rw [hy2]; exact hb)
  have HPUT := Lib.hid hput
  have HF := Lib.hid (from_at g A n c B k i s w h ⟨T, hf⟩ (by unfold topV at hk; omega) (by omega) hp)
  have H := Lib.hid h
  have hkk : k < 4611686018427387904 := by unfold topV at hk; omega
  obtain ⟨a, rfl⟩ : ∃ a, A = some a := by
    cases A with
    | none => exact absurd (h.o.sl.2 (by omega)) (fun ⟨_, _, e, _⟩ => by cases e)
    | some a => exact ⟨a, rfl⟩
  obtain ⟨gl, rfl⟩ : ∃ gl, a = ⟨gl, 0, none⟩ := ⟨_, h.o.spot a rfl⟩
  have k1 : (0 : Int) < (i : Int) := by omega
  have k2 : (i : Int) - 1 = (j : Int) := by omega
  have k3 : j < n := by omega
  have k4 : (x1 : Int) = (k : Int) + 1 := by omega
  have HJ := Lib.hid hj
  have HX := Lib.hid hx
  have k5 : (i : Int) < (n : Int) := by omega
  have k6 : (y2 : Int) + 1 = (k : Int) := by omega
  have k7 : y2 < 4611686018427387904 := by
    have h1 := place_ex k hf
    have h2 := hf
    omega
  have HY1 := Lib.hid hy1
  have HY2 := Lib.hid hy2
  have k8 : IntKind.i64.wrap ((i : Int) - 1) = (j : Int) := by rw [IntKind.wrap_i64]; omega
  have k9 : IntKind.i64.wrap (j : Int) = (j : Int) := by rw [IntKind.wrap_i64]; omega
  have k10 : (j : Int) < (n : Int) := by omega
  have HIN : Hid (i ≤ n) := show i ≤ n by omega
  clear h hf hp hput hl hx ha hy1 hy2 hb hk hj
  go_enter Try.func21, Try.ntmps21
  go_wp2_with fail
  (with_reducible refine HF.out.mono ?_)
  rintro e1 w1 ⟨rfl, hb1⟩
  have S1 := Lib.hid (H.out.below hb1)
  have B1 := Lib.hid hb1
  clear hb1
  have c2 : w1.cell? ⟨g, 2, none⟩ = some (.slice (some ⟨gl, 0, none⟩) n c) := S1.out.cells.2.2
  have c3 := (S1.out.o.cells j k3).1
  rw [HX.out] at c3
  obtain ⟨c4, c5⟩ := S1.out.o.cells i hi
  rw [HY1.out] at c4
  rw [HY2.out] at c5
  go_wp2_with fail
  refine wp_tail 16 (by kernel_rfl) (by kernel_rfl) ?_
  simp only [List.take_succ_cons, List.take_zero, List.drop_succ_cons, List.drop_zero]
  repeat still_step
  refine wpStill_nil ?_
  go_wp2_with ((with_reducible refine wpList_put_own rfl 27 (.tmp 79) (.tmp 77) rfl gl (j * 2) (.int .u64 (y1 : Int)) ?hx ?hy ?hv ?h1 S1.out.drew.o size_u64 ?hl ?_); (case hx => with_unfolding_all rfl); (case hy => with_unfolding_all rfl); (case hv => rfl); (case h1 => rfl); (case hl => omega); intro O2; have c6 : (w1.setCell ⟨gl, j * 2, none⟩ (.int .u64 (y1 : Int))).cell? ⟨g, 2, none⟩ = some (.slice (some ⟨gl, 0, none⟩) n c) := (World.cell?_of_block (O2.out.block g S1.out.drew.lt (fun e => S1.out.ne _ rfl e.symm))).trans c2)
  have O3 : Hid (OwnR (w1.setCell ⟨gl, j * 2, none⟩ (.int .u64 (y1 : Int))).drew B (.slice (some ⟨gl, 0, none⟩) n c) n (s.l.set j (y1, (s.l.getD j (0, 0)).2))) := S1.out.drew.o.put1 j y1 k3
  (with_reducible refine (delete_at gl n c B i (s.l.set j (y1, (s.l.getD j (0, 0)).2)) _ O3.out hi (by omega)).mono ?_)
  rintro e4 w4 ⟨rfl, o4, m4⟩
  have R4 : Hid (Rw w4 g 49 [.int .i64 (s.most : Int), .int .u64 (s.fl : Int), .slice (some ⟨gl, 0, none⟩) n c]) := (S1.out.drew.r.only O2.out (fun e => S1.out.ne _ rfl e.symm)).only m4 (fun e => S1.out.ne _ rfl e.symm)
  have O4 := Lib.hid o4
  have M4 : Hid (Only gl w1 w4) := ((Only.refl gl w1).drew.trans O2.out).trans m4
  clear o4 m4
  go_wp2_with ((with_reducible refine wpList_put_rw rfl 31 (.tmp 90) (.tmp 88) rfl g 2 (.slice (some ⟨gl, 0, none⟩) (n - 1) c) ?hx ?hy ?hv ?h1 49 _ R4.out size_slR ?hl ?_); (case hx => with_unfolding_all rfl); (case hy => with_unfolding_all rfl); (case hv => rfl); (case h1 => rfl); (case hl => simp); intro w5 R5 O5)
  go_end0
  refine ⟨rfl, some ⟨gl, 0, none⟩, n - 1, c, ⟨R5.out, ?_, H.out.hB, H.out.ne⟩, (Moves.of_below B1.out).trans ((Moves.onlyA (a := ⟨gl, 0, none⟩) M4.out).trans (Moves.onlyG O5.out) S1.out.lt) H.out.lt⟩
  simp only
  rw [HPUT.out, HY1.out]
  exact O4.out.onlyA O5.out (fun a ha => H.out.ne a ha)
end Go.Proofs.Ytjbhhmjkdhkhaaa
