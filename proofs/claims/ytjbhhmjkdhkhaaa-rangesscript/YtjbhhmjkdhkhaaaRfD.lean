/-
  The document's set (pure): numbers that rise, dropped from the front, one put in its place.
-/
import Derived.Test.YtjbhhmjkdhkhaaaRfC
namespace Go.Proofs.Ytjbhhmjkdhkhaaa
open Go.RowKit Go.Lib
set_option linter.unusedVariables false

theorem rise_of {N : List Nat} (h : N.Pairwise (· < ·)) (ht : ∀ x ∈ N, x ≤ topV) : Rise N := ⟨fun a b hab hb => by
    rw [List.getD_eq_getElem?_getD, List.getD_eq_getElem?_getD, List.getElem?_eq_getElem (by omega), List.getElem?_eq_getElem hb]
    exact List.pairwise_iff_getElem.1 h a b (by omega) hb hab, fun a ha => by
    rw [List.getD_eq_getElem?_getD, List.getElem?_eq_getElem ha]
    exact ht _ (List.getElem_mem ha)⟩
theorem Rise.pw {N : List Nat} (h : Rise N) : N.Pairwise (· < ·) ∧ ∀ x ∈ N, x ≤ topV := by
  refine ⟨List.pairwise_iff_getElem.2 fun i j hi hj hij => ?_, fun x hx => ?_⟩
  · have := h.lt i j hij hj
    rwa [List.getD_eq_getElem?_getD, List.getD_eq_getElem?_getD, List.getElem?_eq_getElem hi, List.getElem?_eq_getElem hj] at this
  · obtain ⟨a, ha, e⟩ := mem_getD.1 hx
    rw [← e]
    exact h.top a ha
theorem rise_nil : Rise [] := rise_of List.Pairwise.nil (fun x h => by cases h)
theorem rise_drop {N : List Nat} (h : Rise N) (j : Nat) : Rise (N.drop j) :=
  rise_of (h.pw.1.sublist (List.drop_sublist j N)) fun x hx => h.pw.2 x (List.mem_of_mem_drop hx)
theorem getD_drop (N : List Nat) (j a : Nat) : (N.drop j).getD a 0 = N.getD (j + a) 0 := by
  rw [List.getD_eq_getElem?_getD, List.getD_eq_getElem?_getD, List.getElem?_drop]
/-- those that reach F -/
theorem drop_mem {N : List Nat} (h : Rise N) {j F : Nat} (h1 : ∀ t, t < j → N.getD t 0 < F) (h2 : N.length ≤ j ∨ F ≤ N.getD j 0) (m : Nat) : m ∈ N.drop j ↔ m ∈ N ∧ F ≤ m := by
  constructor
  · intro hm
    refine ⟨List.mem_of_mem_drop hm, ?_⟩
    obtain ⟨a, ha, e⟩ := mem_getD.1 hm
    rw [List.length_drop] at ha
    rw [getD_drop] at e
    rcases h2 with h2 | h2
    · omega
    · rcases Nat.eq_zero_or_pos a with rfl | h3
      · rw [Nat.add_zero] at e; omega
      · have := h.lt j (j + a) (by omega) (by omega); omega
  · rintro ⟨hm, hF⟩
    obtain ⟨a, ha, e⟩ := mem_getD.1 hm
    have h3 : j ≤ a := by
      rcases Nat.lt_or_ge a j with h4 | h4
      · have := h1 a h4; omega
      · exact h4
    exact mem_getD.2 ⟨a - j, by rw [List.length_drop]; omega, by rw [getD_drop, show j + (a - j) = a by omega]; exact e⟩
/-- one put in its place -/
theorem rise_ins {N : List Nat} (h : Rise N) {k x : Nat} (hk : k ≤ N.length) (h1 : ∀ t, t < k → N.getD t 0 < x) (h2 : ∀ t, k ≤ t → t < N.length → x < N.getD t 0) (hx : x ≤ topV) : Rise (N.take k ++ x :: N.drop k) := by
  have ht : ∀ y ∈ N.take k, y < x := fun y hy => by
    obtain ⟨a, ha, e⟩ := mem_getD.1 hy
    rw [List.length_take] at ha
    rw [List.getD_eq_getElem?_getD, List.getElem?_take, if_pos (by omega), ← List.getD_eq_getElem?_getD] at e
    have := h1 a (by omega); omega
  have hd : ∀ y ∈ N.drop k, x < y := fun y hy => by
    obtain ⟨a, ha, e⟩ := mem_getD.1 hy
    rw [List.length_drop] at ha
    rw [getD_drop] at e
    have := h2 (k + a) (by omega) (by omega); omega
  refine rise_of ?_ ?_
  · rw [List.pairwise_append, List.pairwise_cons]
    refine ⟨h.pw.1.sublist (List.take_sublist k N), ⟨hd, h.pw.1.sublist (List.drop_sublist k N)⟩, fun a ha b hb => ?_⟩
    have h3 := ht a ha
    rcases List.mem_cons.1 hb with rfl | hb
    · exact h3
    · exact Nat.lt_trans h3 (hd b hb)
  · intro y hy
    rcases List.mem_append.1 hy with hy | hy
    · exact h.pw.2 y (List.mem_of_mem_take hy)
    · rcases List.mem_cons.1 hy with rfl | hy
      · exact hx
      · exact h.pw.2 y (List.mem_of_mem_drop hy)
theorem ins_mem (N : List Nat) (k x m : Nat) : m ∈ N.take k ++ x :: N.drop k ↔ m = x ∨ m ∈ N := by
  rw [List.mem_append, List.mem_cons]
  constructor
  · rintro (h | h | h)
    · exact .inr (List.mem_of_mem_take h)
    · exact .inl h
    · exact .inr (List.mem_of_mem_drop h)
  · rintro (h | h)
    · exact .inr (.inl h)
    · rw [← List.take_append_drop k N] at h
      rcases List.mem_append.1 h with h | h
      · exact .inl h
      · exact .inr (.inr h)
/-- the document's numbers are those of s -/
def OfS (s : RS) (N : List Nat) : Prop := Rise N ∧ ∀ m, Mem m s.l ↔ m ∈ N
theorem OfS.has {s : RS} {N : List Nat} (h : OfS s N) (k : Nat) : s.mem k ↔ (k ∈ N ∨ k < s.fl) := by
  unfold RS.mem
  rw [h.2]
  exact or_comm
theorem ofS_new (m : Nat) : OfS (RS.new m) [] := ⟨rise_nil, fun m => ⟨fun h => absurd h mem_nil, fun h => by cases h⟩⟩
theorem OfS.below {s : RS} {N N' : List Nat} (h : OfS s N) (ok : s.Ok) (n : Nat) (hr : Rise N') (hm : ∀ m, m ∈ N' ↔ m ∈ N ∧ max s.fl n ≤ m) : OfS (s.below n) N' ∧ (s.below n).fl = max s.fl n ∧ (s.below n).most = s.most := by
  unfold RS.below
  by_cases hn : n ≤ s.fl
  · rw [if_pos hn]
    refine ⟨⟨hr, fun m => ?_⟩, by omega, rfl⟩
    rw [hm, ← h.2]
    refine ⟨fun h1 => ⟨h1, ?_⟩, fun h1 => h1.1⟩
    obtain ⟨x, hx, h2⟩ := h1
    have := ok.fl x hx
    omega
  · rw [if_neg hn]
    refine ⟨⟨hr, fun m => ?_⟩, by simp only; omega, rfl⟩
    simp only
    rw [hm, ← h.2, mem_below ok.fall]
    exact ⟨fun h1 => ⟨h1.1, by
      obtain ⟨x, hx, h2⟩ := h1.1
      have := ok.fl x hx
      have := h1.2
      omega⟩, fun h1 => ⟨h1.1, by have := h1.2; omega⟩⟩
/-- what a list written down of N is -/
theorem OfS.list {s : RS} {N : List Nat} {L : RL} {B : Nat} (h : OfS s N) (hf : Fall B s.l) (hL : Down (topV + 1) 0 (fun m => m ∈ N) L) : L = s.l :=
  fall_ext hL.fall hf fun m => by rw [hL.mem, h.2]; simp
/-- behind a new number: nothing forgotten, or the last range -/
theorem OfS.add {s : RS} {N N1 : List Nat} {n : Nat} (h : OfS s N) (ok : s.Ok) (hn : s.newB n = true) (hr : Rise N1) (hm : ∀ m, m ∈ N1 ↔ m = n ∨ m ∈ N) {L : RL} (hL : Down (topV + 1) 0 (fun m => m ∈ N1) L) :
    (L.length ≤ s.most ∧ OfS (s.add n) N1 ∧ (s.add n).fl = s.fl ∧ (s.add n).most = s.most) ∨
    (∃ l2 x, L = l2 ++ [x] ∧ s.most < L.length ∧ x.2 ≤ topV ∧ ∀ N', Rise N' → (∀ m, m ∈ N' ↔ m ∈ N1 ∧ max s.fl (x.2 + 1) ≤ m) → OfS (s.add n) N' ∧ (s.add n).fl = max s.fl (x.2 + 1) ∧ (s.add n).most = s.most) := by
  obtain ⟨l1, e1, F, M, hlen, hfl, hc⟩ := RS.add_new ok hn
  have e : L = l1 := fall_ext hL.fall F fun m => by rw [hL.mem, hm, M, h.2]; simp
  subst e
  rcases hc with ⟨h1, h2⟩ | ⟨l2, x, h1, h3, h2⟩
  · refine .inl ⟨h1, ⟨hr, fun m => ?_⟩, by rw [h2], by rw [h2]⟩
    rw [h2, hm, M, h.2]
  · have hx := F.at_ (x := x) (by rw [h1]; simp)
    have hx2 := hfl x (by rw [h1]; simp)
    have hmx : max s.fl (x.2 + 1) = x.2 + 1 := by omega
    refine .inr ⟨l2, x, h1, by rw [h1, List.length_append, List.length_singleton]; omega, by have := hx.2; omega, fun N' hr' hm' => ⟨⟨hr', fun m => ?_⟩, by rw [h2, hmx], by rw [h2]⟩⟩
    rw [h2, hm', hmx, hm, ← h.2, ← M]
    simp only
    have h5 := fall_last (l := l2) (x := x) (h1 ▸ F)
    have h6 := mem_below (n := x.2 + 1) (m := m) (h1 ▸ F : Fall _ (l2 ++ [x]))
    rw [h5] at h6
    rw [h6, h1]
end Go.Proofs.Ytjbhhmjkdhkhaaa
