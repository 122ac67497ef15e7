/-
  A column mixed by hand is the column mixed.
-/
import Derived.Test.YtkeleehkjllgeaaAesP
namespace Go.Proofs.Ytkeleehkjllgeaa
set_option linter.unusedVariables false

theorem x_assoc (a b c : UInt8) : a ^^^ b ^^^ c = a ^^^ (b ^^^ c) := UInt8.xor_assoc a b c
theorem x_comm (a b : UInt8) : a ^^^ b = b ^^^ a := UInt8.xor_comm a b
theorem x_left (a b c : UInt8) : a ^^^ (b ^^^ c) = b ^^^ (a ^^^ c) := by rw [← x_assoc, x_comm a b, x_assoc]
theorem x_self (a x : UInt8) : a ^^^ (a ^^^ x) = x := by rw [← x_assoc, UInt8.xor_self, UInt8.zero_xor]
theorem hand_col (a b d e : UInt8) :
    [a ^^^ (a ^^^ b ^^^ d ^^^ e) ^^^ dblV (a ^^^ b), b ^^^ (a ^^^ b ^^^ d ^^^ e) ^^^ dblV (b ^^^ d), d ^^^ (a ^^^ b ^^^ d ^^^ e) ^^^ dblV (d ^^^ e), e ^^^ (a ^^^ b ^^^ d ^^^ e) ^^^ dblV (e ^^^ a)] = colV a b d e := by
  simp only [colV, dbl_xor]
  generalize dblV a = A
  generalize dblV b = B
  generalize dblV d = D
  generalize dblV e = E
  refine List.cons_eq_cons.2 ⟨?_, List.cons_eq_cons.2 ⟨?_, List.cons_eq_cons.2 ⟨?_, List.cons_eq_cons.2 ⟨?_, rfl⟩⟩⟩⟩
  · have : a ^^^ (a ^^^ b ^^^ d ^^^ e) = b ^^^ d ^^^ e := by rw [x_assoc, x_assoc, x_self, x_assoc]
    rw [this]; ac_rfl
  · have : b ^^^ (a ^^^ b ^^^ d ^^^ e) = a ^^^ d ^^^ e := by rw [x_comm a b, x_assoc, x_assoc, x_self, x_assoc]
    rw [this]; ac_rfl
  · have : d ^^^ (a ^^^ b ^^^ d ^^^ e) = a ^^^ b ^^^ e := by rw [x_comm (a ^^^ b) d, x_assoc, x_self]
    rw [this]; ac_rfl
  · have : e ^^^ (a ^^^ b ^^^ d ^^^ e) = a ^^^ b ^^^ d := by rw [x_comm (a ^^^ b ^^^ d) e, x_self]
    rw [this]; ac_rfl
/-- the rows that are turned, as the law walks them -/
theorem sub_index (c k : Nat) (hc : c < 4) (hk : k < 4) : ((4 * c + k) + 4 * ((4 * c + k) % 4)) % 16 = (4 * c + 5 * k) % 16 := by omega
/-- boxes tell bytes apart -/
theorem box_inj (a b : UInt8) : boxV a = boxV b ↔ a = b := by
  constructor
  · intro h
    have h1 := List.all_eq_true.1 box_inj_all a.toNat (List.mem_range.2 a.toNat_lt)
    have h2 := List.all_eq_true.1 h1 b.toNat (List.mem_range.2 b.toNat_lt)
    have e : ∀ x : UInt8, (boxT.map UInt8.toNat).getD x.toNat 0 = (boxV x).toNat := fun x => by
      have hl : x.toNat < boxT.length := by rw [boxT_length]; exact x.toNat_lt
      unfold boxV
      simp [List.getD_eq_getElem?_getD, hl]
    rw [e a, e b, h] at h2
    simp at h2
    exact UInt8.toNat_inj.1 h2
  · rintro rfl; rfl
/-- eight times doubled -/
theorem dbl_eight (a : UInt8) : dblV (dblV (dblV (dblV (dblV (dblV (dblV (dblV a))))))) = a ^^^ dblV a ^^^ dblV (dblV (dblV a)) ^^^ dblV (dblV (dblV (dblV a))) := by
  have h := u8_all (p := fun a => decide (dblV (dblV (dblV (dblV (dblV (dblV (dblV (dblV a))))))) = a ^^^ dblV a ^^^ dblV (dblV (dblV a)) ^^^ dblV (dblV (dblV (dblV a))))) (by kernel_rfl) a
  simpa using h
theorem nk_get (p t : List UInt8) (n i : Nat) (h : i < n) : (nkUp p t n).getD i 0 = p.getD i 0 ^^^ (if i < 4 then t.getD i 0 else (nkUp p t n).getD (i - 4) 0) := by
  have key : ∀ n j, j < n → ∀ m, n ≤ m → (nkUp p t m).getD j 0 = (nkUp p t n).getD j 0 := by
    intro n j hj m hm
    induction m with
    | zero => omega
    | succ m ih =>
      rcases Nat.lt_or_eq_of_le hm with h' | rfl
      · rw [nkUp, ← ih (by omega)]
        have hl := nkUp_length p t m
        simp [List.getD_eq_getElem?_getD, List.getElem?_append, hl, show j < m by omega]
      · rfl
  have h1 := key (i + 1) i (by omega) n h
  rw [h1, nkUp]
  have hl := nkUp_length p t i
  have e : (nkUp p t i ++ [p.getD i 0 ^^^ (if i < 4 then t.getD i 0 else (nkUp p t i).getD (i - 4) 0)]).getD i 0 = p.getD i 0 ^^^ (if i < 4 then t.getD i 0 else (nkUp p t i).getD (i - 4) 0) := by
    simp [List.getD_eq_getElem?_getD, hl]
  rw [e]
  by_cases h4 : i < 4
  · rw [if_pos h4, if_pos h4]
  · rw [if_neg h4, if_neg h4, key i (i - 4) (by omega) n (by omega)]
end Go.Proofs.Ytkeleehkjllgeaa
