/-
  A block as two halves of 64 bits: as functions of words; nothing of the program.
-/
import Derived.Test.YtkeleehkjllgeaaGcmQ
namespace Go.Proofs.Ytkeleehkjllgeaa
set_option linter.unusedVariables false

/-- eight bytes of a word, the highest first -/
def by8 (x : UInt64) : List UInt8 := (List.range 8).map fun i => UInt8.ofNat (x.toNat / 2 ^ (56 - 8 * i))
theorem by8_length (x : UInt64) : (by8 x).length = 8 := by simp [by8]
def pairB (h l : UInt64) : List UInt8 := by8 h ++ by8 l
theorem pairB_length (h l : UInt64) : (pairB h l).length = 16 := by simp [pairB, by8_length]
theorem by8_getD (x : UInt64) (i : Nat) (hi : i < 8) : (by8 x).getD i 0 = UInt8.ofNat (x.toNat / 2 ^ (56 - 8 * i)) := by
  unfold by8
  rw [List.getD_eq_getElem?_getD, List.getElem?_map, List.getElem?_range hi]
  rfl
theorem pairB_getD (h l : UInt64) (i : Nat) (hi : i < 16) : (pairB h l).getD i 0 = UInt8.ofNat ((if i < 8 then h else l).toNat / 2 ^ (56 - 8 * (i % 8))) := by
  unfold pairB
  by_cases hk : i < 8
  · rw [if_pos hk, List.getD_eq_getElem?_getD, List.getElem?_append_left (by rw [by8_length]; omega), ← List.getD_eq_getElem?_getD, by8_getD h i hk, Nat.mod_eq_of_lt hk]
  · rw [if_neg hk, List.getD_eq_getElem?_getD, List.getElem?_append_right (by rw [by8_length]; omega), ← List.getD_eq_getElem?_getD, by8_length, by8_getD l (i - 8) (by omega), show i % 8 = i - 8 by omega]
theorem bitG_test (x : List UInt8) (i : Nat) : bitG x i = (x.getD (i / 8) 0).toNat.testBit (7 - i % 8) := by
  unfold bitG
  rw [Nat.testBit_eq_decide_div_mod_eq]
theorem bitG_pair (h l : UInt64) (i : Nat) (hi : i < 128) : bitG (pairB h l) i = (if i < 64 then h else l).toNat.testBit (63 - i % 64) := by
  rw [bitG_test, pairB_getD h l (i / 8) (by omega), UInt8.toNat_ofNat', Nat.testBit_mod_two_pow, Nat.testBit_div_two_pow]
  have e1 : (7 - i % 8) + (56 - 8 * (i / 8 % 8)) = 63 - i % 64 := by omega
  rw [e1, decide_eq_true (by omega : 7 - i % 8 < 8), Bool.true_and]
  by_cases hk : i < 64
  · rw [if_pos hk, if_pos (by omega)]
  · rw [if_neg hk, if_neg (by omega)]
theorem list_ext_bits (a b : List UInt8) (ha : a.length = 16) (hb : b.length = 16) (h : ∀ i, i < 128 → bitG a i = bitG b i) : a = b := by
  refine list_ext16 a b ha hb fun k hk => ?_
  apply UInt8.toNat_inj.1
  apply Nat.eq_of_testBit_eq
  intro m
  by_cases hm : m < 8
  · have e := h (8 * k + (7 - m)) (by omega)
    rw [bitG_test, bitG_test, show (8 * k + (7 - m)) / 8 = k by omega, show 7 - (8 * k + (7 - m)) % 8 = m by omega] at e
    exact e
  · have hp : 2 ^ 8 ≤ 2 ^ m := Nat.pow_le_pow_right (by omega) (by omega)
    rw [Nat.testBit_lt_two_pow (Nat.lt_of_lt_of_le (a.getD k 0).toNat_lt hp), Nat.testBit_lt_two_pow (Nat.lt_of_lt_of_le (b.getD k 0).toNat_lt hp)]
theorem bitG_cross (a b : List UInt8) (h : a.length = b.length) (i : Nat) : bitG (crossV a b) i = (bitG a i ^^ bitG b i) := by
  rw [bitG_test, bitG_test, bitG_test, crossV_getD a b h, UInt8.toNat_xor, Nat.testBit_xor]
theorem bitG_low (v : List UInt8) : bitG v 127 = decide (v.getD 15 0 &&& 1 = 1) := by
  have h := u8_all (p := fun b => b.toNat.testBit 0 == decide (b &&& 1 = 1)) (by kernel_rfl) (v.getD 15 0)
  rw [bitG_test]
  exact eq_of_beq h
theorem low_bits : (List.range 8).all (fun i => (225 : UInt8).toNat.testBit (7 - i) == decide (i = 0 ∨ i = 1 ∨ i = 2 ∨ i = 7)) = true := by kernel_rfl
theorem bitG_dbl (v : List UInt8) (i : Nat) (hi : i < 128) : bitG (dblG v) i = ((decide (0 < i) && bitG v (i - 1)) ^^ (bitG v 127 && decide (i = 0 ∨ i = 1 ∨ i = 2 ∨ i = 7))) := by
  rw [bitG_test, dblG_getD v (i / 8) (by omega)]
  have hs : ∀ b : UInt8, ∀ m, (b >>> 1).toNat.testBit m = b.toNat.testBit (m + 1) := fun b m => by
    rw [UInt8.toNat_shiftRight]
    simp only [UInt8.reduceToNat, Nat.reduceMod, Nat.testBit_shiftRight]
    rw [Nat.add_comm]
  have h8 : ∀ b : UInt8, b.toNat.testBit 8 = false := fun b => Nat.testBit_lt_two_pow b.toNat_lt
  by_cases hk : i / 8 = 0
  · rw [if_pos hk, UInt8.toNat_xor, Nat.testBit_xor, hs]
    have e1 : (v.getD 0 0).toNat.testBit (7 - i % 8 + 1) = (decide (0 < i) && bitG v (i - 1)) := by
      rcases Nat.eq_zero_or_pos i with h0 | h0
      · subst h0
        simp [h8]
      · rw [decide_eq_true h0, Bool.true_and, bitG_test, show (i - 1) / 8 = 0 by omega, show 7 - (i - 1) % 8 = 7 - i % 8 + 1 by omega]
    rw [e1, bitG_low]
    congr 1
    unfold lowG
    by_cases hc : v.getD 15 0 &&& 1 = 1
    · have e := List.all_eq_true.1 low_bits i (List.mem_range.2 (by omega))
      rw [if_pos hc, decide_eq_true hc, Bool.true_and, Nat.mod_eq_of_lt (by omega : i < 8)]
      exact eq_of_beq e
    · rw [if_neg hc, decide_eq_false hc, Bool.false_and]
      simp
  · rw [if_neg hk]
    have e0 : decide (i = 0 ∨ i = 1 ∨ i = 2 ∨ i = 7) = false := decide_eq_false (by omega)
    rw [e0, Bool.and_false, Bool.xor_false, decide_eq_true (by omega : 0 < i), Bool.true_and, dblB, UInt8.toNat_or, Nat.testBit_or, hs, UInt8.toNat_shiftLeft]
    simp only [UInt8.reduceToNat, Nat.reduceMod, Nat.testBit_mod_two_pow, Nat.testBit_shiftLeft]
    by_cases h7 : i % 8 = 0
    · rw [h7, bitG_test, show (i - 1) / 8 = i / 8 - 1 by omega, show 7 - (i - 1) % 8 = 0 by omega]
      simp [h8]
    · have hd : decide (7 - i % 8 ≥ 7) = false := decide_eq_false (by omega)
      rw [hd, bitG_test, show (i - 1) / 8 = i / 8 by omega, show 7 - (i - 1) % 8 = 7 - i % 8 + 1 by omega]
      simp

/-- the halves times x -/
def txH (h l : UInt64) : UInt64 := (h >>> 1) ^^^ ((l &&& 1) * 16212958658533785600)
def txL (h l : UInt64) : UInt64 := (l >>> 1) ||| (h <<< 63)
theorem red_bits : (List.range 64).all (fun i => (16212958658533785600 : Nat).testBit (63 - i) == decide (i = 0 ∨ i = 1 ∨ i = 2 ∨ i = 7)) = true := by kernel_rfl
theorem and_low64 (l : UInt64) : (l &&& 1).toNat = if l.toNat.testBit 0 = true then 1 else 0 := by
  rw [UInt64.toNat_and]
  show l.toNat &&& 1 = _
  rw [Nat.and_one_is_mod, Nat.testBit_zero]
  by_cases h : l.toNat % 2 = 1
  · rw [if_pos (decide_eq_true h), h]
  · rw [if_neg (by simp; omega)]; omega
theorem pairB_tx (h l : UInt64) : pairB (txH h l) (txL h l) = dblG (pairB h l) := by
  refine list_ext_bits _ _ (pairB_length _ _) (dblG_length _) fun i hi => ?_
  rw [bitG_pair _ _ i hi, bitG_dbl _ i hi, bitG_pair h l 127 (by omega)]
  have hs : ∀ (b : UInt64) (m : Nat), (b >>> 1).toNat.testBit m = b.toNat.testBit (m + 1) := fun b m => by
    rw [UInt64.toNat_shiftRight]
    simp only [UInt64.reduceToNat, Nat.reduceMod, Nat.testBit_shiftRight]
    rw [Nat.add_comm]
  have h64 : ∀ b : UInt64, b.toNat.testBit 64 = false := fun b => Nat.testBit_lt_two_pow b.toNat_lt
  have hlow : (if 127 < 64 then h else l).toNat.testBit (63 - 127 % 64) = l.toNat.testBit 0 := rfl
  rw [hlow]
  by_cases hk : i < 64
  · rw [if_pos hk, txH, UInt64.toNat_xor, Nat.testBit_xor, hs]
    have e1 : h.toNat.testBit (63 - i % 64 + 1) = (decide (0 < i) && bitG (pairB h l) (i - 1)) := by
      rcases Nat.eq_zero_or_pos i with h0 | h0
      · subst h0
        simp [h64]
      · rw [decide_eq_true h0, Bool.true_and, bitG_pair _ _ _ (by omega), if_pos (by omega), show 63 - (i - 1) % 64 = 63 - i % 64 + 1 by omega]
    rw [e1]
    congr 1
    rw [UInt64.toNat_mul, and_low64]
    cases hc : l.toNat.testBit 0
    · simp
    · have e := List.all_eq_true.1 red_bits i (List.mem_range.2 (by omega))
      rw [if_pos rfl, Bool.true_and, Nat.mod_eq_of_lt hk]
      exact eq_of_beq e
  · rw [if_neg hk, txL, UInt64.toNat_or, Nat.testBit_or, hs, UInt64.toNat_shiftLeft]
    have e0 : decide (i = 0 ∨ i = 1 ∨ i = 2 ∨ i = 7) = false := decide_eq_false (by omega)
    rw [e0, Bool.and_false, Bool.xor_false, decide_eq_true (by omega : 0 < i), Bool.true_and, bitG_pair _ _ _ (by omega)]
    simp only [UInt64.reduceToNat, Nat.reduceMod, Nat.testBit_mod_two_pow, Nat.testBit_shiftLeft]
    by_cases h7 : i = 64
    · subst h7
      simp [h64]
    · have hd : decide (63 - i % 64 ≥ 63) = false := decide_eq_false (by omega)
      rw [hd, if_neg (by omega), show 63 - (i - 1) % 64 = 63 - i % 64 + 1 by omega]
      simp
theorem pairB_xor (a b c d : UInt64) : pairB (a ^^^ c) (b ^^^ d) = crossV (pairB a b) (pairB c d) := by
  refine list_ext_bits _ _ (pairB_length _ _) (crossV_length _ _ (pairB_length _ _) (pairB_length _ _)) fun i hi => ?_
  rw [bitG_cross _ _ (by rw [pairB_length, pairB_length]), bitG_pair _ _ i hi, bitG_pair _ _ i hi, bitG_pair _ _ i hi]
  by_cases hk : i < 64
  · rw [if_pos hk, if_pos hk, if_pos hk, UInt64.toNat_xor, Nat.testBit_xor]
  · rw [if_neg hk, if_neg hk, if_neg hk, UInt64.toNat_xor, Nat.testBit_xor]
theorem pairB_zero : pairB 0 0 = zG := by kernel_rfl

/-- doubled n times, and the product so far, in halves -/
def vQ (h l : UInt64) : Nat → UInt64 × UInt64
  | 0 => (h, l)
  | n + 1 => (txH (vQ h l n).1 (vQ h l n).2, txL (vQ h l n).1 (vQ h l n).2)
def bitQ (p : UInt64 × UInt64) (n : Nat) : Bool := (if n < 64 then p.1 else p.2).toNat.testBit (63 - n % 64)
/-- all ones, or none -/
def maskQ (b : Bool) : UInt64 := if b = true then 18446744073709551615 else 0
def tQ (p q : UInt64 × UInt64) : Nat → UInt64 × UInt64
  | 0 => (0, 0)
  | n + 1 => ((tQ p q n).1 ^^^ ((vQ q.1 q.2 n).1 &&& maskQ (bitQ p n)), (tQ p q n).2 ^^^ ((vQ q.1 q.2 n).2 &&& maskQ (bitQ p n)))
theorem vQ_eq (h l : UInt64) (n : Nat) : pairB (vQ h l n).1 (vQ h l n).2 = vG (pairB h l) n := by
  induction n with
  | zero => rfl
  | succ n ih => rw [vQ, vG, ← ih, pairB_tx]
theorem mask_yes (x : UInt64) : x &&& maskQ true = x := by
  show x &&& 18446744073709551615 = x
  exact UInt64.and_neg_one
theorem mask_no (x : UInt64) : x &&& maskQ false = 0 := by
  show x &&& 0 = 0
  exact UInt64.and_zero
theorem tQ_eq (p q : UInt64 × UInt64) (n : Nat) (hn : n ≤ 128) : pairB (tQ p q n).1 (tQ p q n).2 = tG (pairB p.1 p.2) (pairB q.1 q.2) n := by
  induction n with
  | zero => exact pairB_zero
  | succ n ih =>
    have hb : bitQ p n = bitG (pairB p.1 p.2) n := (bitG_pair p.1 p.2 n (by omega)).symm
    rw [tQ, tG, ← ih (by omega), ← vQ_eq, hb]
    cases hc : bitG (pairB p.1 p.2) n
    · rw [mask_no, mask_no, UInt64.xor_zero, UInt64.xor_zero]
      rfl
    · rw [mask_yes, mask_yes, pairB_xor]
      rfl
theorem timesQ_eq (p q : UInt64 × UInt64) : pairB (tQ p q 128).1 (tQ p q 128).2 = timesG (pairB p.1 p.2) (pairB q.1 q.2) := tQ_eq p q 128 (Nat.le_refl _)

/-- bytes packed, the first one highest -/
def pkQ (l : List UInt8) : UInt64 := l.foldl (fun a b => (a <<< 8) ||| b.toUInt64) 0
def pkN (l : List UInt8) : Nat := l.foldl (fun a b => a * 256 + b.toNat) 0
theorem pkQ_snoc (l : List UInt8) (b : UInt8) : pkQ (l ++ [b]) = (pkQ l <<< 8) ||| b.toUInt64 := by simp [pkQ]
theorem pkN_snoc (l : List UInt8) (b : UInt8) : pkN (l ++ [b]) = pkN l * 256 + b.toNat := by simp [pkN]
theorem rev_ind {p : List UInt8 → Prop} (h0 : p []) (h1 : ∀ l b, p l → p (l ++ [b])) (l : List UInt8) : p l := by
  have h : ∀ r : List UInt8, p r.reverse := fun r => by
    induction r with
    | nil => exact h0
    | cons x r ih => rw [List.reverse_cons]; exact h1 _ _ ih
  have e := h l.reverse
  rwa [List.reverse_reverse] at e
theorem pkN_lt (l : List UInt8) : pkN l < 256 ^ l.length := by
  refine rev_ind (p := fun l => pkN l < 256 ^ l.length) (by simp [pkN]) (fun l b ih => ?_) l
  have := b.toNat_lt
  rw [pkN_snoc, List.length_append, List.length_singleton, Nat.pow_succ]
  omega
theorem pkQ_nat (l : List UInt8) (h : l.length ≤ 8) : (pkQ l).toNat = pkN l := by
  refine rev_ind (p := fun l => l.length ≤ 8 → (pkQ l).toNat = pkN l) (fun _ => rfl) (fun l b ih h => ?_) l h
  rw [List.length_append, List.length_singleton] at h
  have hb := b.toNat_lt
  have hl := pkN_lt l
  have hp : 256 ^ l.length ≤ 256 ^ 7 := Nat.pow_le_pow_right (by omega) (by omega)
  have h2 : pkN l < 256 ^ 7 := Nat.lt_of_lt_of_le hl hp
  rw [pkQ_snoc, pkN_snoc, UInt64.toNat_or, UInt64.toNat_shiftLeft, ih (by omega), UInt8.toNat_toUInt64]
  simp only [UInt64.reduceToNat, Nat.reduceMod]
  rw [Nat.mod_eq_of_lt (by rw [Nat.shiftLeft_eq]; omega), ← Nat.shiftLeft_add_eq_or_of_lt (by omega), Nat.shiftLeft_eq]
theorem by8_pack (l : List UInt8) (h : l.length = 8) : by8 (pkQ l) = l := by
  match l, h with
  | [a, b, c, d, e, f, g, k], _ =>
    have hn : (pkQ [a, b, c, d, e, f, g, k]).toNat = pkN [a, b, c, d, e, f, g, k] := pkQ_nat _ (by simp)
    have he : pkN [a, b, c, d, e, f, g, k] = ((((((((0 * 256 + a.toNat) * 256 + b.toNat) * 256 + c.toNat) * 256 + d.toNat) * 256 + e.toNat) * 256 + f.toNat) * 256 + g.toNat) * 256 + k.toNat) := rfl
    have ha := a.toNat_lt
    have hb := b.toNat_lt
    have hc := c.toNat_lt
    have hd := d.toNat_lt
    have hee := e.toNat_lt
    have hf := f.toNat_lt
    have hg := g.toNat_lt
    have hk := k.toNat_lt
    have key : ∀ (x : UInt8) (n : Nat), n % 256 = x.toNat → UInt8.ofNat n = x := fun x n hx => by
      apply UInt8.toNat_inj.1
      rw [UInt8.toNat_ofNat']
      exact hx
    show [UInt8.ofNat ((pkQ [a, b, c, d, e, f, g, k]).toNat / 2 ^ 56), UInt8.ofNat ((pkQ [a, b, c, d, e, f, g, k]).toNat / 2 ^ 48), UInt8.ofNat ((pkQ [a, b, c, d, e, f, g, k]).toNat / 2 ^ 40), UInt8.ofNat ((pkQ [a, b, c, d, e, f, g, k]).toNat / 2 ^ 32), UInt8.ofNat ((pkQ [a, b, c, d, e, f, g, k]).toNat / 2 ^ 24), UInt8.ofNat ((pkQ [a, b, c, d, e, f, g, k]).toNat / 2 ^ 16), UInt8.ofNat ((pkQ [a, b, c, d, e, f, g, k]).toNat / 2 ^ 8), UInt8.ofNat ((pkQ [a, b, c, d, e, f, g, k]).toNat / 2 ^ 0)] = _
    rw [hn, he]
    congr 1
    · exact key _ _ (by omega)
    congr 1
    · exact key _ _ (by omega)
    congr 1
    · exact key _ _ (by omega)
    congr 1
    · exact key _ _ (by omega)
    congr 1
    · exact key _ _ (by omega)
    congr 1
    · exact key _ _ (by omega)
    congr 1
    · exact key _ _ (by omega)
    congr 1
    · exact key _ _ (by omega)
/-- the halves of a block behind j bytes -/
def hvQ (l : List UInt8) (j : Nat) : List UInt64 := [pkQ (l.take (min j 8)), pkQ ((l.drop 8).take (j - 8))]
theorem hvQ_zero (l : List UInt8) : hvQ l 0 = [0, 0] := rfl
theorem take_snoc (l : List UInt8) (j : Nat) (h : j < l.length) : l.take (j + 1) = l.take j ++ [l.getD j 0] := by
  rw [List.take_succ_eq_append_getElem h, List.getD_eq_getElem?_getD, List.getElem?_eq_getElem h]
  rfl
theorem hvQ_next (l : List UInt8) (j : Nat) (h : l.length = 16) (hj : j < 16) : (hvQ l j).set (j / 8) (((hvQ l j).getD (j / 8) 0 <<< 8) ||| (l.getD j 0).toUInt64) = hvQ l (j + 1) := by
  unfold hvQ
  by_cases hk : j < 8
  · rw [show j / 8 = 0 by omega, show min j 8 = j by omega, show min (j + 1) 8 = j + 1 by omega, show j - 8 = 0 by omega, show j + 1 - 8 = 0 by omega, take_snoc l j (by omega), pkQ_snoc]
    rfl
  · rw [show j / 8 = 1 by omega, show min j 8 = 8 by omega, show min (j + 1) 8 = 8 by omega, show j + 1 - 8 = (j - 8) + 1 by omega, take_snoc (l.drop 8) (j - 8) (by rw [List.length_drop]; omega), pkQ_snoc]
    have e : (l.drop 8).getD (j - 8) 0 = l.getD j 0 := by
      rw [List.getD_eq_getElem?_getD, List.getElem?_drop, show 8 + (j - 8) = j by omega, List.getD_eq_getElem?_getD]
    rw [e]
    rfl
/-- a block's two halves -/
def hiQ (l : List UInt8) : UInt64 := pkQ (l.take 8)
def loQ (l : List UInt8) : UInt64 := pkQ (l.drop 8)
theorem hvQ_full (l : List UInt8) (h : l.length = 16) : hvQ l 16 = [hiQ l, loQ l] := by
  unfold hvQ hiQ loQ
  rw [show min 16 8 = 8 from rfl, List.take_of_length_le (l := l.drop 8) (by rw [List.length_drop]; omega)]
theorem pair_halves (l : List UInt8) (h : l.length = 16) : pairB (hiQ l) (loQ l) = l := by
  unfold pairB hiQ loQ
  rw [by8_pack _ (by rw [List.length_take]; omega), by8_pack _ (by rw [List.length_drop]; omega), List.take_append_drop]
end Go.Proofs.Ytkeleehkjllgeaa
