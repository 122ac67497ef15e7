/-
  Reading a header as the document tells it, place by place, is reading it part by part.
-/
import Derived.Test.YtonoljcgcfjkmaaHdP
namespace Go.Proofs.Ytonoljcgcfjkmaa
open Go.RowKit
set_option linter.unusedVariables false

/-- nothing but a code -/
def errR (c : Nat) : (Hdr × Nat × Nat) × Nat := ((Hdr.zero, 0, 0), c)
/-- a header as far as its number -/
def hdrB (b ver : Nat) (d s t : List UInt8) : Hdr := ⟨longB b, kindB b, ver, d, s, t, spinB b, phaseB b, 0, nlB b⟩
def endL (l : List UInt8) (b ver : Nat) (d s t : List UInt8) (p : Nat) : (Hdr × Nat × Nat) × Nat :=
  if (getV (l.drop p)).2.2 ≠ 0 then errR (getV (l.drop p)).2.2 else ((hdrB b ver d s t, p + (getV (l.drop p)).2.1, min (getV (l.drop p)).1 1073741824), 0)
def tokL (l : List UInt8) (b ver : Nat) (d s : List UInt8) (p : Nat) : (Hdr × Nat × Nat) × Nat :=
  if (getV (l.drop p)).2.2 ≠ 0 then errR (getV (l.drop p)).2.2 else if 100 < (getV (l.drop p)).1 then errR 5 else
    if l.length < p + (getV (l.drop p)).2.1 + (getV (l.drop p)).1 then errR 3 else
      endL l b ver d s ((l.drop (p + (getV (l.drop p)).2.1)).take (getV (l.drop p)).1) (p + (getV (l.drop p)).2.1 + (getV (l.drop p)).1)
def restL (l : List UInt8) (b ver : Nat) (d s : List UInt8) (p : Nat) : (Hdr × Nat × Nat) × Nat :=
  if kindB b = 0 then tokL l b ver d s p else endL l b ver d s [] p
def srcL (l : List UInt8) (b ver : Nat) (d : List UInt8) : (Hdr × Nat × Nat) × Nat :=
  if l.length ≤ 14 then errR 3 else if 20 < (l.getD 14 0).toNat then errR 5 else if l.length < 15 + (l.getD 14 0).toNat then errR 3 else
    restL l b ver d ((l.drop 15).take (l.getD 14 0).toNat) (15 + (l.getD 14 0).toNat)
def dstL (l : List UInt8) (b ver : Nat) : (Hdr × Nat × Nat) × Nat :=
  if l.length ≤ 5 then errR 3 else if (l.getD 5 0).toNat ≠ 8 then errR 5 else if l.length < 14 then errR 3 else srcL l b ver ((l.drop 6).take 8)
def longL (l : List UInt8) (b : Nat) : (Hdr × Nat × Nat) × Nat :=
  if b / 16 % 2 = 1 ∨ b / 4 % 4 ≠ 0 then errR 5 else if l.length < 5 then errR 3 else dstL l b (beN 0 ((l.drop 1).take 4))
def shortL (l : List UInt8) (b : Nat) : (Hdr × Nat × Nat) × Nat :=
  if b / 8 % 4 ≠ 0 then errR 5 else if l.length < 9 then errR 3 else ((hdrB b 0 ((l.drop 1).take 8) [] [], 9, l.length - 9), 0)
def leadR (l : List UInt8) : (Hdr × Nat × Nat) × Nat :=
  if l.length = 0 then errR 3 else if (l.getD 0 0).toNat / 64 % 2 = 0 then errR 5 else
    if 128 ≤ (l.getD 0 0).toNat then longL l (l.getD 0 0).toNat else shortL l (l.getD 0 0).toNat
def finR (l : List UInt8) (r : (Hdr × Nat × Nat) × Nat) : (Hdr × Nat × Nat) × Nat :=
  if r.2 ≠ 0 then errR r.2 else if r.1.1.long = true ∧ r.1.2.2 < r.1.1.nl then errR 5 else if l.length < r.1.2.1 + r.1.1.nl then errR 3 else
    if l.length < r.1.2.1 + r.1.2.2 then errR 3 else (({ r.1.1 with num := beN 0 ((l.drop r.1.2.1).take r.1.1.nl) }, r.1.2.1 + r.1.1.nl, r.1.2.2 - r.1.1.nl), 0)
def getR (l : List UInt8) : (Hdr × Nat × Nat) × Nat := finR l (leadR l)

theorem finR_err (l : List UInt8) (c : Nat) (h : c ≠ 0) : finR l (errR c) = errR c := by unfold finR; exact if_pos h
theorem dead_expect (q n : Nat) (hq : q ≠ 0) : expectP ([], q) n = ([], q) := by
  unfold expectP failP
  split
  · simp
  · rfl
theorem dead_fail (q k : Nat) (hq : q ≠ 0) : failP ([], q) k = ([], q) := by simp [failP, hq]
theorem dead_bytes (q n : Nat) (hq : q ≠ 0) : bytesP ([], q) n = ([], ([], q)) := by
  unfold bytesP
  rw [dead_expect q n hq]
  exact if_neg hq
theorem dead_whole (q n : Nat) (hq : q ≠ 0) : wholeP ([], q) n = (0, ([], q)) := by
  unfold wholeP
  rw [dead_bytes q n hq]
  rfl
theorem dead_varint (q : Nat) (hq : q ≠ 0) : varintP ([], q) = (0, ([], q)) := by
  unfold varintP
  simp [getV, dead_fail q 3 hq]
theorem dead_name (q lo hi : Nat) (hq : q ≠ 0) : nameP ([], q) lo hi = ([], ([], q)) := by
  unfold nameP
  rw [dead_whole q 1 hq]
  simp only [dead_fail q 5 hq, ite_self, dead_bytes q 0 hq]
theorem dead_token (q : Nat) (hq : q ≠ 0) : tokenP ([], q) = ([], ([], q)) := by
  unfold tokenP
  rw [dead_varint q hq]
  simp only [dead_bytes q 0 hq]
  exact if_neg (by omega)
theorem dead_told (q nl : Nat) (hq : q ≠ 0) : toldP ([], q) nl = (0, ([], q)) := by
  unfold toldP
  rw [dead_varint q hq]
  simp only [dead_fail q 5 hq, Nat.zero_sub, ite_self]
theorem dead_end (h : Hdr) (len q bh : Nat) (hq : q ≠ 0) : endP h len ([], q) bh = errR q := by
  unfold endP
  rw [dead_expect q bh hq]
  exact if_neg hq
theorem dead_tail (len b ver q : Nat) (d s t : List UInt8) (hq : q ≠ 0) : tailP len b ver d s t ([], q) = errR q := by
  unfold tailP
  rw [dead_told q _ hq]
  simp only [dead_whole q _ hq]
  exact dead_end _ _ _ _ hq
theorem dead_long (len b q : Nat) (hq : q ≠ 0) : longP len b ([], q) = errR q := by
  unfold longP
  simp only [dead_whole q _ hq, dead_name q _ _ hq, dead_token q hq, dead_tail _ _ _ q _ _ _ hq, ite_self]
theorem dead_short (len b q : Nat) (hq : q ≠ 0) : shortP len b ([], q) = errR q := by
  unfold shortP
  simp only [dead_bytes q _ hq, dead_whole q _ hq]
  exact dead_end _ _ _ _ hq

theorem expect_no (l : List UInt8) (p n : Nat) (hp : p ≤ l.length) (h : l.length < p + n) : expectP (l.drop p, 0) n = ([], 3) := by
  unfold expectP
  rw [if_pos (by simp only [List.length_drop]; omega)]
  rfl
theorem expect_yes (l : List UInt8) (p n : Nat) (h : p + n ≤ l.length) : expectP (l.drop p, 0) n = (l.drop p, 0) := by
  unfold expectP
  rw [if_neg (by simp only [List.length_drop]; omega)]
theorem bytes_no (l : List UInt8) (p n : Nat) (hp : p ≤ l.length) (h : l.length < p + n) : bytesP (l.drop p, 0) n = ([], ([], 3)) := by
  have e : expectP (l.drop p, 0) n = ([], 3) := by unfold expectP; rw [if_pos (by simp only [List.length_drop]; omega)]; rfl
  unfold bytesP
  rw [e]
  rfl
theorem bytes_yes (l : List UInt8) (p n : Nat) (h : p + n ≤ l.length) : bytesP (l.drop p, 0) n = ((l.drop p).take n, (l.drop (p + n), 0)) := by
  have e : expectP (l.drop p, 0) n = (l.drop p, 0) := by unfold expectP; rw [if_neg (by simp only [List.length_drop]; omega)]
  unfold bytesP
  rw [e, if_pos rfl]
  simp
theorem whole_no (l : List UInt8) (p n : Nat) (hp : p ≤ l.length) (h : l.length < p + n) : wholeP (l.drop p, 0) n = (0, ([], 3)) := by
  unfold wholeP
  rw [bytes_no l p n hp h]
  rfl
theorem whole_yes (l : List UInt8) (p n : Nat) (h : p + n ≤ l.length) : wholeP (l.drop p, 0) n = (beN 0 ((l.drop p).take n), (l.drop (p + n), 0)) := by
  unfold wholeP
  rw [bytes_yes l p n h]
theorem take_one (l : List UInt8) (p : Nat) (h : p < l.length) : (l.drop p).take 1 = [l.getD p 0] := by
  rw [List.drop_eq_getElem_cons h, List.take_succ_cons, List.take_zero, List.getD_eq_getElem?_getD, List.getElem?_eq_getElem h]
  rfl
theorem whole_first (l : List UInt8) (p : Nat) (h : p < l.length) : wholeP (l.drop p, 0) 1 = ((l.getD p 0).toNat, (l.drop (p + 1), 0)) := by
  rw [whole_yes l p 1 (by omega), take_one l p h]
  simp [beN]
theorem varint_no (l : List UInt8) (p : Nat) (h : (getV (l.drop p)).2.2 ≠ 0) : varintP (l.drop p, 0) = (0, ([], (getV (l.drop p)).2.2)) := by
  unfold varintP
  rw [if_neg h]
  simp [failP]
theorem varint_yes (l : List UInt8) (p : Nat) (h : (getV (l.drop p)).2.2 = 0) : varintP (l.drop p, 0) = ((getV (l.drop p)).1, (l.drop (p + (getV (l.drop p)).2.1), 0)) := by
  unfold varintP
  rw [if_pos h]
  simp
theorem fail_live (s : List UInt8) (k : Nat) : failP (s, 0) k = ([], k) := rfl

/-- from the told length on -/
theorem end_same (l : List UInt8) (b ver : Nat) (d s t : List UInt8) (p : Nat) (hl : l.length < 1073741824) (hL : longB b = true) (hp : p ≤ l.length) : finR l (endL l b ver d s t p) = tailP l.length b ver d s t (l.drop p, 0) := by
  have hfit := getV_fits (l.drop p)
  have hnl : nlB b ≤ 4 := by unfold nlB; omega
  unfold endL tailP toldP
  by_cases h0 : (getV (l.drop p)).2.2 = 0
  · rw [if_neg (by omega), varint_yes l p h0]
    simp only
    generalize hv : getV (l.drop p) = g at *
    obtain ⟨v, m, q⟩ := g
    simp only at *
    rw [List.length_drop] at hfit
    obtain ⟨hm, hv62, _⟩ := hfit
    unfold finR hdrB
    simp only [ne_eq, not_true_eq_false, if_false, hL, true_and]
    by_cases h1 : v < nlB b
    · rw [if_pos (by omega), if_pos h1]
      simp only [fail_live, dead_whole 5 _ (by omega : (5 : Nat) ≠ 0)]
      exact (dead_end _ _ _ _ (by omega)).symm
    · rw [if_neg (by omega), if_neg h1]
      simp only
      by_cases h2 : l.length < p + m + nlB b
      · rw [if_pos h2, whole_no l (p + m) _ (by omega) h2]
        exact (dead_end _ _ _ _ (by omega)).symm
      · rw [if_neg h2, whole_yes l (p + m) _ (by omega)]
        simp only
        unfold endP
        by_cases h3 : l.length < p + m + min v 1073741824
        · rw [if_pos h3, expect_no l _ _ (by omega) (by omega), if_neg (by simp)]
          rfl
        · rw [if_neg h3, expect_yes l _ _ (by omega), if_pos rfl]
          simp only [List.length_drop]
          refine Prod.ext (Prod.ext rfl (Prod.ext ?_ ?_)) rfl
          · simp only; omega
          · simp only; omega
  · rw [if_pos h0, varint_no l p h0, finR_err l _ h0]
    simp only [Nat.zero_sub]
    rcases Nat.lt_or_ge 0 (nlB b) with h | h
    · rw [if_pos h]
      simp only [dead_fail _ 5 h0, dead_whole _ _ h0]
      exact (dead_end _ _ _ _ h0).symm
    · rw [if_neg (by omega)]
      simp only [dead_whole _ _ h0]
      exact (dead_end _ _ _ _ h0).symm
theorem tok_same (l : List UInt8) (b ver : Nat) (d s : List UInt8) (p : Nat) (hl : l.length < 1073741824) (hL : longB b = true) (hp : p ≤ l.length) :
    finR l (tokL l b ver d s p) = tailP l.length b ver d s (tokenP (l.drop p, 0)).1 (tokenP (l.drop p, 0)).2 := by
  have hfit := getV_fits (l.drop p)
  unfold tokL tokenP
  by_cases h0 : (getV (l.drop p)).2.2 = 0
  · rw [if_neg (by omega), varint_yes l p h0]
    simp only
    rw [List.length_drop] at hfit
    by_cases h1 : 100 < (getV (l.drop p)).1
    · rw [if_pos h1, if_pos h1, finR_err l _ (by omega)]
      exact (dead_tail _ _ _ _ _ _ _ (by omega)).symm
    · rw [if_neg h1, if_neg h1]
      by_cases h2 : l.length < p + (getV (l.drop p)).2.1 + (getV (l.drop p)).1
      · rw [if_pos h2, bytes_no l _ _ (by omega) h2, finR_err l _ (by omega)]
        exact (dead_tail _ _ _ _ _ _ _ (by omega)).symm
      · rw [if_neg h2, bytes_yes l _ _ (by omega)]
        exact end_same l b ver d s _ _ hl hL (by omega)
  · rw [if_pos h0, varint_no l p h0, finR_err l _ h0]
    simp only
    rw [if_neg (by omega), dead_bytes _ _ h0]
    exact (dead_tail _ _ _ _ _ _ _ h0).symm
theorem name_no (l : List UInt8) (p lo hi : Nat) (h : l.length = p) : nameP (l.drop p, 0) lo hi = ([], ([], 3)) := by
  unfold nameP
  rw [whole_no l p 1 (by omega) (by omega)]
  simp only [dead_fail 3 5 (by omega), ite_self]
  exact dead_bytes 3 0 (by omega)
theorem name_bad (l : List UInt8) (p lo hi : Nat) (h : p < l.length) (hb : (l.getD p 0).toNat < lo ∨ hi < (l.getD p 0).toNat) : nameP (l.drop p, 0) lo hi = ([], ([], 5)) := by
  unfold nameP
  rw [whole_first l p h]
  simp only
  rw [if_pos hb, fail_live]
  exact dead_bytes 5 _ (by omega)
theorem name_cut (l : List UInt8) (p lo hi : Nat) (h : p < l.length) (hb : ¬ ((l.getD p 0).toNat < lo ∨ hi < (l.getD p 0).toNat)) (hc : l.length < p + 1 + (l.getD p 0).toNat) : nameP (l.drop p, 0) lo hi = ([], ([], 3)) := by
  unfold nameP
  rw [whole_first l p h]
  simp only
  rw [if_neg hb]
  exact bytes_no l (p + 1) _ (by omega) hc
theorem name_yes (l : List UInt8) (p lo hi : Nat) (h : p < l.length) (hb : ¬ ((l.getD p 0).toNat < lo ∨ hi < (l.getD p 0).toNat)) (hc : p + 1 + (l.getD p 0).toNat ≤ l.length) :
    nameP (l.drop p, 0) lo hi = ((l.drop (p + 1)).take (l.getD p 0).toNat, (l.drop (p + 1 + (l.getD p 0).toNat), 0)) := by
  unfold nameP
  rw [whole_first l p h]
  simp only
  rw [if_neg hb]
  exact bytes_yes l (p + 1) _ hc
theorem rest_same (l : List UInt8) (b ver : Nat) (d s : List UInt8) (p : Nat) (hl : l.length < 1073741824) (hL : longB b = true) (hk : kindB b = 0 ∨ kindB b = 2) (hp : p ≤ l.length) :
    finR l (restL l b ver d s p) = if kindB b = 2 then tailP l.length b ver d s [] (l.drop p, 0) else tailP l.length b ver d s (tokenP (l.drop p, 0)).1 (tokenP (l.drop p, 0)).2 := by
  unfold restL
  rcases hk with hk | hk
  · rw [if_pos hk, if_neg (by omega)]
    exact tok_same l b ver d s p hl hL hp
  · rw [if_neg (by omega), if_pos hk]
    exact end_same l b ver d s [] p hl hL hp
theorem long_same (l : List UInt8) (b : Nat) (hl : l.length < 1073741824) (hL : longB b = true) (hk : kindB b = 0 ∨ kindB b = 2) (h1 : 1 ≤ l.length) (hb : ¬ (b / 16 % 2 = 1 ∨ b / 4 % 4 ≠ 0)) :
    finR l (longL l b) = longP l.length b (l.drop 1, 0) := by
  unfold longL longP
  rw [if_neg hb]
  by_cases h5 : l.length < 5
  · rw [if_pos h5, whole_no l 1 4 h1 (by omega), finR_err l _ (by omega)]
    simp only [dead_name 3 _ _ (by omega : (3 : Nat) ≠ 0), dead_token 3 (by omega : (3 : Nat) ≠ 0), dead_tail _ _ _ 3 _ _ _ (by omega : (3 : Nat) ≠ 0), ite_self]
  · rw [if_neg h5, whole_yes l 1 4 (by omega)]
    simp only [Nat.reduceAdd]
    generalize beN 0 ((l.drop 1).take 4) = ver
    unfold dstL
    by_cases h6 : l.length ≤ 5
    · rw [if_pos h6, name_no l 5 8 8 (by omega), finR_err l _ (by omega)]
      simp only [dead_name 3 _ _ (by omega : (3 : Nat) ≠ 0), dead_token 3 (by omega : (3 : Nat) ≠ 0), dead_tail _ _ _ 3 _ _ _ (by omega : (3 : Nat) ≠ 0), ite_self]
    · rw [if_neg h6]
      by_cases h8 : (l.getD 5 0).toNat ≠ 8
      · rw [if_pos h8, name_bad l 5 8 8 (by omega) (by omega), finR_err l _ (by omega)]
        simp only [dead_name 5 _ _ (by omega : (5 : Nat) ≠ 0), dead_token 5 (by omega : (5 : Nat) ≠ 0), dead_tail _ _ _ 5 _ _ _ (by omega : (5 : Nat) ≠ 0), ite_self]
      · rw [if_neg h8]
        by_cases h14 : l.length < 14
        · rw [if_pos h14, name_cut l 5 8 8 (by omega) (by omega) (by omega), finR_err l _ (by omega)]
          simp only [dead_name 3 _ _ (by omega : (3 : Nat) ≠ 0), dead_token 3 (by omega : (3 : Nat) ≠ 0), dead_tail _ _ _ 3 _ _ _ (by omega : (3 : Nat) ≠ 0), ite_self]
        · rw [if_neg h14, name_yes l 5 8 8 (by omega) (by omega) (by omega)]
          have h8' : (l.getD 5 0).toNat = 8 := by omega
          rw [h8']
          simp only [Nat.reduceAdd]
          generalize (l.drop 6).take 8 = d
          unfold srcL
          by_cases h15 : l.length ≤ 14
          · rw [if_pos h15, name_no l 14 0 20 (by omega), finR_err l _ (by omega)]
            simp only [dead_token 3 (by omega : (3 : Nat) ≠ 0), dead_tail _ _ _ 3 _ _ _ (by omega : (3 : Nat) ≠ 0), ite_self]
          · rw [if_neg h15]
            by_cases h20 : 20 < (l.getD 14 0).toNat
            · rw [if_pos h20, name_bad l 14 0 20 (by omega) (by omega), finR_err l _ (by omega)]
              simp only [dead_token 5 (by omega : (5 : Nat) ≠ 0), dead_tail _ _ _ 5 _ _ _ (by omega : (5 : Nat) ≠ 0), ite_self]
            · rw [if_neg h20]
              by_cases hc : l.length < 15 + (l.getD 14 0).toNat
              · rw [if_pos hc, name_cut l 14 0 20 (by omega) (by omega) (by omega), finR_err l _ (by omega)]
                simp only [dead_token 3 (by omega : (3 : Nat) ≠ 0), dead_tail _ _ _ 3 _ _ _ (by omega : (3 : Nat) ≠ 0), ite_self]
              · rw [if_neg hc, name_yes l 14 0 20 (by omega) (by omega) (by omega)]
                simp only [Nat.reduceAdd]
                exact rest_same l b ver d _ _ hl hL hk (by omega)
theorem short_same (l : List UInt8) (b : Nat) (hL : longB b = false) (h1 : 1 ≤ l.length) (hb : ¬ b / 8 % 4 ≠ 0) : finR l (shortL l b) = shortP l.length b (l.drop 1, 0) := by
  unfold shortL shortP
  rw [if_neg hb]
  by_cases h9 : l.length < 9
  · rw [if_pos h9, bytes_no l 1 8 h1 (by omega), finR_err l _ (by omega)]
    simp only [dead_whole 3 _ (by omega : (3 : Nat) ≠ 0)]
    exact (dead_end _ _ _ _ (by omega)).symm
  · rw [if_neg h9, bytes_yes l 1 8 (by omega)]
    simp only [Nat.reduceAdd]
    unfold finR hdrB
    simp only [ne_eq, not_true_eq_false, if_false, hL, Bool.false_eq_true, false_and]
    by_cases h2 : l.length < 9 + nlB b
    · rw [if_pos h2, whole_no l 9 _ (by omega) h2]
      exact (dead_end _ _ _ _ (by omega)).symm
    · rw [if_neg h2, if_neg (by omega), whole_yes l 9 _ (by omega)]
      simp only
      unfold endP
      rw [expect_yes l _ _ (by simp only [List.length_drop]; omega), if_pos rfl]
      simp only [List.length_drop]
      refine Prod.ext (Prod.ext rfl (Prod.ext ?_ ?_)) rfl
      · simp only; omega
      · simp only; omega
theorem getR_getP (l : List UInt8) (hl : l.length < 1073741824) : getR l = getP l := by
  unfold getR leadR getP firstP
  by_cases h0 : l.length = 0
  · obtain rfl := List.eq_nil_of_length_eq_zero h0
    rw [if_pos h0, finR_err [] _ (by omega)]
    have e : wholeP (([] : List UInt8), 0) 1 = (0, ([], 3)) := by
      have := whole_no [] 0 1 (by simp) (by simp)
      simpa using this
    simp only [e, dead_fail 3 5 (by omega : (3 : Nat) ≠ 0), ite_self, dead_long _ _ 3 (by omega : (3 : Nat) ≠ 0), dead_short _ _ 3 (by omega : (3 : Nat) ≠ 0)]
  · rw [if_neg h0]
    have e := whole_first l 0 (by omega)
    rw [List.drop_zero] at e
    have hb : (l.getD 0 0).toNat < 256 := (l.getD 0 0).toNat_lt
    simp only [e]
    generalize (l.getD 0 0).toNat = b at *
    by_cases h64 : b / 64 % 2 = 0
    · have hbad : badB b = true := by unfold badB; simp [h64]
      rw [if_pos h64, hbad, finR_err l _ (by omega)]
      simp only [if_true, fail_live, dead_long _ _ 5 (by omega : (5 : Nat) ≠ 0), dead_short _ _ 5 (by omega : (5 : Nat) ≠ 0), ite_self]
    · rw [if_neg h64]
      by_cases hL : 128 ≤ b
      · have hLb : longB b = true := by unfold longB; simpa using hL
        have hkb : kindB b = b / 16 % 4 := by unfold kindB; exact if_pos hL
        rw [if_pos hL, if_pos hLb]
        by_cases hq : b / 16 % 2 = 1 ∨ b / 4 % 4 ≠ 0
        · have hbad : badB b = true := by unfold badB; simp only [hL, if_true]; rcases hq with h | h <;> simp [h]
          rw [hbad, if_pos rfl, fail_live, dead_long _ _ 5 (by omega)]
          unfold longL
          rw [if_pos hq]
          exact finR_err l _ (by omega)
        · have hbad : badB b = false := by
            unfold badB
            have h2 : b / 16 % 2 ≠ 1 := fun h => hq (.inl h)
            have h3 : b / 4 % 4 = 0 := by omega
            simp only [hL, if_true]
            simp [h64, h2, h3]
          rw [hbad, if_neg (by simp)]
          exact long_same l b hl hLb (by omega) (by omega) hq
      · have hLb : longB b = false := by unfold longB; simpa using hL
        rw [if_neg hL, if_neg (by simp [hLb])]
        by_cases hq : b / 8 % 4 ≠ 0
        · have hbad : badB b = true := by unfold badB; simp [hL, hq]
          rw [hbad, if_pos rfl, fail_live, dead_short _ _ 5 (by omega)]
          unfold shortL
          rw [if_pos hq]
          exact finR_err l _ (by omega)
        · have hbad : badB b = false := by
            unfold badB
            have h3 : b / 8 % 4 = 0 := by omega
            simp [hL, h64, h3]
          rw [hbad, if_neg (by simp)]
          exact short_same l b hLb (by omega) hq
end Go.Proofs.Ytonoljcgcfjkmaa
