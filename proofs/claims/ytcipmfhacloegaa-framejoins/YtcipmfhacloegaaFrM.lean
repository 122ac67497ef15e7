/-
  What frame.Get reads is what bytes tell: part by part as getX reads them.
-/
import Derived.Test.YtcipmfhacloegaaFrL
namespace Go.Proofs.Ytcipmfhacloegaa
open Go.RowKit
set_option linter.unusedVariables false

theorem failP_ok (l : List UInt8) (k : Nat) : failP (l, 0) k = ([], k) := rfl
theorem failP_dead (l : List UInt8) (e k : Nat) (he : e ≠ 0) : failP (l, e) k = ([], e) := by unfold failP; simp [he]
theorem varintP_dead (e : Nat) (he : e ≠ 0) : varintP ([], e) = (0, ([], e)) := by
  have h : getV [] = (0, 0, 3) := rfl
  unfold varintP
  simp only [h]
  rw [if_neg (by omega), failP_dead _ _ _ he]
theorem bytesP_dead (e k : Nat) (he : e ≠ 0) : bytesP ([], e) k = ([], ([], e)) := by
  have h : expectP ([], e) k = ([], e) := by
    unfold expectP
    split
    · exact failP_dead _ _ _ he
    · rfl
  unfold bytesP
  rw [h]
  simp [he]
theorem wholeP_dead (e k : Nat) (he : e ≠ 0) : wholeP ([], e) k = (0, ([], e)) := by
  unfold wholeP
  rw [bytesP_dead e k he]
  rfl
theorem belowP_dead (e a l : Nat) (he : e ≠ 0) : (belowP ([], e) a l).2 = ([], e) := by
  unfold belowP
  rw [varintP_dead e he]
  split
  · exact failP_dead _ _ _ he
  · rfl
theorem nothingP_dead (e : Nat) (he : e ≠ 0) : nothingP ([], e) = ([], e) := by
  unfold nothingP
  rw [varintP_dead e he]
  rfl
theorem name8P_dead (e : Nat) (he : e ≠ 0) : name8P ([], e) = ([], ([], e)) := by
  unfold name8P
  rw [wholeP_dead e 1 he]
  simp only
  rw [if_neg (by omega), failP_dead _ _ _ he, bytesP_dead e 8 he]
theorem dataP_dead (e o : Nat) (he : e ≠ 0) : (dataP ([], e) o).2 = ([], e) := by
  unfold dataP
  rw [varintP_dead e he]
  simp only
  split
  · rw [bytesP_dead e 0 he]
  · rw [failP_dead _ _ _ he, bytesP_dead e 0 he]
theorem loopP_dead (k lo e : Nat) (acc : List (Nat × Nat)) (he : e ≠ 0) : (loopP k lo ([], e) acc).2 = ([], e) := by
  induction k generalizing lo acc with
  | zero => rfl
  | succ k ih =>
    unfold loopP
    rw [belowP_dead e lo 2 he, belowP_dead e _ 0 he]
    exact ih _ _
theorem getV_code (l : List UInt8) : (getV l).2.2 = 0 ∨ (getV l).2.2 = 3 := (getV_fits l).2.2
theorem num_cases (l : List UInt8) : (∃ v r, numX l maxV = .ok (v, r) ∧ varintP (l, 0) = (v, (r, 0)) ∧ v < 4611686018427387904 ∧ ∀ m, numX l m = if m < v then .error 5 else .ok (v, r)) ∨ (∃ e, e ≠ 0 ∧ (∀ m, numX l m = .error e) ∧ varintP (l, 0) = (0, ([], e))) := by
  have h62 := (getV_fits l).2.1
  rcases getV_code l with h | h
  · refine .inl ⟨(getV l).1, l.drop (getV l).2.1, ?_, ?_, h62, fun m => ?_⟩
    · unfold numX maxV
      rw [if_neg (by omega), if_neg (by omega)]
    · unfold varintP
      simp only
      rw [if_pos h]
    · unfold numX
      rw [if_neg (by omega)]
  · refine .inr ⟨3, by omega, fun m => ?_, ?_⟩
    · unfold numX
      rw [if_pos (by omega), h]
    · unfold varintP
      simp only
      rw [if_neg (by omega), h]
      rfl
theorem bytes_cases (l : List UInt8) (k : Nat) : (bytesX l k = .ok (l.take k, l.drop k) ∧ bytesP (l, 0) k = (l.take k, (l.drop k, 0))) ∨ (bytesX l k = .error 3 ∧ bytesP (l, 0) k = ([], ([], 3))) := by
  by_cases h : l.length < k
  · refine .inr ⟨by unfold bytesX; rw [if_pos h], ?_⟩
    have e : expectP (l, 0) k = ([], 3) := by unfold expectP; rw [if_pos h]; rfl
    unfold bytesP
    rw [e]
    rfl
  · refine .inl ⟨by unfold bytesX; rw [if_neg h], ?_⟩
    have e : expectP (l, 0) k = (l, 0) := by unfold expectP; rw [if_neg h]
    unfold bytesP
    rw [e]
    rfl
theorem nothing_cases (l : List UInt8) : (∃ r, numX l 0 = .ok (0, r) ∧ nothingP (l, 0) = (r, 0)) ∨ (∃ e, e ≠ 0 ∧ numX l 0 = .error e ∧ nothingP (l, 0) = ([], e)) := by
  unfold nothingP
  rcases num_cases l with ⟨v, r, h1, h2, h3, h4⟩ | ⟨e, he, h1, h2⟩
  · rw [h2]
    by_cases hv : v = 0
    · subst hv
      exact .inl ⟨r, by rw [h4 0]; rfl, rfl⟩
    · refine .inr ⟨5, by omega, by rw [h4 0, if_pos (by omega)], ?_⟩
      simp only
      rw [if_neg hv]
      rfl
  · rw [h2]
    exact .inr ⟨e, he, h1 0, rfl⟩
theorem whole1 (b : UInt8) (r : List UInt8) : wholeP (b :: r, 0) 1 = (b.toNat, (r, 0)) := by
  have e : expectP (b :: r, 0) 1 = (b :: r, 0) := by unfold expectP; rw [if_neg (by simp)]
  unfold wholeP bytesP
  rw [e]
  simp [beN]
theorem name_cases (l : List UInt8) : (∃ c r, (thenX (bytesX l 1) fun o => if o.1 ≠ [8] then (.error 5 : Except Nat (List UInt8 × List UInt8)) else bytesX o.2 8) = .ok (c, r) ∧ name8P (l, 0) = (c, (r, 0))) ∨
    (∃ e, e ≠ 0 ∧ (thenX (bytesX l 1) fun o => if o.1 ≠ [8] then (.error 5 : Except Nat (List UInt8 × List UInt8)) else bytesX o.2 8) = .error e ∧ name8P (l, 0) = ([], ([], e))) := by
  cases l with
  | nil => exact .inr ⟨3, by omega, rfl, rfl⟩
  | cons b r =>
    have hb : bytesX (b :: r) 1 = .ok ([b], r) := by unfold bytesX; rw [if_neg (by simp)]; simp
    unfold name8P
    rw [hb, thenX_ok, whole1]
    simp only
    by_cases h8 : b.toNat = 8
    · have h8' : b = 8 := UInt8.toNat_inj.1 h8
      subst h8'
      rw [if_neg (by simp), if_pos h8]
      rcases bytes_cases r 8 with ⟨h1, h2⟩ | ⟨h1, h2⟩
      · exact .inl ⟨_, _, h1, h2⟩
      · exact .inr ⟨3, by omega, h1, h2⟩
    · have h8' : [b] ≠ [8] := fun h => h8 (by injection h with h; rw [h]; rfl)
      rw [if_pos h8', if_neg h8]
      exact .inr ⟨5, by omega, rfl, bytesP_dead 5 8 (by omega)⟩
theorem data_cases (l : List UInt8) (o : Nat) : (∃ d r, (thenX (numX l 16383) fun k => if maxV < o + k.1 then (.error 5 : Except Nat (List UInt8 × List UInt8)) else bytesX k.2 k.1) = .ok (d, r) ∧ dataP (l, 0) o = (d, (r, 0))) ∨
    (∃ e, e ≠ 0 ∧ (thenX (numX l 16383) fun k => if maxV < o + k.1 then (.error 5 : Except Nat (List UInt8 × List UInt8)) else bytesX k.2 k.1) = .error e ∧ (dataP (l, 0) o).2 = ([], e)) := by
  unfold dataP
  rcases num_cases l with ⟨v, r, h1, h2, h3, h4⟩ | ⟨e, he, h1, h2⟩
  · rw [h2, h4 16383]
    simp only
    by_cases hv : 16383 < v
    · rw [if_pos hv, thenX_err, if_neg (by omega)]
      refine .inr ⟨5, by omega, rfl, ?_⟩
      rw [failP_ok, bytesP_dead 5 v (by omega)]
    · rw [if_neg hv, thenX_ok]
      simp only
      by_cases ho : maxV < o + v
      · rw [if_pos ho, if_neg (by omega)]
        refine .inr ⟨5, by omega, rfl, ?_⟩
        rw [failP_ok, bytesP_dead 5 v (by omega)]
      · rw [if_neg ho, if_pos (by omega)]
        rcases bytes_cases r v with ⟨g1, g2⟩ | ⟨g1, g2⟩
        · exact .inl ⟨_, _, g1, g2⟩
        · exact .inr ⟨3, by omega, g1, by rw [g2]⟩
  · rw [h2, h1 16383, thenX_err]
    refine .inr ⟨e, he, rfl, ?_⟩
    simp only
    split
    · rw [bytesP_dead e 0 he]
    · rw [failP_dead _ _ _ he, bytesP_dead e 0 he]
theorem below0_cases (l : List UInt8) (a : Nat) : (∃ v r, numX l a = .ok (v, r) ∧ v ≤ a ∧ belowP (l, 0) a 0 = (a - v, (r, 0))) ∨ (∃ e, e ≠ 0 ∧ numX l a = .error e ∧ (belowP (l, 0) a 0).2 = ([], e)) := by
  unfold belowP
  rcases num_cases l with ⟨v, r, h1, h2, h3, h4⟩ | ⟨e, he, h1, h2⟩
  · rw [h2, h4 a]
    simp only [Nat.add_zero]
    by_cases hv : a < v
    · rw [if_pos hv, if_pos hv]
      exact .inr ⟨5, by omega, rfl, rfl⟩
    · rw [if_neg hv, if_neg hv]
      exact .inl ⟨v, r, rfl, by omega, rfl⟩
  · rw [h2, h1 a]
    refine .inr ⟨e, he, rfl, ?_⟩
    split
    · exact failP_dead _ _ _ he
    · rfl
theorem below2_cases (l : List UInt8) (lo : Nat) : (∃ g r, numX l maxV = .ok (g, r) ∧ ¬ (lo < 2 ∨ lo - 2 < g) ∧ belowP (l, 0) lo 2 = (lo - 2 - g, (r, 0))) ∨ (∃ g r, numX l maxV = .ok (g, r) ∧ (lo < 2 ∨ lo - 2 < g) ∧ (belowP (l, 0) lo 2).2 = ([], 5)) ∨ (∃ e, e ≠ 0 ∧ numX l maxV = .error e ∧ (belowP (l, 0) lo 2).2 = ([], e)) := by
  unfold belowP
  rcases num_cases l with ⟨v, r, h1, h2, h3, h4⟩ | ⟨e, he, h1, h2⟩
  · rw [h2, h1]
    simp only
    by_cases hv : lo < v + 2
    · rw [if_pos hv]
      exact .inr (.inl ⟨v, r, rfl, by omega, rfl⟩)
    · rw [if_neg hv]
      exact .inl ⟨v, r, rfl, by omega, by rw [show lo - (v + 2) = lo - 2 - v by omega]⟩
  · rw [h2, h1 maxV]
    refine .inr (.inr ⟨e, he, rfl, ?_⟩)
    split
    · exact failP_dead _ _ _ he
    · rfl
theorem loop_cases (k lo : Nat) (l : List UInt8) (acc : List (Nat × Nat)) : (∃ rs r, moreX k lo l = .ok (rs, r) ∧ loopP k lo (l, 0) acc = (acc ++ rs, (r, 0))) ∨ (∃ e, e ≠ 0 ∧ moreX k lo l = .error e ∧ (loopP k lo (l, 0) acc).2 = ([], e)) := by
  induction k generalizing lo l acc with
  | zero => exact .inl ⟨[], l, rfl, by simp [loopP]⟩
  | succ k ih =>
    unfold moreX loopP
    rcases below2_cases l lo with ⟨g, r, h1, h2, h3⟩ | ⟨g, r, h1, h2, h3⟩ | ⟨e, he, h1, h3⟩
    · rw [h1, thenX_ok, h3]
      simp only
      rw [if_neg h2]
      rcases below0_cases r (lo - 2 - g) with ⟨m, r2, g1, g2, g3⟩ | ⟨e, he, g1, g3⟩
      · rw [g1, thenX_ok, g3]
        simp only
        rcases ih (lo - 2 - g - m) r2 (acc ++ [(lo - 2 - g - m, lo - 2 - g)]) with ⟨rs, r3, j1, j2⟩ | ⟨e, he, j1, j2⟩
        · rw [j1, thenX_ok, j2]
          exact .inl ⟨_, _, rfl, by simp⟩
        · rw [j1, thenX_err]
          exact .inr ⟨e, he, rfl, j2⟩
      · rw [g1, thenX_err]
        refine .inr ⟨e, he, rfl, ?_⟩
        rw [g3]
        exact loopP_dead _ _ _ _ he
    · rw [h1, thenX_ok]
      simp only
      rw [if_pos h2]
      refine .inr ⟨5, by omega, rfl, ?_⟩
      rw [h3, belowP_dead 5 _ 0 (by omega)]
      exact loopP_dead _ _ _ _ (by omega)
    · rw [h1, thenX_err]
      refine .inr ⟨e, he, rfl, ?_⟩
      rw [h3, belowP_dead e _ 0 he]
      exact loopP_dead _ _ _ _ he
/-- what Get tells, out of getX -/
def getR (l : List UInt8) : (Fr × Nat) × Nat := match getX l with
  | .ok (f, r) => ((f, l.length - r.length), 0)
  | .error e => ((Fr.of 0, 0), e)
def tellX (n : Nat) : Except Nat (Fr × List UInt8) → (Fr × Nat) × Nat
  | .ok (f, r) => ((f, n - r.length), 0)
  | .error e => ((Fr.of 0, 0), e)
theorem getR_tell (l : List UInt8) : getR l = tellX l.length (getX l) := by
  unfold getR tellX
  cases getX l <;> rfl
theorem end_ok (n : Nat) (f : Fr) (r : List UInt8) : endF n (f, (r, 0)) = tellX n (.ok (f, r)) := rfl
theorem end_err (n : Nat) (f : Fr) (s : List UInt8 × Nat) (e : Nat) (he : e ≠ 0) (hs : s = ([], e)) : endF n (f, s) = tellX n (.error e) := by
  subst hs
  unfold endF
  simp only
  rw [if_neg he]
  rfl
theorem t_num (n : Nat) (r : List UInt8) (F : Nat → Fr) : endF n (F (varintP (r, 0)).1, (varintP (r, 0)).2) = tellX n (thenX (numX r maxV) fun i => .ok (F i.1, i.2)) := by
  rcases num_cases r with ⟨v, r', h1, h2, h3, h4⟩ | ⟨e, he, h1, h2⟩
  · rw [h1, h2, thenX_ok]; rfl
  · rw [h1, h2, thenX_err]; exact end_err _ _ _ _ he rfl
theorem t_close (n : Nat) (r : List UInt8) (F : Nat → Fr) : endF n (F (varintP (r, 0)).1, nothingP (nothingP (varintP (r, 0)).2)) = tellX n (thenX (numX r maxV) fun i => thenX (numX i.2 0) fun k => thenX (numX k.2 0) fun m => .ok (F i.1, m.2)) := by
  rcases num_cases r with ⟨v, r', h1, h2, h3, h4⟩ | ⟨e, he, h1, h2⟩
  · rw [h1, h2, thenX_ok]
    simp only
    rcases nothing_cases r' with ⟨r2, g1, g2⟩ | ⟨e, he, g1, g2⟩
    · rw [g1, g2, thenX_ok]
      simp only
      rcases nothing_cases r2 with ⟨r3, j1, j2⟩ | ⟨e, he, j1, j2⟩
      · rw [j1, j2, thenX_ok]; rfl
      · rw [j1, j2, thenX_err]; exact end_err _ _ _ _ he rfl
    · rw [g1, g2, thenX_err, nothingP_dead e he]; exact end_err _ _ _ _ he rfl
  · rw [h1, h2, thenX_err]
    simp only
    rw [nothingP_dead e he, nothingP_dead e he]; exact end_err _ _ _ _ he rfl
theorem t_cid (n : Nat) (r : List UInt8) (F : Nat → List UInt8 → List UInt8 → Fr) :
    endF n (F (varintP (r, 0)).1 (name8P (nothingP (varintP (r, 0)).2)).1 (bytesP (name8P (nothingP (varintP (r, 0)).2)).2 16).1, (bytesP (name8P (nothingP (varintP (r, 0)).2)).2 16).2) =
      tellX n (thenX (numX r maxV) fun i => thenX (numX i.2 0) fun k => thenX (bytesX k.2 1) fun o => if o.1 ≠ [8] then .error 5 else thenX (bytesX o.2 8) fun c => thenX (bytesX c.2 16) fun t => .ok (F i.1 c.1 t.1, t.2)) := by
  rcases num_cases r with ⟨v, r', h1, h2, h3, h4⟩ | ⟨e, he, h1, h2⟩
  · rw [h1, h2, thenX_ok]
    simp only
    rcases nothing_cases r' with ⟨r2, g1, g2⟩ | ⟨e, he, g1, g2⟩
    · rw [g1, g2, thenX_ok]
      simp only
      have hd : (thenX (bytesX r2 1) fun o => if o.1 ≠ [8] then (.error 5 : Except Nat (Fr × List UInt8)) else thenX (bytesX o.2 8) fun c => thenX (bytesX c.2 16) fun t => .ok (F v c.1 t.1, t.2)) =
          thenX (thenX (bytesX r2 1) fun o => if o.1 ≠ [8] then (.error 5 : Except Nat (List UInt8 × List UInt8)) else bytesX o.2 8) fun c => thenX (bytesX c.2 16) fun t => .ok (F v c.1 t.1, t.2) := by
        cases bytesX r2 1 with
        | error e => rfl
        | ok o =>
          rw [thenX_ok, thenX_ok]
          split <;> rfl
      rw [hd]
      rcases name_cases r2 with ⟨c, r3, j1, j2⟩ | ⟨e, he, j1, j2⟩
      · rw [j1, j2, thenX_ok]
        simp only
        rcases bytes_cases r3 16 with ⟨k1, k2⟩ | ⟨k1, k2⟩
        · rw [k1, k2, thenX_ok]; rfl
        · rw [k1, k2, thenX_err]; exact end_err _ _ _ _ (by omega) rfl
      · rw [j1, j2, thenX_err]
        simp only
        rw [bytesP_dead e 16 he]; exact end_err _ _ _ _ he rfl
    · rw [g1, g2, thenX_err, name8P_dead e he]
      simp only
      rw [bytesP_dead e 16 he]; exact end_err _ _ _ _ he rfl
  · rw [h1, h2, thenX_err]
    simp only
    rw [nothingP_dead e he, name8P_dead e he]
    simp only
    rw [bytesP_dead e 16 he]; exact end_err _ _ _ _ he rfl
theorem t_bytes (n k : Nat) (r : List UInt8) (F : List UInt8 → Fr) : endF n (F (bytesP (r, 0) k).1, (bytesP (r, 0) k).2) = tellX n (thenX (bytesX r k) fun d => .ok (F d.1, d.2)) := by
  rcases bytes_cases r k with ⟨k1, k2⟩ | ⟨k1, k2⟩
  · rw [k1, k2, thenX_ok]; rfl
  · rw [k1, k2, thenX_err]; exact end_err _ _ _ _ (by omega) rfl
theorem t_data (n : Nat) (r : List UInt8) (f : Fr) : endF n ({ f with off := (varintP (r, 0)).1, data := (dataP (varintP (r, 0)).2 (varintP (r, 0)).1).1 }, (dataP (varintP (r, 0)).2 (varintP (r, 0)).1).2) = tellX n (dataX f r) := by
  unfold dataX
  rcases num_cases r with ⟨v, r', h1, h2, h3, h4⟩ | ⟨e, he, h1, h2⟩
  · rw [h1, h2, thenX_ok]
    simp only
    have hd : (thenX (numX r' 16383) fun k => if maxV < v + k.1 then (.error 5 : Except Nat (Fr × List UInt8)) else thenX (bytesX k.2 k.1) fun d => .ok ({ f with off := v, data := d.1 }, d.2)) =
        thenX (thenX (numX r' 16383) fun k => if maxV < v + k.1 then (.error 5 : Except Nat (List UInt8 × List UInt8)) else bytesX k.2 k.1) fun d => .ok ({ f with off := v, data := d.1 }, d.2) := by
      cases numX r' 16383 with
      | error e => rfl
      | ok o =>
        rw [thenX_ok, thenX_ok]
        split <;> rfl
    rw [hd]
    rcases data_cases r' v with ⟨d, r2, j1, j2⟩ | ⟨e, he, j1, j2⟩
    · rw [j1, j2, thenX_ok]; rfl
    · rw [j1, thenX_err]; exact end_err _ _ _ _ he j2
  · rw [h1, h2, thenX_err]
    simp only
    exact end_err _ _ _ _ he (dataP_dead e 0 he)
theorem t_stream (n : Nat) (r : List UInt8) (f : Fr) : endF n ({ f with id := (varintP (r, 0)).1, off := (varintP (varintP (r, 0)).2).1, data := (dataP (varintP (varintP (r, 0)).2).2 (varintP (varintP (r, 0)).2).1).1 }, (dataP (varintP (varintP (r, 0)).2).2 (varintP (varintP (r, 0)).2).1).2) =
    tellX n (thenX (numX r maxV) fun i => dataX { f with id := i.1 } i.2) := by
  rcases num_cases r with ⟨v, r', h1, h2, h3, h4⟩ | ⟨e, he, h1, h2⟩
  · rw [h1, h2, thenX_ok]
    exact t_data n r' { f with id := v }
  · rw [h1, h2, thenX_err]
    simp only
    rw [varintP_dead e he]
    exact end_err _ _ _ _ he (dataP_dead e 0 he)
theorem t_ack (n : Nat) (r : List UInt8) : endF n ({ Fr.of 2 with delay := (ackP (r, 0)).1.1, rs := (ackP (r, 0)).1.2 }, (ackP (r, 0)).2) = tellX n (ackX r) := by
  unfold ackX ackP
  rcases num_cases r with ⟨hi, r1, h1, h2, h3, h4⟩ | ⟨e, he, h1, h2⟩
  · rw [h1, h2, thenX_ok]
    simp only
    rcases num_cases r1 with ⟨dl, r2, g1, g2, g3, g4⟩ | ⟨e, he, g1, g2⟩
    · rw [g1, g2, thenX_ok]
      simp only
      rcases num_cases r2 with ⟨k, r3, j1, j2, j3, j4⟩ | ⟨e, he, j1, j2⟩
      · rw [j4 7, j2]
        simp only
        by_cases hk : 7 < k
        · rw [if_pos hk, if_pos (by omega), thenX_err]
          exact end_err _ _ _ _ (by omega) rfl
        · rw [if_neg hk, if_neg (by omega), thenX_ok]
          simp only
          rcases below0_cases r3 hi with ⟨m, r4, k1, k2, k3⟩ | ⟨e, he, k1, k3⟩
          · rw [k1, k3, thenX_ok]
            simp only
            rcases loop_cases k (hi - m) r4 [(hi - m, hi)] with ⟨rs, r5, m1, m2⟩ | ⟨e, he, m1, m2⟩
            · rw [m1, m2, thenX_ok]; rfl
            · rw [m1, thenX_err]; exact end_err _ _ _ _ he m2
          · rw [k1, thenX_err]
            refine end_err _ _ _ _ he ?_
            rw [k3]
            exact loopP_dead _ _ _ _ he
      · rw [j1 7, j2, thenX_err]
        simp only
        rw [if_neg (by omega)]
        refine end_err _ _ _ _ he ?_
        simp only [loopP]
        exact belowP_dead e _ 0 he
    · rw [g1, g2, thenX_err]
      simp only
      rw [varintP_dead e he]
      simp only
      rw [if_neg (by omega)]
      refine end_err _ _ _ _ he ?_
      simp only [loopP]
      exact belowP_dead e _ 0 he
  · rw [h1, h2, thenX_err]
    simp only
    rw [varintP_dead e he]
    simp only
    rw [varintP_dead e he]
    simp only
    rw [if_neg (by omega)]
    refine end_err _ _ _ _ he ?_
    simp only [loopP]
    exact belowP_dead e _ 0 he
theorem t_zeros (n : Nat) (r : List UInt8) : endF n ({ Fr.of 0 with n := 1 + (zerosP (r, 0) 16383).1 }, (zerosP (r, 0) 16383).2) = tellX n (.ok ({ Fr.of 0 with n := min (zerosN (0 :: r)) 16384 }, (0 :: r).drop (min (zerosN (0 :: r)) 16384))) := by
  have e : zerosN (0 :: r) = zerosN r + 1 := rfl
  have e2 : min (zerosN r + 1) 16384 = min (zerosN r) 16383 + 1 := by omega
  rw [e, e2]
  unfold zerosP
  simp only
  rw [Nat.add_comm 1]
  rfl
/-- frame.Get, whatever the bytes -/
theorem fget_any (l : List UInt8) (A : Option Addr) (n c B : Nat) (w : World) (hs : Sl w B A n l) (hB : B ≤ w.heap.size) (hnc : n ≤ c) (hcm : c ≤ maxLen) :
    Calls Try.prog 21 #[.slice A n c] w (GetsF w (getR l)) := by
  have hs := hs.more hB
  have hl := hs.1
  rw [getR_tell, hl]
  cases l with
  | nil =>
    have h := fget_bad [] ([], 3) A n c w hs hnc hcm 0 false rfl (by simp)
    rw [end_err n _ ([], 3) 3 (by omega) rfl] at h
    exact h
  | cons b r =>
    have hkp : kindP (b :: r, 0) = (kindF b.toNat, if kindOk b.toNat = true then (r, 0) else ([], 6)) := by
      unfold kindP
      rw [whole1]
      rfl
    by_cases hok : kindOk b.toNat = true
    · rw [if_pos hok] at hkp
      obtain ⟨x, hx⟩ : ∃ x, b.toNat = x := ⟨_, rfl⟩
      rw [hx] at hkp hok
      have hw : x = 0 ∨ x = 1 ∨ x = 2 ∨ x = 6 ∨ x = 16 ∨ x = 24 ∨ x = 25 ∨ x = 26 ∨ x = 27 ∨ x = 28 ∨ x = 30 ∨ x = 14 ∨ x = 15 := by
        simp [kindOk] at hok
        omega
      rcases hw with rfl | rfl | rfl | rfl | rfl | rfl | rfl | rfl | rfl | rfl | rfl | rfl | rfl
      · obtain rfl : b = 0 := UInt8.toNat_inj.1 hx
        have h := fget_0 (0 :: r) (r, 0) A n c w hs hnc hcm hkp rfl
        rw [t_zeros] at h
        exact h
      · obtain rfl : b = 1 := UInt8.toNat_inj.1 hx
        exact fget_1 (1 :: r) (r, 0) A n c w hs hnc hcm hkp rfl
      · obtain rfl : b = 2 := UInt8.toNat_inj.1 hx
        have h := fget_2 (2 :: r) (r, 0) A n c w hs hnc hcm hkp rfl
        rw [t_ack] at h
        exact h
      · obtain rfl : b = 6 := UInt8.toNat_inj.1 hx
        have h := fget_6 (6 :: r) (r, 0) A n c w hs hnc hcm hkp rfl
        rw [t_data n r (Fr.of 6)] at h
        exact h
      · obtain rfl : b = 16 := UInt8.toNat_inj.1 hx
        have h := fget_16 (16 :: r) (r, 0) A n c w hs hnc hcm hkp rfl
        rw [t_num n r (fun v => { Fr.of 16 with n := v })] at h
        exact h
      · obtain rfl : b = 24 := UInt8.toNat_inj.1 hx
        have h := fget_24 (24 :: r) (r, 0) A n c w hs hnc hcm hkp rfl
        rw [t_cid n r (fun v a b => { Fr.of 24 with n := v, cid := a, tok := b })] at h
        exact h
      · obtain rfl : b = 25 := UInt8.toNat_inj.1 hx
        have h := fget_25 (25 :: r) (r, 0) A n c w hs hnc hcm hkp rfl
        rw [t_num n r (fun v => { Fr.of 25 with n := v })] at h
        exact h
      · obtain rfl : b = 26 := UInt8.toNat_inj.1 hx
        have h := fget_26 (26 :: r) (r, 0) A n c w hs hnc hcm hkp rfl
        rw [t_bytes n 8 r (fun v => { Fr.of 26 with data := v })] at h
        exact h
      · obtain rfl : b = 27 := UInt8.toNat_inj.1 hx
        have h := fget_27 (27 :: r) (r, 0) A n c w hs hnc hcm hkp rfl
        rw [t_bytes n 8 r (fun v => { Fr.of 27 with data := v })] at h
        exact h
      · obtain rfl : b = 28 := UInt8.toNat_inj.1 hx
        have h := fget_28 (28 :: r) (r, 0) A n c w hs hnc hcm hkp rfl
        rw [t_close n r (fun v => { Fr.of 28 with n := v })] at h
        exact h
      · obtain rfl : b = 30 := UInt8.toNat_inj.1 hx
        exact fget_30 (30 :: r) (r, 0) A n c w hs hnc hcm hkp rfl
      · obtain rfl : b = 14 := UInt8.toNat_inj.1 hx
        have h := fget_8 (14 :: r) (r, 0) A n c w hs hnc hcm false hkp rfl
        rw [t_stream n r (FrKd 8 false)] at h
        exact h
      · obtain rfl : b = 15 := UInt8.toNat_inj.1 hx
        have h := fget_8 (15 :: r) (r, 0) A n c w hs hnc hcm true hkp rfl
        rw [t_stream n r (FrKd 8 true)] at h
        exact h
    · rw [if_neg hok] at hkp
      have h14 : b.toNat ≠ 14 := fun h => hok (by rw [h]; rfl)
      have h15 : b.toNat ≠ 15 := fun h => hok (by rw [h]; rfl)
      have hkf : kindF b.toNat = FrKd 0 false := by
        unfold kindF
        rw [if_neg h14, if_neg h15, if_neg hok]
        rfl
      rw [hkf] at hkp
      have h := fget_bad (b :: r) ([], 6) A n c w hs hnc hcm 0 false hkp (by simp)
      rw [end_err n _ ([], 6) 6 (by omega) rfl] at h
      have hx : getX (b :: r) = .error 6 := by
        simp [kindOk] at hok
        unfold getX
        simp [hok]
      rw [hx]
      exact h
end Go.Proofs.Ytcipmfhacloegaa
