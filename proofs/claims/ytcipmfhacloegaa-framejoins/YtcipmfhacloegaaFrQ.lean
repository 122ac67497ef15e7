/-
  Rows of frames as data: laid one behind the other they are read as they were, zeros that touch as one; cut within its last frame a row is too short.
-/
import Derived.Test.YtcipmfhacloegaaFrP
namespace Go.Proofs.Ytcipmfhacloegaa
open Go.RowKit
set_option linter.unusedVariables false

def joinF (fs : List Fr) : List UInt8 := (fs.map putF).flatten
theorem joinF_cons (f : Fr) (fs : List Fr) : joinF (f :: fs) = putF f ++ joinF fs := by simp [joinF]
theorem joinF_append (a b : List Fr) : joinF (a ++ b) = joinF a ++ joinF b := by simp [joinF]
/-- a frame that is no padding begins with its kind, which is not 0 -/
theorem putF_head (f : Fr) (h : MayF f) (hk : f.kind ≠ 0) : ∃ b t, putF f = b :: t ∧ b ≠ 0 := by
  obtain ⟨k, n, delay, rs, id, off, fin, data, cid, tok⟩ := f
  unfold MayF at h
  unfold putF
  simp only at h hk ⊢
  rw [if_neg hk] at h ⊢
  by_cases h1 : k = 1 ∨ k = 30
  · have e : ¬ k = 2 ∧ ¬ k = 6 ∧ ¬ k = 8 ∧ ¬ (k = 16 ∨ k = 25) ∧ ¬ k = 28 ∧ ¬ k = 24 ∧ ¬ (k = 26 ∨ k = 27) := by omega
    rw [if_neg e.1, if_neg e.2.1, if_neg e.2.2.1, if_neg e.2.2.2.1, if_neg e.2.2.2.2.1, if_neg e.2.2.2.2.2.1, if_neg e.2.2.2.2.2.2]
    rcases h1 with rfl | rfl
    · exact ⟨_, _, rfl, by decide⟩
    · exact ⟨_, _, rfl, by decide⟩
  · rw [if_neg h1] at h
    by_cases h2 : k = 2
    · rw [if_pos h2] at h ⊢
      obtain ⟨⟨_, hl, _⟩, _⟩ := h
      cases rs with
      | nil => simp at hl
      | cons x t => exact ⟨_, _, rfl, by decide⟩
    · rw [if_neg h2] at h ⊢
      by_cases h6 : k = 6
      · rw [if_pos h6]
        exact ⟨_, _, rfl, by decide⟩
      · rw [if_neg h6] at h ⊢
        by_cases h8 : k = 8
        · rw [if_pos h8]
          cases fin
          · exact ⟨_, _, rfl, by simp⟩
          · exact ⟨_, _, rfl, by simp⟩
        · rw [if_neg h8] at h ⊢
          by_cases h16 : k = 16 ∨ k = 25
          · rw [if_pos h16]
            rcases h16 with rfl | rfl
            · exact ⟨_, _, rfl, by decide⟩
            · exact ⟨_, _, rfl, by decide⟩
          · rw [if_neg h16]
            by_cases h28 : k = 28
            · rw [if_pos h28]
              exact ⟨_, _, rfl, by decide⟩
            · rw [if_neg h28]
              rw [if_neg (by omega)] at h
              by_cases h24 : k = 24
              · rw [if_pos h24]
                exact ⟨_, _, rfl, by decide⟩
              · rw [if_neg h24] at h ⊢
                by_cases h26 : k = 26 ∨ k = 27
                · rw [if_pos h26]
                  rcases h26 with rfl | rfl
                  · exact ⟨_, _, rfl, by decide⟩
                  · exact ⟨_, _, rfl, by decide⟩
                · rw [if_neg h26] at h
                  exact h.elim
theorem putF_ne (f : Fr) (h : MayF f) : ∃ b t, putF f = b :: t := by
  by_cases hk : f.kind = 0
  · have h' := h
    unfold MayF at h'
    rw [if_pos hk] at h'
    unfold putF
    rw [if_pos hk]
    obtain ⟨m, hm⟩ : ∃ m, f.n = m + 1 := ⟨f.n - 1, by have := h'.1.1; omega⟩
    rw [hm]
    exact ⟨_, _, rfl⟩
  · obtain ⟨b, t, e, _⟩ := putF_head f h hk
    exact ⟨b, t, e⟩
/-- no two that are padding touch -/
def apartF : List Fr → Prop
  | [] => True
  | [_] => True
  | f :: g :: t => ¬ (f.kind = 0 ∧ g.kind = 0) ∧ apartF (g :: t)
/-- frames one behind the other are read as they were -/
theorem rowX_join (fs : List Fr) (hm : ∀ f ∈ fs, MayF f) (ha : apartF fs) (fuel cnt : Nat) (hf : (joinF fs).length ≤ fuel) (hc : cnt + fs.length ≤ 64) : rowX fuel cnt (joinF fs) = .ok fs := by
  induction fs generalizing fuel cnt with
  | nil => cases fuel <;> rfl
  | cons f t ih =>
    have hmf := hm f (List.mem_cons_self ..)
    obtain ⟨b, u, hu⟩ := putF_ne f hmf
    have e : joinF (f :: t) = b :: (u ++ joinF t) := by rw [joinF_cons, hu]; rfl
    have hl : (joinF (f :: t)).length = u.length + (joinF t).length + 1 := by rw [e]; simp
    simp only [List.length_cons] at hc
    cases fuel with
    | zero => omega
    | succ fuel =>
      have hg : getX (b :: (u ++ joinF t)) = .ok (f, joinF t) := by
        have h1 := getX_put f hmf (joinF t) (fun h0 => by
          cases t with
          | nil => simp [joinF]
          | cons g t =>
            have hg0 : g.kind ≠ 0 := fun h => ha.1 ⟨h0, h⟩
            obtain ⟨b', t', e', hb'⟩ := putF_head g (hm g (by simp)) hg0
            rw [joinF_cons, e']
            simpa using hb')
        rw [hu] at h1
        exact h1
      rw [e]
      show (if cnt = 64 then _ else thenX (getX (b :: (u ++ joinF t))) _) = _
      rw [if_neg (by omega), hg, thenX_ok]
      simp only
      have ha' : apartF t := by
        cases t with
        | nil => trivial
        | cons g t => exact ha.2
      rw [ih (fun g hg => hm g (List.mem_cons_of_mem _ hg)) ha' fuel (cnt + 1) (by omega) (by omega), thenX_ok]
theorem allX_join (fs : List Fr) (hm : ∀ f ∈ fs, MayF f) (ha : apartF fs) (h1 : 1 ≤ fs.length) (hc : fs.length ≤ 64) : allX (joinF fs) = .ok fs := by
  unfold allX
  cases fs with
  | nil => simp at h1
  | cons f t =>
    obtain ⟨b, u, hu⟩ := putF_ne f (hm f (List.mem_cons_self ..))
    rw [if_neg (by rw [joinF_cons, hu]; simp)]
    exact rowX_join _ hm ha _ _ (Nat.le_refl _) (by omega)

/-- a number cut: too short, or as it was -/
theorem getV_cut (n k : Nat) (hk : k ≤ 3) (j : Nat) (hj : j < 2 ^ k) (hj0 : 0 < j ∨ j = 0) : getV ((encV n k).take j) = (0, 0, 3) := by
  cases j with
  | zero => rfl
  | succ j =>
    have hh := encV_head n k hk
    unfold encV
    rw [List.take_succ_cons, getV_cons, hh]
    have e : (n / 256 ^ (2 ^ k - 1) % 64 + 64 * k) / 64 = k := by omega
    rw [e, if_pos (by simp [lowB_length]; omega)]
theorem enc_length (v : Nat) (hv : v ≤ maxV) : ∃ k, k ≤ 3 ∧ enc v = encV v k ∧ (enc v).length = 2 ^ k ∧ lenV v = 2 ^ k ∧ v < 64 * 256 ^ (2 ^ k - 1) := by
  unfold maxV at hv
  obtain ⟨k, s, hc, hl, he, hks, hr⟩ := small_cases v (by omega)
  obtain ⟨h1, h2⟩ := two_pow_of hks
  exact ⟨k, h2, he, by rw [he, encV_length], by rw [hl]; exact h1, hr⟩
theorem numX_cut (v most : Nat) (hv : v ≤ maxV) (hm : v ≤ most) (r : List UInt8) (j : Nat) : numX ((enc v ++ r).take j) most = if j < lenV v then .error 3 else .ok (v, r.take (j - lenV v)) := by
  obtain ⟨k, hk, he, hl, hlv, hr⟩ := enc_length v hv
  by_cases h : j < lenV v
  · rw [if_pos h, List.take_append_of_le_length (by omega), he]
    unfold numX
    rw [getV_cut v k hk j (by omega) (by omega)]
    rfl
  · rw [if_neg h, List.take_append, List.take_of_length_le (by omega), hl, ← hlv]
    exact numX_enc v most hv hm _
theorem bytesX_cut (a r : List UInt8) (k : Nat) (h : a.length = k) (j : Nat) : bytesX ((a ++ r).take j) k = if j < k then .error 3 else .ok (a, r.take (j - k)) := by
  by_cases hj : j < k
  · rw [if_pos hj]
    unfold bytesX
    rw [if_pos (by simp; omega)]
  · rw [if_neg hj, List.take_append, List.take_of_length_le (by omega), h]
    exact bytesX_app a _ k h
/-- ranges cut -/
theorem moreX_cut (rs : List (Nat × Nat)) (p : Nat) (h : chainR (some p) rs) (hp : p ≤ maxV) (j : Nat) (hj : j < (putRs p rs).length) : moreX rs.length p ((putRs p rs).take j) = .error 3 := by
  induction rs generalizing p j with
  | nil => simp [putRs] at hj
  | cons x t ih =>
    obtain ⟨lo, hi⟩ := x
    obtain ⟨h1, h2, h3, h4⟩ := h
    have h3 := h3 p rfl
    have e1 : p - 2 - (p - hi - 2) = hi := by omega
    have e2 : hi - (hi - lo) = lo := by omega
    obtain ⟨k1, _, _, l1, g1, _⟩ := enc_length (p - hi - 2) (by omega)
    obtain ⟨k2, _, _, l2, g2, _⟩ := enc_length (hi - lo) (by omega)
    show thenX _ _ = _
    unfold putRs at hj ⊢
    rw [numX_cut _ _ (by omega) (by omega)]
    simp only [List.length_append] at hj
    by_cases c1 : j < lenV (p - hi - 2)
    · rw [if_pos c1]; rfl
    · rw [if_neg c1, thenX_ok]
      simp only
      rw [if_neg (by omega), numX_cut _ _ (by omega) (by omega)]
      by_cases c2 : j - lenV (p - hi - 2) < lenV (hi - lo)
      · rw [if_pos c2]; rfl
      · rw [if_neg c2, thenX_ok]
        simp only [e1, e2]
        rw [ih lo h4 (by omega) _ (by omega)]
        rfl
theorem ackX_cut (delay : Nat) (rs : List (Nat × Nat)) (hd : delay ≤ maxV) (h : RangesP rs) (t : List UInt8) (ht : putAck delay rs = 2 :: t) (j : Nat) (hj : j < t.length) : ackX (t.take j) = .error 3 := by
  obtain ⟨hl1, hl8, hc⟩ := h
  cases rs with
  | nil => simp at hl1
  | cons x u =>
    obtain ⟨lo, hi⟩ := x
    obtain ⟨h1, h2, _, h4⟩ := hc
    have e2 : hi - (hi - lo) = lo := by omega
    have hl : u.length ≤ 7 := by simp at hl8; omega
    have et : enc hi ++ (enc delay ++ (enc u.length ++ (enc (hi - lo) ++ putRs lo u))) = t := by
      have : (2 : UInt8) :: (enc hi ++ (enc delay ++ (enc u.length ++ (enc (hi - lo) ++ putRs lo u)))) = 2 :: t := ht
      exact (List.cons.inj this).2
    subst et
    obtain ⟨k1, _, _, l1, g1, _⟩ := enc_length hi h2
    obtain ⟨k2, _, _, l2, g2, _⟩ := enc_length delay hd
    obtain ⟨k3, _, _, l3, g3, _⟩ := enc_length u.length (by unfold maxV; omega)
    obtain ⟨k4, _, _, l4, g4, _⟩ := enc_length (hi - lo) (by omega)
    simp only [List.length_append] at hj
    unfold ackX
    rw [numX_cut hi _ h2 h2]
    by_cases c1 : j < lenV hi
    · rw [if_pos c1]; rfl
    · rw [if_neg c1, thenX_ok]
      simp only
      rw [numX_cut delay _ hd hd]
      by_cases c2 : j - lenV hi < lenV delay
      · rw [if_pos c2]; rfl
      · rw [if_neg c2, thenX_ok]
        simp only
        rw [numX_cut u.length _ (by unfold maxV; omega) hl]
        by_cases c3 : j - lenV hi - lenV delay < lenV u.length
        · rw [if_pos c3]; rfl
        · rw [if_neg c3, thenX_ok]
          simp only
          rw [numX_cut (hi - lo) _ (by omega) (by omega)]
          by_cases c4 : j - lenV hi - lenV delay - lenV u.length < lenV (hi - lo)
          · rw [if_pos c4]; rfl
          · rw [if_neg c4, thenX_ok]
            simp only [e2]
            rw [moreX_cut u lo h4 (by omega) _ (by omega)]
            rfl
theorem dataX_cut (f : Fr) (o : Nat) (d : List UInt8) (hd : d.length < 16384) (ho : o + d.length ≤ maxV) (j : Nat) (hj : j < (enc o ++ (enc d.length ++ d)).length) : dataX f ((enc o ++ (enc d.length ++ d)).take j) = .error 3 := by
  obtain ⟨k1, _, _, l1, g1, _⟩ := enc_length o (by omega)
  obtain ⟨k2, _, _, l2, g2, _⟩ := enc_length d.length (by omega)
  simp only [List.length_append] at hj
  unfold dataX
  rw [numX_cut o _ (by omega) (by omega)]
  by_cases c1 : j < lenV o
  · rw [if_pos c1]; rfl
  · rw [if_neg c1, thenX_ok]
    simp only
    rw [numX_cut d.length _ (by omega) (by omega)]
    by_cases c2 : j - lenV o < lenV d.length
    · rw [if_pos c2]; rfl
    · rw [if_neg c2, thenX_ok]
      simp only
      rw [if_neg (by omega)]
      have e := bytesX_cut d [] d.length rfl (j - lenV o - lenV d.length)
      rw [List.append_nil] at e
      rw [e, if_pos (by omega)]
      rfl
/-- zeros, whatever stands behind them -/
def padF (n : Nat) : Fr := { Fr.of 0 with n := n }
theorem padF_may (n : Nat) (h1 : 1 ≤ n) (h2 : n ≤ 16384) : MayF (padF n) := by
  unfold MayF
  rw [if_pos (show (padF n).kind = 0 from rfl)]
  exact ⟨⟨h1, h2⟩, rfl, rfl, rfl, rfl, rfl, rfl, rfl, rfl, rfl⟩
theorem getX_zeros (m : Nat) (hm : 1 ≤ m) (r : List UInt8) (hr : r.head? ≠ some 0) : getX (List.replicate m 0 ++ r) = .ok (padF (min m 16384), List.replicate (m - min m 16384) 0 ++ r) := by
  have hz := zeros_app m r hr
  obtain ⟨k, rfl⟩ : ∃ k, m = k + 1 := ⟨m - 1, by omega⟩
  have e : List.replicate (k + 1) (0 : UInt8) ++ r = 0 :: (List.replicate k 0 ++ r) := rfl
  have eg : ∀ l : List UInt8, getX (0 :: l) = .ok ({ Fr.of 0 with n := min (zerosN (0 :: l)) 16384 }, (0 :: l).drop (min (zerosN (0 :: l)) 16384)) := fun l => rfl
  rw [e] at hz ⊢
  rw [eg, hz]
  refine congrArg Except.ok (Prod.ext rfl ?_)
  show (0 :: (List.replicate k 0 ++ r)).drop (min (k + 1) 16384) = _
  rw [← e, List.drop_append_of_le_length (by simp; omega), List.drop_replicate]
/-- the pieces of so many zeros -/
def padsF : Nat → Nat → List Fr
  | 0, _ => []
  | k + 1, m => if m = 0 then [] else padF (min m 16384) :: padsF k (m - min m 16384)
theorem rowX_zeros (gs : List Fr) (hm : ∀ f ∈ gs, MayF f) (ha : apartF gs) (h0 : (joinF gs).head? ≠ some 0) (k : Nat) (m : Nat) (hk : m ≤ k * 16384) (fuel cnt : Nat) (hf : m + (joinF gs).length ≤ fuel) (hc : cnt + (padsF k m).length + gs.length ≤ 64) :
    rowX fuel cnt (List.replicate m 0 ++ joinF gs) = .ok (padsF k m ++ gs) := by
  induction k generalizing m fuel cnt with
  | zero =>
    obtain rfl : m = 0 := by omega
    simp only [padsF, List.replicate_zero, List.nil_append] at hc ⊢
    exact rowX_join gs hm ha fuel cnt (by omega) (by simpa using hc)
  | succ k ih =>
    by_cases hz : m = 0
    · subst hz
      have e : padsF (k + 1) 0 = [] := rfl
      rw [e] at hc ⊢
      simp only [List.replicate_zero, List.nil_append] at hc ⊢
      exact rowX_join gs hm ha fuel cnt (by omega) (by simpa using hc)
    · have e : padsF (k + 1) m = padF (min m 16384) :: padsF k (m - min m 16384) := by show (if m = 0 then _ else _) = _; rw [if_neg hz]
      rw [e] at hc ⊢
      simp only [List.length_cons] at hc
      have hg := getX_zeros m (by omega) (joinF gs) h0
      obtain ⟨i, rfl⟩ : ∃ i, m = i + 1 := ⟨m - 1, by omega⟩
      have e2 : List.replicate (i + 1) (0 : UInt8) ++ joinF gs = 0 :: (List.replicate i 0 ++ joinF gs) := rfl
      cases fuel with
      | zero => omega
      | succ fuel =>
        rw [e2] at hg ⊢
        show (if cnt = 64 then _ else thenX (getX (0 :: (List.replicate i 0 ++ joinF gs))) _) = _
        rw [if_neg (by omega), hg, thenX_ok]
        simp only
        rw [ih (i + 1 - min (i + 1) 16384) (by omega) fuel (cnt + 1) (by omega) (by omega), thenX_ok]
        rfl
/-- cut anywhere a frame that is no padding is too short -/
theorem getX_cut (f : Fr) (h : MayF f) (hk : f.kind ≠ 0) (j : Nat) (hj : j < (putF f).length) : getX ((putF f).take j) = .error 3 := by
  cases j with
  | zero => rfl
  | succ j =>
    obtain ⟨k, n, delay, rs, id, off, fin, data, cid, tok⟩ := f
    unfold MayF at h
    unfold putF at hj ⊢
    simp only at h hk hj ⊢
    rw [if_neg hk] at h hj ⊢
    by_cases h1 : k = 1 ∨ k = 30
    · have e : ¬ k = 2 ∧ ¬ k = 6 ∧ ¬ k = 8 ∧ ¬ (k = 16 ∨ k = 25) ∧ ¬ k = 28 ∧ ¬ k = 24 ∧ ¬ (k = 26 ∨ k = 27) := by omega
      rw [if_neg e.1, if_neg e.2.1, if_neg e.2.2.1, if_neg e.2.2.2.1, if_neg e.2.2.2.2.1, if_neg e.2.2.2.2.2.1, if_neg e.2.2.2.2.2.2] at hj
      simp at hj
    · rw [if_neg h1] at h
      by_cases h2 : k = 2
      · rw [if_pos h2] at h hj ⊢
        obtain ⟨⟨hd, hrs⟩, _⟩ := h
        obtain ⟨t, e1, _⟩ := ackX_put delay rs hd hrs []
        rw [e1] at hj ⊢
        simp only [List.length_cons] at hj
        exact ackX_cut delay rs hd hrs t e1 j (by omega)
      · rw [if_neg h2] at h hj ⊢
        by_cases h6 : k = 6
        · rw [if_pos h6] at h hj ⊢
          obtain ⟨⟨hd, hi, ho⟩, _⟩ := h
          simp only [List.length_cons] at hj
          exact dataX_cut (Fr.of 6) off data hd ho j (by omega)
        · rw [if_neg h6] at h hj ⊢
          by_cases h8 : k = 8
          · rw [if_pos h8] at h hj ⊢
            obtain ⟨⟨hd, hi, ho⟩, _⟩ := h
            simp only [List.length_cons, List.length_append] at hj
            obtain ⟨k1, _, _, l1, g1, _⟩ := enc_length id hi
            have e := numX_cut id maxV hi hi (enc off ++ (enc data.length ++ data)) j
            have hl : ∀ i, i < (enc off ++ (enc data.length ++ data)).length → ∀ g : Fr, dataX g ((enc off ++ (enc data.length ++ data)).take i) = .error 3 := fun i hi' g => dataX_cut g off data hd ho i hi'
            cases fin
            · show thenX (numX ((enc id ++ (enc off ++ (enc data.length ++ data))).take j) maxV) _ = _
              rw [e]
              by_cases c1 : j < lenV id
              · rw [if_pos c1]; rfl
              · rw [if_neg c1, thenX_ok]
                exact hl _ (by simp only [List.length_append]; omega) _
            · show thenX (numX ((enc id ++ (enc off ++ (enc data.length ++ data))).take j) maxV) _ = _
              rw [e]
              by_cases c1 : j < lenV id
              · rw [if_pos c1]; rfl
              · rw [if_neg c1, thenX_ok]
                exact hl _ (by simp only [List.length_append]; omega) _
          · rw [if_neg h8] at h hj ⊢
            by_cases h16 : k = 16 ∨ k = 25
            · rw [if_pos (by omega)] at h
              rw [if_pos h16] at hj ⊢
              obtain ⟨hn, _⟩ := h
              simp only [List.length_cons] at hj
              obtain ⟨k1, _, _, l1, g1, _⟩ := enc_length n hn
              have e := numX_cut n maxV hn hn [] j
              rw [List.append_nil, if_pos (by omega)] at e
              rcases h16 with rfl | rfl
              · show thenX (numX ((enc n).take j) maxV) _ = _
                rw [e]; rfl
              · show thenX (numX ((enc n).take j) maxV) _ = _
                rw [e]; rfl
            · rw [if_neg h16] at hj ⊢
              by_cases h28 : k = 28
              · rw [if_pos (by omega)] at h
                rw [if_pos h28] at hj ⊢
                obtain ⟨hn, _⟩ := h
                simp only [List.length_cons, List.length_append, List.length_nil] at hj
                obtain ⟨k1, _, _, l1, g1, _⟩ := enc_length n hn
                subst h28
                show thenX (numX ((enc n ++ [0, 0]).take j) maxV) _ = _
                rw [numX_cut n maxV hn hn]
                by_cases c1 : j < lenV n
                · rw [if_pos c1]; rfl
                · rw [if_neg c1, thenX_ok]
                  have hc : j - lenV n = 0 ∨ j - lenV n = 1 := by omega
                  rcases hc with hc | hc
                  · simp only [hc]; rfl
                  · simp only [hc]; rfl
              · rw [if_neg (by omega)] at h
                rw [if_neg h28] at hj ⊢
                by_cases h24 : k = 24
                · rw [if_pos h24] at h hj ⊢
                  obtain ⟨⟨hn, hc8, ht⟩, _⟩ := h
                  simp only [List.length_cons, List.length_append] at hj
                  obtain ⟨k1, _, _, l1, g1, _⟩ := enc_length n hn
                  subst h24
                  show thenX (numX ((enc n ++ (0 :: 8 :: (cid ++ tok))).take j) maxV) _ = _
                  rw [numX_cut n maxV hn hn]
                  by_cases c1 : j < lenV n
                  · rw [if_pos c1]; rfl
                  · rw [if_neg c1, thenX_ok]
                    simp only
                    obtain ⟨i, hi⟩ : ∃ i, j - lenV n = i := ⟨_, rfl⟩
                    rw [hi]
                    cases i with
                    | zero => rfl
                    | succ i =>
                      rw [List.take_succ_cons, numX_zero, thenX_ok]
                      simp only
                      cases i with
                      | zero => rfl
                      | succ i =>
                        rw [List.take_succ_cons]
                        have e1 := bytesX_app [8] ((cid ++ tok).take i) 1 rfl
                        rw [show (8 : UInt8) :: (cid ++ tok).take i = [8] ++ (cid ++ tok).take i from rfl, e1, thenX_ok]
                        simp only [ne_eq, not_true_eq_false, if_false]
                        rw [bytesX_cut cid tok 8 hc8]
                        by_cases c2 : i < 8
                        · rw [if_pos c2]; rfl
                        · rw [if_neg c2, thenX_ok]
                          simp only
                          have e3 := bytesX_cut tok [] 16 ht (i - 8)
                          rw [List.append_nil, if_pos (by omega)] at e3
                          rw [e3]; rfl
                · rw [if_neg h24] at h hj ⊢
                  by_cases h26 : k = 26 ∨ k = 27
                  · rw [if_pos h26] at h hj ⊢
                    obtain ⟨hd, _⟩ := h
                    simp only [List.length_cons] at hj
                    have e3 := bytesX_cut data [] 8 hd j
                    rw [List.append_nil, if_pos (by omega)] at e3
                    rcases h26 with rfl | rfl
                    · show thenX (bytesX (data.take j) 8) _ = _
                      rw [e3]; rfl
                    · show thenX (bytesX (data.take j) 8) _ = _
                      rw [e3]; rfl
                  · rw [if_neg h26] at h
                    exact h.elim
/-- a row cut within its last frame, which is no padding, is too short -/
theorem rowX_cut (fs : List Fr) (g : Fr) (hm : ∀ f ∈ fs, MayF f) (hg : MayF g) (hk : g.kind ≠ 0) (ha : apartF (fs ++ [g])) (j : Nat) (h0 : 0 < j) (hj : j < (putF g).length) (fuel cnt : Nat) (hf : (joinF fs).length + j ≤ fuel) (hc : cnt + fs.length < 64) :
    rowX fuel cnt (joinF fs ++ (putF g).take j) = .error 3 := by
  obtain ⟨bg, tg, eg, hbg⟩ := putF_head g hg hk
  obtain ⟨i, rfl⟩ : ∃ i, j = i + 1 := ⟨j - 1, by omega⟩
  have et : (putF g).take (i + 1) = bg :: tg.take i := by rw [eg, List.take_succ_cons]
  induction fs generalizing fuel cnt with
  | nil =>
    cases fuel with
    | zero => omega
    | succ fuel =>
      have hx := getX_cut g hg hk (i + 1) hj
      show rowX (fuel + 1) cnt ((putF g).take (i + 1)) = _
      rw [et] at hx ⊢
      show (if cnt = 64 then _ else thenX (getX (bg :: tg.take i)) _) = _
      simp only [List.length_nil] at hc
      rw [if_neg (by omega), hx]
      rfl
  | cons f t ih =>
    have hmf := hm f (List.mem_cons_self ..)
    obtain ⟨b, u, hu⟩ := putF_ne f hmf
    have e : joinF (f :: t) ++ (putF g).take (i + 1) = b :: (u ++ (joinF t ++ (putF g).take (i + 1))) := by rw [joinF_cons, hu]; simp
    have hl : (joinF (f :: t)).length = u.length + (joinF t).length + 1 := by rw [joinF_cons, hu]; simp [Nat.add_right_comm]
    simp only [List.length_cons] at hc
    have ha' : apartF (t ++ [g]) := by
      cases t with
      | nil => trivial
      | cons x t => exact ha.2
    cases fuel with
    | zero => omega
    | succ fuel =>
      have hgx : getX (b :: (u ++ (joinF t ++ (putF g).take (i + 1)))) = .ok (f, joinF t ++ (putF g).take (i + 1)) := by
        have h1 := getX_put f hmf (joinF t ++ (putF g).take (i + 1)) (fun hz => by
          cases t with
          | nil =>
            rw [et]
            simpa [joinF] using hbg
          | cons x t =>
            have hx0 : x.kind ≠ 0 := fun h => ha.1 ⟨hz, h⟩
            obtain ⟨b', t', e', hb'⟩ := putF_head x (hm x (by simp)) hx0
            rw [joinF_cons, e']
            simpa using hb')
        rw [hu] at h1
        exact h1
      rw [e]
      show (if cnt = 64 then _ else thenX (getX (b :: (u ++ (joinF t ++ (putF g).take (i + 1))))) _) = _
      rw [if_neg (by omega), hgx, thenX_ok]
      simp only
      rw [ih (fun x hx => hm x (List.mem_cons_of_mem _ hx)) ha' fuel (cnt + 1) (by omega) (by omega)]
      rfl
/-- zeros that touch are one -/
def mergeS (acc : List Fr) (f : Fr) : List Fr :=
  match acc.getLast? with
  | none => [f]
  | some g => if f.kind = 0 ∧ g.kind = 0 then acc.dropLast ++ [{ g with n := g.n + f.n }] else acc ++ [f]
def mergeF (fs : List Fr) : List Fr := fs.foldl mergeS []
theorem apart_snoc (a : List Fr) (g f : Fr) (h : apartF (a ++ [g])) (hn : ¬ (g.kind = 0 ∧ f.kind = 0)) : apartF (a ++ [g] ++ [f]) := by
  induction a with
  | nil => exact ⟨hn, trivial⟩
  | cons x a ih =>
    cases a with
    | nil => exact ⟨h.1, ih h.2⟩
    | cons y a => exact ⟨h.1, ih h.2⟩
theorem apart_swap (a : List Fr) (g g' : Fr) (hk : g'.kind = g.kind) (h : apartF (a ++ [g])) : apartF (a ++ [g']) := by
  induction a with
  | nil => trivial
  | cons x a ih =>
    cases a with
    | nil => exact ⟨by rw [hk]; exact h.1, trivial⟩
    | cons y a => exact ⟨h.1, ih h.2⟩
theorem may_pad (f : Fr) (h : MayF f) (hk : f.kind = 0) : f = padF f.n ∧ 1 ≤ f.n ∧ f.n ≤ 16384 := by
  obtain ⟨k, n, delay, rs, id, off, fin, data, cid, tok⟩ := f
  unfold MayF at h
  simp only at hk h ⊢
  rw [if_pos hk] at h
  obtain ⟨⟨h1, h2⟩, hp⟩ := h
  simp only [plainF] at hp
  obtain ⟨_, rfl, rfl, rfl, rfl, rfl, rfl, rfl, rfl⟩ := hp
  subst hk
  exact ⟨rfl, h1, h2⟩
theorem put_pad (n : Nat) : putF (padF n) = List.replicate n 0 := rfl
/-- what holds of the frames gathered so far -/
def Gath (k : Nat) (pre acc : List Fr) : Prop := joinF acc = joinF pre ∧ (∀ f ∈ acc, MayF f) ∧ (∀ f ∈ acc, f.kind = 0 → f.n ≤ 400 * k) ∧ apartF acc ∧ acc.length ≤ k
theorem gath_step (k : Nat) (hk : k < 8) (pre acc : List Fr) (h : Gath k pre acc) (f : Fr) (hf : MayF f) (h4 : f.kind = 0 → f.n ≤ 400) : Gath (k + 1) (pre ++ [f]) (mergeS acc f) := by
  obtain ⟨h1, h2, h3, ha, hl⟩ := h
  rcases List.eq_nil_or_concat acc with rfl | ⟨a, g, rfl⟩
  · refine ⟨?_, ?_, ?_, trivial, by show 1 ≤ k + 1; omega⟩
    · rw [joinF_append, ← h1]; rfl
    · intro x hx
      obtain rfl : x = f := by simpa [mergeS] using hx
      exact hf
    · intro x hx h0
      obtain rfl : x = f := by simpa [mergeS] using hx
      have := h4 h0
      omega
  · rw [List.concat_eq_append] at h1 h2 h3 ha hl ⊢
    have e : mergeS (a ++ [g]) f = if f.kind = 0 ∧ g.kind = 0 then a ++ [{ g with n := g.n + f.n }] else a ++ [g] ++ [f] := by
      unfold mergeS
      simp
    rw [e]
    by_cases hz : f.kind = 0 ∧ g.kind = 0
    · rw [if_pos hz]
      obtain ⟨ef, f1, f2⟩ := may_pad f hf hz.1
      obtain ⟨eg, g1, g2⟩ := may_pad g (h2 g (by simp)) hz.2
      have hn := h3 g (by simp) hz.2
      have hf4 := h4 hz.1
      obtain ⟨n, hfn⟩ : ∃ n, f.n = n := ⟨_, rfl⟩
      obtain ⟨m, hgn⟩ : ∃ m, g.n = m := ⟨_, rfl⟩
      rw [hfn] at ef f1 f2 hf4
      rw [hgn] at eg g1 g2 hn
      subst ef eg
      refine ⟨?_, ?_, ?_, ?_, ?_⟩
      · rw [joinF_append, joinF_append pre, ← h1, joinF_append]
        have e1 : joinF [padF m] = List.replicate m 0 := by rw [joinF_cons]; simp [joinF, put_pad]
        have e2 : joinF [padF n] = List.replicate n 0 := by rw [joinF_cons]; simp [joinF, put_pad]
        have e3 : joinF [({ padF m with n := (padF m).n + (padF n).n } : Fr)] = List.replicate (m + n) 0 := by rw [joinF_cons]; simp [joinF]; rfl
        rw [e1, e2, e3, List.append_assoc, List.replicate_append_replicate]
      · intro x hx
        rcases List.mem_append.1 hx with hx | hx
        · exact h2 x (List.mem_append_left _ hx)
        · obtain rfl : x = ({ padF m with n := (padF m).n + (padF n).n } : Fr) := by simpa using hx
          exact padF_may (m + n) (by omega) (by omega)
      · intro x hx h0
        rcases List.mem_append.1 hx with hx | hx
        · have := h3 x (List.mem_append_left _ hx) h0
          omega
        · obtain rfl : x = ({ padF m with n := (padF m).n + (padF n).n } : Fr) := by simpa using hx
          show m + n ≤ _
          omega
      · exact apart_swap a (padF m) _ rfl ha
      · simp only [List.length_append, List.length_cons, List.length_nil] at hl ⊢
        omega
    · rw [if_neg hz]
      refine ⟨?_, ?_, ?_, apart_snoc a g f ha (fun h => hz ⟨h.2, h.1⟩), ?_⟩
      · rw [joinF_append, joinF_append pre, ← h1]
      · intro x hx
        rcases List.mem_append.1 hx with hx | hx
        · exact h2 x hx
        · obtain rfl : x = f := by simpa using hx
          exact hf
      · intro x hx h0
        rcases List.mem_append.1 hx with hx | hx
        · have := h3 x hx h0
          omega
        · obtain rfl : x = f := by simpa using hx
          have := h4 h0
          omega
      · simp only [List.length_append, List.length_cons, List.length_nil] at hl ⊢
        omega
/-- frames laid one behind the other are read as they were, zeros that touch as one -/
theorem allX_merge (fs : List Fr) (hm : ∀ f ∈ fs, MayF f) (h4 : ∀ f ∈ fs, f.kind = 0 → f.n ≤ 400) (h1 : 1 ≤ fs.length) (h8 : fs.length ≤ 8) : allX (joinF fs) = .ok (mergeF fs) := by
  have key : ∀ (post pre acc : List Fr), pre.length + post.length ≤ 8 → (∀ f ∈ post, MayF f) → (∀ f ∈ post, f.kind = 0 → f.n ≤ 400) → Gath pre.length pre acc → Gath (pre.length + post.length) (pre ++ post) (post.foldl mergeS acc) := by
    intro post
    induction post with
    | nil => intro pre acc _ _ _ h; simpa using h
    | cons f t ih =>
      intro pre acc hl hmp h4p h
      have hs := gath_step pre.length (by simp at hl; omega) pre acc h f (hmp f (List.mem_cons_self ..)) (h4p f (List.mem_cons_self ..))
      have hlen : (pre ++ [f]).length = pre.length + 1 := by simp
      have h5 := ih (pre ++ [f]) (mergeS acc f) (by simp at hl ⊢; omega) (fun x hx => hmp x (List.mem_cons_of_mem _ hx)) (fun x hx => h4p x (List.mem_cons_of_mem _ hx)) (by rw [hlen]; exact hs)
      rw [hlen] at h5
      rw [show pre.length + (f :: t).length = pre.length + 1 + t.length by simp; omega, show pre ++ f :: t = pre ++ [f] ++ t by simp]
      exact h5
  have h0 : Gath 0 [] [] := ⟨rfl, by simp, by simp, trivial, by simp⟩
  have hg := key fs [] [] (by simpa using h8) hm h4 h0
  simp only [List.length_nil, Nat.zero_add, List.nil_append] at hg
  obtain ⟨g1, g2, g3, g4, g5⟩ := hg
  have hne : 1 ≤ (mergeF fs).length := by
    cases fs with
    | nil => simp at h1
    | cons f t =>
      obtain ⟨b, u, hu⟩ := putF_ne f (hm f (List.mem_cons_self ..))
      rcases Nat.eq_zero_or_pos (mergeF (f :: t)).length with hz | hz
      · have e : mergeF (f :: t) = [] := List.eq_nil_of_length_eq_zero hz
        have g1' : joinF (mergeF (f :: t)) = joinF (f :: t) := g1
        rw [e, joinF_cons, hu] at g1'
        simp [joinF] at g1'
      · exact hz
  have g1' : joinF (mergeF fs) = joinF fs := g1
  rw [← g1']
  exact allX_join (mergeF fs) g2 g4 hne (by have : (mergeF fs).length ≤ fs.length := g5; omega)
end Go.Proofs.Ytcipmfhacloegaa
