/-
  What package outgo keeps of a stream (how many were sent, marks of what is lost and there, where to look from, the end), beside each place's state: what each call does to both. Pure.
-/
import Derived.Test.YtkodjajhlcbmkaaDoorOuQ
import Derived.Test.YtkodjajhlcbmkaaDoorOuW
namespace Go.Proofs.YtkodjajhlcbmkaaDoor
open Go.RowKit
set_option linter.unusedVariables false

/-- what is kept says what s says -/
structure OuM (n sent left low e : Nat) (p q : Nat → Bool) (s : Nat → Nat) : Prop where
  new : ∀ i, i < n → (s i = 0 ↔ sent ≤ i)
  lost : ∀ i, i < n → p i = decide (s i = 2)
  there : ∀ i, i < n → q i = decide (s i = 3)
  three : ∀ i, i ≤ n → s i ≤ 3
  lw : ∀ i, i < low → s i ≠ 2
  lf : left = leftV n s
  en : e = s n
  sn : sent ≤ n
  lo : low ≤ sent
  e0 : s n ≠ 0 → sent = n
  e1 : sent = n → 0 < n → s n ≠ 0
theorem OuM.start (n : Nat) : OuM n 0 n 0 0 (fun _ => false) (fun _ => false) (fun _ => 0) :=
  ⟨fun i _ => by simp, fun i _ => by simp, fun i _ => by simp, fun i _ => by simp, fun i hi => absurd hi (by omega), by
    rw [left_of (a := 0) fun i _ => by simp]
    omega, rfl, by omega, by omega, fun h => absurd rfl h, fun h1 h2 => by omega⟩
theorem OuM.sent {n sent left low e : Nat} {p q : Nat → Bool} {s : Nat → Nat} (h : OuM n sent left low e p q s) : sentV n s = sent := by
  rw [sent_of (a := sent) fun i hi => by have := h.new i hi; omega]
  have := h.sn
  omega
theorem OuM.done {n sent left low e : Nat} {p q : Nat → Bool} {s : Nat → Nat} (h : OuM n sent left low e p q s) : (decide (left = 0) && decide (e = 3)) = doneV n s := by
  unfold doneV
  rw [h.lf, h.en]
theorem next_room (n : Nat) (s : Nat → Nat) (room allow : Int) : nextV n s room allow = nextV n s (room.toNat : Int) allow := by
  unfold nextV
  simp only [Int.toNat_natCast]
/-- what pick tells -/
structure PickV (n sent low : Nat) (p : Nat → Bool) (R : Nat) (allow : Int) (f t : Nat) : Prop where
  ft : f ≤ t
  tn : t ≤ n
  fs : f ≤ sent
  way : (f < sent ∧ FirstW p false low sent f ∧ FirstW p true f (f + min R (sent - f)) t) ∨ (f = sent ∧ FirstW p false low sent f ∧ (t : Int) = sent + min (R : Int) (max (sent : Int) (min allow n) - sent))
theorem OuM.pick {n sent left low e R f t : Nat} {p q : Nat → Bool} {s : Nat → Nat} {room allow : Int} (h : OuM n sent left low e p q s) (hR : R = room.toNat) (hp : PickV n sent low p R allow f t) : nextV n s room allow = sendV n s f t := by
  rw [next_room, ← hR]
  have hsn := h.sn
  have hlo := h.lo
  rcases hp.way with ⟨w1, w2, w3⟩ | ⟨rfl, w2, w3⟩
  · have l1 := w2.1
    have hs : s f = 2 := by
      have := w2.2.2.2 w1
      rw [h.lost f (by omega)] at this
      simpa using this
    have t1 := w3.1
    have t2 := w3.2.1
    refine next_lost (by omega) hs (fun j hj => ?_) t1 (by omega) (by omega) (fun j h1 h2 => ?_) ?_
    · by_cases c : j < low
      · exact h.lw j c
      · have := w2.2.2.1 j (by omega) hj
        rw [h.lost j (by omega)] at this
        simpa using this
    · have := w3.2.2.1 j h1 h2
      rw [h.lost j (by omega)] at this
      simpa using this
    · by_cases c : t < f + min R (sent - f)
      · refine .inr (.inr ?_)
        have := w3.2.2.2 c
        rw [h.lost t (by omega)] at this
        simpa using this
      · by_cases c2 : t = f + R
        · exact .inr (.inl (by omega))
        · have ht : t = sent := by omega
          by_cases c3 : t = n
          · exact .inl c3
          · refine .inr (.inr ?_)
            have := (h.new t (by omega)).2 (by omega)
            omega
  · have hnl : ∀ j, j < n → s j ≠ 2 := fun j hj => by
      by_cases c : f ≤ j
      · have := (h.new j hj).2 c
        omega
      · by_cases c2 : j < low
        · exact h.lw j c2
        · have := w2.2.2.1 j (by omega) (by omega)
          rw [h.lost j hj] at this
          simpa using this
    by_cases hn2 : s n = 2
    · have hfn : f = n := h.e0 (by rw [hn2]; decide)
      subst hfn
      obtain rfl : t = f := by omega
      unfold nextV
      rw [first_none hnl]
      simp only
      rw [if_pos hn2]
    · have hl : ∀ j, j ≤ n → s j ≠ 2 := fun j hj => by
        by_cases c : j = n
        · subst c; exact hn2
        · exact hnl j (by omega)
      by_cases hfn : f < n
      · have hb : ∀ j, j < f → s j ≠ 0 := fun j hj => by have := h.new j (by omega); omega
        have hz : ∀ j, f ≤ j → j < n → s j = 0 := fun j h1 h2 => (h.new j h2).2 h1
        by_cases ha : (f : Int) < allow
        · exact next_fresh hl hfn (hz f (Nat.le_refl _) hfn) hb ha (by omega) (by omega) (by omega) (by omega) (fun j h1 h2 => hz j h1 (by omega)) (by omega)
        · obtain rfl : t = f := by omega
          rw [next_wait hl hfn (hz t (Nat.le_refl _) hfn) hb ha]
          unfold sendV
          rw [if_pos ⟨rfl, end_within (by omega)⟩]
      · obtain rfl : f = n := by omega
        obtain rfl : t = f := by omega
        by_cases h0 : s t = 0
        · unfold nextV
          rw [first_none hnl, first_none fun j hj => by have := h.new j hj; omega]
          simp only
          rw [if_neg hn2, if_pos h0]
        · rw [next_none hl fun j hj => ?_]
          · unfold sendV endV
            simp [h0, hn2]
          · by_cases c : j = t
            · subst c; exact h0
            · have := h.new j (by omega); omega
/-- nothing is told: but from where to look -/
theorem OuM.none {n sent left low e R f t : Nat} {p q : Nat → Bool} {s : Nat → Nat} {allow : Int} (h : OuM n sent left low e p q s) (hp : PickV n sent low p R allow f t) : OuM n sent left f e p q s :=
  ⟨h.new, h.lost, h.there, h.three, fun i hi => by
    have hF : FirstW p false low sent f := by rcases hp.way with w | w <;> exact w.2.1
    have h1 := hp.fs
    have h2 := h.sn
    by_cases c : i < low
    · exact h.lw i c
    · have := hF.2.2.1 i (by omega) hi
      rw [h.lost i (by omega)] at this
      simpa using this, h.lf, h.en, h.sn, hp.fs, h.e0, h.e1⟩
/-- what is told is under way -/
theorem OuM.told {n sent left low e R f t : Nat} {p q : Nat → Bool} {s : Nat → Nat} {allow : Int} (h : OuM n sent left low e p q s) (hp : PickV n sent low p R allow f t) (b : Bool) (hb : b = (decide (t = n) && (decide (e = 0) || decide (e = 2)))) :
    OuM n (max sent t) left f (if b = true then 1 else e) (putW p (fun _ => false) f t) q (landV n s 1 (some (f, t, b))) := by
  have hk := h.none hp
  have hsn := h.sn
  have h1 := hp.ft
  have h2 := hp.tn
  have h3 := hp.fs
  have hnt : sent < t → f = sent := fun hh => by
    rcases hp.way with ⟨w1, w2, w3⟩ | ⟨w1, _⟩
    · have := w3.2.1; omega
    · exact w1
  have hst : ∀ i, f ≤ i → i < t → s i ≠ 3 := fun i a b => by
    rcases hp.way with ⟨w1, w2, w3⟩ | ⟨w1, _, w3⟩
    · have := w3.2.2.1 i a b
      rw [h.lost i (by omega)] at this
      have : s i = 2 := by simpa using this
      omega
    · have := (h.new i (by omega)).2 (by omega)
      omega
  have hL : ∀ i, i < n → landV n s 1 (some (f, t, b)) i = if f ≤ i ∧ i < t then 1 else s i := fun i hi => by
    unfold landV
    simp only
    by_cases c : f ≤ i ∧ i < t
    · rw [if_pos (.inl c), if_pos c]
    · rw [if_neg (by rintro (c' | c'); exact c c'; omega), if_neg c]
  have hLn : landV n s 1 (some (f, t, b)) n = if b = true then 1 else s n := by
    unfold landV
    simp only
    by_cases c : b = true
    · rw [if_pos (Or.inr (And.intro trivial c)), if_pos c]
    · rw [if_neg (by rintro (c' | c') <;> first | omega | exact c c'.2), if_neg c]
  have hbt : b = true → t = n := fun hh => by rw [hb] at hh; simp at hh; exact hh.1
  have hbe : b = false → t = n → s n ≠ 0 := fun hh ht => by
    rw [hb, h.en] at hh
    simp [ht] at hh
    exact hh.1
  refine ⟨fun i hi => ?_, fun i hi => ?_, fun i hi => ?_, fun i hi => ?_, fun i hi => ?_, ?_, ?_, by omega, by omega, fun hh => ?_, fun hh h0 => ?_⟩
  · rw [hL i hi]
    by_cases c : f ≤ i ∧ i < t
    · rw [if_pos c]
      omega
    · rw [if_neg c, h.new i hi]
      omega
  · rw [hL i hi]
    unfold putW
    by_cases c : f ≤ i ∧ i < t
    · rw [if_pos c, if_pos c]; rfl
    · rw [if_neg c, if_neg c]; exact h.lost i hi
  · rw [hL i hi]
    by_cases c : f ≤ i ∧ i < t
    · rw [if_pos c, h.there i hi]
      have := hst i c.1 c.2
      simp [this]
    · rw [if_neg c]; exact h.there i hi
  · by_cases c : i = n
    · subst c
      rw [hLn]
      have := h.three i (Nat.le_refl _)
      split <;> omega
    · rw [hL i (by omega)]
      have := h.three i hi
      split <;> omega
  · rw [hL i (by omega), if_neg (by omega)]
    exact hk.lw i hi
  · rw [h.lf]
    refine cnt_same fun i hi => ?_
    rw [hL i hi]
    by_cases c : f ≤ i ∧ i < t
    · rw [if_pos c]
      have := hst i c.1 c.2
      simp [this]
    · rw [if_neg c]
  · rw [hLn, h.en]
  · rw [hLn] at hh
    by_cases c : b = true
    · have := hbt c
      omega
    · rw [if_neg c] at hh
      have := h.e0 hh
      omega
  · rw [hLn]
    by_cases c : b = true
    · rw [if_pos c]; decide
    · rw [if_neg c]
      by_cases ht : t = n
      · exact hbe (by simpa using c) ht
      · exact h.e1 (by omega) h0
/-- from where to where those go that were sent -/
structure SpanV (sent : Nat) (off m : Int) (lo hi : Nat) : Prop where
  le : lo ≤ hi
  hs : hi ≤ sent
  mem : ∀ i : Nat, (lo ≤ i ∧ i < hi) ↔ (i < sent ∧ off ≤ (i : Int) ∧ 0 < m ∧ (i : Int) - off < m)
theorem SpanV.inV {sent n lo hi i : Nat} {off m : Int} {e : Bool} (h : SpanV sent off m lo hi) (hi' : i < n) (hsi : i < sent) : inV n off m e i = true ↔ (lo ≤ i ∧ i < hi) := by
  rw [h.mem i]
  unfold Proofs.YtkodjajhlcbmkaaDoor.inV
  have : ¬ i = n := by omega
  simp [hi', this, hsi, and_assoc]
theorem cnt_parts (p q : Nat → Bool) : ∀ n : Nat, cntV p n = cntV (fun i => p i && q i) n + cntV (fun i => p i && !q i) n
  | 0 => rfl
  | n + 1 => by
    unfold cntV
    rw [cnt_parts p q n]
    cases p n <;> cases q n <;> simp <;> omega
theorem cnt_range {lo hi n : Nat} (h1 : lo ≤ hi) (h2 : hi ≤ n) : cntV (fun i => decide (lo ≤ i) && decide (i < hi)) n = hi - lo := by
  have e := cnt_parts (fun i => decide (i < hi)) (fun i => decide (lo ≤ i)) n
  rw [cnt_below] at e
  have e2 : cntV (fun i => decide (i < hi) && !decide (lo ≤ i)) n = min lo n := by
    rw [← cnt_below lo n]
    exact cnt_same fun i hi' => by
      by_cases c : lo ≤ i
      · have : ¬ i < lo := by omega
        simp [c, this]
      · have : i < lo := by omega
        have h' : i < hi := by omega
        simp [c, this, h']
  have e3 : cntV (fun i => decide (i < hi) && decide (lo ≤ i)) n = cntV (fun i => decide (lo ≤ i) && decide (i < hi)) n := cnt_same fun i _ => Bool.and_comm _ _
  rw [e2, e3] at e
  omega
theorem OuM.cameN {n sent left low e lo hi : Nat} {p q : Nat → Bool} {s : Nat → Nat} (h : OuM n sent left low e p q s) (h1 : lo ≤ hi) (h2 : hi ≤ n) (s' : Nat → Nat) (hs : ∀ i, i < n → s' i = if lo ≤ i ∧ i < hi then 3 else s i) :
    cntV (inW q lo hi) hi ≤ hi - lo ∧ hi - lo - cntV (inW q lo hi) hi ≤ left ∧ left - (hi - lo - cntV (inW q lo hi) hi) = leftV n s' := by
  have e1 : cntV (inW q lo hi) n = cntV (inW q lo hi) hi := cnt_more (fun i hi' => by unfold inW; simp; omega) h2
  have e2 := cnt_range h1 h2
  have e3 := cnt_parts (fun i => decide (lo ≤ i) && decide (i < hi)) q n
  have e4 : cntV (fun i => decide (lo ≤ i) && decide (i < hi) && q i) n = cntV (inW q lo hi) n := rfl
  have e5 := cnt_parts (fun i => decide (s i ≠ 3)) (fun i => decide (lo ≤ i) && decide (i < hi)) n
  have e6 : cntV (fun i => decide (s i ≠ 3) && (decide (lo ≤ i) && decide (i < hi))) n = cntV (fun i => decide (lo ≤ i) && decide (i < hi) && !q i) n := cnt_same fun i hi' => by
    rw [h.there i hi', Bool.and_comm]
    congr 1
    by_cases c : s i = 3 <;> simp [c]
  have e7 : cntV (fun i => decide (s i ≠ 3) && !(decide (lo ≤ i) && decide (i < hi))) n = leftV n s' := cnt_same fun i hi' => by
    rw [hs i hi']
    by_cases c : lo ≤ i ∧ i < hi
    · rw [if_pos c]; simp [c]
    · rw [if_neg c, show (decide (lo ≤ i) && decide (i < hi)) = false by simpa using c]; simp
  have e8 : cntV (fun i => decide (s i ≠ 3)) n = left := h.lf.symm
  rw [e2, e4, e1] at e3
  rw [e6, e7, e8] at e5
  omega
/-- what came -/
theorem OuM.came {n sent left low e lo hi : Nat} {p q : Nat → Bool} {s : Nat → Nat} {off m : Int} {b : Bool} (h : OuM n sent left low e p q s) (hS : SpanV sent off m lo hi) :
    OuM n sent (left - (hi - lo - cntV (inW q lo hi) hi)) low (if b = true ∧ e ≠ 0 then 3 else e) (putW p (fun _ => false) lo hi) (putW q (fun _ => true) lo hi) (thereV n s off m b) := by
  have hsn := h.sn
  have h1 := hS.le
  have h2 := hS.hs
  have hs : ∀ i, i < n → thereV n s off m b i = if lo ≤ i ∧ i < hi then 3 else s i := fun i hi' => by
    unfold thereV
    by_cases c : i < sent
    · have hn0 : s i ≠ 0 := fun e0 => by have := (h.new i hi').1 e0; omega
      have := h.three i (by omega)
      by_cases c2 : lo ≤ i ∧ i < hi
      · rw [if_pos c2]
        by_cases c3 : s i = 3
        · rw [if_neg (by rw [c3]; omega), c3]
        · rw [if_pos ⟨(hS.inV hi' c).2 c2, by omega⟩]
      · rw [if_neg c2, if_neg (fun h' => c2 ((hS.inV hi' c).1 h'.1))]
    · have := (h.new i hi').2 (by omega)
      rw [if_neg (by omega), if_neg (by omega)]
  have hn : thereV n s off m b n = if b = true ∧ e ≠ 0 then 3 else e := by
    have h3 := h.three n (Nat.le_refl _)
    have : inV n off m b n = b := by unfold Proofs.YtkodjajhlcbmkaaDoor.inV; simp
    unfold thereV
    rw [this, h.en]
    by_cases c : b = true
    · by_cases c2 : s n = 1 ∨ s n = 2
      · rw [if_pos ⟨c, c2⟩, if_pos ⟨c, by omega⟩]
      · rw [if_neg (fun h' => c2 h'.2)]
        split <;> omega
    · rw [if_neg (fun h' => c h'.1), if_neg (fun h' => c h'.1)]
  obtain ⟨k1, k2, k3⟩ := h.cameN h1 (by omega) _ hs
  refine ⟨fun i hi' => ?_, fun i hi' => ?_, fun i hi' => ?_, fun i hi' => ?_, fun i hi' => ?_, k3, hn.symm, hsn, h.lo, fun hh => ?_, fun hh h0 => ?_⟩
  · rw [hs i hi', ← h.new i hi']
    by_cases c : lo ≤ i ∧ i < hi
    · rw [if_pos c]
      have := h.new i hi'
      omega
    · rw [if_neg c]
  · rw [hs i hi']
    unfold putW
    by_cases c : lo ≤ i ∧ i < hi
    · rw [if_pos c, if_pos c]; rfl
    · rw [if_neg c, if_neg c]; exact h.lost i hi'
  · rw [hs i hi']
    unfold putW
    by_cases c : lo ≤ i ∧ i < hi
    · rw [if_pos c, if_pos c]; rfl
    · rw [if_neg c, if_neg c]; exact h.there i hi'
  · by_cases c : i = n
    · subst c
      rw [hn, h.en]
      have := h.three i (Nat.le_refl _)
      split <;> omega
    · rw [hs i (by omega)]
      have := h.three i hi'
      split <;> omega
  · have := h.lo
    rw [hs i (by omega)]
    have := h.lw i hi'
    split
    · decide
    · exact this
  · rw [hn] at hh
    by_cases c : e = 0
    · rw [if_neg (by omega)] at hh
      exact absurd c hh
    · exact h.e0 (by rw [← h.en]; exact c)
  · rw [hn]
    have := h.e1 hh h0
    rw [← h.en] at this
    split
    · decide
    · exact this
/-- what was lost -/
theorem OuM.gone {n sent left low e lo hi : Nat} {p q : Nat → Bool} {s : Nat → Nat} {off m : Int} {b : Bool} (h : OuM n sent left low e p q s) (hS : SpanV sent off m lo hi) :
    OuM n sent left (min low lo) (if b = true ∧ e = 1 then 2 else e) (putW p (fun i => p i || !q i) lo hi) q (lostV n s off m b) := by
  have hsn := h.sn
  have h1 := hS.le
  have h2 := hS.hs
  have hlo := h.lo
  have hs : ∀ i, i < n → lostV n s off m b i = if (lo ≤ i ∧ i < hi) ∧ s i = 1 then 2 else s i := fun i hi' => by
    unfold lostV
    by_cases c : i < sent
    · by_cases c2 : lo ≤ i ∧ i < hi
      · by_cases c3 : s i = 1
        · rw [if_pos ⟨(hS.inV hi' c).2 c2, c3⟩, if_pos ⟨c2, c3⟩]
        · rw [if_neg (fun h' => c3 h'.2), if_neg (fun h' => c3 h'.2)]
      · rw [if_neg (fun h' => c2 ((hS.inV hi' c).1 h'.1)), if_neg (fun h' => c2 h'.1)]
    · have := (h.new i hi').2 (by omega)
      rw [if_neg (by omega), if_neg (by omega)]
  have hn : lostV n s off m b n = if b = true ∧ e = 1 then 2 else e := by
    have : inV n off m b n = b := by unfold Proofs.YtkodjajhlcbmkaaDoor.inV; simp
    unfold lostV
    rw [this, h.en]
  refine ⟨fun i hi' => ?_, fun i hi' => ?_, fun i hi' => ?_, fun i hi' => ?_, fun i hi' => ?_, ?_, hn.symm, hsn, by omega, fun hh => ?_, fun hh h0 => ?_⟩
  · rw [hs i hi', ← h.new i hi']
    by_cases c : (lo ≤ i ∧ i < hi) ∧ s i = 1
    · rw [if_pos c]; omega
    · rw [if_neg c]
  · rw [hs i hi']
    unfold putW
    by_cases c : lo ≤ i ∧ i < hi
    · have hn0 : s i ≠ 0 := fun e0 => by have := (h.new i hi').1 e0; omega
      have := h.three i (by omega)
      rw [if_pos c]
      show (p i || !q i) = _
      rw [h.lost i hi', h.there i hi']
      by_cases c2 : s i = 1
      · rw [if_pos ⟨c, c2⟩, c2]; rfl
      · rw [if_neg (fun h' => c2 h'.2)]
        by_cases c3 : s i = 2
        · simp [c3]
        · have : s i = 3 := by omega
          simp [this]
    · rw [if_neg c, if_neg (fun h' => c h'.1)]; exact h.lost i hi'
  · rw [hs i hi', h.there i hi']
    by_cases c : (lo ≤ i ∧ i < hi) ∧ s i = 1
    · rw [if_pos c, c.2]; rfl
    · rw [if_neg c]
  · by_cases c : i = n
    · subst c
      rw [hn, h.en]
      have := h.three i (Nat.le_refl _)
      split <;> omega
    · rw [hs i (by omega)]
      have := h.three i hi'
      split <;> omega
  · rw [hs i (by omega), if_neg (by omega)]
    exact h.lw i (by omega)
  · rw [h.lf]
    refine cnt_same fun i hi' => ?_
    rw [hs i hi']
    by_cases c : (lo ≤ i ∧ i < hi) ∧ s i = 1
    · rw [if_pos c, c.2]; rfl
    · rw [if_neg c]
  · rw [hn] at hh
    refine h.e0 ?_
    rw [← h.en]
    split at hh <;> omega
  · rw [hn]
    have := h.e1 hh h0
    rw [← h.en] at this
    split <;> omega
end Go.Proofs.YtkodjajhlcbmkaaDoor
