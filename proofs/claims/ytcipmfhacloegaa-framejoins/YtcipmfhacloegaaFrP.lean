/-
  Frames as data: which may be, how they are laid, how bytes are read, and that what is laid is read as it was. (Lists alone, no program.)
-/
import Derived.Test.YtcipmfhacloegaaVarintE
namespace Go.Proofs.Ytcipmfhacloegaa
open Go.RowKit
set_option linter.unusedVariables false

/-- a frame -/
structure Fr where
  kind : Int
  n : Nat
  delay : Nat
  rs : List (Nat × Nat)
  id : Nat
  off : Nat
  fin : Bool
  data : List UInt8
  cid : List UInt8
  tok : List UInt8
deriving DecidableEq
def Fr.of (k : Int) : Fr := ⟨k, 0, 0, [], 0, 0, false, [], [], []⟩
def maxV : Nat := 4611686018427387903

/-- ranges (lowest, highest), falling, behind one whose lowest is told -/
def chainR : Option Nat → List (Nat × Nat) → Prop
  | _, [] => True
  | p, (lo, hi) :: t => lo ≤ hi ∧ hi ≤ maxV ∧ (∀ q, p = some q → hi + 2 ≤ q) ∧ chainR (some lo) t
def RangesP (rs : List (Nat × Nat)) : Prop := 1 ≤ rs.length ∧ rs.length ≤ 8 ∧ chainR none rs
/-- nothing of what a kind may have -/
def plainF (f : Fr) : Prop := f.n = 0 ∧ f.delay = 0 ∧ f.rs = [] ∧ f.id = 0 ∧ f.off = 0 ∧ f.fin = false ∧ f.data = [] ∧ f.cid = [] ∧ f.tok = []
/-- may a frame be? -/
def MayF (f : Fr) : Prop :=
  if f.kind = 0 then (1 ≤ f.n ∧ f.n ≤ 16384) ∧ plainF { f with n := 0 }
  else if f.kind = 1 ∨ f.kind = 30 then plainF f
  else if f.kind = 2 then (f.delay ≤ maxV ∧ RangesP f.rs) ∧ plainF { f with delay := 0, rs := [] }
  else if f.kind = 6 then (f.data.length < 16384 ∧ f.id ≤ maxV ∧ f.off + f.data.length ≤ maxV) ∧ plainF { f with off := 0, data := [] }
  else if f.kind = 8 then (f.data.length < 16384 ∧ f.id ≤ maxV ∧ f.off + f.data.length ≤ maxV) ∧ plainF { f with off := 0, data := [], id := 0, fin := false }
  else if f.kind = 16 ∨ f.kind = 25 ∨ f.kind = 28 then f.n ≤ maxV ∧ plainF { f with n := 0 }
  else if f.kind = 24 then (f.n ≤ maxV ∧ f.cid.length = 8 ∧ f.tok.length = 16) ∧ plainF { f with n := 0, cid := [], tok := [] }
  else if f.kind = 26 ∨ f.kind = 27 then f.data.length = 8 ∧ plainF { f with data := [] }
  else False

/-- the bytes of ranges behind one whose lowest is told -/
def putRs : Nat → List (Nat × Nat) → List UInt8
  | _, [] => []
  | p, (lo, hi) :: t => enc (p - hi - 2) ++ (enc (hi - lo) ++ putRs lo t)
def putAck (delay : Nat) : List (Nat × Nat) → List UInt8
  | [] => []
  | (lo, hi) :: t => 2 :: (enc hi ++ (enc delay ++ (enc t.length ++ (enc (hi - lo) ++ putRs lo t))))
/-- the bytes of a frame that may be -/
def putF (f : Fr) : List UInt8 :=
  if f.kind = 0 then List.replicate f.n 0
  else if f.kind = 2 then putAck f.delay f.rs
  else if f.kind = 6 then 6 :: (enc f.off ++ (enc f.data.length ++ f.data))
  else if f.kind = 8 then (if f.fin = true then 15 else 14) :: (enc f.id ++ (enc f.off ++ (enc f.data.length ++ f.data)))
  else if f.kind = 16 ∨ f.kind = 25 then UInt8.ofNat f.kind.toNat :: enc f.n
  else if f.kind = 28 then 28 :: (enc f.n ++ [0, 0])
  else if f.kind = 24 then 24 :: (enc f.n ++ (0 :: 8 :: (f.cid ++ f.tok)))
  else if f.kind = 26 ∨ f.kind = 27 then UInt8.ofNat f.kind.toNat :: f.data
  else [UInt8.ofNat f.kind.toNat]

/-- the next number, and what is left -/
def numX (l : List UInt8) (most : Nat) : Except Nat (Nat × List UInt8) :=
  if (getV l).2.2 ≠ 0 then .error (getV l).2.2 else if most < (getV l).1 then .error 5 else .ok ((getV l).1, l.drop (getV l).2.1)
/-- the next bytes, and what is left -/
def bytesX (l : List UInt8) (k : Nat) : Except Nat (List UInt8 × List UInt8) := if l.length < k then .error 3 else .ok (l.take k, l.drop k)
/-- a step behind another one that went well -/
def thenX {α β : Type} : Except Nat α → (α → Except Nat β) → Except Nat β
  | .error e, _ => .error e
  | .ok a, f => f a
/-- so many ranges more, below one whose lowest is told -/
def moreX : Nat → Nat → List UInt8 → Except Nat (List (Nat × Nat) × List UInt8)
  | 0, _, l => .ok ([], l)
  | k + 1, lo, l => thenX (numX l maxV) fun g =>
      if lo < 2 ∨ lo - 2 < g.1 then .error 5 else thenX (numX g.2 (lo - 2 - g.1)) fun m =>
        thenX (moreX k (lo - 2 - g.1 - m.1) m.2) fun r => .ok ((lo - 2 - g.1 - m.1, lo - 2 - g.1) :: r.1, r.2)
def ackX (l : List UInt8) : Except Nat (Fr × List UInt8) :=
  thenX (numX l maxV) fun hi => thenX (numX hi.2 maxV) fun d => thenX (numX d.2 7) fun k => thenX (numX k.2 hi.1) fun m =>
    thenX (moreX k.1 (hi.1 - m.1) m.2) fun r => .ok ({ Fr.of 2 with delay := d.1, rs := (hi.1 - m.1, hi.1) :: r.1 }, r.2)
def dataX (f : Fr) (l : List UInt8) : Except Nat (Fr × List UInt8) :=
  thenX (numX l maxV) fun o => thenX (numX o.2 16383) fun k => if maxV < o.1 + k.1 then .error 5 else thenX (bytesX k.2 k.1) fun d => .ok ({ f with off := o.1, data := d.1 }, d.2)
/-- how many zeros stand at the beginning -/
def zerosN : List UInt8 → Nat
  | [] => 0
  | b :: r => if b = 0 then zerosN r + 1 else 0
/-- the frame at the beginning, and what is left -/
def getX : List UInt8 → Except Nat (Fr × List UInt8)
  | [] => .error 3
  | b :: r =>
    if b.toNat = 0 then .ok ({ Fr.of 0 with n := min (zerosN (b :: r)) 16384 }, (b :: r).drop (min (zerosN (b :: r)) 16384))
    else if b.toNat = 1 ∨ b.toNat = 30 then .ok (Fr.of (b.toNat : Int), r)
    else if b.toNat = 2 then ackX r
    else if b.toNat = 6 then dataX (Fr.of 6) r
    else if b.toNat = 14 ∨ b.toNat = 15 then thenX (numX r maxV) fun i => dataX { Fr.of 8 with id := i.1, fin := decide (b.toNat = 15) } i.2
    else if b.toNat = 16 ∨ b.toNat = 25 then thenX (numX r maxV) fun i => .ok ({ Fr.of (b.toNat : Int) with n := i.1 }, i.2)
    else if b.toNat = 28 then thenX (numX r maxV) fun i => thenX (numX i.2 0) fun k => thenX (numX k.2 0) fun m => .ok ({ Fr.of 28 with n := i.1 }, m.2)
    else if b.toNat = 24 then thenX (numX r maxV) fun i => thenX (numX i.2 0) fun k => thenX (bytesX k.2 1) fun o =>
      if o.1 ≠ [8] then .error 5 else thenX (bytesX o.2 8) fun c => thenX (bytesX c.2 16) fun t => .ok ({ Fr.of 24 with n := i.1, cid := c.1, tok := t.1 }, t.2)
    else if b.toNat = 26 ∨ b.toNat = 27 then thenX (bytesX r 8) fun d => .ok ({ Fr.of (b.toNat : Int) with data := d.1 }, d.2)
    else .error 6
/-- the frames of bytes; cnt: how many there are already -/
def rowX : Nat → Nat → List UInt8 → Except Nat (List Fr)
  | _, _, [] => .ok []
  | 0, _, _ :: _ => .error 5
  | fuel + 1, cnt, b :: r => if cnt = 64 then .error 4 else thenX (getX (b :: r)) fun f => thenX (rowX fuel (cnt + 1) f.2) fun t => .ok (f.1 :: t)
def allX (l : List UInt8) : Except Nat (List Fr) := if l = [] then .error 5 else rowX l.length 0 l

theorem thenX_ok {α β : Type} (a : α) (f : α → Except Nat β) : thenX (.ok a) f = f a := rfl
theorem thenX_err {α β : Type} (e : Nat) (f : α → Except Nat β) : thenX (.error e : Except Nat α) f = .error e := rfl
theorem numX_enc (v most : Nat) (hv : v ≤ maxV) (hm : v ≤ most) (r : List UInt8) : numX (enc v ++ r) most = .ok (v, r) := by
  unfold maxV at hv
  obtain ⟨k, s, hc, hl, he, hks, hr⟩ := small_cases v (by omega)
  unfold numX
  rw [he, getV_enc v k (two_pow_of hks).2 hr r]
  simp only [ne_eq, not_true_eq_false, if_false]
  rw [if_neg (by omega)]
  simp [← encV_length v k]
theorem bytesX_app (a r : List UInt8) (k : Nat) (h : a.length = k) : bytesX (a ++ r) k = .ok (a, r) := by
  unfold bytesX
  rw [if_neg (by simp; omega), List.take_left' h, List.drop_left' h]
theorem numX_zero (most : Nat) (r : List UInt8) : numX (0 :: r) most = .ok (0, r) := by
  have h := numX_enc 0 most (by unfold maxV; omega) (by omega) r
  have e : enc 0 = [0] := by decide
  rw [e] at h
  exact h
/-- ranges that are laid are read as they were -/
theorem moreX_put (rs : List (Nat × Nat)) (p : Nat) (h : chainR (some p) rs) (hp : p ≤ maxV) (r : List UInt8) : moreX rs.length p (putRs p rs ++ r) = .ok (rs, r) := by
  induction rs generalizing p with
  | nil => rfl
  | cons x t ih =>
    obtain ⟨lo, hi⟩ := x
    obtain ⟨h1, h2, h3, h4⟩ := h
    have h3 := h3 p rfl
    have e1 : p - 2 - (p - hi - 2) = hi := by omega
    have e2 : hi - (hi - lo) = lo := by omega
    show thenX _ _ = _
    unfold putRs
    rw [List.append_assoc, numX_enc _ _ (by omega) (by omega), thenX_ok]
    simp only
    rw [if_neg (by omega), List.append_assoc, numX_enc _ _ (by omega) (by omega), thenX_ok]
    simp only [e1, e2]
    rw [ih lo h4 (by omega), thenX_ok]
theorem ackX_put (delay : Nat) (rs : List (Nat × Nat)) (hd : delay ≤ maxV) (h : RangesP rs) (r : List UInt8) : ∃ t, putAck delay rs = 2 :: t ∧ ackX (t ++ r) = .ok ({ Fr.of 2 with delay := delay, rs := rs }, r) := by
  obtain ⟨hl1, hl8, hc⟩ := h
  cases rs with
  | nil => simp at hl1
  | cons x t =>
    obtain ⟨lo, hi⟩ := x
    obtain ⟨h1, h2, _, h4⟩ := hc
    refine ⟨_, rfl, ?_⟩
    have e2 : hi - (hi - lo) = lo := by omega
    have hl : t.length ≤ 7 := by simp at hl8; omega
    unfold ackX
    rw [List.append_assoc, numX_enc hi _ h2 h2, thenX_ok]
    simp only
    rw [List.append_assoc, numX_enc delay _ hd hd, thenX_ok]
    simp only
    rw [List.append_assoc, numX_enc t.length _ (by unfold maxV; omega) hl, thenX_ok]
    simp only
    rw [List.append_assoc, numX_enc (hi - lo) _ (by omega) (by omega), thenX_ok]
    simp only [e2]
    rw [moreX_put t lo h4 (by omega) r, thenX_ok]
theorem dataX_put (f : Fr) (o : Nat) (d r : List UInt8) (hd : d.length < 16384) (ho : o + d.length ≤ maxV) : dataX f (enc o ++ (enc d.length ++ d) ++ r) = .ok ({ f with off := o, data := d }, r) := by
  unfold dataX
  rw [List.append_assoc, numX_enc o _ (by omega) (by omega), thenX_ok]
  simp only
  rw [List.append_assoc, numX_enc d.length _ (by omega) (by omega), thenX_ok]
  simp only
  rw [if_neg (by omega), bytesX_app d r _ rfl, thenX_ok]
theorem zeros_app (n : Nat) (r : List UInt8) (hr : r.head? ≠ some 0) : zerosN (List.replicate n 0 ++ r) = n := by
  induction n with
  | zero =>
    cases r with
    | nil => rfl
    | cons b r =>
      have hb : b ≠ 0 := fun h => hr (by rw [h]; rfl)
      simp [zerosN, hb]
  | succ n ih =>
    show (if (0 : UInt8) = 0 then _ else _) = _
    rw [if_pos rfl]
    exact congrArg (· + 1) ih
/-- a frame that is laid is read as it was, whatever stands behind (zeros but behind zeros) -/
theorem getX_put (f : Fr) (h : MayF f) (r : List UInt8) (hr : f.kind = 0 → r.head? ≠ some 0) : getX (putF f ++ r) = .ok (f, r) := by
  obtain ⟨k, n, delay, rs, id, off, fin, data, cid, tok⟩ := f
  unfold MayF at h
  unfold putF
  simp only at h hr ⊢
  by_cases h0 : k = 0
  · rw [if_pos h0] at h ⊢
    obtain ⟨⟨h1, h2⟩, hp⟩ := h
    simp only [plainF] at hp
    obtain ⟨_, rfl, rfl, rfl, rfl, rfl, rfl, rfl, rfl⟩ := hp
    subst h0
    have hz := zeros_app n r (hr rfl)
    obtain ⟨m, rfl⟩ : ∃ m, n = m + 1 := ⟨n - 1, by omega⟩
    have e : List.replicate (m + 1) (0 : UInt8) ++ r = 0 :: (List.replicate m 0 ++ r) := rfl
    rw [e] at hz ⊢
    have eg : ∀ l : List UInt8, getX (0 :: l) = .ok ({ Fr.of 0 with n := min (zerosN (0 :: l)) 16384 }, (0 :: l).drop (min (zerosN (0 :: l)) 16384)) := fun l => rfl
    rw [eg, hz, show min (m + 1) 16384 = m + 1 by omega]
    refine congrArg Except.ok (Prod.ext rfl ?_)
    show (List.replicate m 0 ++ r).drop m = r
    rw [List.drop_left' (by simp)]
  · rw [if_neg h0] at h ⊢
    by_cases h1 : k = 1 ∨ k = 30
    · rw [if_pos h1] at h
      simp only [plainF] at h
      obtain ⟨rfl, rfl, rfl, rfl, rfl, rfl, rfl, rfl, rfl⟩ := h
      rcases h1 with rfl | rfl <;> rfl
    · rw [if_neg h1] at h
      by_cases h2 : k = 2
      · rw [if_pos h2] at h ⊢
        obtain ⟨⟨hd, hrs⟩, hp⟩ := h
        simp only [plainF] at hp
        obtain ⟨rfl, _, _, rfl, rfl, rfl, rfl, rfl, rfl⟩ := hp
        subst h2
        obtain ⟨t, e1, e2⟩ := ackX_put delay rs hd hrs r
        rw [e1]
        exact e2
      · rw [if_neg h2] at h ⊢
        by_cases h6 : k = 6
        · rw [if_pos h6] at h ⊢
          obtain ⟨⟨hd, hi, ho⟩, hp⟩ := h
          simp only [plainF] at hp
          obtain ⟨rfl, rfl, rfl, rfl, _, rfl, _, rfl, rfl⟩ := hp
          subst h6
          exact dataX_put (Fr.of 6) off data r hd ho
        · rw [if_neg h6] at h ⊢
          by_cases h8 : k = 8
          · rw [if_pos h8] at h ⊢
            obtain ⟨⟨hd, hi, ho⟩, hp⟩ := h
            simp only [plainF] at hp
            obtain ⟨rfl, rfl, rfl, _, _, _, _, rfl, rfl⟩ := hp
            subst h8
            have e := numX_enc id maxV hi hi (enc off ++ (enc data.length ++ data) ++ r)
            rw [← List.append_assoc] at e
            cases fin
            · show thenX (numX (enc id ++ (enc off ++ (enc data.length ++ data)) ++ r) maxV) _ = _
              rw [e, thenX_ok]
              exact dataX_put _ off data r hd ho
            · show thenX (numX (enc id ++ (enc off ++ (enc data.length ++ data)) ++ r) maxV) _ = _
              rw [e, thenX_ok]
              exact dataX_put _ off data r hd ho
          · rw [if_neg h8] at h ⊢
            by_cases h16 : k = 16 ∨ k = 25
            · rw [if_pos (by omega)] at h
              rw [if_pos h16]
              obtain ⟨hn, hp⟩ := h
              simp only [plainF] at hp
              obtain ⟨_, rfl, rfl, rfl, rfl, rfl, rfl, rfl, rfl⟩ := hp
              have e := numX_enc n maxV hn hn r
              rcases h16 with rfl | rfl
              · show thenX (numX (enc n ++ r) maxV) _ = _
                rw [e, thenX_ok]
                rfl
              · show thenX (numX (enc n ++ r) maxV) _ = _
                rw [e, thenX_ok]
                rfl
            · rw [if_neg h16]
              by_cases h28 : k = 28
              · rw [if_pos (by omega)] at h
                rw [if_pos h28]
                obtain ⟨hn, hp⟩ := h
                simp only [plainF] at hp
                obtain ⟨_, rfl, rfl, rfl, rfl, rfl, rfl, rfl, rfl⟩ := hp
                subst h28
                show thenX (numX (enc n ++ [0, 0] ++ r) maxV) _ = _
                rw [List.append_assoc, numX_enc n maxV hn hn, thenX_ok]
                simp only [List.cons_append, List.nil_append]
                rw [numX_zero, thenX_ok]
                simp only
                rw [numX_zero, thenX_ok]
                rfl
              · rw [if_neg (by omega)] at h
                rw [if_neg h28]
                by_cases h24 : k = 24
                · rw [if_pos h24] at h ⊢
                  obtain ⟨⟨hn, hc, ht⟩, hp⟩ := h
                  simp only [plainF] at hp
                  obtain ⟨_, rfl, rfl, rfl, rfl, rfl, rfl, _, _⟩ := hp
                  subst h24
                  show thenX (numX (enc n ++ (0 :: 8 :: (cid ++ tok)) ++ r) maxV) _ = _
                  rw [List.append_assoc, numX_enc n maxV hn hn, thenX_ok]
                  simp only [List.cons_append]
                  rw [numX_zero, thenX_ok]
                  simp only
                  have e1 := bytesX_app [8] (cid ++ tok ++ r) 1 rfl
                  rw [show (8 : UInt8) :: (cid ++ tok ++ r) = [8] ++ (cid ++ tok ++ r) from rfl, e1, thenX_ok]
                  simp only [ne_eq, not_true_eq_false, if_false]
                  rw [List.append_assoc, bytesX_app cid (tok ++ r) 8 hc, thenX_ok]
                  simp only
                  rw [bytesX_app tok r 16 ht, thenX_ok]
                  rfl
                · rw [if_neg h24] at h ⊢
                  by_cases h26 : k = 26 ∨ k = 27
                  · rw [if_pos h26] at h ⊢
                    obtain ⟨hd, hp⟩ := h
                    simp only [plainF] at hp
                    obtain ⟨rfl, rfl, rfl, rfl, rfl, rfl, _, rfl, rfl⟩ := hp
                    rcases h26 with rfl | rfl
                    · show thenX (bytesX (data ++ r) 8) _ = _
                      rw [bytesX_app data r 8 hd, thenX_ok]
                      rfl
                    · show thenX (bytesX (data ++ r) 8) _ = _
                      rw [bytesX_app data r 8 hd, thenX_ok]
                      rfl
                  · rw [if_neg h26] at h
                    exact h.elim
end Go.Proofs.Ytcipmfhacloegaa
