/-
  The digest as a function of lists: words, rounds, steps, what is filled up, the whole; nothing of the program.
-/
import Derived.KernelRfl
namespace Go.Proofs.YtnjdloocalfkmaaDoor
set_option linter.unusedVariables false

/-- bits turned to the right -/
def rotr (x : UInt32) (k : Nat) : UInt32 := (x >>> UInt32.ofNat k) ||| (x <<< UInt32.ofNat (32 - k))
def big1 (e : UInt32) : UInt32 := rotr e 6 ^^^ rotr e 11 ^^^ rotr e 25
def big0 (a : UInt32) : UInt32 := rotr a 2 ^^^ rotr a 13 ^^^ rotr a 22
def chV (e f g : UInt32) : UInt32 := (e &&& f) ^^^ (~~~e &&& g)
def majV (a b c : UInt32) : UInt32 := (a &&& b) ^^^ (a &&& c) ^^^ (b &&& c)
def sig1 (x : UInt32) : UInt32 := rotr x 17 ^^^ rotr x 19 ^^^ (x >>> 10)
def sig0 (x : UInt32) : UInt32 := rotr x 7 ^^^ rotr x 18 ^^^ (x >>> 3)

/-- one round; x: the round's constant and word -/
def rnd (s : List UInt32) (x : UInt32) : List UInt32 :=
  match s with
  | [a, b, c, d, e, f, g, h] =>
    [(h + x + big1 e + chV e f g) + (big0 a + majV a b c), a, b, c, d + (h + x + big1 e + chV e f g), e, f, g]
  | _ => s
theorem rnd_length (s : List UInt32) (x : UInt32) (h : s.length = 8) : (rnd s x).length = 8 := by
  match s, h with
  | [a, b, c, d, e, f, g, i], _ => rfl

/-- four bytes, the highest first -/
def be4 (b : List UInt8) (i : Nat) : UInt32 :=
  (b.getD (4 * i) 0).toUInt32 <<< 24 ||| (b.getD (4 * i + 1) 0).toUInt32 <<< 16 ||| (b.getD (4 * i + 2) 0).toUInt32 <<< 8 ||| (b.getD (4 * i + 3) 0).toUInt32
def mixV (l : List UInt32) (j : Nat) : UInt32 := l.getD (j - 16) 0 + l.getD (j - 7) 0 + sig1 (l.getD (j - 2) 0) + sig0 (l.getD (j - 15) 0)
/-- the first j words of a block's -/
def sch (b : List UInt8) : Nat → List UInt32
  | 0 => []
  | j + 1 => sch b j ++ [if j < 16 then be4 b j else mixV (sch b j) j]
theorem sch_length (b : List UInt8) (j : Nat) : (sch b j).length = j := by
  induction j with
  | zero => rfl
  | succ j ih => simp [sch, ih]
theorem sch_get (b : List UInt8) (n j : Nat) (h : j < n) : (sch b n).getD j 0 = if j < 16 then be4 b j else mixV (sch b j) j := by
  induction n with
  | zero => omega
  | succ n ih =>
    rw [sch]
    rcases Nat.lt_succ_iff_lt_or_eq.1 h with hl | rfl
    · rw [← ih hl]
      simp [List.getD_eq_getElem?_getD, List.getElem?_append, sch_length, hl]
    · simp [List.getD_eq_getElem?_getD, sch_length]

def startV : List UInt32 := [0x6a09e667, 0xbb67ae85, 0x3c6ef372, 0xa54ff53a, 0x510e527f, 0x9b05688c, 0x1f83d9ab, 0x5be0cd19]
def kV : List UInt32 := [
  0x428a2f98, 0x71374491, 0xb5c0fbcf, 0xe9b5dba5, 0x3956c25b, 0x59f111f1, 0x923f82a4, 0xab1c5ed5,
  0xd807aa98, 0x12835b01, 0x243185be, 0x550c7dc3, 0x72be5d74, 0x80deb1fe, 0x9bdc06a7, 0xc19bf174,
  0xe49b69c1, 0xefbe4786, 0x0fc19dc6, 0x240ca1cc, 0x2de92c6f, 0x4a7484aa, 0x5cb0a9dc, 0x76f988da,
  0x983e5152, 0xa831c66d, 0xb00327c8, 0xbf597fc7, 0xc6e00bf3, 0xd5a79147, 0x06ca6351, 0x14292967,
  0x27b70a85, 0x2e1b2138, 0x4d2c6dfc, 0x53380d13, 0x650a7354, 0x766a0abb, 0x81c2c92e, 0x92722c85,
  0xa2bfe8a1, 0xa81a664b, 0xc24b8b70, 0xc76c51a3, 0xd192e819, 0xd6990624, 0xf40e3585, 0x106aa070,
  0x19a4c116, 0x1e376c08, 0x2748774c, 0x34b0bcb5, 0x391c0cb3, 0x4ed8aa4a, 0x5b9cca4f, 0x682e6ff3,
  0x748f82ee, 0x78a5636f, 0x84c87814, 0x8cc70208, 0x90befffa, 0xa4506ceb, 0xbef9a3f7, 0xc67178f2]
theorem kV_length : kV.length = 64 := rfl

/-- the state behind j rounds -/
def rst (h ws : List UInt32) : Nat → List UInt32
  | 0 => h
  | j + 1 => rnd (rst h ws j) (kV.getD j 0 + ws.getD j 0)
theorem rst_length (h ws : List UInt32) (j : Nat) (hl : h.length = 8) : (rst h ws j).length = 8 := by
  induction j with
  | zero => exact hl
  | succ j ih => exact rnd_length _ _ ih
/-- the state behind a block -/
def stepV (h : List UInt32) (b : List UInt8) : List UInt32 := List.zipWith (· + ·) h (rst h (sch b 64) 64)
theorem stepV_length (h : List UInt32) (b : List UInt8) (hl : h.length = 8) : (stepV h b).length = 8 := by
  simp [stepV, rst_length _ _ _ hl, hl]
/-- the state behind n blocks -/
def digs (h : List UInt32) : Nat → List UInt8 → List UInt32
  | 0, _ => h
  | n + 1, m => digs (stepV h (m.take 64)) n (m.drop 64)
theorem digs_length (h : List UInt32) (n : Nat) (m : List UInt8) (hl : h.length = 8) : (digs h n m).length = 8 := by
  induction n generalizing h m with
  | zero => exact hl
  | succ n ih => exact ih _ _ (stepV_length _ _ hl)
theorem digs_more (h : List UInt32) (n : Nat) (m r : List UInt8) (hm : 64 * n ≤ m.length) : digs h n (m ++ r) = digs h n m := by
  induction n generalizing h m with
  | zero => rfl
  | succ n ih =>
    simp only [digs]
    rw [List.take_append_of_le_length (by omega), List.drop_append_of_le_length (by omega), ih _ _ (by simp; omega)]
theorem digs_succ (h : List UInt32) (n : Nat) (m : List UInt8) : digs h (n + 1) m = stepV (digs h n m) ((m.drop (64 * n)).take 64) := by
  induction n generalizing h m with
  | zero => simp [digs]
  | succ n ih =>
    rw [digs, ih, digs]
    rw [List.drop_drop, show 64 + 64 * n = 64 * (n + 1) by omega]
/-- the state behind a text's whole blocks -/
def stV (t : List UInt8) : List UInt32 := digs startV (t.length / 64) t
theorem stV_length (t : List UInt8) : (stV t).length = 8 := digs_length _ _ _ rfl
theorem stV_less (t r : List UInt8) (h : t.length % 64 + r.length < 64) : stV (t ++ r) = stV t := by
  unfold stV
  have e : (t ++ r).length / 64 = t.length / 64 := by rw [List.length_append]; omega
  rw [e, digs_more _ _ _ _ (by omega)]
theorem stV_full (t r : List UInt8) (h : t.length % 64 + r.length = 64) : stV (t ++ r) = stepV (stV t) (t.drop (64 * (t.length / 64)) ++ r) := by
  unfold stV
  have e : (t ++ r).length / 64 = t.length / 64 + 1 := by rw [List.length_append]; omega
  rw [e, digs_succ, digs_more _ _ _ _ (by omega), List.drop_append_of_le_length (by omega), List.take_of_length_le (by simp; omega)]

/-- the lowest t bytes, the highest first -/
def beB (n : Nat) : Nat → List UInt8
  | 0 => []
  | t + 1 => UInt8.ofNat (n / 256 ^ t) :: beB n t
theorem beB_length (n t : Nat) : (beB n t).length = t := by
  induction t with
  | zero => rfl
  | succ t ih => simp [beB, ih]
/-- how many bytes stand behind a text of n -/
def padN (n : Nat) : Nat := if 64 - n % 64 < 9 then 128 - n % 64 else 64 - n % 64
/-- what stands behind a text of n bytes -/
def padV (n : Nat) : List UInt8 := 128 :: (List.replicate (padN n - 9) 0 ++ beB (8 * n) 8)
theorem padN_bd (n : Nat) : 9 ≤ padN n ∧ padN n ≤ 72 ∧ (n + padN n) % 64 = 0 := by
  unfold padN; split <;> omega
theorem padV_length (n : Nat) : (padV n).length = padN n := by
  have := padN_bd n
  simp [padV, beB_length]; omega
/-- the state's bytes -/
def outV (s : List UInt32) : List UInt8 := (List.range 32).map fun i => ((s.getD (i / 4) 0) >>> UInt32.ofNat (24 - 8 * (i % 4))).toUInt8
theorem outV_length (s : List UInt32) : (outV s).length = 32 := by simp [outV]
/-- the digest -/
def sumV (t : List UInt8) : List UInt8 := outV (stV (t ++ padV t.length))
theorem sumV_length (t : List UInt8) : (sumV t).length = 32 := outV_length _
end Go.Proofs.YtnjdloocalfkmaaDoor
