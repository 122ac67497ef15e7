/-
  Headers as data: what is read of bytes, part by part.
-/
import Derived.Test.YtcipmfhacloegaaVarintB
namespace Go.Proofs.Ytcipmfhacloegaa
open Go.RowKit
set_option linter.unusedVariables false

/-- a header -/
structure Hdr where
  long : Bool
  kind : Nat
  ver : Nat
  dst : List UInt8
  src : List UInt8
  tok : List UInt8
  spin : Bool
  phase : Bool
  num : Nat
  nl : Nat
def Hdr.zero : Hdr := ⟨false, 0, 0, [], [], [], false, false, 0, 0⟩

/-- what is left to read, and the code: a fault ends all -/
def failP (s : List UInt8 × Nat) (k : Nat) : List UInt8 × Nat := ([], if s.2 = 0 then k else s.2)
def expectP (s : List UInt8 × Nat) (n : Nat) : List UInt8 × Nat := if s.1.length < n then failP s 3 else s
def bytesP (s : List UInt8 × Nat) (n : Nat) : List UInt8 × (List UInt8 × Nat) :=
  if (expectP s n).2 = 0 then ((expectP s n).1.take n, ((expectP s n).1.drop n, (expectP s n).2)) else ([], expectP s n)
def wholeP (s : List UInt8 × Nat) (n : Nat) : Nat × (List UInt8 × Nat) := (beN 0 (bytesP s n).1, (bytesP s n).2)
def varintP (s : List UInt8 × Nat) : Nat × (List UInt8 × Nat) :=
  if (getV s.1).2.2 = 0 then ((getV s.1).1, (s.1.drop (getV s.1).2.1, s.2)) else (0, failP s (getV s.1).2.2)
def nameP (s : List UInt8 × Nat) (lo hi : Nat) : List UInt8 × (List UInt8 × Nat) :=
  bytesP (if (wholeP s 1).1 < lo ∨ hi < (wholeP s 1).1 then failP (wholeP s 1).2 5 else (wholeP s 1).2) (wholeP s 1).1
def tokenP (s : List UInt8 × Nat) : List UInt8 × (List UInt8 × Nat) :=
  if 100 < (varintP s).1 then ([], failP (varintP s).2 5) else bytesP (varintP s).2 (varintP s).1
def toldP (s : List UInt8 × Nat) (nl : Nat) : Nat × (List UInt8 × Nat) :=
  if (varintP s).1 < nl then (0, failP (varintP s).2 5) else ((varintP s).1 - nl, (varintP s).2)
/-- what the first byte tells -/
def longB (b : Nat) : Bool := decide (128 ≤ b)
def kindB (b : Nat) : Nat := if 128 ≤ b then b / 16 % 4 else 0
def spinB (b : Nat) : Bool := decide (b < 128) && decide (b / 32 % 2 = 1)
def phaseB (b : Nat) : Bool := decide (b < 128) && decide (b / 4 % 2 = 1)
def nlB (b : Nat) : Nat := b % 4 + 1
def badB (b : Nat) : Bool := decide (b / 64 % 2 = 0) || (if 128 ≤ b then decide (b / 4 % 4 ≠ 0) || decide (b / 16 % 2 = 1) else decide (b / 8 % 4 ≠ 0))
def firstP (s : List UInt8 × Nat) : Nat × (List UInt8 × Nat) :=
  ((wholeP s 1).1, if badB (wholeP s 1).1 = true then failP (wholeP s 1).2 5 else (wholeP s 1).2)

theorem expect_len (s : List UInt8 × Nat) (n : Nat) (h : (expectP s n).2 = 0) : n ≤ (expectP s n).1.length ∧ expectP s n = s := by
  unfold expectP at *
  split
  · next hl => rw [if_pos hl] at h; simp only [failP] at h; split at h <;> omega
  · exact ⟨by omega, rfl⟩
theorem getV_fits (l : List UInt8) : (getV l).2.1 ≤ l.length ∧ (getV l).1 < 4611686018427387904 ∧ ((getV l).2.2 = 0 ∨ (getV l).2.2 = 3) := by
  cases l with
  | nil => simp [getV]
  | cons b r =>
    rw [getV_cons]
    split
    · simp
    · next h =>
      refine ⟨by simp only [List.length_cons]; omega, ?_, .inl rfl⟩
      show beN _ _ < _
      have h1 := beN_lt (b.toNat % 64) (r.take (2 ^ (b.toNat / 64) - 1)) 64 (Nat.mod_lt _ (by omega))
      have h2 : (r.take (2 ^ (b.toNat / 64) - 1)).length ≤ 7 := by
        have hb : b.toNat / 64 ≤ 3 := by have := b.toNat_lt; omega
        have := Nat.pow_le_pow_right (show 0 < 2 by omega) hb
        rw [List.length_take]; omega
      have h3 := Nat.pow_le_pow_right (show 0 < 256 by omega) h2
      omega
/-- what stands at the end: the header, how many bytes it has, how many are behind it; the code -/
def endP (h : Hdr) (len : Nat) (s : List UInt8 × Nat) (behind : Nat) : (Hdr × Nat × Nat) × Nat :=
  if (expectP s behind).2 = 0 then ((h, len - s.1.length, behind), 0) else ((Hdr.zero, 0, 0), (expectP s behind).2)
def shortP (len b : Nat) (s : List UInt8 × Nat) : (Hdr × Nat × Nat) × Nat :=
  endP ⟨longB b, kindB b, 0, (bytesP s 8).1, [], [], spinB b, phaseB b, (wholeP (bytesP s 8).2 (nlB b)).1, nlB b⟩ len (wholeP (bytesP s 8).2 (nlB b)).2 (wholeP (bytesP s 8).2 (nlB b)).2.1.length
def tailP (len b ver : Nat) (dst src tok : List UInt8) (s : List UInt8 × Nat) : (Hdr × Nat × Nat) × Nat :=
  endP ⟨longB b, kindB b, ver, dst, src, tok, spinB b, phaseB b, (wholeP (toldP s (nlB b)).2 (nlB b)).1, nlB b⟩ len (wholeP (toldP s (nlB b)).2 (nlB b)).2 (toldP s (nlB b)).1
def longP (len b : Nat) (s : List UInt8 × Nat) : (Hdr × Nat × Nat) × Nat :=
  let v := wholeP s 4
  let d := nameP v.2 8 8
  let r := nameP d.2 0 20
  if kindB b = 2 then tailP len b v.1 d.1 r.1 [] r.2 else tailP len b v.1 d.1 r.1 (tokenP r.2).1 (tokenP r.2).2
/-- what Get reads -/
def getP (l : List UInt8) : (Hdr × Nat × Nat) × Nat :=
  if longB (firstP (l, 0)).1 = true then longP l.length (firstP (l, 0)).1 (firstP (l, 0)).2 else shortP l.length (firstP (l, 0)).1 (firstP (l, 0)).2
end Go.Proofs.Ytcipmfhacloegaa
