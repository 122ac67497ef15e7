/-
  Slices of slices of bytes: the pieces that they hold.
-/
import Derived.Test.YtkeleehkjllgeaaWords
namespace Go.Proofs.Ytkeleehkjllgeaa
open Go.RowKit
set_option linter.unusedVariables false

/-- a slice of bytes that lies among others -/
structure Piece where
  A : Option Addr
  n : Nat
  c : Nat
  l : List UInt8
/-- the pieces that a slice of slices holds -/
structure Sls (w : World) (B : Nat) (A : Option Addr) (n : Nat) (ps : List Piece) : Prop where
  len : ps.length = n
  at_ : 0 < n → ∃ b off, A = some ⟨b, off, none⟩ ∧ b < B ∧ ∀ j, (h : j < ps.length) → w.cell? ⟨b, off + j, none⟩ = some (.slice ps[j].A ps[j].n ps[j].c)
  each : ∀ p ∈ ps, Sl w B p.A p.n p.l ∧ p.n ≤ p.c ∧ p.c ≤ maxLen ∧ ∀ a, p.A = some a → a.block < B
/-- the same, wherever empty pieces point -/
structure Slw (w : World) (B : Nat) (A : Option Addr) (n : Nat) (ps : List Piece) : Prop where
  len : ps.length = n
  at_ : 0 < n → ∃ b off, A = some ⟨b, off, none⟩ ∧ b < B ∧ ∀ j, (h : j < ps.length) → w.cell? ⟨b, off + j, none⟩ = some (.slice ps[j].A ps[j].n ps[j].c)
  each : ∀ p ∈ ps, Sl w B p.A p.n p.l ∧ p.n ≤ p.c ∧ p.c ≤ maxLen
theorem Sls.weak {w : World} {B : Nat} {A : Option Addr} {n : Nat} {ps : List Piece} (h : Sls w B A n ps) : Slw w B A n ps := ⟨h.len, h.at_, fun p hp => ⟨(h.each p hp).1, (h.each p hp).2.1, (h.each p hp).2.2.1⟩⟩
def joined (ps : List Piece) : List UInt8 := ps.flatMap (·.l)
theorem joined_take (ps : List Piece) (j : Nat) (h : j < ps.length) : joined (ps.take (j + 1)) = joined (ps.take j) ++ ps[j].l := by
  unfold joined
  rw [List.take_succ_eq_append_getElem h, List.flatMap_append]
  simp
theorem joined_le (ps : List Piece) (j : Nat) : (joined (ps.take j)).length ≤ (joined ps).length := by
  have h : joined ps = joined (ps.take j) ++ joined (ps.drop j) := by
    unfold joined
    rw [← List.flatMap_append, List.take_append_drop]
  rw [h, List.length_append]; omega
theorem piece_le (ps : List Piece) (j : Nat) (h : j < ps.length) : (joined (ps.take j)).length + ps[j].l.length ≤ (joined ps).length := by
  have := joined_le ps (j + 1)
  rw [joined_take ps j h, List.length_append] at this
  exact this
theorem Slw.below {w w' : World} {B : Nat} {A : Option Addr} {n : Nat} {ps : List Piece} (h : Slw w B A n ps) (hb : Below B w w') : Slw w' B A n ps :=
  ⟨h.len, fun h0 => by
    obtain ⟨b, off, e, hB, hc⟩ := h.at_ h0
    exact ⟨b, off, e, hB, fun j hj => (hb.cell (p := ⟨b, off + j, none⟩) hB).trans (hc j hj)⟩, fun p hp => ⟨(h.each p hp).1.below hb, (h.each p hp).2⟩⟩
end Go.Proofs.Ytkeleehkjllgeaa
