/-
  What came, told as an Ack: ranges told by gaps and lengths may be; with its last one raised above the first they may not, if there are more than one.
-/
import Derived.Test.YtcipmfhacloegaaFrR
namespace Go.Proofs.Ytcipmfhacloegaa
open Go.RowKit
set_option linter.unusedVariables false

/-- ranges from a number down, told by pairs: how long, how far to the next -/
def gapsR : Nat → List UInt8 → List (Nat × Nat)
  | t, a :: b :: g => (t - a.toNat, t) :: gapsR (t - a.toNat - 2 - b.toNat) g
  | _, _ => []
theorem gapsR_length : ∀ (t : Nat) (g : List UInt8), (gapsR t g).length = g.length / 2
  | t, [] => by simp [gapsR]
  | t, [a] => by simp [gapsR]
  | t, a :: b :: g => by
    have h := gapsR_length (t - a.toNat - 2 - b.toNat) g
    simp only [gapsR, List.length_cons, h]
    omega
theorem gapsR_chain : ∀ (t : Nat) (g : List UInt8) (p : Option Nat), 256 * g.length ≤ t → t ≤ maxV → (∀ q, p = some q → t + 2 ≤ q) → chainR p (gapsR t g)
  | t, [], p, _, _, _ => trivial
  | t, [a], p, _, _, _ => trivial
  | t, a :: b :: g, p, h1, h2, h3 => by
    have ha := a.toNat_lt
    have hb := b.toNat_lt
    simp only [List.length_cons] at h1
    refine ⟨by omega, h2, h3, ?_⟩
    refine gapsR_chain (t - a.toNat - 2 - b.toNat) g (some (t - a.toNat)) (by omega) (by omega) fun q hq => ?_
    have hq' : t - a.toNat = q := by simpa using hq
    omega
/-- told so, they may be an Ack's -/
theorem gapsR_may (t : Nat) (g : List UInt8) (h2 : 2 ≤ g.length) (h16 : g.length ≤ 16) (ht : 256 * g.length ≤ t) (hm : t ≤ maxV) : RangesP (gapsR t g) :=
  ⟨by rw [gapsR_length]; omega, by rw [gapsR_length]; omega, gapsR_chain t g none ht hm fun q hq => by cases hq⟩
theorem ack_may (delay : Nat) (rs : List (Nat × Nat)) (hd : delay ≤ maxV) (h : RangesP rs) : MayF { Fr.of 2 with delay := delay, rs := rs } := by
  unfold MayF
  rw [if_neg (by simp [Fr.of]), if_neg (by simp [Fr.of]), if_pos (by simp [Fr.of])]
  exact ⟨⟨hd, h⟩, rfl, rfl, rfl, rfl, rfl, rfl, rfl, rfl, rfl⟩
/-- the last one's highest set -/
def raiseR (rs : List (Nat × Nat)) (v : Nat) : List (Nat × Nat) := rs.set (rs.length - 1) ((rs.getD (rs.length - 1) (0, 0)).1, v)
theorem raise_one (lo hi v : Nat) (h : lo ≤ v) (hv : v ≤ maxV) : RangesP (raiseR [(lo, hi)] v) := by
  refine ⟨by simp [raiseR], by simp [raiseR], ?_⟩
  show chainR none [(lo, v)]
  exact ⟨h, hv, (fun q hq => nomatch hq), trivial⟩
/-- of a chain each is at most the first -/
theorem chain_le (rs : List (Nat × Nat)) (h : ∀ i, i < rs.length → condR rs i) (i : Nat) (hi : i < rs.length) : (rs.getD i (0, 0)).1 ≤ (rs.getD 0 (0, 0)).2 := by
  induction i with
  | zero => exact (h 0 hi).1
  | succ i ih =>
    have h1 := h (i + 1) hi
    have h2 := ih (by omega)
    have h3 := h1.2.2 (by omega)
    have h4 := h1.1
    simp only [Nat.add_sub_cancel] at h3
    omega
theorem raise_more (rs : List (Nat × Nat)) (h : RangesP rs) (h2 : 2 ≤ rs.length) : ¬ RangesP (raiseR rs ((rs.getD 0 (0, 0)).2 + 1)) := by
  intro hr
  rw [ranges_index] at h hr
  obtain ⟨_, _, hc⟩ := h
  obtain ⟨_, _, hr⟩ := hr
  have hl : (raiseR rs ((rs.getD 0 (0, 0)).2 + 1)).length = rs.length := by simp [raiseR]
  rw [hl] at hr
  have h1 := (hr (rs.length - 1) (by omega)).2.2 (by omega)
  have e1 : (raiseR rs ((rs.getD 0 (0, 0)).2 + 1)).getD (rs.length - 1) (0, 0) = ((rs.getD (rs.length - 1) (0, 0)).1, (rs.getD 0 (0, 0)).2 + 1) := by
    unfold raiseR
    rw [List.getD_eq_getElem?_getD, List.getElem?_set_self (by omega)]
    rfl
  have e2 : (raiseR rs ((rs.getD 0 (0, 0)).2 + 1)).getD (rs.length - 1 - 1) (0, 0) = rs.getD (rs.length - 1 - 1) (0, 0) := by
    unfold raiseR
    rw [List.getD_eq_getElem?_getD, List.getElem?_set_ne (by omega), List.getD_eq_getElem?_getD]
  rw [e1, e2] at h1
  have h3 := chain_le rs hc (rs.length - 1 - 1) (by omega)
  simp only at h1
  omega
end Go.Proofs.Ytcipmfhacloegaa
