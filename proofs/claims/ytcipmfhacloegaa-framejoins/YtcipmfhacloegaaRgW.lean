/-
  Ranges in memory: a slice of ranges that reads as a list ('SlR'), one of the call's own ('OwnR').
-/
import Derived.Test.YtcipmfhacloegaaRwC
namespace Go.Proofs.Ytcipmfhacloegaa
open Go.RowKit
set_option linter.unusedVariables false

/-- a slice of ranges that reads as l, and lies below block B -/
def SlR (w : World) (B : Nat) (A : Option Addr) (n : Nat) (l : List (Nat × Nat)) : Prop :=
  l.length = n ∧ (0 < n → ∃ b off, A = some ⟨b, off, none⟩ ∧ b < B ∧ ∀ j, (h : j < l.length) → w.cell? ⟨b, off + j * 2, none⟩ = some (.int .u64 (l[j].1 : Int)) ∧ w.cell? ⟨b, off + j * 2 + 1, none⟩ = some (.int .u64 (l[j].2 : Int)))
section
variable {w w' : World} {B B' n : Nat} {A : Option Addr} {l : List (Nat × Nat)}
theorem SlR.len (h : SlR w B A n l) : l.length = n := h.1
theorem SlR.nil : SlR w B A 0 [] := ⟨rfl, fun h => absurd h (by omega)⟩
theorem SlR.keep (h : SlR w B A n l) (hk : ∀ p : Addr, p.block < B → w'.cell? p = w.cell? p) : SlR w' B A n l :=
  ⟨h.1, fun hn => by
    obtain ⟨b, off, e, hb, hc⟩ := h.2 hn
    exact ⟨b, off, e, hb, fun j hj => ⟨(hk _ hb).trans (hc j hj).1, (hk _ hb).trans (hc j hj).2⟩⟩⟩
theorem SlR.more (h : SlR w B A n l) (hB : B ≤ B') : SlR w B' A n l :=
  ⟨h.1, fun hn => by
    obtain ⟨b, off, e, hb, hc⟩ := h.2 hn
    exact ⟨b, off, e, by omega, hc⟩⟩
theorem SlR.below (h : SlR w B A n l) (hb : Below B w w') : SlR w' B A n l := h.keep fun _ hp => hb.cell hp
theorem SlR.drewN (h : SlR w B A n l) (k : Nat) : SlR (w.drewN k) B A n l := h
end
def rvs : List (Nat × Nat) → List Value
  | [] => []
  | x :: r => .int .u64 (x.1 : Int) :: .int .u64 (x.2 : Int) :: rvs r
theorem rvs_length (l : List (Nat × Nat)) : (rvs l).length = l.length * 2 := by
  induction l with
  | nil => rfl
  | cons x r ih => simp only [rvs, List.length_cons, ih]; omega
theorem rvs_append (a b : List (Nat × Nat)) : rvs (a ++ b) = rvs a ++ rvs b := by
  induction a with
  | nil => rfl
  | cons x r ih => simp only [List.cons_append, rvs, ih]
theorem rvs_one (l : List (Nat × Nat)) : ∀ v ∈ rvs l, v.oneCell' = true := by
  induction l with
  | nil => simp [rvs]
  | cons x r ih => simpa [rvs, Value.oneCell'] using ih
theorem rvs_at (l : List (Nat × Nat)) (j : Nat) (h : j < l.length) : (rvs l)[j * 2]? = some (.int .u64 (l[j].1 : Int)) ∧ (rvs l)[j * 2 + 1]? = some (.int .u64 (l[j].2 : Int)) := by
  induction l generalizing j with
  | nil => simp at h
  | cons x r ih =>
    cases j with
    | zero => simp [rvs]
    | succ j =>
      have := ih j (by simpa using h)
      simp only [rvs, List.getElem_cons_succ, show (j + 1) * 2 = j * 2 + 1 + 1 by omega, List.getElem?_cons_succ]
      exact this
/-- the call's own slice of ranges -/
def OwnR (w : World) (B : Nat) (v : Value) (n : Nat) (l : List (Nat × Nat)) : Prop := w.ownsRow B 44 2 v n (rvs l)
section
variable {w w' : World} {B n : Nat} {v : Value} {l : List (Nat × Nat)}
theorem OwnR.len (h : OwnR w B v n l) : l.length = n := by have := h.1; rw [rvs_length] at this; omega
theorem OwnR.nil (w : World) (B : Nat) : OwnR w B (.slice none 0 0) 0 [] := World.ownsRow_nil w B _ _
theorem OwnR.bnd {A : Option Addr} {c : Nat} (h : OwnR w B (.slice A n c) n l) : n ≤ c ∧ c ≤ maxLen := by
  rcases h.2 with ⟨hv, rfl⟩ | ⟨g, cap, cur, hv, _, _, hn, hm, _⟩
  · injection hv with _ _ hc
    subst hc
    exact ⟨Nat.le_refl _, by simp [maxLen]⟩
  · injection hv with _ _ hc
    subst hc
    exact ⟨hn, hm⟩
theorem OwnR.sl {A : Option Addr} {c : Nat} (h : OwnR w B (.slice A n c) n l) : SlR w w.heap.size A n l := by
  refine ⟨h.len, fun hn => ?_⟩
  rcases h.2 with ⟨_, rfl⟩ | ⟨g, cap, cur, hv, hB, hg, hnc, hm, hs, ht⟩
  · omega
  · injection hv with hA
    subst hA
    have hadd : ∀ j, (⟨g, 0, none⟩ : Addr).add j = ⟨g, j, none⟩ := fun j => by unfold Addr.add; split <;> simp_all
    refine ⟨g, 0, rfl, (Array.getElem?_eq_some_iff.1 hg).1, fun j hj => ?_⟩
    have h1 := World.ownsRow.cells (w := w) h (g := g) rfl (j * 2) _ (rvs_at l j hj).1
    have h2 := World.ownsRow.cells (w := w) h (g := g) rfl (j * 2 + 1) _ (rvs_at l j hj).2
    rw [hadd] at h1 h2
    rw [Nat.zero_add]
    exact ⟨h1, h2⟩
theorem OwnR.below (h : OwnR w B v n l) (hb : Below w.heap.size w w') : OwnR w' B v n l :=
  World.ownsRow.kept (row := none) h ⟨hb.os, hb.tape, hb.output, hb.size, fun k hk _ => hb.block k hk⟩ (by cases v.ownBlock <;> simp)
theorem OwnR.base {B' : Nat} (h : OwnR w B v n l) (hB : B' ≤ B) : OwnR w B' v n l :=
  ⟨h.1, h.2.imp id fun ⟨g, cap, cur, e, hb, r⟩ => ⟨g, cap, cur, e, Nat.le_trans hB hb, r⟩⟩
theorem OwnR.onlyA {c g : Nat} {A : Option Addr} (h : OwnR w B (.slice A n c) n l) (ho : Only g w w') (hne : ∀ a, A = some a → a.block ≠ g) : OwnR w' B (.slice A n c) n l := by
  refine ⟨h.1, h.2.imp id fun ⟨g1, cap, cur, e, hb, hg, r⟩ => ⟨g1, cap, cur, e, hb, ?_, r⟩⟩
  injection e with hA
  exact (ho.block g1 (Array.getElem?_eq_some_iff.1 hg).1 (hne _ hA)).trans hg
theorem OwnR.blk {A : Option Addr} {c : Nat} (h : OwnR w B (.slice A n c) n l) : ∀ a, A = some a → B ≤ a.block ∧ a.block < w.heap.size := by
  rintro a rfl
  rcases h.2 with ⟨hv, _⟩ | ⟨g, cap, cur, hv, hB, hg, _⟩
  · injection hv with hA
    cases hA
  · injection hv with hA
    injection hA with hA
    subst hA
    exact ⟨hB, (Array.getElem?_eq_some_iff.1 hg).1⟩
end
end Go.Proofs.Ytcipmfhacloegaa
