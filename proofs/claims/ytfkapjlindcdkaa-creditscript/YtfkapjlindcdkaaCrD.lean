/-
  Acts that came in: a slice of structs of two ints; the program's credit beside the document's.
-/
import Derived.Test.YtfkapjlindcdkaaCrC
import Derived.Deep.Grids
import Derived.OpenShut
import Derived.ProofKit
namespace Go.Proofs.Ytfkapjlindcdkaa
open Go.RowKit Go.Lib Go.ChangeAt Go.WideShapes Go.ChangeShapes
set_option linter.unusedVariables false

structure ActT where
  d : Int
  n : Int
def atV (q : ActT) : List Value := [.int .i64 q.d, .int .i64 q.n]
def ActTOk (q : ActT) : Prop := (Lit.int .i64 q.d).wf = true ∧ (Lit.int .i64 q.n).wf = true
/-- n acts, the i-th one q i -/
def InT (w : World) (A : Option Addr) (n : Nat) (q : Nat → ActT) : Prop :=
  (0 < n → ∃ g o, A = some ⟨g, o, none⟩ ∧ g < w.heap.size ∧ ∀ i, i < n → ∀ j u, (atV (q i))[j]? = some u → w.cell? ⟨g, o + i * 2 + j, none⟩ = some u) ∧ ∀ i, i < n → ActTOk (q i)
theorem cells_act : Try.prog.cellsOf 31 = 2 := by kernel_rfl
theorem cells_ai : Try.prog.cellsOf 3 = 1 := by kernel_rfl
theorem list2 {α : Type} {l : List α} (h : l.length = 2) : ∃ a b, l = [a, b] := by
  match l, h with
  | [a, b], _ => exact ⟨a, b, rfl⟩
theorem in_int {H : Type} {enc : TypeId × Value → H} {W : World} {n : Nat} {v : Value} {y : DataW H × List MemPlace} (h : DataW.trod enc Try.prog W 0 (fun _ => true) true n 3 [v] = some y) : ∃ a : Int, v = .int .i64 a ∧ (Lit.int .i64 a).wf = true := by
  obtain ⟨b, e, _, hw⟩ := DataW.trod_int Try.underlying3 h
  exact ⟨b, by simpa using e, hw⟩
theorem in_act {H : Type} {enc : TypeId × Value → H} {W : World} {n : Nat} {cs : List Value} {y : DataW H × List MemPlace} (hl : cs.length = 2) (h : DataW.trod enc Try.prog W 0 (fun _ => true) true n 31 cs = some y) : ∃ q, cs = atV q ∧ ActTOk q := by
  obtain ⟨v0, v1, rfl⟩ := list2 hl
  obtain ⟨xs, n, _, _, _, hlen, hf⟩ := DataW.trod_struct Try.underlying31 h
  obtain ⟨y0, y1, rfl⟩ := list2 (show xs.length = 2 from hlen)
  have h0 : DataW.trod enc Try.prog W 0 (fun _ => true) true n 3 [v0] = some y0 := by simpa [Value.cells, cells_ai] using hf 0 _ rfl
  have h1 : DataW.trod enc Try.prog W 0 (fun _ => true) true n 3 [v1] = some y1 := by simpa [Value.cells, cells_ai] using hf 1 _ rfl
  obtain ⟨a0, rfl, w0⟩ := in_int h0
  obtain ⟨a1, rfl, w1⟩ := in_int h1
  exact ⟨⟨a0, a1⟩, rfl, w0, w1⟩
theorem in_acts {H : Type} {enc : TypeId × Value → H} {W : World} {n : Nat} {v : Value} {y : DataW H × List MemPlace} (h : DataW.trod enc Try.prog W 0 (fun _ => true) true n 22 [v] = some y) : ∃ A len cap q, v = .slice A len cap ∧ len ≤ maxLen ∧ InT W A len q := by
  rcases Go.Deep.open_slice Try.underlying22 h with ⟨hcs, _⟩ | ⟨a, len, cap, m, k, D, Pl, hcs, _, hl, hm, hmm, _, hx⟩
  · exact ⟨none, 0, 0, fun _ => ⟨0, 0⟩, by simpa using hcs, by simp [maxLen], fun h => absurd h (Nat.lt_irrefl _), fun i hi => absurd hi (Nat.not_lt_zero _)⟩
  · have hlm : len ≤ m := by rw [hmm]; split <;> omega
    have each : ∀ i, i < len → ∃ q : ActT, (∀ j u, (atV q)[j]? = some u → W.cell? (a.add (i * 2 + j)) = some u) ∧ ActTOk q := fun i hi => by
      obtain ⟨cs', h1, h2⟩ := hx i (by omega)
      rw [cells_act] at h1
      obtain ⟨_, hlen, hcell⟩ := World.cells?_some h1
      obtain ⟨q, rfl, hq⟩ := in_act hlen h2
      refine ⟨q, fun j u hj => ?_, hq⟩
      have hj2 : j < 2 := (List.getElem?_eq_some_iff.1 hj).1
      have := hcell j hj2
      rw [Go.Deep.add_add] at this
      exact this.trans hj
    have hq : ∃ q : Nat → ActT, ∀ i, i < len → (∀ j u, (atV (q i))[j]? = some u → W.cell? (a.add (i * 2 + j)) = some u) ∧ ActTOk (q i) := by
      refine ⟨fun i => if hi : i < len then Classical.choose (each i hi) else ⟨0, 0⟩, fun i hi => ?_⟩
      simp only [hi, dif_pos]
      exact Classical.choose_spec (each i hi)
    obtain ⟨q, hq⟩ := hq
    refine ⟨some a, len, cap, q, by simpa using hcs, by omega, fun h0 => ?_, fun i hi => (hq i hi).2⟩
    obtain ⟨b, off, spot⟩ := a
    have hc0 := (hq 0 h0).1 0 _ rfl
    have hspot : spot = none := by simpa [Addr.add] using World.cell?_spot hc0
    subst hspot
    have hadd : ∀ j, (⟨b, off, none⟩ : Addr).add j = ⟨b, off + j, none⟩ := fun j => by unfold Addr.add; split <;> simp_all
    refine ⟨b, off, rfl, World.block_lt_of_cell? W _ (by rw [hadd] at hc0; exact hc0), fun i hi j u hu => ?_⟩
    have := (hq i hi).1 j u hu
    rw [hadd, ← Nat.add_assoc] at this
    exact this
theorem stillQ {P : Program} {f : FuncId} {args : Array Value} {w : World} {a n : Nat} {v : Value} (h : Calls P f args (w.drewN (a + n)) fun e w' => e = .returned v ∧ w.drewN (a + n) = w') :
    Calls P f args ((w.drewN a).drewN n) fun e w'' => e = .returned v ∧ ∃ m, w'' = (w.drewN a).drewN m := by
  rw [World.drewN_drewN]
  exact h.mono fun _ _ ⟨he, hm⟩ => ⟨he, n, by rw [World.drewN_drewN]; exact hm.symm⟩
/-- the program's credit at g, the document's at gr, both of the state s -/
structure Two (w0 w : World) (g gr : Nat) (s : CrS) : Prop where
  k : Kr w0 w g s
  r : RefW w gr s
  ne : g ≠ gr
  le : w0.heap.size ≤ gr
section
variable {w0 w w' w'' : World} {g gr : Nat} {s s' : CrS}
theorem Two.drewN (t : Two w0 w g gr s) (n : Nat) : Two w0 (w.drewN n) g gr s := ⟨t.k.drewN n, t.r.drewN n, t.ne, t.le⟩
/-- what both have done -/
theorem Two.join (t : Two w0 w g gr s) (k : Kr w0 w' g s') (o : Only g w w') (r : RefW w'' gr s') (o' : Only gr w' w'') : Two w0 w'' g gr s' := ⟨k.other o' t.le t.ne, r, t.ne, t.le⟩
theorem Two.across (t : Two w0 w g gr s) (o : Only g w w') : RefW w' gr s := t.r.only o (Ne.symm t.ne)
end
end Go.Proofs.Ytfkapjlindcdkaa
