/-
  Acts that came in: a slice of structs of three ints and a bool.
-/
import Derived.Test.YtkodjajhlcbmkaaDoorOuN
import Derived.Test.YtkodjajhlcbmkaaDoorOverB
import Derived.Test.YtkodjajhlcbmkaaDoorCopyW
import Derived.Test.YtkodjajhlcbmkaaDoorArgs
import Derived.Deep.Grids
import Derived.OpenShut
import Derived.ProofKit
namespace Go.Proofs.YtkodjajhlcbmkaaDoor
open Go.RowKit Go.Lib Go.ChangeAt Go.WideShapes Go.ChangeShapes
set_option linter.unusedVariables false

structure ActR where
  d : Int
  a : Int
  m : Int
  e : Bool
def acV (q : ActR) : List Value := [.int .i64 q.d, .int .i64 q.a, .int .i64 q.m, .bool q.e]
def ActOk (q : ActR) : Prop := (Lit.int .i64 q.d).wf = true ∧ (Lit.int .i64 q.a).wf = true ∧ (Lit.int .i64 q.m).wf = true
/-- n acts, the i-th one q i -/
def InA (w : World) (A : Option Addr) (n : Nat) (q : Nat → ActR) : Prop :=
  (0 < n → ∃ g o, A = some ⟨g, o, none⟩ ∧ g < w.heap.size ∧ ∀ i, i < n → ∀ j u, (acV (q i))[j]? = some u → w.cell? ⟨g, o + i * 4 + j, none⟩ = some u) ∧ ∀ i, i < n → ActOk (q i)
theorem cells_act : Tryd.prog.cellsOf 32 = 4 := by kernel_rfl
theorem cells_ai : Tryd.prog.cellsOf 3 = 1 := by kernel_rfl
theorem cells_ab : Tryd.prog.cellsOf 4 = 1 := by kernel_rfl
theorem list4 {α : Type} {l : List α} (h : l.length = 4) : ∃ a b c d, l = [a, b, c, d] := by
  match l, h with
  | [a, b, c, d], _ => exact ⟨a, b, c, d, rfl⟩
theorem in_int {H : Type} {enc : TypeId × Value → H} {W : World} {n : Nat} {v : Value} {y : DataW H × List MemPlace} (h : DataW.trod enc Tryd.prog W 0 (fun _ => true) true n 3 [v] = some y) : ∃ a : Int, v = .int .i64 a ∧ (Lit.int .i64 a).wf = true := by
  obtain ⟨b, e, _, hw⟩ := DataW.trod_int Tryd.underlying3 h
  exact ⟨b, by simpa using e, hw⟩
theorem in_boolA {H : Type} {enc : TypeId × Value → H} {W : World} {n : Nat} {v : Value} {y : DataW H × List MemPlace} (h : DataW.trod enc Tryd.prog W 0 (fun _ => true) true n 4 [v] = some y) : ∃ a : Bool, v = .bool a := by
  obtain ⟨b, e, _⟩ := DataW.trod_bool Tryd.underlying4 h
  exact ⟨b, by simpa using e⟩
theorem in_act {H : Type} {enc : TypeId × Value → H} {W : World} {n : Nat} {cs : List Value} {y : DataW H × List MemPlace} (hl : cs.length = 4) (h : DataW.trod enc Tryd.prog W 0 (fun _ => true) true n 32 cs = some y) : ∃ q, cs = acV q ∧ ActOk q := by
  obtain ⟨v0, v1, v2, v3, rfl⟩ := list4 hl
  obtain ⟨xs, n, _, _, _, hlen, hf⟩ := DataW.trod_struct Tryd.underlying32 h
  obtain ⟨y0, y1, y2, y3, rfl⟩ := list4 (show xs.length = 4 from hlen)
  have h0 : DataW.trod enc Tryd.prog W 0 (fun _ => true) true n 3 [v0] = some y0 := by simpa [Value.cells, cells_ai] using hf 0 _ rfl
  have h1 : DataW.trod enc Tryd.prog W 0 (fun _ => true) true n 3 [v1] = some y1 := by simpa [Value.cells, cells_ai] using hf 1 _ rfl
  have h2 : DataW.trod enc Tryd.prog W 0 (fun _ => true) true n 3 [v2] = some y2 := by simpa [Value.cells, cells_ai] using hf 2 _ rfl
  have h3 : DataW.trod enc Tryd.prog W 0 (fun _ => true) true n 4 [v3] = some y3 := by simpa [Value.cells, cells_ab] using hf 3 _ rfl
  obtain ⟨a0, rfl, w0⟩ := in_int h0
  obtain ⟨a1, rfl, w1⟩ := in_int h1
  obtain ⟨a2, rfl, w2⟩ := in_int h2
  obtain ⟨a3, rfl⟩ := in_boolA h3
  exact ⟨⟨a0, a1, a2, a3⟩, rfl, w0, w1, w2⟩
theorem in_acts {H : Type} {enc : TypeId × Value → H} {W : World} {n : Nat} {v : Value} {y : DataW H × List MemPlace} (h : DataW.trod enc Tryd.prog W 0 (fun _ => true) true n 23 [v] = some y) : ∃ A len cap q, v = .slice A len cap ∧ len ≤ maxLen ∧ InA W A len q := by
  rcases Go.Deep.open_slice Tryd.underlying23 h with ⟨hcs, _⟩ | ⟨a, len, cap, m, k, D, Pl, hcs, _, hl, hm, hmm, _, hx⟩
  · exact ⟨none, 0, 0, fun _ => ⟨0, 0, 0, false⟩, by simpa using hcs, by simp [maxLen], fun h => absurd h (Nat.lt_irrefl _), fun i hi => absurd hi (Nat.not_lt_zero _)⟩
  · have hlm : len ≤ m := by rw [hmm]; split <;> omega
    have each : ∀ i, i < len → ∃ q : ActR, (∀ j u, (acV q)[j]? = some u → W.cell? (a.add (i * 4 + j)) = some u) ∧ ActOk q := fun i hi => by
      obtain ⟨cs', h1, h2⟩ := hx i (by omega)
      rw [cells_act] at h1
      obtain ⟨_, hlen, hcell⟩ := World.cells?_some h1
      obtain ⟨q, rfl, hq⟩ := in_act hlen h2
      refine ⟨q, fun j u hj => ?_, hq⟩
      have hj4 : j < 4 := (List.getElem?_eq_some_iff.1 hj).1
      have := hcell j hj4
      rw [Go.Deep.add_add] at this
      exact this.trans hj
    have hq : ∃ q : Nat → ActR, ∀ i, i < len → (∀ j u, (acV (q i))[j]? = some u → W.cell? (a.add (i * 4 + j)) = some u) ∧ ActOk (q i) := by
      refine ⟨fun i => if hi : i < len then Classical.choose (each i hi) else ⟨0, 0, 0, false⟩, fun i hi => ?_⟩
      simp only [hi, dif_pos]
      exact Classical.choose_spec (each i hi)
    obtain ⟨q, hq⟩ := hq
    refine ⟨some a, len, cap, q, by simpa using hcs, by omega, fun h0 => ?_, fun i hi => (hq i hi).2⟩
    obtain ⟨b, off, spot⟩ := a
    have hc0 := (hq 0 h0).1 0 _ rfl
    have hspot : spot = none := by simpa [Addr.add] using World.cell?_spot hc0
    subst hspot
    have hadd : ∀ j, (⟨b, off, none⟩ : Addr).add j = ⟨b, off + j, none⟩ := fun j => by unfold Addr.add; split <;> simp_all
    refine ⟨b, off, rfl, World.block_lt_of_cell? W _ (by rw [hadd] at hc0; exact hc0), fun i hi j u hu => ?_⟩
    have := (hq i hi).1 j u hu
    rw [hadd, ← Nat.add_assoc] at this
    exact this
/-- OverBytes of a slice of the call's own -/
theorem over_own {w : World} {B n c : Nat} {A : Option Addr} {l : List UInt8} (h : Own w B (.slice A n c) n l) (hB : B ≤ w.heap.size) (hn : n ≤ 1000000) :
    Calls Tryd.prog 12 #[.slice A n c] w fun e w' => e = .returned (.tuple #[]) ∧ (Below w.heap.size w w' ∨ ∃ x, A = some ⟨x, 0, none⟩ ∧ Only x w w') := by
  rcases h.2 with ⟨hv, _⟩ | ⟨g, cap, cur, hv, _⟩
  · injection hv with h1 h2 h3
    subst h1
    subst h2
    subst h3
    exact (over_nil w).mono fun e w' ⟨he, hb⟩ => ⟨he, .inl hb⟩
  · injection hv with h1 h2 h3
    subst h1
    exact (over_blk l g n c B w h hB hn).mono fun e w' ⟨he, ho⟩ => ⟨he, .inr ⟨g, rfl, ho⟩⟩
theorem Rn.three {w0 w : World} {B g n : Nat} {D : List UInt8} {s : Nat → Nat} (R : Rn w0 w B g n D s) : ∀ i, i ≤ n → s i ≤ 3 := by
  obtain ⟨gl, gt, k, A, c, sent, left, low, e, p, q, h1, h2⟩ := R.o
  exact h2.three
/-- what lay there before it moved -/
theorem Rn.outer {w0 w w' : World} {B g n x : Nat} {D : List UInt8} {s : Nat → Nat} (R : Rn w0 w B g n D s) (h : Only x w w') (h1 : w0.heap.size ≤ x) (h2 : x < B) : Rn w0 w' B g n D s :=
  have hb : Below w0.heap.size w w' := h.below R.b.size h1
  ⟨R.o.keep fun i a b => h.block i (by have := R.o.lt; omega) (by omega), R.G.below hb R.pos, R.b.trans hb, R.le, R.pos⟩
end Go.Proofs.YtkodjajhlcbmkaaDoor
