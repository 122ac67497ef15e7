/-
  Words for slices of bytes in memory: a slice that reads as a list of bytes ('Sl'), one in memory of the call's own ('Own'), and an append onto such a one.
-/
import Derived.Test.YtocolaccgoochaaDoorBytes
import Derived.WalkKit
import Derived.Outline
import Derived.WalkLawsBesides
import Derived.Lib.Hide
import Derived.Below
import Derived.Laws.OwnMore
import Derived.Deep.AppendLies
import Derived.Deep.Draws
import Derived.Maps.AppendAt
namespace Go.Proofs.YtocolaccgoochaaDoor
open Go.RowKit
set_option linter.unusedVariables false

/-- the slice with address A and length n reads as l, and lies below block B -/
def Sl (w : World) (B : Nat) (A : Option Addr) (n : Nat) (l : List UInt8) : Prop :=
  l.length = n ∧ (0 < n → ∃ b off, A = some ⟨b, off, none⟩ ∧ b < B ∧ ∀ j, (h : j < l.length) → w.cell? ⟨b, off + j, none⟩ = some (bv l[j]))

section
variable {w w' : World} {B B' n : Nat} {A : Option Addr} {l : List UInt8}
theorem Sl.len (h : Sl w B A n l) : l.length = n := h.1
theorem Sl.nil : Sl w B A 0 [] := ⟨rfl, fun h => absurd h (by omega)⟩
theorem Sl.keep (h : Sl w B A n l) (hk : ∀ p : Addr, p.block < B → w'.cell? p = w.cell? p) : Sl w' B A n l :=
  ⟨h.1, fun hn => by
    obtain ⟨b, off, e, hb, hc⟩ := h.2 hn
    exact ⟨b, off, e, hb, fun j hj => (hk _ hb).trans (hc j hj)⟩⟩
theorem Sl.more (h : Sl w B A n l) (hB : B ≤ B') : Sl w B' A n l :=
  ⟨h.1, fun hn => by
    obtain ⟨b, off, e, hb, hc⟩ := h.2 hn
    exact ⟨b, off, e, by omega, hc⟩⟩
theorem Sl.below (h : Sl w B A n l) (hb : Below B w w') : Sl w' B A n l := h.keep fun _ hp => hb.cell hp
theorem Sl.drew (h : Sl w B A n l) : Sl w.drew B A n l := h
theorem Sl.drewN (h : Sl w B A n l) (k : Nat) : Sl (w.drewN k) B A n l := h
/-- the first k bytes -/
theorem Sl.take (h : Sl w B A n l) {k : Nat} (hk : k ≤ n) : Sl w B A k (l.take k) := by
  have hl := h.1
  refine ⟨by rw [List.length_take]; omega, fun h0 => ?_⟩
  obtain ⟨b, off, e, hb, hc⟩ := h.2 (by omega)
  refine ⟨b, off, e, hb, fun j hj => ?_⟩
  have hj' : j < l.length := by rw [List.length_take] at hj; omega
  rw [hc j hj', List.getElem_take]
/-- from byte k on; the model keeps the address where nothing is left of the room -/
theorem Sl.drop (h : Sl w B A n l) {k c : Nat} (hk : k ≤ n) (hc : n ≤ c) : Sl w B (if c = k then A else A.map (·.add k)) (n - k) (l.drop k) := by
  have hl := h.1
  refine ⟨by rw [List.length_drop]; omega, fun h0 => ?_⟩
  obtain ⟨b, off, e, hb, hcell⟩ := h.2 (by omega)
  subst e
  rw [if_neg (by omega)]
  refine ⟨b, off + k, by simp only [Option.map_some, Addr.add]; split <;> simp_all, hb, fun j hj => ?_⟩
  have hj' : k + j < l.length := by rw [List.length_drop] at hj; omega
  rw [Nat.add_assoc, hcell (k + j) hj', List.getElem_drop]
end

/-- the call's own slice: v, of n bytes that read as l, in a block from B on, or nil -/
def Own (w : World) (B : Nat) (v : Value) (n : Nat) (l : List UInt8) : Prop := w.ownsRow B 5 1 v n (bvs l)

section
variable {w w' : World} {B n : Nat} {v : Value} {l : List UInt8}
theorem Own.len (h : Own w B v n l) : l.length = n := by have := h.1; rw [bvs_length] at this; omega
theorem Own.nil (w : World) (B : Nat) : Own w B (.slice none 0 0) 0 [] := World.ownsRow_nil w B _ _
/-- its form -/
theorem Own.form (h : Own w B v n l) : ∃ A c, v = .slice A n c ∧ n ≤ c ∧ c ≤ maxLen := by
  rcases h.2 with ⟨rfl, rfl⟩ | ⟨g, cap, cur, rfl, _, _, hn, hm, _⟩
  · exact ⟨none, 0, rfl, Nat.le_refl _, by simp [maxLen]⟩
  · exact ⟨_, cap, rfl, hn, hm⟩
theorem Own.sl {A : Option Addr} {c : Nat} (h : Own w B (.slice A n c) n l) : Sl w w.heap.size A n l := by
  refine ⟨h.len, fun hn => ?_⟩
  rcases h.2 with ⟨_, rfl⟩ | ⟨g, cap, cur, hv, hB, hg, hnc, hm, hs, ht⟩
  · omega
  · injection hv with hA
    subst hA
    refine ⟨g, 0, rfl, (Array.getElem?_eq_some_iff.1 hg).1, fun j hj => ?_⟩
    have := World.ownsRow.cells (w := w) h (g := g) rfl j (bv l[j]) (by simp [bvs, hj])
    have hadd : (⟨g, 0, none⟩ : Addr).add j = ⟨g, j, none⟩ := by unfold Addr.add; split <;> simp_all
    rw [hadd] at this
    rw [Nat.zero_add]
    exact this
theorem Own.drew (h : Own w B v n l) : Own w.drew B v n l := h
theorem Own.alloc (h : Own w B v n l) (o : Obj) : Own (w.alloc o) B v n l := World.ownsRow.alloc h o
theorem Own.grown {row : Option Nat} (h : Own w B v n l) (hg : w.grownBy w' row) (hne : v.ownBlock = none ∨ v.ownBlock ≠ row) : Own w' B v n l := World.ownsRow.kept h hg hne
theorem Own.below (h : Own w B v n l) (hb : Below w.heap.size w w') : Own w' B v n l :=
  World.ownsRow.kept (row := none) h ⟨hb.os, hb.tape, hb.output, hb.size, fun k hk _ => hb.block k hk⟩ (by cases v.ownBlock <;> simp)
end

/-- where it lies, if there is a byte -/
theorem Own.at_ {w : World} {B n c : Nat} {A : Option Addr} {l : List UInt8} (h : Own w B (.slice A n c) n l) (hn : 0 < n) : ∃ g, A = some ⟨g, 0, none⟩ ∧ B ≤ g ∧ g < w.heap.size := by
  rcases h.2 with ⟨_, h0⟩ | ⟨g, cap, cur, hv, hB, hg, _⟩
  · omega
  · injection hv with hA
    exact ⟨g, hA, hB, (Array.getElem?_eq_some_iff.1 hg).1⟩
theorem Own.cell {w : World} {B n c g : Nat} {l : List UInt8} (h : Own w B (.slice (some ⟨g, 0, none⟩) n c) n l) (j : Nat) (hj : j < l.length) : w.cell? ⟨g, j, none⟩ = some (bv l[j]) := by
  rw [World.ownsRow.cellAt h j (by have := h.len; omega)]
  simp [bvs, hj]
theorem Own.frozen {w : World} {B n c g : Nat} {l : List UInt8} (h : Own w B (.slice (some ⟨g, 0, none⟩) n c) n l) (j : Nat) : w.frozen? ⟨g, j, none⟩ = false := World.ownsRow.frozenAt h j
theorem Own.store {w : World} {B n c g : Nat} {l : List UInt8} (h : Own w B (.slice (some ⟨g, 0, none⟩) n c) n l) (j : Nat) (y : UInt8) (V : Value) (hV : V = bv y) :
    Own (w.setCell ⟨g, j, none⟩ V) B (.slice (some ⟨g, 0, none⟩) n c) n (l.set j y) := by
  subst hV
  have := (World.ownsRow.stored h j (bv y)).1
  unfold Own bvs
  rw [List.map_set]
  exact this

theorem Own.blk {w : World} {B n c : Nat} {A : Option Addr} {l : List UInt8} (h : Own w B (.slice A n c) n l) : ∀ a, A = some a → B ≤ a.block ∧ a.block < w.heap.size := by
  rintro a rfl
  rcases h.2 with ⟨hv, _⟩ | ⟨g, cap, cur, hv, hB, hg, _⟩
  · injection hv with hA
    cases hA
  · injection hv with hA
    injection hA with hA
    subst hA
    exact ⟨hB, (Array.getElem?_eq_some_iff.1 hg).1⟩
/-- what a call answers that makes bytes: new memory that reads as l, and all that was there is as it was -/
def MakesBytes (w : World) (n : Nat) (l : List UInt8) (e : Ending) (w' : World) : Prop :=
  ∃ A c, e = .returned (.slice A n c) ∧ Own w' w.heap.size (.slice A n c) n l ∧ n ≤ c ∧ c ≤ maxLen ∧ Below w.heap.size w w'

theorem byte_info : (Tryd.prog.info? 5).map (fun i => (i.zero, i.size, i.bytes)) = some (some (.int .u8 0), 1, 1) := by kernel_rfl

/-- one byte in a block of its own, as 'append(s, x)' lays it -/
theorem sl_one (w : World) (V : Value) (x : UInt8) (hV : V = bv x) : Sl (w.alloc (.cells #[V] 5)) (w.heap.size + 1) (some ⟨w.heap.size, 0, none⟩) 1 [x] := by
  subst hV
  refine ⟨rfl, fun _ => ⟨w.heap.size, 0, rfl, by omega, fun j hj => ?_⟩⟩
  obtain rfl : j = 0 := by simp at hj; omega
  simp

theorem run_append_bytes (w : World) (base : Nat) (ty : TypeId) (v : Value) (n : Nat) (l : List UInt8) (hown : Own w base v n l) (B : Nat) (A : Option Addr) (m c : Nat) (r : List UInt8) (hr : Sl w B A m r)
    (hlen : n + m ≤ 70368744177664) (hbase : base ≤ w.heap.size) :
    ∃ v' w', (Builtin.append_ #[30, 30] ty #[v, .slice A m c]).run Tryd.prog w = .ok v' w' ∧ Own w' base v' (n + m) (l ++ r) ∧ w.grownBy w' v.ownBlock ∧
      (v'.ownBlock = v.ownBlock ∨ v'.ownBlock = some w.heap.size) := by
  obtain ⟨i, hi, hz0, hz1, hz2⟩ := info_parts byte_info
  have hm := hr.1
  by_cases h0 : m = 0
  · subst h0
    obtain rfl : r = [] := List.eq_nil_of_length_eq_zero hm
    refine ⟨v, w, ?_, by simpa using hown, ⟨rfl, rfl, rfl, Nat.le_refl _, fun _ _ _ => rfl⟩, .inl rfl⟩
    rcases hown.2 with ⟨rfl, rfl⟩ | ⟨g, cap, cur, rfl, _, _, hnc, _⟩ <;> cases A <;>
      simp [Builtin.append_, run_underlying Tryd.underlying30, sizeOf, typeInfo, Builtin.lenOf, Builtin.firstCells, loadCells, loadCellsFrom, storeCells, *]
  · obtain ⟨b, off, rfl, hb, hc⟩ := hr.2 (by omega)
    have hcells : ∀ j u, (bvs r)[j]? = some u → w.cell? ((⟨b, off, none⟩ : Addr).add j) = some u := by
      intro j u hu
      have hj : j < r.length := by
        have := (List.getElem?_eq_some_iff.1 hu).1
        rwa [bvs_length] at this
      have hadd : (⟨b, off, none⟩ : Addr).add j = ⟨b, off + j, none⟩ := by unfold Addr.add; split <;> simp_all
      rw [hadd, hc j hj, ← hu]
      simp [bvs, hj]
    obtain ⟨v', w', hrun, h2, h3, _, h5⟩ := run_append_own_at (P := Tryd.prog) w base 30 ty 5 i (.int .u8 0) 1 1 Tryd.underlying30 hi hz0 hz1 hz2 rfl (by omega) v n (bvs l) hown ⟨b, off, none⟩ m c (bvs r)
      (by rw [bvs_length]; omega) hcells (bvs_one r) (by simp only [maxLen]; omega) (by omega) hbase
    exact ⟨v', w', hrun, by unfold Own; rw [bvs_append]; exact h2, h3, h5⟩

/-- an append onto a slice of the call's own, in the walk: behind it 'intro A1 c1 w1 ho hle hc hg hb' -/
theorem wpList_append_bytes {w : World} {ops : Array Oper} {rest : List Oper} {o : Oper} {a : Act} {Q : Exit → Act → World → Prop} (hgd : o.guard = none) (s x : Operand)
    (ho : o.op = .call { callee := .builtin .append, args := #[s, x], argTypes := #[30, 30] })
    (base : Nat) (v : Value) (n : Nat) (l : List UInt8) (hs : a.eval s = v) (hown : Own w base v n l)
    (B : Nat) (A : Option Addr) (m c : Nat) (r : List UInt8) (hx : a.eval x = .slice A m c) (hr : Sl w B A m r)
    (hlen : n + m ≤ 70368744177664) (hbase : base ≤ w.heap.size) (w0 : World) (hb : Below base w0 w)
    (h : ∀ A' c' w', Own w' base (.slice A' (n + m) c') (n + m) (l ++ r) → n + m ≤ c' → c' ≤ maxLen → w.grownBy w' v.ownBlock → Below base w0 w' → wpList Tryd.prog ops Q rest (a.put o.dst (.slice A' (n + m) c')) w') :
    wpList Tryd.prog ops Q (o :: rest) a w := by
  refine wpList_plain hgd fun K hK => ?_
  obtain ⟨v', w', hrun, h2, h3, _⟩ := run_append_bytes w base o.type v n l hown B A m c r hr hlen hbase
  obtain ⟨A', c', rfl, hle, hcm⟩ := h2.form
  unfold Oper.wp execOp
  simp only [ho, resolve, invoke, builtin, Sem.run_bind, Sem.run_pure, Result.andThen_ok, List.map_toArray, List.map_cons, List.map_nil, hs, hx, hrun]
  exact hK _ _ (h A' c' w' h2 hle hcm h3 (hb.grown h3 hbase fun k hk => (World.ownsRow.lt hown k hk).1))
end Go.Proofs.YtocolaccgoochaaDoor
