/-
  A digest in memory, and the contract of add.
-/
import Derived.Test.YtnjdloocalfkmaaDoorShaE
import Derived.Deep.MidRow
namespace Go.Proofs.YtnjdloocalfkmaaDoor
open Go.RowKit
set_option linter.unusedVariables false

/-- nothing but block g has turned of what was there -/
structure Only (g : Nat) (w w' : World) : Prop where
  os : w'.os = w.os
  tape : w'.tape = w.tape
  output : w'.output = w.output
  size : w.heap.size ≤ w'.heap.size
  block : ∀ k, k < w.heap.size → k ≠ g → w'.heap[k]? = w.heap[k]?
theorem Only.refl (g : Nat) (w : World) : Only g w w := ⟨rfl, rfl, rfl, Nat.le_refl _, fun _ _ _ => rfl⟩
theorem Only.trans {g : Nat} {a b c : World} (h : Only g a b) (k : Only g b c) : Only g a c :=
  ⟨k.os.trans h.os, k.tape.trans h.tape, k.output.trans h.output, Nat.le_trans h.size k.size, fun i hi hg => (k.block i (Nat.lt_of_lt_of_le hi h.size) hg).trans (h.block i hi hg)⟩
theorem Only.of_below {g : Nat} {w w' : World} (h : Below w.heap.size w w') : Only g w w' := ⟨h.os, h.tape, h.output, h.size, fun k hk _ => h.block k hk⟩
theorem Only.drew {g : Nat} {a w : World} (h : Only g a w) : Only g a w.drew := ⟨h.os, h.tape, h.output, h.size, h.block⟩
theorem Only.drewN {g : Nat} {a w : World} (h : Only g a w) (n : Nat) : Only g a (w.drewN n) := ⟨h.os, h.tape, h.output, h.size, h.block⟩
theorem Only.setRow {g : Nat} {a w : World} (h : Only g a w) (cs : Array Value) : Only g a (w.setRow g cs) :=
  h.trans ⟨rfl, rfl, rfl, by simp, fun k _ hk => setRow_other w g k cs hk⟩
theorem Only.setCell {g : Nat} {a w : World} (h : Only g a w) (i : Nat) (v : Value) : Only g a (w.setCell ⟨g, i, none⟩ v) :=
  h.trans ⟨rfl, rfl, rfl, by simp, fun k _ hk => heap_setCell_other w ⟨g, i, none⟩ k v hk⟩
theorem Only.below {g B : Nat} {w w' : World} (h : Only g w w') (hB : B ≤ w.heap.size) (hg : B ≤ g) : Below B w w' :=
  ⟨h.os, h.tape, h.output, h.size, fun k hk => h.block k (by omega) (by omega)⟩
/-- a slice that lies elsewhere is read as it was -/
theorem Only.sl {g B n : Nat} {w w' : World} {A : Option Addr} {l : List UInt8} (h : Only g w w') (hs : Sl w B A n l) (hB : B ≤ w.heap.size) (hne : ∀ b off, A = some ⟨b, off, none⟩ → b ≠ g) : Sl w' B A n l :=
  ⟨hs.1, fun hn => by
    obtain ⟨b, off, rfl, hb, hc⟩ := hs.2 hn
    exact ⟨b, off, rfl, hb, fun j hj => (World.cell?_of_block (w := w) (h.block b (by omega) (hne b off rfl))).trans (hc j hj)⟩⟩

/-- an array stored into a block that is known whole; the world behind it under a name of its own -/
theorem wpList_store_only {P : Program} {ops : Array Oper} {rest : List Oper} {o : Oper} {a : Act} {w : World} {Q : Exit → Act → World → Prop} (hgd : o.guard = none) (ty : TypeId) (x y : Operand) (ho : o.op = .store ty x y)
    (g : Nat) (cs : List Value) (hx : a.eval x = .pointer (some ⟨g, 0, none⟩)) (hy : a.eval y = .agg cs.toArray)
    (t : TypeId) (old : Array Value) (hg : w.heap[g]? = some (.cells old t (0, 0))) (hi : (P.info? ty).map (·.size) = some cs.length)
    (hold : old.size = cs.length) (h1 : ∀ v ∈ cs, v.oneCell' = true)
    (h : ∀ w', Hid (w'.heap[g]? = some (.cells cs.toArray t (0, 0))) → Hid (Only g w w') → wpList P ops Q rest (a.put o.dst undef) w') : wpList P ops Q (o :: rest) a w :=
  wpList_store_vals hgd ty x y ho g cs hx hy t old hg hi hold h1 (h _ (setRow_heap _ _ _ _ _ _ hg) ((Only.refl g w).setRow _))

/-- a digest's cells -/
def digRow (s : List UInt32) (buf : List UInt8) (v : Value) : List Value := wvs s ++ (bvs buf ++ [v])
theorem digRow_length (s : List UInt32) (buf : List UInt8) (v : Value) (hs : s.length = 8) (hb : buf.length = 64) : (digRow s buf v).length = 73 := by
  simp [digRow, wvs_length, bvs_length, hs, hb]
theorem digRow_state (s s' : List UInt32) (buf : List UInt8) (v : Value) (hs : s.length = 8) (hs' : s'.length = 8) : splice (digRow s buf v) 0 (wvs s') = digRow s' buf v := by
  unfold splice digRow
  rw [List.take_zero, List.nil_append, Nat.zero_add, List.drop_append, wvs_length, wvs_length, hs, hs']
  rw [List.drop_of_length_le (by rw [wvs_length]; omega)]
  simp
theorem splice_mid {α : Type} (p q c : List α) (r : Nat) (x : List α) (hp : p.length = 8) (hc : r + x.length ≤ q.length) : splice (p ++ (q ++ c)) (8 + r) x = p ++ (splice q r x ++ c) := by
  unfold splice
  rw [List.take_append, List.take_of_length_le (by omega), hp, show 8 + r - 8 = r by omega, List.take_append_of_le_length (by omega)]
  rw [List.drop_append, List.drop_of_length_le (by omega), hp, show 8 + r + x.length - 8 = r + x.length by omega, List.drop_append_of_le_length (by omega)]
  simp
theorem bvs_splice (q x : List UInt8) (r : Nat) : splice (bvs q) r (bvs x) = bvs (splice q r x) := by
  simp [splice, bvs, List.map_take, List.map_drop]
theorem digRow_copy (s : List UInt32) (buf x : List UInt8) (v : Value) (r : Nat) (hs : s.length = 8) (hb : buf.length = 64) (hx : r + x.length ≤ 64) : splice (digRow s buf v) (8 + r) (bvs x) = digRow s (splice buf r x) v := by
  unfold digRow
  rw [splice_mid _ _ _ _ _ (by rw [wvs_length, hs]) (by rw [bvs_length, bvs_length, hb]; exact hx), bvs_splice]
theorem digRow_size (s : List UInt32) (buf : List UInt8) (v v' : Value) (hs : s.length = 8) (hb : buf.length = 64) : (digRow s buf v).set 72 v' = digRow s buf v' := by
  unfold digRow
  rw [List.set_append, if_neg (by rw [wvs_length]; omega), wvs_length, hs, List.set_append, if_neg (by rw [bvs_length]; omega), bvs_length, hb]
  rfl
theorem digRow_last (s : List UInt32) (buf : List UInt8) (v : Value) (hs : s.length = 8) (hb : buf.length = 64) : (digRow s buf v)[72]? = some v := by
  unfold digRow
  rw [List.getElem?_append_right (by rw [wvs_length]; omega), wvs_length, hs, List.getElem?_append_right (by rw [bvs_length]; omega), bvs_length, hb]
  rfl
theorem digRow_at (s : List UInt32) (buf : List UInt8) (v : Value) (j : Nat) (hs : s.length = 8) (hj : j < 8) : (digRow s buf v)[j]? = some (.int .u32 (wn (s.getD j 0))) := by
  unfold digRow
  rw [List.getElem?_append_left (by rw [wvs_length]; omega)]
  exact wvs_get s j (by omega)

/-- cells laid one by one into a block that is known whole -/
theorem setCells_row {t : TypeId} {g : Nat} : ∀ (vs : List Value) (o : Nat) (cur : List Value) (w : World), w.heap[g]? = some (.cells cur.toArray t (0, 0)) → o + vs.length ≤ cur.length →
    (w.setCells g o vs).heap[g]? = some (.cells (splice cur o vs).toArray t (0, 0))
  | [], o, cur, w, hg, hl => by simpa [World.setCells, splice] using hg
  | v :: r, o, cur, w, hg, hl => by
    simp only [List.length_cons] at hl
    have h1 := heap_setCell_same w g o cur.toArray t v hg
    have h2 := setCells_row r (o + 1) (cur.set o v) (w.setCell ⟨g, o, none⟩ v) (by simpa using h1) (by simp; omega)
    rw [World.setCells, h2]
    congr 3
    unfold splice
    rw [List.take_set, List.take_succ_eq_append_getElem (by omega), List.set_append, if_neg (by simp; omega)]
    simp only [List.length_take, List.length_cons]
    rw [show o - min o cur.length = 0 by omega, List.set_cons_zero, List.drop_set_of_lt (by omega), show o + (r.length + 1) = o + 1 + r.length by omega]
    simp
theorem setCells_only {g : Nat} {a : World} : ∀ (vs : List Value) (o : Nat) (w : World), Only g a w → Only g a (w.setCells g o vs)
  | [], _, _, h => h
  | v :: r, o, w, h => setCells_only r (o + 1) _ (h.setCell o v)

/-- block g is a digest of t -/
def Dig (w : World) (g : Nat) (t : List UInt8) : Prop :=
  ∃ buf : List UInt8, buf.length = 64 ∧ buf.take (t.length % 64) = t.drop (64 * (t.length / 64)) ∧
    w.heap[g]? = some (.cells (digRow (stV t) buf (.int .i64 (t.length : Int))).toArray 47 (0, 0))

/-- copy into a digest's block, behind the r bytes that are there -/
theorem wpList_copy_dig {w : World} {ops : Array Oper} {rest : List Oper} {o : Oper} {a : Act} {Q : Exit → Act → World → Prop} (hgd : o.guard = none) (d s : Operand)
    (ho : o.op = .call { callee := .builtin .copy, args := #[d, s], argTypes := #[22, 22] })
    (g r m c k B : Nat) (A : Option Addr) (l : List UInt8) (s8 : List UInt32) (buf : List UInt8) (v : Value) (hd : a.eval d = .slice (some ⟨g, 8 + r, none⟩) (64 - r) (64 - r)) (hs : a.eval s = .slice A m c)
    (hr : Sl w B A m l) (hg : w.heap[g]? = some (.cells (digRow s8 buf v).toArray 47 (0, 0))) (hs8 : s8.length = 8) (hb : buf.length = 64) (hr64 : r < 64) (hk : k = min m (64 - r)) (hm : 0 < m)
    (h : wpList Tryd.prog ops Q rest (a.put o.dst (.int .i64 (k : Int))) (w.setRow g (digRow s8 (splice buf r (l.take k)) v).toArray)) : wpList Tryd.prog ops Q (o :: rest) a w := by
  obtain ⟨b, off, rfl, hbB, hc⟩ := hr.2 hm
  have hl := hr.1
  have hlen : (bvs (l.take k)).length = k := by rw [bvs_length, List.length_take]; omega
  refine wpList_copy_own hgd d s 22 22 ho 5 Tryd.underlying22 size1 g (8 + r) (64 - r) (64 - r) ⟨b, off, none⟩ m c hd hs _ 47 hg (bvs (l.take k)) (by rw [hlen, hk]) ?_ ?_ (bvs_one _) ?_
  · intro j u hu
    have hj : j < (l.take k).length := by
      have := (List.getElem?_eq_some_iff.1 hu).1
      rwa [bvs_length] at this
    have hj' : j < l.length := by rw [List.length_take] at hj; omega
    have hjk : j < k := by rw [List.length_take] at hj; omega
    rw [addr_add, hc j hj', ← hu]
    simp [bvs, hjk, hj']
  · rw [hlen]
    simp [digRow_length _ _ _ hs8 hb]
    omega
  · have e := digRow_copy s8 buf (l.take k) v r hs8 hb (by rw [List.length_take]; omega)
    unfold splice at e
    rw [hlen] at e ⊢
    rw [e]
    exact h

theorem sizeInt : (Tryd.prog.info? 3).map (·.size) = some 1 := by kernel_rfl
end Go.Proofs.YtnjdloocalfkmaaDoor
