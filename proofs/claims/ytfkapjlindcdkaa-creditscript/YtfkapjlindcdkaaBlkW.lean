/-
  Blocks that hold bytes, and rows of which the first j are new.
-/
import Derived.Test.YtfkapjlindcdkaaOnlyW
namespace Go.Proofs.Ytfkapjlindcdkaa
open Go.RowKit
set_option linter.unusedVariables false

/-- block g holds the bytes l, as a variable of type t -/
def Blk (w : World) (g : Nat) (t : TypeId) (l : List UInt8) : Prop := w.heap[g]? = some (.cells (bvs l).toArray t (0, 0))
section
variable {w w' : World} {g : Nat} {t : TypeId} {l : List UInt8}
theorem Blk.lt (h : Blk w g t l) : g < w.heap.size := (Array.getElem?_eq_some_iff.1 h).1
theorem Blk.cell (h : Blk w g t l) (j : Nat) (hj : j < l.length) : w.cell? ⟨g, j, none⟩ = some (.int .u8 (bn (l.getD j 0))) := by
  rw [cell_of_row _ _ _ _ _ _ h, List.getElem?_toArray]
  simp [bvs, bv, bn, hj]
theorem Blk.frozen (h : Blk w g t l) (j : Nat) : w.frozen? ⟨g, j, none⟩ = false := frozen_of_row _ _ _ _ _ h
theorem Blk.put (h : Blk w g t l) (i : Nat) (x : UInt8) : Blk (w.setCell ⟨g, i, none⟩ (.int .u8 (bn x))) g t (l.set i x) := by
  unfold Blk
  rw [heap_setCell_same _ _ _ _ _ _ h, List.setIfInBounds_toArray]
  simp [bvs, bv, bn, List.map_set]
theorem Blk.other (h : Blk w g t l) (g' i : Nat) (v : Value) (hne : g' ≠ g) : Blk (w.setCell ⟨g', i, none⟩ v) g t l := by
  unfold Blk
  rw [heap_setCell_other _ _ _ _ (by simpa using Ne.symm hne)]
  exact h
theorem Blk.drew (h : Blk w g t l) : Blk w.drew g t l := h
theorem Blk.drewN (h : Blk w g t l) (n : Nat) : Blk (w.drewN n) g t l := h
theorem Blk.alloc (h : Blk w g t l) (o : Obj) : Blk (w.alloc o) g t l := (Below.heap_alloc w o g h.lt).trans h
theorem Blk.below (h : Blk w g t l) (hb : Below w.heap.size w w') : Blk w' g t l := (hb.block g h.lt).trans h
theorem Blk.only {g' : Nat} (h : Blk w g t l) (ho : Only g' w w') (hne : g ≠ g') : Blk w' g t l := (ho.block g h.lt hne).trans h
theorem Blk.setRow {l' : List UInt8} (h : Blk w g t l) : Blk (w.setRow g (bvs l').toArray) g t l' := setRow_heap _ _ _ _ _ _ h
theorem Blk.range (h : Blk w g t l) : w.rangeAt g 0 (bvs l) := range_row h
theorem Blk.rangeMid (h : Blk w g t l) (off n : Nat) : w.rangeAt g off (bvs ((l.drop off).take n)) := by
  intro j u hu
  rw [cell_of_row _ _ _ _ _ _ h, List.getElem?_toArray]
  unfold bvs at hu ⊢
  rw [List.map_take, List.map_drop, List.getElem?_take] at hu
  split at hu
  · rw [List.getElem?_drop] at hu; exact hu
  · cases hu
end
theorem blk_new (w : World) (t : TypeId) (l : List UInt8) : Blk (w.alloc (.cells (bvs l).toArray t)) w.heap.size t l := heap_alloc_new _ _

theorem wpList_load_blk {P : Program} {ops : Array Oper} {rest : List Oper} {o : Oper} {a : Act} {w : World} {Q : Exit → Act → World → Prop} (hgd : o.guard = none) (ty : TypeId) (x : Operand) (ho : o.op = .load ty x)
    (g : Nat) (hx : a.eval x = .pointer (some ⟨g, 0, none⟩)) (t : TypeId) (l : List UInt8) (hB : Blk w g t l) (n : Nat) (e : TypeId) (hu : P.underlying ty = some (.array n e)) (s : Nat) (hi : (P.info? ty).map (·.size) = some s) (hl : l.length = s)
    (h : wpList P ops Q rest (a.put o.dst (.agg (bvs l).toArray)) w) : wpList P ops Q (o :: rest) a w :=
  wpList_load_row hgd ty x ho g hx t _ (0, 0) _ hB hu rfl (by rw [hi, List.size_toArray, bvs_length, hl]) h
theorem wpList_store_blk {P : Program} {ops : Array Oper} {rest : List Oper} {o : Oper} {a : Act} {w : World} {Q : Exit → Act → World → Prop} (hgd : o.guard = none) (ty : TypeId) (x y : Operand) (ho : o.op = .store ty x y)
    (g : Nat) (l : List UInt8) (hx : a.eval x = .pointer (some ⟨g, 0, none⟩)) (hy : a.eval y = .agg (bvs l).toArray) (t : TypeId) (old : List UInt8) (hB : Blk w g t old) (s : Nat) (hi : (P.info? ty).map (·.size) = some s) (hl : l.length = s) (hold : old.length = s)
    (h : ∀ w', Hid (Blk w' g t l) → Hid (Only g w w') → wpList P ops Q rest (a.put o.dst undef) w') : wpList P ops Q (o :: rest) a w :=
  wpList_store_only hgd ty x y ho g (bvs l) hx hy t (bvs old).toArray hB (by rw [hi, bvs_length, hl]) (by simp [bvs_length, hl, hold]) (bvs_one _) h
theorem ret_blk {P : Program} {fn : Func} {R : Ending → World → Prop} {a : Act} {w : World} {p : Tmp} {ty : TypeId} (h : fn.results = #[.cell p ty]) (g : Nat) (t : TypeId) (l : List UInt8) (n : Nat) (e : TypeId)
    (hp : a.tmps.getD p undef = .pointer (some ⟨g, 0, none⟩)) (hB : Blk w g t l) (hu : P.underlying ty = some (.array n e)) (s : Nat) (hi : (P.info? ty).map (·.size) = some s) (hl : l.length = s)
    (hd : a.defers = []) (hR : R (.returned (.agg (bvs l).toArray)) w) : bodyPost P fn R .ret a w :=
  ret_row h g t _ (0, 0) n e hp hB hu (by rw [hi, List.size_toArray, bvs_length, hl]) hd hR

/-- the first j of the new row, then the old one -/
def mixr (new old : List UInt8) (j : Nat) : List UInt8 := new.take j ++ old.drop j
theorem mixr_length (new old : List UInt8) (j : Nat) (h : new.length = old.length) : (mixr new old j).length = old.length := by simp [mixr]; omega
theorem mixr_zero (new old : List UInt8) : mixr new old 0 = old := by simp [mixr]
theorem mixr_full (new old : List UInt8) (j : Nat) (h : new.length = old.length) (hj : old.length ≤ j) : mixr new old j = new := by
  unfold mixr
  rw [List.take_of_length_le (by omega), List.drop_of_length_le hj, List.append_nil]
theorem mixr_old (new old : List UInt8) (j i : Nat) (h : new.length = old.length) (hi : i < old.length) (hj : j ≤ i) : (mixr new old j).getD i 0 = old.getD i 0 := by
  unfold mixr
  rw [List.getD_eq_getElem?_getD, List.getD_eq_getElem?_getD, List.getElem?_append_right (by simp; omega), List.getElem?_drop]
  congr 2
  simp; omega
theorem mixr_new (new old : List UInt8) (j i : Nat) (h : new.length = old.length) (hi : i < old.length) (hj : i < j) : (mixr new old j).getD i 0 = new.getD i 0 := by
  unfold mixr
  rw [List.getD_eq_getElem?_getD, List.getD_eq_getElem?_getD, List.getElem?_append_left (by simp; omega), List.getElem?_take, if_pos hj]
theorem mixr_set (new old : List UInt8) (j : Nat) (h : new.length = old.length) (hj : j < old.length) : (mixr new old j).set j (new.getD j 0) = mixr new old (j + 1) := by
  unfold mixr
  rw [List.set_append, if_neg (by simp; omega)]
  have e : j - (new.take j).length = 0 := by simp; omega
  rw [e, List.drop_eq_getElem_cons hj, List.set_cons_zero, List.take_succ_eq_append_getElem (by omega), List.append_assoc]
  congr 2
  rw [List.getD_eq_getElem?_getD, List.getElem?_eq_getElem (by omega)]
  rfl
theorem cross_get (a b : List UInt8) (j : Nat) (ha : j < a.length) (hb : j < b.length) : (List.zipWith (· ^^^ ·) a b).getD j 0 = a.getD j 0 ^^^ b.getD j 0 := by
  simp [List.getD_eq_getElem?_getD, List.getElem?_zipWith, ha, hb]

/-- a byte stored into a block of bytes; the world behind it under a name of its own -/
theorem run_put_blk {P : Program} {w : World} {g i : Nat} {t ty : TypeId} {l : List UInt8} (hi : (P.info? ty).map (·.size) = some 1) (hB : Blk w g t l) (hl : i < l.length) (x : UInt8) :
    (storeVar ty ⟨g, i, none⟩ (.int .u8 (bn x))).run P w = .ok () (w.setCell ⟨g, i, none⟩ (.int .u8 (bn x))) := by
  cases hq : P.info? ty with
  | none => simp [hq] at hi
  | some ie =>
    have h1 : ie.size = 1 := by simpa [hq] using hi
    simp [storeVar, Value.cells, sizeOf, typeInfo, hq, h1, storeCells, run_store P _ _ (.int .u8 (bn x)) _ rfl, addr_add, hB.cell i hl, hB.frozen i, Result.andThen]
theorem wp_put_blk {P : Program} {o : Oper} {a : Act} {w : World} {K : Act → World → Prop} {Q : Exit → Act → World → Prop} (ty : TypeId) (x y : Operand) (ho : o.op = .store ty x y)
    (g i : Nat) (v : UInt8) (hx : a.eval x = .pointer (some ⟨g, i, none⟩)) (hy : a.eval y = .int .u8 (bn v)) (t : TypeId) (l : List UInt8) (hB : Blk w g t l) (hi : (P.info? ty).map (·.size) = some 1) (hl : i < l.length)
    (h : ∀ w', Hid (Blk w' g t (l.set i v)) → Hid (Only g w w') → K (a.put o.dst undef) w') : o.wp P a w K Q := by
  unfold Oper.wp execOp
  simp only [ho, hx, hy, Instr.storeAt, Instr.sureAddr, Sem.run_bind, Sem.run_pure, Result.andThen_ok, run_put_blk hi hB hl v]
  exact h _ (hB.put i v) ((Only.refl g w).setCell i _)
theorem wpList_put_blk {P : Program} {ops : Array Oper} {rest : List Oper} {o : Oper} {a : Act} {w : World} {Q : Exit → Act → World → Prop} (hgd : o.guard = none) (ty : TypeId) (x y : Operand) (ho : o.op = .store ty x y)
    (g i : Nat) (v : UInt8) (hx : a.eval x = .pointer (some ⟨g, i, none⟩)) (hy : a.eval y = .int .u8 (bn v)) (t : TypeId) (l : List UInt8) (hB : Blk w g t l) (hi : (P.info? ty).map (·.size) = some 1) (hl : i < l.length)
    (h : ∀ w', Hid (Blk w' g t (l.set i v)) → Hid (Only g w w') → wpList P ops Q rest (a.put o.dst undef) w') : wpList P ops Q (o :: rest) a w :=
  wpList_plain hgd fun _ hK => wp_put_blk ty x y ho g i v hx hy t l hB hi hl fun w' h1 h2 => hK _ _ (h w' h1 h2)
/-- an array of bytes stored into the middle of a block of bytes -/
theorem wp_store_part {P : Program} {o : Oper} {a : Act} {w : World} {K : Act → World → Prop} {Q : Exit → Act → World → Prop} (ty : TypeId) (x y : Operand) (ho : o.op = .store ty x y)
    (g off : Nat) (c : List UInt8) (hx : a.eval x = .pointer (some ⟨g, off, none⟩)) (hy : a.eval y = .agg (bvs c).toArray) (t : TypeId) (l : List UInt8) (hB : Blk w g t l) (s : Nat) (hi : (P.info? ty).map (·.size) = some s) (hc : c.length = s) (hl : off + s ≤ l.length)
    (h : ∀ w', Hid (Blk w' g t (splice l off c)) → Hid (Only g w w') → K (a.put o.dst undef) w') : o.wp P a w K Q := by
  have hz : (bvs c).toArray.size = s := by simp [bvs_length, hc]
  refine wp_store_mid ty x y ho g off (bvs c).toArray hx hy ?_ (by rw [hi, hz]) (all_oneCell_toArray (bvs_one _)) ?_
  · intro j hj
    rw [hz] at hj
    exact ⟨by rw [hB.cell (off + j) (by omega)]; rfl, hB.frozen _⟩
  · have e := setCells_row (bvs c) off (bvs l) w hB (by rw [bvs_length, bvs_length]; omega)
    rw [bvs_splice] at e
    exact h _ e (setCells_only _ _ _ (Only.refl g w))
theorem wpList_store_part {P : Program} {ops : Array Oper} {rest : List Oper} {o : Oper} {a : Act} {w : World} {Q : Exit → Act → World → Prop} (hgd : o.guard = none) (ty : TypeId) (x y : Operand) (ho : o.op = .store ty x y)
    (g off : Nat) (c : List UInt8) (hx : a.eval x = .pointer (some ⟨g, off, none⟩)) (hy : a.eval y = .agg (bvs c).toArray) (t : TypeId) (l : List UInt8) (hB : Blk w g t l) (s : Nat) (hi : (P.info? ty).map (·.size) = some s) (hc : c.length = s) (hl : off + s ≤ l.length)
    (h : ∀ w', Hid (Blk w' g t (splice l off c)) → Hid (Only g w w') → wpList P ops Q rest (a.put o.dst undef) w') : wpList P ops Q (o :: rest) a w :=
  wpList_plain hgd fun _ hK => wp_store_part ty x y ho g off c hx hy t l hB s hi hc hl fun w' h1 h2 => hK _ _ (h w' h1 h2)
/-- an array of bytes loaded from the middle of a block -/
theorem wpList_load_part {P : Program} {ops : Array Oper} {rest : List Oper} {o : Oper} {a : Act} {w : World} {Q : Exit → Act → World → Prop} (hgd : o.guard = none) (ty : TypeId) (x : Operand) (ho : o.op = .load ty x)
    (g off : Nat) (hx : a.eval x = .pointer (some ⟨g, off, none⟩)) (c : List UInt8) (hr : w.rangeAt g off (bvs c)) (n : Nat) (e : TypeId) (hu : P.underlying ty = some (.array n e)) (s : Nat) (hi : (P.info? ty).map (·.size) = some s) (hc : c.length = s)
    (h : wpList P ops Q rest (a.put o.dst (.agg (bvs c).toArray)) w) : wpList P ops Q (o :: rest) a w :=
  wpList_load_mid hgd ty x ho g off hx (bvs c) _ hr hu rfl (by rw [hi, bvs_length, hc]) h

theorem mixr_splice (new old x : List UInt8) (a : Nat) (h : new.length = old.length) (ha : a + x.length ≤ old.length) (hx : (new.drop a).take x.length = x) : splice (mixr new old a) a x = mixr new old (a + x.length) := by
  unfold splice mixr
  rw [List.take_left' (by simp; omega), List.drop_append, List.drop_of_length_le (by simp; omega), List.nil_append, List.length_take, Nat.min_eq_left (by omega), List.drop_drop, List.take_add, hx, List.append_assoc]
  congr 3
  omega
theorem mixr_part (new old : List UInt8) (a b n : Nat) (h : new.length = old.length) (ha : a ≤ old.length) (hb : b + n ≤ a) : ((mixr new old a).drop b).take n = (new.drop b).take n := by
  unfold mixr
  rw [List.drop_append_of_le_length (by simp; omega), List.take_append_of_le_length (by simp; omega), List.drop_take, List.take_take, Nat.min_eq_left (by omega)]

/-- how a literal is filled: part by part -/
theorem fill_row (cs : List Value) : ∀ (off n : Nat) (L : List Value), off + n + cs.length ≤ L.length →
    (cs.zipIdx n).foldl (fun (A : Array Value) (x : Value × Nat) => A.setIfInBounds (off + x.2) x.1) L.toArray = (splice L (off + n) cs).toArray := by
  induction cs with
  | nil => intro off n L h; simp [splice]
  | cons c r ih =>
    intro off n L h
    simp only [List.length_cons] at h
    rw [List.zipIdx_cons, List.foldl_cons]
    show (r.zipIdx (n + 1)).foldl _ (L.toArray.setIfInBounds (off + n) c) = _
    rw [List.setIfInBounds_toArray, ih off (n + 1) (L.set (off + n) c) (by simp; omega)]
    congr 1
    unfold splice
    rw [show off + (n + 1) = off + n + 1 by omega, List.take_set, List.take_succ_eq_append_getElem (by omega), List.set_append, if_neg (by simp; omega)]
    simp only [List.length_take, List.length_cons]
    rw [show off + n - min (off + n) L.length = 0 by omega, List.set_cons_zero, List.drop_set_of_lt (by omega), show off + n + (r.length + 1) = off + n + 1 + r.length by omega]
    simp
theorem fill_part (cs L : List Value) (off : Nat) (h : off + cs.length ≤ L.length) :
    cs.toArray.zipIdx.foldl (fun (A : Array Value) (x : Value × Nat) => A.setIfInBounds (off + x.2) x.1) L.toArray = (splice L off cs).toArray := by
  rw [← Array.foldl_toList, Array.toList_zipIdx]
  have e := fill_row cs off 0 L (by omega)
  rw [Nat.add_zero] at e
  exact e
/-- a literal of an array of arrays that gives its first element alone -/
theorem built_first {P : Program} (t e : TypeId) (n m s : Nat) (hu : P.underlying t = some (.array n e)) (hz : (P.info? t).map (fun i => i.zero.map Value.cells) = some (some (List.replicate s (Value.int .u8 0)).toArray)) (he : (P.info? e).map (·.size) = some m)
    (cs : List Value) (hc : cs.length = m) (hs : m ≤ s) : P.built t [(0, .agg cs.toArray)] = some (cs ++ List.replicate (s - m) (Value.int .u8 0)).toArray := by
  cases hq : P.info? t with
  | none => simp [hq] at hz
  | some i =>
    cases hz' : i.zero with
    | none => simp [hq, hz'] at hz
    | some z =>
      cases hqe : P.info? e with
      | none => simp [hqe] at he
      | some ie =>
        have h1 : ie.size = m := by simpa [hqe] using he
        have h2 : z.cells = (List.replicate s (.int .u8 0)).toArray := by simpa [hq, hz'] using hz
        have h3 := fill_part cs (List.replicate s (.int .u8 0)) 0 (by simp; omega)
        have h4 : (Value.agg cs.toArray).cells = cs.toArray := rfl
        simp only [Program.built, hq, hu, hz', hqe, Instr.fill, h4, h1, h2, Nat.zero_mul, List.size_toArray, List.length_replicate, hc]
        rw [if_neg (by simp; omega)]
        refine congrArg some (h3.trans ?_)
        simp [splice, hc]
theorem wp_load_blk {P : Program} {o : Oper} {a : Act} {w : World} {K : Act → World → Prop} {Q : Exit → Act → World → Prop} (ty : TypeId) (x : Operand) (ho : o.op = .load ty x)
    (g : Nat) (hx : a.eval x = .pointer (some ⟨g, 0, none⟩)) (t : TypeId) (l : List UInt8) (hB : Blk w g t l) (n : Nat) (e : TypeId) (hu : P.underlying ty = some (.array n e)) (s : Nat) (hi : (P.info? ty).map (·.size) = some s) (hl : l.length = s)
    (h : K (a.put o.dst (.agg (bvs l).toArray)) w) : o.wp P a w K Q :=
  wp_load_mid ty x ho g 0 hx (bvs l) _ hB.range hu rfl (by rw [hi, bvs_length, hl]) h
theorem wp_store_blk {P : Program} {o : Oper} {a : Act} {w : World} {K : Act → World → Prop} {Q : Exit → Act → World → Prop} (ty : TypeId) (x y : Operand) (ho : o.op = .store ty x y)
    (g : Nat) (l : List UInt8) (hx : a.eval x = .pointer (some ⟨g, 0, none⟩)) (hy : a.eval y = .agg (bvs l).toArray) (t : TypeId) (old : List UInt8) (hB : Blk w g t old) (s : Nat) (hi : (P.info? ty).map (·.size) = some s) (hl : l.length = s) (hold : old.length = s)
    (h : ∀ w', Hid (Blk w' g t l) → Hid (Only g w w') → K (a.put o.dst undef) w') : o.wp P a w K Q :=
  wp_store_row ty x y ho g (bvs l).toArray hx hy t (bvs old).toArray hB (by rw [hi, List.size_toArray, bvs_length, hl]) (by simp [bvs_length, hl, hold]) (all_oneCell_toArray (bvs_one _))
    (h _ (setRow_heap _ _ _ _ _ _ hB) ((Only.refl g w).setRow _))
/-- a load that may come up in any world that has the range -/
theorem exec_load_part {P : Program} {o : Oper} {a : Act} (u : World) (ty : TypeId) (x : Operand) (ho : o.op = .load ty x) (g off : Nat) (hx : a.eval x = .pointer (some ⟨g, off, none⟩)) (c : List UInt8) (hc : u.rangeAt g off (bvs c)) (n : Nat) (e : TypeId)
    (hu : P.underlying ty = some (.array n e)) (s : Nat) (hi : (P.info? ty).map (·.size) = some s) (hl : c.length = s) : (execOp a.eval o).run P u = .ok (.value (.agg (bvs c).toArray)) u :=
  exec_load_mid u ty x ho g off hx (bvs c) _ hc hu rfl (by rw [hi, bvs_length, hl])
/-- a variable of bytes made; the world behind it under a name of its own -/
theorem wp_alloc_blk {P : Program} {o : Oper} {a : Act} {w : World} {K : Act → World → Prop} {Q : Exit → Act → World → Prop} (ty : TypeId) (ho : o.op = .alloc ty) (z : List UInt8) (hz : ∀ u : World, (zeroValue ty).run P u = .ok (.agg (bvs z).toArray) u)
    (h : ∀ g w', Hid (g = w.heap.size) → Hid (Blk w' g ty z) → Hid (Below w.heap.size w w') → K (a.put o.dst (.pointer (some ⟨g, 0, none⟩))) w') : o.wp P a w K Q := by
  have h1 := h w.heap.size (w.alloc (.cells (bvs z).toArray ty)) rfl (blk_new w ty z) ((Below.refl _ _).alloc (Nat.le_refl _) _)
  unfold Oper.wp execOp
  simp only [ho, Instr.alloc, newVar, newRow, Value.cells, Sem.run_bind, Sem.run_pure, Result.andThen_ok, hz]
  exact h1
/-- one of two that may come up -/
theorem wpAnyH_twoG {P : Program} {md : Region.Mode} {ops : Array Oper} {Q : Exit → Act → World → Prop} {S : World → Prop} {fuel : Nat} {listed : Array Bool} {a : Act} {w : World} (i j : Nat) {oi oj : Oper} (hr : Region.ready md ops listed = [i, j])
    (hi : ops[i]? = some oi) (hwi : Region.wanted oi (yielded ops a.tmps) = true) (hj : ops[j]? = some oj) (hwj : Region.wanted oj (yielded ops a.tmps) = true)
    (h1 : oi.wp P a w (fun a' w' => S w' ∧ wpAnyH P md ops Q S fuel (listed.setIfInBounds i true) a' w') Q)
    (h2 : oj.wp P a w (fun a' w' => S w' ∧ wpAnyH P md ops Q S fuel (listed.setIfInBounds j true) a' w') Q) : wpAnyH P md ops Q S (fuel + 1) listed a w :=
  wpAnyH_all hr (by simp) fun k hk => by
    have hk' : k = i ∨ k = j := by simpa using hk
    rcases hk' with rfl | rfl
    · exact wpOp_of_wpG hi hwi h1
    · exact wpOp_of_wpG hj hwj h2
end Go.Proofs.Ytfkapjlindcdkaa
