/-
  What stands in memory while a header is read; a goto ahead; a struct and three numbers answered.
-/
import Derived.Test.YtdmjbdbkdjmhfaaHdD
import Derived.WalkMore
import Derived.ScopeJumps
namespace Go.Proofs.Ytdmjbdbkdjmhfaa
open Go.RowKit
set_option linter.unusedVariables false

/-- a goto ahead, to a label behind which there is no other -/
theorem wp_scope_ahead {P : Program} {c rest : Code} {Q : Exit → Act → World → Prop} {a : Act} {w : World} (l : Nat) (hf : findLabel c l = some rest)
    (h : c.wp P (Exit.jump l (fun a' w' => rest.wp P (Exit.noGoto Q) a' w') Q) a w) : (Code.scope c).wp P Q a w :=
  wp_scope_jumps l (fun a' w' => rest.wp P (Exit.noGoto Q) a' w') (fun _ _ => 0) hf h fun a' w' hJ => Code.wp_mono (fun e a'' w'' hq => by
    cases e with
    | goto l' => exact hq.elim
    | normal => exact hq
    | exit id => exact hq
    | ret => exact hq
    | panic ch => exact hq
    | outgrown => exact hq) hJ
theorem results_cell3 {P : Program} {fn : Func} {p x y z : Tmp} {ty : TypeId} (h : fn.results = #[.cell p ty, .tmp x, .tmp y, .tmp z]) (tmps : Array Value) (w : World) (g : Nat) (t : TypeId) (cs : Array Value) (fr : Nat × Nat) (d : TypeDesc)
    (hp : tmps.getD p undef = .pointer (some ⟨g, 0, none⟩)) (hg : w.heap[g]? = some (.cells cs t fr))
    (hu : P.underlying ty = some d) (hd : (match d with | .struct _ | .array _ _ => true | _ => false) = true) (hi : (P.info? ty).map (·.size) = some cs.size) :
    (results fn tmps).run P w = .ok (.tuple #[.agg cs, tmps.getD x undef, tmps.getD y undef, tmps.getD z undef]) w := by
  have hp' : tmps[p]?.getD undef = .pointer (some ⟨g, 0, none⟩) := by simpa using hp
  simp [results, h, hp', asAddr, run_loadVar_row w g t ty cs fr d hg hu hd hi]
theorem ret_rw3 {P : Program} {fn : Func} {R : Ending → World → Prop} {a : Act} {w : World} {p x y z : Tmp} {ty : TypeId} (h : fn.results = #[.cell p ty, .tmp x, .tmp y, .tmp z]) (g : Nat) (t : TypeId) (vs : List Value) (d : TypeDesc)
    (hp : a.tmps.getD p undef = .pointer (some ⟨g, 0, none⟩)) (hB : Rw w g t vs) (hu : P.underlying ty = some d) (hd : (match d with | .struct _ | .array _ _ => true | _ => false) = true) (hi : (P.info? ty).map (·.size) = some vs.length)
    (hdf : a.defers = []) (hR : R (.returned (.tuple #[.agg vs.toArray, a.tmps.getD x undef, a.tmps.getD y undef, a.tmps.getD z undef])) w) : bodyPost P fn R .ret a w :=
  bodyPost_ret (results_cell3 h a.tmps w g t vs.toArray (0, 0) d hp hB hu hd (by rw [hi, List.size_toArray])) hdf hR
/-- a cell stored; the world behind it under a name of its own -/
theorem run_put_rw {P : Program} {w : World} {g i : Nat} {t ty : TypeId} {vs : List Value} (hi : (P.info? ty).map (·.size) = some 1) (hB : Rw w g t vs) (hl : i < vs.length) (v : Value) (hv : v.cells = #[v]) (h1 : v.oneCell' = true) :
    (storeVar ty ⟨g, i, none⟩ v).run P w = .ok () (w.setCell ⟨g, i, none⟩ v) := by
  cases hq : P.info? ty with
  | none => simp [hq] at hi
  | some ie =>
    have hs : ie.size = 1 := by simpa [hq] using hi
    simp [storeVar, hv, sizeOf, typeInfo, hq, hs, storeCells, run_store P _ _ v _ h1, addr_add, hB.cell i _ (List.getElem?_eq_getElem hl), hB.frozen i, Result.andThen]
theorem wpList_put_rw {P : Program} {ops : Array Oper} {rest : List Oper} {o : Oper} {a : Act} {w : World} {Q : Exit → Act → World → Prop} (hgd : o.guard = none) (ty : TypeId) (x y : Operand) (ho : o.op = .store ty x y)
    (g i : Nat) (v : Value) (hx : a.eval x = .pointer (some ⟨g, i, none⟩)) (hy : a.eval y = v) (hv : v.cells = #[v]) (h1 : v.oneCell' = true) (t : TypeId) (vs : List Value) (hB : Rw w g t vs) (hi : (P.info? ty).map (·.size) = some 1) (hl : i < vs.length)
    (h : ∀ w', Hid (Rw w' g t (vs.set i v)) → Hid (Only g w w') → wpList P ops Q rest (a.put o.dst undef) w') : wpList P ops Q (o :: rest) a w :=
  wpList_plain hgd fun _ hK => by
    unfold Oper.wp execOp
    simp only [ho, hx, hy, Instr.storeAt, Instr.sureAddr, Sem.run_bind, Sem.run_pure, Result.andThen_ok, run_put_rw hi hB hl v hv h1]
    exact hK _ _ (h _ (hB.put i v) ((Only.refl g w).setCell i _))
theorem wp_store_rw {P : Program} {o : Oper} {a : Act} {w : World} {K : Act → World → Prop} {Q : Exit → Act → World → Prop} (ty : TypeId) (x y : Operand) (ho : o.op = .store ty x y)
    (g : Nat) (vs : List Value) (hx : a.eval x = .pointer (some ⟨g, 0, none⟩)) (hy : a.eval y = .agg vs.toArray) (t : TypeId) (old : List Value) (hB : Rw w g t old) (hi : (P.info? ty).map (·.size) = some vs.length) (hold : old.length = vs.length) (h1 : ∀ v ∈ vs, v.oneCell' = true)
    (h : ∀ w', Hid (Rw w' g t vs) → Hid (Only g w w') → K (a.put o.dst undef) w') : o.wp P a w K Q :=
  wp_store_row ty x y ho g vs.toArray hx hy t old.toArray hB (by rw [hi, List.size_toArray]) (by simpa using hold) (all_oneCell_toArray h1)
    (h _ (setRow_heap _ _ _ _ _ _ hB) ((Only.refl g w).setRow _))
theorem sz_slice : (Try.prog.info? 23).map (·.size) = some 1 := by kernel_rfl
theorem sz_u32 : (Try.prog.info? 22).map (·.size) = some 1 := by kernel_rfl
theorem sz_u64 : (Try.prog.info? 24).map (·.size) = some 1 := by kernel_rfl

/-- while a header is read: the parts, the header's variable at hb, the answer's -/
structure GS (w : World) (hb : Nat) (v : World) (s : List UInt8 × Nat) (hv : List Value) : Prop where
  p : PtW v w.heap.size (w.heap.size + 1) s
  h : Rw v hb 26 hv
  z : Rw v w.heap.size 26 hdr0
  b : Below w.heap.size w v
  lt : w.heap.size + 1 < hb
theorem GS.call {w v v' : World} {hb : Nat} {s s' : List UInt8 × Nat} {hv : List Value} (k : GS w hb v s hv) (hp : PtW v' w.heap.size (w.heap.size + 1) s') (ho : Only (w.heap.size + 1) v v') : GS w hb v' s' hv :=
  ⟨hp, k.h.only ho (by have := k.lt; omega), k.z.only ho (by omega), k.b.trans (ho.below k.b.size (by omega)), k.lt⟩
theorem GS.put {w v v' : World} {hb : Nat} {s : List UInt8 × Nat} {hv hv' : List Value} (k : GS w hb v s hv) (hr : Rw v' hb 26 hv') (ho : Only hb v v') : GS w hb v' s hv' :=
  ⟨k.p.only ho (by have := k.lt; omega) (by have := k.lt; omega), hr, k.z.only ho (by have := k.lt; omega), k.b.trans (ho.below k.b.size (by have := k.lt; omega)), k.lt⟩
/-- bytes of the call's own, beyond hb -/
structure OwnS (hb : Nat) (v : World) (A : Option Addr) (n c : Nat) (l : List UInt8) : Prop where
  o : Own v (hb + 1) (.slice A n c) n l
  le : n ≤ c
  m : c ≤ maxLen
theorem OwnS.only {hb g : Nat} {v v' : World} {A : Option Addr} {n c : Nat} {l : List UInt8} (k : OwnS hb v A n c l) (ho : Only g v v') (hg : g ≤ hb) : OwnS hb v' A n c l :=
  ⟨k.o.onlyA ho fun a ha => by have := (k.o.blk a ha).1; omega, k.le, k.m⟩
theorem OwnS.nil (hb : Nat) (v : World) : OwnS hb v none 0 0 [] := ⟨Own.nil _ _, Nat.le_refl _, by simp [maxLen]⟩
/-- a header as a value: its lists lie in memory from base on, the first and the third apart -/
def HdrW (w : World) (base : Nat) (hv : List Value) (h : Hdr) : Prop :=
  ∃ A1 n1 c1 A2 n2 c2 A3 n3 c3, hv = [.bool h.long, .int .i64 (h.kind : Int), .int .u32 (h.ver : Int), .slice A1 n1 c1, .slice A2 n2 c2, .slice A3 n3 c3, .bool h.spin, .bool h.phase, .int .u64 (h.num : Int), .int .i64 (h.nl : Int)] ∧
    (Own w base (.slice A1 n1 c1) n1 h.dst ∧ n1 ≤ c1 ∧ c1 ≤ maxLen) ∧ (Own w base (.slice A2 n2 c2) n2 h.src ∧ n2 ≤ c2 ∧ c2 ≤ maxLen) ∧ (Own w base (.slice A3 n3 c3) n3 h.tok ∧ n3 ≤ c3 ∧ c3 ≤ maxLen) ∧
    ∀ a1 a3, A1 = some a1 → A3 = some a3 → a1.block ≠ a3.block
/-- what Get answers -/
def Gets (w : World) (r : (Hdr × Nat × Nat) × Nat) (e : Ending) (w' : World) : Prop :=
  ∃ hv, e = .returned (.tuple #[.agg hv.toArray, .int .i64 (r.1.2.1 : Int), .int .i64 (r.1.2.2 : Int), .int .i64 (r.2 : Int)]) ∧ HdrW w' w.heap.size hv r.1.1 ∧ Below w.heap.size w w'
theorem hdr0_w (w : World) (base : Nat) : HdrW w base hdr0 Hdr.zero :=
  ⟨none, 0, 0, none, 0, 0, none, 0, 0, rfl, ⟨Own.nil _ _, Nat.le_refl _, by simp [maxLen]⟩, ⟨Own.nil _ _, Nat.le_refl _, by simp [maxLen]⟩, ⟨Own.nil _ _, Nat.le_refl _, by simp [maxLen]⟩, fun _ _ h => by cases h⟩
theorem hdr0_one : ∀ v ∈ hdr0, v.oneCell' = true := by simp [hdr0, Value.oneCell']
end Go.Proofs.Ytdmjbdbkdjmhfaa
