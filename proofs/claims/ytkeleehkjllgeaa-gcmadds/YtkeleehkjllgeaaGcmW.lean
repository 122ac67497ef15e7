/-
  Words of 64 bits in the walk; contracts of timesX, crossed, halves, bytes and times of a pair.
-/
import Derived.Test.YtkeleehkjllgeaaBlkW
import Derived.Test.YtkeleehkjllgeaaGcmH
import Derived.Test.YtkeleehkjllgeaaAesB
namespace Go.Proofs.Ytkeleehkjllgeaa
open Go.RowKit
set_option linter.unusedVariables false

/-- a word as a number, under a name that the walk's rules do not open -/
def qn (x : UInt64) : Int := (x.toNat : Int)
theorem qn_bd (x : UInt64) : 0 ≤ qn x ∧ qn x < 18446744073709551616 := by have := x.toNat_lt; unfold qn; omega
def qv (x : UInt64) : Value := .int .u64 (qn x)
def qvs (l : List UInt64) : List Value := l.map qv
theorem qvs_length (l : List UInt64) : (qvs l).length = l.length := by simp [qvs]
theorem qvs_one (l : List UInt64) : ∀ u ∈ qvs l, u.oneCell' = true := by
  intro u hu
  obtain ⟨b, _, rfl⟩ := List.mem_map.1 hu
  rfl
theorem u64_xor' (x y : UInt64) : bits .xor .u64 (qn x) (qn y) = qn (x ^^^ y) := by
  unfold qn
  rw [u64_xor_nat _ _ x.toNat_lt y.toNat_lt, UInt64.toNat_xor]
theorem u64_and' (x y : UInt64) : bits .and .u64 (qn x) (qn y) = qn (x &&& y) := by
  unfold qn
  rw [u64_and_nat _ _ x.toNat_lt y.toNat_lt, UInt64.toNat_and]
theorem u64_or' (x y : UInt64) : bits .or .u64 (qn x) (qn y) = qn (x ||| y) := by
  unfold qn
  rw [u64_or_nat _ _ x.toNat_lt y.toNat_lt, UInt64.toNat_or]
theorem u64_and1 (x : UInt64) : bits .and .u64 (qn x) 1 = qn (x &&& 1) := u64_and' x 1
theorem wrap_u64m (n : Int) : IntKind.u64.wrap n = n % 18446744073709551616 := by simp [IntKind.wrap, IntKind.bits, IntKind.signed]
theorem u64_shl (x : UInt64) (k : Nat) (hk : k < 64) : (qn x * ((2 ^ k : Nat) : Int)) % 18446744073709551616 = qn (x <<< UInt64.ofNat k) := by
  unfold qn
  rw [← Int.natCast_mul, UInt64.toNat_shiftLeft, Nat.shiftLeft_eq]
  simp only [UInt64.toNat_ofNat', Nat.reducePow]
  rw [Nat.mod_eq_of_lt (by omega : k < 18446744073709551616), Nat.mod_eq_of_lt hk]
  omega
theorem u64_shr (x : UInt64) (k : Nat) (hk : k < 64) : (qn x) / ((2 ^ k : Nat) : Int) = qn (x >>> UInt64.ofNat k) := by
  unfold qn
  rw [← Int.natCast_ediv, UInt64.toNat_shiftRight, Nat.shiftRight_eq_div_pow]
  simp only [UInt64.toNat_ofNat', Nat.reducePow]
  rw [Nat.mod_eq_of_lt (by omega : k < 18446744073709551616), Nat.mod_eq_of_lt hk]
theorem u64_shr1 (x : UInt64) : (qn x / (2 : Int) : Int) = qn (x >>> 1) := u64_shr x 1 (by omega)
theorem u64_shr63 (x : UInt64) : (qn x / (9223372036854775808 : Int) : Int) = qn (x >>> 63) := u64_shr x 63 (by omega)
theorem u64_shl63 (x : UInt64) : ((qn x * (9223372036854775808 : Int)) % (18446744073709551616 : Int) : Int) = qn (x <<< 63) := u64_shl x 63 (by omega)
theorem u64_shl63w (x : UInt64) : IntKind.u64.wrap (qn x * (9223372036854775808 : Int)) = qn (x <<< 63) := (wrap_u64m _).trans (u64_shl63 x)
theorem u64_shl8 (x : UInt64) : ((qn x * (256 : Int)) % (18446744073709551616 : Int) : Int) = qn (x <<< 8) := u64_shl x 8 (by omega)
theorem u64_shl8w (x : UInt64) : IntKind.u64.wrap (qn x * (256 : Int)) = qn (x <<< 8) := (wrap_u64m _).trans (u64_shl8 x)
theorem u64_shl1 (x : UInt64) : ((qn x * (2 : Int)) % (18446744073709551616 : Int) : Int) = qn (x <<< 1) := u64_shl x 1 (by omega)
theorem u64_shl1w (x : UInt64) : IntKind.u64.wrap (qn x * (2 : Int)) = qn (x <<< 1) := (wrap_u64m _).trans (u64_shl1 x)
theorem u64_mul (x y : UInt64) : (qn x * qn y) % 18446744073709551616 = qn (x * y) := by
  unfold qn
  rw [UInt64.toNat_mul, ← Int.natCast_mul]
  omega
theorem u64_mulr (x : UInt64) : (qn x * 16212958658533785600) % 18446744073709551616 = qn (x * 16212958658533785600) := u64_mul x 16212958658533785600
theorem u64_mulrw (x : UInt64) : IntKind.u64.wrap (qn x * 16212958658533785600) = qn (x * 16212958658533785600) := (wrap_u64m _).trans (u64_mulr x)
theorem u64_byte (x : UInt8) : IntKind.u64.wrap (bn x) = qn x.toUInt64 := by
  have := bn_bd x
  have e : qn x.toUInt64 = bn x := by simp [qn, bn]
  rw [e, wrap_u64m]; omega
theorem u64_bytem (x : UInt8) : bn x % 18446744073709551616 = qn x.toUInt64 := (wrap_u64m _).symm.trans (u64_byte x)
def negQ (x : UInt64) : UInt64 := 0 - x
theorem u64_neg (x : UInt64) : (-(qn x)) % 18446744073709551616 = qn (negQ x) := by
  unfold qn negQ
  rw [UInt64.toNat_sub]
  have := x.toNat_lt
  simp only [UInt64.toNat_zero]
  omega
theorem u64_negw (x : UInt64) : IntKind.u64.wrap (-(qn x)) = qn (negQ x) := (wrap_u64m _).trans (u64_neg x)

attribute [local go_sem] u64_xor' u64_and' u64_or' u64_and1 u64_shr1 u64_shr63 u64_shl63 u64_shl63w u64_shl8 u64_shl8w u64_shl1 u64_shl1w u64_mulr u64_mulrw u64_byte u64_bytem u64_neg u64_negw
theorem timesX_any (h l : UInt64) (w : World) : Calls Try.prog 39 #[.int .u64 (qn h), .int .u64 (qn l)] w fun e w' => e = .returned (.tuple #[.int .u64 (qn (txH h l)), .int .u64 (qn (txL h l))]) ∧ w = w' := by
  have b1 := qn_bd h
  have b2 := qn_bd l
  go_enter Try.func39, Try.ntmps39
  go_wp2
  go_ret2
  exact ⟨rfl, rfl⟩
theorem sizePair : (Try.prog.info? 51).map (·.size) = some 2 := by kernel_rfl
theorem size64 : (Try.prog.info? 49).map (·.size) = some 1 := by kernel_rfl
theorem zeroPair (u : World) : (zeroValue 51).run Try.prog u = .ok (.agg (qvs [0, 0]).toArray) u := by with_unfolding_all rfl
theorem built_pair (a b : UInt64) : Try.prog.built 51 [(0, .int .u64 (qn a)), (1, .int .u64 (qn b))] = some (qvs [a, b]).toArray := by kernel_rfl
/-- block g holds the words l, as a variable of type t -/
def Blq (w : World) (g : Nat) (t : TypeId) (l : List UInt64) : Prop := w.heap[g]? = some (.cells (qvs l).toArray t (0, 0))
section
variable {w w' : World} {g : Nat} {t : TypeId} {l : List UInt64}
theorem Blq.lt (h : Blq w g t l) : g < w.heap.size := (Array.getElem?_eq_some_iff.1 h).1
theorem Blq.cell (h : Blq w g t l) (j : Nat) (hj : j < l.length) : w.cell? ⟨g, j, none⟩ = some (.int .u64 (qn (l.getD j 0))) := by
  rw [cell_of_row _ _ _ _ _ _ h, List.getElem?_toArray]
  simp [qvs, qv, hj]
theorem Blq.frozen (h : Blq w g t l) (j : Nat) : w.frozen? ⟨g, j, none⟩ = false := frozen_of_row _ _ _ _ _ h
theorem Blq.put (h : Blq w g t l) (i : Nat) (x : UInt64) : Blq (w.setCell ⟨g, i, none⟩ (.int .u64 (qn x))) g t (l.set i x) := by
  unfold Blq
  rw [heap_setCell_same _ _ _ _ _ _ h, List.setIfInBounds_toArray]
  simp [qvs, qv, List.map_set]
theorem Blq.other (h : Blq w g t l) (g' i : Nat) (v : Value) (hne : g' ≠ g) : Blq (w.setCell ⟨g', i, none⟩ v) g t l := by
  unfold Blq
  rw [heap_setCell_other _ _ _ _ (by simpa using Ne.symm hne)]
  exact h
theorem Blq.drew (h : Blq w g t l) : Blq w.drew g t l := h
theorem Blq.drewN (h : Blq w g t l) (n : Nat) : Blq (w.drewN n) g t l := h
theorem Blq.alloc (h : Blq w g t l) (o : Obj) : Blq (w.alloc o) g t l := (Below.heap_alloc w o g h.lt).trans h
theorem Blq.below (h : Blq w g t l) (hb : Below w.heap.size w w') : Blq w' g t l := (hb.block g h.lt).trans h
theorem Blq.only {g' : Nat} (h : Blq w g t l) (ho : Only g' w w') (hne : g ≠ g') : Blq w' g t l := (ho.block g h.lt hne).trans h
theorem Blq.range (h : Blq w g t l) : w.rangeAt g 0 (qvs l) := range_row h
end
theorem wpList_load_blq {P : Program} {ops : Array Oper} {rest : List Oper} {o : Oper} {a : Act} {w : World} {Q : Exit → Act → World → Prop} (hgd : o.guard = none) (ty : TypeId) (x : Operand) (ho : o.op = .load ty x)
    (g : Nat) (hx : a.eval x = .pointer (some ⟨g, 0, none⟩)) (t : TypeId) (l : List UInt64) (hB : Blq w g t l) (n : Nat) (e : TypeId) (hu : P.underlying ty = some (.array n e)) (s : Nat) (hi : (P.info? ty).map (·.size) = some s) (hl : l.length = s)
    (h : wpList P ops Q rest (a.put o.dst (.agg (qvs l).toArray)) w) : wpList P ops Q (o :: rest) a w :=
  wpList_load_row hgd ty x ho g hx t _ (0, 0) _ hB hu rfl (by rw [hi, List.size_toArray, qvs_length, hl]) h
theorem wpList_store_blq {P : Program} {ops : Array Oper} {rest : List Oper} {o : Oper} {a : Act} {w : World} {Q : Exit → Act → World → Prop} (hgd : o.guard = none) (ty : TypeId) (x y : Operand) (ho : o.op = .store ty x y)
    (g : Nat) (l : List UInt64) (hx : a.eval x = .pointer (some ⟨g, 0, none⟩)) (hy : a.eval y = .agg (qvs l).toArray) (t : TypeId) (old : List UInt64) (hB : Blq w g t old) (s : Nat) (hi : (P.info? ty).map (·.size) = some s) (hl : l.length = s) (hold : old.length = s)
    (h : ∀ w', Hid (Blq w' g t l) → Hid (Only g w w') → wpList P ops Q rest (a.put o.dst undef) w') : wpList P ops Q (o :: rest) a w :=
  wpList_store_only hgd ty x y ho g (qvs l) hx hy t (qvs old).toArray hB (by rw [hi, qvs_length, hl]) (by simp [qvs_length, hl, hold]) (qvs_one _) h
theorem ret_blq {P : Program} {fn : Func} {R : Ending → World → Prop} {a : Act} {w : World} {p : Tmp} {ty : TypeId} (h : fn.results = #[.cell p ty]) (g : Nat) (t : TypeId) (l : List UInt64) (n : Nat) (e : TypeId)
    (hp : a.tmps.getD p undef = .pointer (some ⟨g, 0, none⟩)) (hB : Blq w g t l) (hu : P.underlying ty = some (.array n e)) (s : Nat) (hi : (P.info? ty).map (·.size) = some s) (hl : l.length = s)
    (hd : a.defers = []) (hR : R (.returned (.agg (qvs l).toArray)) w) : bodyPost P fn R .ret a w :=
  ret_row h g t _ (0, 0) n e hp hB hu (by rw [hi, List.size_toArray, qvs_length, hl]) hd hR
theorem run_index_word {P : Program} (u : World) (t e : TypeId) (n : Nat) (hu : P.underlying t = some (.array n e)) (hs : (P.info? e).map (·.size) = some 1) (he : P.underlying e = some (.int .u64))
    (L : List UInt64) (k : IntKind) (z : Int) (j : Nat) (hz : z = (j : Int)) (hj : j < n) (hL : j < L.length) :
    (Instr.index t (.agg (qvs L).toArray) (.int k z)).run P u = .ok (.int .u64 (qn (L.getD j 0))) u := by
  subst hz
  cases hq : P.info? e with
  | none => simp [hq] at hs
  | some i =>
    have h1 : i.size = 1 := by simpa [hq] using hs
    have ha : (isAgg e).run P u = .ok false u := by
      unfold isAgg
      rw [Sem.run_bind, run_underlying he u]
      rfl
    have hv : (qvs L)[j]? = some (.int .u64 (qn (L.getD j 0))) := by simp [qvs, qv, hL]
    simp [Instr.index, asIntOf, run_underlying hu, sizeOf, typeInfo, hq, h1, part, ha, hv, Sem.run_bind]
    omega

set_option maxHeartbeats 1000000 in
theorem pcross_any (a b c d : UInt64) (w : World) : Calls Try.prog 28 #[.agg #[.int .u64 (qn a), .int .u64 (qn b)], .agg #[.int .u64 (qn c), .int .u64 (qn d)]] w fun e w' => e = .returned (.agg #[.int .u64 (qn (a ^^^ c)), .int .u64 (qn (b ^^^ d))]) ∧ Below w.heap.size w w' := by
  have HBU := Lib.hid (built_pair (a ^^^ c) (b ^^^ d))
  go_enter Try.func28, Try.ntmps28
  go_wp2_with (first
    | ((with_reducible refine wpList_build_as rfl 51 _ rfl (qvs [a ^^^ c, b ^^^ d]).toArray ?hf ?_); (case hf => exact HBU.out))
    | ((with_reducible refine wpList_store_blq rfl 51 (.tmp 4) (.tmp 15) rfl (w.heap.size + 1 + 1) [a ^^^ c, b ^^^ d] ?hx ?hy 51 [0, 0] ?hg 2 sizePair rfl rfl ?_); (case hx => with_unfolding_all rfl); (case hy => with_unfolding_all rfl); (case hg => exact heap_allocs w [_, _, _] 2 _ rfl); intro w2 H2 HO2))
  refine ret_blq Try.results28 (w.heap.size + 1 + 1) 51 _ 2 49 rfl H2.out Try.underlying51 2 sizePair rfl rfl ⟨rfl, ?_⟩
  exact ((((Below.refl _ _).alloc (Nat.le_refl _) _).alloc (by simp) _).alloc (by simp; omega) _).trans (HO2.out.below (by simp; omega) (by omega))
end Go.Proofs.Ytkeleehkjllgeaa
