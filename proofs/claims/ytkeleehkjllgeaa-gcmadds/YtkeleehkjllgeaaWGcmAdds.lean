/-
  The walk through GcmAdds.
-/
import Derived.Test.YtkeleehkjllgeaaGcmL
import Derived.Test.YtkeleehkjllgeaaMakeF
import Derived.Test.YtkeleehkjllgeaaAppW
import Derived.Test.YtkeleehkjllgeaaThree
import Derived.Test.YtkeleehkjllgeaaThreeG
import Derived.Test.YtkeleehkjllgeaaInvW
import Derived.Test.YtkeleehkjllgeaaArrEqB
import Derived.StillTailTactics
import Derived.Deep.CutRange
import Derived.Lib.MinMax
namespace Go.Proofs.Ytkeleehkjllgeaa
open Go.RowKit
set_option linter.unusedVariables false

def Cpy (w : World) (x : Value) (n : Nat) (l : List UInt8) : Prop := ∃ A c, x = .slice A n c ∧ Sl w w.heap.size A n l ∧ n ≤ c ∧ c ≤ maxLen
def Pcs (w : World) (x : Value) (n : Nat) (l : List UInt8) : Prop := ∃ g p, x = .slice (some ⟨g, 0, none⟩) 1 1 ∧ Slw w w.heap.size (some ⟨g, 0, none⟩) 1 [p] ∧ p.l = l ∧ p.n = n
def Var (w : World) (base : Nat) (x : Value) : Prop := ∃ g, x = .pointer (some ⟨g, 0, none⟩) ∧ Blk w g 22 (List.replicate 16 0) ∧ base ≤ g
theorem Cpy.below {w w' : World} {x : Value} {n : Nat} {l : List UInt8} (h : Cpy w x n l) (hb : Below w.heap.size w w') : Cpy w' x n l := by
  obtain ⟨A, c, e, hs, r⟩ := h
  exact ⟨A, c, e, (hs.below hb).more hb.size, r⟩
theorem Slw.grow {w w' : World} {A : Option Addr} {n : Nat} {ps : List Piece} (h : Slw w w.heap.size A n ps) (hb : Below w.heap.size w w') : Slw w' w'.heap.size A n ps := by
  have h1 := h.below hb
  refine ⟨h1.len, fun h0 => ?_, fun p hp => ⟨((h1.each p hp).1).more hb.size, (h1.each p hp).2⟩⟩
  obtain ⟨b, off, e, hB, hc⟩ := h1.at_ h0
  exact ⟨b, off, e, Nat.lt_of_lt_of_le hB hb.size, hc⟩
theorem Pcs.below {w w' : World} {x : Value} {n : Nat} {l : List UInt8} (h : Pcs w x n l) (hb : Below w.heap.size w w') : Pcs w' x n l := by
  obtain ⟨g, p, e, hs, r⟩ := h
  exact ⟨g, p, e, hs.grow hb, r⟩
theorem Var.below {w w' : World} {x : Value} {base : Nat} (h : Var w base x) (hb : Below w.heap.size w w') : Var w' base x := by
  obtain ⟨g, e, hB, r⟩ := h
  exact ⟨g, e, hB.below hb, r⟩
theorem Var.old {w : World} {x : Value} {base g : Nat} (h : Var w base x) (hg : g = w.heap.size) : x ≠ .pointer (some ⟨g, 0, none⟩) := by
  obtain ⟨g', e, hB, r⟩ := h
  have := hB.lt
  rw [e]
  intro h
  injection h with h
  injection h with h
  injection h with h
  omega
/-- what holds whichever of the region's operations have come up -/
structure R9 (base n : Nat) (la lb lc ha hb hc : List UInt8) (w0 w : World) (b4 b5 b6 b11 b12 b13 b16 b17 b18 b19 b20 : Bool) (x4 x5 x6 x11 x12 x13 x16 x17 x18 x19 x20 : Value) : Prop where
  f4 : b4 = true → Cpy w x4 n la
  d5_4 : b5 = true → b4 = true
  f5 : b5 = true → Pcs w x5 n la
  d6_5 : b6 = true → b5 = true
  f6 : b6 = true → x6 = .agg (bvs ha).toArray
  d11_6 : b11 = true → b6 = true
  f11 : b11 = true → Cpy w x11 n lb
  d12_11 : b12 = true → b11 = true
  f12 : b12 = true → Pcs w x12 n lb
  d13_12 : b13 = true → b12 = true
  f13 : b13 = true → x13 = .agg (bvs hb).toArray
  f16 : b16 = true → Pcs w x16 n lc
  d17_13 : b17 = true → b13 = true
  d17_16 : b17 = true → b16 = true
  f17 : b17 = true → x17 = .agg (bvs hc).toArray
  f18 : b18 = true → Var w base x18
  f19 : b19 = true → Var w base x19
  f20 : b20 = true → Var w base x20
  n1 : b18 = true → b19 = true → x18 ≠ x19
  n2 : b18 = true → b20 = true → x18 ≠ x20
  n3 : b19 = true → b20 = true → x19 ≠ x20
  bl : Below w0.heap.size w0 w
theorem R9.below {base n : Nat} {la lb lc ha hb hc : List UInt8} {w0 w w' : World} {b4 b5 b6 b11 b12 b13 b16 b17 b18 b19 b20 : Bool} {x4 x5 x6 x11 x12 x13 x16 x17 x18 x19 x20 : Value} (h : R9 base n la lb lc ha hb hc w0 w b4 b5 b6 b11 b12 b13 b16 b17 b18 b19 b20 x4 x5 x6 x11 x12 x13 x16 x17 x18 x19 x20) (hB : Below w.heap.size w w') : R9 base n la lb lc ha hb hc w0 w' b4 b5 b6 b11 b12 b13 b16 b17 b18 b19 b20 x4 x5 x6 x11 x12 x13 x16 x17 x18 x19 x20 :=
  ⟨fun e => (h.f4 e).below hB, h.d5_4, fun e => (h.f5 e).below hB, h.d6_5, h.f6, h.d11_6, fun e => (h.f11 e).below hB, h.d12_11, fun e => (h.f12 e).below hB, h.d13_12, h.f13, fun e => (h.f16 e).below hB, h.d17_13, h.d17_16, h.f17, fun e => (h.f18 e).below hB, fun e => (h.f19 e).below hB, fun e => (h.f20 e).below hB, h.n1, h.n2, h.n3, h.bl.trans (hB.mono h.bl.size)⟩
theorem hash_solo (h l : List UInt8) (hh : h.length = 16) (n : Nat) (hn : n ≤ 1000) (w : World) (x : Value) (hx : Pcs w x n l) (v : List UInt8) (hv : hashG h [l] = v) :
    Calls Try.prog 19 #[.agg (bvs h).toArray, x] w fun e w' => e = .returned (.agg (bvs v).toArray) ∧ Below w.heap.size w w' := by
  obtain ⟨g, p, rfl, hs, hl, hpn⟩ := hx
  have h1 := hash_any h hh [p] _ 1 1 w.heap.size w hs (Nat.le_refl _) (by unfold maxLen; omega) (fun q hq => by
    simp only [List.mem_cons, List.not_mem_nil, or_false] at hq
    subst hq
    omega)
  simp only [List.map_cons, List.map_nil] at h1
  rw [hl, hv] at h1
  exact h1
theorem pcs_solo {w w' : World} {g n : Nat} {l : List UInt8} {p : Piece} (eg : g = w.heap.size) (hg : w'.heap[g]? = some (.cells #[.slice p.A p.n p.c] 24 (0, 0))) (hb : Below w.heap.size w w') (hs : Sl w w.heap.size p.A p.n p.l) (hc : p.n ≤ p.c ∧ p.c ≤ maxLen) (hl : p.l = l) (hn : p.n = n) : Pcs w' (.slice (some ⟨g, 0, none⟩) 1 1) n l := by
  refine ⟨g, p, rfl, slw_row (ps := [p]) hg ((Array.getElem?_eq_some_iff.1 hg).1) (fun q hq => ?_) 1 rfl, hl, hn⟩
  simp only [List.mem_cons, List.not_mem_nil, or_false] at hq
  subst hq
  exact ⟨(hs.below hb).more hb.size, hc⟩
theorem put_self {a : Act} (d N : Nat) (hN : a.tmps.size = N) (h : d < N) : a.put (some d) (a.tmps.getD d undef) = a := by
  subst hN
  have e : a.tmps.setIfInBounds d (a.tmps.getD d undef) = a.tmps := by
    apply Array.ext
    · simp
    · intro i h1 h2
      rw [Array.getElem_setIfInBounds]
      split
      · next he => subst he; simp
      · rfl
  show { a with tmps := a.tmps.setIfInBounds d (a.tmps.getD d undef) } = a
  rw [e]
theorem put_tmps {a : Act} (d : Nat) (x : Value) : (a.put (some d) x).tmps = a.tmps.setIfInBounds d x := rfl
theorem act_ext {a b : Act} (h1 : a.tmps = b.tmps) (h2 : a.defers = b.defers) : a = b := by cases a; cases b; simp_all
theorem put_over {a : Act} (d e : Nat) (x y : Value) (h : d ≠ e) : (a.put (some d) x).put (some e) y = (a.put (some e) y).put (some d) x := by
  refine act_ext ?_ rfl
  rw [put_tmps, put_tmps, put_tmps, put_tmps]
  apply Array.toList_inj.1
  simp only [Array.toList_setIfInBounds]
  exact List.set_comm _ _ h
theorem put_again {a : Act} (d : Nat) (x y : Value) : (a.put (some d) x).put (some d) y = a.put (some d) y := by
  refine act_ext ?_ rfl
  rw [put_tmps, put_tmps, put_tmps]
  apply Array.toList_inj.1
  simp only [Array.toList_setIfInBounds]
  exact List.set_set _
theorem size_put {a : Act} (d : Nat) (x : Value) : (a.put (some d) x).tmps.size = a.tmps.size := by rw [put_tmps]; simp
theorem eval_put_ne {a : Act} (d e : Nat) (x : Value) (h : d ≠ e) : (a.put (some d) x).eval (.tmp e) = a.eval (.tmp e) := by
  show (a.put (some d) x).tmps.getD e undef = a.tmps.getD e undef
  rw [put_tmps, Array.getD_eq_getD_getElem?, Array.getD_eq_getD_getElem?, Array.getElem?_setIfInBounds_ne h]
theorem eval_put_eq {a : Act} (d N : Nat) (x : Value) (hN : a.tmps.size = N) (h : d < N) : (a.put (some d) x).eval (.tmp d) = x := by
  show (a.put (some d) x).tmps.getD d undef = x
  rw [put_tmps]
  simp [hN, h]
theorem wp_hash_op {o : Oper} {a : Act} {w : World} {K : Act → World → Prop} {Q : Exit → Act → World → Prop} (x y : Operand) (ho : o.op = .call { callee := .value (.func 19), args := #[x, y], argTypes := #[22, 39] }) (vx vy v : Value) (hx : a.eval x = vx) (hy : a.eval y = vy)
    (h : Calls Try.prog 19 #[vx, vy] w fun e w' => e = .returned v ∧ Below w.heap.size w w') (hK : ∀ w', Below w.heap.size w w' → K (a.put o.dst v) w') : o.wp Try.prog a w K Q := by
  subst hx hy
  unfold Oper.wp execOp
  simp only [ho, resolve, invoke, Sem.run_bind, List.map_toArray, List.map_cons, List.map_nil]
  refine h.mono fun e w' hh => ?_
  obtain ⟨rfl, hb⟩ := hh
  exact hK w' hb
theorem cnt_pos (T : List Nat) (listed : Array Bool) (t : Nat) (ht : t ∈ T) (hu : listed.getD t true = false) : cntT listed T ≠ 0 := by
  unfold cntT
  intro h
  have h1 := List.eq_nil_of_length_eq_zero h
  have h2 : t ∈ T.filter fun t => !listed.getD t true := List.mem_filter.2 ⟨ht, by rw [hu]; rfl⟩
  rw [h1] at h2
  cases h2

theorem adds_long (h x y : List UInt8) (A1 A2 : Option Addr) (n1 c1 n2 c2 : Nat) (w : World) (hl : 100 < n1 ∧ 100 < n2) :
    Calls Try.prog 7 #[.agg (bvs h).toArray, .agg (bvs x).toArray, .agg (bvs y).toArray, .slice A1 n1 c1, .slice A2 n2 c2] w fun e w' => e = .returned (.bool true) ∧ Below w.heap.size w w' := by
  obtain ⟨n, hn⟩ : ∃ n, min n1 n2 = n := ⟨_, rfl⟩
  have hnm : min (n1 : Int) (n2 : Int) = (n : Int) := by omega
  have t1 : decide ((100 : Int) < (n : Int)) = true := by simp; omega
  clear hl hn
  go_enter Try.func7, Try.ntmps7
  go_wp2_with (go_at_call 9; (with_reducible refine (awake_any _).mono ?_); rintro e1 w1 ⟨rfl, b1⟩)
  go_ret
  exact ⟨rfl, ((((Below.refl _ _).alloc (Nat.le_refl _) _).alloc (by simp) _).alloc (by simp; omega) _).trans (b1.mono (by simp; omega))⟩
/-- the boxes of a law's three blocks, and a row of its own -/
structure AdW (w wr : World) (h x y c : List UInt8) : Prop where
  h : Blk wr w.heap.size 22 h
  x : Blk wr (w.heap.size + 1) 22 x
  y : Blk wr (w.heap.size + 1 + 1) 22 y
  c : Blk wr (w.heap.size + 1 + 1 + 1) 5 c
  b : Below w.heap.size w wr
theorem AdW.below {w wr wx : World} {h x y c : List UInt8} (k : AdW w wr h x y c) (hb : Below wr.heap.size wr wx) : AdW w wx h x y c := ⟨k.h.below hb, k.x.below hb, k.y.below hb, k.c.below hb, k.b.trans (hb.mono k.b.size)⟩
theorem AdW.drew {w wr : World} {h x y c : List UInt8} (k : AdW w wr h x y c) : AdW w wr.drew h x y c := ⟨k.h, k.x, k.y, k.c, k.b.drew⟩
theorem AdW.putC {w wr wx : World} {h x y c c' : List UInt8} (k : AdW w wr h x y c) (ho : Only (w.heap.size + 1 + 1 + 1) wr wx) (hc : Blk wx (w.heap.size + 1 + 1 + 1) 5 c') : AdW w wx h x y c' :=
  ⟨k.h.only ho (by omega), k.x.only ho (by omega), k.y.only ho (by omega), hc, k.b.trans (ho.below k.b.size (by omega))⟩
theorem AdW.only {w wr wx : World} {h x y c : List UInt8} {g : Nat} (k : AdW w wr h x y c) (ho : Only g wr wx) (hg : w.heap.size + 1 + 1 + 1 < g) : AdW w wx h x y c :=
  ⟨k.h.only ho (by omega), k.x.only ho (by omega), k.y.only ho (by omega), k.c.only ho (by omega), k.b.trans (ho.below k.b.size (by omega))⟩

/-- behind the hashes: the boxes, the hashes, two blocks of its own -/
structure AeW (w wr : World) (gA gB gC gz : Nat) (h x y ha hb hc z k : List UInt8) : Prop where
  h : Blk wr w.heap.size 22 h
  x : Blk wr (w.heap.size + 1) 22 x
  y : Blk wr (w.heap.size + 1 + 1) 22 y
  pa : Blk wr gA 22 ha
  pb : Blk wr gB 22 hb
  pc : Blk wr gC 22 hc
  z : Blk wr gz 22 z
  k : Blk wr (gz + 1) 22 k
  b : Below w.heap.size w wr
  lo : w.heap.size + 1 + 1 < gA ∧ w.heap.size + 1 + 1 < gB ∧ w.heap.size + 1 + 1 < gC
  hi : gA < gz ∧ gB < gz ∧ gC < gz
section
variable {w wr wx : World} {gA gB gC gz : Nat} {h x y ha hb hc z k : List UInt8}
theorem AeW.below (e : AeW w wr gA gB gC gz h x y ha hb hc z k) (hB : Below wr.heap.size wr wx) : AeW w wx gA gB gC gz h x y ha hb hc z k :=
  ⟨e.h.below hB, e.x.below hB, e.y.below hB, e.pa.below hB, e.pb.below hB, e.pc.below hB, e.z.below hB, e.k.below hB, e.b.trans (hB.mono e.b.size), e.lo, e.hi⟩
theorem AeW.drew (e : AeW w wr gA gB gC gz h x y ha hb hc z k) : AeW w wr.drew gA gB gC gz h x y ha hb hc z k := ⟨e.h, e.x, e.y, e.pa, e.pb, e.pc, e.z, e.k, e.b.drew, e.lo, e.hi⟩
theorem AeW.putZ {z' : List UInt8} (e : AeW w wr gA gB gC gz h x y ha hb hc z k) (ho : Only gz wr wx) (hz : Blk wx gz 22 z') : AeW w wx gA gB gC gz h x y ha hb hc z' k := by
  have h1 := e.lo
  have h2 := e.hi
  exact ⟨e.h.only ho (by omega), e.x.only ho (by omega), e.y.only ho (by omega), e.pa.only ho (by omega), e.pb.only ho (by omega), e.pc.only ho (by omega), hz, e.k.only ho (by omega), e.b.trans (ho.below e.b.size (by omega)), h1, h2⟩
theorem AeW.putK {k' : List UInt8} (e : AeW w wr gA gB gC gz h x y ha hb hc z k) (ho : Only (gz + 1) wr wx) (hk : Blk wx (gz + 1) 22 k') : AeW w wx gA gB gC gz h x y ha hb hc z k' := by
  have h1 := e.lo
  have h2 := e.hi
  exact ⟨e.h.only ho (by omega), e.x.only ho (by omega), e.y.only ho (by omega), e.pa.only ho (by omega), e.pb.only ho (by omega), e.pc.only ho (by omega), e.z.only ho (by omega), hk, e.b.trans (ho.below e.b.size (by omega)), h1, h2⟩
theorem AeW.only {g : Nat} (e : AeW w wr gA gB gC gz h x y ha hb hc z k) (ho : Only g wr wx) (hg : gz + 1 < g) : AeW w wx gA gB gC gz h x y ha hb hc z k := by
  have h1 := e.lo
  have h2 := e.hi
  exact ⟨e.h.only ho (by omega), e.x.only ho (by omega), e.y.only ho (by omega), e.pa.only ho (by omega), e.pb.only ho (by omega), e.pc.only ho (by omega), e.z.only ho (by omega), e.k.only ho (by omega), e.b.trans (ho.below e.b.size (by omega)), h1, h2⟩
end
theorem eql_same (l : List UInt8) (hl : l.length = 16) (u : World) : (binOp .eql 22 (.agg (bvs l).toArray) (.agg (bvs l).toArray)).run Try.prog u = .ok (.bool true) u := by
  rw [run_eql_bytes u 22 5 16 Try.underlying22 Try.underlying5 size1 _ _ hl hl]
  simp

attribute [local go_sem] u8_xor'
set_option maxRecDepth 8000 in
set_option maxHeartbeats 16000000 in
theorem adds_walk (h x y a b : List UInt8) (hh : h.length = 16) (hx : x.length = 16) (hy : y.length = 16) (A1 A2 : Option Addr) (n1 c1 n2 c2 : Nat) (w : World) (hs1 : Sl w w.heap.size A1 n1 a) (hs2 : Sl w w.heap.size A2 n2 b) (hnc1 : n1 ≤ c1) (hcm1 : c1 ≤ maxLen) (hnc2 : n2 ≤ c2) (hcm2 : c2 ≤ maxLen) (hn12 : ¬ (100 < n1 ∧ 100 < n2)) :
    Calls Try.prog 7 #[.agg (bvs h).toArray, .agg (bvs x).toArray, .agg (bvs y).toArray, .slice A1 n1 c1, .slice A2 n2 c2] w fun e w' => e = .returned (.bool true) ∧ Below w.heap.size w w' := by
  have Hh := Lib.hid hh
  have Hx := Lib.hid hx
  have Hy := Lib.hid hy
  have HN1 : Hid (n1 ≤ c1 ∧ c1 ≤ maxLen) := ⟨hnc1, hcm1⟩
  have HN2 : Hid (n2 ≤ c2 ∧ c2 ≤ maxLen) := ⟨hnc2, hcm2⟩
  have HP : Hid (∀ u : World, Below w.heap.size w u → Sl u w.heap.size A1 n1 a ∧ Sl u w.heap.size A2 n2 b) := fun u hu => ⟨hs1.below hu, hs2.below hu⟩
  have hl1 := hs1.1
  have hl2 := hs2.1
  obtain ⟨n, hn⟩ : ∃ n, min n1 n2 = n := ⟨_, rfl⟩
  have hnm : min (n1 : Int) (n2 : Int) = (n : Int) := by omega
  have hnn1 : n ≤ n1 := by omega
  have hnn2 : n ≤ n2 := by omega
  have hn100 : n ≤ 100 := by omega
  have t1 : decide ((100 : Int) < (n : Int)) = false := by simp; omega
  obtain ⟨la, hla⟩ : ∃ v, a.take n = v := ⟨_, rfl⟩
  obtain ⟨lb, hlb⟩ : ∃ v, b.take n = v := ⟨_, rfl⟩
  obtain ⟨lc, hlc⟩ : ∃ v, crossV la lb = v := ⟨_, rfl⟩
  have hlal : la.length = n := by rw [← hla, List.length_take]; omega
  have hlbl : lb.length = n := by rw [← hlb, List.length_take]; omega
  have HLA := Lib.hid hlal
  have HLB := Lib.hid hlbl
  have HLC : Hid (lc.length = n) := show _ = _ by rw [← hlc]; simp [crossV, hlal, hlbl]
  have HCG : Hid (∀ i, i < n → lc.getD i 0 = a.getD i 0 ^^^ b.getD i 0) := fun i hi => by
    rw [← hlc, crossV_getD _ _ (by omega), ← hla, ← hlb]
    simp only [List.getD_eq_getElem?_getD, List.getElem?_take, if_pos hi]
  obtain ⟨ha, hha⟩ : ∃ v, hashG h [la] = v := ⟨_, rfl⟩
  obtain ⟨hb, hhb⟩ : ∃ v, hashG h [lb] = v := ⟨_, rfl⟩
  obtain ⟨hc, hhc⟩ : ∃ v, hashG h [lc] = v := ⟨_, rfl⟩
  have HHA := Lib.hid hha
  have HHB := Lib.hid hhb
  have HHC := Lib.hid hhc
  have HAL : Hid (ha.length = 16) := show _ = _ by rw [← hha]; exact hashG_length _ _ hh
  have HBL : Hid (hb.length = 16) := show _ = _ by rw [← hhb]; exact hashG_length _ _ hh
  have HCL : Hid (hc.length = 16) := show _ = _ by rw [← hhc]; exact hashG_length _ _ hh
  have HABC : Hid (crossV ha hb = hc) := show _ = _ by rw [← hha, ← hhb, ← hhc, ← hlc]; exact (hash_cross h la lb hh (by omega)).symm
  obtain ⟨tu, htu⟩ : ∃ v, timesG x h = v := ⟨_, rfl⟩
  obtain ⟨tv, htv⟩ : ∃ v, timesG y h = v := ⟨_, rfl⟩
  obtain ⟨kc, hkc⟩ : ∃ v, crossV x y = v := ⟨_, rfl⟩
  obtain ⟨uc, huc⟩ : ∃ v, crossV tu tv = v := ⟨_, rfl⟩
  have HTU := Lib.hid htu
  have HTV := Lib.hid htv
  have HTUL : Hid (tu.length = 16) := show _ = _ by rw [← htu]; exact timesG_length _ _ hh
  have HTVL : Hid (tv.length = 16) := show _ = _ by rw [← htv]; exact timesG_length _ _ hh
  have HKL : Hid (kc.length = 16) := show _ = _ by rw [← hkc]; exact crossV_length _ _ hx hy
  have HUL : Hid (uc.length = 16) := show _ = _ by rw [← huc]; exact crossV_length _ _ HTUL.out HTVL.out
  have HKH : Hid (timesG kc h = uc) := show _ = _ by rw [← hkc, ← huc, ← htu, ← htv]; exact timesG_left _ _ _ hx hy hh
  have HHK : Hid (timesG h kc = uc) := show _ = _ by rw [timesG_comm h kc hh HKL.out]; exact HKH.out
  have HKG : Hid (∀ i, kc.getD i 0 = x.getD i 0 ^^^ y.getD i 0) := fun i => by rw [← hkc]; exact crossV_getD _ _ (by omega) i
  have HUG : Hid (∀ i, uc.getD i 0 = tu.getD i 0 ^^^ tv.getD i 0) := fun i => by rw [← huc]; exact crossV_getD _ _ (by have := HTUL.out; have := HTVL.out; omega) i
  have HZG : Hid (∀ i, hc.getD i 0 = ha.getD i 0 ^^^ hb.getD i 0) := fun i => by rw [← HABC.out]; exact crossV_getD _ _ (by have := HAL.out; have := HBL.out; omega) i
  obtain ⟨A1', eA1⟩ : ∃ v, (if c1 = 0 then A1 else A1.map (·.add 0)) = v := ⟨_, rfl⟩
  obtain ⟨A2', eA2⟩ : ∃ v, (if c2 = 0 then A2 else A2.map (·.add 0)) = v := ⟨_, rfl⟩
  have hcA : ∀ u : World, (Instr.slice 24 (.slice A1 n1 c1) none (some (.int .i64 (n : Int))) none).run Try.prog u = .ok (.slice A1' n c1) u := fun u => by
    rw [run_cut_to u A1 n1 c1 n (by omega), eA1]
  have hcB : ∀ u : World, (Instr.slice 24 (.slice A2 n2 c2) none (some (.int .i64 (n : Int))) none).run Try.prog u = .ok (.slice A2' n c2) u := fun u => by
    rw [run_cut_to u A2 n2 c2 n (by omega), eA2]
  have HQ : Hid (∀ u : World, Below w.heap.size w u → Sl u w.heap.size A1' n la ∧ Sl u w.heap.size A2' n lb) := fun u hu => by
    have h1 := ((HP.out u hu).1).take hnn1
    have h2 := ((HP.out u hu).2).take hnn2
    rw [hla] at h1
    rw [hlb] at h2
    refine ⟨⟨h1.1, fun h0 => ?_⟩, ⟨h2.1, fun h0 => ?_⟩⟩
    · obtain ⟨b', off', e, hb', hc'⟩ := h1.2 h0
      subst e
      exact ⟨b', off', by rw [← eA1, if_neg (by omega)]; simp [addr_add], hb', hc'⟩
    · obtain ⟨b', off', e, hb', hc'⟩ := h2.2 h0
      subst e
      exact ⟨b', off', by rw [← eA2, if_neg (by omega)]; simp [addr_add], hb', hc'⟩
  have hmk := run_make_full n (by omega)
  clear hh hx hy hs1 hs2 hnc1 hcm1 hnc2 hcm2 hn12 hla hlb hlc hlal hlbl hha hhb hhc eA1 eA2 hn hl1 hl2 htu htv hkc huc
  go_enter Try.func7, Try.ntmps7
  go_wp2_with fail
  clear hmk
  go_loopw [13] (fun v13 wr => ∃ i : Nat, i ≤ n ∧ v13 = .int .i64 i ∧ Hid (AdW w wr h x y (mixr lc (List.replicate n 0) i))) (fun v13 _ => n - (intOf v13).toNat)
  case atStart =>
    exact ⟨0, by omega, rfl, heap_allocs w [_, _, _, _] 0 _ rfl, heap_allocs w [_, _, _, _] 1 _ rfl, heap_allocs w [_, _, _, _] 2 _ rfl, heap_allocs w [_, _, _, _] 3 _ (by rw [mixr_zero, ← made_zeros]; rfl), ((((Below.refl _ _).alloc (Nat.le_refl _) _).alloc (by simp) _).alloc (by simp; omega) _).alloc (by simp; omega) _⟩
  case round =>
    obtain ⟨i, hi, rfl, AW⟩ := hrel
    by_cases hlt : i < n
    · obtain ⟨p1, o1, e1, _, _⟩ := (HP.out _ AW.out.b).1.2 (by omega)
      obtain ⟨p2, o2, e2, _, _⟩ := (HP.out _ AW.out.b).2.2 (by omega)
      subst e1 e2
      obtain ⟨q1, hq1⟩ : ∃ v, a.getD i 0 = v := ⟨_, rfl⟩
      obtain ⟨q2, hq2⟩ : ∃ v, b.getD i 0 = v := ⟨_, rfl⟩
      have k1 : wr.cell? ⟨p1, o1 + i, none⟩ = some (.int .u8 (bn q1)) := by rw [(HP.out _ AW.out.b).1.cellD i (by have := (HP.out _ AW.out.b).1.1; omega), hq1]
      have k2 : wr.cell? ⟨p2, o2 + i, none⟩ = some (.int .u8 (bn q2)) := by rw [(HP.out _ AW.out.b).2.cellD i (by have := (HP.out _ AW.out.b).2.1; omega), hq2]
      have HLm : Hid ((mixr lc (List.replicate n 0) i).length = n) := show _ = _ by rw [mixr_length _ _ _ (by simp [HLC.out])]; simp
      have HN : Hid ((mixr lc (List.replicate n 0) i).set i (q1 ^^^ q2) = mixr lc (List.replicate n 0) (i + 1)) := show _ = _ by
        rw [← hq1, ← hq2, ← HCG.out i hlt]
        exact mixr_set _ _ _ (by simp [HLC.out]) (by simpa using hlt)
      have li : (i : Int) < (n : Int) := by omega
      have li1 : (i : Int) < (n1 : Int) := by omega
      have li2 : (i : Int) < (n2 : Int) := by omega
      have HQ1 := Lib.hid hq1
      have HQ2 := Lib.hid hq2
      clear hq1 hq2
      go_wp2_with fail
      have A1w := Lib.hid AW.out.drew
      obtain ⟨w0, hw0⟩ : ∃ v, wr.drew = v := ⟨_, rfl⟩
      have HK1 : Hid (w0.cell? ⟨p1, o1 + i, none⟩ = some (.int .u8 (bn q1))) := show _ = _ by rw [← hw0]; exact k1
      have HK2 : Hid (w0.cell? ⟨p2, o2 + i, none⟩ = some (.int .u8 (bn q2))) := show _ = _ by rw [← hw0]; exact k2
      refine wp_held (S := fun u => u.cell? ⟨p1, o1 + i, none⟩ = some (.int .u8 (bn q1)) ∧ u.cell? ⟨p2, o2 + i, none⟩ = some (.int .u8 (bn q2))) (by kernel_rfl) ?_
      rw [hw0] at A1w ⊢
      clear hw0 k1 k2
      have hS : w0.cell? ⟨p1, o1 + i, none⟩ = some (.int .u8 (bn q1)) ∧ w0.cell? ⟨p2, o2 + i, none⟩ = some (.int .u8 (bn q2)) := ⟨HK1.out, HK2.out⟩
      refine wpAnyH_take (i := 0) (v := ?_) rfl (by kernel_rfl) (by kernel_rfl) (by kernel_rfl) (fun _ _ _ h => h) (Or.inl ⟨by rfl, ?_⟩) hS ?_
      rotate_left 1
      · rintro u ⟨hu1, hu2⟩
        go_simp
        first | done | with_reducible rfl
      go_simp
      refine wpAnyH_take (i := 1) (v := ?_) rfl (by kernel_rfl) (by kernel_rfl) (by kernel_rfl) (fun _ _ _ h => h) (Or.inl ⟨by rfl, ?_⟩) hS ?_
      rotate_left 1
      · rintro u ⟨hu1, hu2⟩
        go_simp
        first | done | with_reducible rfl
      go_simp
      refine wpAnyH_take (i := 2) (v := ?_) rfl (by kernel_rfl) (by kernel_rfl) (by kernel_rfl) (fun _ _ _ h => h) (Or.inl ⟨by rfl, ?_⟩) hS ?_
      rotate_left 1
      · rintro u ⟨hu1, hu2⟩
        go_simp
        first | done | with_reducible rfl
      go_simp
      refine wpAnyH_take (i := 3) (v := ?_) rfl (by kernel_rfl) (by kernel_rfl) (by kernel_rfl) (fun _ _ _ h => h) (Or.inl ⟨by rfl, ?_⟩) hS ?_
      rotate_left 1
      · rintro u ⟨hu1, hu2⟩
        go_simp
        first | done | with_reducible rfl
      go_simp
      refine wpAnyH_take (i := 4) (v := ?_) rfl (by kernel_rfl) (by kernel_rfl) (by kernel_rfl) (fun _ _ _ h => h) (Or.inl ⟨by rfl, ?_⟩) hS ?_
      rotate_left 1
      · rintro u ⟨hu1, hu2⟩
        go_simp
        first | done | with_reducible rfl
      go_simp
      refine wpAnyH_take (i := 5) (v := ?_) rfl (by kernel_rfl) (by kernel_rfl) (by kernel_rfl) (fun _ _ _ h => h) (Or.inl ⟨by rfl, ?_⟩) hS ?_
      rotate_left 1
      · rintro u ⟨hu1, hu2⟩
        go_simp
        first | done | with_reducible rfl
      go_simp
      refine wpAnyH_take (i := 6) (v := ?_) rfl (by kernel_rfl) (by kernel_rfl) (by kernel_rfl) (fun _ _ _ h => h) (Or.inl ⟨by rfl, ?_⟩) hS ?_
      rotate_left 1
      · rintro u ⟨hu1, hu2⟩
        go_simp
        first | done | with_reducible rfl
      go_simp
      refine wpAnyH_take (i := 7) (v := ?_) rfl (by kernel_rfl) (by kernel_rfl) (by kernel_rfl) (fun _ _ _ h => h) (Or.inl ⟨by rfl, ?_⟩) hS ?_
      rotate_left 1
      · rintro u ⟨hu1, hu2⟩
        go_simp
        first | done | with_reducible rfl
      go_simp
      refine wpAnyH_take (i := 8) (v := ?_) rfl (by kernel_rfl) (by kernel_rfl) (by kernel_rfl) (fun _ _ _ h => h) (Or.inl ⟨by rfl, ?_⟩) hS ?_
      rotate_left 1
      · rintro u ⟨hu1, hu2⟩
        go_simp
        first | done | with_reducible rfl
      go_simp
      refine wpAnyH_take (i := 9) (v := ?_) rfl (by kernel_rfl) (by kernel_rfl) (by kernel_rfl) (fun _ _ _ h => h) (Or.inl ⟨by rfl, ?_⟩) hS ?_
      rotate_left 1
      · rintro u ⟨hu1, hu2⟩
        go_simp
        first | done | with_reducible rfl
      go_simp
      refine wpAnyH_take (i := 10) (v := ?_) rfl (by kernel_rfl) (by kernel_rfl) (by kernel_rfl) (fun _ _ _ h => h) (Or.inl ⟨by rfl, ?_⟩) hS ?_
      rotate_left 1
      · rintro u ⟨hu1, hu2⟩
        go_simp
        first | done | with_reducible rfl
      go_simp
      refine wpAnyH_take (i := 11) (v := ?_) rfl (by kernel_rfl) (by kernel_rfl) (by kernel_rfl) (fun _ _ _ h => h) (Or.inl ⟨by rfl, ?_⟩) hS ?_
      rotate_left 1
      · rintro u ⟨hu1, hu2⟩
        go_simp
        first | done | with_reducible rfl
      go_simp
      refine wpAnyH_oneG 12 (by kernel_rfl) rfl (by rfl) ?_
      refine wp_put_blk 5 (.tmp 48) (.tmp 47) rfl (w.heap.size + 1 + 1 + 1) i (q1 ^^^ q2) (by with_unfolding_all rfl) (by with_unfolding_all rfl) 5 _ A1w.out.c size1 (by rw [HLm.out]; omega) ?_
      intro w4 P4 O4
      have A4 := Lib.hid (A1w.out.putC (c' := mixr lc (List.replicate n 0) (i + 1)) O4.out (by rw [← HN.out]; exact P4.out))
      have k1 : w4.cell? ⟨p1, o1 + i, none⟩ = some (.int .u8 (bn q1)) := by rw [(HP.out _ A4.out.b).1.cellD i (by have := (HP.out _ A4.out.b).1.1; omega), HQ1.out]
      have k2 : w4.cell? ⟨p2, o2 + i, none⟩ = some (.int .u8 (bn q2)) := by rw [(HP.out _ A4.out.b).2.cellD i (by have := (HP.out _ A4.out.b).2.1; omega), HQ2.out]
      refine ⟨⟨k1, k2⟩, ?_⟩
      refine wpAnyH_done (by kernel_rfl) ?_ _
      go_wp2_with fail
      go_roundw
      case rel =>
        first
          | exact ⟨i + 1, by omega, by go_num, A4⟩
          | ((repeat apply Exists.intro); exact ⟨⟨i + 1, by omega, by go_num, A4⟩, rfl⟩)
      case measure => simp [intOf]; omega
    · obtain rfl : i = n := by omega
      rw [mixr_full _ _ _ (by simp [HLC.out]) (by simp)] at AW
      have hnl : i ≤ 1000 := by omega
      go_upto_region 9 with fail
      go_cut [14, 15, 16] from 22 to 123 (fun v14 v15 v16 wx => ∃ gA gB gC : Nat, v14 = .pointer (some ⟨gA, 0, none⟩) ∧ v15 = .pointer (some ⟨gB, 0, none⟩) ∧ v16 = .pointer (some ⟨gC, 0, none⟩) ∧ Hid (wr.heap.size ≤ gA ∧ wr.heap.size ≤ gB ∧ wr.heap.size ≤ gC) ∧ Hid (Blk wx gA 22 ha) ∧ Hid (Blk wx gB 22 hb) ∧ Hid (Blk wx gC 22 hc) ∧ Hid (Below wr.heap.size wr wx))
      case first =>
        have HU : Hid (∀ u, Below wr.drew.heap.size wr.drew u → Below wr.heap.size wr u) := fun u hu => ⟨hu.os, hu.tape, hu.output, hu.size, hu.block⟩
        have HZ : Hid (wr.drew.heap.size = wr.heap.size) := rfl
        refine wp_held (S := fun u => Below wr.drew.heap.size wr.drew u) (by kernel_rfl) ?_
        replace AW := Lib.hid AW.out.drew
        obtain ⟨w0, hw0⟩ : ∃ x, wr.drew = x := ⟨_, rfl⟩
        rw [hw0] at AW HU HZ ⊢
        clear hw0
        have b0 : Below w0.heap.size w0 w0 := Below.refl _ _
        refine wpAnyH_pickG 0 (.agg (bvs h).toArray) rfl (by kernel_rfl) (by kernel_rfl) (by kernel_rfl) (by rfl) (fun _ _ _ h => h) (fun u hu => exec_load_blk u 22 (.tmp 5) rfl w.heap.size (by with_unfolding_all rfl) 22 h (AW.out.h.below hu) 16 5 Try.underlying22 16 sizeRow Hh.out) b0 ?_
        go_simp
        refine wpAnyH_take (i := 1) (v := ?_) rfl (by kernel_rfl) (by kernel_rfl) (by kernel_rfl) (fun _ _ _ h => h) (Or.inl ⟨by rfl, ?_⟩) b0 ?_
        rotate_left 1
        · intro u hu
          go_simp
          first | done | with_reducible rfl
        go_simp
        refine wpAnyH_take (i := 2) (v := ?_) rfl (by kernel_rfl) (by kernel_rfl) (by kernel_rfl) (fun _ _ _ h => h) (Or.inl ⟨by rfl, ?_⟩) b0 ?_
        rotate_left 1
        · intro u hu
          go_simp
          first | done | with_reducible rfl
        go_simp
        refine wpAnyH_take (i := 3) (v := ?_) rfl (by kernel_rfl) (by kernel_rfl) (by kernel_rfl) (fun _ _ _ h => h) (Or.inl ⟨by rfl, ?_⟩) b0 ?_
        rotate_left 1
        · intro u hu
          go_simp
          first | done | with_reducible rfl
        go_simp
        refine wpAnyH_pickG 7 (.agg (bvs h).toArray) rfl (by kernel_rfl) (by kernel_rfl) (by kernel_rfl) (by rfl) (fun _ _ _ h => h) (fun u hu => exec_load_blk u 22 (.tmp 5) rfl w.heap.size (by with_unfolding_all rfl) 22 h (AW.out.h.below hu) 16 5 Try.underlying22 16 sizeRow Hh.out) b0 ?_
        go_simp
        refine wpAnyH_take (i := 8) (v := ?_) rfl (by kernel_rfl) (by kernel_rfl) (by kernel_rfl) (fun _ _ _ h => h) (Or.inl ⟨by rfl, ?_⟩) b0 ?_
        rotate_left 1
        · intro u hu
          go_simp
          first | done | with_reducible rfl
        go_simp
        refine wpAnyH_take (i := 9) (v := ?_) rfl (by kernel_rfl) (by kernel_rfl) (by kernel_rfl) (fun _ _ _ h => h) (Or.inl ⟨by rfl, ?_⟩) b0 ?_
        rotate_left 1
        · intro u hu
          go_simp
          first | done | with_reducible rfl
        go_simp
        refine wpAnyH_take (i := 10) (v := ?_) rfl (by kernel_rfl) (by kernel_rfl) (by kernel_rfl) (fun _ _ _ h => h) (Or.inl ⟨by rfl, ?_⟩) b0 ?_
        rotate_left 1
        · intro u hu
          go_simp
          first | done | with_reducible rfl
        go_simp
        refine wpAnyH_pickG 14 (.agg (bvs h).toArray) rfl (by kernel_rfl) (by kernel_rfl) (by kernel_rfl) (by rfl) (fun _ _ _ h => h) (fun u hu => exec_load_blk u 22 (.tmp 5) rfl w.heap.size (by with_unfolding_all rfl) 22 h (AW.out.h.below hu) 16 5 Try.underlying22 16 sizeRow Hh.out) b0 ?_
        go_simp
        refine wpAnyH_take (i := 15) (v := ?_) rfl (by kernel_rfl) (by kernel_rfl) (by kernel_rfl) (fun _ _ _ h => h) (Or.inl ⟨by rfl, ?_⟩) b0 ?_
        rotate_left 1
        · intro u hu
          go_simp
          first | done | with_reducible rfl
        go_simp
        refine from_act ?_
        intro a0 ha0
        have hsz : a0.tmps.size = 124 := by rw [ha0]; rfl
        have e49 : a0.eval (.tmp 49) = .agg (bvs h).toArray := by rw [ha0]; rfl
        have e52 : a0.eval (.tmp 52) = .slice A1' i c1 := by rw [ha0]; rfl
        have e56 : a0.eval (.tmp 56) = .agg (bvs h).toArray := by rw [ha0]; rfl
        have e59 : a0.eval (.tmp 59) = .slice A2' i c2 := by rw [ha0]; rfl
        have e63 : a0.eval (.tmp 63) = .agg (bvs h).toArray := by rw [ha0]; rfl
        have e64 : a0.eval (.tmp 64) = .slice (some ⟨w.heap.size + 1 + 1 + 1, 0, none⟩) i i := by rw [ha0]; rfl
        refine wpAnyH_inv [4, 5, 6, 11, 12, 13, 16, 17, 18, 19, 20] (by decide) 3 (fun listed a u => ∃ (b4 b5 b6 b11 b12 b13 b16 b17 b18 b19 b20 : Bool) (x4 x5 x6 x11 x12 x13 x16 x17 x18 x19 x20 : Value), listed = #[true, true, true, true, b4, b5, b6, true, true, true, true, b11, b12, b13, true, true, b16, b17, b18, b19, b20, false, false, false] ∧ a = (((((((((((a0.put (some 53) x4).put (some 54) x5).put (some 55) x6).put (some 60) x11).put (some 61) x12).put (some 62) x13).put (some 65) x16).put (some 66) x17).put (some 14) x18).put (some 15) x19).put (some 16) x20) ∧ R9 w0.heap.size i la lb lc ha hb hc w0 u b4 b5 b6 b11 b12 b13 b16 b17 b18 b19 b20 x4 x5 x6 x11 x12 x13 x16 x17 x18 x19 x20) ?_ ?_ 11 _ _ _ (by kernel_rfl) ?_
        · rintro _ _ u ⟨b4, b5, b6, b11, b12, b13, b16, b17, b18, b19, b20, x4, x5, x6, x11, x12, x13, x16, x17, x18, x19, x20, rfl, rfl, hF⟩ hcnt
          constructor
          · intro h0
            rw [List.eq_nil_iff_forall_not_mem] at h0
            clear hF ha0
            cases b4
            · exact h0 4 (ready_of 4 [3] rfl (by kernel_rfl) (by intro d hd; simp only [List.mem_cons, List.not_mem_nil, or_false] at hd; subst hd; rfl))
            cases b5
            · exact h0 5 (ready_of 5 [4] rfl (by kernel_rfl) (by intro d hd; simp only [List.mem_cons, List.not_mem_nil, or_false] at hd; subst hd; rfl))
            cases b6
            · exact h0 6 (ready_of 6 [0, 5, 4] rfl (by kernel_rfl) (by intro d hd; simp only [List.mem_cons, List.not_mem_nil, or_false] at hd; rcases hd with rfl | rfl | rfl <;> rfl))
            cases b11
            · exact h0 11 (ready_of 11 [10, 6] rfl (by kernel_rfl) (by intro d hd; simp only [List.mem_cons, List.not_mem_nil, or_false] at hd; rcases hd with rfl | rfl <;> rfl))
            cases b12
            · exact h0 12 (ready_of 12 [11] rfl (by kernel_rfl) (by intro d hd; simp only [List.mem_cons, List.not_mem_nil, or_false] at hd; subst hd; rfl))
            cases b13
            · exact h0 13 (ready_of 13 [7, 12, 11] rfl (by kernel_rfl) (by intro d hd; simp only [List.mem_cons, List.not_mem_nil, or_false] at hd; rcases hd with rfl | rfl | rfl <;> rfl))
            cases b16
            · exact h0 16 (ready_of 16 [15] rfl (by kernel_rfl) (by intro d hd; simp only [List.mem_cons, List.not_mem_nil, or_false] at hd; subst hd; rfl))
            cases b17
            · exact h0 17 (ready_of 17 [14, 16, 13] rfl (by kernel_rfl) (by intro d hd; simp only [List.mem_cons, List.not_mem_nil, or_false] at hd; rcases hd with rfl | rfl | rfl <;> rfl))
            cases b18
            · exact h0 18 (ready_of 18 [] rfl (by kernel_rfl) (by intro d hd; cases hd))
            cases b19
            · exact h0 19 (ready_of 19 [] rfl (by kernel_rfl) (by intro d hd; cases hd))
            cases b20
            · exact h0 20 (ready_of 20 [] rfl (by kernel_rfl) (by intro d hd; cases hd))
            exact hcnt (by kernel_rfl)
          · intro j hj
            clear ha0
            have hlt : j < 24 := by obtain ⟨_, o, ho, _⟩ := mem_ready.1 hj; exact (Array.getElem?_eq_some_iff.1 ho).1
            have hun := (mem_ready.1 hj).1
            rcases (show j = 0 ∨ j = 1 ∨ j = 2 ∨ j = 3 ∨ j = 4 ∨ j = 5 ∨ j = 6 ∨ j = 7 ∨ j = 8 ∨ j = 9 ∨ j = 10 ∨ j = 11 ∨ j = 12 ∨ j = 13 ∨ j = 14 ∨ j = 15 ∨ j = 16 ∨ j = 17 ∨ j = 18 ∨ j = 19 ∨ j = 20 ∨ j = 21 ∨ j = 22 ∨ j = 23 by clear hun hj hF; omega) with rfl | rfl | rfl | rfl | rfl | rfl | rfl | rfl | rfl | rfl | rfl | rfl | rfl | rfl | rfl | rfl | rfl | rfl | rfl | rfl | rfl | rfl | rfl | rfl
            · cases hun
            · cases hun
            · cases hun
            · cases hun
            · skip
              refine ⟨by decide, ?_⟩
              refine wpOp_of_wpG (i := 4) rfl (by rfl) ?_
              refine wp_append_copy (.const (.slice none 0 0)) (.tmp 52) rfl rfl w.heap.size A1' i c1 la (by rw [eval_put_ne 16 52 _ (by decide), eval_put_ne 15 52 _ (by decide), eval_put_ne 14 52 _ (by decide), eval_put_ne 66 52 _ (by decide), eval_put_ne 65 52 _ (by decide), eval_put_ne 62 52 _ (by decide), eval_put_ne 61 52 _ (by decide), eval_put_ne 60 52 _ (by decide), eval_put_ne 55 52 _ (by decide), eval_put_ne 54 52 _ (by decide), eval_put_ne 53 52 _ (by decide)]; exact e52) (HQ.out _ (AW.out.b.trans (hF.bl.mono AW.out.b.size))).1 (by omega) ?_
              intro A' c' w' O1 L1 d1
              have hG := hF.below d1.out
              refine ⟨hG.bl, true, b5, b6, b11, b12, b13, b16, b17, b18, b19, b20, (.slice A' i c'), x5, x6, x11, x12, x13, x16, x17, x18, x19, x20, rfl, ?_, ?_⟩
              · change Act.put _ (some 53) _ = _
                rw [put_over 16 53 _ _ (by decide), put_over 15 53 _ _ (by decide), put_over 14 53 _ _ (by decide), put_over 66 53 _ _ (by decide), put_over 65 53 _ _ (by decide), put_over 62 53 _ _ (by decide), put_over 61 53 _ _ (by decide), put_over 60 53 _ _ (by decide), put_over 55 53 _ _ (by decide), put_over 54 53 _ _ (by decide), put_again]
              · exact ⟨fun _ => ⟨A', c', rfl, O1.out.sl, L1.out⟩, fun _ => rfl, hG.f5, hG.d6_5, hG.f6, hG.d11_6, hG.f11, hG.d12_11, hG.f12, hG.d13_12, hG.f13, hG.f16, hG.d17_13, hG.d17_16, hG.f17, hG.f18, hG.f19, hG.f20, hG.n1, hG.n2, hG.n3, hG.bl⟩
            · skip
              refine ⟨by decide, ?_⟩
              have hd4 : b4 = true := ready_deps hj [4] (by kernel_rfl) 4 (by simp)
              refine wpOp_of_wpG (i := 5) rfl (by rfl) ?_
              obtain ⟨A', c', rfl, hsl, hcc⟩ := hF.f4 hd4
              refine wp_solo (.tmp 53) rfl ⟨A', i, c', la⟩ (by rw [eval_put_ne 16 53 _ (by decide), eval_put_ne 15 53 _ (by decide), eval_put_ne 14 53 _ (by decide), eval_put_ne 66 53 _ (by decide), eval_put_ne 65 53 _ (by decide), eval_put_ne 62 53 _ (by decide), eval_put_ne 61 53 _ (by decide), eval_put_ne 60 53 _ (by decide), eval_put_ne 55 53 _ (by decide), eval_put_ne 54 53 _ (by decide), eval_put_eq 53 124 _ (by rw [hsz]) (by omega)]) ?_
              intro g w' eg T1 d1
              have hG := hF.below d1.out
              refine ⟨hG.bl, b4, true, b6, b11, b12, b13, b16, b17, b18, b19, b20, (.slice A' i c'), (.slice (some ⟨g, 0, none⟩) 1 1), x6, x11, x12, x13, x16, x17, x18, x19, x20, rfl, ?_, ?_⟩
              · change Act.put _ (some 54) _ = _
                rw [put_over 16 54 _ _ (by decide), put_over 15 54 _ _ (by decide), put_over 14 54 _ _ (by decide), put_over 66 54 _ _ (by decide), put_over 65 54 _ _ (by decide), put_over 62 54 _ _ (by decide), put_over 61 54 _ _ (by decide), put_over 60 54 _ _ (by decide), put_over 55 54 _ _ (by decide), put_again]
              · exact ⟨hG.f4, fun _ => hd4, fun _ => pcs_solo eg.out T1.out d1.out hsl hcc rfl rfl, fun _ => rfl, hG.f6, hG.d11_6, hG.f11, hG.d12_11, hG.f12, hG.d13_12, hG.f13, hG.f16, hG.d17_13, hG.d17_16, hG.f17, hG.f18, hG.f19, hG.f20, hG.n1, hG.n2, hG.n3, hG.bl⟩
            · skip
              refine ⟨by decide, ?_⟩
              have hd5 : b5 = true := ready_deps hj [5] (by kernel_rfl) 5 (by simp)
              refine wpOp_of_wpG (i := 6) rfl (by rfl) ?_
              refine wp_hash_op (.tmp 49) (.tmp 54) rfl (.agg (bvs h).toArray) x5 (.agg (bvs ha).toArray) (by rw [eval_put_ne 16 49 _ (by decide), eval_put_ne 15 49 _ (by decide), eval_put_ne 14 49 _ (by decide), eval_put_ne 66 49 _ (by decide), eval_put_ne 65 49 _ (by decide), eval_put_ne 62 49 _ (by decide), eval_put_ne 61 49 _ (by decide), eval_put_ne 60 49 _ (by decide), eval_put_ne 55 49 _ (by decide), eval_put_ne 54 49 _ (by decide), eval_put_ne 53 49 _ (by decide)]; exact e49) (by rw [eval_put_ne 16 54 _ (by decide), eval_put_ne 15 54 _ (by decide), eval_put_ne 14 54 _ (by decide), eval_put_ne 66 54 _ (by decide), eval_put_ne 65 54 _ (by decide), eval_put_ne 62 54 _ (by decide), eval_put_ne 61 54 _ (by decide), eval_put_ne 60 54 _ (by decide), eval_put_ne 55 54 _ (by decide), eval_put_eq 54 124 _ (by rw [size_put, hsz]) (by omega)]) (hash_solo h la Hh.out i hnl _ _ (hF.f5 hd5) ha HHA.out) ?_
              intro w' d1
              have hG := hF.below d1
              refine ⟨hG.bl, b4, b5, true, b11, b12, b13, b16, b17, b18, b19, b20, x4, x5, (.agg (bvs ha).toArray), x11, x12, x13, x16, x17, x18, x19, x20, rfl, ?_, ?_⟩
              · change Act.put _ (some 55) _ = _
                rw [put_over 16 55 _ _ (by decide), put_over 15 55 _ _ (by decide), put_over 14 55 _ _ (by decide), put_over 66 55 _ _ (by decide), put_over 65 55 _ _ (by decide), put_over 62 55 _ _ (by decide), put_over 61 55 _ _ (by decide), put_over 60 55 _ _ (by decide), put_again]
              · exact ⟨hG.f4, hG.d5_4, hG.f5, fun _ => hd5, fun _ => rfl, fun _ => rfl, hG.f11, hG.d12_11, hG.f12, hG.d13_12, hG.f13, hG.f16, hG.d17_13, hG.d17_16, hG.f17, hG.f18, hG.f19, hG.f20, hG.n1, hG.n2, hG.n3, hG.bl⟩
            · cases hun
            · cases hun
            · cases hun
            · cases hun
            · skip
              refine ⟨by decide, ?_⟩
              have hd6 : b6 = true := ready_deps hj [6] (by kernel_rfl) 6 (by simp)
              refine wpOp_of_wpG (i := 11) rfl (by rfl) ?_
              refine wp_append_copy (.const (.slice none 0 0)) (.tmp 59) rfl rfl w.heap.size A2' i c2 lb (by rw [eval_put_ne 16 59 _ (by decide), eval_put_ne 15 59 _ (by decide), eval_put_ne 14 59 _ (by decide), eval_put_ne 66 59 _ (by decide), eval_put_ne 65 59 _ (by decide), eval_put_ne 62 59 _ (by decide), eval_put_ne 61 59 _ (by decide), eval_put_ne 60 59 _ (by decide), eval_put_ne 55 59 _ (by decide), eval_put_ne 54 59 _ (by decide), eval_put_ne 53 59 _ (by decide)]; exact e59) (HQ.out _ (AW.out.b.trans (hF.bl.mono AW.out.b.size))).2 (by omega) ?_
              intro A' c' w' O1 L1 d1
              have hG := hF.below d1.out
              refine ⟨hG.bl, b4, b5, b6, true, b12, b13, b16, b17, b18, b19, b20, x4, x5, x6, (.slice A' i c'), x12, x13, x16, x17, x18, x19, x20, rfl, ?_, ?_⟩
              · change Act.put _ (some 60) _ = _
                rw [put_over 16 60 _ _ (by decide), put_over 15 60 _ _ (by decide), put_over 14 60 _ _ (by decide), put_over 66 60 _ _ (by decide), put_over 65 60 _ _ (by decide), put_over 62 60 _ _ (by decide), put_over 61 60 _ _ (by decide), put_again]
              · exact ⟨hG.f4, hG.d5_4, hG.f5, hG.d6_5, hG.f6, fun _ => hd6, fun _ => ⟨A', c', rfl, O1.out.sl, L1.out⟩, fun _ => rfl, hG.f12, hG.d13_12, hG.f13, hG.f16, hG.d17_13, hG.d17_16, hG.f17, hG.f18, hG.f19, hG.f20, hG.n1, hG.n2, hG.n3, hG.bl⟩
            · skip
              refine ⟨by decide, ?_⟩
              have hd11 : b11 = true := ready_deps hj [11] (by kernel_rfl) 11 (by simp)
              refine wpOp_of_wpG (i := 12) rfl (by rfl) ?_
              obtain ⟨A', c', rfl, hsl, hcc⟩ := hF.f11 hd11
              refine wp_solo (.tmp 60) rfl ⟨A', i, c', lb⟩ (by rw [eval_put_ne 16 60 _ (by decide), eval_put_ne 15 60 _ (by decide), eval_put_ne 14 60 _ (by decide), eval_put_ne 66 60 _ (by decide), eval_put_ne 65 60 _ (by decide), eval_put_ne 62 60 _ (by decide), eval_put_ne 61 60 _ (by decide), eval_put_eq 60 124 _ (by rw [size_put, size_put, size_put, hsz]) (by omega)]) ?_
              intro g w' eg T1 d1
              have hG := hF.below d1.out
              refine ⟨hG.bl, b4, b5, b6, b11, true, b13, b16, b17, b18, b19, b20, x4, x5, x6, (.slice A' i c'), (.slice (some ⟨g, 0, none⟩) 1 1), x13, x16, x17, x18, x19, x20, rfl, ?_, ?_⟩
              · change Act.put _ (some 61) _ = _
                rw [put_over 16 61 _ _ (by decide), put_over 15 61 _ _ (by decide), put_over 14 61 _ _ (by decide), put_over 66 61 _ _ (by decide), put_over 65 61 _ _ (by decide), put_over 62 61 _ _ (by decide), put_again]
              · exact ⟨hG.f4, hG.d5_4, hG.f5, hG.d6_5, hG.f6, hG.d11_6, hG.f11, fun _ => hd11, fun _ => pcs_solo eg.out T1.out d1.out hsl hcc rfl rfl, fun _ => rfl, hG.f13, hG.f16, hG.d17_13, hG.d17_16, hG.f17, hG.f18, hG.f19, hG.f20, hG.n1, hG.n2, hG.n3, hG.bl⟩
            · skip
              refine ⟨by decide, ?_⟩
              have hd12 : b12 = true := ready_deps hj [12] (by kernel_rfl) 12 (by simp)
              refine wpOp_of_wpG (i := 13) rfl (by rfl) ?_
              refine wp_hash_op (.tmp 56) (.tmp 61) rfl (.agg (bvs h).toArray) x12 (.agg (bvs hb).toArray) (by rw [eval_put_ne 16 56 _ (by decide), eval_put_ne 15 56 _ (by decide), eval_put_ne 14 56 _ (by decide), eval_put_ne 66 56 _ (by decide), eval_put_ne 65 56 _ (by decide), eval_put_ne 62 56 _ (by decide), eval_put_ne 61 56 _ (by decide), eval_put_ne 60 56 _ (by decide), eval_put_ne 55 56 _ (by decide), eval_put_ne 54 56 _ (by decide), eval_put_ne 53 56 _ (by decide)]; exact e56) (by rw [eval_put_ne 16 61 _ (by decide), eval_put_ne 15 61 _ (by decide), eval_put_ne 14 61 _ (by decide), eval_put_ne 66 61 _ (by decide), eval_put_ne 65 61 _ (by decide), eval_put_ne 62 61 _ (by decide), eval_put_eq 61 124 _ (by rw [size_put, size_put, size_put, size_put, hsz]) (by omega)]) (hash_solo h lb Hh.out i hnl _ _ (hF.f12 hd12) hb HHB.out) ?_
              intro w' d1
              have hG := hF.below d1
              refine ⟨hG.bl, b4, b5, b6, b11, b12, true, b16, b17, b18, b19, b20, x4, x5, x6, x11, x12, (.agg (bvs hb).toArray), x16, x17, x18, x19, x20, rfl, ?_, ?_⟩
              · change Act.put _ (some 62) _ = _
                rw [put_over 16 62 _ _ (by decide), put_over 15 62 _ _ (by decide), put_over 14 62 _ _ (by decide), put_over 66 62 _ _ (by decide), put_over 65 62 _ _ (by decide), put_again]
              · exact ⟨hG.f4, hG.d5_4, hG.f5, hG.d6_5, hG.f6, hG.d11_6, hG.f11, hG.d12_11, hG.f12, fun _ => hd12, fun _ => rfl, hG.f16, fun _ => rfl, hG.d17_16, hG.f17, hG.f18, hG.f19, hG.f20, hG.n1, hG.n2, hG.n3, hG.bl⟩
            · cases hun
            · cases hun
            · skip
              refine ⟨by decide, ?_⟩
              refine wpOp_of_wpG (i := 16) rfl (by rfl) ?_
              refine wp_solo (.tmp 64) rfl ⟨some ⟨w.heap.size + 1 + 1 + 1, 0, none⟩, i, i, lc⟩ (by rw [eval_put_ne 16 64 _ (by decide), eval_put_ne 15 64 _ (by decide), eval_put_ne 14 64 _ (by decide), eval_put_ne 66 64 _ (by decide), eval_put_ne 65 64 _ (by decide), eval_put_ne 62 64 _ (by decide), eval_put_ne 61 64 _ (by decide), eval_put_ne 60 64 _ (by decide), eval_put_ne 55 64 _ (by decide), eval_put_ne 54 64 _ (by decide), eval_put_ne 53 64 _ (by decide)]; exact e64) ?_
              intro g w' eg T1 d1
              have hG := hF.below d1.out
              refine ⟨hG.bl, b4, b5, b6, b11, b12, b13, true, b17, b18, b19, b20, x4, x5, x6, x11, x12, x13, (.slice (some ⟨g, 0, none⟩) 1 1), x17, x18, x19, x20, rfl, ?_, ?_⟩
              · change Act.put _ (some 65) _ = _
                rw [put_over 16 65 _ _ (by decide), put_over 15 65 _ _ (by decide), put_over 14 65 _ _ (by decide), put_over 66 65 _ _ (by decide), put_again]
              · exact ⟨hG.f4, hG.d5_4, hG.f5, hG.d6_5, hG.f6, hG.d11_6, hG.f11, hG.d12_11, hG.f12, hG.d13_12, hG.f13, fun _ => pcs_solo eg.out T1.out d1.out ((AW.out.c.below hF.bl).sl _ i (AW.out.c.below hF.bl).lt HLC.out) ⟨Nat.le_refl _, by show i ≤ maxLen; unfold maxLen; omega⟩ rfl rfl, hG.d17_13, fun _ => rfl, hG.f17, hG.f18, hG.f19, hG.f20, hG.n1, hG.n2, hG.n3, hG.bl⟩
            · skip
              refine ⟨by decide, ?_⟩
              have hd13 : b13 = true := ready_deps hj [13] (by kernel_rfl) 13 (by simp)
              have hd16 : b16 = true := ready_deps hj [16] (by kernel_rfl) 16 (by simp)
              refine wpOp_of_wpG (i := 17) rfl (by rfl) ?_
              refine wp_hash_op (.tmp 63) (.tmp 65) rfl (.agg (bvs h).toArray) x16 (.agg (bvs hc).toArray) (by rw [eval_put_ne 16 63 _ (by decide), eval_put_ne 15 63 _ (by decide), eval_put_ne 14 63 _ (by decide), eval_put_ne 66 63 _ (by decide), eval_put_ne 65 63 _ (by decide), eval_put_ne 62 63 _ (by decide), eval_put_ne 61 63 _ (by decide), eval_put_ne 60 63 _ (by decide), eval_put_ne 55 63 _ (by decide), eval_put_ne 54 63 _ (by decide), eval_put_ne 53 63 _ (by decide)]; exact e63) (by rw [eval_put_ne 16 65 _ (by decide), eval_put_ne 15 65 _ (by decide), eval_put_ne 14 65 _ (by decide), eval_put_ne 66 65 _ (by decide), eval_put_eq 65 124 _ (by rw [size_put, size_put, size_put, size_put, size_put, size_put, hsz]) (by omega)]) (hash_solo h lc Hh.out i hnl _ _ (hF.f16 hd16) hc HHC.out) ?_
              intro w' d1
              have hG := hF.below d1
              refine ⟨hG.bl, b4, b5, b6, b11, b12, b13, b16, true, b18, b19, b20, x4, x5, x6, x11, x12, x13, x16, (.agg (bvs hc).toArray), x18, x19, x20, rfl, ?_, ?_⟩
              · change Act.put _ (some 66) _ = _
                rw [put_over 16 66 _ _ (by decide), put_over 15 66 _ _ (by decide), put_over 14 66 _ _ (by decide), put_again]
              · exact ⟨hG.f4, hG.d5_4, hG.f5, hG.d6_5, hG.f6, hG.d11_6, hG.f11, hG.d12_11, hG.f12, hG.d13_12, hG.f13, hG.f16, fun _ => hd13, fun _ => hd16, fun _ => rfl, hG.f18, hG.f19, hG.f20, hG.n1, hG.n2, hG.n3, hG.bl⟩
            · skip
              refine ⟨by decide, ?_⟩
              refine wpOp_of_wpG (i := 18) rfl (by rfl) ?_
              refine wp_alloc_blk 22 rfl (List.replicate 16 0) zero16v ?_
              intro g w' eg Z1 d1
              have hG := hF.below d1.out
              refine ⟨hG.bl, b4, b5, b6, b11, b12, b13, b16, b17, true, b19, b20, x4, x5, x6, x11, x12, x13, x16, x17, (.pointer (some ⟨g, 0, none⟩)), x19, x20, rfl, ?_, ?_⟩
              · change Act.put _ (some 14) _ = _
                rw [put_over 16 14 _ _ (by decide), put_over 15 14 _ _ (by decide), put_again]
              · exact ⟨hG.f4, hG.d5_4, hG.f5, hG.d6_5, hG.f6, hG.d11_6, hG.f11, hG.d12_11, hG.f12, hG.d13_12, hG.f13, hG.f16, hG.d17_13, hG.d17_16, hG.f17, fun _ => ⟨g, rfl, Z1.out, by rw [eg.out]; exact hF.bl.size⟩, hG.f19, hG.f20, fun _ e => Ne.symm ((hF.f19 e).old eg.out), fun _ e => Ne.symm ((hF.f20 e).old eg.out), hG.n3, hG.bl⟩
            · skip
              refine ⟨by decide, ?_⟩
              refine wpOp_of_wpG (i := 19) rfl (by rfl) ?_
              refine wp_alloc_blk 22 rfl (List.replicate 16 0) zero16v ?_
              intro g w' eg Z1 d1
              have hG := hF.below d1.out
              refine ⟨hG.bl, b4, b5, b6, b11, b12, b13, b16, b17, b18, true, b20, x4, x5, x6, x11, x12, x13, x16, x17, x18, (.pointer (some ⟨g, 0, none⟩)), x20, rfl, ?_, ?_⟩
              · change Act.put _ (some 15) _ = _
                rw [put_over 16 15 _ _ (by decide), put_again]
              · exact ⟨hG.f4, hG.d5_4, hG.f5, hG.d6_5, hG.f6, hG.d11_6, hG.f11, hG.d12_11, hG.f12, hG.d13_12, hG.f13, hG.f16, hG.d17_13, hG.d17_16, hG.f17, hG.f18, fun _ => ⟨g, rfl, Z1.out, by rw [eg.out]; exact hF.bl.size⟩, hG.f20, fun e _ => (hF.f18 e).old eg.out, hG.n2, fun _ e => Ne.symm ((hF.f20 e).old eg.out), hG.bl⟩
            · skip
              refine ⟨by decide, ?_⟩
              refine wpOp_of_wpG (i := 20) rfl (by rfl) ?_
              refine wp_alloc_blk 22 rfl (List.replicate 16 0) zero16v ?_
              intro g w' eg Z1 d1
              have hG := hF.below d1.out
              refine ⟨hG.bl, b4, b5, b6, b11, b12, b13, b16, b17, b18, b19, true, x4, x5, x6, x11, x12, x13, x16, x17, x18, x19, (.pointer (some ⟨g, 0, none⟩)), rfl, ?_, ?_⟩
              · change Act.put _ (some 16) _ = _
                rw [put_again]
              · exact ⟨hG.f4, hG.d5_4, hG.f5, hG.d6_5, hG.f6, hG.d11_6, hG.f11, hG.d12_11, hG.f12, hG.d13_12, hG.f13, hG.f16, hG.d17_13, hG.d17_16, hG.f17, hG.f18, hG.f19, fun _ => ⟨g, rfl, Z1.out, by rw [eg.out]; exact hF.bl.size⟩, hG.n1, fun e _ => (hF.f18 e).old eg.out, fun e _ => (hF.f19 e).old eg.out, hG.bl⟩
            · skip
              exfalso
              have hd6 : b6 = true := ready_deps hj [6] (by kernel_rfl) 6 (by simp)
              have hd17 : b17 = true := ready_deps hj [17] (by kernel_rfl) 17 (by simp)
              have hd18 : b18 = true := ready_deps hj [18] (by kernel_rfl) 18 (by simp)
              have hd19 : b19 = true := ready_deps hj [19] (by kernel_rfl) 19 (by simp)
              have hd20 : b20 = true := ready_deps hj [20] (by kernel_rfl) 20 (by simp)
              have hd13 := hF.d17_13 hd17
              have hd16 := hF.d17_16 hd17
              have hd12 := hF.d13_12 hd13
              have hd11 := hF.d12_11 hd12
              have hd5 := hF.d6_5 hd6
              have hd4 := hF.d5_4 hd5
              exact hcnt (by rw [hd4, hd5, hd6, hd11, hd12, hd13, hd16, hd17, hd18, hd19, hd20]; kernel_rfl)
            · skip
              exact absurd (ready_deps hj [21] (by kernel_rfl) 21 (by simp)) (by simp)
            · skip
              exact absurd (ready_deps hj [22] (by kernel_rfl) 22 (by simp)) (by simp)
        · rintro _ _ u ⟨b4, b5, b6, b11, b12, b13, b16, b17, b18, b19, b20, x4, x5, x6, x11, x12, x13, x16, x17, x18, x19, x20, rfl, rfl, hF⟩ hcnt
          have h4 : b4 = true := by
            cases hb : b4
            · exact absurd hcnt (cnt_pos [4, 5, 6, 11, 12, 13, 16, 17, 18, 19, 20] _ 4 (by simp) (by rw [hb]; rfl))
            · rfl
          have h5 : b5 = true := by
            cases hb : b5
            · exact absurd hcnt (cnt_pos [4, 5, 6, 11, 12, 13, 16, 17, 18, 19, 20] _ 5 (by simp) (by rw [hb]; rfl))
            · rfl
          have h6 : b6 = true := by
            cases hb : b6
            · exact absurd hcnt (cnt_pos [4, 5, 6, 11, 12, 13, 16, 17, 18, 19, 20] _ 6 (by simp) (by rw [hb]; rfl))
            · rfl
          have h11 : b11 = true := by
            cases hb : b11
            · exact absurd hcnt (cnt_pos [4, 5, 6, 11, 12, 13, 16, 17, 18, 19, 20] _ 11 (by simp) (by rw [hb]; rfl))
            · rfl
          have h12 : b12 = true := by
            cases hb : b12
            · exact absurd hcnt (cnt_pos [4, 5, 6, 11, 12, 13, 16, 17, 18, 19, 20] _ 12 (by simp) (by rw [hb]; rfl))
            · rfl
          have h13 : b13 = true := by
            cases hb : b13
            · exact absurd hcnt (cnt_pos [4, 5, 6, 11, 12, 13, 16, 17, 18, 19, 20] _ 13 (by simp) (by rw [hb]; rfl))
            · rfl
          have h16 : b16 = true := by
            cases hb : b16
            · exact absurd hcnt (cnt_pos [4, 5, 6, 11, 12, 13, 16, 17, 18, 19, 20] _ 16 (by simp) (by rw [hb]; rfl))
            · rfl
          have h17 : b17 = true := by
            cases hb : b17
            · exact absurd hcnt (cnt_pos [4, 5, 6, 11, 12, 13, 16, 17, 18, 19, 20] _ 17 (by simp) (by rw [hb]; rfl))
            · rfl
          have h18 : b18 = true := by
            cases hb : b18
            · exact absurd hcnt (cnt_pos [4, 5, 6, 11, 12, 13, 16, 17, 18, 19, 20] _ 18 (by simp) (by rw [hb]; rfl))
            · rfl
          have h19 : b19 = true := by
            cases hb : b19
            · exact absurd hcnt (cnt_pos [4, 5, 6, 11, 12, 13, 16, 17, 18, 19, 20] _ 19 (by simp) (by rw [hb]; rfl))
            · rfl
          have h20 : b20 = true := by
            cases hb : b20
            · exact absurd hcnt (cnt_pos [4, 5, 6, 11, 12, 13, 16, 17, 18, 19, 20] _ 20 (by simp) (by rw [hb]; rfl))
            · rfl
          subst h4 h5 h6 h11 h12 h13 h16 h17 h18 h19 h20
          subst ha0
          have e6 := hF.f6 rfl
          have e13 := hF.f13 rfl
          have e17 := hF.f17 rfl
          subst e6 e13 e17
          obtain ⟨gA, eA, ZA, HGA⟩ := hF.f18 rfl
          obtain ⟨gB, eB, ZB, HGB⟩ := hF.f19 rfl
          obtain ⟨gC, eC, ZC, HGC⟩ := hF.f20 rfl
          have nAB : gA ≠ gB := fun e => hF.n1 rfl rfl (by rw [eA, eB, e])
          have nAC : gA ≠ gC := fun e => hF.n2 rfl rfl (by rw [eA, eC, e])
          have nBC : gB ≠ gC := fun e => hF.n3 rfl rfl (by rw [eB, eC, e])
          subst eA eB eC
          have b1 := Lib.hid hF.bl
          have NN : Hid (gA ≠ gB ∧ gA ≠ gC ∧ gB ≠ gC) := ⟨nAB, nAC, nBC⟩
          have HGs : Hid (w0.heap.size ≤ gA ∧ w0.heap.size ≤ gB ∧ w0.heap.size ≤ gC) := ⟨HGA, HGB, HGC⟩
          replace ZA := Lib.hid ZA
          replace ZB := Lib.hid ZB
          replace ZC := Lib.hid ZC
          clear hF hcnt nAB nAC nBC HGA HGB HGC
          go_simp
          refine wpAnyH_oneG 21 (by kernel_rfl) rfl (by rfl) ?_
          refine wp_store_blk 22 (.tmp 14) (.tmp 55) rfl gA ha (by with_unfolding_all rfl) (by with_unfolding_all rfl) 22 (List.replicate 16 0) ZA.out 16 sizeRow HAL.out rfl ?_
          intro v2 MA O2
          have b2 := Lib.hid (b1.out.trans (O2.out.below b1.out.size HGs.out.1))
          replace ZB := Lib.hid (ZB.out.only O2.out (Ne.symm NN.out.1))
          replace ZC := Lib.hid (ZC.out.only O2.out (Ne.symm NN.out.2.1))
          refine ⟨b2.out, ?_⟩
          go_simp
          refine wpAnyH_oneG 22 (by kernel_rfl) rfl (by rfl) ?_
          refine wp_store_blk 22 (.tmp 15) (.tmp 62) rfl gB hb (by with_unfolding_all rfl) (by with_unfolding_all rfl) 22 (List.replicate 16 0) ZB.out 16 sizeRow HBL.out rfl ?_
          intro v3 MB O3
          have b3 := Lib.hid (b2.out.trans (O3.out.below b2.out.size HGs.out.2.1))
          replace MA := Lib.hid (MA.out.only O3.out NN.out.1)
          replace ZC := Lib.hid (ZC.out.only O3.out (Ne.symm NN.out.2.2))
          refine ⟨b3.out, ?_⟩
          go_simp
          refine wpAnyH_oneG 23 (by kernel_rfl) rfl (by rfl) ?_
          refine wp_store_blk 22 (.tmp 16) (.tmp 66) rfl gC hc (by with_unfolding_all rfl) (by with_unfolding_all rfl) 22 (List.replicate 16 0) ZC.out 16 sizeRow HCL.out rfl ?_
          intro v4 MC O4
          have b4 := Lib.hid (b3.out.trans (O4.out.below b3.out.size HGs.out.2.2))
          replace MA := Lib.hid (MA.out.only O4.out NN.out.2.1)
          replace MB := Lib.hid (MB.out.only O4.out NN.out.2.2)
          refine ⟨b4.out, ?_⟩
          go_simp
          refine wpAnyH_done (by kernel_rfl) ?_ _
          go_wp2_with fail
          go_meet
          exact ⟨gA, gB, gC, rfl, rfl, rfl, by rw [← HZ.out]; exact HGs, MA, MB, MC, HU.out _ b4.out⟩
        · refine ⟨false, false, false, false, false, false, false, false, false, false, false, a0.tmps.getD 53 undef, a0.tmps.getD 54 undef, a0.tmps.getD 55 undef, a0.tmps.getD 60 undef, a0.tmps.getD 61 undef, a0.tmps.getD 62 undef, a0.tmps.getD 65 undef, a0.tmps.getD 66 undef, a0.tmps.getD 14 undef, a0.tmps.getD 15 undef, a0.tmps.getD 16 undef, rfl, ?_, ?_⟩
          · have hsz : a0.tmps.size = 124 := by rw [ha0]; rfl
            rw [put_self 53 124 hsz (by omega), put_self 54 124 hsz (by omega), put_self 55 124 hsz (by omega), put_self 60 124 hsz (by omega), put_self 61 124 hsz (by omega), put_self 62 124 hsz (by omega), put_self 65 124 hsz (by omega), put_self 66 124 hsz (by omega), put_self 14 124 hsz (by omega), put_self 15 124 hsz (by omega), put_self 16 124 hsz (by omega)]
          · exact ⟨(fun e => Bool.noConfusion e), (fun e => Bool.noConfusion e), (fun e => Bool.noConfusion e), (fun e => Bool.noConfusion e), (fun e => Bool.noConfusion e), (fun e => Bool.noConfusion e), (fun e => Bool.noConfusion e), (fun e => Bool.noConfusion e), (fun e => Bool.noConfusion e), (fun e => Bool.noConfusion e), (fun e => Bool.noConfusion e), (fun e => Bool.noConfusion e), (fun e => Bool.noConfusion e), (fun e => Bool.noConfusion e), (fun e => Bool.noConfusion e), (fun e => Bool.noConfusion e), (fun e => Bool.noConfusion e), (fun e => Bool.noConfusion e), (fun e => Bool.noConfusion e), (fun e => Bool.noConfusion e), (fun e => Bool.noConfusion e), Below.refl _ _⟩
      case rest =>
        obtain ⟨gA, gB, gC, rfl, rfl, rfl, HGs, PA, PB, PC, HBc⟩ := hcut
        have hlo : w.heap.size + 1 + 1 < gA ∧ w.heap.size + 1 + 1 < gB ∧ w.heap.size + 1 + 1 < gC := by have := AW.out.c.lt; have := HGs.out; omega
        have hhi : gA < wc.heap.size ∧ gB < wc.heap.size ∧ gC < wc.heap.size := ⟨PA.out.lt, PB.out.lt, PC.out.lt⟩
        replace AW := Lib.hid (AW.out.below HBc.out)
        clear HGs HBc
        go_upto_region 11 with fail
        have BW : ∀ o1 o2, Below wc.heap.size wc ((wc.alloc o1).alloc o2) := fun o1 o2 => ((Below.refl _ _).alloc (Nat.le_refl _) _).alloc (by simp) _
        refine wp_forget (fun w1 => AeW w w1 gA gB gC wc.heap.size h x y ha hb hc (List.replicate 16 0) (List.replicate 16 0)) ⟨AW.out.h.below (BW _ _), AW.out.x.below (BW _ _), AW.out.y.below (BW _ _), PA.out.below (BW _ _), PB.out.below (BW _ _), PC.out.below (BW _ _), heap_allocs wc [_, _] 0 _ (by rw [← zeros_bvs]; rfl), heap_allocs wc [_, _] 1 _ (by rw [← zeros_bvs]; rfl), AW.out.b.trans ((BW _ _).mono AW.out.b.size), hlo, hhi⟩ ?_
        intro wr1 h1
        have EW := Lib.hid h1
        clear h1 AW PA PB PC BW
        obtain ⟨gz, hgz⟩ : ∃ g, wc.heap.size = g := ⟨_, rfl⟩
        rw [hgz] at EW hhi ⊢
        clear hgz
        have HZr : Hid (gz + 1 < wr1.heap.size) := EW.out.k.lt
        go_cut [19, 20] from 67 to 123 (fun v19 v20 wx => ∃ gU gV : Nat, v19 = .pointer (some ⟨gU, 0, none⟩) ∧ v20 = .pointer (some ⟨gV, 0, none⟩) ∧ Hid (wr1.heap.size ≤ gU) ∧ Hid (wr1.heap.size ≤ gV) ∧ Hid (gU ≠ gV) ∧ Hid (Blk wx gU 22 tu) ∧ Hid (Blk wx gV 22 tv) ∧ Hid (Below wr1.heap.size wr1 wx))
        case first =>
          have HU : Hid (∀ u, Below wr1.drew.heap.size wr1.drew u → Below wr1.heap.size wr1 u) := fun u hu => ⟨hu.os, hu.tape, hu.output, hu.size, hu.block⟩
          have HZ : Hid (wr1.drew.heap.size = wr1.heap.size) := rfl
          refine wp_held (S := fun u => Below wr1.drew.heap.size wr1.drew u) (by kernel_rfl) ?_
          replace EW := Lib.hid EW.out.drew
          obtain ⟨w0, hw0⟩ : ∃ x, wr1.drew = x := ⟨_, rfl⟩
          rw [hw0] at EW HU HZ ⊢
          clear hw0
          have b0 : Below w0.heap.size w0 w0 := Below.refl _ _
          refine wpAnyH_pickG 0 (.agg (bvs x).toArray) rfl (by kernel_rfl) (by kernel_rfl) (by kernel_rfl) (by rfl) (fun _ _ _ h => h) (fun u hu => exec_load_blk u 22 (.tmp 6) rfl (w.heap.size + 1) (by with_unfolding_all rfl) 22 x (EW.out.x.below hu) 16 5 Try.underlying22 16 sizeRow Hx.out) b0 ?_
          go_simp
          refine wpAnyH_pickG 1 (.agg (bvs h).toArray) rfl (by kernel_rfl) (by kernel_rfl) (by kernel_rfl) (by rfl) (fun _ _ _ h => h) (fun u hu => exec_load_blk u 22 (.tmp 5) rfl w.heap.size (by with_unfolding_all rfl) 22 h (EW.out.h.below hu) 16 5 Try.underlying22 16 sizeRow Hh.out) b0 ?_
          go_simp
          refine wpAnyH_pickG 3 (.agg (bvs y).toArray) rfl (by kernel_rfl) (by kernel_rfl) (by kernel_rfl) (by rfl) (fun _ _ _ h => h) (fun u hu => exec_load_blk u 22 (.tmp 7) rfl (w.heap.size + 1 + 1) (by with_unfolding_all rfl) 22 y (EW.out.y.below hu) 16 5 Try.underlying22 16 sizeRow Hy.out) b0 ?_
          go_simp
          refine wpAnyH_pickG 4 (.agg (bvs h).toArray) rfl (by kernel_rfl) (by kernel_rfl) (by kernel_rfl) (by rfl) (fun _ _ _ h => h) (fun u hu => exec_load_blk u 22 (.tmp 5) rfl w.heap.size (by with_unfolding_all rfl) 22 h (EW.out.h.below hu) 16 5 Try.underlying22 16 sizeRow Hh.out) b0 ?_
          go_simp
          refine wpAnyH_threeG 2 6 7 (by kernel_rfl) rfl (by rfl) rfl (by rfl) rfl (by rfl) ?_ ?_ ?_
          · go_wp2_with fail
            (with_reducible refine (gtimes_any x h Hx.out Hh.out _).mono ?_)
            rintro e1 w1 ⟨rfl, c1⟩
            have b1 := b0.trans (c1.mono b0.size)
            refine ⟨b1, ?_⟩
            clear c1
            rw [HTU.out]
            refine wpAnyH_threeG 5 6 7 (by kernel_rfl) rfl (by rfl) rfl (by rfl) rfl (by rfl) ?_ ?_ ?_
            · go_wp2_with fail
              (with_reducible refine (gtimes_any y h Hy.out Hh.out _).mono ?_)
              rintro e2 w2 ⟨rfl, c2⟩
              have b2 := b1.trans (c2.mono b1.size)
              refine ⟨b2, ?_⟩
              clear c2
              rw [HTV.out]
              refine wpAnyH_twoG 6 7 (by kernel_rfl) rfl (by rfl) rfl (by rfl) ?_ ?_
              · refine wp_alloc_blk 22 rfl (List.replicate 16 0) zero16v ?_
                intro gA w3 eA ZA3 c3
                have b3 := b2.trans (c3.out.mono b2.size)
                have HGA : Hid (w0.heap.size ≤ gA) := show _ ≤ _ by rw [eA.out]; exact b2.size
                refine ⟨b3, ?_⟩
                clear c3 eA
                refine wpAnyH_oneG 7 (by kernel_rfl) rfl (by rfl) ?_
                refine wp_alloc_blk 22 rfl (List.replicate 16 0) zero16v ?_
                intro gB w4 eB ZB4 c4
                have b4 := b3.trans (c4.out.mono b3.size)
                have HGB : Hid (w0.heap.size ≤ gB) := show _ ≤ _ by rw [eB.out]; exact b3.size
                have ZA4 := Lib.hid (ZA3.out.below c4.out)
                have HNE : Hid (gA ≠ gB) := show _ ≠ _ by have := ZA3.out.lt; have := eB.out; omega
                refine ⟨b4, ?_⟩
                clear c4 eB
                refine wpAnyH_oneG 8 (by kernel_rfl) rfl (by rfl) ?_
                refine wp_store_blk 22 (.tmp 19) (.tmp 69) rfl gA (tu) (by with_unfolding_all rfl) (by with_unfolding_all rfl) 22 (List.replicate 16 0) ZA4.out 16 sizeRow HTUL.out rfl ?_
                intro w5 MA5 O5
                have b5 := b4.trans (O5.out.below b4.size HGA.out)
                have ZB5 := Lib.hid (ZB4.out.only O5.out (Ne.symm HNE.out))
                refine ⟨b5, ?_⟩
                refine wpAnyH_oneG 9 (by kernel_rfl) rfl (by rfl) ?_
                refine wp_store_blk 22 (.tmp 20) (.tmp 72) rfl gB (tv) (by with_unfolding_all rfl) (by with_unfolding_all rfl) 22 (List.replicate 16 0) ZB5.out 16 sizeRow HTVL.out rfl ?_
                intro w6 MB6 O6
                have b6 := b5.trans (O6.out.below b5.size HGB.out)
                have MA6 := Lib.hid (MA5.out.only O6.out HNE.out)
                refine ⟨b6, ?_⟩
                refine wpAnyH_done (by kernel_rfl) ?_ _
                go_wp2_with fail
                go_meet
                exact ⟨gA, gB, rfl, rfl, show _ ≤ _ by rw [← HZ.out]; exact HGA.out, show _ ≤ _ by rw [← HZ.out]; exact HGB.out, HNE, MA6, MB6, HU.out _ b6⟩
              · refine wp_alloc_blk 22 rfl (List.replicate 16 0) zero16v ?_
                intro gB w3 eB ZB3 c3
                have b3 := b2.trans (c3.out.mono b2.size)
                have HGB : Hid (w0.heap.size ≤ gB) := show _ ≤ _ by rw [eB.out]; exact b2.size
                refine ⟨b3, ?_⟩
                clear c3 eB
                refine wpAnyH_oneG 6 (by kernel_rfl) rfl (by rfl) ?_
                refine wp_alloc_blk 22 rfl (List.replicate 16 0) zero16v ?_
                intro gA w4 eA ZA4 c4
                have b4 := b3.trans (c4.out.mono b3.size)
                have HGA : Hid (w0.heap.size ≤ gA) := show _ ≤ _ by rw [eA.out]; exact b3.size
                have ZB4 := Lib.hid (ZB3.out.below c4.out)
                have HNE : Hid (gA ≠ gB) := show _ ≠ _ by have := ZB3.out.lt; have := eA.out; omega
                refine ⟨b4, ?_⟩
                clear c4 eA
                refine wpAnyH_oneG 8 (by kernel_rfl) rfl (by rfl) ?_
                refine wp_store_blk 22 (.tmp 19) (.tmp 69) rfl gA (tu) (by with_unfolding_all rfl) (by with_unfolding_all rfl) 22 (List.replicate 16 0) ZA4.out 16 sizeRow HTUL.out rfl ?_
                intro w5 MA5 O5
                have b5 := b4.trans (O5.out.below b4.size HGA.out)
                have ZB5 := Lib.hid (ZB4.out.only O5.out (Ne.symm HNE.out))
                refine ⟨b5, ?_⟩
                refine wpAnyH_oneG 9 (by kernel_rfl) rfl (by rfl) ?_
                refine wp_store_blk 22 (.tmp 20) (.tmp 72) rfl gB (tv) (by with_unfolding_all rfl) (by with_unfolding_all rfl) 22 (List.replicate 16 0) ZB5.out 16 sizeRow HTVL.out rfl ?_
                intro w6 MB6 O6
                have b6 := b5.trans (O6.out.below b5.size HGB.out)
                have MA6 := Lib.hid (MA5.out.only O6.out HNE.out)
                refine ⟨b6, ?_⟩
                refine wpAnyH_done (by kernel_rfl) ?_ _
                go_wp2_with fail
                go_meet
                exact ⟨gA, gB, rfl, rfl, show _ ≤ _ by rw [← HZ.out]; exact HGA.out, show _ ≤ _ by rw [← HZ.out]; exact HGB.out, HNE, MA6, MB6, HU.out _ b6⟩
            · refine wp_alloc_blk 22 rfl (List.replicate 16 0) zero16v ?_
              intro gA w2 eA ZA2 c2
              have b2 := b1.trans (c2.out.mono b1.size)
              have HGA : Hid (w0.heap.size ≤ gA) := show _ ≤ _ by rw [eA.out]; exact b1.size
              refine ⟨b2, ?_⟩
              clear c2 eA
              refine wpAnyH_twoG 5 7 (by kernel_rfl) rfl (by rfl) rfl (by rfl) ?_ ?_
              · go_wp2_with fail
                (with_reducible refine (gtimes_any y h Hy.out Hh.out _).mono ?_)
                rintro e3 w3 ⟨rfl, c3⟩
                have b3 := b2.trans (c3.mono b2.size)
                have ZA3 := Lib.hid (ZA2.out.below c3)
                refine ⟨b3, ?_⟩
                clear c3
                rw [HTV.out]
                refine wpAnyH_oneG 7 (by kernel_rfl) rfl (by rfl) ?_
                refine wp_alloc_blk 22 rfl (List.replicate 16 0) zero16v ?_
                intro gB w4 eB ZB4 c4
                have b4 := b3.trans (c4.out.mono b3.size)
                have HGB : Hid (w0.heap.size ≤ gB) := show _ ≤ _ by rw [eB.out]; exact b3.size
                have ZA4 := Lib.hid (ZA3.out.below c4.out)
                have HNE : Hid (gA ≠ gB) := show _ ≠ _ by have := ZA3.out.lt; have := eB.out; omega
                refine ⟨b4, ?_⟩
                clear c4 eB
                refine wpAnyH_oneG 8 (by kernel_rfl) rfl (by rfl) ?_
                refine wp_store_blk 22 (.tmp 19) (.tmp 69) rfl gA (tu) (by with_unfolding_all rfl) (by with_unfolding_all rfl) 22 (List.replicate 16 0) ZA4.out 16 sizeRow HTUL.out rfl ?_
                intro w5 MA5 O5
                have b5 := b4.trans (O5.out.below b4.size HGA.out)
                have ZB5 := Lib.hid (ZB4.out.only O5.out (Ne.symm HNE.out))
                refine ⟨b5, ?_⟩
                refine wpAnyH_oneG 9 (by kernel_rfl) rfl (by rfl) ?_
                refine wp_store_blk 22 (.tmp 20) (.tmp 72) rfl gB (tv) (by with_unfolding_all rfl) (by with_unfolding_all rfl) 22 (List.replicate 16 0) ZB5.out 16 sizeRow HTVL.out rfl ?_
                intro w6 MB6 O6
                have b6 := b5.trans (O6.out.below b5.size HGB.out)
                have MA6 := Lib.hid (MA5.out.only O6.out HNE.out)
                refine ⟨b6, ?_⟩
                refine wpAnyH_done (by kernel_rfl) ?_ _
                go_wp2_with fail
                go_meet
                exact ⟨gA, gB, rfl, rfl, show _ ≤ _ by rw [← HZ.out]; exact HGA.out, show _ ≤ _ by rw [← HZ.out]; exact HGB.out, HNE, MA6, MB6, HU.out _ b6⟩
              · refine wp_alloc_blk 22 rfl (List.replicate 16 0) zero16v ?_
                intro gB w3 eB ZB3 c3
                have b3 := b2.trans (c3.out.mono b2.size)
                have HGB : Hid (w0.heap.size ≤ gB) := show _ ≤ _ by rw [eB.out]; exact b2.size
                have ZA3 := Lib.hid (ZA2.out.below c3.out)
                have HNE : Hid (gA ≠ gB) := show _ ≠ _ by have := ZA2.out.lt; have := eB.out; omega
                refine ⟨b3, ?_⟩
                clear c3 eB
                refine wpAnyH_oneG 5 (by kernel_rfl) rfl (by rfl) ?_
                go_wp2_with fail
                (with_reducible refine (gtimes_any y h Hy.out Hh.out _).mono ?_)
                rintro e4 w4 ⟨rfl, c4⟩
                have b4 := b3.trans (c4.mono b3.size)
                have ZA4 := Lib.hid (ZA3.out.below c4)
                have ZB4 := Lib.hid (ZB3.out.below c4)
                refine ⟨b4, ?_⟩
                clear c4
                rw [HTV.out]
                refine wpAnyH_oneG 8 (by kernel_rfl) rfl (by rfl) ?_
                refine wp_store_blk 22 (.tmp 19) (.tmp 69) rfl gA (tu) (by with_unfolding_all rfl) (by with_unfolding_all rfl) 22 (List.replicate 16 0) ZA4.out 16 sizeRow HTUL.out rfl ?_
                intro w5 MA5 O5
                have b5 := b4.trans (O5.out.below b4.size HGA.out)
                have ZB5 := Lib.hid (ZB4.out.only O5.out (Ne.symm HNE.out))
                refine ⟨b5, ?_⟩
                refine wpAnyH_oneG 9 (by kernel_rfl) rfl (by rfl) ?_
                refine wp_store_blk 22 (.tmp 20) (.tmp 72) rfl gB (tv) (by with_unfolding_all rfl) (by with_unfolding_all rfl) 22 (List.replicate 16 0) ZB5.out 16 sizeRow HTVL.out rfl ?_
                intro w6 MB6 O6
                have b6 := b5.trans (O6.out.below b5.size HGB.out)
                have MA6 := Lib.hid (MA5.out.only O6.out HNE.out)
                refine ⟨b6, ?_⟩
                refine wpAnyH_done (by kernel_rfl) ?_ _
                go_wp2_with fail
                go_meet
                exact ⟨gA, gB, rfl, rfl, show _ ≤ _ by rw [← HZ.out]; exact HGA.out, show _ ≤ _ by rw [← HZ.out]; exact HGB.out, HNE, MA6, MB6, HU.out _ b6⟩
            · refine wp_alloc_blk 22 rfl (List.replicate 16 0) zero16v ?_
              intro gB w2 eB ZB2 c2
              have b2 := b1.trans (c2.out.mono b1.size)
              have HGB : Hid (w0.heap.size ≤ gB) := show _ ≤ _ by rw [eB.out]; exact b1.size
              refine ⟨b2, ?_⟩
              clear c2 eB
              refine wpAnyH_twoG 5 6 (by kernel_rfl) rfl (by rfl) rfl (by rfl) ?_ ?_
              · go_wp2_with fail
                (with_reducible refine (gtimes_any y h Hy.out Hh.out _).mono ?_)
                rintro e3 w3 ⟨rfl, c3⟩
                have b3 := b2.trans (c3.mono b2.size)
                have ZB3 := Lib.hid (ZB2.out.below c3)
                refine ⟨b3, ?_⟩
                clear c3
                rw [HTV.out]
                refine wpAnyH_oneG 6 (by kernel_rfl) rfl (by rfl) ?_
                refine wp_alloc_blk 22 rfl (List.replicate 16 0) zero16v ?_
                intro gA w4 eA ZA4 c4
                have b4 := b3.trans (c4.out.mono b3.size)
                have HGA : Hid (w0.heap.size ≤ gA) := show _ ≤ _ by rw [eA.out]; exact b3.size
                have ZB4 := Lib.hid (ZB3.out.below c4.out)
                have HNE : Hid (gA ≠ gB) := show _ ≠ _ by have := ZB3.out.lt; have := eA.out; omega
                refine ⟨b4, ?_⟩
                clear c4 eA
                refine wpAnyH_oneG 8 (by kernel_rfl) rfl (by rfl) ?_
                refine wp_store_blk 22 (.tmp 19) (.tmp 69) rfl gA (tu) (by with_unfolding_all rfl) (by with_unfolding_all rfl) 22 (List.replicate 16 0) ZA4.out 16 sizeRow HTUL.out rfl ?_
                intro w5 MA5 O5
                have b5 := b4.trans (O5.out.below b4.size HGA.out)
                have ZB5 := Lib.hid (ZB4.out.only O5.out (Ne.symm HNE.out))
                refine ⟨b5, ?_⟩
                refine wpAnyH_oneG 9 (by kernel_rfl) rfl (by rfl) ?_
                refine wp_store_blk 22 (.tmp 20) (.tmp 72) rfl gB (tv) (by with_unfolding_all rfl) (by with_unfolding_all rfl) 22 (List.replicate 16 0) ZB5.out 16 sizeRow HTVL.out rfl ?_
                intro w6 MB6 O6
                have b6 := b5.trans (O6.out.below b5.size HGB.out)
                have MA6 := Lib.hid (MA5.out.only O6.out HNE.out)
                refine ⟨b6, ?_⟩
                refine wpAnyH_done (by kernel_rfl) ?_ _
                go_wp2_with fail
                go_meet
                exact ⟨gA, gB, rfl, rfl, show _ ≤ _ by rw [← HZ.out]; exact HGA.out, show _ ≤ _ by rw [← HZ.out]; exact HGB.out, HNE, MA6, MB6, HU.out _ b6⟩
              · refine wp_alloc_blk 22 rfl (List.replicate 16 0) zero16v ?_
                intro gA w3 eA ZA3 c3
                have b3 := b2.trans (c3.out.mono b2.size)
                have HGA : Hid (w0.heap.size ≤ gA) := show _ ≤ _ by rw [eA.out]; exact b2.size
                have ZB3 := Lib.hid (ZB2.out.below c3.out)
                have HNE : Hid (gA ≠ gB) := show _ ≠ _ by have := ZB2.out.lt; have := eA.out; omega
                refine ⟨b3, ?_⟩
                clear c3 eA
                refine wpAnyH_oneG 5 (by kernel_rfl) rfl (by rfl) ?_
                go_wp2_with fail
                (with_reducible refine (gtimes_any y h Hy.out Hh.out _).mono ?_)
                rintro e4 w4 ⟨rfl, c4⟩
                have b4 := b3.trans (c4.mono b3.size)
                have ZB4 := Lib.hid (ZB3.out.below c4)
                have ZA4 := Lib.hid (ZA3.out.below c4)
                refine ⟨b4, ?_⟩
                clear c4
                rw [HTV.out]
                refine wpAnyH_oneG 8 (by kernel_rfl) rfl (by rfl) ?_
                refine wp_store_blk 22 (.tmp 19) (.tmp 69) rfl gA (tu) (by with_unfolding_all rfl) (by with_unfolding_all rfl) 22 (List.replicate 16 0) ZA4.out 16 sizeRow HTUL.out rfl ?_
                intro w5 MA5 O5
                have b5 := b4.trans (O5.out.below b4.size HGA.out)
                have ZB5 := Lib.hid (ZB4.out.only O5.out (Ne.symm HNE.out))
                refine ⟨b5, ?_⟩
                refine wpAnyH_oneG 9 (by kernel_rfl) rfl (by rfl) ?_
                refine wp_store_blk 22 (.tmp 20) (.tmp 72) rfl gB (tv) (by with_unfolding_all rfl) (by with_unfolding_all rfl) 22 (List.replicate 16 0) ZB5.out 16 sizeRow HTVL.out rfl ?_
                intro w6 MB6 O6
                have b6 := b5.trans (O6.out.below b5.size HGB.out)
                have MA6 := Lib.hid (MA5.out.only O6.out HNE.out)
                refine ⟨b6, ?_⟩
                refine wpAnyH_done (by kernel_rfl) ?_ _
                go_wp2_with fail
                go_meet
                exact ⟨gA, gB, rfl, rfl, show _ ≤ _ by rw [← HZ.out]; exact HGA.out, show _ ≤ _ by rw [← HZ.out]; exact HGB.out, HNE, MA6, MB6, HU.out _ b6⟩
          · refine wp_alloc_blk 22 rfl (List.replicate 16 0) zero16v ?_
            intro gA w1 eA ZA1 c1
            have b1 := b0.trans (c1.out.mono b0.size)
            have HGA : Hid (w0.heap.size ≤ gA) := show _ ≤ _ by rw [eA.out]; exact b0.size
            refine ⟨b1, ?_⟩
            clear c1 eA
            refine wpAnyH_twoG 2 7 (by kernel_rfl) rfl (by rfl) rfl (by rfl) ?_ ?_
            · go_wp2_with fail
              (with_reducible refine (gtimes_any x h Hx.out Hh.out _).mono ?_)
              rintro e2 w2 ⟨rfl, c2⟩
              have b2 := b1.trans (c2.mono b1.size)
              have ZA2 := Lib.hid (ZA1.out.below c2)
              refine ⟨b2, ?_⟩
              clear c2
              rw [HTU.out]
              refine wpAnyH_twoG 5 7 (by kernel_rfl) rfl (by rfl) rfl (by rfl) ?_ ?_
              · go_wp2_with fail
                (with_reducible refine (gtimes_any y h Hy.out Hh.out _).mono ?_)
                rintro e3 w3 ⟨rfl, c3⟩
                have b3 := b2.trans (c3.mono b2.size)
                have ZA3 := Lib.hid (ZA2.out.below c3)
                refine ⟨b3, ?_⟩
                clear c3
                rw [HTV.out]
                refine wpAnyH_oneG 7 (by kernel_rfl) rfl (by rfl) ?_
                refine wp_alloc_blk 22 rfl (List.replicate 16 0) zero16v ?_
                intro gB w4 eB ZB4 c4
                have b4 := b3.trans (c4.out.mono b3.size)
                have HGB : Hid (w0.heap.size ≤ gB) := show _ ≤ _ by rw [eB.out]; exact b3.size
                have ZA4 := Lib.hid (ZA3.out.below c4.out)
                have HNE : Hid (gA ≠ gB) := show _ ≠ _ by have := ZA3.out.lt; have := eB.out; omega
                refine ⟨b4, ?_⟩
                clear c4 eB
                refine wpAnyH_oneG 8 (by kernel_rfl) rfl (by rfl) ?_
                refine wp_store_blk 22 (.tmp 19) (.tmp 69) rfl gA (tu) (by with_unfolding_all rfl) (by with_unfolding_all rfl) 22 (List.replicate 16 0) ZA4.out 16 sizeRow HTUL.out rfl ?_
                intro w5 MA5 O5
                have b5 := b4.trans (O5.out.below b4.size HGA.out)
                have ZB5 := Lib.hid (ZB4.out.only O5.out (Ne.symm HNE.out))
                refine ⟨b5, ?_⟩
                refine wpAnyH_oneG 9 (by kernel_rfl) rfl (by rfl) ?_
                refine wp_store_blk 22 (.tmp 20) (.tmp 72) rfl gB (tv) (by with_unfolding_all rfl) (by with_unfolding_all rfl) 22 (List.replicate 16 0) ZB5.out 16 sizeRow HTVL.out rfl ?_
                intro w6 MB6 O6
                have b6 := b5.trans (O6.out.below b5.size HGB.out)
                have MA6 := Lib.hid (MA5.out.only O6.out HNE.out)
                refine ⟨b6, ?_⟩
                refine wpAnyH_done (by kernel_rfl) ?_ _
                go_wp2_with fail
                go_meet
                exact ⟨gA, gB, rfl, rfl, show _ ≤ _ by rw [← HZ.out]; exact HGA.out, show _ ≤ _ by rw [← HZ.out]; exact HGB.out, HNE, MA6, MB6, HU.out _ b6⟩
              · refine wp_alloc_blk 22 rfl (List.replicate 16 0) zero16v ?_
                intro gB w3 eB ZB3 c3
                have b3 := b2.trans (c3.out.mono b2.size)
                have HGB : Hid (w0.heap.size ≤ gB) := show _ ≤ _ by rw [eB.out]; exact b2.size
                have ZA3 := Lib.hid (ZA2.out.below c3.out)
                have HNE : Hid (gA ≠ gB) := show _ ≠ _ by have := ZA2.out.lt; have := eB.out; omega
                refine ⟨b3, ?_⟩
                clear c3 eB
                refine wpAnyH_oneG 5 (by kernel_rfl) rfl (by rfl) ?_
                go_wp2_with fail
                (with_reducible refine (gtimes_any y h Hy.out Hh.out _).mono ?_)
                rintro e4 w4 ⟨rfl, c4⟩
                have b4 := b3.trans (c4.mono b3.size)
                have ZA4 := Lib.hid (ZA3.out.below c4)
                have ZB4 := Lib.hid (ZB3.out.below c4)
                refine ⟨b4, ?_⟩
                clear c4
                rw [HTV.out]
                refine wpAnyH_oneG 8 (by kernel_rfl) rfl (by rfl) ?_
                refine wp_store_blk 22 (.tmp 19) (.tmp 69) rfl gA (tu) (by with_unfolding_all rfl) (by with_unfolding_all rfl) 22 (List.replicate 16 0) ZA4.out 16 sizeRow HTUL.out rfl ?_
                intro w5 MA5 O5
                have b5 := b4.trans (O5.out.below b4.size HGA.out)
                have ZB5 := Lib.hid (ZB4.out.only O5.out (Ne.symm HNE.out))
                refine ⟨b5, ?_⟩
                refine wpAnyH_oneG 9 (by kernel_rfl) rfl (by rfl) ?_
                refine wp_store_blk 22 (.tmp 20) (.tmp 72) rfl gB (tv) (by with_unfolding_all rfl) (by with_unfolding_all rfl) 22 (List.replicate 16 0) ZB5.out 16 sizeRow HTVL.out rfl ?_
                intro w6 MB6 O6
                have b6 := b5.trans (O6.out.below b5.size HGB.out)
                have MA6 := Lib.hid (MA5.out.only O6.out HNE.out)
                refine ⟨b6, ?_⟩
                refine wpAnyH_done (by kernel_rfl) ?_ _
                go_wp2_with fail
                go_meet
                exact ⟨gA, gB, rfl, rfl, show _ ≤ _ by rw [← HZ.out]; exact HGA.out, show _ ≤ _ by rw [← HZ.out]; exact HGB.out, HNE, MA6, MB6, HU.out _ b6⟩
            · refine wp_alloc_blk 22 rfl (List.replicate 16 0) zero16v ?_
              intro gB w2 eB ZB2 c2
              have b2 := b1.trans (c2.out.mono b1.size)
              have HGB : Hid (w0.heap.size ≤ gB) := show _ ≤ _ by rw [eB.out]; exact b1.size
              have ZA2 := Lib.hid (ZA1.out.below c2.out)
              have HNE : Hid (gA ≠ gB) := show _ ≠ _ by have := ZA1.out.lt; have := eB.out; omega
              refine ⟨b2, ?_⟩
              clear c2 eB
              refine wpAnyH_oneG 2 (by kernel_rfl) rfl (by rfl) ?_
              go_wp2_with fail
              (with_reducible refine (gtimes_any x h Hx.out Hh.out _).mono ?_)
              rintro e3 w3 ⟨rfl, c3⟩
              have b3 := b2.trans (c3.mono b2.size)
              have ZA3 := Lib.hid (ZA2.out.below c3)
              have ZB3 := Lib.hid (ZB2.out.below c3)
              refine ⟨b3, ?_⟩
              clear c3
              rw [HTU.out]
              refine wpAnyH_oneG 5 (by kernel_rfl) rfl (by rfl) ?_
              go_wp2_with fail
              (with_reducible refine (gtimes_any y h Hy.out Hh.out _).mono ?_)
              rintro e4 w4 ⟨rfl, c4⟩
              have b4 := b3.trans (c4.mono b3.size)
              have ZA4 := Lib.hid (ZA3.out.below c4)
              have ZB4 := Lib.hid (ZB3.out.below c4)
              refine ⟨b4, ?_⟩
              clear c4
              rw [HTV.out]
              refine wpAnyH_oneG 8 (by kernel_rfl) rfl (by rfl) ?_
              refine wp_store_blk 22 (.tmp 19) (.tmp 69) rfl gA (tu) (by with_unfolding_all rfl) (by with_unfolding_all rfl) 22 (List.replicate 16 0) ZA4.out 16 sizeRow HTUL.out rfl ?_
              intro w5 MA5 O5
              have b5 := b4.trans (O5.out.below b4.size HGA.out)
              have ZB5 := Lib.hid (ZB4.out.only O5.out (Ne.symm HNE.out))
              refine ⟨b5, ?_⟩
              refine wpAnyH_oneG 9 (by kernel_rfl) rfl (by rfl) ?_
              refine wp_store_blk 22 (.tmp 20) (.tmp 72) rfl gB (tv) (by with_unfolding_all rfl) (by with_unfolding_all rfl) 22 (List.replicate 16 0) ZB5.out 16 sizeRow HTVL.out rfl ?_
              intro w6 MB6 O6
              have b6 := b5.trans (O6.out.below b5.size HGB.out)
              have MA6 := Lib.hid (MA5.out.only O6.out HNE.out)
              refine ⟨b6, ?_⟩
              refine wpAnyH_done (by kernel_rfl) ?_ _
              go_wp2_with fail
              go_meet
              exact ⟨gA, gB, rfl, rfl, show _ ≤ _ by rw [← HZ.out]; exact HGA.out, show _ ≤ _ by rw [← HZ.out]; exact HGB.out, HNE, MA6, MB6, HU.out _ b6⟩
          · refine wp_alloc_blk 22 rfl (List.replicate 16 0) zero16v ?_
            intro gB w1 eB ZB1 c1
            have b1 := b0.trans (c1.out.mono b0.size)
            have HGB : Hid (w0.heap.size ≤ gB) := show _ ≤ _ by rw [eB.out]; exact b0.size
            refine ⟨b1, ?_⟩
            clear c1 eB
            refine wpAnyH_twoG 2 6 (by kernel_rfl) rfl (by rfl) rfl (by rfl) ?_ ?_
            · go_wp2_with fail
              (with_reducible refine (gtimes_any x h Hx.out Hh.out _).mono ?_)
              rintro e2 w2 ⟨rfl, c2⟩
              have b2 := b1.trans (c2.mono b1.size)
              have ZB2 := Lib.hid (ZB1.out.below c2)
              refine ⟨b2, ?_⟩
              clear c2
              rw [HTU.out]
              refine wpAnyH_twoG 5 6 (by kernel_rfl) rfl (by rfl) rfl (by rfl) ?_ ?_
              · go_wp2_with fail
                (with_reducible refine (gtimes_any y h Hy.out Hh.out _).mono ?_)
                rintro e3 w3 ⟨rfl, c3⟩
                have b3 := b2.trans (c3.mono b2.size)
                have ZB3 := Lib.hid (ZB2.out.below c3)
                refine ⟨b3, ?_⟩
                clear c3
                rw [HTV.out]
                refine wpAnyH_oneG 6 (by kernel_rfl) rfl (by rfl) ?_
                refine wp_alloc_blk 22 rfl (List.replicate 16 0) zero16v ?_
                intro gA w4 eA ZA4 c4
                have b4 := b3.trans (c4.out.mono b3.size)
                have HGA : Hid (w0.heap.size ≤ gA) := show _ ≤ _ by rw [eA.out]; exact b3.size
                have ZB4 := Lib.hid (ZB3.out.below c4.out)
                have HNE : Hid (gA ≠ gB) := show _ ≠ _ by have := ZB3.out.lt; have := eA.out; omega
                refine ⟨b4, ?_⟩
                clear c4 eA
                refine wpAnyH_oneG 8 (by kernel_rfl) rfl (by rfl) ?_
                refine wp_store_blk 22 (.tmp 19) (.tmp 69) rfl gA (tu) (by with_unfolding_all rfl) (by with_unfolding_all rfl) 22 (List.replicate 16 0) ZA4.out 16 sizeRow HTUL.out rfl ?_
                intro w5 MA5 O5
                have b5 := b4.trans (O5.out.below b4.size HGA.out)
                have ZB5 := Lib.hid (ZB4.out.only O5.out (Ne.symm HNE.out))
                refine ⟨b5, ?_⟩
                refine wpAnyH_oneG 9 (by kernel_rfl) rfl (by rfl) ?_
                refine wp_store_blk 22 (.tmp 20) (.tmp 72) rfl gB (tv) (by with_unfolding_all rfl) (by with_unfolding_all rfl) 22 (List.replicate 16 0) ZB5.out 16 sizeRow HTVL.out rfl ?_
                intro w6 MB6 O6
                have b6 := b5.trans (O6.out.below b5.size HGB.out)
                have MA6 := Lib.hid (MA5.out.only O6.out HNE.out)
                refine ⟨b6, ?_⟩
                refine wpAnyH_done (by kernel_rfl) ?_ _
                go_wp2_with fail
                go_meet
                exact ⟨gA, gB, rfl, rfl, show _ ≤ _ by rw [← HZ.out]; exact HGA.out, show _ ≤ _ by rw [← HZ.out]; exact HGB.out, HNE, MA6, MB6, HU.out _ b6⟩
              · refine wp_alloc_blk 22 rfl (List.replicate 16 0) zero16v ?_
                intro gA w3 eA ZA3 c3
                have b3 := b2.trans (c3.out.mono b2.size)
                have HGA : Hid (w0.heap.size ≤ gA) := show _ ≤ _ by rw [eA.out]; exact b2.size
                have ZB3 := Lib.hid (ZB2.out.below c3.out)
                have HNE : Hid (gA ≠ gB) := show _ ≠ _ by have := ZB2.out.lt; have := eA.out; omega
                refine ⟨b3, ?_⟩
                clear c3 eA
                refine wpAnyH_oneG 5 (by kernel_rfl) rfl (by rfl) ?_
                go_wp2_with fail
                (with_reducible refine (gtimes_any y h Hy.out Hh.out _).mono ?_)
                rintro e4 w4 ⟨rfl, c4⟩
                have b4 := b3.trans (c4.mono b3.size)
                have ZB4 := Lib.hid (ZB3.out.below c4)
                have ZA4 := Lib.hid (ZA3.out.below c4)
                refine ⟨b4, ?_⟩
                clear c4
                rw [HTV.out]
                refine wpAnyH_oneG 8 (by kernel_rfl) rfl (by rfl) ?_
                refine wp_store_blk 22 (.tmp 19) (.tmp 69) rfl gA (tu) (by with_unfolding_all rfl) (by with_unfolding_all rfl) 22 (List.replicate 16 0) ZA4.out 16 sizeRow HTUL.out rfl ?_
                intro w5 MA5 O5
                have b5 := b4.trans (O5.out.below b4.size HGA.out)
                have ZB5 := Lib.hid (ZB4.out.only O5.out (Ne.symm HNE.out))
                refine ⟨b5, ?_⟩
                refine wpAnyH_oneG 9 (by kernel_rfl) rfl (by rfl) ?_
                refine wp_store_blk 22 (.tmp 20) (.tmp 72) rfl gB (tv) (by with_unfolding_all rfl) (by with_unfolding_all rfl) 22 (List.replicate 16 0) ZB5.out 16 sizeRow HTVL.out rfl ?_
                intro w6 MB6 O6
                have b6 := b5.trans (O6.out.below b5.size HGB.out)
                have MA6 := Lib.hid (MA5.out.only O6.out HNE.out)
                refine ⟨b6, ?_⟩
                refine wpAnyH_done (by kernel_rfl) ?_ _
                go_wp2_with fail
                go_meet
                exact ⟨gA, gB, rfl, rfl, show _ ≤ _ by rw [← HZ.out]; exact HGA.out, show _ ≤ _ by rw [← HZ.out]; exact HGB.out, HNE, MA6, MB6, HU.out _ b6⟩
            · refine wp_alloc_blk 22 rfl (List.replicate 16 0) zero16v ?_
              intro gA w2 eA ZA2 c2
              have b2 := b1.trans (c2.out.mono b1.size)
              have HGA : Hid (w0.heap.size ≤ gA) := show _ ≤ _ by rw [eA.out]; exact b1.size
              have ZB2 := Lib.hid (ZB1.out.below c2.out)
              have HNE : Hid (gA ≠ gB) := show _ ≠ _ by have := ZB1.out.lt; have := eA.out; omega
              refine ⟨b2, ?_⟩
              clear c2 eA
              refine wpAnyH_oneG 2 (by kernel_rfl) rfl (by rfl) ?_
              go_wp2_with fail
              (with_reducible refine (gtimes_any x h Hx.out Hh.out _).mono ?_)
              rintro e3 w3 ⟨rfl, c3⟩
              have b3 := b2.trans (c3.mono b2.size)
              have ZB3 := Lib.hid (ZB2.out.below c3)
              have ZA3 := Lib.hid (ZA2.out.below c3)
              refine ⟨b3, ?_⟩
              clear c3
              rw [HTU.out]
              refine wpAnyH_oneG 5 (by kernel_rfl) rfl (by rfl) ?_
              go_wp2_with fail
              (with_reducible refine (gtimes_any y h Hy.out Hh.out _).mono ?_)
              rintro e4 w4 ⟨rfl, c4⟩
              have b4 := b3.trans (c4.mono b3.size)
              have ZB4 := Lib.hid (ZB3.out.below c4)
              have ZA4 := Lib.hid (ZA3.out.below c4)
              refine ⟨b4, ?_⟩
              clear c4
              rw [HTV.out]
              refine wpAnyH_oneG 8 (by kernel_rfl) rfl (by rfl) ?_
              refine wp_store_blk 22 (.tmp 19) (.tmp 69) rfl gA (tu) (by with_unfolding_all rfl) (by with_unfolding_all rfl) 22 (List.replicate 16 0) ZA4.out 16 sizeRow HTUL.out rfl ?_
              intro w5 MA5 O5
              have b5 := b4.trans (O5.out.below b4.size HGA.out)
              have ZB5 := Lib.hid (ZB4.out.only O5.out (Ne.symm HNE.out))
              refine ⟨b5, ?_⟩
              refine wpAnyH_oneG 9 (by kernel_rfl) rfl (by rfl) ?_
              refine wp_store_blk 22 (.tmp 20) (.tmp 72) rfl gB (tv) (by with_unfolding_all rfl) (by with_unfolding_all rfl) 22 (List.replicate 16 0) ZB5.out 16 sizeRow HTVL.out rfl ?_
              intro w6 MB6 O6
              have b6 := b5.trans (O6.out.below b5.size HGB.out)
              have MA6 := Lib.hid (MA5.out.only O6.out HNE.out)
              refine ⟨b6, ?_⟩
              refine wpAnyH_done (by kernel_rfl) ?_ _
              go_wp2_with fail
              go_meet
              exact ⟨gA, gB, rfl, rfl, show _ ≤ _ by rw [← HZ.out]; exact HGA.out, show _ ≤ _ by rw [← HZ.out]; exact HGB.out, HNE, MA6, MB6, HU.out _ b6⟩
        case rest =>
          obtain ⟨gU, gV, rfl, rfl, HGU, HGV, HUV, SU, SV, HBd⟩ := hcut
          replace EW := Lib.hid (EW.out.below HBd.out)
          have hgU : gz + 1 < gU := Nat.lt_of_lt_of_le HZr.out HGU.out
          have hgV : gz + 1 < gV := Nat.lt_of_lt_of_le HZr.out HGV.out
          have hUV : gU ≠ gV := HUV.out
          clear HGU HGV HBd HZr HUV
          go_wp2_with fail
          go_loopw [21] (fun v21 wi => ∃ t : Nat, t ≤ 16 ∧ v21 = .int .i64 t ∧ Hid (AeW w wi gA gB gC gz h x y ha hb hc (mixr hc (List.replicate 16 0) t) (mixr kc (List.replicate 16 0) t)) ∧ Hid (Blk wi gU 22 (mixr uc tu t)) ∧ Hid (Blk wi gV 22 tv)) (fun v21 _ => 16 - (intOf v21).toNat)
          case atStart => exact ⟨0, by omega, rfl, by rw [mixr_zero, mixr_zero]; exact EW, by rw [mixr_zero]; exact SU, SV⟩
          case round =>
            clear EW SU SV
            obtain ⟨t, ht, rfl, EW, SU, SV⟩ := hrel
            by_cases hlt : t < 16
            · have hxl := Hx.out
              have hyl := Hy.out
              have hal := HAL.out
              have hbl := HBL.out
              have hcl := HCL.out
              have hkl := HKL.out
              have hul := HUL.out
              have htul := HTUL.out
              have htvl := HTVL.out
              obtain ⟨q1, e1⟩ : ∃ v, ha.getD t 0 = v := ⟨_, rfl⟩
              obtain ⟨q2, e2⟩ : ∃ v, hb.getD t 0 = v := ⟨_, rfl⟩
              obtain ⟨q3, e3⟩ : ∃ v, x.getD t 0 = v := ⟨_, rfl⟩
              obtain ⟨q4, e4⟩ : ∃ v, y.getD t 0 = v := ⟨_, rfl⟩
              obtain ⟨q5, e5⟩ : ∃ v, tu.getD t 0 = v := ⟨_, rfl⟩
              obtain ⟨q6, e6⟩ : ∃ v, tv.getD t 0 = v := ⟨_, rfl⟩
              have HC1 : Hid (∀ u, Blk u gA 22 ha → u.cell? ⟨gA, t, none⟩ = some (.int .u8 (bn q1))) := fun u hu => by rw [hu.cell t (by omega), e1]
              have HC2 : Hid (∀ u, Blk u gB 22 hb → u.cell? ⟨gB, t, none⟩ = some (.int .u8 (bn q2))) := fun u hu => by rw [hu.cell t (by omega), e2]
              have HC3 : Hid (∀ u, Blk u (w.heap.size + 1) 22 x → u.cell? ⟨w.heap.size + 1, t, none⟩ = some (.int .u8 (bn q3))) := fun u hu => by rw [hu.cell t (by omega), e3]
              have HC4 : Hid (∀ u, Blk u (w.heap.size + 1 + 1) 22 y → u.cell? ⟨w.heap.size + 1 + 1, t, none⟩ = some (.int .u8 (bn q4))) := fun u hu => by rw [hu.cell t (by omega), e4]
              have HLz : Hid ((mixr hc (List.replicate 16 0) t).length = 16) := show _ = _ by rw [mixr_length _ _ _ (by simp [hcl])]; simp
              have HLk : Hid ((mixr kc (List.replicate 16 0) t).length = 16) := show _ = _ by rw [mixr_length _ _ _ (by simp [hkl])]; simp
              have HLu : Hid ((mixr uc tu t).length = 16) := show _ = _ by rw [mixr_length _ _ _ (by omega)]; exact htul
              have HC5 : Hid (∀ u, Blk u gU 22 (mixr uc tu t) → u.cell? ⟨gU, t, none⟩ = some (.int .u8 (bn q5))) := fun u hu => by rw [hu.cell t (by rw [HLu.out]; omega), mixr_old _ _ _ _ (by omega) (by omega) (Nat.le_refl _), e5]
              have HC6 : Hid (∀ u, Blk u gV 22 tv → u.cell? ⟨gV, t, none⟩ = some (.int .u8 (bn q6))) := fun u hu => by rw [hu.cell t (by omega), e6]
              have HNz : Hid ((mixr hc (List.replicate 16 0) t).set t (q1 ^^^ q2) = mixr hc (List.replicate 16 0) (t + 1)) := show _ = _ by
                rw [← e1, ← e2, ← HZG.out t]
                exact mixr_set _ _ _ (by simp [hcl]) (by simpa using hlt)
              have HNk : Hid ((mixr kc (List.replicate 16 0) t).set t (q3 ^^^ q4) = mixr kc (List.replicate 16 0) (t + 1)) := show _ = _ by
                rw [← e3, ← e4, ← HKG.out t]
                exact mixr_set _ _ _ (by simp [hkl]) (by simpa using hlt)
              have HNu : Hid ((mixr uc tu t).set t (q5 ^^^ q6) = mixr uc tu (t + 1)) := show _ = _ by
                rw [← e5, ← e6, ← HUG.out t]
                exact mixr_set _ _ _ (by omega) (by omega)
              have li : (t : Int) < 16 := by omega
              clear hxl hyl hal hbl hcl hkl hul htul htvl e1 e2 e3 e4 e5 e6
              go_wp2_with fail
              have F1 := Lib.hid EW.out.drew
              have U1 := Lib.hid SU.out.drew
              have V1 := Lib.hid SV.out.drew
              obtain ⟨w0, hw0⟩ : ∃ v, wr.drew = v := ⟨_, rfl⟩
              refine wp_held (S := fun u => Blk u gA 22 ha ∧ Blk u gB 22 hb ∧ Blk u (w.heap.size + 1) 22 x ∧ Blk u (w.heap.size + 1 + 1) 22 y) (by kernel_rfl) ?_
              rw [hw0] at F1 U1 V1 ⊢
              clear hw0
              have hS : Blk w0 gA 22 ha ∧ Blk w0 gB 22 hb ∧ Blk w0 (w.heap.size + 1) 22 x ∧ Blk w0 (w.heap.size + 1 + 1) 22 y := ⟨F1.out.pa, F1.out.pb, F1.out.x, F1.out.y⟩
              refine wpAnyH_take (i := 0) (v := ?_) rfl (by kernel_rfl) (by kernel_rfl) (by kernel_rfl) (fun _ _ _ h => h) (Or.inl ⟨by rfl, ?_⟩) hS ?_
              rotate_left 1
              · intro u hu
                go_simp
                first | done | with_reducible rfl
              go_simp
              refine wpAnyH_take (i := 1) (v := ?_) rfl (by kernel_rfl) (by kernel_rfl) (by kernel_rfl) (fun _ _ _ h => h) (Or.inl ⟨by rfl, ?_⟩) hS ?_
              rotate_left 1
              · intro u hu
                go_simp
                first | done | with_reducible rfl
              go_simp
              refine wpAnyH_take (i := 2) (v := ?_) rfl (by kernel_rfl) (by kernel_rfl) (by kernel_rfl) (fun _ _ _ h => h) (Or.inl ⟨by rfl, ?_⟩) hS ?_
              rotate_left 1
              · intro u hu
                go_simp
                first | done | with_reducible rfl
              go_simp
              refine wpAnyH_take (i := 3) (v := ?_) rfl (by kernel_rfl) (by kernel_rfl) (by kernel_rfl) (fun _ _ _ h => h) (Or.inl ⟨by rfl, ?_⟩) hS ?_
              rotate_left 1
              · intro u hu
                go_simp
                first | done | with_reducible rfl
              go_simp
              refine wpAnyH_take (i := 4) (v := ?_) rfl (by kernel_rfl) (by kernel_rfl) (by kernel_rfl) (fun _ _ _ h => h) (Or.inl ⟨by rfl, ?_⟩) hS ?_
              rotate_left 1
              · intro u hu
                have hc := HC1.out u hu.1
                go_simp
                first | done | with_reducible rfl
              go_simp
              refine wpAnyH_take (i := 5) (v := ?_) rfl (by kernel_rfl) (by kernel_rfl) (by kernel_rfl) (fun _ _ _ h => h) (Or.inl ⟨by rfl, ?_⟩) hS ?_
              rotate_left 1
              · intro u hu
                go_simp
                first | done | with_reducible rfl
              go_simp
              refine wpAnyH_take (i := 6) (v := ?_) rfl (by kernel_rfl) (by kernel_rfl) (by kernel_rfl) (fun _ _ _ h => h) (Or.inl ⟨by rfl, ?_⟩) hS ?_
              rotate_left 1
              · intro u hu
                go_simp
                first | done | with_reducible rfl
              go_simp
              refine wpAnyH_take (i := 7) (v := ?_) rfl (by kernel_rfl) (by kernel_rfl) (by kernel_rfl) (fun _ _ _ h => h) (Or.inl ⟨by rfl, ?_⟩) hS ?_
              rotate_left 1
              · intro u hu
                have hc := HC2.out u hu.2.1
                go_simp
                first | done | with_reducible rfl
              go_simp
              refine wpAnyH_take (i := 8) (v := ?_) rfl (by kernel_rfl) (by kernel_rfl) (by kernel_rfl) (fun _ _ _ h => h) (Or.inl ⟨by rfl, ?_⟩) hS ?_
              rotate_left 1
              · intro u hu
                go_simp
                first | done | with_reducible rfl
              go_simp
              refine wpAnyH_take (i := 9) (v := ?_) rfl (by kernel_rfl) (by kernel_rfl) (by kernel_rfl) (fun _ _ _ h => h) (Or.inl ⟨by rfl, ?_⟩) hS ?_
              rotate_left 1
              · intro u hu
                go_simp
                first | done | with_reducible rfl
              go_simp
              refine wpAnyH_take (i := 10) (v := ?_) rfl (by kernel_rfl) (by kernel_rfl) (by kernel_rfl) (fun _ _ _ h => h) (Or.inl ⟨by rfl, ?_⟩) hS ?_
              rotate_left 1
              · intro u hu
                go_simp
                first | done | with_reducible rfl
              go_simp
              refine wpAnyH_take (i := 11) (v := ?_) rfl (by kernel_rfl) (by kernel_rfl) (by kernel_rfl) (fun _ _ _ h => h) (Or.inl ⟨by rfl, ?_⟩) hS ?_
              rotate_left 1
              · intro u hu
                have hc := HC3.out u hu.2.2.1
                go_simp
                first | done | with_reducible rfl
              go_simp
              refine wpAnyH_take (i := 12) (v := ?_) rfl (by kernel_rfl) (by kernel_rfl) (by kernel_rfl) (fun _ _ _ h => h) (Or.inl ⟨by rfl, ?_⟩) hS ?_
              rotate_left 1
              · intro u hu
                go_simp
                first | done | with_reducible rfl
              go_simp
              refine wpAnyH_take (i := 13) (v := ?_) rfl (by kernel_rfl) (by kernel_rfl) (by kernel_rfl) (fun _ _ _ h => h) (Or.inl ⟨by rfl, ?_⟩) hS ?_
              rotate_left 1
              · intro u hu
                go_simp
                first | done | with_reducible rfl
              go_simp
              refine wpAnyH_take (i := 14) (v := ?_) rfl (by kernel_rfl) (by kernel_rfl) (by kernel_rfl) (fun _ _ _ h => h) (Or.inl ⟨by rfl, ?_⟩) hS ?_
              rotate_left 1
              · intro u hu
                have hc := HC4.out u hu.2.2.2
                go_simp
                first | done | with_reducible rfl
              go_simp
              refine wpAnyH_take (i := 15) (v := ?_) rfl (by kernel_rfl) (by kernel_rfl) (by kernel_rfl) (fun _ _ _ h => h) (Or.inl ⟨by rfl, ?_⟩) hS ?_
              rotate_left 1
              · intro u hu
                go_simp
                first | done | with_reducible rfl
              go_simp
              refine wpAnyH_take (i := 16) (v := ?_) rfl (by kernel_rfl) (by kernel_rfl) (by kernel_rfl) (fun _ _ _ h => h) (Or.inl ⟨by rfl, ?_⟩) hS ?_
              rotate_left 1
              · intro u hu
                go_simp
                first | done | with_reducible rfl
              go_simp
              refine wpAnyH_oneG 17 (by kernel_rfl) rfl (by rfl) ?_
              refine wp_put_blk 5 (.tmp 93) (.tmp 85) rfl gz t (q1 ^^^ q2) (by with_unfolding_all rfl) (by with_unfolding_all rfl) 22 _ F1.out.z size1 (by rw [HLz.out]; omega) ?_
              intro w4 P4 O4
              have F4 := Lib.hid (F1.out.putZ (z' := mixr hc (List.replicate 16 0) (t + 1)) O4.out (by rw [← HNz.out]; exact P4.out))
              have U4 := Lib.hid (U1.out.only O4.out (by omega))
              have V4 := Lib.hid (V1.out.only O4.out (by omega))
              replace hS : Blk w4 gA 22 ha ∧ Blk w4 gB 22 hb ∧ Blk w4 (w.heap.size + 1) 22 x ∧ Blk w4 (w.heap.size + 1 + 1) 22 y := ⟨F4.out.pa, F4.out.pb, F4.out.x, F4.out.y⟩
              refine ⟨hS, ?_⟩
              go_simp
              refine wpAnyH_take (i := 18) (v := ?_) rfl (by kernel_rfl) (by kernel_rfl) (by kernel_rfl) (fun _ _ _ h => h) (Or.inl ⟨by rfl, ?_⟩) hS ?_
              rotate_left 1
              · intro u hu
                go_simp
                first | done | with_reducible rfl
              go_simp
              refine wpAnyH_oneG 19 (by kernel_rfl) rfl (by rfl) ?_
              refine wp_put_blk 5 (.tmp 94) (.tmp 92) rfl (gz + 1) t (q3 ^^^ q4) (by with_unfolding_all rfl) (by with_unfolding_all rfl) 22 _ F4.out.k size1 (by rw [HLk.out]; omega) ?_
              intro w5 P5 O5
              have F5 := Lib.hid (F4.out.putK (k' := mixr kc (List.replicate 16 0) (t + 1)) O5.out (by rw [← HNk.out]; exact P5.out))
              have U5 := Lib.hid (U4.out.only O5.out (by omega))
              have V5 := Lib.hid (V4.out.only O5.out (by omega))
              refine ⟨⟨F5.out.pa, F5.out.pb, F5.out.x, F5.out.y⟩, ?_⟩
              refine wpAnyH_done (by kernel_rfl) ?_ _
              clear hS F1 U1 V1 F4 U4 V4
              go_wp2_with fail
              have c5 := HC5.out _ U5.out
              have c6 := HC6.out _ V5.out
              refine wp_tail 9 (by kernel_rfl) (by kernel_rfl) ?_
              simp only [List.take_succ_cons, List.take_zero, List.drop_succ_cons, List.drop_zero]
              repeat still_step
              refine wpStill_nil ?_
              clear c5 c6
              replace F5 := Lib.hid F5.out.drew
              replace U5 := Lib.hid U5.out.drew
              replace V5 := Lib.hid V5.out.drew
              obtain ⟨w6, hw6⟩ : ∃ v, w5.drew = v := ⟨_, rfl⟩
              rw [hw6] at F5 U5 V5 ⊢
              clear hw6
              go_wp2_with ((with_reducible refine wpList_put_blk rfl 5 (.tmp 103) (.tmp 102) rfl gU t (q5 ^^^ q6) ?hx ?hy 22 _ U5.out size1 ?hl ?_); (case hx => with_unfolding_all rfl); (case hy => with_unfolding_all rfl); (case hl => rw [HLu.out]; omega); intro w7 P7 O7)
              have F7 := Lib.hid (F5.out.only O7.out (by omega))
              have U7 : Hid (Blk w7 gU 22 (mixr uc tu (t + 1))) := show Blk _ _ _ _ by rw [← HNu.out]; exact P7.out
              have V7 := Lib.hid (V5.out.only O7.out (Ne.symm hUV))
              go_roundw
              case rel =>
                first
                  | exact ⟨t + 1, by omega, by go_num, F7, U7, V7⟩
                  | ((repeat apply Exists.intro); exact ⟨⟨t + 1, by omega, by go_num, F7, U7, V7⟩, rfl⟩)
              case measure => simp [intOf]; omega
            · obtain rfl : t = 16 := by omega
              rw [mixr_full _ _ _ (by simp [HCL.out]) (by simp), mixr_full _ _ _ (by simp [HKL.out]) (by simp)] at EW
              rw [mixr_full _ _ _ (by have := HUL.out; have := HTUL.out; omega) (by have := HTUL.out; omega)] at SU
              have q1 := eql_same hc HCL.out
              have q2 := eql_same uc HUL.out
              go_wp2_with fail
              refine wp_held (S := fun u => Below wr.drew.heap.size wr.drew u) (by kernel_rfl) ?_
              replace EW := Lib.hid EW.out.drew
              replace SU := Lib.hid SU.out.drew
              obtain ⟨wq, hwq⟩ : ∃ x, wr.drew = x := ⟨_, rfl⟩
              rw [hwq] at EW SU ⊢
              clear hwq
              have b0 : Below wq.heap.size wq wq := Below.refl _ _
              refine wpAnyH_pickG 0 (.agg (bvs hc).toArray) rfl (by kernel_rfl) (by kernel_rfl) (by kernel_rfl) (by rfl) (fun _ _ _ h => h) (fun u hu => exec_load_blk u 22 (.tmp 17) rfl gz (by with_unfolding_all rfl) 22 hc (EW.out.z.below hu) 16 5 Try.underlying22 16 sizeRow HCL.out) b0 ?_
              go_simp
              refine wpAnyH_pickG 1 (.agg (bvs hc).toArray) rfl (by kernel_rfl) (by kernel_rfl) (by kernel_rfl) (by rfl) (fun _ _ _ h => h) (fun u hu => exec_load_blk u 22 (.tmp 16) rfl gC (by with_unfolding_all rfl) 22 hc (EW.out.pc.below hu) 16 5 Try.underlying22 16 sizeRow HCL.out) b0 ?_
              go_simp
              refine wpAnyH_take (i := 2) (v := ?_) rfl (by kernel_rfl) (by kernel_rfl) (by kernel_rfl) (fun _ _ _ h => h) (Or.inl ⟨by rfl, ?_⟩) b0 ?_
              rotate_left 1
              · intro u hu
                go_simp
                first | done | with_reducible rfl
              go_simp
              refine wpAnyH_take (i := 3) (v := ?_) rfl (by kernel_rfl) (by kernel_rfl) (by kernel_rfl) (fun _ _ _ h => h) (Or.inl ⟨by rfl, ?_⟩) b0 ?_
              rotate_left 1
              · intro u hu
                go_simp
                first | done | with_reducible rfl
              go_simp
              refine wpAnyH_pickG 4 (.agg (bvs kc).toArray) rfl (by kernel_rfl) (by kernel_rfl) (by kernel_rfl) (by rfl) (fun _ _ _ h => h) (fun u hu => exec_load_blk u 22 (.tmp 18) rfl (gz + 1) (by with_unfolding_all rfl) 22 kc (EW.out.k.below hu) 16 5 Try.underlying22 16 sizeRow HKL.out) b0 ?_
              go_simp
              refine wpAnyH_pickG 5 (.agg (bvs h).toArray) rfl (by kernel_rfl) (by kernel_rfl) (by kernel_rfl) (by rfl) (fun _ _ _ h => h) (fun u hu => exec_load_blk u 22 (.tmp 5) rfl w.heap.size (by with_unfolding_all rfl) 22 h (EW.out.h.below hu) 16 5 Try.underlying22 16 sizeRow Hh.out) b0 ?_
              go_simp
              refine wpAnyH_pickG 7 (.agg (bvs uc).toArray) rfl (by kernel_rfl) (by kernel_rfl) (by kernel_rfl) (by rfl) (fun _ _ _ h => h) (fun u hu => exec_load_blk u 22 (.tmp 19) rfl gU (by with_unfolding_all rfl) 22 uc (SU.out.below hu) 16 5 Try.underlying22 16 sizeRow HUL.out) b0 ?_
              go_simp
              refine wpAnyH_oneG 6 (by kernel_rfl) rfl (by rfl) ?_
              go_wp2_with fail
              (with_reducible refine (gtimes_any kc h HKL.out Hh.out _).mono ?_)
              rintro f1 v1 ⟨rfl, d1⟩
              rw [HKH.out]
              have b1 := b0.trans (d1.mono b0.size)
              refine ⟨b1, ?_⟩
              clear d1
              go_simp
              refine wpAnyH_take (i := 8) (v := ?_) rfl (by kernel_rfl) (by kernel_rfl) (by kernel_rfl) (fun _ _ _ h => h) (Or.inl ⟨by rfl, ?_⟩) b1 ?_
              rotate_left 1
              · intro u hu
                go_simp
                first | done | with_reducible rfl
              go_simp
              refine wpAnyH_take (i := 9) (v := ?_) rfl (by kernel_rfl) (by kernel_rfl) (by kernel_rfl) (fun _ _ _ h => h) (Or.inl ⟨by rfl, ?_⟩) b1 ?_
              rotate_left 1
              · intro u hu
                go_simp
                first | done | with_reducible rfl
              go_simp
              refine wpAnyH_take (i := 10) (v := ?_) rfl (by kernel_rfl) (by kernel_rfl) (by kernel_rfl) (fun _ _ _ h => h) (Or.inl ⟨by rfl, ?_⟩) b1 ?_
              rotate_left 1
              · intro u hu
                go_simp
                first | done | with_reducible rfl
              go_simp
              refine wpAnyH_pickG 11 (.agg (bvs h).toArray) rfl (by kernel_rfl) (by kernel_rfl) (by kernel_rfl) (by rfl) (fun _ _ _ h => h) (fun u hu => exec_load_blk u 22 (.tmp 5) rfl w.heap.size (by with_unfolding_all rfl) 22 h (EW.out.h.below hu) 16 5 Try.underlying22 16 sizeRow Hh.out) b1 ?_
              go_simp
              refine wpAnyH_pickG 12 (.agg (bvs kc).toArray) rfl (by kernel_rfl) (by kernel_rfl) (by kernel_rfl) (by rfl) (fun _ _ _ h => h) (fun u hu => exec_load_blk u 22 (.tmp 18) rfl (gz + 1) (by with_unfolding_all rfl) 22 kc (EW.out.k.below hu) 16 5 Try.underlying22 16 sizeRow HKL.out) b1 ?_
              go_simp
              refine wpAnyH_pickG 14 (.agg (bvs uc).toArray) rfl (by kernel_rfl) (by kernel_rfl) (by kernel_rfl) (by rfl) (fun _ _ _ h => h) (fun u hu => exec_load_blk u 22 (.tmp 19) rfl gU (by with_unfolding_all rfl) 22 uc (SU.out.below hu) 16 5 Try.underlying22 16 sizeRow HUL.out) b1 ?_
              go_simp
              refine wpAnyH_oneG 13 (by kernel_rfl) rfl (by rfl) ?_
              go_wp2_with fail
              (with_reducible refine (gtimes_any h kc Hh.out HKL.out _).mono ?_)
              rintro f2 v2 ⟨rfl, d2⟩
              rw [HHK.out]
              have b2 := b1.trans (d2.mono b1.size)
              refine ⟨b2, ?_⟩
              clear d2
              go_simp
              refine wpAnyH_take (i := 15) (v := ?_) rfl (by kernel_rfl) (by kernel_rfl) (by kernel_rfl) (fun _ _ _ h => h) (Or.inl ⟨by rfl, ?_⟩) b2 ?_
              rotate_left 1
              · intro u hu
                go_simp
                first | done | with_reducible rfl
              go_simp
              refine wpAnyH_take (i := 16) (v := ?_) rfl (by kernel_rfl) (by kernel_rfl) (by kernel_rfl) (fun _ _ _ h => h) (Or.inl ⟨by rfl, ?_⟩) b2 ?_
              rotate_left 1
              · intro u hu
                go_simp
                first | done | with_reducible rfl
              go_simp
              refine wpAnyH_take (i := 17) (v := ?_) rfl (by kernel_rfl) (by kernel_rfl) (by kernel_rfl) (fun _ _ _ h => h) (Or.inl ⟨by rfl, ?_⟩) b2 ?_
              rotate_left 1
              · intro u hu
                go_simp
                first | done | with_reducible rfl
              go_simp
              refine wpAnyH_oneG 18 (by kernel_rfl) rfl (by rfl) ?_
              go_wp2_with fail
              (with_reducible refine (awake_any _).mono ?_)
              rintro f3 v3 ⟨rfl, d3⟩
              have b3 := b2.trans (d3.mono b2.size)
              refine ⟨b3, ?_⟩
              clear d3
              go_simp
              refine wpAnyH_take (i := 19) (v := ?_) rfl (by kernel_rfl) (by kernel_rfl) (by kernel_rfl) (fun _ _ _ h => h) (Or.inl ⟨by rfl, ?_⟩) b3 ?_
              rotate_left 1
              · intro u hu
                go_simp
                first | done | with_reducible rfl
              go_simp
              refine wpAnyH_take (i := 20) (v := ?_) rfl (by kernel_rfl) (by kernel_rfl) (by kernel_rfl) (fun _ _ _ h => h) (Or.inl ⟨by rfl, ?_⟩) b3 ?_
              rotate_left 1
              · intro u hu
                go_simp
                first | done | with_reducible rfl
              go_simp
              refine wpAnyH_done (by kernel_rfl) ?_ _
              go_wp2_with fail
              go_ret
              exact ⟨rfl, EW.out.b.trans (b3.mono EW.out.b.size)⟩
theorem adds_all (h x y a b : List UInt8) (hh : h.length = 16) (hx : x.length = 16) (hy : y.length = 16) (A1 A2 : Option Addr) (n1 c1 n2 c2 : Nat) (w : World) (hs1 : Sl w w.heap.size A1 n1 a) (hs2 : Sl w w.heap.size A2 n2 b) (hnc1 : n1 ≤ c1) (hcm1 : c1 ≤ maxLen) (hnc2 : n2 ≤ c2) (hcm2 : c2 ≤ maxLen) :
    Calls Try.prog 7 #[.agg (bvs h).toArray, .agg (bvs x).toArray, .agg (bvs y).toArray, .slice A1 n1 c1, .slice A2 n2 c2] w fun e w' => e = .returned (.bool true) ∧ Below w.heap.size w w' := by
  by_cases hl : 100 < n1 ∧ 100 < n2
  · exact adds_long h x y A1 A2 n1 c1 n2 c2 w hl
  · exact adds_walk h x y a b hh hx hy A1 A2 n1 c1 n2 c2 w hs1 hs2 hnc1 hcm1 hnc2 hcm2 hl
end Go.Proofs.Ytkeleehkjllgeaa
