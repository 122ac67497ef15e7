/-
  The walk of ShaSteps.
-/
import Derived.Test.YtahcnjhfkndleaaDoorShaJ
import Derived.Test.YtahcnjhfkndleaaDoorShaO
import Derived.Test.YtahcnjhfkndleaaDoorSame
import Derived.Deep.RegionHeld3
namespace Go.Proofs.YtahcnjhfkndleaaDoor
open Go.RowKit Go.Joins
set_option linter.unusedVariables false

/-- an operation that is wanted, and yields in every such world, taken first -/
theorem wpAnyH_pickG {P : Program} {md : Region.Mode} {ops : Array Oper} {Q : Exit → Act → World → Prop} {S : World → Prop} {fuel : Nat} {listed : Array Bool} {a : Act} {w : World} (i : Nat) {oi : Oper} (v : Value) (hi : ops[i]? = some oi)
    (hs : Region.noSelect ops = true) (hf : Region.free md ops listed i = true) (hr : (Region.ready md ops listed).contains i = true) (hw : Region.wanted oi (yielded ops a.tmps) = true)
    (hQ : ∀ c a w, Q (.panic c) (a.put oi.dst v) w → Q (.panic c) a w) (hy : ∀ u, S u → (execOp a.eval oi).run P u = .ok (.value v) u) (hS : S w)
    (h : wpAnyH P md ops Q S fuel (listed.setIfInBounds i true) (a.put oi.dst v) w) : wpAnyH P md ops Q S (fuel + 1) listed a w :=
  wpAnyH_take hi hs hf hr hQ (.inl ⟨hw, hy⟩) hS h
theorem wpOp_of_wpG {P : Program} {ops : Array Oper} {Q : Exit → Act → World → Prop} {K : Act → World → Prop} {a : Act} {w : World} {i : Nat} {o : Oper} (hi : ops[i]? = some o) (hw : Region.wanted o (yielded ops a.tmps) = true) (h : o.wp P a w K Q) : wpOp P ops Q i K a w := by
  unfold wpOp
  simp only [hi]
  rw [if_pos hw]
  exact .inl h
theorem wpAnyH_oneG {P : Program} {md : Region.Mode} {ops : Array Oper} {Q : Exit → Act → World → Prop} {S : World → Prop} {fuel : Nat} {listed : Array Bool} {a : Act} {w : World} (i : Nat) {o : Oper} (hr : Region.ready md ops listed = [i]) (hi : ops[i]? = some o) (hw : Region.wanted o (yielded ops a.tmps) = true)
    (h : o.wp P a w (fun a' w' => S w' ∧ wpAnyH P md ops Q S fuel (listed.setIfInBounds i true) a' w') Q) : wpAnyH P md ops Q S (fuel + 1) listed a w :=
  wpAnyH_all hr (by simp) fun j hj => by
    obtain rfl : j = i := by simpa using hj
    exact wpOp_of_wpG hi hw h
theorem exec_load_row {P : Program} {o : Oper} {a : Act} (u : World) (ty : TypeId) (x : Operand) (ho : o.op = .load ty x) (g : Nat) (hx : a.eval x = .pointer (some ⟨g, 0, none⟩)) (t : TypeId) (cs : Array Value) (fr : Nat × Nat) (d : TypeDesc) (hg : u.heap[g]? = some (.cells cs t fr))
    (hu : P.underlying ty = some d) (hd : (match d with | .struct _ | .array _ _ => true | _ => false) = true) (hi : (P.info? ty).map (·.size) = some cs.size) : (execOp a.eval o).run P u = .ok (.value (.agg cs)) u := by
  unfold execOp
  simp only [ho, hx, Instr.loadAt, Instr.sureAddr, Sem.run_bind, Sem.run_pure, Result.andThen_ok, run_loadVar_row u g t ty cs fr d hg hu hd hi]
theorem toWords_inj (l r : List UInt32) : (l.map wn = r.map wn) ↔ l = r := by
  constructor
  · intro h
    refine List.map_inj_right (f := wn) (fun x y hxy => UInt32.toNat_inj.1 (by unfold wn at hxy; omega)) |>.1 h
  · rintro rfl; rfl
theorem run_neq_words (l r : List UInt32) (hl : l.length = 8) (hr : r.length = 8) (u : World) :
    (binOp .neq 32 (.agg (wvs l).toArray) (.agg (wvs r).toArray)).run Tryd.prog u = .ok (.bool (!decide (l = r))) u := by
  have h := run_neq_ints (P := Tryd.prog) u 32 31 8 .u32 Tryd.underlying32 Tryd.underlying31 size4 (l.map wn) (r.map wn) (by simpa using hl) (by simpa using hr)
  have e : ∀ l : List UInt32, wvs l = (l.map wn).map (Value.int .u32) := fun l => by simp [wvs, wv, Function.comp_def]
  rw [e, e, h]
  simp only [toWords_inj]

set_option maxHeartbeats 1000000 in
theorem steps_long (h : List UInt32) (x : List UInt8) (A : Option Addr) (n c : Nat) (z : Int) (w : World) (hG : Glob w) (hlong : 10000 < z ∨ 200 < n) :
    Calls Tryd.prog 4 #[.agg (wvs h).toArray, .agg (bvs x).toArray, .int .i64 z, .slice A n c] w fun e w' => e = .returned (.bool true) ∧ Below w.heap.size w w' := by
  by_cases hz : 10000 < z
  · have t2 : decide ((10000 : Int) < z) = true := by simp; omega
    have HG := Lib.hid hG
    clear hlong hz hG
    go_enter Tryd.func4, Tryd.ntmps4
    go_wp2_with fail
    go_quiet (fail)
    go_wp2_with fail
    have hb : Below w.heap.size w (((w.alloc (.cells (wvs h).toArray 32)).alloc (.cells (bvs x).toArray 33)).drewN nq) := below_drewN (((Below.refl _ _).alloc (Nat.le_refl _) _).alloc (by simp) _) nq
    have HB := Lib.hid hb
    clear hb
    (with_reducible refine (awake_any _ (HG.out.below HB.out)).mono ?_)
    rintro e w1 ⟨rfl, hb1⟩
    go_wp2
    go_ret
    exact ⟨rfl, HB.out.trans (hb1.mono HB.out.size)⟩
  · have t2 : decide ((10000 : Int) < z) = false := by simp; omega
    have t1 : decide ((200 : Int) < (n : Int)) = true := by simp; omega
    have HG := Lib.hid hG
    clear hlong hz hG
    go_enter Tryd.func4, Tryd.ntmps4
    go_wp2_with fail
    go_quiet (fail)
    go_wp2_with fail
    have hb : Below w.heap.size w (((w.alloc (.cells (wvs h).toArray 32)).alloc (.cells (bvs x).toArray 33)).drewN nq) := below_drewN (((Below.refl _ _).alloc (Nat.le_refl _) _).alloc (by simp) _) nq
    have HB := Lib.hid hb
    clear hb
    (with_reducible refine (awake_any _ (HG.out.below HB.out)).mono ?_)
    rintro e w1 ⟨rfl, hb1⟩
    go_wp2
    go_ret
    exact ⟨rfl, HB.out.trans (hb1.mono HB.out.size)⟩

/-- 64 bytes copied into a block of 64 -/
theorem wpList_copy_block {w : World} {ops : Array Oper} {rest : List Oper} {o : Oper} {a : Act} {Q : Exit → Act → World → Prop} (hgd : o.guard = none) (d s : Operand)
    (ho : o.op = .call { callee := .builtin .copy, args := #[d, s], argTypes := #[22, 22] })
    (g m c B : Nat) (A : Option Addr) (l : List UInt8) (old : Array Value) (hd : a.eval d = .slice (some ⟨g, 0, none⟩) 64 64) (hs : a.eval s = .slice A m c)
    (hr : Sl w B A m l) (hg : w.heap[g]? = some (.cells old 33 (0, 0))) (hold : old.size = 64) (hm : 64 ≤ m)
    (h : ∀ w', Hid (w'.heap[g]? = some (.cells (bvs (l.take 64)).toArray 33 (0, 0))) → Hid (Only g w w') → wpList Tryd.prog ops Q rest (a.put o.dst (.int .i64 64)) w') : wpList Tryd.prog ops Q (o :: rest) a w := by
  obtain ⟨b, off, rfl, hbB, hc⟩ := hr.2 (by omega)
  have hl := hr.1
  have hlen : (bvs (l.take 64)).length = 64 := by rw [bvs_length, List.length_take]; omega
  refine wpList_copy_own hgd d s 22 22 ho 5 Tryd.underlying22 size1 g 0 64 64 ⟨b, off, none⟩ m c hd hs _ 33 hg (bvs (l.take 64)) (by rw [hlen]; exact (Nat.min_eq_right hm).symm) ?_ ?_ (bvs_one _) ?_
  · intro j u hu
    have hj : j < (l.take 64).length := by
      have := (List.getElem?_eq_some_iff.1 hu).1
      rwa [bvs_length] at this
    have hj' : j < l.length := by rw [List.length_take] at hj; omega
    have hjk : j < 64 := by rw [List.length_take] at hj; omega
    rw [addr_add, hc j hj', ← hu]
    simp [bvs, hjk, hj']
  · rw [hlen]; omega
  · have e : old.toList.take 0 ++ (bvs (l.take 64) ++ old.toList.drop (0 + (bvs (l.take 64)).length)) = bvs (l.take 64) := by
      rw [hlen, List.take_zero, List.nil_append, List.drop_eq_nil_of_le (by simp [hold]), List.append_nil]
    rw [e, hlen]
    exact h _ (setRow_heap _ _ _ _ _ _ hg) ((Only.refl g w).setRow _)

structure StepsW (w wx : World) (gv ga M : Nat) (al : List UInt8) (s : List UInt32) : Prop where
  vv : wx.heap[gv]? = some (.cells (wvs s).toArray 32 (0, 0))
  al : Sl wx gv (some ⟨ga, 0, none⟩) M al
  sz : w.heap.size ≤ gv ∧ ga < gv ∧ gv < wx.heap.size
  bl : Below w.heap.size w wx
theorem StepsW.only {w wx w' : World} {gv ga M : Nat} {al : List UInt8} {s s' : List UInt32} (k : StepsW w wx gv ga M al s) (ho : Only gv wx w') (hv : w'.heap[gv]? = some (.cells (wvs s').toArray 32 (0, 0))) : StepsW w w' gv ga M al s' := by
  obtain ⟨q1, q2, q3⟩ := k.sz
  have hs := ho.size
  refine ⟨hv, ?_, ⟨q1, q2, by omega⟩, k.bl.trans (ho.below (by omega) (by omega))⟩
  exact ho.sl k.al (by omega) (fun b off e => by injection e with e; injection e with e; omega)
theorem StepsW.below {w wx w' : World} {gv ga M : Nat} {al : List UInt8} {s : List UInt32} (k : StepsW w wx gv ga M al s) (hb : Below wx.heap.size wx w') : StepsW w w' gv ga M al s :=
  k.only (.of_below hb) (by rw [hb.block _ k.sz.2.2]; exact k.vv)

theorem run_whole64 (g : Nat) (u : World) : (Instr.sliceAt 33 (.pointer (some ⟨g, 0, none⟩)) none none none).run Tryd.prog u = .ok (.slice (some ⟨g, 0, none⟩) 64 64) u := by
  have ha : Tryd.prog.arrayLen 33 = 64 := by simp [Program.arrayLen, Tryd.underlying33]
  have he : Tryd.prog.elem 33 = 5 := by simp [Program.elem, Tryd.underlying33]
  have h := run_sliceAt_array_all (P := Tryd.prog) u 33 ⟨g, 0, none⟩ (by rw [ha, he]; exact Tryd.underlying33)
  obtain ⟨i, hi', hz0, hz1, hz2⟩ := info_parts byte_info
  rw [h, he]
  simp [sizeOf, typeInfo, hi', hz1, slicedAt, ha, addr_add]

set_option maxHeartbeats 1000000 in
theorem steps_walk (h : List UInt32) (x : List UInt8) (l : List UInt8) (A : Option Addr) (n c : Nat) (z : Int) (w : World) (hG : Glob w) (hs : Sl w w.heap.size A n l) (hnc : n ≤ c) (hcm : c ≤ maxLen) (hn : n ≤ 200) (hz : z ≤ 10000) (hh : h.length = 8) (hx : x.length = 64) (hAb : ∀ a, A = some a → a.block < w.heap.size) :
    Calls Tryd.prog 4 #[.agg (wvs h).toArray, .agg (bvs x).toArray, .int .i64 z, .slice A n c] w fun e w' => e = .returned (.bool true) ∧ Below w.heap.size w w' := by
  have HG := Lib.hid hG
  have HS := Lib.hid hs
  have Hh := Lib.hid hh
  have Hx := Lib.hid hx
  have t1 : decide ((200 : Int) < (n : Int)) = false := by simp; omega
  have t2 : decide ((10000 : Int) < z) = false := by simp; omega
  have hP : ∃ (N : Nat) (L : List UInt8), N ≤ 72 ∧ (∀ u : World, Calls Tryd.prog 15 #[.int .i64 z] u fun e w' => ∃ A c, e = .returned (.slice A N c) ∧ Sl w' w'.heap.size A N L ∧ Below u.heap.size u w') ∧
      (∀ u : World, Calls Tryd.prog 16 #[.int .i64 z] u fun e w' => ∃ A c, e = .returned (.slice A N c) ∧ Sl w' w'.heap.size A N L ∧ Below u.heap.size u w') := by
    by_cases h0 : z < 0
    · refine ⟨0, [], by omega, fun u => (pad_neg z u h0).mono ?_, fun u => (rpad_neg z u h0).mono ?_⟩
      · rintro e w' ⟨rfl, rfl⟩
        exact ⟨none, 0, rfl, Sl.nil, Below.refl _ _⟩
      · rintro e w' ⟨rfl, rfl⟩
        exact ⟨none, 0, rfl, Sl.nil, Below.refl _ _⟩
    · obtain ⟨k, rfl⟩ : ∃ k : Nat, z = (k : Int) := ⟨z.toNat, by omega⟩
      refine ⟨padN k, padV k, (padN_bd k).2.1, fun u => (pad_any k (by omega) u).mono ?_, fun u => (rpad_any k (by omega) u).mono ?_⟩
      · rintro e w' ⟨A, c, rfl, ho, _, _, hb⟩
        exact ⟨A, c, rfl, ho.sl, hb⟩
      · rintro e w' ⟨A, c, rfl, ho, _, _, hb⟩
        exact ⟨A, c, rfl, ho.sl, hb⟩
  obtain ⟨N, L, hN, hpA, hpB⟩ := hP
  have HPA := Lib.hid hpA
  have HPB := Lib.hid hpB
  have h8 : (wvs h).length = 8 := by rw [wvs_length]; exact hh
  have h64 : (bvs x).length = 64 := by rw [bvs_length]; exact hx
  have H8 := Lib.hid h8
  have H64 := Lib.hid h64
  have hneq := run_neq_words (stepV h x) (stepV h x) (stepV_length _ _ hh) (stepV_length _ _ hh)
  rw [decide_eq_true rfl] at hneq
  have HAb := Lib.hid hAb
  clear hG hs hpA hpB hh hx h8 h64 hAb
  go_enter Tryd.func4, Tryd.ntmps4
  go_wp2_with fail
  generalize hw0 : ((w.alloc (.cells (wvs h).toArray 32)).alloc (.cells (bvs x).toArray 33)) = w0
  have hb0 : Below w.heap.size w w0 := by rw [← hw0]; exact (((Below.refl _ _).alloc (Nat.le_refl _) _).alloc (by simp) _)
  have g0 : w0.heap[w.heap.size]? = some (.cells (wvs h).toArray 32 (0, 0)) := by rw [← hw0]; exact heap_allocs w [_, _] 0 _ rfl
  have g1 : w0.heap[w.heap.size + 1]? = some (.cells (bvs x).toArray 33 (0, 0)) := by rw [← hw0]; exact heap_allocs w [_, _] 1 _ rfl
  have HB0 := Lib.hid hb0
  have G : Hid (w0.heap[w.heap.size]? = some (.cells (wvs h).toArray 32 (0, 0)) ∧ w0.heap[w.heap.size + 1]? = some (.cells (bvs x).toArray 33 (0, 0))) := ⟨g0, g1⟩
  have HKeep : Hid (∀ u : World, Below w0.heap.size w0 u → u.heap[w.heap.size]? = some (.cells (wvs h).toArray 32 (0, 0)) ∧ u.heap[w.heap.size + 1]? = some (.cells (bvs x).toArray 33 (0, 0))) := fun u hu => by
    have l0 := (Array.getElem?_eq_some_iff.1 g0).1
    have l1 := (Array.getElem?_eq_some_iff.1 g1).1
    exact ⟨by rw [hu.block _ l0]; exact g0, by rw [hu.block _ l1]; exact g1⟩
  clear hw0 hb0 g0 g1
  refine wp_held (S := fun u => u.heap[w.heap.size]? = some (.cells (wvs h).toArray 32 (0, 0)) ∧ u.heap[w.heap.size + 1]? = some (.cells (bvs x).toArray 33 (0, 0))) (by kernel_rfl) ?_
  refine wpAnyH_pickG 0 (.int .i64 z) rfl (by kernel_rfl) (by kernel_rfl) (by kernel_rfl) rfl (fun _ _ _ h => h) (fun u _ => by go_simp) G.out ?_
  go_simp
  refine wpAnyH_pickG 1 (.bool false) rfl (by kernel_rfl) (by kernel_rfl) (by kernel_rfl) rfl (fun _ _ _ h => h) (fun u _ => by go_simp) G.out ?_
  go_simp
  refine wpAnyH_pickG 2 (.bool false) rfl (by kernel_rfl) (by kernel_rfl) (by kernel_rfl) rfl (fun _ _ _ h => h) (fun u _ => by go_simp) G.out ?_
  go_simp
  refine wpAnyH_pickG 3 (.slice A n c) rfl (by kernel_rfl) (by kernel_rfl) (by kernel_rfl) rfl (fun _ _ _ h => h) (fun u _ => by go_simp) G.out ?_
  go_simp
  refine wpAnyH_pickG 4 (.int .i64 n) rfl (by kernel_rfl) (by kernel_rfl) (by kernel_rfl) rfl (fun _ _ _ h => h) (fun u _ => by go_simp) G.out ?_
  go_simp
  refine wpAnyH_pickG 5 (.bool false) rfl (by kernel_rfl) (by kernel_rfl) (by kernel_rfl) rfl (fun _ _ _ h => h) (fun u _ => by go_simp) G.out ?_
  go_simp
  refine wpAnyH_pickG 6 (.bool false) rfl (by kernel_rfl) (by kernel_rfl) (by kernel_rfl) rfl (fun _ _ _ h => h) (fun u _ => by go_simp) G.out ?_
  go_simp
  refine wpAnyH_pickG 7 (.bool false) rfl (by kernel_rfl) (by kernel_rfl) (by kernel_rfl) rfl (fun _ _ _ h => h) (fun u _ => by go_simp) G.out ?_
  go_simp
  refine wpAnyH_pickG 8 (.agg (wvs h).toArray) rfl (by kernel_rfl) (by kernel_rfl) (by kernel_rfl) rfl (fun _ _ _ h => h) (fun u hu => ?_) G.out ?_
  · exact exec_load_row u 32 (.tmp 4) rfl w.heap.size (by with_unfolding_all rfl) _ _ _ _ hu.1 Tryd.underlying32 rfl (by rw [List.size_toArray, H8.out]; exact size8)
  go_simp
  refine wpAnyH_pickG 9 (.agg (bvs x).toArray) rfl (by kernel_rfl) (by kernel_rfl) (by kernel_rfl) rfl (fun _ _ _ h => h) (fun u hu => ?_) G.out ?_
  · exact exec_load_row u 33 (.tmp 5) rfl (w.heap.size + 1) (by with_unfolding_all rfl) _ _ _ _ hu.2 Tryd.underlying33 rfl (by rw [List.size_toArray, H64.out]; exact size64b)
  go_simp
  refine wpAnyH_pickG 11 (.agg (wvs h).toArray) rfl (by kernel_rfl) (by kernel_rfl) (by kernel_rfl) rfl (fun _ _ _ h => h) (fun u hu => ?_) G.out ?_
  · exact exec_load_row u 32 (.tmp 4) rfl w.heap.size (by with_unfolding_all rfl) _ _ _ _ hu.1 Tryd.underlying32 rfl (by rw [List.size_toArray, H8.out]; exact size8)
  go_simp
  refine wpAnyH_pickG 12 (.agg (bvs x).toArray) rfl (by kernel_rfl) (by kernel_rfl) (by kernel_rfl) rfl (fun _ _ _ h => h) (fun u hu => ?_) G.out ?_
  · exact exec_load_row u 33 (.tmp 5) rfl (w.heap.size + 1) (by with_unfolding_all rfl) _ _ _ _ hu.2 Tryd.underlying33 rfl (by rw [List.size_toArray, H64.out]; exact size64b)
  go_simp
  refine wpAnyH_oneG 10 (by kernel_rfl) rfl rfl ?_
  go_wp2_with fail
  (with_reducible refine (step_any h x Hh.out Hx.out _ ?hGl).mono ?_)
  case hGl => exact (HG.out.below HB0.out).below (Below.refl _ w0).drew
  rintro e1 w1 ⟨rfl, hb1⟩
  have HB1 : Hid (Below w0.heap.size w0 w1) := (Below.refl _ w0).drew.trans hb1
  clear hb1
  refine ⟨HKeep.out _ HB1.out, ?_⟩
  go_simp
  refine wpAnyH_oneG 13 (by kernel_rfl) rfl rfl ?_
  go_wp2_with fail
  (with_reducible refine (rStep_any h x Hh.out Hx.out _).mono ?_)
  rintro e2 w2 ⟨rfl, hb2⟩
  have HB2 : Hid (Below w0.heap.size w0 w2) := HB1.out.trans (hb2.mono HB1.out.size)
  clear hb2
  refine ⟨HKeep.out _ HB2.out, ?_⟩
  go_simp
  refine wpAnyH_pickG 14 (.bool false) rfl (by kernel_rfl) (by kernel_rfl) (by kernel_rfl) rfl (fun _ _ _ h => h) (fun u _ => by go_simp) (HKeep.out _ HB2.out) ?_
  go_simp
  refine wpAnyH_pickG 15 (.bool false) rfl (by kernel_rfl) (by kernel_rfl) (by kernel_rfl) rfl (fun _ _ _ h => h) (fun u _ => by go_simp) (HKeep.out _ HB2.out) ?_
  go_simp
  refine wpAnyH_pickG 16 (.bool false) rfl (by kernel_rfl) (by kernel_rfl) (by kernel_rfl) rfl (fun _ _ _ h => h) (fun u _ => by go_simp) (HKeep.out _ HB2.out) ?_
  go_simp
  refine wpAnyH_pickG 17 (.int .i64 z) rfl (by kernel_rfl) (by kernel_rfl) (by kernel_rfl) rfl (fun _ _ _ h => h) (fun u _ => by go_simp) (HKeep.out _ HB2.out) ?_
  go_simp
  refine wpAnyH_pickG 19 (.int .i64 z) rfl (by kernel_rfl) (by kernel_rfl) (by kernel_rfl) rfl (fun _ _ _ h => h) (fun u _ => by go_simp) (HKeep.out _ HB2.out) ?_
  go_simp
  refine wpAnyH_oneG 18 (by kernel_rfl) rfl rfl ?_
  go_wp2_with fail
  (with_reducible refine (HPA.out _).mono ?_)
  rintro e3 w3 ⟨A3, c3, rfl, hs3, hb3⟩
  have HB3 : Hid (Below w0.heap.size w0 w3) := HB2.out.trans (hb3.mono HB2.out.size)
  have HS3 := Lib.hid hs3
  clear hb3 hs3
  refine ⟨HKeep.out _ HB3.out, ?_⟩
  go_simp
  refine wpAnyH_oneG 20 (by kernel_rfl) rfl rfl ?_
  go_wp2_with fail
  (with_reducible refine (HPB.out _).mono ?_)
  rintro e4 w4 ⟨A4, c4, rfl, hs4, hb4⟩
  have HB4 : Hid (Below w0.heap.size w0 w4) := HB3.out.trans (hb4.mono HB3.out.size)
  have HS4 := Lib.hid hs4
  have HS3' := Lib.hid (HS3.out.below hb4)
  clear hb4 hs4 HS3
  refine ⟨HKeep.out _ HB4.out, ?_⟩
  go_simp
  refine wpAnyH_oneG 21 (by kernel_rfl) rfl rfl ?_
  go_wp2_with fail
  (with_reducible refine (same_yes L L rfl A3 A4 N N c3 c4 _ _ _ HS3'.out HS4.out (by simp [maxLen]; omega)).mono ?_)
  rintro e5 w5 ⟨rfl, k5, rfl⟩
  have HB5 : Hid (Below w0.heap.size w0 (w4.drewN k5)) := below_drewN HB4.out k5
  refine ⟨HKeep.out _ HB5.out, ?_⟩
  go_simp
  refine wpAnyH_pickG 22 (.bool false) rfl (by kernel_rfl) (by kernel_rfl) (by kernel_rfl) rfl (fun _ _ _ h => h) (fun u _ => by go_simp) (HKeep.out _ HB5.out) ?_
  go_simp
  refine wpAnyH_pickG 23 (.bool false) rfl (by kernel_rfl) (by kernel_rfl) (by kernel_rfl) rfl (fun _ _ _ h => h) (fun u _ => by go_simp) (HKeep.out _ HB5.out) ?_
  go_simp
  refine wpAnyH_done (by kernel_rfl) ?_ _
  go_simp
  have HB : Hid (Below w.heap.size w (w4.drewN k5)) := HB0.out.trans (HB5.out.mono HB0.out.size)
  obtain ⟨w6, hw6⟩ : ∃ w6, w4.drewN k5 = w6 := ⟨_, rfl⟩
  rw [hw6] at HB ⊢
  clear HB5 HB4 HB3 HB2 HB1 HB0 HKeep G HS3' HS4 HPA HPB hw6
  have hpb := padN_bd n
  obtain ⟨M, hM⟩ : ∃ M, n + padN n = M := ⟨_, rfl⟩
  have HM := Lib.hid hM
  have hp9 : 9 ≤ padN n := hpb.1
  have hp72 : padN n ≤ 72 := hpb.2.1
  have hMm : M % 64 = 0 := by rw [← hM]; exact hpb.2.2
  have hM9 : 9 ≤ M := by omega
  have hMb : M ≤ 300 := by omega
  have HS6 := Lib.hid (HS.out.below HB.out)
  have t3 : (((n : Int) + ((padN n : Nat) : Int)) % 64 != 0) = false := by simp; omega
  clear hM hpb
  go_wp2_with (first
    | (go_at_call 9; (with_reducible refine (copied_any l A n c w.heap.size _ HS6.out (by omega)).mono ?_); rintro e7 w7 ⟨A7, c7, rfl, ho7, hle7, hc7, hb7⟩; have HO7 := Lib.hid ho7; have HB7 := Lib.hid hb7; clear ho7 hb7)
    | (go_at_call 15; (with_reducible refine (pad_any n (by omega) _).mono ?_); rintro e8 w8 ⟨A8, c8, rfl, ho8, hle8, hc8, hb8⟩; have HO8 := Lib.hid ho8; have HB8 := Lib.hid hb8; clear ho8 hb8)
    | (at_builtin; (refine wpList_append_bytes rfl _ _ rfl w6.heap.size (.slice A7 n c7) n l rfl (HO7.out.below HB8.out) w8.heap.size A8 (padN n) c8 (padV n) rfl HO8.out.sl (by omega) ?hba w8 (Below.refl _ _) ?_); (case hba => have h1 := HB7.out.size; have h2 := HB8.out.size; omega); intro A9 c9 w9 ho9 hle9 hc9 hg9 hb9; have HO9 := Lib.hid ho9; have HB9 := Lib.hid hb9; clear ho9 hg9 hb9))
  have hM := HM.out
  obtain ⟨ga, hga, hga1, hga2⟩ := HO9.out.at_ (by omega)
  obtain ⟨al, hal⟩ : ∃ al, l ++ padV n = al := ⟨_, rfl⟩
  have HSl : Hid (Sl w9 w9.heap.size (some ⟨ga, 0, none⟩) M al) := by
    have h := HO9.out.sl
    rw [hga, hM, hal] at h
    exact h
  have hall : al.length = M := HSl.out.1
  have HAl := Lib.hid hal
  have hs9 : w.heap.size ≤ w6.heap.size ∧ w6.heap.size ≤ w9.heap.size := by
    have h1 := HB.out.size
    have h2 := HB7.out.size
    have h3 := HB8.out.size
    have h4 := HB9.out.size
    omega
  have HBb : Hid (Below w.heap.size w w9) := by
    show Below _ _ _
    have h2 := HB7.out.size
    exact ((HB.out.trans (HB7.out.mono hs9.1)).trans (HB8.out.mono (by omega))).trans (HB9.out.mono hs9.1)
  rw [hga, hM]
  rw [hM] at hle9
  clear hal hga HO9 HB HB7 HB8 HB9 HO7 HO8 hM t3 HS6
  go_wp2_with (first
    | (go_at_call 17; (with_reducible refine (start_any _).mono ?_); rintro e10 w10 ⟨rfl, hb10⟩; have HB10 := Lib.hid hb10; clear hb10)
    | ((with_reducible refine wpList_store_only rfl 32 (.tmp 10) (.tmp 59) rfl w10.heap.size (wvs startV) ?hx ?hy 32 (List.replicate 8 (.int .u32 0)).toArray ?hg ?hi ?ho (wvs_one _) ?_); (case hx => with_unfolding_all rfl); (case hy => with_unfolding_all rfl); (case hg => exact heap_alloc_new _ _); (case hi => exact size8); (case ho => rfl); intro w11 H11 HO11))
  have hR : StepsW w w11 w10.heap.size ga M al startV := by
    have s10 := HB10.out.size
    have s11 := HO11.out.size
    simp at s11
    have b11 : Below w10.heap.size w10 w11 := ((Below.refl _ _).alloc (Nat.le_refl _) _).trans (HO11.out.below (by simp) (Nat.le_refl _))
    have b9 : Below w9.heap.size w9 w11 := HB10.out.trans (b11.mono s10)
    refine ⟨H11.out, (HSl.out.below b9).more s10, ⟨by omega, by omega, by omega⟩, HBb.out.trans (b9.mono (by omega))⟩
  have HR := Lib.hid hR
  obtain ⟨gv, hgv⟩ : ∃ gv, w10.heap.size = gv := ⟨_, rfl⟩
  rw [hgv] at HR ⊢
  clear hR hgv H11 HO11 HB10 HBb HSl
  go_loopw [11] (fun i wx => ∃ j : Nat, 64 * j ≤ M ∧ i = .int .i64 (64 * j : Nat) ∧ Hid (StepsW w wx gv ga M al (digs startV j al))) (fun i _ => M - (intOf i).toNat)
  case atStart => exact ⟨0, by omega, rfl, HR⟩
  case round =>
    clear HR
    obtain ⟨j, hj, rfl, HR⟩ := hrel
    by_cases hlt : 64 * j + 64 ≤ M
    · obtain ⟨s, hs⟩ : ∃ s, digs startV j al = s := ⟨_, rfl⟩
      have hsl : s.length = 8 := by rw [← hs]; exact digs_length _ _ _ rfl
      have HN' : Hid (digs startV (j + 1) al = stepV s ((al.drop (64 * j)).take 64)) := by
        show _ = _
        rw [digs_succ, hs]
      rw [hs] at HR
      obtain ⟨q, hq⟩ : ∃ q, 64 * j = q := ⟨_, rfl⟩
      rw [hq] at HN' hlt ⊢
      have hle : (q : Int) < (M : Int) := by omega
      have hqM : (q : Int) ≤ (M : Int) := by omega
      have hcutA := run_whole64 wr.heap.size
      have hcutB : ∀ u : World, (Instr.slice 22 (.slice (some ⟨ga, 0, none⟩) M c9) (some (.int .i64 (q : Int))) none none).run Tryd.prog u = .ok (.slice (some ⟨ga, q, none⟩) (M - q) (c9 - q)) u := fun u => by
        rw [run_cut_bytes u _ M c9 q (by omega) hle9, if_neg (by omega)]
        simp only [Option.map_some, addr_add, Nat.zero_add]
      have Hsl := Lib.hid hsl
      clear hs hsl
      go_wp2_with fail
      refine wp_tail 4 (by kernel_rfl) (by kernel_rfl) ?_
      simp only [List.take_succ_cons, List.take_zero, List.drop_succ_cons, List.drop_zero]
      repeat still_step
      refine wpStill_nil ?_
      refine wpList_copy_block rfl (.tmp 66) (.tmp 69) rfl wr.heap.size (M - q) (c9 - q) gv (some ⟨ga, q, none⟩) (al.drop q) (List.replicate 64 (.int .u8 0)).toArray (by with_unfolding_all rfl) (by with_unfolding_all rfl) ?hr ?hg rfl (by omega) ?_
      case hr =>
        have h1 := HR.out.al
        have hz := HR.out.sz
        have h2 := h1.drop (k := q) (c := M + 1) (by omega) (by omega)
        rw [if_neg (by omega)] at h2
        simp only [Option.map_some, addr_add, Nat.zero_add] at h2
        exact (h2.below (((Below.refl _ wr).alloc (Nat.le_refl _) _).mono (by omega))).drew
      case hg => exact heap_alloc_new _ _
      intro w12 H12 HO12
      have b12 : Below wr.heap.size wr w12 := (((Below.refl _ _).alloc (Nat.le_refl _) _).drew).trans (HO12.out.below (by simp [World.drew]) (Nat.le_refl _))
      have HR12 := Lib.hid (HR.out.below b12)
      have hg12 : wr.heap.size < w12.heap.size := by have := HO12.out.size; simp [World.drew] at this; omega
      obtain ⟨gx, hgx⟩ : ∃ gx, wr.heap.size = gx := ⟨_, rfl⟩
      have hxl : (bvs ((al.drop q).take 64)).length = 64 := by rw [bvs_length, List.length_take, List.length_drop, hall]; omega
      obtain ⟨bl, hbl⟩ : ∃ bl, (al.drop q).take 64 = bl := ⟨_, rfl⟩
      have hvl : (wvs (stepV s bl)).length = 8 := by rw [wvs_length]; exact stepV_length _ _ Hsl.out
      have hsl8 : (wvs s).length = 8 := by rw [wvs_length]; exact Hsl.out
      have hbl64 : bl.length = 64 := by rw [← hbl, List.length_take, List.length_drop, hall]; omega
      rw [hbl] at H12 HN' hxl
      rw [hgx] at H12 hg12 ⊢
      have HXl := Lib.hid hxl
      have HVl := Lib.hid hvl
      have HSl8 := Lib.hid hsl8
      have HBl := Lib.hid hbl64
      clear b12 HO12 hgx hxl hbl hvl hsl8 hbl64 hcutA hcutB HR
      go_wp2_with (first
        | ((with_reducible refine wpList_load_row rfl 32 (.tmp 10) rfl gv ?hx 32 (wvs s).toArray (0, 0) _ HR12.out.vv Tryd.underlying32 rfl ?hi ?_); (case hx => with_unfolding_all rfl); (case hi => rw [List.size_toArray, HSl8.out]; exact size8))
        | ((with_reducible refine wpList_load_row rfl 33 (.tmp 12) rfl gx ?hx 33 (bvs bl).toArray (0, 0) _ H12.out Tryd.underlying33 rfl ?hi ?_); (case hx => with_unfolding_all rfl); (case hi => rw [List.size_toArray, HXl.out]; exact size64b))
        | (go_at_call 13; (with_reducible refine (step_any s bl Hsl.out HBl.out _ (HG.out.below HR12.out.bl)).mono ?_); rintro e13 w13 ⟨rfl, hb13⟩; have HR13 := Lib.hid (HR12.out.below hb13); clear hb13)
        | ((with_reducible refine wpList_store_only rfl 32 (.tmp 10) (.tmp 73) rfl gv (wvs (stepV s bl)) ?hx ?hy 32 (wvs s).toArray HR13.out.vv ?hi ?ho (wvs_one _) ?_); (case hx => with_unfolding_all rfl); (case hy => with_unfolding_all rfl); (case hi => rw [HVl.out]; exact size8); (case ho => rw [HVl.out, List.size_toArray, HSl8.out]); intro w14 H14 HO14))
      go_roundw
      case rel =>
        have h14 := H14.out
        rw [← HN'.out] at h14
        have hfin := HR13.out.only HO14.out h14
        first
          | exact ⟨j + 1, by omega, by go_num, hfin⟩
          | ((repeat apply Exists.intro); exact ⟨⟨j + 1, by omega, by go_num, hfin⟩, rfl⟩)
      case measure => simp [intOf]; omega
    · have hjM : j = M / 64 := by omega
      obtain ⟨s, hs⟩ : ∃ s, digs startV j al = s := ⟨_, rfl⟩
      have hsl : s.length = 8 := by rw [← hs]; exact digs_length _ _ _ rfl
      have HV : Hid (sumV l = outV s) := by
        show _ = _
        unfold sumV
        rw [HS.out.1, HAl.out, stV, hall, ← hjM, hs]
      rw [hs] at HR
      have Hsl := Lib.hid hsl
      obtain ⟨q, hq⟩ : ∃ q, 64 * j = q := ⟨_, rfl⟩
      rw [hq]
      obtain rfl : q = M := by omega
      clear hs hsl
      obtain ⟨wz, rfl⟩ : ∃ wz, wz = wr := ⟨_, rfl⟩
      have hub : Below w.heap.size w (wz.alloc (.cells #[.slice A n c] 22)) := HR.out.bl.alloc HR.out.bl.size _
      have hsz := HR.out.bl.size
      have HUb := Lib.hid hub
      have hC1 : Calls Tryd.prog 10 #[.slice (some ⟨wz.heap.size, 0, none⟩) 1 1] (wz.alloc (.cells #[.slice A n c] 22)) fun e w' => e = .returned (.agg (bvs (outV s)).toArray) ∧ Below wz.heap.size wz w' := by
        refine (sum_any [⟨A, n, c, l⟩] _ 1 1 (wz.heap.size + 1) _ (HG.out.below hub) ?_ (by simp) (by simp [maxLen]) (by simp [joined, HS.out.1]; omega)).mono ?_
        · refine sls_block (ps := [⟨A, n, c, l⟩]) (heap_alloc_new _ _) (by omega) fun p hp => ?_
          simp only [List.mem_singleton] at hp
          subst hp
          exact ⟨(HS.out.below hub).more (by omega), hnc, hcm, fun a ha => by have := HAb.out a ha; omega⟩
        · rintro e w' ⟨rfl, hb⟩
          rw [show joined [⟨A, n, c, l⟩] = l by simp [joined], HV.out]
          exact ⟨rfl, ((Below.refl _ wz).alloc (Nat.le_refl _) _).trans (hb.mono (by simp))⟩
      have HC1 := Lib.hid hC1
      have hol : (bvs (outV s)).length = 32 := by rw [bvs_length, outV_length]
      have HOl := Lib.hid hol
      clear hC1 hub hol
      have HOne := Lib.hid (bvs_one (outV s))
      go_wp2_with (first
        | (go_at_call 10; (with_reducible refine HC1.out.mono ?_); rintro e15 w15 ⟨rfl, hb15⟩; have HR15 := Lib.hid (HR.out.below hb15); clear hb15)
        | ((with_reducible refine wpList_store_only rfl 26 (.tmp 13) (.tmp 76) rfl w15.heap.size (bvs (outV s)) ?hx ?hy 26 (List.replicate 32 (.int .u8 0)).toArray ?hg ?hi ?ho HOne.out ?_); (case hx => with_unfolding_all rfl); (case hy => with_unfolding_all rfl); (case hg => exact heap_alloc_new _ _); (case hi => rw [size32, HOl.out]); (case ho => rw [HOl.out]; rfl); intro w16 H16 HO16))
      have b16 : Below w15.heap.size w15 w16 := ((Below.refl _ _).alloc (Nat.le_refl _) _).trans (HO16.out.below (by simp) (Nat.le_refl _))
      have HV16 : Hid (w16.heap[gv]? = some (.cells (wvs s).toArray 32 (0, 0))) := (HR15.out.below b16).vv
      have HB16 : Hid (Below w.heap.size w w16) := (HR15.out.below b16).bl
      obtain ⟨gs, hgs⟩ : ∃ gs, w15.heap.size = gs := ⟨_, rfl⟩
      rw [hgs] at H16 ⊢
      clear b16 HO16 hgs HR15 HC1 HUb
      go_loopw [14] (fun i wx => ∃ j : Nat, j ≤ 32 ∧ i = .int .i64 j ∧ Hid (wx.heap[gs]? = some (.cells (bvs (outV s)).toArray 26 (0, 0))) ∧ Hid (wx.heap[gv]? = some (.cells (wvs s).toArray 32 (0, 0))) ∧ Hid (Below w.heap.size w wx)) (fun i _ => 32 - (intOf i).toNat)
      case atStart => exact ⟨0, by omega, rfl, H16, HV16, HB16⟩
      case round =>
        clear H16 HV16 HB16
        obtain ⟨i, hi, rfl, H16, HV16, HB16⟩ := hrel
        by_cases hlt : i < 32
        · obtain ⟨d, hd⟩ : ∃ q, i / 4 = q := ⟨_, rfl⟩
          obtain ⟨m, hm⟩ : ∃ m, i % 4 = m := ⟨_, rfl⟩
          obtain ⟨sh, hsh⟩ : ∃ sh : Nat, 24 - 8 * (m : Int) = (sh : Int) := ⟨24 - 8 * m, by omega⟩
          obtain ⟨y, hy⟩ : ∃ x, s.getD d 0 = x := ⟨_, rfl⟩
          have hqI : (i : Int) / 4 = (d : Int) := by omega
          have hmI : (i : Int) % 4 = (m : Int) := by omega
          have hq8 : (d : Int) < 8 := by omega
          have hm4 : (m : Int) < 4 := by omega
          have hsh32 : (sh : Int) ≤ 24 := by omega
          have cq : wr.cell? ⟨gv, d, none⟩ = some (.int .u32 (wn y)) := by
            rw [cell_of_row _ _ _ _ _ _ HV16.out, List.getElem?_toArray, ← hy]
            exact wvs_get _ _ (by rw [Hsl.out]; omega)
          have cs : wr.cell? ⟨gs, i, none⟩ = some (.int .u8 (wn y / 2 ^ sh % 256)) := by
            rw [byte_out y sh (by omega), cell_of_row _ _ _ _ _ _ H16.out, List.getElem?_toArray, show sh = 24 - 8 * m by omega, ← hm, ← hy, ← hd]
            simp [bvs, outV, hlt]
          have li : (i : Int) < 32 := by omega
          have hwb := wn_bd y
          clear hd hm hy
          go_wp2_with fail
          go_quiet (fail)
          go_wp2_with fail
          exact ⟨⟨i + 1, by omega, by go_num, H16, HV16, below_drewN HB16.out nq⟩, by simp [intOf]; omega⟩
        · obtain rfl : i = 32 := by omega
          have HA := Lib.hid (awake_any wr (HG.out.below HB16.out))
          go_wp2_with (go_at_call 7; (with_reducible refine HA.out.mono ?_); rintro e17 w17 ⟨rfl, hb17⟩; have HB17 := Lib.hid hb17; clear hb17)
          go_ret
          exact ⟨rfl, HB16.out.trans (HB17.out.mono HB16.out.size)⟩
end Go.Proofs.YtahcnjhfkndleaaDoor
