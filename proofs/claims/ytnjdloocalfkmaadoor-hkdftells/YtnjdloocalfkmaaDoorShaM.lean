/-
  The contract of the document's own step.
-/
import Derived.Test.YtnjdloocalfkmaaDoorShaK
namespace Go.Proofs.YtnjdloocalfkmaaDoor
open Go.RowKit Go.Joins
set_option linter.unusedVariables false

/-- a call that only draws, in a region that draws its order -/
theorem quiet_draws {P : Program} {f : FuncId} {args : Array Value} {w : World} {a n : Nat} {v : Value} (h : Calls P f args (w.drewN (a + n)) (Quiet v (w.drewN (a + n)))) :
    Calls P f args (w.drewN (a + n)) fun e w'' => e = .returned v ∧ ∃ m, w'' = w.drewN (a + m) :=
  h.mono fun _ _ ⟨he, k, hk⟩ => ⟨he, n + k, by rw [hk]; simp [World.drewN_drewN, Nat.add_assoc]⟩
theorem quiet_draws0 {P : Program} {f : FuncId} {args : Array Value} {w : World} {n : Nat} {v : Value} (h : Calls P f args (w.drewN n) (Quiet v (w.drewN n))) :
    Calls P f args (w.drewN n) fun e w'' => e = .returned v ∧ ∃ m, w'' = w.drewN m :=
  h.mono fun _ _ ⟨he, k, hk⟩ => ⟨he, n + k, by rw [hk]; simp [World.drewN_drewN]⟩

theorem cell_set_other (u : World) (g i j : Nat) (v : Value) (h : ¬ i = j) : (u.setCell ⟨g, j, none⟩ v).cell? ⟨g, i, none⟩ = u.cell? ⟨g, i, none⟩ :=
  World.cell?_setCell_other _ _ _ _ (fun e => h (by injection e with _ e2; exact e2.symm))

structure RSch (w wr : World) (h : List UInt32) (l : List UInt8) (j : Nat) : Prop where
  b0 : wr.heap[w.heap.size]? = some (.cells (wvs h).toArray 45 (0, 0))
  b1 : ∃ cs, wr.heap[w.heap.size + 1]? = some (.cells cs 45 (0, 0)) ∧ cs.size = 8
  b2 : wr.heap[w.heap.size + 2]? = some (.cells (wrow (sch l j)).toArray 50 (0, 0))
  sz : wr.heap.size = w.heap.size + 3
  bl : Below w.heap.size w wr
theorem RSch.drewN {w wr : World} {h : List UInt32} {l : List UInt8} {j : Nat} (k : RSch w wr h l j) (n : Nat) : RSch w (wr.drewN n) h l j := ⟨k.b0, k.b1, k.b2, k.sz, below_drewN k.bl n⟩
theorem RSch.put {w wr : World} {h : List UInt32} {l : List UInt8} {j : Nat} (k : RSch w wr h l j) (x : UInt32) (hx : sch l (j + 1) = sch l j ++ [x]) (hj : j < 64) :
    RSch w (wr.setCell ⟨w.heap.size + 1 + 1, j, none⟩ (.int .u32 (wn x))) h l (j + 1) := by
  obtain ⟨cs, h1, h1s⟩ := k.b1
  refine ⟨?_, ⟨cs, ?_, h1s⟩, ?_, ?_, ?_⟩
  · rw [heap_setCell_other _ _ _ _ (by simp; omega)]; exact k.b0
  · rw [heap_setCell_other _ _ _ _ (by simp)]; exact h1
  · rw [heap_setCell_same _ _ _ _ _ _ k.b2, hx]
    have e := wrow_set (sch l j) x (by rw [sch_length]; omega)
    rw [sch_length] at e
    rw [← e]
    simp
  · have := k.sz; simp; omega
  · exact k.bl.setCell (by simp; omega) _

structure RRd (w wx : World) (gv gk : Nat) (h s : List UInt32) (l : List UInt8) : Prop where
  b0 : wx.heap[w.heap.size]? = some (.cells (wvs h).toArray 45 (0, 0))
  b1 : ∃ cs, wx.heap[w.heap.size + 1]? = some (.cells cs 45 (0, 0)) ∧ cs.size = 8
  b2 : wx.heap[w.heap.size + 2]? = some (.cells (wvs (sch l 64)).toArray 50 (0, 0))
  bv : wx.heap[gv]? = some (.cells (wvs s).toArray 45 (0, 0))
  bk : ∃ t fr, wx.heap[gk]? = some (.cells (wvs kV).toArray t fr)
  sz : w.heap.size + 3 ≤ gv ∧ gv < wx.heap.size ∧ gk < w.heap.size
  bl : Below w.heap.size w wx
theorem RRd.drewN {w wx : World} {gv gk : Nat} {h s : List UInt32} {l : List UInt8} (k : RRd w wx gv gk h s l) (n : Nat) : RRd w (wx.drewN n) gv gk h s l := ⟨k.b0, k.b1, k.b2, k.bv, k.bk, k.sz, below_drewN k.bl n⟩
theorem RRd.only {w wx w' : World} {gv gk : Nat} {h s s' : List UInt32} {l : List UInt8} (k : RRd w wx gv gk h s l) (ho : Only gv wx w') (hv : w'.heap[gv]? = some (.cells (wvs s').toArray 45 (0, 0))) : RRd w w' gv gk h s' l := by
  obtain ⟨q1, q2, q3⟩ := k.sz
  obtain ⟨cs, h1, h1s⟩ := k.b1
  obtain ⟨t, fr, hk⟩ := k.bk
  have hsz := ho.size
  refine ⟨by rw [ho.block _ (by omega) (by omega)]; exact k.b0, ⟨cs, by rw [ho.block _ (by omega) (by omega)]; exact h1, h1s⟩, by rw [ho.block _ (by omega) (by omega)]; exact k.b2, hv, ⟨t, fr, by rw [ho.block _ (by omega) (by omega)]; exact hk⟩, ⟨q1, by omega, q3⟩, k.bl.trans (ho.below (by omega) (by omega))⟩
theorem rnd_eq (a b c d e f g i k x : UInt32) : [i + (rotr e 6 ^^^ rotr e 11 ^^^ rotr e 25) + (e &&& f ^^^ ~~~e &&& g) + k + x + ((rotr a 2 ^^^ rotr a 13 ^^^ rotr a 22) + (a &&& b ^^^ a &&& c ^^^ b &&& c)), a, b, c,
    d + (i + (rotr e 6 ^^^ rotr e 11 ^^^ rotr e 25) + (e &&& f ^^^ ~~~e &&& g) + k + x), e, f, g] = rnd [a, b, c, d, e, f, g, i] (k + x) := by
  have e1 : i + (rotr e 6 ^^^ rotr e 11 ^^^ rotr e 25) + (e &&& f ^^^ ~~~e &&& g) + k + x = i + (k + x) + big1 e + chV e f g := by
    unfold big1 chV; ac_rfl
  simp only [rnd, e1, big0, majV]

attribute [local go_sem] u32_addw u32_add u32_xor' u32_and' u32_or' u32_notw u32_notm u32_byte u32_bytem u32_shl24 u32_shl16 u32_shl8 u32_shl24w u32_shl16w u32_shl8w u32_shr10 u32_shr3
set_option maxHeartbeats 1000000 in
set_option maxRecDepth 20000 in
theorem rstep_any (h : List UInt32) (l : List UInt8) (b off c gk : Nat) (tk : TypeId) (fk : Nat × Nat) (hh : h.length = 8) (w : World) (hs : Sl w w.heap.size (some ⟨b, off, none⟩) 64 l) (hk : w.heap[gk]? = some (.cells (wvs kV).toArray tk fk)) :
    Calls Tryd.prog 31 #[.agg (wvs h).toArray, .slice (some ⟨b, off, none⟩) 64 c, .pointer (some ⟨gk, 0, none⟩)] w fun e w' => e = .returned (.agg (wvs (stepV h l)).toArray) ∧ Below w.heap.size w w' := by
  have hl := hs.1
  have hgk : gk < w.heap.size := (Array.getElem?_eq_some_iff.1 hk).1
  have hcb : ∀ j, j < 64 → b < w.heap.size ∧ w.cell? ⟨b, off + j, none⟩ = some (.int .u8 (bn (l.getD j 0))) := fun j hj => by
    obtain ⟨b', off', e, hb', hc⟩ := hs.2 (by omega)
    simp only [Option.some.injEq, Addr.mk.injEq, and_true] at e
    obtain ⟨rfl, rfl⟩ := e
    refine ⟨hb', ?_⟩
    rw [hc j (by omega)]
    simp [bv, bn, hl, hj]
  have HC := Lib.hid hcb
  have Hh := Lib.hid hh
  have HK := Lib.hid hk
  clear hh hs hk hl hcb
  go_enter Tryd.func31, Tryd.ntmps31
  go_wp2_with fail
  go_loopw [8] (fun i wr => ∃ j : Nat, j ≤ 64 ∧ i = .int .i64 j ∧ Hid (RSch w wr h l j)) (fun i _ => 64 - (intOf i).toNat)
  case atStart =>
    refine ⟨0, by omega, rfl, ?_⟩
    refine ⟨?_, ⟨(List.replicate 8 (.int .u32 0)).toArray, ?_, rfl⟩, ?_, ?_, ?_⟩
    · exact heap_allocs w [_, _, _] 0 _ rfl
    · exact heap_allocs w [_, _, _] 1 _ rfl
    · exact heap_allocs w [_, _, .cells (List.replicate 64 (.int .u32 0)).toArray 50] 2 _ rfl
    · simp
    · exact (((Below.refl _ _).alloc (Nat.le_refl _) _).alloc (by simp) _).alloc (by simp; omega) _
  case round =>
    obtain ⟨j, hj, rfl, HS⟩ := hrel
    by_cases hlt : j < 64
    · obtain ⟨old, cd⟩ : ∃ old, wr.cell? ⟨w.heap.size + 1 + 1, j, none⟩ = some old := by
        rw [cell_of_row _ _ _ _ _ _ HS.out.b2]
        have := wrow_length (sch l j) (by rw [sch_length]; omega)
        exact ⟨(wrow (sch l j))[j], by simp⟩
      have cf : wr.frozen? ⟨w.heap.size + 1 + 1, j, none⟩ = false := frozen_of_row _ _ _ _ _ HS.out.b2
      have lj : (j : Int) < 64 := by omega
      by_cases h16 : j < 16
      · have hcj : ∀ k, 4 * j + k < 64 → wr.cell? ⟨b, off + (4 * j + k), none⟩ = some (.int .u8 (bn (l.getD (4 * j + k) 0))) := fun k hk => by
          rw [HS.out.bl.cell (HC.out 0 (by omega)).1]
          exact (HC.out _ hk).2
        obtain ⟨q0, e0⟩ : ∃ q, q = 4 * j := ⟨_, rfl⟩
        obtain ⟨q1, e1⟩ : ∃ q, q = 4 * j + 1 := ⟨_, rfl⟩
        obtain ⟨q2, e2⟩ : ∃ q, q = 4 * j + 2 := ⟨_, rfl⟩
        obtain ⟨q3, e3⟩ : ∃ q, q = 4 * j + 3 := ⟨_, rfl⟩
        have c0 := hcj 0 (by omega)
        have c1 := hcj 1 (by omega)
        have c2 := hcj 2 (by omega)
        have c3 := hcj 3 (by omega)
        rw [Nat.add_zero, ← e0] at c0
        rw [← e1] at c1; rw [← e2] at c2; rw [← e3] at c3
        obtain ⟨x0, h0⟩ : ∃ x, l.getD q0 0 = x := ⟨_, rfl⟩
        obtain ⟨x1, h1⟩ : ∃ x, l.getD q1 0 = x := ⟨_, rfl⟩
        obtain ⟨x2, h2⟩ : ∃ x, l.getD q2 0 = x := ⟨_, rfl⟩
        obtain ⟨x3, h3⟩ : ∃ x, l.getD q3 0 = x := ⟨_, rfl⟩
        rw [h0] at c0; rw [h1] at c1; rw [h2] at c2; rw [h3] at c3
        have HX : Hid (be4 l j = x0.toUInt32 <<< 24 ||| x1.toUInt32 <<< 16 ||| x2.toUInt32 <<< 8 ||| x3.toUInt32) := by
          show _ = _
          unfold be4
          rw [← h0, ← h1, ← h2, ← h3, e0, e1, e2, e3]
        have i0 : (q0 : Int) < 64 := by omega
        have i1 : (q1 : Int) < 64 := by omega
        have i2 : (q2 : Int) < 64 := by omega
        have i3 : (q3 : Int) < 64 := by omega
        have v0 : IntKind.i64.wrap (4 * (j : Int)) = (q0 : Int) := by rw [IntWalk.i64_in _ (by omega)]; omega
        have v1 : IntKind.i64.wrap ((q0 : Int) + 1) = (q1 : Int) := by rw [IntWalk.i64_in _ (by omega)]; omega
        have v2 : IntKind.i64.wrap ((q0 : Int) + 2) = (q2 : Int) := by rw [IntWalk.i64_in _ (by omega)]; omega
        have v3 : IntKind.i64.wrap ((q0 : Int) + 3) = (q3 : Int) := by rw [IntWalk.i64_in _ (by omega)]; omega
        have lj16 : (j : Int) < 16 := by omega
        clear h0 h1 h2 h3 hcj e0 e1 e2 e3
        go_wp2_with fail
        refine wp_tail 35 (by kernel_rfl) (by kernel_rfl) ?_
        simp only [List.take_succ_cons, List.take_zero, List.drop_succ_cons, List.drop_zero]
        repeat still_step
        refine wpStill_nil ?_
        go_wp2
        go_roundw
        case rel =>
          have hfin := (HS.out.put _ (by rw [sch, if_pos h16, HX.out]) hlt).drewN 1
          first
            | exact ⟨j + 1, by omega, by go_num, hfin⟩
            | ((repeat apply Exists.intro); exact ⟨⟨j + 1, by omega, by go_num, hfin⟩, rfl⟩)
        case measure => simp [intOf]; omega
      · obtain ⟨k2, e2⟩ : ∃ k : Nat, (j : Int) - 2 = (k : Int) := ⟨j - 2, by omega⟩
        obtain ⟨k15, e15⟩ : ∃ k : Nat, (j : Int) - 15 = (k : Int) := ⟨j - 15, by omega⟩
        obtain ⟨k7, e7⟩ : ∃ k : Nat, (j : Int) - 7 = (k : Int) := ⟨j - 7, by omega⟩
        obtain ⟨k0, e0⟩ : ∃ k : Nat, (j : Int) - 16 = (k : Int) := ⟨j - 16, by omega⟩
        have hc : ∀ k, k < j → wr.cell? ⟨w.heap.size + 1 + 1, k, none⟩ = some (.int .u32 (wn ((sch l j).getD k 0))) := fun k hk => by
          rw [cell_of_row _ _ _ _ _ _ HS.out.b2]
          simpa using wrow_get (sch l j) k (by rw [sch_length]; exact hk)
        have c2 := hc k2 (by omega)
        have c15 := hc k15 (by omega)
        have c7 := hc k7 (by omega)
        have c0 := hc k0 (by omega)
        obtain ⟨x2, h2⟩ : ∃ x, (sch l j).getD k2 0 = x := ⟨_, rfl⟩
        obtain ⟨x15, h15⟩ : ∃ x, (sch l j).getD k15 0 = x := ⟨_, rfl⟩
        obtain ⟨x7, h7⟩ : ∃ x, (sch l j).getD k7 0 = x := ⟨_, rfl⟩
        obtain ⟨x0, h0⟩ : ∃ x, (sch l j).getD k0 0 = x := ⟨_, rfl⟩
        rw [h2] at c2; rw [h15] at c15; rw [h7] at c7; rw [h0] at c0
        have HX : Hid (mixV (sch l j) j = x0 + (rotr x15 7 ^^^ rotr x15 18 ^^^ x15 >>> 3) + x7 + (rotr x2 17 ^^^ rotr x2 19 ^^^ x2 >>> 10)) := by
          show _ = _
          unfold mixV
          rw [show j - 16 = k0 by omega, show j - 7 = k7 by omega, show j - 2 = k2 by omega, show j - 15 = k15 by omega, h0, h7, h2, h15]
          unfold sig0 sig1
          ac_rfl
        have l2 : (k2 : Int) < 64 := by omega
        have l15 : (k15 : Int) < 64 := by omega
        have l7 : (k7 : Int) < 64 := by omega
        have l0 : (k0 : Int) < 64 := by omega
        have n0 : ¬ k0 = j := by omega
        have n7 : ¬ k7 = j := by omega
        have t16 : decide ((j : Int) < 16) = false := by simp; omega
        have v0 : IntKind.i64.wrap (k0 : Int) = (k0 : Int) := IntWalk.i64_in _ (by omega)
        have v7 : IntKind.i64.wrap (k7 : Int) = (k7 : Int) := IntWalk.i64_in _ (by omega)
        clear hc h0 h7 h2 h15
        go_wp2_with fail
        go_quiet (fail)
        go_wp2_with fail
        go_region_held3 (fun u => u.cell? ⟨w.heap.size + 1 + 1, k0, none⟩ = some (.int .u32 (wn x0)) ∧ u.cell? ⟨w.heap.size + 1 + 1, k7, none⟩ = some (.int .u32 (wn x7))) (first | go_keep | exact ⟨(cell_set_other _ _ _ _ _ n0).trans c0, (cell_set_other _ _ _ _ _ n7).trans c7⟩)
          (first
            | (go_at_call_of 33 (Value.int IntKind.i64 7); refine (rturn_7 _ _).mono ?_; rintro e1 w1 ⟨rfl, n1, rfl⟩)
            | (go_at_call_of 33 (Value.int IntKind.i64 18); refine (rturn_18 _ _).mono ?_; rintro e1 w1 ⟨rfl, n2, rfl⟩)
            | (go_at_call_of 33 (Value.int IntKind.i64 17); refine (rturn_17 _ _).mono ?_; rintro e1 w1 ⟨rfl, n3, rfl⟩)
            | (go_at_call_of 33 (Value.int IntKind.i64 19); refine (rturn_19 _ _).mono ?_; rintro e1 w1 ⟨rfl, n4, rfl⟩))
        go_wp2_with fail
        go_roundw
        case rel =>
          have hfin := (HS.out.drewN (nq + 1 + n1 + n2 + n3 + n4)).put _ (by rw [sch, if_neg h16, HX.out]) hlt
          first
            | exact ⟨j + 1, by omega, by go_num, hfin⟩
            | ((repeat apply Exists.intro); exact ⟨⟨j + 1, by omega, by go_num, hfin⟩, rfl⟩)
        case measure => simp [intOf]; omega
    · obtain rfl : j = 64 := by omega
      have hw64 := HS.out.b2
      rw [wrow_full _ (sch_length _ _)] at hw64
      have HW := Lib.hid hw64
      clear hw64
      obtain ⟨gv, hgv⟩ : ∃ gv, wr.heap.size = gv := ⟨_, rfl⟩
      have hgv3 : gv = w.heap.size + 3 := by rw [← hgv]; exact HS.out.sz
      have hh8 : (wvs h).length = 8 := by rw [wvs_length]; exact Hh.out
      have H8 := Lib.hid hh8
      have HG3 := Lib.hid hgv3
      have HGv := Lib.hid hgv
      clear hh8 hgv3 hgv
      go_wp2_with (first
        | ((with_reducible refine wpList_load_row rfl 45 (.tmp 3) rfl w.heap.size ?hx 45 (wvs h).toArray (0, 0) _ HS.out.b0 Tryd.underlying45 rfl ?hi ?_); (case hx => with_unfolding_all rfl); (case hi => rw [List.size_toArray, H8.out]; exact size8))
        | ((with_reducible refine wpList_store_only rfl 45 (.tmp 11) (.tmp 96) rfl wr.heap.size (wvs h) ?hx ?hy 45 (List.replicate 8 (.int .u32 0)).toArray ?hg ?hi ?ho (wvs_one _) ?_); (case hx => with_unfolding_all rfl); (case hy => with_unfolding_all rfl); (case hg => exact heap_alloc_new _ _); (case hi => rw [H8.out]; exact size8); (case ho => rw [H8.out]; rfl); intro wv0 HV0 HVo))
      have hR : RRd w wv0 gv gk h h l := by
        have hsz := HS.out.sz
        have hs := HVo.out.size
        have hv := HV0.out
        rw [HGv.out] at hv
        obtain ⟨cs, h1, h1s⟩ := HS.out.b1
        have blk : ∀ k, k < w.heap.size + 3 → wv0.heap[k]? = wr.heap[k]? := fun k hk => by
          rw [HVo.out.block k (by simp; omega) (by omega), Below.heap_alloc _ _ _ (by omega)]
        refine ⟨by rw [blk _ (by omega)]; exact HS.out.b0, ⟨cs, by rw [blk _ (by omega)]; exact h1, h1s⟩, by rw [blk _ (by omega)]; exact HW.out, hv, ⟨tk, fk, ?_⟩, ⟨by have := HG3.out; omega, ?_, hgk⟩, ?_⟩
        · rw [blk gk (by omega), HS.out.bl.block gk hgk]; exact HK.out
        · have := HG3.out
          simp at hs
          omega
        · exact (HS.out.bl.alloc HS.out.bl.size _).trans (HVo.out.below (by simp; omega) (by omega))
      have HR := Lib.hid hR
      have hgv := HGv.out
      clear hR HV0 HVo
      rw [hgv]
      clear hgv
      go_loopw [12] (fun i wx => ∃ j : Nat, j ≤ 64 ∧ i = .int .i64 j ∧ Hid (RRd w wx gv gk h (rst h (sch l 64) j) l)) (fun i _ => 64 - (intOf i).toNat)
      case atStart => exact ⟨0, by omega, rfl, HR⟩
      case round =>
        clear HR
        obtain ⟨j, hj, rfl, HR⟩ := hrel
        by_cases hlt : j < 64
        · obtain ⟨s, hs⟩ : ∃ s, rst h (sch l 64) j = s := ⟨_, rfl⟩
          obtain ⟨x, hx⟩ : ∃ x, (sch l 64).getD j 0 = x := ⟨_, rfl⟩
          obtain ⟨k, hk⟩ : ∃ k, kV.getD j 0 = k := ⟨_, rfl⟩
          have HN : Hid (rst h (sch l 64) (j + 1) = rnd s (k + x)) := by
            show _ = _
            rw [rst, hs, hx, hk]
          have hsl : s.length = 8 := by rw [← hs]; exact rst_length _ _ _ Hh.out
          rw [hs] at HR
          obtain ⟨s0, s1, s2, s3, s4, s5, s6, s7, rfl⟩ := eight s hsl
          have hcv : ∀ q, q < 8 → wr.cell? ⟨gv, q, none⟩ = some (.int .u32 (wn ([s0, s1, s2, s3, s4, s5, s6, s7].getD q 0))) := fun q hq => by
            rw [cell_of_row _ _ _ _ _ _ HR.out.bv, List.getElem?_toArray]
            exact wvs_get _ _ hq
          have c0 : wr.cell? ⟨gv, 0, none⟩ = some (.int .u32 (wn s0)) := hcv 0 (by omega)
          have c1 : wr.cell? ⟨gv, 1, none⟩ = some (.int .u32 (wn s1)) := hcv 1 (by omega)
          have c2 : wr.cell? ⟨gv, 2, none⟩ = some (.int .u32 (wn s2)) := hcv 2 (by omega)
          have c3 : wr.cell? ⟨gv, 3, none⟩ = some (.int .u32 (wn s3)) := hcv 3 (by omega)
          have c4 : wr.cell? ⟨gv, 4, none⟩ = some (.int .u32 (wn s4)) := hcv 4 (by omega)
          have c5 : wr.cell? ⟨gv, 5, none⟩ = some (.int .u32 (wn s5)) := hcv 5 (by omega)
          have c6 : wr.cell? ⟨gv, 6, none⟩ = some (.int .u32 (wn s6)) := hcv 6 (by omega)
          have c7 : wr.cell? ⟨gv, 7, none⟩ = some (.int .u32 (wn s7)) := hcv 7 (by omega)
          have ck : wr.cell? ⟨gk, j, none⟩ = some (.int .u32 (wn k)) := by
            obtain ⟨t1, f1, hk1⟩ := HR.out.bk
            rw [cell_of_row _ _ _ _ _ _ hk1, List.getElem?_toArray, ← hk]
            exact wvs_get _ _ (by rw [kV_length]; exact hlt)
          have cw : wr.cell? ⟨w.heap.size + 1 + 1, j, none⟩ = some (.int .u32 (wn x)) := by
            rw [cell_of_row _ _ _ _ _ _ HR.out.b2, List.getElem?_toArray, ← hx]
            exact wvs_get _ _ (by rw [sch_length]; exact hlt)
          have lj : (j : Int) < 64 := by omega
          clear hcv hs hx hk hsl
          go_wp2_with fail
          go_quiet (first
            | (go_at_call_of 33 (Value.int IntKind.i64 6); exact quiet_draws0 (rturn_6 _ _))
            | (go_at_call_of 33 (Value.int IntKind.i64 11); exact quiet_draws0 (rturn_11 _ _))
            | (go_at_call_of 33 (Value.int IntKind.i64 25); exact quiet_draws0 (rturn_25 _ _)))
          go_wp2_with fail
          go_quiet (first
            | (go_at_call_of 33 (Value.int IntKind.i64 2); exact quiet_draws (rturn_2 _ _))
            | (go_at_call_of 33 (Value.int IntKind.i64 13); exact quiet_draws (rturn_13 _ _))
            | (go_at_call_of 33 (Value.int IntKind.i64 22); exact quiet_draws (rturn_22 _ _)))
          go_wp2_with ((with_reducible refine wpList_store_only rfl 45 (.tmp 11) (.tmp 180) rfl gv (wvs [s7 + (rotr s4 6 ^^^ rotr s4 11 ^^^ rotr s4 25) + (s4 &&& s5 ^^^ ~~~s4 &&& s6) + k + x + ((rotr s0 2 ^^^ rotr s0 13 ^^^ rotr s0 22) + (s0 &&& s1 ^^^ s0 &&& s2 ^^^ s1 &&& s2)), s0, s1, s2, s3 + (s7 + (rotr s4 6 ^^^ rotr s4 11 ^^^ rotr s4 25) + (s4 &&& s5 ^^^ ~~~s4 &&& s6) + k + x), s4, s5, s6]) ?hx ?hy 45 (wvs [s0, s1, s2, s3, s4, s5, s6, s7]).toArray ?hg ?hi ?ho (wvs_one _) ?_); (case hx => with_unfolding_all rfl); (case hy => with_unfolding_all rfl); (case hg => exact HR.out.bv); (case hi => exact size8); (case ho => rfl); intro w5 H5 HO5)
          go_roundw
          case rel =>
            have h5 := H5.out
            rw [rnd_eq s0 s1 s2 s3 s4 s5 s6 s7 k x, ← HN.out] at h5
            have hfin := HR.out.only ((Only.of_below (below_drewN (Below.refl _ _) _)).trans HO5.out) h5
            first
              | exact ⟨j + 1, by omega, by go_num, hfin⟩
              | ((repeat apply Exists.intro); exact ⟨⟨j + 1, by omega, by go_num, hfin⟩, rfl⟩)
          case measure => simp [intOf]; omega
        · obtain rfl : j = 64 := by omega
          obtain ⟨s, hs⟩ : ∃ s, rst h (sch l 64) 64 = s := ⟨_, rfl⟩
          have hsl : s.length = 8 := by rw [← hs]; exact rst_length _ _ _ Hh.out
          have HV : Hid (stepV h l = List.zipWith (· + ·) s h) := by
            show _ = _
            rw [stepV, hs, List.zipWith_comm]
            congr 1
            funext x y
            exact UInt32.add_comm _ _
          rw [hs] at HR
          have Hsl := Lib.hid hsl
          clear hs hsl
          go_wp2_with fail
          go_loopw [17] (fun i wx => ∃ j : Nat, j ≤ 8 ∧ i = .int .i64 j ∧ Hid (RRd w wx gv gk h (part8 s h j) l)) (fun i _ => 8 - (intOf i).toNat)
          case atStart => exact ⟨0, by omega, rfl, HR⟩
          case round =>
            clear HR
            obtain ⟨j, hj, rfl, HR⟩ := hrel
            by_cases hlt : j < 8
            · obtain ⟨x, hx⟩ : ∃ x, s.getD j 0 = x := ⟨_, rfl⟩
              obtain ⟨y, hy⟩ : ∃ x, h.getD j 0 = x := ⟨_, rfl⟩
              have cv : wr.cell? ⟨gv, j, none⟩ = some (.int .u32 (wn x)) := by
                rw [cell_of_row _ _ _ _ _ _ HR.out.bv, List.getElem?_toArray, ← hx, ← part8_get s h j Hsl.out Hh.out hlt]
                exact wvs_get (part8 s h j) j (by rw [part8_length _ _ _ Hsl.out Hh.out hj]; exact hlt)
              have c0 : wr.cell? ⟨w.heap.size, j, none⟩ = some (.int .u32 (wn y)) := by
                rw [cell_of_row _ _ _ _ _ _ HR.out.b0, List.getElem?_toArray, ← hy]
                exact wvs_get h j (by rw [Hh.out]; exact hlt)
              have cf : wr.frozen? ⟨gv, j, none⟩ = false := frozen_of_row _ _ _ _ _ HR.out.bv
              have lj : (j : Int) < 8 := by omega
              have HN : Hid (part8 s h (j + 1) = (part8 s h j).set j (x + y)) := by
                show _ = _
                rw [← part8_set s h j Hsl.out Hh.out hlt, hx, hy]
              clear hx hy
              go_wp2_with fail
              refine wp_tail 9 (by kernel_rfl) (by kernel_rfl) ?_
              simp only [List.take_succ_cons, List.take_zero, List.drop_succ_cons, List.drop_zero]
              repeat still_step
              refine wpStill_nil ?_
              go_wp2
              go_roundw
              case rel =>
                have h5 : (wr.setCell ⟨gv, j, none⟩ (.int .u32 (wn (x + y)))).heap[gv]? = some (.cells (wvs (part8 s h (j + 1))).toArray 45 (0, 0)) := by
                  rw [heap_setCell_same _ _ _ _ _ _ HR.out.bv, HN.out, ← wvs_set]; simp
                have hfin := (HR.out.only ((Only.refl gv wr).setCell j _) h5).drewN 1
                first
                  | exact ⟨j + 1, by omega, by go_num, hfin⟩
                  | ((repeat apply Exists.intro); exact ⟨⟨j + 1, by omega, by go_num, hfin⟩, rfl⟩)
              case measure => simp [intOf]; omega
            · obtain rfl : j = 8 := by omega
              rw [part8_full _ _ Hsl.out Hh.out, ← HV.out] at HR
              have hvl : (wvs (stepV h l)).length = 8 := by rw [wvs_length]; exact stepV_length _ _ Hh.out
              have HVl := Lib.hid hvl
              obtain ⟨cs, h2, h2s⟩ := HR.out.b1
              have H2 := Lib.hid h2
              clear h2 hvl
              go_wp2_with (first
                | ((with_reducible refine wpList_load_row rfl 45 (.tmp 11) rfl gv ?hx 45 _ (0, 0) _ HR.out.bv Tryd.underlying45 rfl ?hi ?_); (case hx => with_unfolding_all rfl); (case hi => rw [List.size_toArray, HVl.out]; exact size8))
                | ((with_reducible refine wpList_store_vals rfl 45 (.tmp 6) (.tmp 194) rfl (w.heap.size + 1) (wvs (stepV h l)) ?hx ?hy 45 cs H2.out ?hi ?ho (wvs_one _) ?_); (case hx => with_unfolding_all rfl); (case hy => with_unfolding_all rfl); (case hi => rw [HVl.out]; exact size8); (case ho => rw [HVl.out, h2s])))
              refine ret_row Tryd.results31 (w.heap.size + 1) 45 _ (0, 0) 8 44 rfl (setRow_heap _ _ _ _ _ _ H2.out) Tryd.underlying45 ?hi rfl ⟨rfl, ?_⟩
              · rw [List.size_toArray, HVl.out]; exact size8
              · exact below_setRow HR.out.bl (by omega) _
end Go.Proofs.YtnjdloocalfkmaaDoor
