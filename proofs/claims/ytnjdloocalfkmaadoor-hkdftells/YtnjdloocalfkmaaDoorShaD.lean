/-
  The contract of Step.
-/
import Derived.Test.YtnjdloocalfkmaaDoorShaC
namespace Go.Proofs.YtnjdloocalfkmaaDoor
open Go.RowKit
set_option linter.unusedVariables false

/-- the package's tables, as the program's text lays them -/
structure Glob (w : World) : Prop where
  st : ∃ t fr, w.heap[0]? = some (.cells (wvs startV).toArray t fr)
  ks : ∃ t fr, w.heap[1]? = some (.cells (wvs kV).toArray t fr)
theorem Glob.size {w : World} (h : Glob w) : 2 ≤ w.heap.size := by
  obtain ⟨t, fr, h⟩ := h.ks
  have := (Array.getElem?_eq_some_iff.1 h).1
  omega
theorem Glob.below {w w' : World} (h : Glob w) (hb : Below w.heap.size w w') : Glob w' := by
  have hs := h.size
  obtain ⟨t0, f0, h0⟩ := h.st
  obtain ⟨t1, f1, h1⟩ := h.ks
  exact ⟨⟨t0, f0, by rw [hb.block 0 (by omega)]; exact h0⟩, ⟨t1, f1, by rw [hb.block 1 (by omega)]; exact h1⟩⟩
theorem Glob.cell {w : World} (h : Glob w) (j : Nat) (hj : j < 64) : w.cell? ⟨1, j, none⟩ = some (.int .u32 (wn (kV.getD j 0))) := by
  obtain ⟨t1, f1, h1⟩ := h.ks
  rw [cell_of_row _ _ _ _ _ _ h1]
  have h := hj
  rw [← kV_length] at h
  simp [wvs, wv, h]

/-- the first i words added up -/
def part8 (h s : List UInt32) (i : Nat) : List UInt32 := List.zipWith (· + ·) (h.take i) (s.take i) ++ h.drop i
theorem part8_length (h s : List UInt32) (i : Nat) (hh : h.length = 8) (hs : s.length = 8) (hi : i ≤ 8) : (part8 h s i).length = 8 := by
  simp [part8, hh, hs]; omega
theorem part8_get (h s : List UInt32) (i : Nat) (hh : h.length = 8) (hs : s.length = 8) (hi : i < 8) : (part8 h s i).getD i 0 = h.getD i 0 := by
  simp [part8, List.getD_eq_getElem?_getD, List.getElem?_append, hh, hs, Nat.min_eq_left (Nat.le_of_lt hi)]
theorem part8_set (h s : List UInt32) (i : Nat) (hh : h.length = 8) (hs : s.length = 8) (hi : i < 8) : (part8 h s i).set i (h.getD i 0 + s.getD i 0) = part8 h s (i + 1) := by
  match h, s, hh, hs with
  | [a0, a1, a2, a3, a4, a5, a6, a7], [b0, b1, b2, b3, b4, b5, b6, b7], _, _ =>
    have : i = 0 ∨ i = 1 ∨ i = 2 ∨ i = 3 ∨ i = 4 ∨ i = 5 ∨ i = 6 ∨ i = 7 := by omega
    rcases this with rfl | rfl | rfl | rfl | rfl | rfl | rfl | rfl <;> rfl
theorem part8_full (h s : List UInt32) (hh : h.length = 8) (hs : s.length = 8) : part8 h s 8 = List.zipWith (· + ·) h s := by
  simp [part8, hh, hs, List.take_of_length_le]

theorem wvs_get (l : List UInt32) (j : Nat) (h : j < l.length) : (wvs l)[j]? = some (.int .u32 (wn (l.getD j 0))) := by
  simp [wvs, h, wv]
theorem wvs_set (l : List UInt32) (j : Nat) (x : UInt32) : (wvs l).set j (.int .u32 (wn x)) = wvs (l.set j x) := by
  unfold wvs
  rw [List.map_set]
  rfl
theorem eight (l : List UInt32) (h : l.length = 8) : ∃ a b c d e f g i, l = [a, b, c, d, e, f, g, i] := by
  match l, h with
  | [a, b, c, d, e, f, g, i], _ => exact ⟨a, b, c, d, e, f, g, i, rfl⟩

/-- round, of a state that is a list -/
theorem round_list (s : List UInt32) (hs : s.length = 8) (x : UInt32) (w : World) :
    Calls Tryd.prog 35 #[.agg (wvs s).toArray, .int .u32 (wn x)] w fun e' w' => e' = .returned (.agg (wvs (rnd s x)).toArray) ∧ Below w.heap.size w w' := by
  obtain ⟨a, b, c, d, e, f, g, i, rfl⟩ := eight s hs
  exact round_any a b c d e f g i x w

structure Stp (w wr : World) (h cur s : List UInt32) : Prop where
  b0 : wr.heap[w.heap.size]? = some (.cells (wvs cur).toArray 45 (0, 0))
  b2 : ∃ cs, wr.heap[w.heap.size + 2]? = some (.cells cs 45 (0, 0)) ∧ cs.size = 8
  b3 : wr.heap[w.heap.size + 3]? = some (.cells (wvs s).toArray 45 (0, 0))
  sz : w.heap.size + 4 ≤ wr.heap.size
  bl : Below w.heap.size w wr
theorem Stp.drew {w wr : World} {h c s : List UInt32} (k : Stp w wr h c s) : Stp w wr.drew h c s := ⟨k.b0, k.b2, k.b3, k.sz, k.bl.drew⟩
theorem Stp.drewN {w wr : World} {h c s : List UInt32} (k : Stp w wr h c s) (n : Nat) : Stp w (wr.drewN n) h c s := ⟨k.b0, k.b2, k.b3, k.sz, below_drewN k.bl n⟩
theorem Stp.below {w wr w' : World} {h c s : List UInt32} (k : Stp w wr h c s) (hb : Below wr.heap.size wr w') : Stp w w' h c s := by
  have hs := k.sz
  obtain ⟨cs, h2, h2s⟩ := k.b2
  refine ⟨by rw [hb.block _ (by omega)]; exact k.b0, ⟨cs, by rw [hb.block _ (by omega)]; exact h2, h2s⟩, by rw [hb.block _ (by omega)]; exact k.b3, ?_, k.bl.trans (hb.mono (by omega))⟩
  have := hb.size; omega
theorem Stp.set3 {w wr : World} {h c s s' : List UInt32} (k : Stp w wr h c s) : Stp w (wr.setRow (w.heap.size + 3) (wvs s').toArray) h c s' := by
  obtain ⟨cs, h2, h2s⟩ := k.b2
  refine ⟨?_, ⟨cs, ?_, h2s⟩, ?_, ?_, ?_⟩
  · rw [setRow_other _ _ _ _ (by omega)]; exact k.b0
  · rw [setRow_other _ _ _ _ (by omega)]; exact h2
  · exact setRow_heap _ _ _ _ _ _ k.b3
  · rw [setRow_size]; exact k.sz
  · exact below_setRow k.bl (by omega) _
theorem Stp.put {w wr : World} {h c s : List UInt32} (k : Stp w wr h c s) (i : Nat) (x : UInt32) : Stp w (wr.setCell ⟨w.heap.size, i, none⟩ (.int .u32 (wn x))) h (c.set i x) s := by
  obtain ⟨cs, h2, h2s⟩ := k.b2
  refine ⟨?_, ⟨cs, ?_, h2s⟩, ?_, ?_, ?_⟩
  · rw [heap_setCell_same _ _ _ _ _ _ k.b0, ← wvs_set]; simp
  · rw [heap_setCell_other _ _ _ _ (by simp)]; exact h2
  · rw [heap_setCell_other _ _ _ _ (by simp)]; exact k.b3
  · have := k.sz; simp; omega
  · exact k.bl.setCell (Nat.le_refl _) _

theorem size4 : (Tryd.prog.info? 44).map (·.size) = some 1 := by kernel_rfl

attribute [local go_sem] u32_addw u32_add
set_option maxHeartbeats 1000000 in
theorem step_any (h : List UInt32) (l : List UInt8) (hh : h.length = 8) (hl : l.length = 64) (w : World) (hG : Glob w) :
    Calls Tryd.prog 32 #[.agg (wvs h).toArray, .agg (bvs l).toArray] w fun e w' => e = .returned (.agg (wvs (stepV h l)).toArray) ∧ Below w.heap.size w w' := by
  have Hl := Lib.hid hl
  have Hh := Lib.hid hh
  have HG := Lib.hid hG
  clear hl hh hG
  go_enter Tryd.func32, Tryd.ntmps32
  have h8 : (Tryd.prog.info? 45).map (·.size) = some (wvs h).length := by rw [wvs_length, Hh.out]; exact size8
  have h8' : (Tryd.prog.info? 45).map (·.size) = some (wvs h).toArray.size := by rw [List.size_toArray]; exact h8
  have h64 : (Tryd.prog.info? 40).map (·.size) = some (bvs l).toArray.size := by rw [List.size_toArray, bvs_length, Hl.out]; exact size64b
  have H8 := Lib.hid h8
  have H8' := Lib.hid h8'
  have H64 := Lib.hid h64
  have e8 : 8 = (wvs h).length := by rw [wvs_length, Hh.out]
  have E8 := Lib.hid e8
  clear h8 h8' h64 e8
  go_wp2_with (first
    | ((with_reducible refine wpList_load_row rfl 45 (.tmp 2) rfl w.heap.size ?hx 45 (wvs h).toArray (0, 0) _ ?hg Tryd.underlying45 rfl H8'.out ?_); (case hx => with_unfolding_all rfl); (case hg => exact heap_allocs w [_, _, _] 0 _ rfl))
    | ((with_reducible refine wpList_store_vals rfl 45 (.tmp 5) (.tmp 9) rfl (w.heap.size + 3) (wvs h) ?hx ?hy 45 (List.replicate 8 (.int .u32 0)).toArray ?hg H8.out ?ho (wvs_one _) ?_); (case hx => with_unfolding_all rfl); (case hy => with_unfolding_all rfl); (case hg => exact heap_allocs w [_, _, _, _] 3 _ rfl); (case ho => exact E8.out))
    | ((with_reducible refine wpList_load_row rfl 40 (.tmp 3) rfl (w.heap.size + 1) ?hx 40 (bvs l).toArray (0, 0) _ ?hg Tryd.underlying40 rfl H64.out ?_); (case hx => with_unfolding_all rfl); (case hg => rw [setRow_other _ _ _ _ (by omega)]; exact heap_allocs w [_, _, _, _] 1 _ rfl))
    | (go_at_call 34; (with_reducible refine (schedule_any l Hl.out _).mono ?_); rintro e1 w1 ⟨rfl, hb1⟩))
  have HS : Stp w w1 h h h := by
    refine Stp.below (Stp.set3 (s := List.replicate 8 0) ?_) hb1
    refine ⟨?_, ⟨(List.replicate 8 (.int .u32 0)).toArray, ?_, rfl⟩, ?_, ?_, ?_⟩
    · exact heap_allocs w [_, _, _, _] 0 _ rfl
    · exact heap_allocs w [_, _, _, _] 2 _ rfl
    · exact heap_allocs w [_, _, _, _] 3 _ rfl
    · simp
    · exact ((((Below.refl _ _).alloc (Nat.le_refl _) _).alloc (by simp) _).alloc (by simp; omega) _).alloc (by simp; omega) _
  have HS := Lib.hid HS
  clear hb1
  go_loopw [12] (fun i wr => ∃ j : Nat, j ≤ 64 ∧ i = .int .i64 j ∧ Hid (Stp w wr h h (rst h (sch l 64) j))) (fun i _ => 64 - (intOf i).toNat)
  case atStart => exact ⟨0, by omega, rfl, HS⟩
  case round =>
    clear HS
    obtain ⟨j, hj, rfl, HS⟩ := hrel
    by_cases hlt : j < 64
    · obtain ⟨s, hs⟩ : ∃ s, rst h (sch l 64) j = s := ⟨_, rfl⟩
      obtain ⟨x, hx⟩ : ∃ x, (sch l 64).getD j 0 = x := ⟨_, rfl⟩
      obtain ⟨k, hk⟩ : ∃ k, kV.getD j 0 = k := ⟨_, rfl⟩
      rw [hs] at HS
      have hsl : s.length = 8 := by rw [← hs]; exact rst_length _ _ _ Hh.out
      have hidx : ∀ u : World, (Instr.index 50 (.agg (wvs (sch l 64)).toArray) (.int .i64 (j : Int))).run Tryd.prog u = .ok (.int .u32 (wn x)) u := fun u =>
        run_index_vals u 50 44 64 Tryd.underlying50 size4 _ rfl Tryd.underlying44 _ j _ hlt (by rw [← hx]; exact wvs_get _ _ (by rw [sch_length]; exact hlt))
      have ck : wr.cell? ⟨1, j, none⟩ = some (.int .u32 (wn k)) := by rw [← hk]; exact (HG.out.below HS.out.bl).cell j hlt
      have lj : (j : Int) < 64 := by omega
      have HN : Hid (rst h (sch l 64) (j + 1) = rnd s (k + x)) := by
        show _ = _
        rw [rst, hs, hx, hk]
      have Hsl := Lib.hid hsl
      clear hs hx hk hsl
      go_wp2_with fail
      refine wp_tail 6 (by kernel_rfl) (by kernel_rfl) ?_
      simp only [List.take_succ_cons, List.take_zero, List.drop_succ_cons, List.drop_zero]
      refine wpStill_load_row rfl 45 (.tmp 5) rfl (w.heap.size + 3) (by with_unfolding_all rfl) 45 (wvs s).toArray (0, 0) _ HS.out.b3 Tryd.underlying45 rfl (by rw [size8]; simp [wvs_length, Hsl.out]) ?_
      repeat still_step
      refine wpStill_nil ?_
      go_wp2_with fail
      (with_reducible refine (round_list s Hsl.out (k + x) _).mono ?_)
      rintro e2 w2 ⟨rfl, hb2⟩
      have HS2 := Lib.hid (HS.out.drew.below hb2)
      clear hb2
      have hrl : (rnd s (k + x)).length = 8 := rnd_length _ _ Hsl.out
      have HR := Lib.hid hrl
      clear hrl
      go_wp2_with ((with_reducible refine wpList_store_vals rfl 45 (.tmp 5) (.tmp 22) rfl (w.heap.size + 3) (wvs (rnd s (k + x))) ?hx ?hy 45 (wvs s).toArray HS2.out.b3 ?hi ?ho (wvs_one _) ?_); (case hx => with_unfolding_all rfl); (case hy => with_unfolding_all rfl); (case hi => rw [wvs_length, HR.out]; exact size8); (case ho => simp only [List.size_toArray, wvs_length, HR.out, Hsl.out]))
      go_roundw
      case rel =>
        have hfin : Hid (Stp w (w2.setRow (w.heap.size + 3) (wvs (rnd s (k + x))).toArray) h h (rst h (sch l 64) (j + 1))) := by
          rw [HN.out]
          exact HS2.out.set3
        first
          | exact ⟨j + 1, by omega, by go_num, hfin⟩
          | ((repeat apply Exists.intro); exact ⟨⟨j + 1, by omega, by go_num, hfin⟩, rfl⟩)
      case measure => simp [intOf]; omega
    · obtain rfl : j = 64 := by omega
      obtain ⟨s, hs⟩ : ∃ s, rst h (sch l 64) 64 = s := ⟨_, rfl⟩
      rw [hs] at HS
      have hsl : s.length = 8 := by rw [← hs]; exact rst_length _ _ _ Hh.out
      have HV : Hid (stepV h l = List.zipWith (· + ·) h s) := by
        show _ = _
        rw [stepV, hs]
      have Hsl := Lib.hid hsl
      clear hs hsl
      go_wp2_with fail
      go_loopw [24] (fun i wr => ∃ j : Nat, j ≤ 8 ∧ i = .int .i64 j ∧ Hid (Stp w wr h (part8 h s j) s)) (fun i _ => 8 - (intOf i).toNat)
      case atStart => exact ⟨0, by omega, rfl, HS⟩
      case round =>
        clear HS
        obtain ⟨j, hj, rfl, HS⟩ := hrel
        by_cases hlt : j < 8
        · obtain ⟨x, hx⟩ : ∃ x, h.getD j 0 = x := ⟨_, rfl⟩
          obtain ⟨y, hy⟩ : ∃ x, s.getD j 0 = x := ⟨_, rfl⟩
          have c0 : wr.cell? ⟨w.heap.size, j, none⟩ = some (.int .u32 (wn x)) := by
            rw [cell_of_row _ _ _ _ _ _ HS.out.b0, ← hx, ← part8_get h s j Hh.out Hsl.out hlt]
            simpa using wvs_get (part8 h s j) j (by rw [part8_length _ _ _ Hh.out Hsl.out hj]; exact hlt)
          have c3 : wr.cell? ⟨w.heap.size + 1 + 1 + 1, j, none⟩ = some (.int .u32 (wn y)) := by
            rw [cell_of_row _ _ _ _ _ _ HS.out.b3, ← hy]
            simpa using wvs_get s j (by rw [Hsl.out]; exact hlt)
          have cf : wr.frozen? ⟨w.heap.size, j, none⟩ = false := frozen_of_row _ _ _ _ _ HS.out.b0
          have lj : (j : Int) < 8 := by omega
          have HN : Hid (part8 h s (j + 1) = (part8 h s j).set j (x + y)) := by
            show _ = _
            rw [← part8_set h s j Hh.out Hsl.out hlt, hx, hy]
          clear hx hy
          go_wp2_with fail
          refine wp_tail 8 (by kernel_rfl) (by kernel_rfl) ?_
          simp only [List.take_succ_cons, List.take_zero, List.drop_succ_cons, List.drop_zero]
          repeat still_step
          refine wpStill_nil ?_
          go_wp2
          go_roundw
          case rel =>
            have hfin : Hid (Stp w (wr.setCell ⟨w.heap.size, j, none⟩ (.int .u32 (wn (x + y)))).drew h (part8 h s (j + 1)) s) := by
              rw [HN.out]
              exact (HS.out.put j (x + y)).drew
            first
              | exact ⟨j + 1, by omega, by go_num, hfin⟩
              | ((repeat apply Exists.intro); exact ⟨⟨j + 1, by omega, by go_num, hfin⟩, rfl⟩)
          case measure => simp [intOf]; omega
        · obtain rfl : j = 8 := by omega
          rw [part8_full _ _ Hh.out Hsl.out, ← HV.out] at HS
          have hvl : (stepV h l).length = 8 := stepV_length _ _ Hh.out
          have HVl := Lib.hid hvl
          obtain ⟨cs, h2, h2s⟩ := HS.out.b2
          have H2 := Lib.hid h2
          clear h2 hvl
          go_wp2_with (first
            | ((with_reducible refine wpList_load_row rfl 45 (.tmp 2) rfl w.heap.size ?hx 45 _ (0, 0) _ HS.out.b0 Tryd.underlying45 rfl ?hi ?_); (case hx => with_unfolding_all rfl); (case hi => rw [size8]; simp [wvs_length, HVl.out]))
            | ((with_reducible refine wpList_store_vals rfl 45 (.tmp 4) (.tmp 36) rfl (w.heap.size + 2) (wvs (stepV h l)) ?hx ?hy 45 cs H2.out ?hi ?ho (wvs_one _) ?_); (case hx => with_unfolding_all rfl); (case hy => with_unfolding_all rfl); (case hi => rw [wvs_length, HVl.out]; exact size8); (case ho => rw [wvs_length, HVl.out, h2s])))
          refine ret_row Tryd.results32 (w.heap.size + 2) 45 _ (0, 0) 8 44 rfl (setRow_heap _ _ _ _ _ _ H2.out) Tryd.underlying45 ?hi rfl ⟨rfl, ?_⟩
          · rw [size8]; simp [wvs_length, HVl.out]
          · exact below_setRow HS.out.bl (by omega) _
end Go.Proofs.YtnjdloocalfkmaaDoor
