/-
  Package income: Read.
-/
import Derived.Test.YtocolaccgoochaaDoorInF
import Derived.Test.YtocolaccgoochaaDoorRoundT
import Derived.Test.YtocolaccgoochaaDoorRoom
import Derived.Test.YtocolaccgoochaaDoorOwnW
namespace Go.Proofs.YtocolaccgoochaaDoor
open Go.RowKit Go.Lib Go.Maps Go.Shelf
set_option linter.unusedVariables false
attribute [local go_sem] Oper.semAt_some

theorem blw_drewN {B : Nat} {w w' : World} (h : Below B w w') (k : Nat) : Below B w (w'.drewN k) := ⟨h.os, h.tape, h.output, h.size, h.block⟩
theorem drewN_size (w : World) (k : Nat) : (w.drewN k).heap.size = w.heap.size := rfl
theorem read_nil (w : World) (n : Int) : Calls Tryd.prog 12 #[.pointer none, .int .i64 n] w fun e w' => e = .returned (.slice none 0 0) ∧ Below w.heap.size w w' := by
  have HR := Lib.hid (fun u => readable_nil u)
  by_cases h : n ≤ 0
  · have hm : min n 0 = n := by omega
    go_enter Tryd.func12, Tryd.ntmps12
    go_wp2_with fail
    (with_reducible refine (HR.out _).mono ?_)
    rintro e1 w1 ⟨rfl, rfl⟩
    go_wp2_with fail
    go_ret
    exact ⟨rfl, (Below.refl _ _).alloc (Nat.le_refl _) _⟩
  · have hm : min n 0 = 0 := by omega
    go_enter Tryd.func12, Tryd.ntmps12
    go_wp2_with fail
    (with_reducible refine (HR.out _).mono ?_)
    rintro e1 w1 ⟨rfl, rfl⟩
    go_wp2_with fail
    go_ret
    exact ⟨rfl, (Below.refl _ _).alloc (Nat.le_refl _) _⟩
theorem InW.highS {s : InS} {n : Int} : highestV (readS s n) = highestV s := rfl
/-- what Read gives -/
def ReadW (w : World) (F : Nat → Prop) (g most N : Nat) (s : InS) (n : Int) (e : Ending) (w' : World) : Prop :=
  ∃ A c, e = .returned (.slice A (readN s n) c) ∧ Own w' w.heap.size (.slice A (readN s n) c) (readN s n) (bytesV s (readN s n)) ∧ readN s n ≤ c ∧ c ≤ maxLen ∧ InW w' F g most N (readS s n) ∧ Only g w w'
theorem read_none {w : World} {F : Nat → Prop} {g most N : Nat} {s : InS} (h : InW w F g most N s) (n : Int) (h0 : readN s n = 0) :
    Calls Tryd.prog 12 #[.pointer (some ⟨g, 0, none⟩), .int .i64 n] w (ReadW w F g most N s n) := by
  have hr0 : min n (readableV s : Int) ≤ 0 := by
    unfold readN at h0
    omega
  obtain ⟨z, hz⟩ : ∃ z, min n (readableV s : Int) = z := ⟨_, rfl⟩
  have HR : Hid (∀ u, Below w.heap.size w u → Calls Tryd.prog 17 #[.pointer (some ⟨g, 0, none⟩)] u (Quiet (.int .i64 (readableV s : Nat)) u)) := fun u hb => readable_any (h.below hb)
  have hb0 : ∀ o, Below w.heap.size w (w.alloc o) := fun o => (Below.refl _ _).alloc (Nat.le_refl _) _
  have HB0 := Lib.hid hb0
  have HH := Lib.hid h
  have H0 := Lib.hid h0
  rw [hz] at hr0
  clear h h0 hb0
  go_enter Tryd.func12, Tryd.ntmps12
  go_wp2_with fail
  (with_reducible refine (HR.out _ (HB0.out _)).mono ?_)
  rintro e1 w1 ⟨rfl, k1, rfl⟩
  go_wp2_with fail
  go_ret
  have e : readS s n = s := by unfold readS; rw [H0.out]; rfl
  have hb : Below w.heap.size w ((w.alloc (.cells #[.pointer (some ⟨g, 0, none⟩)] 24)).drewN k1) := blw_drewN (HB0.out _) k1
  unfold ReadW
  rw [H0.out, e]
  exact ⟨none, 0, rfl, Own.nil _ _, Nat.le_refl _, by simp [maxLen], HH.out.below hb, Only.of_below hb⟩
set_option maxHeartbeats 4000000 in
set_option maxRecDepth 8000 in
theorem read_some {w : World} {F : Nat → Prop} {g most N : Nat} {s : InS} (h : InW w F g most N s) (n : Int) (h0 : 0 < readN s n) :
    Calls Tryd.prog 12 #[.pointer (some ⟨g, 0, none⟩), .int .i64 n] w (ReadW w F g most N s n) := by
  obtain ⟨m, hm⟩ : ∃ m, readN s n = m := ⟨_, rfl⟩
  have hmin : min n (readableV s : Int) = (m : Int) := by
    unfold readN at hm h0
    omega
  have hmr : m ≤ readableV s := by rw [← hm]; unfold readN; omega
  have HR : Hid (∀ u, Below w.heap.size w u → Calls Tryd.prog 17 #[.pointer (some ⟨g, 0, none⟩)] u (Quiet (.int .i64 (readableV s : Nat)) u)) := fun u hb => readable_any (h.below hb)
  have HH := Lib.hid h
  obtain ⟨b, M, hh, hp, hFg, hMg, hgb, hok, hmo⟩ := h
  have hfl := front_le hok
  have hhm := hok.most
  have hgl := Rw.lt hh
  obtain ⟨r, hr⟩ : ∃ r, s.rd = r := ⟨_, rfl⟩
  obtain ⟨q, hq⟩ : ∃ q, r + m = q := ⟨_, rfl⟩
  have hqf : q ≤ frontV s := by unfold readableV at hmr; omega
  have HPC : Hid (∀ u : World, Calls Tryd.prog 32 #[.int .i64 (r : Int), .int .i64 (q : Int)] u fun e w' =>
    e = .returned (.func (.func 36) #[] #[.pointer (some ⟨u.heap.size, 0, none⟩), .pointer (some ⟨u.heap.size + 1, 0, none⟩)]) ∧
      w' = (u.alloc (.cells #[.int .i64 (r : Int)] 3)).alloc (.cells #[.int .i64 (q : Int)] 3)) := fun u => pieces_any u _ _
  have e1 : (r : Int) + (m : Int) = (q : Int) := by omega
  have b1 : (r : Int) ≤ 1048576 := by omega
  have b2 : (m : Int) ≤ 1048576 := by omega
  have b3 : ¬ ((m : Int) ≤ 0) := by omega
  have b4 : (q : Int) ≤ 1048576 := by omega
  have hwq : IntKind.i64.wrap (q : Int) = (q : Int) := by rw [IntKind.wrap_i64]; omega
  have hmk := run_make_room m (by omega)
  have hb0 : ∀ o, Below w.heap.size w (w.alloc o) := fun o => (Below.refl _ _).alloc (Nat.le_refl _) _
  have HB0 := Lib.hid hb0
  have hall : Hid (∀ i, i < q → s.p i ≠ none) := fun i hi => by
    obtain ⟨t, h1, h2, h3, h4, h5⟩ := front_ex hok
    exact h4 i (by omega)
  have c2 := Rw.cell hh 2 _ rfl
  rw [hr] at c2
  have HP := Lib.hid hp
  have HHd := Lib.hid hh
  have HM := Lib.hid hm
  have HRd := Lib.hid hr
  have HQ := Lib.hid hq
  clear hm hp hh hr hq hb0 hqf h0 hmr hfl
  refine (callsIn_wide (n := 0)).1 ?_
  refine callsIn_of_wp_marks Tryd.func12 rfl trivial ?_ rfl
  simp only [Tryd.ntmps12, List.size_toArray, List.length_cons, List.length_nil, Nat.reduceAdd, Nat.reduceSub, Array.replicate_succ, Array.replicate_zero, List.push_toArray, List.append_toArray, List.nil_append, List.cons_append]
  gi_wp2
  refine ⟨trivial, rfl, (callsIn_wide.2 (HR.out _ (HB0.out _))).mono ?_⟩
  rintro e2 w1 ⟨rfl, k1, rfl⟩
  gi_wp2
  obtain ⟨W0, hW0⟩ : ∃ W0, W0 = ((((w.alloc (.cells #[.pointer (some ⟨g, 0, none⟩)] 24)).drewN k1).alloc (.cells (madeCells #[.int .u8 0] m) 5)).alloc (.cells #[.slice (some ⟨w.heap.size + 1, 0, none⟩) 0 m] 30)) := ⟨_, rfl⟩
  have hz0 : W0.heap.size = w.heap.size + 3 := by rw [hW0]; simp
  have hbW : Below w.heap.size w W0 := by rw [hW0]; exact ((blw_drewN ((Below.refl _ w).alloc (Nat.le_refl _) _) k1).alloc (by rw [drewN_size]; simp) _).alloc (by rw [World.size_alloc, drewN_size]; simp; omega) _
  have r0 : Rw W0 w.heap.size 24 [.pointer (some ⟨g, 0, none⟩)] := by
    rw [hW0]
    exact Rw.alloc (Rw.alloc (Rw.drewN (heap_alloc_new w _) k1) _) _
  have o0 : Own W0 (w.heap.size + 1) (.slice (some ⟨w.heap.size + 1, 0, none⟩) 0 m) 0 [] := by
    rw [hW0]
    have := own_room ((w.alloc (.cells #[.pointer (some ⟨g, 0, none⟩)] 24)).drewN k1) m (w.heap.size + 1) (by omega) (by rw [drewN_size]; simp)
    simp only [drewN_size, World.size_alloc] at this
    exact this.alloc _
  have r5 : Rw W0 (w.heap.size + 1 + 1) 30 [.slice (some ⟨w.heap.size + 1, 0, none⟩) 0 m] := by
    rw [hW0]
    have h := heap_alloc_new (((w.alloc (.cells #[.pointer (some ⟨g, 0, none⟩)] 24)).drewN k1).alloc (.cells (madeCells #[.int .u8 0] m) 5)) (.cells #[.slice (some ⟨w.heap.size + 1, 0, none⟩) 0 m] 30)
    simp only [World.size_alloc, drewN_size] at h
    exact h
  have cg2 : W0.cell? ⟨g, 2, none⟩ = some (.int .i64 (r : Int)) := (hbW.cell (p := ⟨g, 2, none⟩) hgl).trans c2
  have cb := Rw.cell r0 0 _ rfl
  have HBW := Lib.hid hbW
  have HR0 := Lib.hid r0
  have HO0 := Lib.hid o0
  have HR5 := Lib.hid r5
  have HZ0 := Lib.hid hz0
  rw [← hW0]
  clear hbW r0 o0 r5 hW0 hz0 c2
  refine wpIn_wide.2 ?_
  refine wp_tail 10 (by kernel_rfl) (by kernel_rfl) ?_
  simp only [List.take_succ_cons, List.take_zero, List.drop_succ_cons, List.drop_zero]
  repeat still_step
  refine wpStill_nil ?_
  go_wp2_with fail
  (with_reducible refine (HPC.out _).mono ?_)
  rintro e3 w3 ⟨rfl, rfl⟩
  clear hwq
  go_wp2_with fail
  gi_wp2
  refine wpIn_pieces (b1 := W0.heap.size) (b2 := W0.heap.size + 1) (lo := r) (hi := q) ?hg rfl (by omega) (by omega) (by omega) ?h1 ?h2
    (fun x W => Below w.heap.size w W ∧ Rw W w.heap.size 24 [.pointer (some ⟨g, 0, none⟩)] ∧ Rw W (w.heap.size + 1 + 1) 30 [.slice (some ⟨w.heap.size + 1, 0, none⟩) (x - r) m] ∧ Own W (w.heap.size + 1) (.slice (some ⟨w.heap.size + 1, 0, none⟩) (x - r) m) (x - r) (bytesV s (x - r)))
    (fun cd W => False)
    ?hI ?hIx ?h0 ?hround ?hdone ?hstop
  case hg => rfl
  case h1 =>
    refine Rw.drew (Rw.alloc ?_ _)
    exact heap_alloc_new W0 _
  case h2 =>
    have h := heap_alloc_new (W0.alloc (.cells #[.int .i64 (r : Int)] 3)) (.cells #[.int .i64 (q : Int)] 3)
    rw [World.size_alloc] at h
    exact Rw.drew h
  case hI =>
    rintro x W W' row ⟨hbl, r0, r5, ow⟩ hg hr
    have hz0 := HZ0.out
    have hBe : ((W0.alloc (.cells #[.int .i64 (r : Int)] 3)).alloc (.cells #[.int .i64 (q : Int)] 3)).drew.heap.size = W0.heap.size + 2 := by
      show ((W0.alloc (.cells #[.int .i64 (r : Int)] 3)).alloc (.cells #[.int .i64 (q : Int)] 3)).heap.size = W0.heap.size + 2
      simp
    have hlt : ∀ r, row = some r → w.heap.size + 1 + 1 < r := fun r e => by
      rcases hr r e with h | ⟨h, _⟩
      · omega
      · rw [hBe] at h
        omega
    exact ⟨hbl.grown hg hbl.size (fun k e => by have := hlt k e; omega), r0.turned hg (fun e => by have := hlt _ e.symm; omega), r5.turned hg (fun e => by have := hlt _ e.symm; omega), ow.grown hg (.inr (fun e => by
      have := hlt (w.heap.size + 1) (by rw [← e]; rfl)
      omega))⟩
  case hIx => exact fun _ _ _ _ h _ _ => h
  case h0 =>
    have hz0 := HZ0.out
    have hbn : Below W0.heap.size W0 ((W0.alloc (.cells #[.int .i64 (r : Int)] 3)).alloc (.cells #[.int .i64 (q : Int)] 3)).drew := blw_drewN (((Below.refl _ W0).alloc (Nat.le_refl _) _).alloc (by simp) _) 1
    refine ⟨HBW.out.trans (hbn.mono (by omega)), HR0.out.below hbn, ?_, ?_⟩
    · rw [Nat.sub_self]
      exact HR5.out.below hbn
    · rw [Nat.sub_self]
      exact HO0.out.below hbn
  case hround =>
    intro mm lp x W hox hxh hsz
    gi_wp2
    refine ⟨trivial, ?_⟩
    rintro W2 ⟨hbl, r0, r5, ow⟩ hsz2
    have c0 := Rw.cell r0 0 _ rfl
    have c5 := Rw.cell r5 0 _ rfl
    have f5 := Rw.frozen r5 0
    have cg1 : W2.cell? ⟨g, 1, none⟩ = some (.map (some b)) := (hbl.cell (p := ⟨g, 1, none⟩) hgl).trans (Rw.cell HHd.out 1 _ rfl)
    have hp2 := HP.out.below hbl
    have hs2 : w.heap.size + 5 ≤ W2.heap.size := by
      have := HZ0.out
      have h : ((W0.alloc (.cells #[.int .i64 (r : Int)] 3)).alloc (.cells #[.int .i64 (q : Int)] 3)).drew.heap.size = W0.heap.size + 2 := by
        show ((W0.alloc (.cells #[.int .i64 (r : Int)] 3)).alloc (.cells #[.int .i64 (q : Int)] 3)).heap.size = W0.heap.size + 2
        simp
      rw [h] at hsz2
      omega
    obtain ⟨k, hk⟩ : ∃ k, x / 64 = k := ⟨_, rfl⟩
    have ek : (x : Int) / 64 = (k : Int) := by omega
    obtain ⟨pg, hpM⟩ := hp2.isSome (hall.out x hxh)
    rw [hk] at hpM
    have hlook := hp2.look k (by omega)
    rw [hpM] at hlook
    have hlook' : (Instr.lookup 46 (.map (some b)) (.int .i64 (k : Int)) false).run Tryd.prog W2 = .ok (.pointer (some ⟨pg, 0, none⟩)) W2 := hlook
    clear hlook
    obtain ⟨hFp, hnep, qq, d, hpg, hqq⟩ := hp2.pg k pg hpM
    have hpgl : pg < w.heap.size := HP.out.ltp hpM
    obtain ⟨z, hz⟩ : ∃ z, cutP q x = z := ⟨_, rfl⟩
    have hzb : x < z ∧ z ≤ q := by rw [← hz]; exact cutP_gt hxh
    have hz64 : z ≤ 64 * k + 64 := by rw [← hz]; unfold cutP; omega
    obtain ⟨rr, hrr⟩ : ∃ rr, x % 64 = rr := ⟨_, rfl⟩
    have er : (x : Int) % 64 = (rr : Int) := by omega
    have er2 : Int.tmod (x : Int) 64 = (rr : Int) := by
      rw [← er]; rfl
    have hr64 : rr < 64 := by omega
    obtain ⟨u, hu⟩ : ∃ u, z - x = u := ⟨_, rfl⟩
    have eu : (z : Int) - (x : Int) = (u : Int) := by omega
    have hru : rr + u ≤ 64 := by omega
    have hwu : IntKind.i64.wrap (u : Int) = (u : Int) := by rw [IntKind.wrap_i64]; omega
    have hu64 : (u : Int) ≤ 64 := by omega
    have hrr63 : (rr : Int) ≤ 63 := by omega
    obtain ⟨y, hy⟩ : ∃ y, x - r = y := ⟨_, rfl⟩
    have hyu : y + u = z - r := by omega
    have hyum : y + u ≤ m := by have := HQ.out; omega
    have hsl : ∀ v : World, (Instr.sliceAt 60 (.pointer (some ⟨pg, 1, none⟩)) (some (.int .i64 (rr : Int))) none none).run Tryd.prog v = .ok (.slice (some ⟨pg, 1 + rr, none⟩) (64 - rr) (64 - rr)) v := fun v => run_array_from v _ 5 64 Tryd.underlying60 size1 pg 1 rr hr64
    have hcut : ∀ v : World, (Instr.slice 30 (.slice (some ⟨pg, 1 + rr, none⟩) (64 - rr) (64 - rr)) none (some (.int .i64 (u : Int))) none).run Tryd.prog v = .ok (.slice (some ⟨pg, 1 + rr, none⟩) u (64 - rr)) v := fun v => by
      have h := run_cut_to v (some ⟨pg, 1 + rr, none⟩) (64 - rr) (64 - rr) u (by omega)
      rw [h, if_neg (by omega)]
      simp [Addr.add]
    have hsrc : Sl W2.drew W2.heap.size (some ⟨pg, 1 + rr, none⟩) u ((d.drop rr).take u) := by
      have hdl := hpg.2
      refine ⟨by simp; omega, fun _ => ⟨pg, 1 + rr, rfl, by omega, fun j hj => ?_⟩⟩
      have hj' : j < u := by simp at hj; omega
      have := hpg.cell (rr + j) (by omega)
      rw [show 1 + rr + j = 1 + (rr + j) by omega]
      refine (this : W2.drew.cell? _ = _).trans ?_
      simp [bv, bn, List.getD_eq_getElem?_getD, List.getElem?_eq_getElem (show rr + j < d.length by omega)]
    have happ : Hid (bytesV s y ++ (d.drop rr).take u = bytesV s (y + u)) := by
      show _ = _
      have hdl := hpg.2
      unfold bytesV
      rw [List.range_add, List.map_append]
      congr 1
      refine List.ext_getElem (by simp; omega) fun j h1 h2 => ?_
      have hj : j < u := by simpa using h2
      have h3 := hqq (rr + j) (by omega)
      have h4 := hall.out (64 * k + (rr + j)) (by omega)
      have h5 : bitQ qq (rr + j) = true := by
        cases hb : bitQ qq (rr + j) with
        | true => rfl
        | false => rw [hb] at h3; exact absurd h3 h4
      rw [h5] at h3
      have h6 : s.rd + (y + j) = 64 * k + (rr + j) := by rw [HRd.out]; omega
      simp only [List.getElem_take, List.getElem_drop, List.getElem_map, List.getElem_range, h6, h3]
      simp [List.getD_eq_getElem?_getD, List.getElem?_eq_getElem (show rr + j < d.length by omega)]
    have hxb : (x : Int) ≤ 1048576 := by omega
    have hzb' : (z : Int) ≤ 1048576 := by omega
    have HBL := Lib.hid hbl
    have HOW := Lib.hid ow
    have HR0' := Lib.hid r0
    have HR5' := Lib.hid r5
    have HSRC := Lib.hid hsrc
    have HYUM := Lib.hid hyum
    have HYU := Lib.hid hyu
    rw [hy] at HOW c5 HR5'
    rw [hz]
    clear hbl ow r0 r5 hsrc hp2 hpM hqq hpg hk hz hzb hz64 hrr hu hy hyum hyu
    gi_wp2
    refine wpIn_round_tail 11 (by kernel_rfl) (by kernel_rfl) (by kernel_rfl) (by rintro ⟨_, _, h⟩; exact h) ?_
    simp only [List.take_succ_cons, List.take_zero, List.drop_succ_cons, List.drop_zero]
    repeat still_step
    refine wpStill_nil ?_
    have HOWd : Hid (Own W2.drew (w.heap.size + 1) (.slice (some ⟨w.heap.size + 1, 0, none⟩) y m) y (bytesV s y)) := HOW.out.drew
    have HR5d : Hid (Rw W2.drew (w.heap.size + 1 + 1) 30 [.slice (some ⟨w.heap.size + 1, 0, none⟩) y m]) := HR5'.out
    have HNE : Hid (w.heap.size + 1 + 1 ≠ w.heap.size + 1 ∧ w.heap.size ≠ w.heap.size + 1) := ⟨by omega, by omega⟩
    go_wp2_with (at_builtin; (with_reducible refine wpList_append_room rfl (.tmp 37) (.tmp 47) rfl (w.heap.size + 1) (w.heap.size + 1) y m (bytesV s y) ?hs HOWd.out W2.heap.size (some ⟨pg, 1 + rr, none⟩) u (64 - rr) ((d.drop rr).take u) ?hx HSRC.out HYUM.out ?_); (case hs => with_unfolding_all rfl); (case hx => with_unfolding_all rfl); intro w3 ho3 hO3; have f5w := Rw.frozen (HR5d.out.only hO3.out HNE.out.1) 0; have c5w := Rw.cell (HR5d.out.only hO3.out HNE.out.1) 0 _ rfl)
    have hO3' : Only (w.heap.size + 1) W2 w3 := ⟨hO3.out.os, hO3.out.tape, hO3.out.output, hO3.out.size, hO3.out.block⟩
    have hO4 : Only (w.heap.size + 1 + 1) w3 (w3.setCell ⟨w.heap.size + 1 + 1, 0, none⟩ (.slice (some ⟨w.heap.size + 1, 0, none⟩) (y + u) m)) := (Only.refl _ w3).setCell 0 _
    have hl3 := hO3'.size
    have hz0 := HZ0.out
    have hBe : ((W0.alloc (.cells #[.int .i64 (r : Int)] 3)).alloc (.cells #[.int .i64 (q : Int)] 3)).drew.heap.size = W0.heap.size + 2 := by
      show ((W0.alloc (.cells #[.int .i64 (r : Int)] 3)).alloc (.cells #[.int .i64 (q : Int)] 3)).heap.size = W0.heap.size + 2
      simp
    have hr5 : Rw (w3.setCell ⟨w.heap.size + 1 + 1, 0, none⟩ (.slice (some ⟨w.heap.size + 1, 0, none⟩) (y + u) m)) (w.heap.size + 1 + 1) 30 [.slice (some ⟨w.heap.size + 1, 0, none⟩) (y + u) m] := Rw.put (HR5d.out.only hO3.out HNE.out.1) 0 _
    have ho5 := (ho3.out).only hO4 (by omega)
    rw [happ.out] at ho5
    have hyz := HYU.out
    rw [hyz] at hr5 ho5 ⊢
    refine ⟨?_, ?_, ?_, hr5, ho5⟩
    · rw [hBe]
      rw [hyz] at hO4
      exact (KeepsR.only hO3' (.inl (by omega)) (by omega) (by omega) (by omega) (by omega)).trans (KeepsR.only hO4 (.inl (by omega)) (by omega) (by omega) (by omega) (by omega))
    · rw [hyz] at hO4
      exact (HBL.out.trans (hO3'.below (by omega) (by omega))).trans (hO4.below (by omega) (by omega))
    · rw [hyz] at hO4
      exact (HR0'.out.only hO3' (by omega)).only hO4 (by omega)
  case hdone =>
    rintro D W hD ⟨hbl, r0, r5, ow⟩ hK
    have hz0 := HZ0.out
    have hqr := HQ.out
    have hBe : ((W0.alloc (.cells #[.int .i64 (r : Int)] 3)).alloc (.cells #[.int .i64 (q : Int)] 3)).drew.heap.size = W0.heap.size + 2 := by
      show ((W0.alloc (.cells #[.int .i64 (r : Int)] 3)).alloc (.cells #[.int .i64 (q : Int)] 3)).heap.size = W0.heap.size + 2
      simp
    rw [hBe] at hD
    have hmx : max r q - r = m := by omega
    rw [hmx] at r5 ow
    have hg2 : Rw W g 48 _ := (hbl.block g hgl).trans HHd.out
    have c0 := Rw.cell r0 0 _ rfl
    have c2 := Rw.cell hg2 2 _ rfl
    rw [HRd.out] at c2
    have f2 := Rw.frozen hg2 2
    have hO : Only g W (W.setCell ⟨g, 2, none⟩ (.int .i64 (q : Int))) := (Only.refl g W).setCell 2 _
    have c5 := Rw.cell (r5.only hO (by omega)) 0 _ rfl
    have HW5 := Lib.hid ow
    have HBL := Lib.hid hbl
    have HG2 := Lib.hid hg2
    have HK := Lib.hid hK
    have HD := Lib.hid hD
    clear ow hbl hg2 hK hD hO hmx hBe r0 r5
    gi_wp2
    have hD2 := HD.out
    have hKs : (W.setCell ⟨g, 2, none⟩ (.int .i64 (q : Int))).heap[D]? = some (.deferred (some [])) := (Below.heap_setCell W ⟨g, 2, none⟩ _ D (by show D ≠ g; omega)).trans HK.out
    refine ⟨by simp, .inl ⟨_, _, rfl, run_takeDeferred hKs, ?_⟩⟩
    refine ⟨_, results_tmp rfl _ _ _, ?_⟩
    have hOg : Only g W (W.setCell ⟨g, 2, none⟩ (.int .i64 (q : Int))) := (Only.refl g W).setCell 2 _
    have hOD : Only D (W.setCell ⟨g, 2, none⟩ (.int .i64 (q : Int))) ((W.setCell ⟨g, 2, none⟩ (.int .i64 (q : Int))).putObj D (.deferred none)) := Only.of_grown (grownBy_putObj' _ D _)
    have hO5 : Only g w ((W.setCell ⟨g, 2, none⟩ (.int .i64 (q : Int))).putObj D (.deferred none)) := Only.new ((Only.of_below HBL.out).trans hOg) hOD (by omega)
    have how : Own ((W.setCell ⟨g, 2, none⟩ (.int .i64 (q : Int))).putObj D (.deferred none)) w.heap.size (.slice (some ⟨w.heap.size + 1, 0, none⟩) m m) m (bytesV s m) := Own.base ((HW5.out.only hOg (by omega)).only hOD (by omega)) (by omega)
    have hp1 : PagesW w (fun k => F k ∧ k ≠ g) b N M s.p := ⟨HP.out.own, ⟨HP.out.fb, fun e => hgb e.symm⟩, fun k x hx => by
      obtain ⟨h1, h2, h3⟩ := HP.out.pg k x hx
      exact ⟨⟨h1, hMg k x hx⟩, h2, h3⟩, HP.out.no, HP.out.inj⟩
    have hp5 := (hp1.still hO5.size (fun i hi hil => hO5.block i hil hi.2)).mono (F' := F) (Nat.le_refl _) (fun k _ h => h.1)
    have hh5 : HdW ((W.setCell ⟨g, 2, none⟩ (.int .i64 (q : Int))).putObj D (.deferred none)) g b most q (frontV s) (highestV s) s.en.isSome := Rw.only (Rw.put HG2.out 2 (.int .i64 (q : Int))) hOD (by omega)
    have hrd : (readS s n).rd = q := by
      show s.rd + readN s n = q
      rw [HM.out, HRd.out]
      exact HQ.out
    have hIn : InW ((W.setCell ⟨g, 2, none⟩ (.int .i64 (q : Int))).putObj D (.deferred none)) F g most N (readS s n) := ⟨b, M, by rw [hrd, read_front hok]; exact hh5, hp5, hFg, hMg, hgb, readS_ok hok n, hmo⟩
    unfold ReadW
    rw [HM.out]
    exact ⟨_, m, rfl, how, Nat.le_refl _, by unfold maxLen; omega, hIn, hO5⟩
  case hstop => exact fun _ _ _ _ h _ => h.elim
/-- Read, whatever n -/
theorem read_any {w : World} {F : Nat → Prop} {g most N : Nat} {s : InS} (h : InW w F g most N s) (n : Int) :
    Calls Tryd.prog 12 #[.pointer (some ⟨g, 0, none⟩), .int .i64 n] w (ReadW w F g most N s n) := by
  rcases Nat.eq_zero_or_pos (readN s n) with h0 | h0
  · exact read_none h n h0
  · exact read_some h n h0
/-- Put, whatever off -/
theorem put_any {w : World} {F : Nat → Prop} {g most N n c : Nat} {s : InS} {off : Int} {A : Option Addr} {l : List UInt8} {e : Bool} (h : InW w F g most N s) (hG : Glob w) (hF0 : ∀ k, F k → 0 < k) (hs : Sl w w.heap.size A n l) (hA : 0 < n → ∀ a, A = some a → ¬ F a.block) (hnc : n ≤ c) (hN : N + n ≤ 1073741824) (hn : n ≤ 1048576) :
    Calls Tryd.prog 11 #[.pointer (some ⟨g, 0, none⟩), .int .i64 off, .slice A n c, .bool e] w (PutW w F g most N n s off l e) := by
  by_cases h0 : off < 0
  · exact put_arg h h0
  · obtain ⟨o, rfl⟩ : ∃ o : Nat, off = (o : Int) := ⟨off.toNat, by omega⟩
    by_cases h1 : most < o + n
    · exact put_bound h hs.len hn h1
    · exact put_in h hG hF0 hs hA hnc hN (by omega)
end Go.Proofs.YtocolaccgoochaaDoor
