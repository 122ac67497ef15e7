/-
  Package outgo: There, Lost; its methods of nil.
-/
import Derived.Test.YtkodjajhlcbmkaaDoorOuF
namespace Go.Proofs.YtkodjajhlcbmkaaDoor
open Go.RowKit Go.Lib
set_option linter.unusedVariables false

theorem onext_nil (w : World) (room allow : Int) : Calls Tryd.prog 13 #[.pointer none, .int .i64 room, .int .i64 allow] w fun e w' => e = .returned (.tuple #[.int .i64 0, .slice none 0 0, .bool false, .bool false]) ∧ w = w' := by
  go_enter Tryd.func13, Tryd.ntmps13
  go_wp2_with fail
  refine bodyPost_ret (results_tmp4 rfl _ _ _) rfl ?_
  exact ⟨rfl, rfl⟩
theorem othere_nil (w : World) (off m : Int) (b : Bool) : Calls Tryd.prog 16 #[.pointer none, .int .i64 off, .int .i64 m, .bool b] w fun e w' => e = .returned (.tuple #[]) ∧ w = w' := by
  go_enter Tryd.func16, Tryd.ntmps16
  go_wp2_with fail
  refine bodyPost_ret (results_none rfl _ _ _) rfl ?_
  exact ⟨rfl, rfl⟩
theorem odone_nil (w : World) : Calls Tryd.prog 23 #[.pointer none] w fun e w' => e = .returned (.bool false) ∧ w = w' := by
  go_enter Tryd.func23, Tryd.ntmps23
  go_wp2_with fail
  go_ret
  exact ⟨rfl, rfl⟩
theorem oleft_nil (w : World) : Calls Tryd.prog 22 #[.pointer none] w fun e w' => e = .returned (.int .i64 0) ∧ w = w' := by
  go_enter Tryd.func22, Tryd.ntmps22
  go_wp2_with fail
  go_ret
  exact ⟨rfl, rfl⟩
set_option maxHeartbeats 4000000 in
theorem othere_any {w : World} {B g n : Nat} {D : List UInt8} {s : Nat → Nat} (h : OutS w B g n D s) (off m : Int) (b : Bool) (h1 : (Lit.int .i64 off).wf = true) (h2 : (Lit.int .i64 m).wf = true) :
    Calls Tryd.prog 16 #[.pointer (some ⟨g, 0, none⟩), .int .i64 off, .int .i64 m, .bool b] w
      fun e w' => e = .returned (.tuple #[]) ∧ OutS w' B g n D (thereV n s off m b) ∧ Mv B (g + 1) w w' := by
  have hlt := h.lt
  obtain ⟨gl, gt, k, A, c, sent, left, low, e, p, q, h, hM⟩ := h
  have P := Lib.hid (span_any h hM.sn off m h1 h2)
  obtain ⟨c0, c1, c2, c3, c4, c5, c6⟩ := h.cells
  have cf := h.r.frozen
  have HH := Lib.hid h
  have HM := Lib.hid hM
  have HL := Lib.hid hlt
  clear h hM h1 h2 hlt
  go_enter Tryd.func16, Tryd.ntmps16
  go_wp2_with fail
  (with_reducible refine P.out.mono ?_)
  rintro e1 w1 ⟨lo, hi, rfl, hS, m1, rfl⟩
  have hk64 := HH.out.kn
  have hn6 := HH.out.n6
  have s1 := hS.le
  have s2 := hS.hs
  have s3 := HM.out.sn
  have g1 := HH.out.b1
  have g2 := HH.out.b2
  have g3 := HH.out.b3
  have hlg := HL.out
  have HT1 := HM.out.came (b := b) hS
  obtain ⟨k1, k2, k3⟩ := HM.out.cameN s1 (by omega) (fun i => if lo ≤ i ∧ i < hi then 3 else s i) (fun i _ => rfl)
  obtain ⟨cn, hcn⟩ : ∃ cn, cntV (inW q lo hi) hi = cn := ⟨_, rfl⟩
  have CT : Hid (∀ j : Nat, Calls Tryd.prog 32 #[.slice (some ⟨gt, 0, none⟩) k k, .int .i64 (lo : Int), .int .i64 (hi : Int)] (w.drewN j) (Quiet (.int .i64 (cn : Int)) (w.drewN j))) := fun j => by
    rw [← hcn]
    exact count_any (HH.out.t.drewN j) (by omega) (by omega) (by omega)
  rw [hcn] at HT1 k1 k2
  obtain ⟨L, hL⟩ : ∃ L, left - (hi - lo - cn) = L := ⟨_, rfl⟩
  rw [hL] at HT1
  have hLe : (left : Int) - ((hi : Int) - (lo : Int) - (cn : Int)) = (L : Int) := by omega
  have bl : (left : Int) ≤ 1000000 := by
    have := HM.out.lf
    have := cnt_le (fun i => decide (s i ≠ 3)) n
    unfold leftV at *
    omega
  have bh : (hi : Int) ≤ 1000000 := by omega
  have blo : (lo : Int) ≤ 1000000 := by omega
  have bcn : (cn : Int) ≤ 1000000 := by omega
  have HT := Lib.hid HT1
  have ST : Hid (∀ u, Only g w u → Calls Tryd.prog 33 #[.slice (some ⟨gt, 0, none⟩) k k, .int .i64 (lo : Int), .int .i64 (hi : Int)] u
      fun e w' => e = .returned (.tuple #[]) ∧ MkW w' gt k (putW q (fun _ => true) lo hi) ∧ Only gt u w') := fun u hu => set_any (HH.out.t.only hu (by omega)) (by omega) (by omega) (by omega)
  have CL : Hid (∀ u, MkW u gl k p → Calls Tryd.prog 29 #[.slice (some ⟨gl, 0, none⟩) k k, .int .i64 (lo : Int), .int .i64 (hi : Int)] u
      fun e w' => e = .returned (.tuple #[]) ∧ MkW w' gl k (putW p (fun _ => false) lo hi) ∧ Only gl u w') := fun u hu => clear_any hu (by omega) (by omega) (by omega)
  have tg : B ≤ gt ∧ gt < g + 1 := by omega
  have lg : B ≤ gl ∧ gl < g + 1 := by omega
  have gg : B ≤ g ∧ g < g + 1 := by omega
  clear HT1 k1 k2 k3 hcn hL hS hk64 hn6 s1 s2 s3 g1 g2 g3 hlg
  go_wp2_with fail
  refine wp_quiet_tail 18 (by kernel_rfl) (by kernel_rfl) ?_
  simp only [List.take_succ_cons, List.take_zero, List.drop_succ_cons, List.drop_zero]
  repeat (go_big_quiet_step ((go_at_call 32; exact quietQ (CT.out _))))
  refine wpQuiet_nil ?_
  rintro _ ⟨nq, rfl⟩
  go_wp2_with fail
  (with_reducible refine (ST.out _ (((Only.refl g w).drewN _).setCell 2 _)).mono ?_)
  rintro e3 w3 ⟨rfl, t3, o3⟩
  have X3 := Lib.hid (((HH.out.drewN (m1 + nq)).setR (left' := L) ((HH.out.drewN (m1 + nq)).r.put 2 (.int .i64 (L : Int))) ((Only.refl g _).setCell 2 _)).setT t3 o3)
  have M3 := Lib.hid ((Mv.of_only (B := B) (C := g + 1) (((Only.refl g w).drewN (m1 + nq)).setCell 2 (.int .i64 (L : Int))) gg.1 gg.2).trans (Mv.of_only o3 tg.1 tg.2))
  have d3 := X3.out.r.cell 3 _ rfl
  clear t3 o3 c0 c1 c2 c3 c4 c5 c6 cf
  go_wp2_with fail
  (with_reducible refine (CL.out _ X3.out.l).mono ?_)
  rintro e4 w4 ⟨rfl, l4, o4⟩
  have X4 := Lib.hid (X3.out.setL l4 o4)
  have M4 := Lib.hid (M3.out.trans (Mv.of_only o4 lg.1 lg.2))
  have d6 := X4.out.r.cell 6 _ rfl
  have df := X4.out.r.frozen 6
  clear l4 o4 d3
  have te : ((e : Int) != 0) = decide (e ≠ 0) := by
    by_cases c : e = 0 <;> simp [c]
  have te2 : ((e : Int) == 0) = decide (e = 0) := by
    rw [Bool.eq_iff_iff]; simp
  cases b
  · go_wp2_with fail
    go_end0
    exact ⟨rfl, ⟨gl, gt, k, A, c, sent, L, low, _, _, _, X4.out, HT.out⟩, M4.out⟩
  · by_cases c : e = 0
    · rw [decide_eq_false (fun h => h c)] at te
      rw [decide_eq_true c] at te2
      have HT2 := HT.out
      rw [if_neg (fun h => h.2 c)] at HT2
      have HT3 := Lib.hid HT2
      clear HT2 c
      go_wp2_with fail
      go_end0
      exact ⟨rfl, ⟨gl, gt, k, A, _, sent, L, low, _, _, _, X4.out, HT3.out⟩, M4.out⟩
    · rw [decide_eq_true c] at te
      rw [decide_eq_false c] at te2
      have HT2 := HT.out
      rw [if_pos ⟨rfl, c⟩] at HT2
      have HT3 := Lib.hid HT2
      clear HT2 c
      go_wp2_with fail
      go_end0
      exact ⟨rfl, ⟨gl, gt, k, A, _, sent, L, low, 3, _, _, X4.out.setR (e' := 3) (X4.out.r.put 6 (.int .i64 3)) ((Only.refl g w4).setCell 6 _), HT3.out⟩, M4.out.trans (Mv.of_only ((Only.refl g w4).setCell 6 _) gg.1 gg.2)⟩
set_option maxHeartbeats 4000000 in
theorem olost_any {w : World} {B g n : Nat} {D : List UInt8} {s : Nat → Nat} (h : OutS w B g n D s) (off m : Int) (b : Bool) (h1 : (Lit.int .i64 off).wf = true) (h2 : (Lit.int .i64 m).wf = true) :
    Calls Tryd.prog 18 #[.pointer (some ⟨g, 0, none⟩), .int .i64 off, .int .i64 m, .bool b] w
      fun e w' => e = .returned (.tuple #[]) ∧ OutS w' B g n D (lostV n s off m b) ∧ Mv B (g + 1) w w' := by
  have hlt := h.lt
  obtain ⟨gl, gt, k, A, c, sent, left, low, e, p, q, h, hM⟩ := h
  have P := Lib.hid (span_any h hM.sn off m h1 h2)
  obtain ⟨c0, c1, c2, c3, c4, c5, c6⟩ := h.cells
  have HH := Lib.hid h
  have HM := Lib.hid hM
  have HL := Lib.hid hlt
  clear h hM h1 h2 hlt
  go_enter Tryd.func18, Tryd.ntmps18
  go_wp2_with fail
  (with_reducible refine P.out.mono ?_)
  rintro e1 w1 ⟨lo, hi, rfl, hS, m1, rfl⟩
  have hk64 := HH.out.kn
  have hn6 := HH.out.n6
  have s1 := hS.le
  have s2 := hS.hs
  have s3 := HM.out.sn
  have g1 := HH.out.b1
  have g2 := HH.out.b2
  have g3 := HH.out.b3
  have hlg := HL.out
  have HT := Lib.hid (HM.out.gone (b := b) hS)
  have BT : Hid (∀ j : Nat, Calls Tryd.prog 35 #[.slice (some ⟨gl, 0, none⟩) k k, .int .i64 (lo : Int), .int .i64 (hi : Int), .slice (some ⟨gt, 0, none⟩) k k] (w.drewN j)
      fun e w' => e = .returned (.tuple #[]) ∧ MkW w' gl k (putW p (fun i => p i || !q i) lo hi) ∧ Only gl (w.drewN j) w') := fun j => but_any (HH.out.t.drewN j) (by omega) (HH.out.l.drewN j) (by omega) (by omega) (by omega)
  have lg : B ≤ gl ∧ gl < g + 1 := by omega
  have gg : B ≤ g ∧ g < g + 1 := by omega
  obtain ⟨z, hz⟩ : ∃ z, min low lo = z := ⟨_, rfl⟩
  have hz2 : min (low : Int) (lo : Int) = (z : Int) := by omega
  have HT1 := HT.out
  rw [hz] at HT1
  have HU := Lib.hid HT1
  clear HT1 hS hk64 hn6 s1 s2 s3 g1 g2 g3 hlg hz
  go_wp2_with fail
  refine wp_quiet_tail 10 (by kernel_rfl) (by kernel_rfl) ?_
  simp only [List.take_succ_cons, List.take_zero, List.drop_succ_cons, List.drop_zero]
  repeat (go_big_quiet_step (fail))
  refine wpQuiet_nil ?_
  rintro _ ⟨nq, rfl⟩
  go_wp2_with fail
  (with_reducible refine (BT.out _).mono ?_)
  rintro e3 w3 ⟨rfl, l3, o3⟩
  have X3 := Lib.hid ((HH.out.drewN (m1 + nq)).setL l3 o3)
  have M3 := Lib.hid ((Mv.refl B (g + 1) w).trans (Mv.of_only (show Only gl w w3 from ⟨o3.os, o3.tape, o3.output, o3.size, o3.block⟩) lg.1 lg.2))
  have d5 := X3.out.r.cell 5 _ rfl
  have d6 := X3.out.r.cell 6 _ rfl
  have df := X3.out.r.frozen
  clear l3 o3 c0 c1 c2 c3 c4 c5 c6
  have te2 : ((e : Int) == 1) = decide (e = 1) := by
    rw [Bool.eq_iff_iff]; simp; omega
  have X4 := Lib.hid (X3.out.setR (low' := z) (X3.out.r.put 5 (.int .i64 (z : Int))) ((Only.refl g w3).setCell 5 _))
  have M4 := Lib.hid (M3.out.trans (Mv.of_only (B := B) (C := g + 1) ((Only.refl g w3).setCell 5 (.int .i64 (z : Int))) gg.1 gg.2))
  cases b
  · go_wp2_with fail
    go_end0
    exact ⟨rfl, ⟨gl, gt, k, A, c, sent, left, z, _, _, _, X4.out, HU.out⟩, M4.out⟩
  · by_cases c : e = 1
    · rw [decide_eq_true c] at te2
      have HT2 := HU.out
      rw [if_pos ⟨rfl, c⟩] at HT2
      have HT3 := Lib.hid HT2
      clear HT2 c
      go_wp2_with fail
      go_end0
      exact ⟨rfl, ⟨gl, gt, k, A, _, sent, left, z, 2, _, _, X4.out.setR (e' := 2) (X4.out.r.put 6 (.int .i64 2)) ((Only.refl g _).setCell 6 _), HT3.out⟩, M4.out.trans (Mv.of_only ((Only.refl g _).setCell 6 _) gg.1 gg.2)⟩
    · rw [decide_eq_false c] at te2
      have HT2 := HU.out
      rw [if_neg (fun h => c h.2)] at HT2
      have HT3 := Lib.hid HT2
      clear HT2 c
      go_wp2_with fail
      go_end0
      exact ⟨rfl, ⟨gl, gt, k, A, _, sent, left, z, _, _, _, X4.out, HT3.out⟩, M4.out⟩
end Go.Proofs.YtkodjajhlcbmkaaDoor
