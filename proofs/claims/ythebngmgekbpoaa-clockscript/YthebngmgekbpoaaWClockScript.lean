/-
  The walk of ClockScript.
-/
import Derived.Test.YthebngmgekbpoaaClD
namespace Go.Proofs.Ythebngmgekbpoaa
open Go.RowKit Go.Lib
set_option linter.unusedVariables false

theorem nil_sample (w : World) : Calls Try.prog 10 #[.pointer none, .int .i64 1, .int .i64 1] w fun e w' => e = .returned (.tuple #[]) ∧ w = w' := by
  go_enter Try.func10, Try.ntmps10
  go_wp2
  refine bodyPost_ret (results_none rfl _ _ _) rfl ?_
  exact ⟨rfl, rfl⟩
theorem nil_pto (w : World) : Calls Try.prog 15 #[.pointer none, .int .i64 1] w fun e w' => e = .returned (.int .i64 0) ∧ w = w' := by
  go_enter Try.func15, Try.ntmps15
  go_wp2
  go_ret
  exact ⟨rfl, rfl⟩
theorem nil_smoothed (w : World) : Calls Try.prog 12 #[.pointer none] w fun e w' => e = .returned (.int .i64 0) ∧ w = w' := by
  go_enter Try.func12, Try.ntmps12
  go_wp2
  go_ret
  exact ⟨rfl, rfl⟩
theorem script_long (a1 a2 : Option Addr) (n1 c1 n2 c2 : Nat) (z : Int) (w : World) (h : 60 < n1 ∨ 60 < n2) : Calls Try.prog 3 #[.slice a1 n1 c1, .slice a2 n2 c2, .int .i64 z] w fun e w' => e = .returned (.bool true) ∧ Below w.heap.size w w' := by
  by_cases h1 : (60 : Int) < (n1 : Int)
  · go_enter Try.func3, Try.ntmps3
    go_wp2_with fail
    (with_reducible refine (awake_any _).mono ?_)
    rintro e1 w1 ⟨rfl, b1⟩
    go_wp2
    go_ret
    exact ⟨rfl, b1⟩
  · have h2 : (60 : Int) < (n2 : Int) := by omega
    go_enter Try.func3, Try.ntmps3
    go_wp2_with fail
    (with_reducible refine (awake_any _).mono ?_)
    rintro e1 w1 ⟨rfl, b1⟩
    go_wp2
    go_ret
    exact ⟨rfl, b1⟩

set_option maxHeartbeats 4000000 in
set_option maxRecDepth 8000 in
theorem script_any (a1 a2 : Option Addr) (n1 c1 n2 c2 : Nat) (z1 z2 : List Int) (t : Int) (w : World) (hn1 : n1 ≤ 60) (hn2 : n2 ≤ 60) (h1 : InI w a1 n1 z1) (h2 : InI w a2 n2 z2) :
    Calls Try.prog 3 #[.slice a1 n1 c1, .slice a2 n2 c2, .int .i64 t] w fun e w' => e = .returned (.bool true) ∧ Below w.heap.size w w' := by
  have k1 : ¬ (60 : Int) < (n1 : Int) := by omega
  have k2 : ¬ (60 : Int) < (n2 : Int) := by omega
  have I1 := Lib.hid h1
  have I2 := Lib.hid h2
  clear h1 h2
  go_enter Try.func3, Try.ntmps3
  go_wp2_with fail
  (with_reducible refine (new_any w).mono ?_)
  rintro e1 w1 ⟨rfl, s1, b1⟩
  have S1 := Lib.hid s1
  have B1 := Lib.hid b1
  have HLT := Lib.hid s1.lt
  clear s1 b1
  go_wp2_with fail
  (with_reducible refine (rnew_any w1).mono ?_)
  rintro e2 w2 ⟨rfl, s2, b2⟩
  have S2 := Lib.hid s2
  have S1b := Lib.hid (S1.out.below b2)
  have B2 := Lib.hid (B1.out.trans (b2.mono B1.out.size))
  have HNE : Hid (w.heap.size < w1.heap.size) := HLT.out
  clear s2 b2 S1 B1 HLT
  obtain ⟨gc, hgc⟩ : ∃ gc, w.heap.size = gc := ⟨_, rfl⟩
  obtain ⟨gw, hgw⟩ : ∃ gw, w1.heap.size = gw := ⟨_, rfl⟩
  rw [hgc, hgw] at HNE
  rw [hgc] at S1b
  rw [hgw] at S2
  have HG := Lib.hid hgc
  rw [hgc] at B2
  simp only [hgc, hgw]
  clear hgc hgw
  go_wp2_with fail
  go_loopw [9] (fun i wr => ∃ (j N : Nat) (c : Ck), j ≤ 60 ∧ i = .int .i64 j ∧ Hid (c.Ok) ∧ Hid (N ≤ j) ∧ Hid (CkW wr gc c) ∧ Hid (RcW wr gw c N) ∧ Hid (Below gc w wr)) (fun i _ => 60 - (intOf i).toNat)
  case atStart => exact ⟨0, 0, Ck.new, by omega, rfl, Ck.new_ok, Nat.le_refl _, S1b.out, S2.out, B2.out⟩
  case round =>
    obtain ⟨j, N, c, hj, rfl, OK, HN, S, R, B⟩ := hrel
    by_cases hlt : j < n1 ∧ j < n2
    · obtain ⟨hlt1, hlt2⟩ := hlt
      obtain ⟨b1, o1, rfl, hb1, hc1⟩ := InI.at_ I1.out (show Below w.heap.size w wr by rw [HG.out]; exact B.out) hlt1
      obtain ⟨b2, o2, rfl, hb2, hc2⟩ := InI.at_ I2.out (show Below w.heap.size w wr by rw [HG.out]; exact B.out) hlt2
      rw [HG.out] at hb1 hb2
      obtain ⟨r, hr⟩ : ∃ r, z1.getD j 0 = r := ⟨_, rfl⟩
      obtain ⟨d, hd⟩ : ∃ d, z2.getD j 0 = d := ⟨_, rfl⟩
      rw [hr] at hc1
      rw [hd] at hc2
      have HC1 := Lib.hid hc1
      have HC2 := Lib.hid hc2
      have HT := Lib.hid (sample_any (show CkW wr.drew gc c from S.out) OK.out r d)
      have OK' := Lib.hid (Ck.tell_ok OK.out r d)
      have lt1 : (j : Int) < (n1 : Int) := by omega
      have lt2 : (j : Int) < (n2 : Int) := by omega
      clear hr hd
      go_wp2_with fail
      refine wp_tail 9 (by kernel_rfl) (by kernel_rfl) ?_
      simp only [List.take_succ_cons, List.take_zero, List.drop_succ_cons, List.drop_zero]
      repeat still_step
      refine wpStill_nil ?_
      go_wp2_with fail
      (with_reducible refine HT.out.mono ?_)
      rintro e4 w4 ⟨rfl, s4, q4⟩
      have HZ : Hid (gc ≤ wr.heap.size) := by have h9 := B.out.size; rw [HG.out] at h9; exact h9
      have B4 : Hid (Below gc w w4) := (show Below gc w wr.drew from below_drewN B.out 1).trans (q4.below (B := gc) (w := wr.drew) HZ.out (Nat.le_refl _))
      have S4 := Lib.hid s4
      have R4 := Lib.hid ((show RcW wr.drew gw c N from R.out).only q4 (by have := HNE.out; omega))
      have hd1 : w4.cell? ⟨b1, o1 + j, none⟩ = some (.int .i64 r) := ((q4.below (B := gc) (w := wr.drew) HZ.out (Nat.le_refl _)).cell (p := ⟨b1, o1 + j, none⟩) hb1).trans HC1.out
      have hd2 : w4.cell? ⟨b2, o2 + j, none⟩ = some (.int .i64 d) := ((q4.below (B := gc) (w := wr.drew) HZ.out (Nat.le_refl _)).cell (p := ⟨b2, o2 + j, none⟩) hb2).trans HC2.out
      have HR := Lib.hid (rsample_any (show RcW w4.drew gw c N from R4.out) OK.out r d (by have := HN.out; omega))
      clear s4 q4 hc1 hc2 HT S R
      go_wp2_with fail
      refine wp_tail 9 (by kernel_rfl) (by kernel_rfl) ?_
      simp only [List.take_succ_cons, List.take_zero, List.drop_succ_cons, List.drop_zero]
      repeat still_step
      refine wpStill_nil ?_
      go_wp2_with fail
      (with_reducible refine HR.out.mono ?_)
      rintro e6 w6 ⟨rfl, ⟨N', hN', r6⟩, q6⟩
      have HZ4 : Hid (gc ≤ w4.heap.size) := by have h9 := B4.out.size; rw [HG.out] at h9; exact h9
      have B6 : Hid (Below gc w w6) := (show Below gc w w4.drew from below_drewN B4.out 1).trans (q6.below (B := gc) (w := w4.drew) HZ4.out (by have := HNE.out; omega))
      have S6 := Lib.hid ((show CkW w4.drew gc (c.tell r d) from S4.out).only q6 (by have := HNE.out; omega))
      have R6 := Lib.hid r6
      have HN' : Hid (N' ≤ j + 1) := Nat.le_trans hN' (by have := HN.out; omega)
      clear r6 q6 HR R4 S4 hd1 hd2 hN'
      obtain ⟨c', hc'⟩ : ∃ c', c.tell r d = c' := ⟨_, rfl⟩
      rw [hc'] at OK' S6 R6
      obtain ⟨s, v, l, on, hcc⟩ : ∃ s v l on, c' = ⟨on, s, v, l⟩ := ⟨c'.s, c'.v, c'.l, c'.on, rfl⟩
      subst hcc
      have y0 : w6.cell? ⟨gw, 0, none⟩ = some (.int .i64 s) := Rw.cell R6.out.1 0 _ rfl
      have y1 : w6.cell? ⟨gw, 1, none⟩ = some (.int .i64 v) := Rw.cell R6.out.1 1 _ rfl
      have y2 : w6.cell? ⟨gw, 2, none⟩ = some (.int .i64 l) := Rw.cell R6.out.1 2 _ rfl
      have HS : Hid (∀ m, Calls Try.prog 12 #[.pointer (some ⟨gc, 0, none⟩)] (w6.drewN m) fun e w' => e = .returned (.int .i64 s) ∧ w6.drewN m = w') := fun m => smoothed_any (S6.out.drewN m)
      have HV : Hid (∀ m, Calls Try.prog 13 #[.pointer (some ⟨gc, 0, none⟩)] (w6.drewN m) fun e w' => e = .returned (.int .i64 v) ∧ w6.drewN m = w') := fun m => varies_any (S6.out.drewN m)
      have HL : Hid (∀ m, Calls Try.prog 14 #[.pointer (some ⟨gc, 0, none⟩)] (w6.drewN m) fun e w' => e = .returned (.int .i64 l) ∧ w6.drewN m = w') := fun m => least_any (S6.out.drewN m)
      obtain ⟨p, hp⟩ : ∃ p, ptoV s v t = p := ⟨_, rfl⟩
      obtain ⟨q, hq⟩ : ∃ q, ptoV s v (j : Int) = q := ⟨_, rfl⟩
      have HP1 : Hid (∀ m, Calls Try.prog 15 #[.pointer (some ⟨gc, 0, none⟩), .int .i64 t] (w6.drewN m) (Quiet (.int .i64 p) (w6.drewN m))) := fun m => hp ▸ pto_any (S6.out.drewN m) OK'.out t
      have HP2 : Hid (∀ m, Calls Try.prog 15 #[.pointer (some ⟨gc, 0, none⟩), .int .i64 (j : Int)] (w6.drewN m) (Quiet (.int .i64 q) (w6.drewN m))) := fun m => hq ▸ pto_any (S6.out.drewN m) OK'.out (j : Int)
      have HQ1 : Hid (∀ m, Calls Try.prog 16 #[.pointer (some ⟨gw, 0, none⟩), .int .i64 t] (w6.drewN m) (Quiet (.int .i64 p) (w6.drewN m))) := fun m => hp ▸ rpto_any (R6.out.drewN m) OK'.out t
      have HQ2 : Hid (∀ m, Calls Try.prog 16 #[.pointer (some ⟨gw, 0, none⟩), .int .i64 (j : Int)] (w6.drewN m) (Quiet (.int .i64 q) (w6.drewN m))) := fun m => hq ▸ rpto_any (R6.out.drewN m) OK'.out (j : Int)
      have t1 : (s != s) = false := by simp
      have t2 : (v != v) = false := by simp
      have t3 : (l != l) = false := by simp
      have t4 : (p != p) = false := by simp
      have t5 : (q != q) = false := by simp
      clear hp hq hc' HC1 HC2 lt1 lt2 hb1 hb2
      go_wp2_with fail
      go_quiet (first
        | (go_at_call 12; with_reducible exact q_same (HS.out _))
        | (go_at_call 13; with_reducible exact q_same (HV.out _))
        | (go_at_call 14; with_reducible exact q_same (HL.out _))
        | (go_at_call 15; with_reducible exact q_more (HP1.out _))
        | (go_at_call 16; with_reducible exact q_more (HQ1.out _))
        | (go_at_call 15; with_reducible exact q_more (HP2.out _))
        | (go_at_call 16; with_reducible exact q_more (HQ2.out _)))
      go_wp2_with fail
      go_roundw
      case rel => exact ⟨j + 1, N', _, by omega, by go_num, OK'.out, HN'.out, S6.out.drewN _, R6.out.drewN _, below_drewN B6.out _⟩
      case measure => simp [intOf]; omega
    · have HX : Hid (∀ u, Below w.heap.size w u → Calls Try.prog 7 #[] u fun e w' => e = .returned (.bool true) ∧ Below w.heap.size w w') := fun u hu => (awake_any u).mono fun e w' h => ⟨h.1, hu.trans (h.2.mono hu.size)⟩
      rw [← HG.out] at B
      by_cases hlt1 : (j : Int) < (n1 : Int)
      · have hlt2 : ¬ (j : Int) < (n2 : Int) := by omega
        go_wp2_with fail
        (with_reducible refine (nil_sample _).mono ?_)
        rintro e4 w4 ⟨rfl, rfl⟩
        go_wp2_with fail
        (with_reducible refine (nil_pto _).mono ?_)
        rintro e4 w4 ⟨rfl, rfl⟩
        go_wp2_with fail
        (with_reducible refine (nil_smoothed _).mono ?_)
        rintro e4 w4 ⟨rfl, rfl⟩
        go_wp2_with fail
        (with_reducible refine (HX.out _ B.out).mono ?_)
        rintro e5 w5 ⟨rfl, b5⟩
        go_wp2
        go_ret
        exact ⟨rfl, b5⟩
      · go_wp2_with fail
        (with_reducible refine (nil_sample _).mono ?_)
        rintro e4 w4 ⟨rfl, rfl⟩
        go_wp2_with fail
        (with_reducible refine (nil_pto _).mono ?_)
        rintro e4 w4 ⟨rfl, rfl⟩
        go_wp2_with fail
        (with_reducible refine (nil_smoothed _).mono ?_)
        rintro e4 w4 ⟨rfl, rfl⟩
        go_wp2_with fail
        (with_reducible refine (HX.out _ B.out).mono ?_)
        rintro e5 w5 ⟨rfl, b5⟩
        go_wp2
        go_ret
        exact ⟨rfl, b5⟩
end Go.Proofs.Ythebngmgekbpoaa
