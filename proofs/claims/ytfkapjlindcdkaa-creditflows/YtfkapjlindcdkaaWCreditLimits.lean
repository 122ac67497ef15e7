/-
  The walk of CreditLimits.
-/
import Derived.Test.YtfkapjlindcdkaaCrB
import Derived.Test.YtfkapjlindcdkaaIv
namespace Go.Proofs.Ytfkapjlindcdkaa
open Go.RowKit Go.Lib
set_option linter.unusedVariables false

theorem lim_over {s : CrS} {r : Int} (h : s.lim - s.used < r) : takeB s r = false ∧ takeS s r = s := by
  have hb : takeB s r = false := by rw [← Bool.not_eq_true, takeB_iff]; omega
  exact ⟨hb, by unfold takeS; rw [if_neg (by rw [hb]; simp)]⟩
theorem lim_neg {s : CrS} {r : Int} (h : r < 0) : takeB s r = false ∧ takeS s r = s := by
  have hb : takeB s r = false := by rw [← Bool.not_eq_true, takeB_iff]; omega
  exact ⟨hb, by unfold takeS; rw [if_neg (by rw [hb]; simp)]⟩
theorem lim_same {s : CrS} {r : Int} (h : r ≤ s.lim) : raiseB s r = false ∧ raiseS s r = s := by
  have hb : raiseB s r = false := by rw [← Bool.not_eq_true, raiseB_iff]; omega
  exact ⟨hb, by unfold raiseS; rw [if_neg (by rw [hb]; simp)]⟩
theorem lim_more {s : CrS} {r : Int} (h : s.lim < r) (h1 : r ≤ 1099511627776) : raiseB s r = true ∧ raiseS s r = { s with lim := r } := by
  have hb : raiseB s r = true := by rw [raiseB_iff]; omega
  exact ⟨hb, by unfold raiseS; rw [if_pos hb]⟩
theorem lim_take {s : CrS} {r : Int} (h0 : 0 ≤ r) (h : r ≤ s.lim - s.used) : takeB s r = true ∧ takeS s r = { s with used := s.used + r } := by
  have hb : takeB s r = true := by rw [takeB_iff]; omega
  exact ⟨hb, by unfold takeS; rw [if_pos hb]⟩
theorem lim_none {s : CrS} (ok : s.Ok) : takeB s 0 = true ∧ takeS s 0 = s := by
  have h := lim_take (s := s) (Int.le_refl 0) (by have := ok.u2; omega)
  refine ⟨h.1, h.2.trans ?_⟩
  simp
theorem limits_long (A : Option Addr) (n c : Nat) (x : Int) (w : World) (hn : 30 < n) :
    Calls Try.prog 6 #[.int .i64 x, .slice A n c] w fun e w' => e = .returned (.bool true) ∧ Below w.heap.size w w' := by
  go_enter Try.func6, Try.ntmps6
  go_wp2_with fail
  (with_reducible refine (awake_any w).mono ?_)
  rintro e1 w1 ⟨rfl, b1⟩
  go_wp2_with fail
  go_ret
  exact ⟨rfl, b1⟩
set_option maxRecDepth 8000 in
set_option maxHeartbeats 4000000 in
theorem limits_any {w : World} {A : Option Addr} {n c : Nat} {zs : List Int} (hZ : SlI w w.heap.size A n zs) (hn : n ≤ 30) (x0 : Int) :
    Calls Try.prog 6 #[.int .i64 x0, .slice A n c] w fun e w' => e = .returned (.bool true) ∧ Below w.heap.size w w' := by
  obtain ⟨x, hx0, hx1, HX⟩ := low_int x0 1000 (by omega) (by omega)
  have HX := Lib.hid HX
  have HL := Lib.hid hZ.1
  obtain ⟨win, hwin⟩ : ∃ win, 1 + x = win := ⟨_, rfl⟩
  have rw1 : wrap64 win = win := by unfold wrap64; omega
  have hw1 : 1 ≤ win := by omega
  have hw2 : win ≤ 1000 := by omega
  go_enter Try.func6, Try.ntmps6
  go_wp2_with fail
  (with_reducible refine (HX.out w).mono ?_)
  rintro e1 w1 ⟨rfl, rfl⟩
  go_wp2_with fail
  (with_reducible refine (Kr.new w w (Below.refl _ _) win hw1 (by omega)).mono ?_)
  rintro e1 w1 ⟨rfl, k1, -⟩
  have K1 : Hid (Kr w w1 w.heap.size ⟨win, win, 0, 0⟩) := k1
  clear k1
  go_wp2_with fail
  clear hwin HX
  go_loopw [6, 7, 8] (fun lv uv iv wr => ∃ (k : Nat) (lim used : Int), iv = .int .i64 k ∧ lv = .int .i64 lim ∧ uv = .int .i64 used ∧ k ≤ n ∧ win ≤ lim ∧ lim ≤ 5000 ∧ 0 ≤ used ∧ used ≤ lim ∧ Hid (Kr w wr w.heap.size ⟨win, lim, used, 0⟩)) (fun _ _ iv _ => n - (intOf iv).toNat)
  case atStart => exact ⟨0, win, 0, rfl, rfl, rfl, by omega, by omega, by omega, by omega, by omega, K1.out⟩
  case round =>
    obtain ⟨k, lim, used, rfl, rfl, rfl, hk, hl0, hl1, hu0, hu1, KR⟩ := hrel
    by_cases hlt : k < n
    · obtain ⟨gz, off, rfl, hg, cx⟩ := hZ.at_ hlt
      have cx' : wr.cell? ⟨gz, off + k, none⟩ = some (.int .i64 (zs.getD k 0)) := (KR.out.b.cell (p := ⟨gz, off + k, none⟩) hg).trans cx
      obtain ⟨z, hz⟩ : ∃ z, zs.getD k 0 = z := ⟨_, rfl⟩
      rw [hz] at cx'
      obtain ⟨y, hy0, hy1, HY⟩ := low_int z 5000 (by omega) (by omega)
      have HY := Lib.hid HY
      obtain ⟨q, hq⟩ : ∃ q, y / 4 = q := ⟨_, rfl⟩
      have hq' : y.tdiv 4 = q := by rw [Int.tdiv_eq_ediv_of_nonneg hy0]; exact hq
      have hq0 : 0 ≤ q := by omega
      have hq1 : q ≤ 1250 := by omega
      clear hz cx
      by_cases he : y % 2 = 0
      · have he' : y.tmod 2 = 0 := by rw [Int.tmod_eq_emod_of_nonneg hy0]; exact he
        by_cases hr : lim < y
        · have HF := Lib.hid (lim_more (s := ⟨win, lim, used, 0⟩) hr (by omega))
          have HP := Lib.hid (KR.out.raise y)
          rw [HF.out.1, HF.out.2] at HP
          simp only at HP
          have hmx : max lim y = y := by omega
          have hyw : win ≤ y := by omega
          have hyu : used ≤ y := by omega
          go_wp2_with fail
          (with_reducible refine (HY.out wr).mono ?_)
          rintro e2 w2 ⟨rfl, rfl⟩
          go_wp2_with fail
          (with_reducible refine HP.out.mono ?_)
          rintro e3 w3 ⟨rfl, k3, -⟩
          have K3 := Lib.hid k3
          clear k3 HP HF KR HY K1
          have F1 := Lib.hid (lim_over (s := ⟨win, y, used, 0⟩) (r := y - used + 1) (by simp only; omega))
          have F2 := Lib.hid (lim_neg (s := ⟨win, y, used, 0⟩) (r := -1) (by omega))
          have F3 := Lib.hid (lim_same (s := ⟨win, y, used, 0⟩) (r := y) (Int.le_refl _))
          have F4 := Lib.hid (lim_none K3.out.ok)
          have Q1 := Lib.hid K3.out.limit
          have Q2 := Lib.hid K3.out.room
          simp only at Q1 Q2
          go_wp2_with fail
          (with_reducible refine Q1.out.mono ?_)
          rintro e4 w4 ⟨rfl, rfl⟩
          go_wp2_with fail
          (with_reducible refine Q2.out.mono ?_)
          rintro e5 w5 ⟨rfl, m, rfl⟩
          have Q3 := Lib.hid ((K3.out.drewN m).take (y - used + 1))
          rw [F1.out.1, F1.out.2] at Q3
          clear Q1 Q2 K3 F1
          go_wp2_with fail
          (with_reducible refine Q3.out.mono ?_)
          rintro e6 w6 ⟨rfl, k6, -⟩
          have Q4 := Lib.hid (k6.take (-1))
          rw [F2.out.1, F2.out.2] at Q4
          clear Q3 k6 F2
          go_wp2_with fail
          (with_reducible refine Q4.out.mono ?_)
          rintro e7 w7 ⟨rfl, k7, -⟩
          have Q5 := Lib.hid (k7.raise y)
          rw [F3.out.1, F3.out.2] at Q5
          clear Q4 k7 F3
          go_wp2_with fail
          (with_reducible refine Q5.out.mono ?_)
          rintro e8 w8 ⟨rfl, k8, -⟩
          have Q6 := Lib.hid (k8.take 0)
          rw [F4.out.1, F4.out.2] at Q6
          clear Q5 k8 F4
          go_wp2_with fail
          (with_reducible refine Q6.out.mono ?_)
          rintro e9 w9 ⟨rfl, k9, -⟩
          have K9 := Lib.hid k9
          clear Q6 k9
          go_wp2_with fail
          go_roundw
          case rel => exact ⟨k + 1, y, used, by go_num, rfl, rfl, by omega, by omega, by omega, by omega, by omega, K9.out⟩
          case measure => simp [intOf]; omega
        · have HF := Lib.hid (lim_same (s := ⟨win, lim, used, 0⟩) (r := y) (by simp only; omega))
          have HP := Lib.hid (KR.out.raise y)
          rw [HF.out.1, HF.out.2] at HP
          have hmx : max lim y = lim := by omega
          go_wp2_with fail
          (with_reducible refine (HY.out wr).mono ?_)
          rintro e2 w2 ⟨rfl, rfl⟩
          go_wp2_with fail
          (with_reducible refine HP.out.mono ?_)
          rintro e3 w3 ⟨rfl, k3, -⟩
          have K3 := Lib.hid k3
          clear k3 HP HF KR HY K1
          have F1 := Lib.hid (lim_over (s := ⟨win, lim, used, 0⟩) (r := lim - used + 1) (by simp only; omega))
          have F2 := Lib.hid (lim_neg (s := ⟨win, lim, used, 0⟩) (r := -1) (by omega))
          have F3 := Lib.hid (lim_same (s := ⟨win, lim, used, 0⟩) (r := lim) (Int.le_refl _))
          have F4 := Lib.hid (lim_none K3.out.ok)
          have Q1 := Lib.hid K3.out.limit
          have Q2 := Lib.hid K3.out.room
          simp only at Q1 Q2
          go_wp2_with fail
          (with_reducible refine Q1.out.mono ?_)
          rintro e4 w4 ⟨rfl, rfl⟩
          go_wp2_with fail
          (with_reducible refine Q2.out.mono ?_)
          rintro e5 w5 ⟨rfl, m, rfl⟩
          have Q3 := Lib.hid ((K3.out.drewN m).take (lim - used + 1))
          rw [F1.out.1, F1.out.2] at Q3
          clear Q1 Q2 K3 F1
          go_wp2_with fail
          (with_reducible refine Q3.out.mono ?_)
          rintro e6 w6 ⟨rfl, k6, -⟩
          have Q4 := Lib.hid (k6.take (-1))
          rw [F2.out.1, F2.out.2] at Q4
          clear Q3 k6 F2
          go_wp2_with fail
          (with_reducible refine Q4.out.mono ?_)
          rintro e7 w7 ⟨rfl, k7, -⟩
          have Q5 := Lib.hid (k7.raise lim)
          rw [F3.out.1, F3.out.2] at Q5
          clear Q4 k7 F3
          go_wp2_with fail
          (with_reducible refine Q5.out.mono ?_)
          rintro e8 w8 ⟨rfl, k8, -⟩
          have Q6 := Lib.hid (k8.take 0)
          rw [F4.out.1, F4.out.2] at Q6
          clear Q5 k8 F4
          go_wp2_with fail
          (with_reducible refine Q6.out.mono ?_)
          rintro e9 w9 ⟨rfl, k9, -⟩
          have K9 := Lib.hid k9
          clear Q6 k9
          go_wp2_with fail
          go_roundw
          case rel => exact ⟨k + 1, lim, used, by go_num, rfl, rfl, by omega, by omega, by omega, by omega, by omega, K9.out⟩
          case measure => simp [intOf]; omega
      · have he1 : y % 2 = 1 := by omega
        have he' : y.tmod 2 = 1 := by rw [Int.tmod_eq_emod_of_nonneg hy0]; exact he1
        by_cases hr : q ≤ lim - used
        · have HF := Lib.hid (lim_take (s := ⟨win, lim, used, 0⟩) hq0 hr)
          have HP := Lib.hid (KR.out.take q)
          rw [HF.out.1, HF.out.2] at HP
          simp only at HP
          obtain ⟨u2, hu2⟩ : ∃ u2, used + q = u2 := ⟨_, rfl⟩
          have hu2a : u2 ≤ lim := by omega
          have hu2b : 0 ≤ u2 := by omega
          have hu2w : wrap64 u2 = u2 := by unfold wrap64; omega
          rw [hu2] at HP
          go_wp2_with fail
          (with_reducible refine (HY.out wr).mono ?_)
          rintro e2 w2 ⟨rfl, rfl⟩
          go_wp2_with fail
          (with_reducible refine HP.out.mono ?_)
          rintro e3 w3 ⟨rfl, k3, -⟩
          have K3 := Lib.hid k3
          clear k3 HP HF KR HY K1
          have F1 := Lib.hid (lim_over (s := ⟨win, lim, u2, 0⟩) (r := lim - u2 + 1) (by simp only; omega))
          have F2 := Lib.hid (lim_neg (s := ⟨win, lim, u2, 0⟩) (r := -1) (by omega))
          have F3 := Lib.hid (lim_same (s := ⟨win, lim, u2, 0⟩) (r := lim) (Int.le_refl _))
          have F4 := Lib.hid (lim_none K3.out.ok)
          have Q1 := Lib.hid K3.out.limit
          have Q2 := Lib.hid K3.out.room
          simp only at Q1 Q2
          go_wp2_with fail
          (with_reducible refine Q1.out.mono ?_)
          rintro e4 w4 ⟨rfl, rfl⟩
          go_wp2_with fail
          (with_reducible refine Q2.out.mono ?_)
          rintro e5 w5 ⟨rfl, m, rfl⟩
          have Q3 := Lib.hid ((K3.out.drewN m).take (lim - u2 + 1))
          rw [F1.out.1, F1.out.2] at Q3
          clear Q1 Q2 K3 F1
          go_wp2_with fail
          (with_reducible refine Q3.out.mono ?_)
          rintro e6 w6 ⟨rfl, k6, -⟩
          have Q4 := Lib.hid (k6.take (-1))
          rw [F2.out.1, F2.out.2] at Q4
          clear Q3 k6 F2
          go_wp2_with fail
          (with_reducible refine Q4.out.mono ?_)
          rintro e7 w7 ⟨rfl, k7, -⟩
          have Q5 := Lib.hid (k7.raise lim)
          rw [F3.out.1, F3.out.2] at Q5
          clear Q4 k7 F3
          go_wp2_with fail
          (with_reducible refine Q5.out.mono ?_)
          rintro e8 w8 ⟨rfl, k8, -⟩
          have Q6 := Lib.hid (k8.take 0)
          rw [F4.out.1, F4.out.2] at Q6
          clear Q5 k8 F4
          go_wp2_with fail
          (with_reducible refine Q6.out.mono ?_)
          rintro e9 w9 ⟨rfl, k9, -⟩
          have K9 := Lib.hid k9
          clear Q6 k9
          go_wp2_with fail
          go_roundw
          case rel => exact ⟨k + 1, lim, u2, by go_num, rfl, rfl, by omega, by omega, by omega, by omega, by omega, K9.out⟩
          case measure => simp [intOf]; omega
        · have HF := Lib.hid (lim_over (s := ⟨win, lim, used, 0⟩) (r := q) (by simp only; omega))
          have HP := Lib.hid (KR.out.take q)
          rw [HF.out.1, HF.out.2] at HP
          go_wp2_with fail
          (with_reducible refine (HY.out wr).mono ?_)
          rintro e2 w2 ⟨rfl, rfl⟩
          go_wp2_with fail
          (with_reducible refine HP.out.mono ?_)
          rintro e3 w3 ⟨rfl, k3, -⟩
          have K3 := Lib.hid k3
          clear k3 HP HF KR HY K1
          have F1 := Lib.hid (lim_over (s := ⟨win, lim, used, 0⟩) (r := lim - used + 1) (by simp only; omega))
          have F2 := Lib.hid (lim_neg (s := ⟨win, lim, used, 0⟩) (r := -1) (by omega))
          have F3 := Lib.hid (lim_same (s := ⟨win, lim, used, 0⟩) (r := lim) (Int.le_refl _))
          have F4 := Lib.hid (lim_none K3.out.ok)
          have Q1 := Lib.hid K3.out.limit
          have Q2 := Lib.hid K3.out.room
          simp only at Q1 Q2
          go_wp2_with fail
          (with_reducible refine Q1.out.mono ?_)
          rintro e4 w4 ⟨rfl, rfl⟩
          go_wp2_with fail
          (with_reducible refine Q2.out.mono ?_)
          rintro e5 w5 ⟨rfl, m, rfl⟩
          have Q3 := Lib.hid ((K3.out.drewN m).take (lim - used + 1))
          rw [F1.out.1, F1.out.2] at Q3
          clear Q1 Q2 K3 F1
          go_wp2_with fail
          (with_reducible refine Q3.out.mono ?_)
          rintro e6 w6 ⟨rfl, k6, -⟩
          have Q4 := Lib.hid (k6.take (-1))
          rw [F2.out.1, F2.out.2] at Q4
          clear Q3 k6 F2
          go_wp2_with fail
          (with_reducible refine Q4.out.mono ?_)
          rintro e7 w7 ⟨rfl, k7, -⟩
          have Q5 := Lib.hid (k7.raise lim)
          rw [F3.out.1, F3.out.2] at Q5
          clear Q4 k7 F3
          go_wp2_with fail
          (with_reducible refine Q5.out.mono ?_)
          rintro e8 w8 ⟨rfl, k8, -⟩
          have Q6 := Lib.hid (k8.take 0)
          rw [F4.out.1, F4.out.2] at Q6
          clear Q5 k8 F4
          go_wp2_with fail
          (with_reducible refine Q6.out.mono ?_)
          rintro e9 w9 ⟨rfl, k9, -⟩
          have K9 := Lib.hid k9
          clear Q6 k9
          go_wp2_with fail
          go_roundw
          case rel => exact ⟨k + 1, lim, used, by go_num, rfl, rfl, by omega, by omega, by omega, by omega, by omega, K9.out⟩
          case measure => simp [intOf]; omega
    · obtain rfl : k = n := by omega
      go_wp2_with fail
      (with_reducible refine (awake_any wr).mono ?_)
      rintro e2 w2 ⟨rfl, b2⟩
      go_wp2_with fail
      go_ret
      exact ⟨rfl, KR.out.b.trans (b2.mono KR.out.b.size)⟩
end Go.Proofs.Ytfkapjlindcdkaa
