/-
  The document's List.
-/
import Derived.Test.YtjbhhmjkdhkhaaaRfB
namespace Go.Proofs.Ytjbhhmjkdhkhaaa
open Go.RowKit Go.Lib
set_option linter.unusedVariables false

set_option maxHeartbeats 4000000 in
set_option maxRecDepth 8000 in
theorem rlist_any (w : World) (g n c most fl : Nat) (A : Option Addr) (N : List Nat) (h : RefW w g A n c most fl N) (hr : Rise N) (hn : n ≤ 1000) :
    Calls Try.prog 17 #[.pointer (some ⟨g, 0, none⟩)] w fun e w' => ∃ (L : RL) (A' : Option Addr) (c' : Nat), e = .returned (.slice A' L.length c') ∧ Down (topV + 1) 0 (fun m => m ∈ N) L ∧ OwnR w' w.heap.size (.slice A' L.length c') L.length L ∧ Below w.heap.size w w' := by
  obtain ⟨h0, h1, h2⟩ := h.cells
  have hl := h.s.1
  have H := Lib.hid h
  have HR := Lib.hid hr
  have DT := Lib.hid (down_top N hr n hl)
  have mixed : Try.prog.follows .mixedOrders = true := by kernel_rfl
  clear h hr
  go_enter Try.func17, Try.ntmps17
  go_wp2_with fail
  go_loopw [3, 4] (fun v i wr => ∃ (j : Nat) (z : Int) (L : RL) (A' : Option Addr) (c' : Nat), j ≤ n ∧ v = .slice A' L.length c' ∧ i = .int .i64 z ∧ z + 1 = (j : Int) ∧ L.length + j ≤ n ∧ Hid (Down (topV + 1) (bdN N j) (fun m => m ∈ N) L) ∧ Hid (OwnR wr w.heap.size (.slice A' L.length c') L.length L) ∧ Hid (Below w.heap.size w wr)) (fun _ i _ => (intOf i + 1).toNat)
  case atStart => exact ⟨n, (n : Int) - 1, [], none, 0, by omega, rfl, by go_num, by omega, by simp, DT, OwnR.nil _ _, Below.refl _ _⟩
  case round =>
    obtain ⟨j, z, L, A', c', hj, rfl, rfl, hz, hLj, D, O, B⟩ := hrel
    cases j with
    | zero =>
      obtain rfl : z = -1 := by omega
      have DE := Lib.hid (down_mono D.out (Nat.zero_le _) (rise_none HR.out))
      go_wp2_with fail
      go_ret
      exact ⟨L, A', c', rfl, DE.out, O.out, B.out⟩
    | succ p =>
      obtain rfl : z = (p : Int) := by omega
      have hp : p < n := by omega
      have hgap := rise_gap HR.out (p := p) (by omega)
      obtain ⟨a, ha⟩ : ∃ a, N.getD p 0 = a := ⟨_, rfl⟩
      have hatop := HR.out.top p (by omega)
      rw [ha] at hgap hatop
      have ham : a ∈ N := mem_getD.2 ⟨p, by omega, ha⟩
      have D1 := Lib.hid (down_mono D.out hgap.1 hgap.2)
      have HBD : Hid (bdN N p = a) := (bd_at (by omega)).trans ha
      have HAM := Lib.hid ham
      have ha62 : a < 4611686018427387904 := by unfold topV at hatop; omega
      obtain ⟨gn, off, rfl, hgn, hcell⟩ := H.out.s.2 (by omega)
      have hca : wr.cell? ⟨gn, off + p, none⟩ = some (.int .u64 (a : Int)) := by
        have := hcell p (by omega)
        rw [ha] at this
        exact (B.out.cell (p := ⟨gn, off + p, none⟩) hgn).trans this
      have hc1 : wr.cell? ⟨g, 1, none⟩ = some (.slice (some ⟨gn, off, none⟩) n c) := (B.out.cell (p := ⟨g, 1, none⟩) H.out.r.lt).trans h1
      have hp' : (p : Int) < (n : Int) := by omega
      have hpw : IntKind.i64.wrap (p : Int) = (p : Int) := by rw [IntKind.wrap_i64]; omega
      have haw : IntKind.u64.wrap ((a : Int) + 1) = (a : Int) + 1 := by simp [IntKind.wrap, IntKind.bits, IntKind.signed]; omega
      clear hz hgap hatop ha ham hcell D
      rcases List.eq_nil_or_concat L with e | ⟨L1, ⟨xl, xh⟩, e⟩
      · subst e
        have DN := Lib.hid (down_push D1.out (fun x r e => by cases r <;> cases e) HAM.out (by unfold topV; omega))
        have g1 : decide ((0 : Int) ≤ (-1 : Int)) = false := rfl
        go_wp2_with fail
        go_quiet (fail)
        go_wp2_with fail
        go_region_law_o (refine step_append_rangesR rfl _ _ rfl w.heap.size (.slice A' 0 c') 0 [] rfl (OwnR.alloc (w := wr.drewN (nq + 1)) O.out _) wr.heap.size 0 1 1 [(a, a)] rfl (slR_lit (wr.drewN (nq + 1)) a a) (by omega) (by omega) (Nat.le_trans B.out.size (by simp)) w (below_lit B.out (nq + 1) _ B.out.size) ?_; intro A7 c7 w7 O7 B7)
        all_goals
          go_wp2_with fail
          go_roundw
          case rel => exact ⟨p, (p : Int) - 1, [(a, a)], A7, c7, by omega, rfl, by go_num, by omega, by simp; omega, by rw [HBD.out]; exact DN, O7, B7⟩
          case measure => first | (simp [intOf]; done) | (simp [intOf]; omega)
      · obtain rfl : L = L1 ++ [(xl, xh)] := by simpa using e
        obtain ⟨q, hq⟩ : ∃ q, (L1 ++ [(xl, xh)]).length = q := ⟨_, rfl⟩
        have hq1 : q = L1.length + 1 := by rw [← hq]; simp
        have hlast : (L1 ++ [(xl, xh)]).getD L1.length (0, 0) = (xl, xh) := by simp
        obtain ⟨p2, hp2⟩ : ∃ p2, L1.length = p2 := ⟨_, rfl⟩
        rw [hp2] at hq1 hlast
        rw [hq] at O hLj ⊢
        obtain ⟨gl, rfl⟩ : ∃ gl, A' = some ⟨gl, 0, none⟩ := by
          obtain ⟨gl, off, e, _⟩ := O.out.sl.2 (by omega)
          subst e
          exact ⟨gl, by rw [O.out.spot _ rfl]⟩
        have k1 : (q : Int) - 1 = (p2 : Int) := by omega
        have k2 : p2 < q := by omega
        have k2' : (p2 : Int) < (q : Int) := by omega
        have k4 : IntKind.i64.wrap (p2 : Int) = (p2 : Int) := by rw [IntKind.wrap_i64]; omega
        have k5 : decide ((0 : Int) ≤ (p2 : Int)) = true := decide_eq_true (by omega)
        have hc := (O.out.cells p2 k2).1
        rw [hlast] at hc
        simp only at hc
        have HQ := Lib.hid hq
        have HP := Lib.hid hp2
        have HLA := Lib.hid hlast
        clear hq hq1 hp2 hlast e
        by_cases hj2 : xl = a + 1
        · have DN := Lib.hid (down_join D1.out hj2 HAM.out)
          have k3 : ((xl : Int) == (a : Int) + 1) = true := by simp; omega
          have k3' : (xl : Int) = (a : Int) + 1 := by omega
          have HLT := Lib.hid ((O.out.blk _ rfl))
          have OD : Hid (OwnR wr.drew w.heap.size (.slice (some ⟨gl, 0, none⟩) q c') q (L1 ++ [(xl, xh)])) := O.out
          go_wp2_with fail
          refine wp_tail 17 (by kernel_rfl) (by kernel_rfl) ?_
          simp only [List.take_succ_cons, List.take_zero, List.drop_succ_cons, List.drop_zero]
          repeat still_step
          refine wpStill_nil ?_
          go_wp2_with ((with_reducible refine wpList_put_own rfl 27 (.tmp 47) (.tmp 45) rfl gl (p2 * 2) (.int .u64 (a : Int)) ?hx ?hy ?hv ?h1 OD.out size_u64 ?hl ?_); (case hx => with_unfolding_all rfl); (case hy => with_unfolding_all rfl); (case hv => rfl); (case h1 => rfl); (case hl => omega); intro O7)
          have o8 := OwnR.put1 (w := wr.drew) O.out p2 a k2
          rw [HLA.out, show (L1 ++ [(xl, xh)]).set p2 (a, xh) = L1 ++ [(a, xh)] by rw [← HP.out, List.set_append, if_neg (by omega), Nat.sub_self]; rfl] at o8
          have hq2 : (L1 ++ [(a, xh)]).length = q := by rw [← HQ.out]; simp
          rw [← hq2] at o8
          have O8 := Lib.hid o8
          have HQ2 := Lib.hid hq2
          have B8 : Hid (Below w.heap.size w (wr.drew.setCell ⟨gl, p2 * 2, none⟩ (.int .u64 (a : Int)))) := B.out.trans (⟨O7.out.os, O7.out.tape, O7.out.output, O7.out.size, fun k hk => O7.out.block k (Nat.lt_of_lt_of_le hk B.out.size) (by have := HLT.out.1; omega)⟩)
          clear o8 hq2
          go_roundw
          case rel => exact ⟨p, (p : Int) - 1, L1 ++ [(a, xh)], some ⟨gl, 0, none⟩, c', by omega, by rw [HQ2.out], by go_num, by omega, by rw [HQ2.out]; omega, by rw [HBD.out]; exact DN, O8, B8⟩
          case measure => first | (simp [intOf]; done) | (simp [intOf]; omega)
        · have DN := Lib.hid (down_push D1.out (fun y r e => by
            obtain ⟨_, e2⟩ := List.append_inj' e rfl
            have e3 : (xl, xh) = y := by simpa using e2
            rw [← e3]
            exact hj2) HAM.out (by unfold topV; omega))
          have k3 : ((xl : Int) == (a : Int) + 1) = false := by simp; omega
          have k3' : ¬ (xl : Int) = (a : Int) + 1 := by omega
          go_wp2_with fail
          refine wp_tail 17 (by kernel_rfl) (by kernel_rfl) ?_
          simp only [List.take_succ_cons, List.take_zero, List.drop_succ_cons, List.drop_zero]
          repeat still_step
          refine wpStill_nil ?_
          go_wp2_with fail
          go_region_law_o (refine step_append_rangesR rfl _ _ rfl w.heap.size (.slice (some ⟨gl, 0, none⟩) q c') q (L1 ++ [(xl, xh)]) rfl (OwnR.alloc (w := wr.drewN 2) O.out _) wr.heap.size 0 1 1 [(a, a)] rfl (slR_lit (wr.drewN 2) a a) (by omega) (by omega) (Nat.le_trans B.out.size (by simp)) w (below_lit B.out 2 _ B.out.size) ?_; intro A7 c7 w7 O7 B7)
          all_goals
            have hq2 : (L1 ++ [(xl, xh)] ++ [(a, a)]).length = q + 1 := by rw [List.length_append, HQ.out]; rfl
            have O8 := O7
            rw [← hq2] at O8
            have HQ2 := Lib.hid hq2
            clear hq2
            go_wp2_with fail
            go_roundw
            case rel => exact ⟨p, (p : Int) - 1, L1 ++ [(xl, xh)] ++ [(a, a)], A7, c7, by omega, by rw [HQ2.out], by go_num, by omega, by rw [HQ2.out]; omega, by rw [HBD.out]; exact DN, O8, B7⟩
            case measure => first | (simp [intOf]; done) | (simp [intOf]; omega)
end Go.Proofs.Ytjbhhmjkdhkhaaa
