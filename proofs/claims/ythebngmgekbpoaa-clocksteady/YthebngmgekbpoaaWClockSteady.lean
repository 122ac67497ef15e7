/-
  The walk of ClockSteady.
-/
import Derived.Test.YthebngmgekbpoaaClE
namespace Go.Proofs.Ythebngmgekbpoaa
open Go.RowKit Go.Lib
set_option linter.unusedVariables false

set_option maxHeartbeats 4000000 in
set_option maxRecDepth 8000 in
theorem steady_any (x y z : Int) (w : World) :
    Calls Try.prog 5 #[.int .i64 x, .int .i64 y, .int .i64 z] w fun e w' => e = .returned (.bool true) ∧ Below w.heap.size w w' := by
  obtain ⟨r, r0, r1, hr⟩ := low_bet x 1048577 (by omega) (by omega)
  obtain ⟨q0, hq0, hq⟩ := low_nat y 50 (by omega) (by omega)
  obtain ⟨d, d0, d1, hd⟩ := low_bet z 1073741824 (by omega) (by omega)
  have r2 : r ≤ 1048576 := by omega
  obtain ⟨q, hqq⟩ : ∃ q : Nat, (1 : Int) + (q0 : Int) = (q : Int) := ⟨1 + q0, by omega⟩
  have q1 : 1 ≤ q ∧ q ≤ 50 := by omega
  obtain ⟨q1, q2⟩ := q1
  have HR := Lib.hid hr
  have HQ : Hid (∀ u : World, Calls Try.prog 17 #[.int .i64 y, .int .i64 50] u fun e w' => e = .returned (.int .i64 (q0 : Int)) ∧ u = w') := hq
  have HD := Lib.hid hd
  clear hr hq hd r1 d1 hq0
  go_enter Try.func5, Try.ntmps5
  go_wp2_with fail
  (with_reducible refine (HR.out _).mono ?_)
  rintro e2 w2 ⟨rfl, rfl⟩
  go_wp2_with fail
  (with_reducible refine (HQ.out _).mono ?_)
  rintro e2 w2 ⟨rfl, rfl⟩
  go_wp2_with fail
  (with_reducible refine (HD.out _).mono ?_)
  rintro e2 w2 ⟨rfl, rfl⟩
  clear HR HQ HD
  go_wp2_with fail
  clear hqq
  (with_reducible refine (new_any w).mono ?_)
  rintro e1 w1 ⟨rfl, s1, b1⟩
  have S1 := Lib.hid s1
  have B1 := Lib.hid b1
  clear s1 b1
  obtain ⟨h2, hh2⟩ : ∃ h2, r / 2 = h2 := ⟨_, rfl⟩
  have h20 : 0 ≤ h2 ∧ h2 ≤ 1048576 := by omega
  have HH2 : Hid (h2 = r / 2 ∧ 0 ≤ h2 ∧ h2 ≤ 1048576) := ⟨hh2.symm, h20.1, h20.2⟩
  clear h20
  go_wp2_with fail
  clear hh2
  go_loopw [8, 9] (fun v i wr => ∃ (j : Nat) (va : Int) (c : Ck), j ≤ q ∧ v = .int .i64 va ∧ i = .int .i64 j ∧ Hid (0 ≤ va ∧ va ≤ 1048576) ∧ Hid ((j = 0 ∧ c = Ck.new ∧ va = h2) ∨ (0 < j ∧ c = ⟨true, r, va, r⟩)) ∧ Hid (CkW wr w.heap.size c) ∧ Hid (Below w.heap.size w wr)) (fun _ i _ => q - (intOf i).toNat)
  case atStart => exact ⟨0, h2, Ck.new, by omega, by first | rfl | rw [HH2.out.1], rfl, HH2.out.2, .inl ⟨rfl, rfl, rfl⟩, S1.out, B1.out⟩
  case round =>
    obtain ⟨j, va, c, hj, rfl, rfl, HV, HI, S, B⟩ := hrel
    by_cases hlt : j < q
    · obtain ⟨va', hva'⟩ : ∃ va', (if j = 0 then va else 3 * va / 4) = va' := ⟨_, rfl⟩
      have hok : c.Ok := by
        rcases HI.out with ⟨_, rfl, _⟩ | ⟨_, rfl⟩
        · exact Ck.new_ok
        · exact ⟨⟨r0, r2⟩, HV.out, r0, r2⟩
      have htl : c.tell r d = ⟨true, r, va', r⟩ := by
        rcases HI.out with ⟨h3, rfl, h4⟩ | ⟨h3, rfl⟩
        · rw [steady_first r0 r2 d0, ← hva', if_pos h3, h4, HH2.out.1]
        · rw [steady_more r0 r2 d0, ← hva', if_neg (by omega)]
      have HV' : Hid (0 ≤ va' ∧ va' ≤ 1048576) := by
        have := HV.out
        show 0 ≤ va' ∧ va' ≤ 1048576
        rw [← hva']
        split <;> omega
      have HT := Lib.hid (ck_sample S.out hok B.out (Nat.le_refl _) r d)
      rw [htl] at HT
      have OK' : Hid (⟨true, r, va', r⟩ : Ck).Ok := ⟨⟨r0, r2⟩, HV'.out, r0, r2⟩
      have lt1 : (j : Int) < (q : Int) := by omega
      have v0 := HV.out.1
      have v1 := HV.out.2
      clear hok htl
      by_cases hj0 : j = 0
      · subst hj0
        rw [if_pos rfl] at hva'
        subst hva'
        go_wp2_with fail
        (with_reducible refine HT.out.mono ?_)
        rintro e4 w4 ⟨rfl, s4, b4⟩
        have S4 := Lib.hid s4
        have B4 := Lib.hid b4
        clear s4 b4 HT S B
        have HS : Hid (Calls Try.prog 12 #[.pointer (some ⟨w.heap.size, 0, none⟩)] w4 fun e w' => e = .returned (.int .i64 r) ∧ w4 = w') := smoothed_any S4.out
        have HVA : Hid (Calls Try.prog 13 #[.pointer (some ⟨w.heap.size, 0, none⟩)] w4 fun e w' => e = .returned (.int .i64 va) ∧ w4 = w') := varies_any S4.out
        have HL : Hid (Calls Try.prog 14 #[.pointer (some ⟨w.heap.size, 0, none⟩)] w4 fun e w' => e = .returned (.int .i64 r) ∧ w4 = w') := least_any S4.out
        have t1 : (r != r) = false := by simp
        have t2 : (va != va) = false := by simp
        go_wp2_with fail
        (with_reducible refine HS.out.mono ?_)
        rintro e5 w5 ⟨rfl, rfl⟩
        go_wp2_with fail
        (with_reducible refine HVA.out.mono ?_)
        rintro e5 w5 ⟨rfl, rfl⟩
        go_wp2_with fail
        (with_reducible refine HL.out.mono ?_)
        rintro e5 w5 ⟨rfl, rfl⟩
        go_wp2_with fail
        go_roundw
        case rel => exact ⟨0 + 1, va, _, by omega, rfl, by go_num, HV'.out, .inr ⟨by omega, rfl⟩, S4.out, B4.out⟩
        case measure => simp [intOf]; omega
      · rw [if_neg hj0] at hva'
        have jp : (0 : Int) < (j : Int) := by omega
        have HVE := Lib.hid hva'
        go_wp2_with fail
        (with_reducible refine HT.out.mono ?_)
        rintro e4 w4 ⟨rfl, s4, b4⟩
        have S4 := Lib.hid s4
        have B4 := Lib.hid b4
        clear s4 b4 HT S B
        have HS : Hid (Calls Try.prog 12 #[.pointer (some ⟨w.heap.size, 0, none⟩)] w4 fun e w' => e = .returned (.int .i64 r) ∧ w4 = w') := smoothed_any S4.out
        have HVA : Hid (Calls Try.prog 13 #[.pointer (some ⟨w.heap.size, 0, none⟩)] w4 fun e w' => e = .returned (.int .i64 va') ∧ w4 = w') := varies_any S4.out
        have HL : Hid (Calls Try.prog 14 #[.pointer (some ⟨w.heap.size, 0, none⟩)] w4 fun e w' => e = .returned (.int .i64 r) ∧ w4 = w') := least_any S4.out
        have t1 : (r != r) = false := by simp
        have t2 : (va' != va') = false := by simp
        go_wp2_with fail
        (with_reducible refine HS.out.mono ?_)
        rintro e5 w5 ⟨rfl, rfl⟩
        go_wp2_with fail
        (with_reducible refine HVA.out.mono ?_)
        rintro e5 w5 ⟨rfl, rfl⟩
        go_wp2_with fail
        (with_reducible refine HL.out.mono ?_)
        rintro e5 w5 ⟨rfl, rfl⟩
        go_wp2_with fail
        go_roundw
        case rel => exact ⟨j + 1, va', _, by omega, by first | rfl | rw [HVE.out], by go_num, HV'.out, .inr ⟨by omega, rfl⟩, S4.out, B4.out⟩
        case measure => simp [intOf]; omega
    · have HX : Hid (∀ m u, Below w.heap.size w u → Calls Try.prog 7 #[] (u.drewN m) fun e w' => e = .returned (.bool true) ∧ Below w.heap.size w w') := fun m u hu => (awake_any _).mono fun e w' h => ⟨h.1, (below_drewN hu m).trans (h.2.mono (below_drewN hu m).size)⟩
      have hlt1 : ¬ (j : Int) < (q : Int) := by omega
      obtain rfl : c = ⟨true, r, va, r⟩ := by
        rcases HI.out with ⟨h3, _⟩ | ⟨_, h3⟩
        · omega
        · exact h3
      obtain ⟨p, hp⟩ : ∃ p, ptoV r va 0 = p := ⟨_, rfl⟩
      have HP : Hid (Calls Try.prog 15 #[.pointer (some ⟨w.heap.size, 0, none⟩), .int .i64 0] wr (Quiet (.int .i64 p) wr)) := hp ▸ pto_any S.out ⟨⟨r0, r2⟩, HV.out, r0, r2⟩ 0
      have v0 := HV.out.1
      have v1 := HV.out.2
      have hpe : min (max (r + max (4 * va) 1) 40) 64 = p := by rw [← hp]; unfold ptoV; rw [if_pos (by omega)]
      have t1 : (p == p) = true := by simp
      clear hp
      go_wp2_with fail
      (with_reducible refine HP.out.mono ?_)
      rintro e5 w5 ⟨rfl, m1, rfl⟩
      go_wp2_with fail
      (with_reducible refine (HX.out _ _ B.out).mono ?_)
      rintro e5 w5 ⟨rfl, b5⟩
      go_wp2
      go_ret
      exact ⟨rfl, b5⟩
end Go.Proofs.Ythebngmgekbpoaa
