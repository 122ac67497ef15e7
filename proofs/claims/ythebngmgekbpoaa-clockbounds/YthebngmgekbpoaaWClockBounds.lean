/-
  The walk of ClockBounds.
-/
import Derived.Test.YthebngmgekbpoaaClE
namespace Go.Proofs.Ythebngmgekbpoaa
open Go.RowKit Go.Lib
set_option linter.unusedVariables false

theorem bounds_long (a1 : Option Addr) (n1 c1 : Nat) (x y : Int) (w : World) (h : 40 < n1) : Calls Try.prog 4 #[.slice a1 n1 c1, .int .i64 x, .int .i64 y] w fun e w' => e = .returned (.bool true) ∧ Below w.heap.size w w' := by
  have h1 : (40 : Int) < (n1 : Int) := by omega
  go_enter Try.func4, Try.ntmps4
  go_wp2_with fail
  (with_reducible refine (awake_any _).mono ?_)
  rintro e1 w1 ⟨rfl, b1⟩
  go_wp2
  go_ret
  exact ⟨rfl, b1⟩
set_option maxHeartbeats 4000000 in
set_option maxRecDepth 8000 in
theorem bounds_any (a1 : Option Addr) (n1 c1 : Nat) (zs : List Int) (x y : Int) (w : World) (hn1 : n1 ≤ 40) (h1 : InI w a1 n1 zs) :
    Calls Try.prog 4 #[.slice a1 n1 c1, .int .i64 x, .int .i64 y] w fun e w' => e = .returned (.bool true) ∧ Below w.heap.size w w' := by
  have k1 : ¬ (40 : Int) < (n1 : Int) := by omega
  have I1 := Lib.hid h1
  obtain ⟨a, a0, a14, ha⟩ := low_bet x 14 (by omega) (by omega)
  obtain ⟨b, b0, b14, hb⟩ := low_bet y 14 (by omega) (by omega)
  obtain ⟨lo, hlo⟩ : ∃ lo, min a b = lo := ⟨_, rfl⟩
  obtain ⟨hi, hhi⟩ : ∃ hi, max a b = hi := ⟨_, rfl⟩
  have HLH : Hid (lo ≤ hi) := show lo ≤ hi by omega
  have HA := Lib.hid ha
  have HB := Lib.hid hb
  clear h1 a0 a14 b0 b14 ha hb
  go_enter Try.func4, Try.ntmps4
  go_wp2_with fail
  (with_reducible refine (new_any w).mono ?_)
  rintro e1 w1 ⟨rfl, s1, b1⟩
  have S1 := Lib.hid s1
  have B1 := Lib.hid b1
  clear s1 b1
  go_wp2_with fail
  (with_reducible refine (HA.out _).mono ?_)
  rintro e2 w2 ⟨rfl, rfl⟩
  go_wp2_with fail
  (with_reducible refine (HB.out _).mono ?_)
  rintro e2 w2 ⟨rfl, rfl⟩
  go_wp2_with fail
  (with_reducible refine (HA.out _).mono ?_)
  rintro e2 w2 ⟨rfl, rfl⟩
  go_wp2_with fail
  (with_reducible refine (HB.out _).mono ?_)
  rintro e2 w2 ⟨rfl, rfl⟩
  clear HA HB
  go_wp2_with fail
  go_loopw [10, 11] (fun le i wr => ∃ (j : Nat) (least : Int) (c : Ck), j ≤ n1 ∧ le = .int .i64 least ∧ i = .int .i64 j ∧ Hid (c.Ok) ∧ Hid ((c.on = false ∧ 2000 ≤ least) ∨ (c.on = true ∧ c.l = least ∧ c.s ≤ 2000)) ∧ Hid (CkW wr w.heap.size c) ∧ Hid (Below w.heap.size w wr)) (fun _ i _ => n1 - (intOf i).toNat)
  case atStart => exact ⟨0, 1048576, Ck.new, by omega, rfl, rfl, Ck.new_ok, .inl ⟨rfl, by decide⟩, S1.out, B1.out⟩
  case round =>
    obtain ⟨j, least, c, hj, rfl, rfl, OK, HI, S, B⟩ := hrel
    by_cases hlt : j < n1
    · obtain ⟨b1, o1, rfl, hb1, hc1⟩ := InI.at_ I1.out B.out hlt
      obtain ⟨z, hz⟩ : ∃ z, zs.getD j 0 = z := ⟨_, rfl⟩
      rw [hz] at hc1
      obtain ⟨n, n0, n2, hn⟩ := low_bet z 2001 (by omega) (by omega)
      have HN := Lib.hid hn
      obtain ⟨l', hl'⟩ : ∃ l', min least n = l' := ⟨_, rfl⟩
      have hst := bounds_step OK.out HI.out n0 (by omega)
      rw [hl'] at hst
      have HT := Lib.hid (ck_sample S.out OK.out B.out (Nat.le_refl _) n 0)
      have OK' := Lib.hid (Ck.tell_ok OK.out n 0)
      obtain ⟨c', hc'⟩ : ∃ c', c.tell n 0 = c' := ⟨_, rfl⟩
      rw [hc'] at OK' HT hst
      obtain ⟨s, v, l, on, hcc⟩ : ∃ s v l on, c' = ⟨on, s, v, l⟩ := ⟨c'.s, c'.v, c'.l, c'.on, rfl⟩
      subst hcc
      simp only at hst
      obtain ⟨rfl, rfl, s0, s2⟩ := hst
      have HL' := Lib.hid hl'
      have lt1 : (j : Int) < (n1 : Int) := by omega
      clear hz hn hc' n0 n2
      go_wp2_with fail
      (with_reducible refine (HN.out _).mono ?_)
      rintro e2 w2 ⟨rfl, rfl⟩
      go_wp2_with fail
      (with_reducible refine HT.out.mono ?_)
      rintro e4 w4 ⟨rfl, s4, b4⟩
      have S4 := Lib.hid s4
      have B4 := Lib.hid b4
      clear s4 b4 HT HN S B hb1 hc1 lt1
      have HS : Hid (Calls Try.prog 12 #[.pointer (some ⟨w.heap.size, 0, none⟩)] w4 fun e w' => e = .returned (.int .i64 s) ∧ w4 = w') := smoothed_any S4.out
      have HL : Hid (Calls Try.prog 14 #[.pointer (some ⟨w.heap.size, 0, none⟩)] w4 fun e w' => e = .returned (.int .i64 l) ∧ w4 = w') := least_any S4.out
      obtain ⟨p, hp⟩ : ∃ p, ptoV s v lo = p := ⟨_, rfl⟩
      obtain ⟨q, hq⟩ : ∃ q, ptoV s v hi = q := ⟨_, rfl⟩
      have HP0 : Hid (Calls Try.prog 15 #[.pointer (some ⟨w.heap.size, 0, none⟩), .int .i64 lo] w4 (Quiet (.int .i64 p) w4)) := hp ▸ pto_any S4.out OK'.out lo
      have HP : Hid (∀ m, Calls Try.prog 15 #[.pointer (some ⟨w.heap.size, 0, none⟩), .int .i64 lo] (w4.drewN m) (Quiet (.int .i64 p) (w4.drewN m))) := fun m => hp ▸ pto_any (S4.out.drewN m) OK'.out lo
      have HQ : Hid (∀ m, Calls Try.prog 15 #[.pointer (some ⟨w.heap.size, 0, none⟩), .int .i64 hi] (w4.drewN m) (Quiet (.int .i64 q) (w4.drewN m))) := fun m => hq ▸ pto_any (S4.out.drewN m) OK'.out hi
      have p40 : 40 ≤ p := by have := pto_bd s v lo; omega
      have q64 : q ≤ 64 := by have := pto_bd s v hi; omega
      have pq : p ≤ q := by have := pto_mono s v HLH.out; omega
      have t1 : (l != l) = false := by simp
      clear hp hq
      go_wp2_with fail
      (with_reducible refine HL.out.mono ?_)
      rintro e5 w5 ⟨rfl, rfl⟩
      go_wp2_with fail
      (with_reducible refine HS.out.mono ?_)
      rintro e5 w5 ⟨rfl, rfl⟩
      go_wp2_with fail
      (with_reducible refine HS.out.mono ?_)
      rintro e5 w5 ⟨rfl, rfl⟩
      go_wp2_with fail
      (with_reducible refine HP0.out.mono ?_)
      rintro e5 w5 ⟨rfl, m1, rfl⟩
      go_wp2_with fail
      (with_reducible refine (HQ.out m1).mono ?_)
      rintro e5 w5 ⟨rfl, m2, rfl⟩
      go_wp2_with fail
      (with_reducible refine (HP.out _).mono ?_)
      rintro e5 w5 ⟨rfl, m3, rfl⟩
      go_wp2_with fail
      (with_reducible refine (HQ.out _).mono ?_)
      rintro e5 w5 ⟨rfl, m4, rfl⟩
      go_wp2_with fail
      go_roundw
      case rel => exact ⟨j + 1, l, _, by omega, by first | rfl | rw [HL'.out], by go_num, OK'.out, .inr ⟨rfl, rfl, s2⟩, S4.out.drewN _, below_drewN B4.out _⟩
      case measure => simp [intOf]; omega
    · have HX : Hid (∀ u, Below w.heap.size w u → Calls Try.prog 7 #[] u fun e w' => e = .returned (.bool true) ∧ Below w.heap.size w w') := fun u hu => (awake_any u).mono fun e w' h => ⟨h.1, hu.trans (h.2.mono hu.size)⟩
      have hlt1 : ¬ (j : Int) < (n1 : Int) := by omega
      go_wp2_with fail
      (with_reducible refine (HX.out _ B.out).mono ?_)
      rintro e5 w5 ⟨rfl, b5⟩
      go_wp2
      go_ret
      exact ⟨rfl, b5⟩
end Go.Proofs.Ythebngmgekbpoaa
