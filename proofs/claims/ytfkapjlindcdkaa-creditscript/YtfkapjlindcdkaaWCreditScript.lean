/-
  The walk of CreditScript.
-/
import Derived.Test.YtfkapjlindcdkaaCrD
namespace Go.Proofs.Ytfkapjlindcdkaa
open Go.RowKit Go.Lib
set_option linter.unusedVariables false

theorem q_same {P : Program} {f : FuncId} {args : Array Value} {w : World} {n : Nat} {v : Value} (h : Calls P f args (w.drewN n) fun e w' => e = .returned v ∧ w.drewN n = w') :
    Calls P f args (w.drewN n) fun e w'' => e = .returned v ∧ ∃ m, w'' = w.drewN m := h.mono fun _ _ ⟨he, hm⟩ => ⟨he, n, hm.symm⟩
theorem q_more {P : Program} {f : FuncId} {args : Array Value} {w : World} {n : Nat} {v : Value} (h : Calls P f args (w.drewN n) (Quiet v (w.drewN n))) :
    Calls P f args (w.drewN n) fun e w'' => e = .returned v ∧ ∃ m, w'' = w.drewN m := Calls.quiet_of h
theorem script_long (A : Option Addr) (n c : Nat) (x : Int) (w : World) (hn : 60 < n) :
    Calls Try.prog 3 #[.int .i64 x, .slice A n c] w fun e w' => e = .returned (.bool true) ∧ Below w.heap.size w w' := by
  go_enter Try.func3, Try.ntmps3
  go_wp2_with fail
  (with_reducible refine (awake_any w).mono ?_)
  rintro e1 w1 ⟨rfl, b1⟩
  go_wp2_with fail
  go_ret
  exact ⟨rfl, b1⟩
set_option maxRecDepth 8000 in
set_option maxHeartbeats 4000000 in
theorem script_none (A : Option Addr) (n c : Nat) (x : Int) (w : World) (hn : n ≤ 60) (hx : x < 1 ∨ 1048576 < x) :
    Calls Try.prog 3 #[.int .i64 x, .slice A n c] w fun e w' => e = .returned (.bool true) ∧ Below w.heap.size w w' := by
  go_enter Try.func3, Try.ntmps3
  go_wp2_with fail
  (with_reducible refine (cnew_no w x hx).mono ?_)
  rintro e1 w1 ⟨rfl, rfl⟩
  go_wp2_with fail
  (with_reducible refine (rnew_no w x hx).mono ?_)
  rintro e1 w1 ⟨rfl, rfl⟩
  go_wp2_with fail
  (with_reducible refine (take_nil w 1).mono ?_)
  rintro e1 w1 ⟨rfl, rfl⟩
  go_wp2_with fail
  (with_reducible refine (room_nil w).mono ?_)
  rintro e1 w1 ⟨rfl, rfl⟩
  go_wp2_with fail
  (with_reducible refine (raise_nil w 5).mono ?_)
  rintro e1 w1 ⟨rfl, rfl⟩
  go_wp2_with fail
  (with_reducible refine (awake_any w).mono ?_)
  rintro e1 w1 ⟨rfl, b1⟩
  go_wp2_with fail
  go_ret
  exact ⟨rfl, b1⟩
set_option maxRecDepth 8000 in
set_option maxHeartbeats 8000000 in
theorem script_any {A : Option Addr} {n c : Nat} {q : Nat → ActT} {w : World} (hq : InT w A n q) (hn : n ≤ 60) (x : Int) (hx1 : 1 ≤ x) (hx2 : x ≤ 1048576) :
    Calls Try.prog 3 #[.int .i64 x, .slice A n c] w fun e w' => e = .returned (.bool true) ∧ Below w.heap.size w w' := by
  have QS := Lib.hid hq
  clear hq
  go_enter Try.func3, Try.ntmps3
  go_wp2_with fail
  (with_reducible refine (Kr.new w w (Below.refl _ _) x hx1 hx2).mono ?_)
  rintro e1 w1 ⟨rfl, k1, -⟩
  have K1 := Lib.hid k1
  clear k1
  go_wp2_with fail
  (with_reducible refine (rnew_yes w1 x hx1 hx2).mono ?_)
  rintro e2 w2 ⟨rfl, r2, b2⟩
  obtain ⟨g, hg⟩ : ∃ g, w.heap.size = g := ⟨_, rfl⟩
  obtain ⟨gr, hgr⟩ : ∃ gr, w1.heap.size = gr := ⟨_, rfl⟩
  have T2 : Hid (Two w w2 w.heap.size w1.heap.size (CrS.new x)) := ⟨K1.out.below b2, r2, Nat.ne_of_lt K1.out.c.lt, Nat.le_of_lt K1.out.c.lt⟩
  rw [hg, hgr] at T2
  simp only [hg, hgr]
  clear r2 b2 K1 hg hgr
  go_wp2_with fail
  go_loopw [7] (fun iv wr => ∃ (k : Nat) (s : CrS), iv = .int .i64 (k : Int) ∧ k ≤ n ∧ Hid (Two w wr g gr s)) (fun iv _ => n - (intOf iv).toNat)
  case atStart => exact ⟨0, _, rfl, Nat.zero_le _, T2⟩
  case round =>
    clear T2
    obtain ⟨k, s, rfl, hk, K⟩ := hrel
    by_cases hlt : k < n
    · obtain ⟨ga, oa, rfl, hga, hcells⟩ := QS.out.1 (by omega)
      have ok := QS.out.2 k hlt
      have hcj := hcells k hlt
      obtain ⟨y, hy⟩ : ∃ y, q k = y := ⟨_, rfl⟩
      rw [hy] at ok hcj
      obtain ⟨xd, xn⟩ := y
      have x0 : wr.cell? ⟨ga, oa + k * 2, none⟩ = some (.int .i64 xd) := (K.out.k.b.cell (p := ⟨ga, oa + k * 2, none⟩) hga).trans (hcj 0 _ rfl)
      have x1 : wr.cell? ⟨ga, oa + k * 2 + 1, none⟩ = some (.int .i64 xn) := (K.out.k.b.cell (p := ⟨ga, oa + k * 2 + 1, none⟩) hga).trans (hcj 1 _ rfl)
      obtain ⟨okd, okn⟩ := ok
      simp only at okd okn
      have WN := Lib.hid okn
      clear okd okn hcj hcells hy hga
      by_cases h0 : xd = 0
      · subst h0
        obtain ⟨bz, hbz⟩ : ∃ bz, takeB s xn = bz := ⟨_, rfl⟩
        obtain ⟨s9, hs9⟩ : ∃ s9, takeS s xn = s9 := ⟨_, rfl⟩
        have hbb : (bz != bz) = false := by simp
        have HP := Lib.hid (K.out.k.take xn)
        rw [hbz, hs9] at HP
        have HD := Lib.hid (fun (v : World) (o : Only g wr v) => rtake_any (K.out.across o) K.out.k.ok xn)
        rw [hbz, hs9] at HD
        clear hbz hs9
        go_wp2_with fail
        (with_reducible refine HP.out.mono ?_)
        rintro e5 w5 ⟨rfl, k5, o5⟩
        have K5 := Lib.hid k5
        have O5 := Lib.hid o5
        have D5 := Lib.hid (HD.out w5 o5)
        clear k5 o5 HP HD
        go_wp2_with fail
        (with_reducible refine D5.out.mono ?_)
        rintro e6 w6 ⟨rfl, r6, o6⟩
        have K9 := Lib.hid (Two.join K.out K5.out O5.out r6 o6)
        clear r6 o6 x0 x1 D5 K5 O5 K
        have c1 := Rw.cell K9.out.r 1 _ rfl
        have c2 := Rw.cell K9.out.r 2 _ rfl
        have HL := Lib.hid (fun m => (K9.out.k.drewN m).limit)
        have HR := Lib.hid (fun m => (K9.out.k.drewN m).room)
        obtain ⟨lm, hlm⟩ : ∃ lm, s9.lim = lm := ⟨_, rfl⟩
        obtain ⟨us, hus⟩ : ∃ us, s9.used = us := ⟨_, rfl⟩
        have b1 := K9.out.k.ok.l2
        have b2 := K9.out.k.ok.u1
        have b3 := K9.out.k.ok.u2
        rw [hlm, hus] at HR b3
        rw [hlm] at HL c1 b1
        rw [hus] at c2 b2
        obtain ⟨rm, hrm⟩ : ∃ rm, lm - us = rm := ⟨_, rfl⟩
        rw [hrm] at HR
        have b4 : 0 ≤ rm := by omega
        have b5 : rm ≤ 1099511627776 := by omega
        have r1 : IntKind.i64.wrap rm = rm := by simp only [IntKind.wrap, IntKind.bits, IntKind.signed]; simp; omega
        clear hlm hus
        go_wp2_with fail
        go_quiet (first
          | (go_at_call 17; exact q_same (HL.out _))
          | (go_at_call 11; exact q_more (HR.out _)))
        go_wp2_with fail
        go_roundw
        case rel => exact ⟨k + 1, s9, by go_num, by omega, K9.out.drewN _⟩
        case measure => simp [intOf]; omega
      · by_cases h1 : xd = 1
        · subst h1
          obtain ⟨bz, hbz⟩ : ∃ bz, raiseB s xn = bz := ⟨_, rfl⟩
          obtain ⟨s9, hs9⟩ : ∃ s9, raiseS s xn = s9 := ⟨_, rfl⟩
          have hbb : (bz != bz) = false := by simp
          have HP := Lib.hid (K.out.k.raise xn)
          rw [hbz, hs9] at HP
          have HD := Lib.hid (fun (v : World) (o : Only g wr v) => rraise_any (K.out.across o) xn)
          rw [hbz, hs9] at HD
          clear hbz hs9
          go_wp2_with fail
          (with_reducible refine HP.out.mono ?_)
          rintro e5 w5 ⟨rfl, k5, o5⟩
          have K5 := Lib.hid k5
          have O5 := Lib.hid o5
          have D5 := Lib.hid (HD.out w5 o5)
          clear k5 o5 HP HD
          go_wp2_with fail
          (with_reducible refine D5.out.mono ?_)
          rintro e6 w6 ⟨rfl, r6, o6⟩
          have K9 := Lib.hid (Two.join K.out K5.out O5.out r6 o6)
          clear r6 o6 x0 x1 D5 K5 O5 K
          have c1 := Rw.cell K9.out.r 1 _ rfl
          have c2 := Rw.cell K9.out.r 2 _ rfl
          have HL := Lib.hid (fun m => (K9.out.k.drewN m).limit)
          have HR := Lib.hid (fun m => (K9.out.k.drewN m).room)
          obtain ⟨lm, hlm⟩ : ∃ lm, s9.lim = lm := ⟨_, rfl⟩
          obtain ⟨us, hus⟩ : ∃ us, s9.used = us := ⟨_, rfl⟩
          have b1 := K9.out.k.ok.l2
          have b2 := K9.out.k.ok.u1
          have b3 := K9.out.k.ok.u2
          rw [hlm, hus] at HR b3
          rw [hlm] at HL c1 b1
          rw [hus] at c2 b2
          obtain ⟨rm, hrm⟩ : ∃ rm, lm - us = rm := ⟨_, rfl⟩
          rw [hrm] at HR
          have b4 : 0 ≤ rm := by omega
          have b5 : rm ≤ 1099511627776 := by omega
          have r1 : IntKind.i64.wrap rm = rm := by simp only [IntKind.wrap, IntKind.bits, IntKind.signed]; simp; omega
          clear hlm hus
          go_wp2_with fail
          go_quiet (first
            | (go_at_call 17; exact q_same (HL.out _))
            | (go_at_call 11; exact q_more (HR.out _)))
          go_wp2_with fail
          go_roundw
          case rel => exact ⟨k + 1, s9, by go_num, by omega, K9.out.drewN _⟩
          case measure => simp [intOf]; omega
        · by_cases h2 : xd = 2
          · subst h2
            obtain ⟨bz, hbz⟩ : ∃ bz, readB s xn = bz := ⟨_, rfl⟩
            obtain ⟨s9, hs9⟩ : ∃ s9, creadS s xn = s9 := ⟨_, rfl⟩
            have hbb : (bz != bz) = false := by simp
            have HP := Lib.hid (K.out.k.read xn WN.out)
            rw [hbz, hs9] at HP
            have HD := Lib.hid (fun (v : World) (o : Only g wr v) => rread_any (K.out.across o) K.out.k.ok xn WN.out)
            rw [hbz, hs9] at HD
            clear hbz hs9
            go_wp2_with fail
            (with_reducible refine HP.out.mono ?_)
            rintro e5 w5 ⟨rfl, k5, o5⟩
            have K5 := Lib.hid k5
            have O5 := Lib.hid o5
            have D5 := Lib.hid (HD.out w5 o5)
            clear k5 o5 HP HD
            go_wp2_with fail
            (with_reducible refine D5.out.mono ?_)
            rintro e6 w6 ⟨rfl, r6, o6⟩
            have K9 := Lib.hid (Two.join K.out K5.out O5.out r6 o6)
            clear r6 o6 x0 x1 D5 K5 O5 K
            have c1 := Rw.cell K9.out.r 1 _ rfl
            have c2 := Rw.cell K9.out.r 2 _ rfl
            have HL := Lib.hid (fun m => (K9.out.k.drewN m).limit)
            have HR := Lib.hid (fun m => (K9.out.k.drewN m).room)
            obtain ⟨lm, hlm⟩ : ∃ lm, s9.lim = lm := ⟨_, rfl⟩
            obtain ⟨us, hus⟩ : ∃ us, s9.used = us := ⟨_, rfl⟩
            have b1 := K9.out.k.ok.l2
            have b2 := K9.out.k.ok.u1
            have b3 := K9.out.k.ok.u2
            rw [hlm, hus] at HR b3
            rw [hlm] at HL c1 b1
            rw [hus] at c2 b2
            obtain ⟨rm, hrm⟩ : ∃ rm, lm - us = rm := ⟨_, rfl⟩
            rw [hrm] at HR
            have b4 : 0 ≤ rm := by omega
            have b5 : rm ≤ 1099511627776 := by omega
            have r1 : IntKind.i64.wrap rm = rm := by simp only [IntKind.wrap, IntKind.bits, IntKind.signed]; simp; omega
            clear hlm hus
            go_wp2_with fail
            go_quiet (first
              | (go_at_call 17; exact q_same (HL.out _))
              | (go_at_call 11; exact q_more (HR.out _)))
            go_wp2_with fail
            go_roundw
            case rel => exact ⟨k + 1, s9, by go_num, by omega, K9.out.drewN _⟩
            case measure => simp [intOf]; omega
          · have d0 : (xd == 0) = false := by simpa using h0
            have d1 : (xd == 1) = false := by simpa using h1
            have d2 : (xd == 2) = false := by simpa using h2
            obtain ⟨w6, hw6⟩ : ∃ w6, wr = w6 := ⟨_, rfl⟩
            obtain ⟨s9, hs9⟩ : ∃ s9, s = s9 := ⟨_, rfl⟩
            subst hw6
            subst hs9
            have K9 := K
            have c1 := Rw.cell K9.out.r 1 _ rfl
            have c2 := Rw.cell K9.out.r 2 _ rfl
            have HL := Lib.hid (fun m => (K9.out.k.drewN m).limit)
            have HR := Lib.hid (fun m => (K9.out.k.drewN m).room)
            obtain ⟨lm, hlm⟩ : ∃ lm, s.lim = lm := ⟨_, rfl⟩
            obtain ⟨us, hus⟩ : ∃ us, s.used = us := ⟨_, rfl⟩
            have b1 := K9.out.k.ok.l2
            have b2 := K9.out.k.ok.u1
            have b3 := K9.out.k.ok.u2
            rw [hlm, hus] at HR b3
            rw [hlm] at HL c1 b1
            rw [hus] at c2 b2
            obtain ⟨rm, hrm⟩ : ∃ rm, lm - us = rm := ⟨_, rfl⟩
            rw [hrm] at HR
            have b4 : 0 ≤ rm := by omega
            have b5 : rm ≤ 1099511627776 := by omega
            have r1 : IntKind.i64.wrap rm = rm := by simp only [IntKind.wrap, IntKind.bits, IntKind.signed]; simp; omega
            clear hlm hus
            go_wp2_with fail
            go_quiet (first
              | (go_at_call 17; exact q_same (HL.out _))
              | (go_at_call 11; exact q_more (HR.out _)))
            go_wp2_with fail
            go_roundw
            case rel => exact ⟨k + 1, s, by go_num, by omega, K9.out.drewN _⟩
            case measure => simp [intOf]; omega
    · obtain rfl : k = n := by omega
      go_wp2_with fail
      (with_reducible refine (awake_any wr).mono ?_)
      rintro e2 w2 ⟨rfl, b2⟩
      go_wp2_with fail
      go_ret
      exact ⟨rfl, K.out.k.b.trans (b2.mono K.out.k.b.size)⟩
end Go.Proofs.Ytfkapjlindcdkaa
