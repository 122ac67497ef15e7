/-
  The walk of ClockLeasts.
-/
import Derived.Test.YthebngmgekbpoaaClE
namespace Go.Proofs.Ythebngmgekbpoaa
open Go.RowKit Go.Lib
set_option linter.unusedVariables false

theorem leasts_long (a1 : Option Addr) (n1 c1 : Nat) (w : World) (h : 30 < n1) : Calls Try.prog 6 #[.slice a1 n1 c1] w fun e w' => e = .returned (.bool true) ∧ Below w.heap.size w w' := by
  have h1 : (30 : Int) < (n1 : Int) := by omega
  go_enter Try.func6, Try.ntmps6
  go_wp2_with fail
  (with_reducible refine (awake_any _).mono ?_)
  rintro e1 w1 ⟨rfl, b1⟩
  go_wp2
  go_ret
  exact ⟨rfl, b1⟩
/-- a clock behind so many times, and what one knows of it -/
def LeI (j : Nat) (c : Ck) (least most : Int) : Prop := c.Ok ∧ 0 ≤ least ∧ least ≤ most ∧ most ≤ 10000 ∧ ((j = 0 ∧ c.on = false) ∨ (0 < j ∧ c.on = true ∧ c.l = least ∧ c.s ≤ most ∧ least ≤ c.s + 7 ∧ c.v ≤ most))
theorem LeI.step {j : Nat} {c : Ck} {least most r d le mo : Int} (h : LeI j c least most) (r0 : 0 ≤ r) (r1 : r ≤ 10000) (hd : 0 ≤ d) (h1 : (if j = 0 then r else least) = le) (h2 : (if j = 0 then r else most) = mo) :
    LeI (j + 1) (c.tell r d) (min le r) (max mo r) := by
  obtain ⟨ok, a, b, m, h⟩ := h
  by_cases hj : j = 0
  · rw [if_pos hj] at h1 h2
    subst h1 h2
    rcases h with ⟨_, h⟩ | ⟨h, _⟩
    · have := leasts_step (least := r) (most := r) ok (.inl ⟨h, rfl, rfl⟩) r0 r1 r0 (by omega) r1 hd
      exact ⟨Ck.tell_ok ok r d, by omega, by omega, by omega, .inr ⟨by omega, this⟩⟩
    · omega
  · rw [if_neg hj] at h1 h2
    subst h1 h2
    rcases h with ⟨h, _⟩ | ⟨_, h⟩
    · omega
    · have := leasts_step ok (.inr h) r0 r1 a b m hd
      exact ⟨Ck.tell_ok ok r d, by omega, by omega, by omega, .inr ⟨by omega, this⟩⟩
set_option maxHeartbeats 4000000 in
set_option maxRecDepth 8000 in
theorem leasts_any (a1 : Option Addr) (n1 c1 : Nat) (zs : List Int) (w : World) (hn1 : n1 ≤ 30) (h1 : InI w a1 n1 zs) :
    Calls Try.prog 6 #[.slice a1 n1 c1] w fun e w' => e = .returned (.bool true) ∧ Below w.heap.size w w' := by
  have k1 : ¬ (30 : Int) < (n1 : Int) := by omega
  have I1 := Lib.hid h1
  clear h1
  go_enter Try.func6, Try.ntmps6
  go_wp2_with fail
  (with_reducible refine (new_any w).mono ?_)
  rintro e1 w1 ⟨rfl, s1, b1⟩
  have S1 := Lib.hid s1
  have B1 := Lib.hid b1
  clear s1 b1
  go_wp2_with fail
  go_loopw [4, 5, 6] (fun le mo i wr => ∃ (j : Nat) (least most : Int) (c : Ck), j ≤ n1 ∧ le = .int .i64 least ∧ mo = .int .i64 most ∧ i = .int .i64 j ∧ Hid (LeI j c least most) ∧ Hid (CkW wr w.heap.size c) ∧ Hid (Below w.heap.size w wr)) (fun _ _ i _ => n1 - (intOf i).toNat)
  case atStart => exact ⟨0, 0, 0, Ck.new, by omega, rfl, rfl, rfl, ⟨Ck.new_ok, by omega, by omega, by omega, .inl ⟨rfl, rfl⟩⟩, S1.out, B1.out⟩
  case round =>
    obtain ⟨j, least, most, c, hj, rfl, rfl, rfl, HI, S, B⟩ := hrel
    by_cases hlt : j < n1
    · obtain ⟨b1, o1, rfl, hb1, hc1⟩ := InI.at_ I1.out B.out hlt
      obtain ⟨z, hz⟩ : ∃ z, zs.getD j 0 = z := ⟨_, rfl⟩
      rw [hz] at hc1
      obtain ⟨r, r0, r2, hr⟩ := low_bet z 10001 (by omega) (by omega)
      have HR := Lib.hid hr
      have HD : Hid (∀ x : Int, ∃ d : Int, 0 ≤ d ∧ d < 60 ∧ ∀ u : World, Calls Try.prog 17 #[.int .i64 x, .int .i64 60] u fun e w' => e = .returned (.int .i64 d) ∧ u = w') := fun x => low_bet x 60 (by omega) (by omega)
      have r1 : r ≤ 10000 := by omega
      obtain ⟨le, hle⟩ : ∃ le, (if j = 0 then r else least) = le := ⟨_, rfl⟩
      obtain ⟨mo, hmo⟩ : ∃ mo, (if j = 0 then r else most) = mo := ⟨_, rfl⟩
      obtain ⟨l', hl'⟩ : ∃ l', min le r = l' := ⟨_, rfl⟩
      obtain ⟨m', hm'⟩ : ∃ m', max mo r = m' := ⟨_, rfl⟩
      have HLE := Lib.hid hle
      have HMO := Lib.hid hmo
      have HLM : Hid (min le r = l' ∧ max mo r = m') := ⟨hl', hm'⟩
      have HST : Hid (∀ d, 0 ≤ d → LeI (j + 1) (c.tell r d) l' m') := fun d hd => by
        have := HI.out.step r0 r1 hd hle hmo
        rwa [hl', hm'] at this
      have lt1 : (j : Int) < (n1 : Int) := by omega
      have n1' : wrap64 (-1 - r) = -1 - r := by unfold wrap64; omega
      have n2' : wrap64 (r + 1048576) = r + 1048576 := by unfold wrap64; omega
      have n3' : wrap64 (r + 1048576 + 1) = r + 1048576 + 1 := by unfold wrap64; omega
      have HN1 : Hid (-1 - r < 0 ∧ 1048576 < r + 1048576 + 1) := ⟨by omega, by omega⟩
      clear hz hr r2 hle hmo
      have hway : (((j : Int) == 0) = true ∧ r = le ∧ r = mo) ∨ (((j : Int) == 0) = false ∧ least = le ∧ most = mo) := by
        have h1 := HLE.out
        have h2 := HMO.out
        by_cases h : j = 0
        · rw [if_pos h] at h1 h2; exact .inl ⟨by simp; omega, h1, h2⟩
        · rw [if_neg h] at h1 h2; exact .inr ⟨by simp; omega, h1, h2⟩
      clear HLE HMO
      rcases hway with ⟨jp, rfl, rfl⟩ | ⟨jp, rfl, rfl⟩
      all_goals
        go_wp2_with fail
        (with_reducible refine (HR.out _).mono ?_)
        rintro e2 w2 ⟨rfl, rfl⟩
        go_wp2_with fail
        obtain ⟨d, d0, d1, hd⟩ := HD.out _
        (with_reducible refine (hd _).mono ?_)
        rintro e2 w2 ⟨rfl, rfl⟩
        have HT := Lib.hid (ck_sample S.out HI.out.1 B.out (Nat.le_refl _) r d)
        have hI' := HST.out d d0
        have OK' := Lib.hid hI'.1
        obtain ⟨c', hc'⟩ : ∃ c', c.tell r d = c' := ⟨_, rfl⟩
        rw [hc'] at OK' HT hI'
        obtain ⟨s, v, l, on, hcc⟩ : ∃ s v l on, c' = ⟨on, s, v, l⟩ := ⟨c'.s, c'.v, c'.l, c'.on, rfl⟩
        subst hcc
        have HI' := Lib.hid hI'
        obtain ⟨⟨⟨s0, s1'⟩, ⟨v0, v1⟩, _, _⟩, p0, p1, p2, hI'⟩ := hI'
        obtain ⟨hon, hll, hsm, hs7, hvm⟩ : on = true ∧ l = l' ∧ s ≤ m' ∧ l' ≤ s + 7 ∧ v ≤ m' := by
          rcases hI' with ⟨h, _⟩ | ⟨_, h⟩
          · omega
          · exact h
        simp only at s0 v0
        have HLL := Lib.hid hll
        clear hd hc' hI' hon hll s1' v1 p0 p1 p2 HST
        go_wp2_with fail
        (with_reducible refine HT.out.mono ?_)
        rintro e4 w4 ⟨rfl, s4, b4⟩
        have S4 := Lib.hid s4
        have B4 := Lib.hid b4
        clear s4 b4 HT HR S B hb1 hc1 lt1
        have HA1 : Hid (Calls Try.prog 10 #[.pointer (some ⟨w.heap.size, 0, none⟩), .int .i64 (-1 - r), .int .i64 0] w4 fun e w' => e = .returned (.tuple #[]) ∧ w4 = w') := sample_no S4.out _ _ (.inl HN1.out.1)
        have HA2 : Hid (Calls Try.prog 10 #[.pointer (some ⟨w.heap.size, 0, none⟩), .int .i64 (r + 1048576 + 1), .int .i64 0] w4 fun e w' => e = .returned (.tuple #[]) ∧ w4 = w') := sample_no S4.out _ _ (.inr (.inl HN1.out.2))
        have HA3 : Hid (Calls Try.prog 10 #[.pointer (some ⟨w.heap.size, 0, none⟩), .int .i64 r, .int .i64 (-1 - r)] w4 fun e w' => e = .returned (.tuple #[]) ∧ w4 = w') := sample_no S4.out _ _ (.inr (.inr HN1.out.1))
        obtain ⟨p, hp⟩ : ∃ p, ptoV s v 0 = p := ⟨_, rfl⟩
        obtain ⟨q, hq⟩ : ∃ q, ptoV s v 3 = q := ⟨_, rfl⟩
        obtain ⟨o, ho⟩ : ∃ o, ptoV s v 1 = o := ⟨_, rfl⟩
        have HS : Hid (Calls Try.prog 12 #[.pointer (some ⟨w.heap.size, 0, none⟩)] w4 fun e w' => e = .returned (.int .i64 s) ∧ w4 = w') := smoothed_any S4.out
        have HV : Hid (Calls Try.prog 13 #[.pointer (some ⟨w.heap.size, 0, none⟩)] w4 fun e w' => e = .returned (.int .i64 v) ∧ w4 = w') := varies_any S4.out
        have HL : Hid (Calls Try.prog 14 #[.pointer (some ⟨w.heap.size, 0, none⟩)] w4 fun e w' => e = .returned (.int .i64 l') ∧ w4 = w') := HLL.out ▸ least_any S4.out
        have HP : Hid (Calls Try.prog 15 #[.pointer (some ⟨w.heap.size, 0, none⟩), .int .i64 0] w4 (Quiet (.int .i64 p) w4)) := hp ▸ pto_any S4.out OK'.out 0
        have HPm : Hid (∀ m, Calls Try.prog 15 #[.pointer (some ⟨w.heap.size, 0, none⟩), .int .i64 0] (w4.drewN m) (Quiet (.int .i64 p) (w4.drewN m))) := fun m => hp ▸ pto_any (S4.out.drewN m) OK'.out 0
        have HQ : Hid (∀ m, Calls Try.prog 15 #[.pointer (some ⟨w.heap.size, 0, none⟩), .int .i64 3] (w4.drewN m) (Quiet (.int .i64 q) (w4.drewN m))) := fun m => hq ▸ pto_any (S4.out.drewN m) OK'.out 3
        have HO : Hid (∀ m, Calls Try.prog 15 #[.pointer (some ⟨w.heap.size, 0, none⟩), .int .i64 1] (w4.drewN m) (Quiet (.int .i64 o) (w4.drewN m))) := fun m => ho ▸ pto_any (S4.out.drewN m) OK'.out 1
        have p40 : 40 ≤ p := by have := pto_bd s v 0; omega
        have q64 : q ≤ 64 := by have := pto_bd s v 3; omega
        have po : p ≤ o := by have := pto_mono s v (show (0 : Int) ≤ 1 by omega); omega
        have t1 : (l' != l') = false := by simp
        have s8 : l' ≤ s + 8 := by omega
        have s9 : s ≤ 1048576 := OK'.out.1.2
        clear hp hq ho hs7
        go_wp2_with fail
        (with_reducible refine HA1.out.mono ?_)
        rintro e5 w5 ⟨rfl, rfl⟩
        go_wp2_with fail
        (with_reducible refine HA2.out.mono ?_)
        rintro e5 w5 ⟨rfl, rfl⟩
        go_wp2_with fail
        (with_reducible refine HA3.out.mono ?_)
        rintro e5 w5 ⟨rfl, rfl⟩
        clear n1' n2' n3' HA1 HA2 HA3
        go_wp2_with fail
        (with_reducible refine HL.out.mono ?_)
        rintro e5 w5 ⟨rfl, rfl⟩
        go_wp2_with fail
        (with_reducible refine HS.out.mono ?_)
        rintro e5 w5 ⟨rfl, rfl⟩
        go_wp2_with fail
        (with_reducible refine HS.out.mono ?_)
        rintro e5 w5 ⟨rfl, rfl⟩
        go_wp2_with fail
        (with_reducible refine HV.out.mono ?_)
        rintro e5 w5 ⟨rfl, rfl⟩
        go_wp2_with fail
        (with_reducible refine HV.out.mono ?_)
        rintro e5 w5 ⟨rfl, rfl⟩
        go_wp2_with fail
        (with_reducible refine HP.out.mono ?_)
        rintro e5 w5 ⟨rfl, m1, rfl⟩
        go_wp2_with fail
        (with_reducible refine (HQ.out m1).mono ?_)
        rintro e5 w5 ⟨rfl, m2, rfl⟩
        go_wp2_with fail
        (with_reducible refine (HO.out _).mono ?_)
        rintro e5 w5 ⟨rfl, m3, rfl⟩
        go_wp2_with fail
        (with_reducible refine (HPm.out _).mono ?_)
        rintro e5 w5 ⟨rfl, m4, rfl⟩
        go_wp2_with fail
        go_roundw
        case rel => exact ⟨j + 1, l', m', _, by omega, by first | rfl | rw [HLM.out.1], by first | rfl | rw [HLM.out.2], by go_num, HI'.out, S4.out.drewN _, below_drewN B4.out _⟩
        case measure => simp [intOf]; omega
    · have HX : Hid (∀ u, Below w.heap.size w u → Calls Try.prog 7 #[] u fun e w' => e = .returned (.bool true) ∧ Below w.heap.size w w') := fun u hu => (awake_any u).mono fun e w' h => ⟨h.1, hu.trans (h.2.mono hu.size)⟩
      have hlt1 : ¬ (j : Int) < (n1 : Int) := by omega
      go_wp2_with fail
      (with_reducible refine (HX.out _ B.out).mono ?_)
      rintro e5 w5 ⟨rfl, b5⟩
      go_wp2
      go_ret
      exact ⟨rfl, b5⟩
end Go.Proofs.Ythebngmgekbpoaa
