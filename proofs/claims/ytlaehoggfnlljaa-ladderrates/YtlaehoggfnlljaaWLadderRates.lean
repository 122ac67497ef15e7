/-
  The walk of LadderRates.
-/
import Derived.Test.YtlaehoggfnlljaaLaD
import Derived.Test.YtlaehoggfnlljaaLow
namespace Go.Proofs.Ytlaehoggfnlljaa
open Go.RowKit Go.Lib Go.Maps
set_option linter.unusedVariables false

theorem low_int (x n : Int) (h0 : 0 < n) (h1 : n < 4611686018427387904) : ∃ y : Int, 0 ≤ y ∧ y < n ∧ ∀ u : World, Calls Try.prog 18 #[.int .i64 x, .int .i64 n] u fun e w' => e = .returned (.int .i64 y) ∧ u = w' := by
  have h := low_bd x n h0 h1
  exact ⟨_, h.1, h.2, fun u => low_any x n u h0 h1⟩
/-- of four ticks far behind one is a slot at the latest when k of them are left to come -/
theorem rates_far {h a i : Int} (ha : a < 1500) (h0 : 0 ≤ i) (h1 : i < 4) : slotL h [a] (2000 + i) = slowL h (2000 + i) := by
  unfold slotL
  have : busyL [a] (2000 + i) = false := by rw [busy_one]; simp; omega
  rw [this]
  simp
  omega
def cntF (h : Int) : Nat → Nat
  | 0 => 0
  | k + 1 => cntF h k + (if slowL h (2000 + (k : Int)) = true then 1 else 0)
theorem cnt_le (h : Int) : ∀ k, cntF h k ≤ k
  | 0 => Nat.le_refl _
  | k + 1 => by
    have := cnt_le h k
    unfold cntF
    split <;> omega
theorem cnt_four {h : Int} (h0 : 0 ≤ h) (h1 : h < 2) : cntF h 4 = 1 := by
  rcases (show h = 0 ∨ h = 1 by omega) with rfl | rfl <;> decide
theorem tmod_small {t : Int} (h0 : 0 ≤ t) (h1 : t < 2000) : t.tmod 2000 = t := by
  rw [Int.tmod_eq_emod_of_nonneg h0]
  omega
theorem slow_small {h t : Int} (h0 : 0 ≤ h) (h1 : 0 ≤ t) : ((t + 2 * h).tmod 4 == 0) = slowL h t := by
  rw [Int.tmod_eq_emod_of_nonneg (by omega)]
  unfold slowL
  rw [Bool.eq_iff_iff]
  simp
set_option maxHeartbeats 2000000 in
theorem rates_any (h0 a0 f0 : Int) (w : World) : Calls Try.prog 4 #[.int .i64 h0, .int .i64 a0, .int .i64 f0] w fun e w' => e = .returned (.bool true) ∧ Below w.heap.size w w' := by
  obtain ⟨a, ha0, ha1, HA⟩ := low_int a0 1000 (by omega) (by omega)
  obtain ⟨f, hf0, hf1, HF⟩ := low_int f0 100 (by omega) (by omega)
  obtain ⟨h, hh0, hh1, HH⟩ := low_int h0 2 (by omega) (by omega)
  have HA := Lib.hid HA
  have HF := Lib.hid HF
  have HH := Lib.hid HH
  obtain ⟨b, hb⟩ : ∃ b, 100 + a = b := ⟨_, rfl⟩
  obtain ⟨g, hg⟩ : ∃ g, f - 50 = g := ⟨_, rfl⟩
  obtain ⟨t, ht⟩ : ∃ t, b + g = t := ⟨_, rfl⟩
  have hb0 : 100 ≤ b ∧ b < 1100 := by omega
  have hg0 : -50 ≤ g ∧ g < 50 := by omega
  have ht0 : 50 ≤ t ∧ t < 1150 := by omega
  have hwb : Hid ((Lit.int .i64 b).wf = true) := wf_of (by omega) (by omega)
  have hwt : Hid ((Lit.int .i64 t).wf = true) := wf_of (by omega) (by omega)
  have r1 : wrap64 (100 + a) = b := by unfold wrap64; omega
  have r2 : wrap64 (f - 50) = g := by unfold wrap64; omega
  have r3 : wrap64 (b + g) = t := by unfold wrap64; omega
  obtain ⟨ht0, ht1⟩ := ht0
  obtain ⟨u, hu⟩ : ∃ u, 2000 + t = u := ⟨_, rfl⟩
  have r10 : wrap64 u = u := by unfold wrap64; omega
  have r12 : u - t = 2000 := by omega
  have r11 : wrap64 2000 = 2000 := by unfold wrap64; omega
  have r4 : t.tmod 2000 = t := tmod_small (by omega) (by omega)
  obtain ⟨bz, hbz⟩ : ∃ z : Bool, (decide (0 ≤ g) && decide (g < 24)) = z := ⟨_, rfl⟩
  have HBZ : Hid (busyL [b] t = bz) := by
    show _ = _
    rw [busy_one, ← hbz, Bool.eq_iff_iff]
    simp
    omega
  have HGZ := Lib.hid hbz
  clear hbz
  go_enter Try.func4, Try.ntmps4
  go_wp2_with fail
  (with_reducible refine (HA.out w).mono ?_)
  rintro e1 w1 ⟨rfl, rfl⟩
  go_wp2_with fail
  (with_reducible refine (HF.out w).mono ?_)
  rintro e1 w1 ⟨rfl, rfl⟩
  go_wp2_with fail
  (with_reducible refine (HH.out w).mono ?_)
  rintro e1 w1 ⟨rfl, rfl⟩
  go_wp2_with fail
  (with_reducible refine (new_any w h).mono ?_)
  rintro e1 w1 ⟨rfl, l1, b1⟩
  have B1 := Lib.hid b1
  have HK := Lib.hid (ask_any l1 b hwb.out (by decide))
  clear l1 b1
  go_wp2_with fail
  (with_reducible refine HK.out.mono ?_)
  rintro e2 w2 ⟨rfl, l2, g2⟩
  have L2 : Hid (La w2 (w.heap.size + 1) w.heap.size h [b]) := l2
  have B2 : Hid (Below w.heap.size w w2) := B1.out.grown g2 B1.out.size (fun j hj => by cases hj; exact Nat.le_refl _)
  clear l2 g2 HK B1
  have HSL : Hid (slotL h [b] t = (bz || slowL h t)) := by
    show slotL h [b] t = _
    unfold slotL
    rw [HBZ.out]
    simp
    omega
  have HCS : Hid ((g < 0 ∧ bz = false) ∨ (0 ≤ g ∧ g < 24 ∧ bz = true) ∨ (24 ≤ g ∧ bz = false)) := by
    have := HGZ.out
    show _ ∨ _ ∨ _
    by_cases c1 : g < 0
    · exact .inl ⟨c1, by rw [← this]; simp; omega⟩
    · by_cases c2 : g < 24
      · exact .inr (.inl ⟨by omega, c2, by rw [← this]; simp; omega⟩)
      · exact .inr (.inr ⟨by omega, by rw [← this]; simp; omega⟩)
  have r6 := slow_small (h := h) (t := t) hh0 (by omega)
  have r7 : wrap64 (2 * h) = 2 * h := by unfold wrap64; omega
  have r8 : wrap64 (t + 2 * h) = t + 2 * h := by unfold wrap64; omega
  clear HGZ
  obtain ⟨q, hq⟩ : ∃ q, slowL h t = q := ⟨_, rfl⟩
  have r6' : ((t + 2 * h) % 4 == 0) = q := by rw [← hq]; unfold slowL; rw [Bool.eq_iff_iff]; simp
  rw [hq] at HSL r6
  have hqq : (q == q) = true := by simp
  clear hq
  rcases HCS.out with ⟨hc1, rfl⟩ | ⟨hc0, hc1, rfl⟩ | ⟨hc1, rfl⟩
  all_goals clear HCS
  all_goals (first | simp only [Bool.false_or] at HSL | simp only [Bool.true_or] at HSL)
  all_goals go_wp2_with fail
  all_goals clear hb hg ht r1 r2 r3
  all_goals go_loopw [10, 11] (fun v i wr => ∃ (k : Nat) (x : Int), i = .int .i64 k ∧ v = .int .i64 x ∧ k ≤ 4 ∧ 0 ≤ x ∧ x ≤ k ∧ Hid (x = (cntF h k : Int)) ∧ Hid (La wr (w.heap.size + 1) w.heap.size h [b]) ∧ Hid (Below w.heap.size w wr)) (fun _ i _ => 4 - (intOf i).toNat)
  all_goals try (case atStart => exact ⟨0, 0, rfl, rfl, by omega, by omega, by omega, rfl, L2.out, B2.out⟩)
  all_goals obtain ⟨k, x, rfl, rfl, hk, hx0, hx1, HX0, HL, HB⟩ := hrel
  all_goals by_cases hlt : k < 4
  all_goals try (
    have HN : Hid (cntF h (k + 1) = cntF h k + (if slowL h (2000 + (k : Int)) = true then 1 else 0)) := rfl
    have HFR : Hid (slotL h [b] (2000 + (k : Int)) = slowL h (2000 + (k : Int))) := rates_far (by omega) (by omega) (by omega)
    obtain ⟨y, hy⟩ : ∃ y, 2000 + (k : Int) = y := ⟨_, rfl⟩
    have hx2 : x ≤ 4 := by omega
    have hy0 : 2000 ≤ y ∧ y < 2004 := by omega
    rw [hy] at HN HFR
    have hwx : (Lit.int .i64 y).wf = true := wf_of (by omega) (by omega)
    have HS := Lib.hid (slot_any HL.out y hwx)
    rw [HFR.out] at HS
    have r9 : wrap64 y = y := by unfold wrap64; omega
    obtain ⟨z, hz⟩ : ∃ z, slowL h y = z := ⟨_, rfl⟩
    rw [hz] at HS HN
    clear HFR
    clear hz hwx
    cases z
    all_goals go_wp2_with fail
    all_goals (with_reducible refine HS.out.mono ?_)
    all_goals rintro e3 w3 ⟨rfl, b3⟩
    all_goals have L3 := Lib.hid (HL.out.below b3)
    all_goals have B3 := Lib.hid (HB.out.trans (b3.mono HB.out.size))
    all_goals clear b3 HS
    all_goals go_wp2_with fail
    all_goals go_roundw
    case rel => exact ⟨k + 1, _, by go_num, rfl, by omega, by omega, by omega, by show _ = _; rw [HN.out, HX0.out]; simp, L3.out, B3.out⟩
    case measure => simp [intOf]; omega
    case rel => exact ⟨k + 1, _, by go_num, rfl, by omega, by omega, by omega, by show _ = _; rw [HN.out, HX0.out]; simp, L3.out, B3.out⟩
    case measure => simp [intOf]; omega)
  all_goals obtain rfl : k = 4 := by omega
  all_goals obtain rfl : x = 1 := by rw [HX0.out, cnt_four hh0 hh1]; rfl
  all_goals have HY := Lib.hid (busy_any HL.out t hwt.out)
  all_goals have HX := Lib.hid (fun (u : World) (hu : Below wr.heap.size wr u) => slot_any (HL.out.below hu) t hwt.out)
  all_goals rw [HBZ.out] at HY
  all_goals rw [HSL.out] at HX
  all_goals clear HSL HBZ
  all_goals go_wp2_with fail
  all_goals (with_reducible refine HY.out.mono ?_)
  all_goals rintro e4 w4 ⟨rfl, b4⟩
  all_goals have B4 := Lib.hid (HB.out.trans (b4.mono HB.out.size))
  all_goals have HX4 := Lib.hid (HX.out w4 b4)
  all_goals clear b4 HY HX HL HB
  all_goals go_wp2_with fail
  all_goals (with_reducible refine HX4.out.mono ?_)
  all_goals rintro e5 w5 ⟨rfl, b5⟩
  all_goals have B5 := Lib.hid (B4.out.trans (b5.mono B4.out.size))
  all_goals clear b5 HX4
  all_goals go_wp2_with fail
  all_goals first
    | ((with_reducible refine (awake_any w5).mono ?_)
       rintro e6 w6 ⟨rfl, b6⟩
       go_wp2_with fail
       go_ret
       exact ⟨rfl, B5.out.trans (b6.mono B5.out.size)⟩)
    | ((with_reducible refine (HH.out w5).mono ?_)
       rintro e6 w6 ⟨rfl, rfl⟩
       go_wp2_with fail
       (with_reducible refine (awake_any w5).mono ?_)
       rintro e7 w7 ⟨rfl, b7⟩
       go_wp2_with fail
       go_ret
       exact ⟨rfl, B5.out.trans (b7.mono B5.out.size)⟩)
end Go.Proofs.Ytlaehoggfnlljaa
