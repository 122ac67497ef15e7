/-
  The walk of LadderMore.
-/
import Derived.Test.YtlaehoggfnlljaaWLadderRates
namespace Go.Proofs.Ytlaehoggfnlljaa
open Go.RowKit Go.Lib Go.Maps
set_option linter.unusedVariables false

theorem more_long (A : Option Addr) (n c : Nat) (h m t : Int) (w : World) (hn : 10 < n) :
    Calls Try.prog 6 #[.int .i64 h, .slice A n c, .int .i64 m, .int .i64 t] w fun e w' => e = .returned (.bool true) ∧ Below w.heap.size w w' := by
  go_enter Try.func6, Try.ntmps6
  go_wp2_with fail
  (with_reducible refine (awake_any w).mono ?_)
  rintro e1 w1 ⟨rfl, b1⟩
  go_wp2_with fail
  go_ret
  exact ⟨rfl, b1⟩
theorem low_wf {y : Int} (h0 : 0 ≤ y) (h1 : y < 2000) : (Lit.int .i64 y).wf = true := wf_of (by omega) (by omega)
theorem slow_two (h t : Int) : slowL (h + 2) t = slowL h t := by
  unfold slowL
  rw [Bool.eq_iff_iff]
  simp
  omega
theorem slot_two (h : Int) (A : List Int) (t : Int) : slotL (h + 2) A t = slotL h A t := by unfold slotL; rw [slow_two]
theorem busy_more (A : List Int) {m t : Int} (hm : 0 ≤ m) : busyL (A ++ [m]) t = (busyL A t || (decide (m ≤ t) && decide (t < m + 24))) := by
  rw [busy_append, busy_one]
  have e : (decide (0 ≤ m) && decide (m ≤ t) && decide (t - 24 < m)) = (decide (m ≤ t) && decide (t < m + 24)) := by
    rw [Bool.eq_iff_iff]
    simp
    omega
  rw [e]
theorem slot_more (h : Int) (A : List Int) {m t : Int} (hm : 0 ≤ m) (ht : 0 ≤ t) : slotL h (A ++ [m]) t = (slotL h A t || (decide (m ≤ t) && decide (t < m + 24))) := by
  unfold slotL
  rw [busy_more A hm]
  simp [ht]
  cases busyL A t <;> cases slowL h t <;> simp
set_option maxHeartbeats 3000000 in
theorem more_any {w : World} {A : Option Addr} {n c : Nat} {zs : List Int} (hZ : SlI w w.heap.size A n zs) (hn : n ≤ 10) (h0 m0 t0 : Int) :
    Calls Try.prog 6 #[.int .i64 h0, .slice A n c, .int .i64 m0, .int .i64 t0] w fun e w' => e = .returned (.bool true) ∧ Below w.heap.size w w' := by
  obtain ⟨h, hh0, hh1, HH⟩ := low_int h0 1000 (by omega) (by omega)
  obtain ⟨m, hm0, hm1, HM⟩ := low_int m0 300 (by omega) (by omega)
  obtain ⟨t, ht0, ht1, HT⟩ := low_int t0 400 (by omega) (by omega)
  have HH := Lib.hid HH
  have HM := Lib.hid HM
  have HT := Lib.hid HT
  have HL := Lib.hid hZ.1
  have hwm := Lib.hid (low_wf hm0 (by omega))
  have hwt := Lib.hid (low_wf ht0 (by omega))
  obtain ⟨h2, hh2⟩ : ∃ h2, h + 2 = h2 := ⟨_, rfl⟩
  have rh2 : wrap64 h2 = h2 := by unfold wrap64; omega
  go_enter Try.func6, Try.ntmps6
  go_wp2_with fail
  (with_reducible refine (HH.out w).mono ?_)
  rintro e1 w1 ⟨rfl, rfl⟩
  go_wp2_with fail
  (with_reducible refine (HM.out w).mono ?_)
  rintro e1 w1 ⟨rfl, rfl⟩
  go_wp2_with fail
  (with_reducible refine (HT.out w).mono ?_)
  rintro e1 w1 ⟨rfl, rfl⟩
  go_wp2_with fail
  (with_reducible refine (new_any w h).mono ?_)
  rintro e1 w1 ⟨rfl, l1, b1⟩
  have LA1 := Lib.hid l1
  have B1 := Lib.hid b1
  clear l1 b1
  go_wp2_with fail
  (with_reducible refine (new_any w1 h).mono ?_)
  rintro e2 w2 ⟨rfl, l2, b2⟩
  have LA2 := Lib.hid (LA1.out.below b2)
  have LB2 := Lib.hid l2
  have B2 := Lib.hid (B1.out.trans (b2.mono B1.out.size))
  have s2 := Lib.hid b2.size
  clear l2 b2
  go_wp2_with fail
  (with_reducible refine (new_any w2 h2).mono ?_)
  rintro e3 w3 ⟨rfl, l3, b3⟩
  have LA3 := Lib.hid (LA2.out.below b3)
  have LB3 := Lib.hid (LB2.out.below b3)
  have LC3 := Lib.hid l3
  have B3 := Lib.hid (B2.out.trans (b3.mono B2.out.size))
  clear l3 b3
  have D : Hid (w.heap.size + 1 < w1.heap.size ∧ w1.heap.size + 1 < w2.heap.size) := ⟨LA1.out.lt, LB2.out.lt⟩
  clear LA1 LA2 LB2 B1 B2 s2
  go_wp2_with fail
  go_loopw [12, 13] (fun i _ wr => ∃ (k : Nat) (L : List Int), i = .int .i64 k ∧ k ≤ n ∧ Hid (L.length = k) ∧ Hid (La wr (w.heap.size + 1) w.heap.size h L) ∧ Hid (La wr (w1.heap.size + 1) w1.heap.size h L) ∧ Hid (La wr (w2.heap.size + 1) w2.heap.size h2 L) ∧ Hid (Below w.heap.size w wr)) (fun i _ _ => n - (intOf i).toNat)
  case atStart => exact ⟨0, [], rfl, by omega, rfl, LA3.out, LB3.out, LC3.out, B3.out⟩
  case round =>
    obtain ⟨k, L, rfl, hk, HK, HA, HB, HC, HW⟩ := hrel
    by_cases hlt : k < n
    · obtain ⟨g, off, rfl, hg, cx⟩ := hZ.at_ hlt
      have cx' : wr.cell? ⟨g, off + k, none⟩ = some (.int .i64 (zs.getD k 0)) := (HW.out.cell (p := ⟨g, off + k, none⟩) hg).trans cx
      obtain ⟨x, hx⟩ : ∃ x, zs.getD k 0 = x := ⟨_, rfl⟩
      rw [hx] at cx'
      obtain ⟨y, hy0, hy1, HY⟩ := low_int x 300 (by omega) (by omega)
      have HY := Lib.hid HY
      have hwy := Lib.hid (low_wf hy0 (by omega))
      have P4 := Lib.hid (ask_any HA.out y hwy.out (by have := HK.out; omega))
      clear hx cx
      go_wp2_with fail
      (with_reducible refine (HY.out wr).mono ?_)
      rintro e4 w4 ⟨rfl, rfl⟩
      go_wp2_with fail
      (with_reducible refine P4.out.mono ?_)
      rintro e4 w4 ⟨rfl, l4, g4⟩
      have A4 := Lib.hid l4
      have B4 := Lib.hid (HB.out.kept g4 (by have := D.out; simp; omega) (by have := D.out; simp; omega))
      have C4 := Lib.hid (HC.out.kept g4 (by have := D.out; simp; omega) (by have := D.out; simp; omega))
      have W4 : Hid (Below w.heap.size w w4) := HW.out.grown g4 HW.out.size (fun j hj => by cases hj; exact Nat.le_refl _)
      have P5 := Lib.hid (ask_any B4.out y hwy.out (by have := HK.out; omega))
      clear l4 g4 HA HB HC HW P4 HY
      go_wp2_with fail
      (with_reducible refine P5.out.mono ?_)
      rintro e5 w5 ⟨rfl, l5, g5⟩
      have B5 := Lib.hid l5
      have A5 := Lib.hid (A4.out.kept g5 (by have := D.out; simp; omega) (by have := D.out; simp; omega))
      have C5 := Lib.hid (C4.out.kept g5 (by have := D.out; simp; omega) (by have := D.out; simp; omega))
      have W5 : Hid (Below w.heap.size w w5) := W4.out.grown g5 W4.out.size (fun j hj => by cases hj; have := D.out; omega)
      have P6 := Lib.hid (ask_any C5.out y hwy.out (by have := HK.out; omega))
      clear l5 g5 A4 B4 C4 W4 P5
      go_wp2_with fail
      (with_reducible refine P6.out.mono ?_)
      rintro e6 w6 ⟨rfl, l6, g6⟩
      have C6 := Lib.hid l6
      have A6 := Lib.hid (A5.out.kept g6 (by have := D.out; simp; omega) (by have := D.out; simp; omega))
      have B6 := Lib.hid (B5.out.kept g6 (by have := D.out; simp; omega) (by have := D.out; simp; omega))
      have W6 : Hid (Below w.heap.size w w6) := W5.out.grown g6 W5.out.size (fun j hj => by cases hj; have := D.out; omega)
      clear l6 g6 A5 B5 C5 W5 P6
      go_wp2_with fail
      go_roundw
      case rel => exact ⟨k + 1, L ++ [y], by go_num, by omega, by show _ = _; have := HK.out; simp; omega, A6.out, B6.out, C6.out, W6.out⟩
      case measure => simp [intOf]; omega
    · obtain rfl : k = n := by omega
      have P4 := Lib.hid (ask_any HB.out m hwm.out (by have := HK.out; omega))
      obtain ⟨m24, hm24⟩ : ∃ m24, m + 24 = m24 := ⟨_, rfl⟩
      have rm24 : wrap64 m24 = m24 := by unfold wrap64; omega
      obtain ⟨gz, hgz⟩ : ∃ gz, (decide (m ≤ t) && decide (t < m24)) = gz := ⟨_, rfl⟩
      obtain ⟨s, hs⟩ : ∃ s, slotL h L t = s := ⟨_, rfl⟩
      obtain ⟨z, hz⟩ : ∃ z, busyL L t = z := ⟨_, rfl⟩
      have F1 : Hid (slotL h2 L t = s) := by show _ = _; rw [← hh2, slot_two, hs]
      have F2 : Hid (slotL h (L ++ [m]) t = (s || gz)) := by show _ = _; rw [slot_more h L hm0 ht0, hs, hm24, hgz]
      have F3 : Hid (busyL (L ++ [m]) t = (z || gz)) := by show _ = _; rw [busy_more L hm0, hz, hm24, hgz]
      have F4 := Lib.hid hs
      have F5 := Lib.hid hz
      have HCS : Hid ((t < m ∧ gz = false) ∨ (m ≤ t ∧ t < m24 ∧ gz = true) ∨ (m ≤ t ∧ m24 ≤ t ∧ gz = false)) := by
        show _ ∨ _ ∨ _
        by_cases c1 : t < m
        · exact .inl ⟨c1, by rw [← hgz]; simp; omega⟩
        · by_cases c2 : t < m24
          · exact .inr (.inl ⟨by omega, c2, by rw [← hgz]; simp; omega⟩)
          · exact .inr (.inr ⟨by omega, by omega, by rw [← hgz]; simp; omega⟩)
      clear hs hz hgz LA3 LB3 LC3 B3
      go_wp2_with fail
      (with_reducible refine P4.out.mono ?_)
      rintro e4 w4 ⟨rfl, l4, g4⟩
      have B4 := Lib.hid l4
      have A4 := Lib.hid (HA.out.kept g4 (by have := D.out; simp; omega) (by have := D.out; simp; omega))
      have C4 := Lib.hid (HC.out.kept g4 (by have := D.out; simp; omega) (by have := D.out; simp; omega))
      have W4 : Hid (Below w.heap.size w w4) := HW.out.grown g4 HW.out.size (fun j hj => by cases hj; have := D.out; omega)
      have PA := Lib.hid (fun (u : World) (hu : Below w4.heap.size w4 u) => slot_any (A4.out.below hu) t hwt.out)
      have PC := Lib.hid (fun (u : World) (hu : Below w4.heap.size w4 u) => slot_any (C4.out.below hu) t hwt.out)
      have PB := Lib.hid (fun (u : World) (hu : Below w4.heap.size w4 u) => slot_any (B4.out.below hu) t hwt.out)
      have QA := Lib.hid (fun (u : World) (hu : Below w4.heap.size w4 u) => busy_any (A4.out.below hu) t hwt.out)
      have QC := Lib.hid (fun (u : World) (hu : Below w4.heap.size w4 u) => busy_any (C4.out.below hu) t hwt.out)
      have QB := Lib.hid (fun (u : World) (hu : Below w4.heap.size w4 u) => busy_any (B4.out.below hu) t hwt.out)
      rw [F4.out] at PA
      rw [F1.out] at PC
      rw [F2.out] at PB
      rw [F5.out] at QA QC
      rw [F3.out] at QB
      clear l4 g4 HA HB HC HW P4 F1 F2 F3 F4 F5 A4 B4 C4
      rcases HCS.out with ⟨hc0, rfl⟩ | ⟨hc0, hc1, rfl⟩ | ⟨hc0, hc1, rfl⟩
      all_goals clear HCS
      all_goals cases s
      all_goals cases z
      all_goals simp only [Bool.or_false, Bool.or_true] at PB QB
      all_goals have U0 : Hid (Below w4.heap.size w4 w4) := Below.refl _ _
      all_goals have PA0 := Lib.hid (PA.out w4 U0.out)
      all_goals go_wp2_with fail
      all_goals (with_reducible refine PA0.out.mono ?_)
      all_goals rintro e5 w5 ⟨rfl, b5⟩
      all_goals have U5 := Lib.hid b5
      all_goals have PC5 := Lib.hid (PC.out w5 U5.out)
      all_goals clear b5 PA0 U0 PA
      all_goals go_wp2_with fail
      all_goals (with_reducible refine PC5.out.mono ?_)
      all_goals rintro e6 w6 ⟨rfl, b6⟩
      all_goals have U6 := Lib.hid (U5.out.trans (b6.mono U5.out.size))
      all_goals have QC6 := Lib.hid (QC.out w6 U6.out)
      all_goals clear b6 U5 PC PC5
      all_goals go_wp2_with fail
      all_goals (with_reducible refine QC6.out.mono ?_)
      all_goals rintro e7 w7 ⟨rfl, b7⟩
      all_goals have U7 := Lib.hid (U6.out.trans (b7.mono U6.out.size))
      all_goals have QA7 := Lib.hid (QA.out w7 U7.out)
      all_goals clear b7 U6 QC QC6
      all_goals go_wp2_with fail
      all_goals (with_reducible refine QA7.out.mono ?_)
      all_goals rintro e8 w8 ⟨rfl, b8⟩
      all_goals have U8 := Lib.hid (U7.out.trans (b8.mono U7.out.size))
      all_goals have PB8 := Lib.hid (PB.out w8 U8.out)
      all_goals clear b8 U7 QA7
      all_goals go_wp2_with fail
      all_goals (with_reducible refine PB8.out.mono ?_)
      all_goals rintro e9 w9 ⟨rfl, b9⟩
      all_goals have U9 := Lib.hid (U8.out.trans (b9.mono U8.out.size))
      all_goals have QB9 := Lib.hid (QB.out w9 U9.out)
      all_goals clear b9 U8 PB8
      all_goals go_wp2_with fail
      all_goals (with_reducible refine QB9.out.mono ?_)
      all_goals rintro ea wa ⟨rfl, ba⟩
      all_goals have Ua := Lib.hid (U9.out.trans (ba.mono U9.out.size))
      all_goals have QAa := Lib.hid (QA.out wa Ua.out)
      all_goals clear ba U9 QB9
      all_goals go_wp2_with fail
      all_goals (with_reducible refine QAa.out.mono ?_)
      all_goals rintro eb wb ⟨rfl, bb⟩
      all_goals have Ub := Lib.hid (W4.out.trans ((Ua.out.trans (bb.mono Ua.out.size)).mono W4.out.size))
      all_goals clear bb Ua QAa
      all_goals go_wp2_with fail
      all_goals (with_reducible refine (awake_any wb).mono ?_)
      all_goals rintro ec wc ⟨rfl, bc⟩
      all_goals go_wp2_with fail
      all_goals go_ret
      all_goals refine ⟨?_, Ub.out.trans (bc.mono Ub.out.size)⟩
      all_goals first | rfl | (show Ending.returned (Value.bool (!decide (t < m24))) = _; rw [decide_eq_false (by omega)]; rfl)
end Go.Proofs.Ytlaehoggfnlljaa
