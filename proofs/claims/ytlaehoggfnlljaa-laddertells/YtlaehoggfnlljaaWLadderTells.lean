/-
  The walk of LadderTells.
-/
import Derived.Test.YtlaehoggfnlljaaLaD
namespace Go.Proofs.Ytlaehoggfnlljaa
open Go.RowKit Go.Lib Go.Maps
set_option linter.unusedVariables false

theorem tells_long (A : Option Addr) (n c : Nat) (h f t k : Int) (w : World) (hn : 20 < n) :
    Calls Try.prog 3 #[.int .i64 h, .slice A n c, .int .i64 f, .int .i64 t, .int .i64 k] w fun e w' => e = .returned (.bool true) ∧ Below w.heap.size w w' := by
  go_enter Try.func3, Try.ntmps3
  go_wp2_with fail
  (with_reducible refine (awake_any w).mono ?_)
  rintro e1 w1 ⟨rfl, b1⟩
  go_wp2_with fail
  go_ret
  exact ⟨rfl, b1⟩
set_option maxHeartbeats 2000000 in
theorem tells_any {w : World} {A : Option Addr} {n c : Nat} {zs : List Int} (hZ : SlI w w.heap.size A n zs) (hw : ∀ x ∈ zs, (Lit.int .i64 x).wf = true) (hn : n ≤ 20) (h f t k : Int)
    (hf : (Lit.int .i64 f).wf = true) (ht : (Lit.int .i64 t).wf = true) (hk : (Lit.int .i64 k).wf = true) :
    Calls Try.prog 3 #[.int .i64 h, .slice A n c, .int .i64 f, .int .i64 t, .int .i64 k] w fun e w' => e = .returned (.bool true) ∧ Below w.heap.size w w' := by
  have HW := Lib.hid hw
  have HL := Lib.hid hZ.1
  clear hw
  go_enter Try.func3, Try.ntmps3
  go_wp2_with fail
  (with_reducible refine (new_any w h).mono ?_)
  rintro e1 w1 ⟨rfl, l1, b1⟩
  have L1 := Lib.hid l1
  have B1 := Lib.hid b1
  clear l1 b1
  go_wp2_with fail
  go_loopw [12] (fun i wr => ∃ j : Nat, i = .int .i64 j ∧ j ≤ n ∧ Hid (La wr (w.heap.size + 1) w.heap.size h (zs.take j)) ∧ Hid (Below w.heap.size w wr)) (fun i _ => n - (intOf i).toNat)
  case atStart => exact ⟨0, rfl, by omega, by rw [List.take_zero]; exact L1.out, B1.out⟩
  case round =>
    obtain ⟨j, rfl, hj, HA, HB⟩ := hrel
    by_cases hlt : j < n
    · obtain ⟨g, off, rfl, hg, cx⟩ := hZ.at_ hlt
      have cx' : wr.cell? ⟨g, off + j, none⟩ = some (.int .i64 (zs.getD j 0)) := (HB.out.cell (p := ⟨g, off + j, none⟩) hg).trans cx
      obtain ⟨x, hx⟩ : ∃ x, zs.getD j 0 = x := ⟨_, rfl⟩
      have hwx : (Lit.int .i64 x).wf = true := by rw [← hx]; exact getD_wf HW.out j
      have HT : Hid (zs.take (j + 1) = zs.take j ++ [x]) := by show _ = _; rw [take_more zs (by have := HL.out; omega), hx]
      rw [hx] at cx'
      have HK := Lib.hid (ask_any HA.out x hwx (by rw [List.length_take]; omega))
      clear hx cx hwx
      go_wp2_with fail
      (with_reducible refine HK.out.mono ?_)
      rintro e2 w2 ⟨rfl, l2, g2⟩
      have L2 := Lib.hid l2
      have G2 := Lib.hid g2
      clear l2 g2 HK
      go_wp2_with fail
      go_roundw
      case rel => exact ⟨j + 1, by go_num, by omega, by rw [HT.out]; exact L2.out, HB.out.grown G2.out HB.out.size (fun j hj => by cases hj; exact Nat.le_refl _)⟩
      case measure => simp [intOf]; omega
    · obtain rfl : j = n := by omega
      have HL2 : Hid (La wr (w.heap.size + 1) w.heap.size h zs) := by have := HA.out; rwa [List.take_of_length_le (by have := HL.out; omega)] at this
      have HB2 := Lib.hid HB.out
      have HZ2 : Hid (SlI wr w.heap.size A j zs) := hZ.below HB.out (Nat.le_refl _)
      clear HA HB L1 B1
      obtain ⟨w9, rfl⟩ : ∃ w9 : World, w9 = wr := ⟨wr, rfl⟩
      -- a copy of the asks
      go_wp2_with (at_builtin; refine wpList_append_ints rfl _ _ rfl w9.heap.size (.slice none 0 0) 0 _ rfl (OwnI.nil _ _) _ _ j c zs rfl HZ2.out (by omega) (Nat.le_refl _) ?_; intro A2 c2 w3 HO3 HC3 HB3)
      simp only [Nat.zero_add, List.nil_append] at HO3 ⊢
      have HL3 := Lib.hid (HL2.out.below HB3.out)
      have HZ3 := Lib.hid (HZ2.out.below (HB3.out.mono HB2.out.size) (Nat.le_refl _))
      have HB3w := Lib.hid (HB2.out.trans (HB3.out.mono HB2.out.size))
      have hq : (slotsV h zs f t).length ≤ 10000 := by
        unfold slotsV
        split
        · simp
        · have := slots_len h zs f (t - f + 1).toNat; omega
      have HS := Lib.hid (slots_any (c := c2) HO3.out.sl (Nat.le_refl _) HW.out (by omega) h f t hf ht)
      have HR := Lib.hid (fun (u : World) (hu : SlI u w.heap.size A j zs) (hb : w.heap.size ≤ u.heap.size) => rslots_any (c := c) hu hb (by omega) h f t hf ht)
      obtain ⟨S, hS⟩ : ∃ S, slotsV h zs f t = S := ⟨_, rfl⟩
      rw [hS] at HS HR hq
      clear hS
      obtain ⟨q, hQ⟩ : ∃ q, S.length = q := ⟨_, rfl⟩
      rw [hQ] at HS HR hq
      clear hQ
      go_wp2_with fail
      (with_reducible refine HS.out.mono ?_)
      rintro e4 w4 ⟨⟨A4, c4, rfl, o4⟩, b4⟩
      have O4 := Lib.hid o4
      have HO4 := Lib.hid (HO3.out.below b4)
      have HL4 := Lib.hid (HL3.out.below b4)
      have HZ4 := Lib.hid (HZ3.out.below (b4.mono HB3w.out.size) (Nat.le_refl _))
      have HB4 := Lib.hid (HB3w.out.trans (b4.mono HB3w.out.size))
      have HR4 := Lib.hid (HR.out w4 HZ4.out HB4.out.size)
      clear o4 b4 HS HL2 HZ2 HB2 HB3w HL3 HZ3 HO3
      go_wp2_with fail
      (with_reducible refine HR4.out.mono ?_)
      rintro e5 w5 ⟨⟨A5, c5, rfl, o5⟩, b5⟩
      have O4' := Lib.hid (O4.out.below b5)
      have HO5 := Lib.hid (HO4.out.below b5)
      have HL5 := Lib.hid (HL4.out.below b5)
      have HZ5 := Lib.hid (HZ4.out.below (b5.mono HB4.out.size) (Nat.le_refl _))
      have HB5 := Lib.hid (HB4.out.trans (b5.mono HB4.out.size))
      have HE : Hid (Calls Try.prog 12 #[.slice A4 q c4, .slice A5 q c5] w5 (Quiet (.bool (decide (S = S))) w5)) := sameInts_any O4'.out.sl o5.sl (by omega) (by omega)
      clear o5 b5 HR4 HL4 HZ4 HB4 HO4 O4 O4' HR
      simp only [decide_true] at HE
      go_wp2_with fail
      (with_reducible refine HE.out.mono ?_)
      rintro e6 w6 ⟨rfl, m6, rfl⟩
      obtain ⟨w6, hw6⟩ : ∃ w6, w5.drewN m6 = w6 := ⟨_, rfl⟩
      have HL6 : Hid (La w6 (w.heap.size + 1) w.heap.size h zs) := by show La _ _ _ _ _; rw [← hw6]; exact HL5.out.drewN _
      have HZ6 : Hid (SlI w6 w.heap.size A j zs) := by show SlI _ _ _ _ _; rw [← hw6]; exact HZ5.out.drewN _
      have HO6 : Hid (OwnI w6 w9.heap.size (.slice A2 j c2) j zs) := by show OwnI _ _ _ _ _; rw [← hw6]; exact HO5.out.drewN _
      have HB6 : Hid (Below w.heap.size w w6) := by show Below _ _ _; rw [← hw6]; exact below_drewN HB5.out _
      rw [hw6]
      clear hw6 HL5 HZ5 HO5 HB5 HE
      have HY := Lib.hid (busy_any HL6.out k hk)
      have HYR := Lib.hid (fun (u : World) (hu : SlI u w.heap.size A j zs) => rbusy_any (c := c) hu (by omega) k hk)
      obtain ⟨y, hy⟩ : ∃ y, busyL zs k = y := ⟨_, rfl⟩
      rw [hy] at HY HYR
      clear hy
      have hyy : (y == y) = true := by simp
      go_wp2_with fail
      (with_reducible refine HY.out.mono ?_)
      rintro e7 w7 ⟨rfl, b7⟩
      have HL7 := Lib.hid (HL6.out.below b7)
      have HZ7 := Lib.hid (HZ6.out.below (b7.mono HB6.out.size) (Nat.le_refl _))
      have HO7 := Lib.hid (HO6.out.below b7)
      have HB7 := Lib.hid (HB6.out.trans (b7.mono HB6.out.size))
      have HY7 := Lib.hid (HYR.out w7 HZ7.out)
      clear b7 HL6 HZ6 HO6 HB6 HY HYR
      go_wp2_with fail
      (with_reducible refine HY7.out.mono ?_)
      rintro e8 w8 ⟨rfl, rfl⟩
      have HX := Lib.hid (slot_any HL7.out k hk)
      have HXR := Lib.hid (fun (u : World) (hu : SlI u w.heap.size A j zs) => rslot_any (c := c) hu (by omega) h k hk)
      obtain ⟨x, hx⟩ : ∃ x, slotL h zs k = x := ⟨_, rfl⟩
      rw [hx] at HX HXR
      clear hx HY7
      have hxx : (x == x) = true := by simp
      go_wp2_with fail
      (with_reducible refine HX.out.mono ?_)
      rintro e8 w8 ⟨rfl, b8⟩
      have HZ8 := Lib.hid (HZ7.out.below (b8.mono HB7.out.size) (Nat.le_refl _))
      have HO8 := Lib.hid (HO7.out.below b8)
      have HB8 := Lib.hid (HB7.out.trans (b8.mono HB7.out.size))
      have HX8 := Lib.hid (HXR.out w8 HZ8.out)
      clear b8 HL7 HZ7 HO7 HB7 HX HXR
      go_wp2_with fail
      (with_reducible refine HX8.out.mono ?_)
      rintro e9 w9' ⟨rfl, rfl⟩
      have HE : Hid (Calls Try.prog 12 #[.slice A2 j c2, .slice A j c] w8 (Quiet (.bool (decide (zs = zs))) w8)) := sameInts_any HO8.out.sl HZ8.out (by omega) (by omega)
      simp only [decide_true] at HE
      go_wp2_with fail
      (with_reducible refine HE.out.mono ?_)
      rintro ea wa ⟨rfl, ma, rfl⟩
      have HBa : Hid (Below w.heap.size w (w8.drewN ma)) := below_drewN HB8.out _
      clear HE HX8 HZ8 HO8 HB8
      go_wp2_with fail
      (with_reducible refine (ask_nil _ 1).mono ?_)
      rintro eb wb ⟨rfl, rfl⟩
      go_wp2_with fail
      (with_reducible refine (slot_nil _ 4).mono ?_)
      rintro eb wb ⟨rfl, rfl⟩
      go_wp2_with fail
      (with_reducible refine (busy_nil _ 1).mono ?_)
      rintro eb wb ⟨rfl, rfl⟩
      go_wp2_with fail
      (with_reducible refine (awake_any _).mono ?_)
      rintro ec wc ⟨rfl, bc⟩
      go_wp2_with fail
      go_ret
      exact ⟨rfl, HBa.out.trans (bc.mono HBa.out.size)⟩
end Go.Proofs.Ytlaehoggfnlljaa
