/-
  The walk of LadderSums.
-/
import Derived.Test.YtlaehoggfnlljaaWLadderRates
namespace Go.Proofs.Ytlaehoggfnlljaa
open Go.RowKit Go.Lib Go.Maps
set_option linter.unusedVariables false

theorem slot_up {h m t : Int} {A : List Int} (e : slotL h A t = true) : slotL h (A ++ [m]) t = true := by
  unfold slotL at *
  rw [busy_append]
  simp only [Bool.and_eq_true, Bool.or_eq_true] at *
  exact ⟨e.1, e.2.elim (fun h => .inl (.inl h)) .inr⟩
theorem slots_sub (h m f : Int) (A : List Int) : ∀ n : Nat, (slotsL h A f n).Sublist (slotsL h (A ++ [m]) f n)
  | 0 => List.Sublist.refl _
  | n + 1 => by
    rw [slots_succ, slots_succ]
    refine List.Sublist.append (slots_sub h m f A n) ?_
    cases e : slotL h A (f + (n : Int))
    · exact List.nil_sublist _
    · rw [slot_up e]
      exact List.Sublist.refl _
/-- the first a of R were met among the first i of S -/
def Met (R S : List Int) (a i : Nat) : Prop := a ≤ R.length ∧ i ≤ S.length ∧ (R.drop a).Sublist (S.drop i)
theorem drop_at {l : List Int} {i : Nat} (h : i < l.length) : l.drop i = l.getD i 0 :: l.drop (i + 1) := by
  rw [List.drop_eq_getElem_cons h]
  simp [h]
theorem Met.hit {R S : List Int} {a i : Nat} (h : Met R S a i) (ha : a < R.length) (hi : i < S.length) (e : S.getD i 0 = R.getD a 0) : Met R S (a + 1) (i + 1) := by
  refine ⟨ha, hi, ?_⟩
  have h3 := h.2.2
  rw [drop_at ha, drop_at hi, e] at h3
  exact List.cons_sublist_cons.1 h3
theorem Met.miss {R S : List Int} {a i : Nat} (h : Met R S a i) (ha : a < R.length) (hi : i < S.length) (e : S.getD i 0 ≠ R.getD a 0) : Met R S a (i + 1) := by
  refine ⟨h.1, hi, ?_⟩
  have h3 := h.2.2
  rw [drop_at ha, drop_at hi] at h3
  rw [drop_at ha]
  generalize R.getD a 0 = u at *
  generalize S.getD i 0 = v at *
  cases h3 with
  | cons _ h4 => exact h4
  | cons_cons _ h4 => exact (e rfl).elim
theorem Met.all {R S : List Int} {a : Nat} (h : Met R S a S.length) : a = R.length := by
  have h3 := h.2.2
  rw [List.drop_length] at h3
  have h4 := List.sublist_nil.1 h3
  have h5 : R.length - a = 0 := by rw [← List.length_drop, h4]; rfl
  have := h.1
  omega
theorem sums_long (A : Option Addr) (n c : Nat) (h m x y z : Int) (w : World) (hn : 10 < n) :
    Calls Try.prog 5 #[.int .i64 h, .slice A n c, .int .i64 m, .int .i64 x, .int .i64 y, .int .i64 z] w fun e w' => e = .returned (.bool true) ∧ Below w.heap.size w w' := by
  go_enter Try.func5, Try.ntmps5
  go_wp2_with fail
  (with_reducible refine (awake_any w).mono ?_)
  rintro e1 w1 ⟨rfl, b1⟩
  go_wp2_with fail
  go_ret
  exact ⟨rfl, b1⟩
theorem wf_more {L : List Int} {y : Int} (h : ∀ x ∈ L, (Lit.int .i64 x).wf = true) (hy : (Lit.int .i64 y).wf = true) : ∀ x ∈ L ++ [y], (Lit.int .i64 x).wf = true := by
  intro x hx
  rcases List.mem_append.1 hx with h1 | h1
  · exact h x h1
  · rw [List.mem_singleton.1 h1]; exact hy
theorem low_wf2 {y : Int} (h0 : 0 ≤ y) (h1 : y < 2000) : (Lit.int .i64 y).wf = true := wf_of (by omega) (by omega)
set_option maxHeartbeats 3000000 in
theorem sums_any {w : World} {A : Option Addr} {n c : Nat} {zs : List Int} (hZ : SlI w w.heap.size A n zs) (hn : n ≤ 10) (h0 m0 x0 y0 c0 : Int) :
    Calls Try.prog 5 #[.int .i64 h0, .slice A n c, .int .i64 m0, .int .i64 x0, .int .i64 y0, .int .i64 c0] w fun e w' => e = .returned (.bool true) ∧ Below w.heap.size w w' := by
  obtain ⟨h, hh0, hh1, HH⟩ := low_int h0 2 (by omega) (by omega)
  obtain ⟨m, hm0, hm1, HM⟩ := low_int m0 300 (by omega) (by omega)
  obtain ⟨x, hx0, hx1, HX⟩ := low_int x0 200 (by omega) (by omega)
  obtain ⟨y, hy0, hy1, HY⟩ := low_int y0 200 (by omega) (by omega)
  obtain ⟨v, hv0, hv1, HV⟩ := low_int c0 200 (by omega) (by omega)
  have HH := Lib.hid HH
  have HM := Lib.hid HM
  have HX := Lib.hid HX
  have HY := Lib.hid HY
  have HV := Lib.hid HV
  have HL := Lib.hid hZ.1
  obtain ⟨xy, hxy⟩ : ∃ xy, x + y = xy := ⟨_, rfl⟩
  obtain ⟨xy1, hxy1⟩ : ∃ xy1, xy + 1 = xy1 := ⟨_, rfl⟩
  obtain ⟨z, hz⟩ : ∃ z, xy1 + v = z := ⟨_, rfl⟩
  have r1 : wrap64 xy = xy := by unfold wrap64; omega
  have r2 : wrap64 xy1 = xy1 := by unfold wrap64; omega
  have r3 : wrap64 z = z := by unfold wrap64; omega
  have wx := Lib.hid (low_wf2 hx0 (by omega))
  have wxy := Lib.hid (low_wf2 (y := xy) (by omega) (by omega))
  have wxy1 := Lib.hid (low_wf2 (y := xy1) (by omega) (by omega))
  have wz := Lib.hid (low_wf2 (y := z) (by omega) (by omega))
  have wm := Lib.hid (low_wf2 hm0 (by omega))
  have PU : Hid (∀ L : List Int, slotsV h L x xy ++ slotsV h L xy1 z = slotsV h L x z ∧ (slotsV h L x z).Sublist (slotsV h (L ++ [m]) x z) ∧ (slotsV h L x xy).length ≤ 1000 ∧ (slotsV h L xy1 z).length ≤ 1000 ∧ (slotsV h L x z).length ≤ 1000 ∧ (slotsV h (L ++ [m]) x z).length ≤ 1000) := by
    intro L
    rw [slotsV_some (by omega) (by omega), slotsV_some (by omega) (by omega), slotsV_some (by omega) (by omega), slotsV_some (by omega) (by omega)]
    have e : (z - x + 1).toNat = (xy - x + 1).toNat + (z - xy1 + 1).toNat := by omega
    refine ⟨?_, slots_sub h m x L _, ?_, ?_, ?_, ?_⟩
    · rw [e, slots_add, show x + ((xy - x + 1).toNat : Int) = xy1 by omega]
    · have := slots_len h L x (xy - x + 1).toNat; omega
    · have := slots_len h L xy1 (z - xy1 + 1).toNat; omega
    · have := slots_len h L x (z - x + 1).toNat; omega
    · have := slots_len h (L ++ [m]) x (z - x + 1).toNat; omega
  go_enter Try.func5, Try.ntmps5
  go_wp2_with fail
  go_loopw [13, 14] (fun vv i wr => ∃ (j : Nat) (A' : Option Addr) (c' : Nat) (L : List Int), i = .int .i64 j ∧ vv = .slice A' j c' ∧ j ≤ n ∧ Hid (OwnI wr w.heap.size (.slice A' j c') j L) ∧ Hid (∀ x ∈ L, (Lit.int .i64 x).wf = true) ∧ Hid (Below w.heap.size w wr)) (fun _ i _ => n - (intOf i).toNat)
  case atStart => exact ⟨0, none, 0, [], rfl, rfl, by omega, OwnI.nil _ _, List.forall_mem_nil _, Below.refl _ _⟩
  case round =>
    obtain ⟨j, A', c', L, rfl, rfl, hj, HO, HW, HB⟩ := hrel
    by_cases hlt : j < n
    · obtain ⟨g, off, rfl, hg, cx⟩ := hZ.at_ hlt
      have cx' : wr.cell? ⟨g, off + j, none⟩ = some (.int .i64 (zs.getD j 0)) := (HB.out.cell (p := ⟨g, off + j, none⟩) hg).trans cx
      obtain ⟨a, ha⟩ : ∃ a, zs.getD j 0 = a := ⟨_, rfl⟩
      rw [ha] at cx'
      obtain ⟨q, hq0, hq1, HQ⟩ := low_int a 300 (by omega) (by omega)
      have HQ := Lib.hid HQ
      have wq := Lib.hid (low_wf2 hq0 (by omega))
      clear ha cx
      go_wp2_with fail
      (with_reducible refine (HQ.out wr).mono ?_)
      rintro e4 w4 ⟨rfl, rfl⟩
      go_wp2_with (at_builtin; refine wpList_append_ints rfl _ _ rfl w.heap.size (.slice A' j c') j _ rfl (HO.out.alloc _) _ _ 1 1 [q] rfl (slI_one wr q) (by omega) (by have := HB.out.size; simp; omega) ?_; intro A2 c2 w3 HO3 HC3 HB3)
      go_roundw
      case rel => exact ⟨j + 1, A2, c2, L ++ [q], by go_num, rfl, by omega, HO3.out, wf_more HW.out wq.out, HB.out.trans (((Below.refl _ _).alloc (by have := HB.out.size; omega) _).trans HB3.out)⟩
      case measure => simp [intOf]; omega
    · obtain rfl : j = n := by omega
      have HWm := Lib.hid (wf_more HW.out wm.out)
      obtain ⟨PU1, PU2, PU3, PU4, PU5, PU6⟩ := PU.out L
      have S1 := Lib.hid (fun (u : World) (hu : OwnI u w.heap.size (.slice A' j c') j L) => slots_any (c := c') hu.sl (Nat.le_refl _) HW.out (by omega) h x xy wx.out wxy.out)
      have S2 := Lib.hid (fun (u : World) (hu : OwnI u w.heap.size (.slice A' j c') j L) => slots_any (c := c') hu.sl (Nat.le_refl _) HW.out (by omega) h xy1 z wxy1.out wz.out)
      have S3 := Lib.hid (fun (u : World) (hu : OwnI u w.heap.size (.slice A' j c') j L) => slots_any (c := c') hu.sl (Nat.le_refl _) HW.out (by omega) h x z wx.out wz.out)
      have S4 := Lib.hid (fun (u : World) (A2 : Option Addr) (c2 : Nat) (hu : SlI u u.heap.size A2 (j + 1) (L ++ [m])) => slots_any (c := c2) hu (Nat.le_refl _) HWm.out (by omega) h x z wx.out wz.out)
      obtain ⟨P, hP⟩ : ∃ P, slotsV h L x xy = P := ⟨_, rfl⟩
      obtain ⟨Q, hQ⟩ : ∃ Q, slotsV h L xy1 z = Q := ⟨_, rfl⟩
      obtain ⟨R, hR⟩ : ∃ R, slotsV h L x z = R := ⟨_, rfl⟩
      obtain ⟨S, hS⟩ : ∃ S, slotsV h (L ++ [m]) x z = S := ⟨_, rfl⟩
      rw [hP] at S1 PU1 PU3
      rw [hQ] at S2 PU1 PU4
      rw [hR] at S3 PU1 PU2 PU5
      rw [hS] at S4 PU2 PU6
      obtain ⟨np, hnp⟩ : ∃ np, P.length = np := ⟨_, rfl⟩
      obtain ⟨nq', hnq⟩ : ∃ nq', Q.length = nq' := ⟨_, rfl⟩
      obtain ⟨nr, hnr⟩ : ∃ nr, R.length = nr := ⟨_, rfl⟩
      obtain ⟨ns, hns⟩ : ∃ ns, S.length = ns := ⟨_, rfl⟩
      rw [hnp] at S1 PU3
      rw [hnq] at S2 PU4
      rw [hnr] at S3 PU5
      rw [hns] at S4 PU6
      have HPQ := Lib.hid PU1
      have HSB := Lib.hid PU2
      have HNR := Lib.hid hnr
      have HNS := Lib.hid hns
      have hrs : nr ≤ ns := by rw [← hnr, ← hns]; exact PU2.length_le
      clear hP hQ hR hS hnp hnq hnr hns PU1 PU2 PU
      obtain ⟨w9, rfl⟩ : ∃ w9 : World, w9 = wr := ⟨wr, rfl⟩
      go_wp2_with fail
      (with_reducible refine (HX.out w9).mono ?_)
      rintro e4 w4 ⟨rfl, rfl⟩
      go_wp2_with fail
      (with_reducible refine (HY.out w9).mono ?_)
      rintro e4 w4 ⟨rfl, rfl⟩
      go_wp2_with fail
      (with_reducible refine (HV.out w9).mono ?_)
      rintro e4 w4 ⟨rfl, rfl⟩
      go_wp2_with fail
      (with_reducible refine (HH.out w9).mono ?_)
      rintro e4 w4 ⟨rfl, rfl⟩
      have S1' := Lib.hid (S1.out w9 HO.out)
      clear S1 HX HY HV HH
      go_wp2_with fail
      (with_reducible refine S1'.out.mono ?_)
      rintro e1 w1 ⟨⟨A1, c1, rfl, o1⟩, b1⟩
      have O1 := Lib.hid o1
      have W1 := Lib.hid (HB.out.trans (b1.mono HB.out.size))
      have L1 := Lib.hid (HO.out.below b1)
      have S2' := Lib.hid (S2.out w1 L1.out)
      clear o1 b1 S1' S2 HO HB
      go_wp2_with fail
      (with_reducible refine S2'.out.mono ?_)
      rintro e2 w2 ⟨⟨A2, c2, rfl, o2⟩, b2⟩
      have O2 := Lib.hid o2
      have O12 := Lib.hid (O1.out.below b2)
      have W2 := Lib.hid (W1.out.trans (b2.mono W1.out.size))
      have L2 := Lib.hid (L1.out.below b2)
      have S3' := Lib.hid (S3.out w2 L2.out)
      clear o2 b2 S2' S3 W1 L1 O1
      go_wp2_with fail
      (with_reducible refine S3'.out.mono ?_)
      rintro e3 w3 ⟨⟨A3, c3, rfl, o3⟩, b3⟩
      have O3 := Lib.hid o3
      have O13 := Lib.hid (O12.out.below b3)
      have O23 := Lib.hid (O2.out.below b3)
      have W3 := Lib.hid (W2.out.trans (b3.mono W2.out.size))
      have L3 := Lib.hid (L2.out.below b3)
      clear o3 b3 S3' W2 L2 O2 O12
      go_wp2_with (at_builtin; refine wpList_append_ints rfl _ _ rfl w3.heap.size (.slice none 0 0) 0 _ rfl (OwnI.nil _ _) _ _ j c' L rfl L3.out.sl (by omega) (Nat.le_refl _) ?_; intro A4 c4 w4 HO4 HC4 HB4)
      simp only [Nat.zero_add, List.nil_append] at HO4 ⊢
      have P4 : Hid (SlI w4 w3.heap.size A1 np P) := O13.out.sl.below HB4.out (Nat.le_refl _)
      have Q4 : Hid (SlI w4 w3.heap.size A2 nq' Q) := O23.out.sl.below HB4.out (Nat.le_refl _)
      have R4 : Hid (SlI w4 w3.heap.size A3 nr R) := O3.out.sl.below HB4.out (Nat.le_refl _)
      have W4 := Lib.hid (W3.out.trans (HB4.out.mono W3.out.size))
      have h34 := Lib.hid HB4.out.size
      have h03 := Lib.hid W3.out.size
      clear O3 O13 O23 W3 L3 HB4 HC4
      go_wp2_with fail
      (with_reducible refine (HM.out w4).mono ?_)
      rintro e5 w5 ⟨rfl, rfl⟩
      go_wp2_with (at_builtin; refine wpList_append_ints rfl _ _ rfl w3.heap.size (.slice A4 j c4) j _ rfl (HO4.out.alloc _) _ _ 1 1 [m] rfl (slI_one w4 m) (by omega) (by have := h34.out; simp; omega) ?_; intro A5 c5 w5 HO5 HC5 HB5)
      have B45 : Hid (Below w3.heap.size w4 w5) := ((Below.refl _ _).alloc h34.out _).trans HB5.out
      have P5 : Hid (SlI w5 w3.heap.size A1 np P) := P4.out.below B45.out (Nat.le_refl _)
      have Q5 : Hid (SlI w5 w3.heap.size A2 nq' Q) := Q4.out.below B45.out (Nat.le_refl _)
      have R5 : Hid (SlI w5 w3.heap.size A3 nr R) := R4.out.below B45.out (Nat.le_refl _)
      have W5 := Lib.hid (W4.out.trans (B45.out.mono h03.out))
      have h35 : Hid (w3.heap.size ≤ w5.heap.size) := Nat.le_trans h34.out B45.out.size
      have S4' := Lib.hid (S4.out w5 A5 c5 HO5.out.sl)
      clear P4 Q4 R4 W4 S4 HO4 HO5 HB5 B45 HC5
      go_wp2_with fail
      (with_reducible refine S4'.out.mono ?_)
      rintro e6 w6 ⟨⟨A6, c6, rfl, o6⟩, b6⟩
      have T6 : Hid (SlI w6 w6.heap.size A6 ns S) := o6.sl
      have b36 := b6.mono h35.out
      have P6 : Hid (SlI w6 w3.heap.size A1 np P) := P5.out.below b36 (Nat.le_refl _)
      have Q6 : Hid (SlI w6 w3.heap.size A2 nq' Q) := Q5.out.below b36 (Nat.le_refl _)
      have R6 : Hid (SlI w6 w3.heap.size A3 nr R) := R5.out.below b36 (Nat.le_refl _)
      have W6 := Lib.hid (W5.out.trans (b6.mono W5.out.size))
      have h36 : Hid (w3.heap.size ≤ w6.heap.size) := Nat.le_trans h35.out b36.size
      clear o6 b6 b36 P5 Q5 R5 W5 S4' h35 h34 HWm
      go_wp2_with fail
      go_loopw [22, 23] (fun aa i wr => ∃ (a k q : Nat), aa = .int .i64 a ∧ i = .int .i64 k ∧ wr = w6.drewN q ∧ a ≤ nr ∧ k ≤ ns ∧ Hid (Met R S a k)) (fun _ i _ => ns - (intOf i).toNat)
      case atStart => exact ⟨0, 0, 0, rfl, rfl, rfl, by omega, by omega, Nat.zero_le _, Nat.zero_le _, HSB.out⟩
      case round =>
        obtain ⟨a, k, q, rfl, rfl, rfl, ha, hk, HME⟩ := hrel
        by_cases hks : k < ns
        · by_cases har : a < nr
          · obtain ⟨g1, off1, rfl, _, d1⟩ := T6.out.at_ hks
            obtain ⟨g2, off2, rfl, _, d2⟩ := R6.out.at_ har
            obtain ⟨x1, hx1⟩ : ∃ x1, S.getD k 0 = x1 := ⟨_, rfl⟩
            obtain ⟨x2, hx2⟩ : ∃ x2, R.getD a 0 = x2 := ⟨_, rfl⟩
            rw [hx1] at d1
            rw [hx2] at d2
            have Hx1 := Lib.hid hx1
            have Hx2 := Lib.hid hx2
            clear hx1 hx2
            cases hxx : (x1 == x2)
            · go_wp2_with fail
              go_quiet (fail)
              go_wp2
              go_roundw
              case rel => exact ⟨a, k + 1, _, rfl, by go_num, rfl, by omega, by omega, HME.out.miss (by have := HNR.out; omega) (by have := HNS.out; omega) (by rw [Hx1.out, Hx2.out]; simpa using hxx)⟩
              case measure => simp [intOf]; omega
            · go_wp2_with fail
              go_quiet (fail)
              go_wp2
              go_roundw
              case rel => exact ⟨a + 1, k + 1, _, by go_num, by go_num, rfl, by omega, by omega, HME.out.hit (by have := HNR.out; omega) (by have := HNS.out; omega) (by rw [Hx1.out, Hx2.out]; simpa using hxx)⟩
              case measure => simp [intOf]; omega
          · obtain rfl : a = nr := by omega
            obtain ⟨w7, hw7⟩ : ∃ w7, w6.drewN q = w7 := ⟨_, rfl⟩
            have P7 : Hid (SlI w7 w3.heap.size A1 np P) := by show SlI _ _ _ _ _; rw [← hw7]; exact P6.out.drewN _
            have Q7 : Hid (SlI w7 w3.heap.size A2 nq' Q) := by show SlI _ _ _ _ _; rw [← hw7]; exact Q6.out.drewN _
            have R7 : Hid (SlI w7 w3.heap.size A3 a R) := by show SlI _ _ _ _ _; rw [← hw7]; exact R6.out.drewN _
            have W7 : Hid (Below w.heap.size w w7) := by show Below _ _ _; rw [← hw7]; exact below_drewN W6.out _
            have h37 : Hid (w3.heap.size ≤ w7.heap.size) := by show _ ≤ _; rw [← hw7]; exact h36.out
            rw [hw7]
            clear hw7 P6 Q6 R6 W6 h36 T6 HME
            go_wp2_with (at_builtin; first
              | (refine wpList_append_ints rfl _ _ rfl w7.heap.size (.slice none 0 0) 0 _ rfl (OwnI.nil _ _) _ _ np c1 P rfl P7.out (by omega) (Nat.le_refl _) ?_; intro A7 c7 w8 HO7 HC7 HB7; simp only [Nat.zero_add, List.nil_append] at HO7 ⊢)
              | (refine wpList_append_ints rfl _ _ rfl w7.heap.size (.slice A7 np c7) np _ rfl HO7.out _ _ nq' c2 Q rfl (Q7.out.below (HB7.out.mono h37.out) (Nat.le_refl _)) (by omega) HB7.out.size ?_; intro A8 c8 w9' HO8 HC8 HB8))
            have R9 : Hid (SlI w9' w3.heap.size A3 a R) := R7.out.below ((HB7.out.trans HB8.out).mono h37.out) (Nat.le_refl _)
            have W9 : Hid (Below w.heap.size w w9') := W7.out.trans ((HB7.out.trans HB8.out).mono W7.out.size)
            have HE : Hid (Calls Try.prog 12 #[.slice A8 (np + nq') c8, .slice A3 a c3] w9' (Quiet (.bool (decide (P ++ Q = R))) w9')) := sameInts_any HO8.out.sl R9.out (by omega) (by omega)
            rw [HPQ.out] at HE
            simp only [decide_true] at HE
            clear HO7 HB7 HO8 HB8 P7 Q7 R7 W7 R9 HC7 HC8
            go_wp2_with fail
            (with_reducible refine HE.out.mono ?_)
            rintro ea wa ⟨rfl, ma, rfl⟩
            go_wp2_with fail
            (with_reducible refine (awake_any _).mono ?_)
            rintro eb wb ⟨rfl, bb⟩
            go_wp2_with fail
            go_ret
            exact ⟨rfl, (below_drewN W9.out ma).trans (bb.mono (below_drewN W9.out ma).size)⟩
        · obtain rfl : k = ns := by omega
          obtain rfl : a = nr := by
            have h1 := HME.out
            rw [← HNS.out] at h1
            rw [h1.all, HNR.out]
          obtain ⟨w7, hw7⟩ : ∃ w7, w6.drewN q = w7 := ⟨_, rfl⟩
          have P7 : Hid (SlI w7 w3.heap.size A1 np P) := by show SlI _ _ _ _ _; rw [← hw7]; exact P6.out.drewN _
          have Q7 : Hid (SlI w7 w3.heap.size A2 nq' Q) := by show SlI _ _ _ _ _; rw [← hw7]; exact Q6.out.drewN _
          have R7 : Hid (SlI w7 w3.heap.size A3 a R) := by show SlI _ _ _ _ _; rw [← hw7]; exact R6.out.drewN _
          have W7 : Hid (Below w.heap.size w w7) := by show Below _ _ _; rw [← hw7]; exact below_drewN W6.out _
          have h37 : Hid (w3.heap.size ≤ w7.heap.size) := by show _ ≤ _; rw [← hw7]; exact h36.out
          rw [hw7]
          clear hw7 P6 Q6 R6 W6 h36 T6 HME
          go_wp2_with (at_builtin; first
            | (refine wpList_append_ints rfl _ _ rfl w7.heap.size (.slice none 0 0) 0 _ rfl (OwnI.nil _ _) _ _ np c1 P rfl P7.out (by omega) (Nat.le_refl _) ?_; intro A7 c7 w8 HO7 HC7 HB7; simp only [Nat.zero_add, List.nil_append] at HO7 ⊢)
            | (refine wpList_append_ints rfl _ _ rfl w7.heap.size (.slice A7 np c7) np _ rfl HO7.out _ _ nq' c2 Q rfl (Q7.out.below (HB7.out.mono h37.out) (Nat.le_refl _)) (by omega) HB7.out.size ?_; intro A8 c8 w9' HO8 HC8 HB8))
          have R9 : Hid (SlI w9' w3.heap.size A3 a R) := R7.out.below ((HB7.out.trans HB8.out).mono h37.out) (Nat.le_refl _)
          have W9 : Hid (Below w.heap.size w w9') := W7.out.trans ((HB7.out.trans HB8.out).mono W7.out.size)
          have HE : Hid (Calls Try.prog 12 #[.slice A8 (np + nq') c8, .slice A3 a c3] w9' (Quiet (.bool (decide (P ++ Q = R))) w9')) := sameInts_any HO8.out.sl R9.out (by omega) (by omega)
          rw [HPQ.out] at HE
          simp only [decide_true] at HE
          clear HO7 HB7 HO8 HB8 P7 Q7 R7 W7 R9 HC7 HC8
          go_wp2_with fail
          (with_reducible refine HE.out.mono ?_)
          rintro ea wa ⟨rfl, ma, rfl⟩
          go_wp2_with fail
          (with_reducible refine (awake_any _).mono ?_)
          rintro eb wb ⟨rfl, bb⟩
          go_wp2_with fail
          go_ret
          exact ⟨rfl, (below_drewN W9.out ma).trans (bb.mono (below_drewN W9.out ma).size)⟩
end Go.Proofs.Ytlaehoggfnlljaa
