/-
  The walk of HkdfTells.
-/
import Derived.Test.YtnjdloocalfkmaaDoorHkT
import Derived.Test.YtnjdloocalfkmaaDoorHkF
namespace Go.Proofs.YtnjdloocalfkmaaDoor
open Go.RowKit Go.Joins
set_option linter.unusedVariables false

set_option maxHeartbeats 1000000 in
theorem tells_long (s : ByteArray) (A1 A2 A3 : Option Addr) (n1 c1 n2 c2 n3 c3 : Nat) (x : Int) (w : World) (hG : Glob w) (h : 120 < n1 ∨ 300 < n2 ∨ 120 < n3 ∨ 260 < s.size ∨ (100 < x ∧ x ≤ 8160)) :
    Calls Tryd.prog 3 #[.slice A1 n1 c1, .slice A2 n2 c2, .slice A3 n3 c3, .string s, .int .i64 x] w fun e w' => e = .returned (.bool true) ∧ Below w.heap.size w w' := by
  have HA := Lib.hid (awake_any w hG)
  clear hG
  obtain ⟨k, hk⟩ : ∃ k, s.size = k := ⟨_, rfl⟩
  rw [hk] at h
  by_cases h0 : 120 < n1
  · have t1 : decide ((120 : Int) < (n1 : Int)) = true := by simp; omega
    clear h h0
    go_enter Tryd.func3, Tryd.ntmps3
    go_wp2_with ((with_reducible refine HA.out.mono ?_); rintro e w1 ⟨rfl, hb⟩)
    go_ret
    exact ⟨rfl, hb⟩
  have t1 : decide ((120 : Int) < (n1 : Int)) = false := by simp; omega
  by_cases h1 : 300 < n2
  · have t2 : decide ((300 : Int) < (n2 : Int)) = true := by simp; omega
    clear h h0 h1
    go_enter Tryd.func3, Tryd.ntmps3
    go_wp2_with ((with_reducible refine HA.out.mono ?_); rintro e w1 ⟨rfl, hb⟩)
    go_ret
    exact ⟨rfl, hb⟩
  have t2 : decide ((300 : Int) < (n2 : Int)) = false := by simp; omega
  by_cases h2 : 120 < n3
  · have t3 : decide ((120 : Int) < (n3 : Int)) = true := by simp; omega
    clear h h0 h1 h2
    go_enter Tryd.func3, Tryd.ntmps3
    go_wp2_with ((with_reducible refine HA.out.mono ?_); rintro e w1 ⟨rfl, hb⟩)
    go_ret
    exact ⟨rfl, hb⟩
  have t3 : decide ((120 : Int) < (n3 : Int)) = false := by simp; omega
  by_cases h3 : 260 < k
  · have t4 : decide ((260 : Int) < (k : Int)) = true := by simp; omega
    clear h h0 h1 h2 h3
    go_enter Tryd.func3, Tryd.ntmps3
    go_wp2_with ((with_reducible refine HA.out.mono ?_); rintro e w1 ⟨rfl, hb⟩)
    go_ret
    exact ⟨rfl, hb⟩
  · have t4 : decide ((260 : Int) < (k : Int)) = false := by simp; omega
    have t5 : decide ((100 : Int) < x) = true := by simp; omega
    have t6 : decide (x ≤ 8160) = true := by simp; omega
    clear h h0 h1 h2 h3
    go_enter Tryd.func3, Tryd.ntmps3
    go_wp2_with ((with_reducible refine HA.out.mono ?_); rintro e w1 ⟨rfl, hb⟩)
    go_ret
    exact ⟨rfl, hb⟩

set_option maxHeartbeats 4000000 in
theorem tells_walk (key a b lab : List UInt8) (s : ByteArray) (A1 A2 A3 : Option Addr) (n1 c1 n2 c2 n3 c3 : Nat) (x : Int) (w : World) (hG : Glob w) (h1 : Sl w w.heap.size A1 n1 key) (h2 : Sl w w.heap.size A2 n2 a) (h3 : Sl w w.heap.size A3 n3 b)
    (hn1 : n1 ≤ c1) (hc1 : c1 ≤ maxLen) (hn2 : n2 ≤ c2) (hc2 : c2 ≤ maxLen) (hn3 : n3 ≤ c3) (hc3 : c3 ≤ maxLen) (hs : s.data.toList = lab) (hm1 : n1 ≤ 120) (hm2 : n2 ≤ 300) (hm3 : n3 ≤ 120) (hm4 : s.size ≤ 260) (hx : x ≤ 100 ∨ 8160 < x) :
    Calls Tryd.prog 3 #[.slice A1 n1 c1, .slice A2 n2 c2, .slice A3 n3 c3, .string s, .int .i64 x] w fun e w' => e = .returned (.bool true) ∧ Below w.heap.size w w' := by
  have HG := Lib.hid hG
  have H1 := Lib.hid h1
  have H2 := Lib.hid h2
  have H3 := Lib.hid h3
  have HS := Lib.hid hs
  obtain ⟨k, hk⟩ : ∃ k, s.size = k := ⟨_, rfl⟩
  rw [hk] at hm4
  have t1 : decide ((120 : Int) < (n1 : Int)) = false := by simp; omega
  have t2 : decide ((300 : Int) < (n2 : Int)) = false := by simp; omega
  have t3 : decide ((120 : Int) < (n3 : Int)) = false := by simp; omega
  have t4 : decide ((260 : Int) < (k : Int)) = false := by simp; omega
  obtain ⟨p5, hp5⟩ : ∃ p, decide ((100 : Int) < x) = p := ⟨_, rfl⟩
  obtain ⟨p6, hp6⟩ : ∃ p, decide (x ≤ 8160) = p := ⟨_, rfl⟩
  have hcase : p5 = false ∨ (p5 = true ∧ p6 = false) := by
    rw [← hp5, ← hp6]
    simp only [decide_eq_true_eq, decide_eq_false_iff_not]
    omega
  obtain ⟨X, hX⟩ : ∃ X, xlen x = X := ⟨_, rfl⟩
  obtain ⟨Y, hY⟩ : ∃ Y, llen lab a x = Y := ⟨_, rfl⟩
  obtain ⟨xl, hxl⟩ : ∃ xl, expI key b x = xl := ⟨_, rfl⟩
  obtain ⟨yl, hyl⟩ : ∃ yl, labV key lab a x = yl := ⟨_, rfl⟩
  obtain ⟨bb, hbb⟩ : ∃ bb, decide (a = b) = bb := ⟨_, rfl⟩
  obtain ⟨N, hN⟩ : ∃ N, n2 + n3 = N := ⟨_, rfl⟩
  have hXb : X ≤ 8160 := by rw [← hX]; exact xlen_le x
  have hYb : Y ≤ 8160 := by
    rw [← hY]
    unfold llen
    split
    · omega
    · exact xlen_le x
  have hEq1 := run_eql_digests (macV key (a ++ b)) (macV key (a ++ b)) (macV_length _ _) (macV_length _ _)
  have hEq2 := run_eql_digests (macV a key) (macV a key) (macV_length _ _) (macV_length _ _)
  rw [decide_eq_true rfl] at hEq1 hEq2
  obtain ⟨cs, hcs⟩ : ∃ cs, bvs (macV key (a ++ b)) = cs := ⟨_, rfl⟩
  obtain ⟨fs, hfs⟩ : ∃ fs, bvs (macV a key) = fs := ⟨_, rfl⟩
  rw [hcs] at hEq1
  rw [hfs] at hEq2
  have HCs := Lib.hid hcs
  have HFs := Lib.hid hfs
  have HX := Lib.hid hX
  have HY := Lib.hid hY
  have HXl := Lib.hid hxl
  have HYl := Lib.hid hyl
  have HBb := Lib.hid hbb
  have hmx : ∀ m : Nat, m ≤ 10000 → m ≤ maxLen := fun m h => by simp only [maxLen]; omega
  have HMx := Lib.hid hmx
  clear hG h1 h2 h3 hs hcs hfs hX hY hxl hyl hbb hx hmx
  rcases hcase with hq | ⟨hq, hq'⟩
  all_goals
    go_enter Tryd.func3, Tryd.ntmps3
    go_wp2_with (first
      | (go_at_call 9; (with_reducible refine (copied_any a A2 n2 c2 w.heap.size _ H2.out (by omega)).mono ?_); rintro e1 w1 ⟨Aa, ca, rfl, ho1, hle1, hc1', hb1⟩; have HO1 := Lib.hid ho1; have HB1 := Lib.hid hb1; have hz1 := hb1.size; clear ho1 hb1)
      | (at_builtin; (refine wpList_append_bytesN rfl (.tmp 43) (.tmp 44) rfl w.heap.size (.slice Aa n2 ca) n2 n3 N a b (a ++ b) rfl HO1.out w.heap.size A3 c3 rfl (H3.out.below HB1.out) hN rfl (by omega) hz1 w HB1.out ?_); intro Al cl w2 HO2 hle2 hcm2 HB2; have hz2 := HB2.out.size)
      | (go_at_call 10; (with_reducible refine (expand_any key b A1 A3 n1 c1 n3 c3 w.heap.size x _ (HG.out.below HB2.out) (H1.out.below HB2.out) (H3.out.below HB2.out) hz2 hn1 hc1 hn3 hc3 (by omega) (by omega)).mono ?_); rw [HX.out, HXl.out]; rintro e3 w3 ⟨Ax, cx, rfl, ho3, hle3, hc3', hb3⟩; have HO3 := Lib.hid ho3; have HB3 : Hid (Below w.heap.size w w3) := HB2.out.trans (hb3.mono hz2); have HB23 := Lib.hid hb3; have hz3 := HB3.out.size; clear ho3 hb3)
      | (go_at_call 11; (with_reducible refine (label_any key lab a s A1 A2 n1 c1 n2 c2 w.heap.size x _ (HG.out.below HB3.out) (H1.out.below HB3.out) (H2.out.below HB3.out) hz3 hn1 hc1 hn2 hc2 (by omega) HS.out).mono ?_); rw [HY.out, HYl.out]; rintro e4 w4 ⟨Ay, cy, rfl, ho4, hle4, hc4', hb4⟩; have HSy := Lib.hid ho4.sl; have HSx := Lib.hid ((HO3.out.below hb4).sl); have HSa := Lib.hid (((HO2.out.below HB23.out).below hb4).sl); have HB4 : Hid (Below w.heap.size w w4) := HB3.out.trans (hb4.mono hz3); have hz4 := HB4.out.size; have HK1 := Lib.hid ((H1.out.below HB4.out).more hz4); have HK2 := Lib.hid ((H2.out.below HB4.out).more hz4); have HK3 := Lib.hid ((H3.out.below HB4.out).more hz4); have HG4 := Lib.hid (HG.out.below HB4.out); clear ho4 hb4 HO1 HO2 HO3 HB1 HB2 HB3 HB23))
    have hC1 : ∀ v : World, v = w4.alloc (.cells #[.slice A2 n2 c2, .slice none 0 0, .slice A3 n3 c3] 22) → Calls Tryd.prog 12 #[.slice A1 n1 c1, .slice (some ⟨w4.heap.size, 0, none⟩) 3 3] v fun e w' => e = .returned (.agg cs.toArray) ∧ Below w4.heap.size w4 w' := by
      rintro v rfl
      have hj : joined [⟨A2, n2, c2, a⟩, ⟨none, 0, 0, []⟩, ⟨A3, n3, c3, b⟩] = a ++ b := by simp [joined]
      have hv : Below w4.heap.size w4 (w4.alloc (.cells #[.slice A2 n2 c2, .slice none 0 0, .slice A3 n3 c3] 22)) := (Below.refl _ _).alloc (Nat.le_refl _) _
      refine (mac_any key [⟨A2, n2, c2, a⟩, ⟨none, 0, 0, []⟩, ⟨A3, n3, c3, b⟩] A1 (some ⟨w4.heap.size, 0, none⟩) n1 c1 3 3 (w4.heap.size + 1) _ (HG4.out.below hv) ((HK1.out.below hv).more (by omega))
        (slw_block (g := w4.heap.size) (ps := [⟨A2, n2, c2, a⟩, ⟨none, 0, 0, []⟩, ⟨A3, n3, c3, b⟩]) (t := 22) (fr := (0, 0)) (heap_alloc_new _ _) (by omega) (fun p hp => by
          simp only [List.mem_cons, List.not_mem_nil, or_false] at hp
          rcases hp with rfl | rfl | rfl
          · exact ⟨(HK2.out.below hv).more (by omega), hn2, hc2⟩
          · exact ⟨Sl.nil, Nat.le_refl _, Nat.zero_le _⟩
          · exact ⟨(HK3.out.below hv).more (by omega), hn3, hc3⟩)) (by simp) hn1 hc1 (by omega) (by omega) (by rw [hj, List.length_append, HK2.out.1, HK3.out.1]; omega)).mono ?_
      rintro e w' ⟨rfl, hb⟩
      rw [hj, HCs.out]
      exact ⟨rfl, hv.trans (hb.mono (by simp))⟩
    have hC2 : ∀ v : World, Below w4.heap.size w4 v → Calls Tryd.prog 13 #[.slice A1 n1 c1, .slice Al N cl] v fun e w' => e = .returned (.agg cs.toArray) ∧ Below w4.heap.size w4 w' := fun v hv => by
      refine (rmac_any key (a ++ b) A1 Al n1 c1 N cl w4.heap.size v (HK1.out.below hv) (HSa.out.below hv) hv.size (by omega) (by omega)).mono ?_
      rintro e w' ⟨rfl, hb⟩
      rw [HCs.out]
      exact ⟨rfl, hv.trans (hb.mono hv.size)⟩
    have hC3 : ∀ v : World, Below w4.heap.size w4 v → Calls Tryd.prog 14 #[.slice A2 n2 c2, .slice A1 n1 c1] v fun e w' => e = .returned (.agg fs.toArray) ∧ Below w4.heap.size w4 w' := fun v hv => by
      refine (extract_any a key A2 A1 n2 c2 n1 c1 w4.heap.size v (HG4.out.below hv) (HK2.out.below hv) (HK1.out.below hv) hv.size hn2 hc2 hn1 hc1 (by omega) (by omega)).mono ?_
      rintro e w' ⟨rfl, hb⟩
      rw [HFs.out]
      exact ⟨rfl, hv.trans (hb.mono hv.size)⟩
    have hC4 : ∀ v : World, Below w4.heap.size w4 v → Calls Tryd.prog 15 #[.slice A2 n2 c2, .slice A1 n1 c1] v fun e w' => e = .returned (.agg fs.toArray) ∧ Below w4.heap.size w4 w' := fun v hv => by
      refine (rextract_any a key A2 A1 n2 c2 n1 c1 w4.heap.size v (HK2.out.below hv) (HK1.out.below hv) hv.size (by omega) (by omega)).mono ?_
      rintro e w' ⟨rfl, hb⟩
      rw [HFs.out]
      exact ⟨rfl, hv.trans (hb.mono hv.size)⟩
    have hC5 : ∀ v : World, Below w4.heap.size w4 v → Calls Tryd.prog 17 #[.slice A1 n1 c1, .slice A3 n3 c3, .int .i64 x] v fun e w' => ∃ A c, e = .returned (.slice A X c) ∧ Sl w' w'.heap.size A X xl ∧ Below w4.heap.size w4 w' := fun v hv => by
      refine (rexpand_any key b A1 A3 n1 c1 n3 c3 w4.heap.size x v (HK1.out.below hv) (HK3.out.below hv) hv.size (by omega) (by omega)).mono ?_
      rw [HX.out, HXl.out]
      rintro e w' ⟨A, c, rfl, ho, _, _, hb⟩
      exact ⟨A, c, rfl, ho.sl, hv.trans (hb.mono hv.size)⟩
    have hC6 : ∀ v : World, Below w4.heap.size w4 v → ∀ A c, Sl v v.heap.size A X xl → Calls Tryd.prog 16 #[.slice Ax X cx, .slice A X c] v fun e w' => e = .returned (.bool true) ∧ Below w4.heap.size w4 w' := fun v hv A c hs => by
      refine (same_yes xl xl rfl Ax A X X cx c w4.heap.size v.heap.size v (HSx.out.below hv) hs (HMx.out _ (by omega))).mono ?_
      rintro e w' ⟨rfl, k, rfl⟩
      exact ⟨rfl, below_drewN hv k⟩
    have hC7 : ∀ v : World, Below w4.heap.size w4 v → Calls Tryd.prog 18 #[.slice A1 n1 c1, .string s, .slice A2 n2 c2, .int .i64 x] v fun e w' => ∃ A c, e = .returned (.slice A Y c) ∧ Sl w' w'.heap.size A Y yl ∧ Below w4.heap.size w4 w' := fun v hv => by
      refine (rlabel_any key lab a s A1 A2 n1 c1 n2 c2 w4.heap.size x v (HK1.out.below hv) (HK2.out.below hv) hv.size (by omega) HS.out).mono ?_
      rw [HY.out, HYl.out]
      rintro e w' ⟨A, c, rfl, ho, _, _, hb⟩
      exact ⟨A, c, rfl, ho.sl, hv.trans (hb.mono hv.size)⟩
    have hC8 : ∀ v : World, Below w4.heap.size w4 v → ∀ A c, Sl v v.heap.size A Y yl → Calls Tryd.prog 16 #[.slice Ay Y cy, .slice A Y c] v fun e w' => e = .returned (.bool true) ∧ Below w4.heap.size w4 w' := fun v hv A c hs => by
      refine (same_yes yl yl rfl Ay A Y Y cy c w4.heap.size v.heap.size v (HSy.out.below hv) hs (HMx.out _ (by omega))).mono ?_
      rintro e w' ⟨rfl, k, rfl⟩
      exact ⟨rfl, below_drewN hv k⟩
    have hC9 : ∀ v : World, Below w4.heap.size w4 v → Calls Tryd.prog 19 #[.slice A2 n2 c2, .slice A3 n3 c3] v fun e w' => e = .returned (.bool bb) ∧ Below w4.heap.size w4 w' := fun v hv => by
      refine (equal_any a b A2 A3 n2 n3 c2 c3 w4.heap.size w4.heap.size v (HK2.out.below hv) (HK3.out.below hv) (HMx.out _ (by omega))).mono ?_
      rintro e w' ⟨rfl, k, rfl⟩
      rw [HBb.out]
      exact ⟨rfl, below_drewN hv k⟩
    have hCa : ∀ v : World, Below w4.heap.size w4 v → Calls Tryd.prog 16 #[.slice A2 n2 c2, .slice A3 n3 c3] v fun e w' => e = .returned (.bool bb) ∧ Below w4.heap.size w4 w' := fun v hv => by
      refine (same_any a b A2 A3 n2 n3 c2 c3 w4.heap.size w4.heap.size v (HK2.out.below hv) (HK3.out.below hv) (HMx.out _ (by omega))).mono ?_
      rintro e w' ⟨rfl, k, rfl⟩
      rw [HBb.out]
      exact ⟨rfl, below_drewN hv k⟩
    have hCb : ∀ v : World, Below w4.heap.size w4 v → Calls Tryd.prog 9 #[.slice A2 n2 c2] v fun e w' => ∃ A c, e = .returned (.slice A n2 c) ∧ Sl w' w'.heap.size A n2 a ∧ Below w4.heap.size w4 w' := fun v hv => by
      refine (copied_any a A2 n2 c2 w4.heap.size v (HK2.out.below hv) (by omega)).mono ?_
      rintro e w' ⟨A, c, rfl, ho, _, _, hb⟩
      exact ⟨A, c, rfl, ho.sl, hv.trans (hb.mono hv.size)⟩
    have hCc : ∀ v : World, Below w4.heap.size w4 v → ∀ A c, Sl v v.heap.size A n2 a → Calls Tryd.prog 19 #[.slice A2 n2 c2, .slice A n2 c] v fun e w' => e = .returned (.bool true) ∧ Below w4.heap.size w4 w' := fun v hv A c hs => by
      refine (equal_any a a A2 A n2 n2 c2 c w4.heap.size v.heap.size v (HK2.out.below hv) hs (HMx.out _ (by omega))).mono ?_
      rintro e w' ⟨rfl, k, rfl⟩
      exact ⟨by simp, below_drewN hv k⟩
    have hCd : ∀ v : World, Below w4.heap.size w4 v → Calls Tryd.prog 8 #[] v fun e w' => e = .returned (.bool true) ∧ Below w.heap.size w w' := fun v hv => by
      refine (awake_any v (HG4.out.below hv)).mono ?_
      rintro e w' ⟨rfl, hb⟩
      exact ⟨rfl, HB4.out.trans ((hv.mono hz4).trans (hb.mono (Nat.le_trans hz4 hv.size)))⟩
    have HC1 := Lib.hid hC1
    have HC2 := Lib.hid hC2
    have HC3 := Lib.hid hC3
    have HC4 := Lib.hid hC4
    have HC5 := Lib.hid hC5
    have HC6 := Lib.hid hC6
    have HC7 := Lib.hid hC7
    have HC8 := Lib.hid hC8
    have HC9 := Lib.hid hC9
    have HCa := Lib.hid hCa
    have HCb := Lib.hid hCb
    have HCc := Lib.hid hCc
    have HCd := Lib.hid hCd
    clear hC1 hC2 hC3 hC4 hC5 hC6 hC7 hC8 hC9 hCa hCb hCc hCd HSx HSy HSa HK1 HK2 HK3 HG4 HB4
    (with_reducible refine (HC1.out _ rfl).mono ?_)
    rintro e5 w5 ⟨rfl, hb5⟩
    go_wp2_with (first
      | (go_at_call 13; (with_reducible refine (HC2.out _ hb5).mono ?_); rintro e6 w6 ⟨rfl, hb6⟩)
      | (go_at_call 14; (with_reducible refine (HC3.out _ hb6).mono ?_); rintro e7 w7 ⟨rfl, hb7⟩)
      | (go_at_call 15; (with_reducible refine (HC4.out _ hb7).mono ?_); rintro e8 w8 ⟨rfl, hb8⟩)
      | (go_at_call 17; (with_reducible refine (HC5.out _ hb8).mono ?_); rintro e9 w9 ⟨A9, c9, rfl, hs9, hb9⟩; have HS9 := Lib.hid hs9; clear hs9)
      | (go_at_call 16; (with_reducible refine (HC6.out _ hb9 _ _ HS9.out).mono ?_); rintro ea wa ⟨rfl, hba⟩)
      | (go_at_call 18; (with_reducible refine (HC7.out _ hba).mono ?_); rintro eb wb ⟨Ab, cb, rfl, hsb, hbb'⟩; have HSb := Lib.hid hsb; clear hsb)
      | (go_at_call 16; (with_reducible refine (HC8.out _ hbb' _ _ HSb.out).mono ?_); rintro ec wc ⟨rfl, hbc⟩)
      | (go_at_call 19; (with_reducible refine (HC9.out _ hbc).mono ?_); rintro ed wd ⟨rfl, hbd⟩)
      | (go_at_call 16; (with_reducible refine (HCa.out _ hbd).mono ?_); rintro ee we ⟨rfl, hbe⟩)
      | (go_at_call 9; (with_reducible refine (HCb.out _ hbe).mono ?_); rintro ef wf ⟨Af, cf, rfl, hsf, hbf⟩; have HSf := Lib.hid hsf; clear hsf)
      | (go_at_call 19; (with_reducible refine (HCc.out _ hbf _ _ HSf.out).mono ?_); rintro eg wg ⟨rfl, hbg⟩)
      | (go_at_call 8; (with_reducible refine (HCd.out _ hbg).mono ?_); rintro eh wh ⟨rfl, hbh⟩))
    go_ret
    exact ⟨rfl, hbh⟩
end Go.Proofs.YtnjdloocalfkmaaDoor
