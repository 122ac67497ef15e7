/-
  The walk of HkdfKeys.
-/
import Derived.Test.YtnjdloocalfkmaaDoorHkH
import Derived.Test.YtnjdloocalfkmaaDoorHkZ
namespace Go.Proofs.YtnjdloocalfkmaaDoor
open Go.RowKit Go.Joins
set_option linter.unusedVariables false

set_option maxHeartbeats 1000000 in
theorem keys_long (A1 A2 : Option Addr) (n1 c1 n2 c2 : Nat) (x : Int) (w : World) (hG : Glob w) (h : 200 < n1 ∨ 200 < n2) :
    Calls Tryd.prog 6 #[.slice A1 n1 c1, .slice A2 n2 c2, .int .i64 x] w fun e w' => e = .returned (.bool true) ∧ Below w.heap.size w w' := by
  have HA := Lib.hid (awake_any w hG)
  clear hG
  by_cases h0 : 200 < n1
  · have t1 : decide ((200 : Int) < (n1 : Int)) = true := by simp; omega
    clear h h0
    go_enter Tryd.func6, Tryd.ntmps6
    go_wp2_with ((with_reducible refine HA.out.mono ?_); rintro e w1 ⟨rfl, hb⟩)
    go_ret
    exact ⟨rfl, hb⟩
  · have t1 : decide ((200 : Int) < (n1 : Int)) = false := by simp; omega
    have t2 : decide ((200 : Int) < (n2 : Int)) = true := by simp; omega
    clear h h0
    go_enter Tryd.func6, Tryd.ntmps6
    go_wp2_with ((with_reducible refine HA.out.mono ?_); rintro e w1 ⟨rfl, hb⟩)
    go_ret
    exact ⟨rfl, hb⟩

set_option maxHeartbeats 2000000 in
theorem keys_big (key text : List UInt8) (A1 A2 : Option Addr) (n1 c1 n2 c2 : Nat) (x : Int) (w : World) (hG : Glob w) (h1 : Sl w w.heap.size A1 n1 key) (h2 : Sl w w.heap.size A2 n2 text) (hn1 : n1 ≤ c1) (hc1 : c1 ≤ maxLen) (hn2 : n2 ≤ c2) (hc2 : c2 ≤ maxLen)
    (hm1 : n1 ≤ 200) (hm2 : n2 ≤ 200) (hbig : 64 < n1) :
    Calls Tryd.prog 6 #[.slice A1 n1 c1, .slice A2 n2 c2, .int .i64 x] w fun e w' => e = .returned (.bool true) ∧ Below w.heap.size w w' := by
  have HG := Lib.hid hG
  have H1 := Lib.hid h1
  have H2 := Lib.hid h2
  have t1 : decide ((200 : Int) < (n1 : Int)) = false := by simp; omega
  have t2 : decide ((200 : Int) < (n2 : Int)) = false := by simp; omega
  have t3 : decide ((64 : Int) < (n1 : Int)) = true := by simp; omega
  have hk : macV (sumV key) text = macV key text := macV_key (kb_digest key (by rw [h1.1]; omega)) text
  have hEq := run_eql_digests (macV key text) (macV key text) (macV_length _ _) (macV_length _ _)
  rw [decide_eq_true rfl] at hEq
  obtain ⟨cs, hcs⟩ : ∃ cs, bvs (macV key text) = cs := ⟨_, rfl⟩
  have hcl : cs.length = 32 := by rw [← hcs, bvs_length, macV_length]
  have hone := bvs_one (macV key text)
  have hss : (bvs (sumV key)).length = 32 := by rw [bvs_length, sumV_length]
  rw [hcs] at hEq hone
  have HEq := Lib.hid hEq
  have Hone := Lib.hid hone
  have HK := Lib.hid hk
  have HCs := Lib.hid hcs
  have HCl := Lib.hid hcl
  have HSs := Lib.hid hss
  clear hG h1 h2 hk hcs hcl hone hss hEq
  go_enter Tryd.func6, Tryd.ntmps6
  go_wp2_with fail
  have hbr : ∀ o, Below w.heap.size w (w.alloc o) := fun o => (Below.refl _ _).alloc (Nat.le_refl _) _
  (with_reducible refine (mac_one key text A1 A2 n1 c1 n2 c2 _ w.heap.size _ (HG.out.below (hbr _)) (H1.out.below (hbr _)) (H2.out.below (hbr _)) (by simp) hn1 hc1 hn2 hc2 (by omega) (by omega) (heap_alloc_new _ _)).mono ?_)
  rintro e1 w1 ⟨rfl, hb1⟩
  rw [HCs.out]
  have hz1 := hb1.size
  simp at hz1
  have HB1 : Hid (Below w.heap.size w w1) := (hbr _).trans (hb1.mono (by simp))
  clear hb1
  go_wp2_with ((with_reducible refine wpList_store_only rfl 27 (.tmp 7) (.tmp 22) rfl w1.heap.size cs ?hx ?hy 27 (List.replicate 32 (.int .u8 0)).toArray ?hg ?hi ?ho Hone.out ?_); (case hx => with_unfolding_all rfl); (case hy => with_unfolding_all rfl); (case hg => exact heap_alloc_new _ _); (case hi => rw [size32, HCl.out]); (case ho => rw [HCl.out]; rfl); intro w2 K2 HO2)
  have hz2 : w1.heap.size < w2.heap.size := (Array.getElem?_eq_some_iff.1 K2.out).1
  have HB2 : Hid (Below w.heap.size w w2) := (HB1.out.alloc HB1.out.size _).trans (HO2.out.below (by have := HB1.out.size; simp; omega) HB1.out.size)
  have hbr2 : ∀ o, Below w2.heap.size w2 (w2.alloc o) := fun o => (Below.refl _ _).alloc (Nat.le_refl _) _
  have hj : joined [⟨A1, n1, c1, key⟩] = key := by simp [joined]
  (with_reducible refine (sum_weak [⟨A1, n1, c1, key⟩] _ 1 1 (w2.heap.size + 1) _ ?q1 ?q2 ?q3 ?q4 ?q5).mono ?_)
  case q1 => exact (HG.out.below HB2.out).below (hbr2 _)
  case q2 =>
    refine slw_block (g := w2.heap.size) (ps := [⟨A1, n1, c1, key⟩]) (t := 22) (fr := (0, 0)) (heap_alloc_new _ _) (by omega) (fun p hp => ?_)
    simp only [List.mem_cons, List.not_mem_nil, or_false] at hp
    subst hp
    exact ⟨((H1.out.below HB2.out).below ((hbr2 _).mono HB2.out.size)).more (by have := HB2.out.size; omega), hn1, hc1⟩
  case q3 => simp
  case q4 => simp [maxLen]
  case q5 => rw [hj, H1.out.1]; omega
  rintro e3 w3 ⟨rfl, hb3⟩
  rw [hj]
  have HB3 : Hid (Below w2.heap.size w2 w3) := (hbr2 _).trans (hb3.mono (by simp))
  clear hb3 hj hbr2
  go_wp2_with ((with_reducible refine wpList_store_only rfl 27 (.tmp 8) (.tmp 28) rfl w3.heap.size (bvs (sumV key)) ?hx ?hy 27 (List.replicate 32 (.int .u8 0)).toArray ?hg ?hi ?ho (bvs_one _) ?_); (case hx => with_unfolding_all rfl); (case hy => with_unfolding_all rfl); (case hg => exact heap_alloc_new _ _); (case hi => rw [size32, HSs.out]); (case ho => rw [HSs.out]; rfl); intro w4 K4 HO4)
  have hz4 : w3.heap.size < w4.heap.size := (Array.getElem?_eq_some_iff.1 K4.out).1
  have hb4 : Below w3.heap.size w3 w4 := ((Below.refl _ _).alloc (Nat.le_refl _) _).trans (HO4.out.below (by simp) (Nat.le_refl _))
  have hz3 := HB3.out.size
  have hb24 : Below w2.heap.size w2 w4 := HB3.out.trans (hb4.mono hz3)
  have hw2 := HB2.out.size
  have hb04 : Below w.heap.size w w4 := HB2.out.trans (hb24.mono hw2)
  obtain ⟨ga, hga⟩ : ∃ ga, w1.heap.size = ga := ⟨_, rfl⟩
  obtain ⟨gs, hgs⟩ : ∃ gs, w3.heap.size = gs := ⟨_, rfl⟩
  rw [hga] at K2 hz2 ⊢
  rw [hgs] at K4 hz4 ⊢
  have hga4 : w4.heap[ga]? = some (.cells cs.toArray 27 (0, 0)) := by rw [hb24.block _ hz2]; exact K2.out
  have hlt4 := (Array.getElem?_eq_some_iff.1 hga4).1
  have hsl4 : Sl w4 w4.heap.size (some ⟨gs, 0, none⟩) 32 (sumV key) := by
    have h := sl_block (B := w4.heap.size) K4.out hz4
    rw [sumV_length] at h
    exact h
  have hR4 : w4.rangeAt ga 0 cs := range_row hga4
  have hkeep : ∀ v, Below w4.heap.size w4 v → v.rangeAt ga 0 cs := fun v hv => range_row (t := 27) (fr := (0, 0)) (by rw [hv.block _ hlt4]; exact hga4)
  have hC1 : ∀ (v : World) (g : Nat), Below w4.heap.size w4 v → v.heap[g]? = some (.cells #[.slice A2 n2 c2] 22 (0, 0)) → Calls Tryd.prog 12 #[.slice (some ⟨gs, 0, none⟩) 32 32, .slice (some ⟨g, 0, none⟩) 1 1] v fun e w' => e = .returned (.agg cs.toArray) ∧ Below w4.heap.size w4 w' ∧ w'.rangeAt ga 0 cs := fun v g hv hg => by
    refine (mac_one (sumV key) text _ A2 32 32 n2 c2 g w4.heap.size v ((HG.out.below hb04).below hv) (hsl4.below hv) (((H2.out.below hb04).below (hv.mono hb04.size)).more hb04.size) hv.size (Nat.le_refl _) (by simp [maxLen]) hn2 hc2 (by omega) (by omega) hg).mono ?_
    rintro e w' ⟨rfl, hb⟩
    rw [HK.out, HCs.out]
    have hb' := hv.trans (hb.mono hv.size)
    exact ⟨rfl, hb', hkeep _ hb'⟩
  have hC2 : ∀ (v : World), Below w4.heap.size w4 v → Calls Tryd.prog 14 #[.slice A1 n1 c1, .slice A2 n2 c2] v fun e w' => e = .returned (.agg cs.toArray) ∧ Below w4.heap.size w4 w' ∧ w'.rangeAt ga 0 cs := fun v hv => by
    refine (extract_any key text A1 A2 n1 c1 n2 c2 w.heap.size v ((HG.out.below hb04).below hv) ((H1.out.below hb04).below (hv.mono hb04.size)) ((H2.out.below hb04).below (hv.mono hb04.size)) (Nat.le_trans hb04.size hv.size) hn1 hc1 hn2 hc2 (by omega) (by omega)).mono ?_
    rintro e w' ⟨rfl, hb⟩
    rw [HCs.out]
    have hb' := hv.trans (hb.mono hv.size)
    exact ⟨rfl, hb', hkeep _ hb'⟩
  have hC3 : ∀ (v : World), Below w4.heap.size w4 v → Calls Tryd.prog 8 #[] v fun e w' => e = .returned (.bool true) ∧ Below w.heap.size w w' ∧ w'.rangeAt ga 0 cs := fun v hv => by
    refine (awake_any v ((HG.out.below hb04).below hv)).mono ?_
    rintro e w' ⟨rfl, hb⟩
    have hb' := hv.trans (hb.mono hv.size)
    exact ⟨rfl, hb04.trans (hb'.mono hb04.size), hkeep _ hb'⟩
  have hcut := whole32 gs
  have hEq := HEq.out
  have hi32 : (Tryd.prog.info? 27).map (·.size) = some cs.length := by rw [size32, HCl.out]
  have hu32 := Tryd.underlying27
  have HC1 := Lib.hid hC1
  have HC2 := Lib.hid hC2
  have HC3 := Lib.hid hC3
  clear hC1 hC2 hC3 hkeep hsl4 hga4 hb4 hb24 hb04 K2 K4 HO2 HO4 hbr HB1 HB2 HB3 HSs HK
  have hS : w4.drew.rangeAt ga 0 cs := hR4
  have HH0 : Hid (∀ o, Below w4.heap.size w4 ((w4.alloc o).drew)) := fun o => ((Below.refl _ _).alloc (Nat.le_refl _) _).drew
  have HH1 : Hid (∀ o, ((w4.alloc o).drew).heap[w4.heap.size]? = some o) := fun o => heap_alloc_new _ _
  refine wp_held (S := fun u => u.rangeAt ga 0 cs) (by kernel_rfl) ?_
  refine wpAnyH_take (i := 0) (v := ?_) rfl (by kernel_rfl) (by kernel_rfl) (by kernel_rfl) (fun _ _ _ h => h) (Or.inl ⟨by rfl, ?_⟩) hS ?_
  rotate_left 1
  · intro u hu
    go_simp
    first | done | with_reducible rfl
  go_simp
  refine wpAnyH_take (i := 1) (v := ?_) rfl (by kernel_rfl) (by kernel_rfl) (by kernel_rfl) (fun _ _ _ h => h) (Or.inl ⟨by rfl, ?_⟩) hS ?_
  rotate_left 1
  · intro u hu
    go_simp
    first | done | with_reducible rfl
  go_simp
  refine wpAnyH_pickG 4 (.agg cs.toArray) rfl (by kernel_rfl) (by kernel_rfl) (by kernel_rfl) (by rfl) (fun _ _ _ h => h) (fun u hu => exec_load_mid u 27 (.tmp 7) rfl ga 0 (by with_unfolding_all rfl) cs _ hu Tryd.underlying27 rfl hi32) hS ?_
  go_simp
  refine wpAnyH_oneG 2 (by kernel_rfl) rfl (by rfl) ?_
  go_simp
  refine ⟨range_alloc hS _, ?_⟩
  replace hS := range_alloc hS (.cells #[.slice A2 n2 c2] 22)
  refine wpAnyH_oneG 3 (by kernel_rfl) rfl (by rfl) ?_
  go_wp2_with fail
  (with_reducible refine (HC1.out _ _ ?b5 ?h5).mono ?_)
  case b5 => exact HH0.out _
  case h5 => exact HH1.out _
  rintro e5 w5 ⟨rfl, hb5, hr5⟩
  refine ⟨hr5, ?_⟩
  clear hS
  have hS := hr5
  go_simp
  refine wpAnyH_take (i := 5) (v := ?_) rfl (by kernel_rfl) (by kernel_rfl) (by kernel_rfl) (fun _ _ _ h => h) (Or.inl ⟨by rfl, ?_⟩) hS ?_
  rotate_left 1
  · intro u hu
    go_simp
    first | done | with_reducible rfl
  go_simp
  refine wpAnyH_take (i := 6) (v := ?_) rfl (by kernel_rfl) (by kernel_rfl) (by kernel_rfl) (fun _ _ _ h => h) (Or.inl ⟨by rfl, ?_⟩) hS ?_
  rotate_left 1
  · intro u hu
    go_simp
    first | done | with_reducible rfl
  go_simp
  refine wpAnyH_take (i := 7) (v := ?_) rfl (by kernel_rfl) (by kernel_rfl) (by kernel_rfl) (fun _ _ _ h => h) (Or.inl ⟨by rfl, ?_⟩) hS ?_
  rotate_left 1
  · intro u hu
    go_simp
    first | done | with_reducible rfl
  go_simp
  refine wpAnyH_take (i := 8) (v := ?_) rfl (by kernel_rfl) (by kernel_rfl) (by kernel_rfl) (fun _ _ _ h => h) (Or.inl ⟨by rfl, ?_⟩) hS ?_
  rotate_left 1
  · intro u hu
    go_simp
    first | done | with_reducible rfl
  go_simp
  refine wpAnyH_pickG 10 (.agg cs.toArray) rfl (by kernel_rfl) (by kernel_rfl) (by kernel_rfl) (by rfl) (fun _ _ _ h => h) (fun u hu => exec_load_mid u 27 (.tmp 7) rfl ga 0 (by with_unfolding_all rfl) cs _ hu Tryd.underlying27 rfl hi32) hS ?_
  go_simp
  refine wpAnyH_oneG 9 (by kernel_rfl) rfl (by rfl) ?_
  go_wp2_with fail
  (with_reducible refine (HC2.out _ hb5).mono ?_)
  rintro e6 w6 ⟨rfl, hb6, hr6⟩
  refine ⟨hr6, ?_⟩
  clear hS
  have hS := hr6
  go_simp
  refine wpAnyH_take (i := 11) (v := ?_) rfl (by kernel_rfl) (by kernel_rfl) (by kernel_rfl) (fun _ _ _ h => h) (Or.inl ⟨by rfl, ?_⟩) hS ?_
  rotate_left 1
  · intro u hu
    go_simp
    first | done | with_reducible rfl
  go_simp
  refine wpAnyH_take (i := 12) (v := ?_) rfl (by kernel_rfl) (by kernel_rfl) (by kernel_rfl) (fun _ _ _ h => h) (Or.inl ⟨by rfl, ?_⟩) hS ?_
  rotate_left 1
  · intro u hu
    go_simp
    first | done | with_reducible rfl
  go_simp
  refine wpAnyH_take (i := 13) (v := ?_) rfl (by kernel_rfl) (by kernel_rfl) (by kernel_rfl) (fun _ _ _ h => h) (Or.inl ⟨by rfl, ?_⟩) hS ?_
  rotate_left 1
  · intro u hu
    go_simp
    first | done | with_reducible rfl
  go_simp
  refine wpAnyH_oneG 14 (by kernel_rfl) rfl (by rfl) ?_
  go_wp2_with fail
  (with_reducible refine (HC3.out _ hb6).mono ?_)
  rintro e7 w7 ⟨rfl, hb7, hr7⟩
  refine ⟨hr7, ?_⟩
  clear hS
  have hS := hr7
  go_simp
  refine wpAnyH_take (i := 15) (v := ?_) rfl (by kernel_rfl) (by kernel_rfl) (by kernel_rfl) (fun _ _ _ h => h) (Or.inl ⟨by rfl, ?_⟩) hS ?_
  rotate_left 1
  · intro u hu
    go_simp
    first | done | with_reducible rfl
  go_simp
  refine wpAnyH_take (i := 16) (v := ?_) rfl (by kernel_rfl) (by kernel_rfl) (by kernel_rfl) (fun _ _ _ h => h) (Or.inl ⟨by rfl, ?_⟩) hS ?_
  rotate_left 1
  · intro u hu
    go_simp
    first | done | with_reducible rfl
  go_simp
  refine wpAnyH_done (by kernel_rfl) ?_ _
  go_simp
  go_wp2
  go_ret
  exact ⟨rfl, hb7⟩

set_option maxHeartbeats 2000000 in
theorem keys_small (key text : List UInt8) (A1 A2 : Option Addr) (n1 c1 n2 c2 : Nat) (x : Int) (w : World) (hG : Glob w) (h1 : Sl w w.heap.size A1 n1 key) (h2 : Sl w w.heap.size A2 n2 text) (hn1 : n1 ≤ c1) (hc1 : c1 ≤ maxLen) (hn2 : n2 ≤ c2) (hc2 : c2 ≤ maxLen)
    (hm1 : n1 ≤ 200) (hm2 : n2 ≤ 200) (hbig : n1 ≤ 64) :
    Calls Tryd.prog 6 #[.slice A1 n1 c1, .slice A2 n2 c2, .int .i64 x] w fun e w' => e = .returned (.bool true) ∧ Below w.heap.size w w' := by
  have HG := Lib.hid hG
  have H1 := Lib.hid h1
  have H2 := Lib.hid h2
  have t1 : decide ((200 : Int) < (n1 : Int)) = false := by simp; omega
  have t2 : decide ((200 : Int) < (n2 : Int)) = false := by simp; omega
  have t3 : decide ((64 : Int) < (n1 : Int)) = false := by simp; omega
  obtain ⟨q, hq⟩ : ∃ q : Nat, (65 : Int) - (n1 : Int) = (q : Int) := ⟨65 - n1, by omega⟩
  obtain ⟨d, hd, hdq⟩ : ∃ d : Nat, lowV x (q : Int) = (d : Int) ∧ d < q := by
    have := low_bd x (q : Int) (by omega) (by omega)
    exact ⟨(lowV x (q : Int)).toNat, by omega, by omega⟩
  have hlx := fun u => low_any x (q : Int) u (by omega) (by omega)
  rw [hd] at hlx
  have HLX := Lib.hid hlx
  have hdn : n1 + d ≤ 64 := by omega
  obtain ⟨N, hN⟩ : ∃ N, n1 + d = N := ⟨_, rfl⟩
  have hk : macV (key ++ List.replicate d 0) text = macV key text := macV_key (kb_zeros key d (by rw [h1.1]; omega)) text
  obtain ⟨b, hb⟩ : ∃ b, decide (key = key ++ List.replicate d 0) = b := ⟨_, rfl⟩
  have hbd : b = decide (d = 0) := by
    rw [← hb, decide_eq_decide]
    constructor
    · intro h
      have := congrArg List.length h
      simp at this
      omega
    · rintro rfl; simp
  have hte : decide ((n1 : Int) = (N : Int)) = b := by
    rw [hbd, decide_eq_decide]; omega
  have hte2 : ((n1 : Int) == (N : Int)) = b := by
    rw [← hte]; rfl
  have HBq := Lib.hid hb
  have hEq := run_eql_digests (macV key text) (macV key text) (macV_length _ _) (macV_length _ _)
  rw [decide_eq_true rfl] at hEq
  obtain ⟨cs, hcs⟩ : ∃ cs, bvs (macV key text) = cs := ⟨_, rfl⟩
  have hcl : cs.length = 32 := by rw [← hcs, bvs_length, macV_length]
  have hone := bvs_one (macV key text)
  rw [hcs] at hEq hone
  have HEq := Lib.hid hEq
  have Hone := Lib.hid hone
  have HK := Lib.hid hk
  have HCs := Lib.hid hcs
  have HCl := Lib.hid hcl
  clear hG h1 h2 hk hcs hcl hone hEq hlx hd hb hbd
  go_enter Tryd.func6, Tryd.ntmps6
  go_wp2_with fail
  have hbr : ∀ o, Below w.heap.size w (w.alloc o) := fun o => (Below.refl _ _).alloc (Nat.le_refl _) _
  (with_reducible refine (mac_one key text A1 A2 n1 c1 n2 c2 _ w.heap.size _ (HG.out.below (hbr _)) (H1.out.below (hbr _)) (H2.out.below (hbr _)) (by simp) hn1 hc1 hn2 hc2 (by omega) (by omega) (heap_alloc_new _ _)).mono ?_)
  rintro e1 w1 ⟨rfl, hb1⟩
  rw [HCs.out]
  have hz1 := hb1.size
  simp at hz1
  have HB1 : Hid (Below w.heap.size w w1) := (hbr _).trans (hb1.mono (by simp))
  clear hb1
  go_wp2_with (first
    | ((with_reducible refine wpList_store_only rfl 27 (.tmp 7) (.tmp 22) rfl w1.heap.size cs ?hx ?hy 27 (List.replicate 32 (.int .u8 0)).toArray ?hg ?hi ?ho Hone.out ?_); (case hx => with_unfolding_all rfl); (case hy => with_unfolding_all rfl); (case hg => exact heap_alloc_new _ _); (case hi => rw [size32, HCl.out]); (case ho => rw [HCl.out]; rfl);intro w2 K2 HO2; have hz2 : w1.heap.size < w2.heap.size := (Array.getElem?_eq_some_iff.1 K2.out).1; have HB2 : Hid (Below w.heap.size w w2) := (HB1.out.alloc HB1.out.size _).trans (HO2.out.below (by have := HB1.out.size; simp; omega) HB1.out.size))
    | (at_builtin; (refine wpList_append_bytesN rfl (.const (.slice none 0 0)) (.tmp 45) rfl w2.heap.size (.slice none 0 0) 0 n1 n1 [] key key rfl (Own.nil _ _) w.heap.size A1 c1 rfl (H1.out.below HB2.out) (by omega) rfl (by omega) (Nat.le_refl _) w2 (Below.refl _ _) ?_); intro A3 c3 w3 HO3 hle3 hcm3 HB3; have hz3 := HB3.out.size)
    | (go_at_call 20; (with_reducible refine (HLX.out _).mono ?_); rintro e w' ⟨rfl, rfl⟩)
    | (at_builtin; (refine wpList_append_zeros rfl (.tmp 46) (.tmp 51) rfl w2.heap.size (.slice A3 n1 c3) n1 d N key rfl HO3.out rfl hN (by omega) hz3 w2 HB3.out ?_); intro A4 c4 w4 HO4 hle4 hcm4 HB4; have hz4 := HB4.out.size))
  have hw2 := HB2.out.size
  have hb24 := HB4.out
  have hb04 : Below w.heap.size w w4 := HB2.out.trans (hb24.mono hw2)
  obtain ⟨ga, hga⟩ : ∃ ga, w1.heap.size = ga := ⟨_, rfl⟩
  rw [hga] at K2 hz2 ⊢
  have hga4 : w4.heap[ga]? = some (.cells cs.toArray 27 (0, 0)) := by rw [hb24.block _ hz2]; exact K2.out
  have hlt4 := (Array.getElem?_eq_some_iff.1 hga4).1
  have hsl4 : Sl w4 w4.heap.size A4 N (key ++ List.replicate d 0) := HO4.out.sl
  have hR4 : w4.rangeAt ga 0 cs := range_row hga4
  have hkeep : ∀ v, Below w4.heap.size w4 v → v.rangeAt ga 0 cs := fun v hv => range_row (t := 27) (fr := (0, 0)) (by rw [hv.block _ hlt4]; exact hga4)
  have hC1 : ∀ (v : World) (g : Nat), Below w4.heap.size w4 v → v.heap[g]? = some (.cells #[.slice A2 n2 c2] 22 (0, 0)) → Calls Tryd.prog 12 #[.slice A4 N c4, .slice (some ⟨g, 0, none⟩) 1 1] v fun e w' => e = .returned (.agg cs.toArray) ∧ Below w4.heap.size w4 w' ∧ w'.rangeAt ga 0 cs := fun v g hv hg => by
    refine (mac_one (key ++ List.replicate d 0) text A4 A2 N c4 n2 c2 g w4.heap.size v ((HG.out.below hb04).below hv) (hsl4.below hv) (((H2.out.below hb04).below (hv.mono hb04.size)).more hb04.size) hv.size hle4 hcm4 hn2 hc2 (by omega) (by omega) hg).mono ?_
    rintro e w' ⟨rfl, hb⟩
    rw [HK.out, HCs.out]
    have hb' := hv.trans (hb.mono hv.size)
    exact ⟨rfl, hb', hkeep _ hb'⟩
  have hC2 : ∀ (v : World), Below w4.heap.size w4 v → Calls Tryd.prog 14 #[.slice A4 N c4, .slice A2 n2 c2] v fun e w' => e = .returned (.agg cs.toArray) ∧ Below w4.heap.size w4 w' ∧ w'.rangeAt ga 0 cs := fun v hv => by
    refine (extract_any (key ++ List.replicate d 0) text A4 A2 N c4 n2 c2 w4.heap.size v ((HG.out.below hb04).below hv) (hsl4.below hv) (((H2.out.below hb04).below (hv.mono hb04.size)).more hb04.size) hv.size hle4 hcm4 hn2 hc2 (by omega) (by omega)).mono ?_
    rintro e w' ⟨rfl, hb⟩
    rw [HK.out, HCs.out]
    have hb' := hv.trans (hb.mono hv.size)
    exact ⟨rfl, hb', hkeep _ hb'⟩
  have hC4 : ∀ (v : World), Below w4.heap.size w4 v → Calls Tryd.prog 19 #[.slice A1 n1 c1, .slice A4 N c4] v fun e w' => e = .returned (.bool b) ∧ Below w4.heap.size w4 w' ∧ w'.rangeAt ga 0 cs := fun v hv => by
    refine (equal_any key (key ++ List.replicate d 0) A1 A4 n1 N c1 c4 w.heap.size w4.heap.size v ((H1.out.below hb04).below (hv.mono hb04.size)) (hsl4.below hv) (by omega)).mono ?_
    rintro e w' ⟨rfl, k, rfl⟩
    rw [HBq.out]
    have hb' := below_drewN hv k
    exact ⟨rfl, hb', hkeep _ hb'⟩
  have hC3 : ∀ (v : World), Below w4.heap.size w4 v → Calls Tryd.prog 8 #[] v fun e w' => e = .returned (.bool true) ∧ Below w.heap.size w w' ∧ w'.rangeAt ga 0 cs := fun v hv => by
    refine (awake_any v ((HG.out.below hb04).below hv)).mono ?_
    rintro e w' ⟨rfl, hb⟩
    have hb' := hv.trans (hb.mono hv.size)
    exact ⟨rfl, hb04.trans (hb'.mono hb04.size), hkeep _ hb'⟩
  have hEq := HEq.out
  have hi32 : (Tryd.prog.info? 27).map (·.size) = some cs.length := by rw [size32, HCl.out]
  have HC1 := Lib.hid hC1
  have HC2 := Lib.hid hC2
  have HC3 := Lib.hid hC3
  have HC4 := Lib.hid hC4
  clear hC1 hC2 hC3 hC4 hkeep hsl4 hga4 hb24 hb04 K2 HO2 HO3 HO4 hbr HB1 HB2 HB3 HB4 HK HBq
  have hS : w4.drew.rangeAt ga 0 cs := hR4
  have HH0 : Hid (∀ o, Below w4.heap.size w4 ((w4.alloc o).drew)) := fun o => ((Below.refl _ _).alloc (Nat.le_refl _) _).drew
  have HH1 : Hid (∀ o, ((w4.alloc o).drew).heap[w4.heap.size]? = some o) := fun o => heap_alloc_new _ _
  refine wp_held (S := fun u => u.rangeAt ga 0 cs) (by kernel_rfl) ?_
  refine wpAnyH_take (i := 0) (v := ?_) rfl (by kernel_rfl) (by kernel_rfl) (by kernel_rfl) (fun _ _ _ h => h) (Or.inl ⟨by rfl, ?_⟩) hS ?_
  rotate_left 1
  · intro u hu
    go_simp
    first | done | with_reducible rfl
  go_simp
  refine wpAnyH_take (i := 1) (v := ?_) rfl (by kernel_rfl) (by kernel_rfl) (by kernel_rfl) (fun _ _ _ h => h) (Or.inl ⟨by rfl, ?_⟩) hS ?_
  rotate_left 1
  · intro u hu
    go_simp
    first | done | with_reducible rfl
  go_simp
  refine wpAnyH_pickG 4 (.agg cs.toArray) rfl (by kernel_rfl) (by kernel_rfl) (by kernel_rfl) (by rfl) (fun _ _ _ h => h) (fun u hu => exec_load_mid u 27 (.tmp 7) rfl ga 0 (by with_unfolding_all rfl) cs _ hu Tryd.underlying27 rfl hi32) hS ?_
  go_simp
  refine wpAnyH_oneG 2 (by kernel_rfl) rfl (by rfl) ?_
  go_simp
  refine ⟨range_alloc hS _, ?_⟩
  replace hS := range_alloc hS (.cells #[.slice A2 n2 c2] 22)
  refine wpAnyH_oneG 3 (by kernel_rfl) rfl (by rfl) ?_
  go_wp2_with fail
  (with_reducible refine (HC1.out _ _ ?b5 ?h5).mono ?_)
  case b5 => exact HH0.out _
  case h5 => exact HH1.out _
  rintro e5 w5 ⟨rfl, hb5, hr5⟩
  refine ⟨hr5, ?_⟩
  clear hS
  have hS := hr5
  go_simp
  refine wpAnyH_take (i := 5) (v := ?_) rfl (by kernel_rfl) (by kernel_rfl) (by kernel_rfl) (fun _ _ _ h => h) (Or.inl ⟨by rfl, ?_⟩) hS ?_
  rotate_left 1
  · intro u hu
    go_simp
    first | done | with_reducible rfl
  go_simp
  refine wpAnyH_take (i := 6) (v := ?_) rfl (by kernel_rfl) (by kernel_rfl) (by kernel_rfl) (fun _ _ _ h => h) (Or.inl ⟨by rfl, ?_⟩) hS ?_
  rotate_left 1
  · intro u hu
    go_simp
    first | done | with_reducible rfl
  go_simp
  refine wpAnyH_take (i := 7) (v := ?_) rfl (by kernel_rfl) (by kernel_rfl) (by kernel_rfl) (fun _ _ _ h => h) (Or.inl ⟨by rfl, ?_⟩) hS ?_
  rotate_left 1
  · intro u hu
    go_simp
    first | done | with_reducible rfl
  go_simp
  refine wpAnyH_take (i := 8) (v := ?_) rfl (by kernel_rfl) (by kernel_rfl) (by kernel_rfl) (fun _ _ _ h => h) (Or.inl ⟨by rfl, ?_⟩) hS ?_
  rotate_left 1
  · intro u hu
    go_simp
    first | done | with_reducible rfl
  go_simp
  refine wpAnyH_pickG 10 (.agg cs.toArray) rfl (by kernel_rfl) (by kernel_rfl) (by kernel_rfl) (by rfl) (fun _ _ _ h => h) (fun u hu => exec_load_mid u 27 (.tmp 7) rfl ga 0 (by with_unfolding_all rfl) cs _ hu Tryd.underlying27 rfl hi32) hS ?_
  go_simp
  refine wpAnyH_oneG 9 (by kernel_rfl) rfl (by rfl) ?_
  go_wp2_with fail
  (with_reducible refine (HC2.out _ hb5).mono ?_)
  rintro e6 w6 ⟨rfl, hb6, hr6⟩
  refine ⟨hr6, ?_⟩
  clear hS
  have hS := hr6
  go_simp
  refine wpAnyH_take (i := 11) (v := ?_) rfl (by kernel_rfl) (by kernel_rfl) (by kernel_rfl) (fun _ _ _ h => h) (Or.inl ⟨by rfl, ?_⟩) hS ?_
  rotate_left 1
  · intro u hu
    go_simp
    first | done | with_reducible rfl
  go_simp
  refine wpAnyH_take (i := 12) (v := ?_) rfl (by kernel_rfl) (by kernel_rfl) (by kernel_rfl) (fun _ _ _ h => h) (Or.inl ⟨by rfl, ?_⟩) hS ?_
  rotate_left 1
  · intro u hu
    go_simp
    first | done | with_reducible rfl
  go_simp
  refine wpAnyH_take (i := 13) (v := ?_) rfl (by kernel_rfl) (by kernel_rfl) (by kernel_rfl) (fun _ _ _ h => h) (Or.inl ⟨by rfl, ?_⟩) hS ?_
  rotate_left 1
  · intro u hu
    go_simp
    first | done | with_reducible rfl
  go_simp
  refine wpAnyH_take (i := 14) (v := ?_) rfl (by kernel_rfl) (by kernel_rfl) (by kernel_rfl) (fun _ _ _ h => h) (Or.inl ⟨by rfl, ?_⟩) hS ?_
  rotate_left 1
  · intro u hu
    go_simp
    first | done | with_reducible rfl
  go_simp
  refine wpAnyH_take (i := 15) (v := ?_) rfl (by kernel_rfl) (by kernel_rfl) (by kernel_rfl) (fun _ _ _ h => h) (Or.inl ⟨by rfl, ?_⟩) hS ?_
  rotate_left 1
  · intro u hu
    go_simp
    first | done | with_reducible rfl
  go_simp
  refine wpAnyH_take (i := 17) (v := ?_) rfl (by kernel_rfl) (by kernel_rfl) (by kernel_rfl) (fun _ _ _ h => h) (Or.inl ⟨by rfl, ?_⟩) hS ?_
  rotate_left 1
  · intro u hu
    go_simp
    first | done | with_reducible rfl
  go_simp
  refine wpAnyH_take (i := 18) (v := ?_) rfl (by kernel_rfl) (by kernel_rfl) (by kernel_rfl) (fun _ _ _ h => h) (Or.inl ⟨by rfl, ?_⟩) hS ?_
  rotate_left 1
  · intro u hu
    go_simp
    first | done | with_reducible rfl
  go_simp
  refine wpAnyH_take (i := 19) (v := ?_) rfl (by kernel_rfl) (by kernel_rfl) (by kernel_rfl) (fun _ _ _ h => h) (Or.inl ⟨by rfl, ?_⟩) hS ?_
  rotate_left 1
  · intro u hu
    go_simp
    first | done | with_reducible rfl
  go_simp
  refine wpAnyH_take (i := 20) (v := ?_) rfl (by kernel_rfl) (by kernel_rfl) (by kernel_rfl) (fun _ _ _ h => h) (Or.inl ⟨by rfl, ?_⟩) hS ?_
  rotate_left 1
  · intro u hu
    go_simp
    first | done | with_reducible rfl
  go_simp
  refine wpAnyH_take (i := 21) (v := ?_) rfl (by kernel_rfl) (by kernel_rfl) (by kernel_rfl) (fun _ _ _ h => h) (Or.inl ⟨by rfl, ?_⟩) hS ?_
  rotate_left 1
  · intro u hu
    go_simp
    first | done | with_reducible rfl
  go_simp
  refine wpAnyH_oneG 16 (by kernel_rfl) rfl (by rfl) ?_
  go_wp2_with fail
  (with_reducible refine (HC4.out _ hb6).mono ?_)
  rintro e8 w8 ⟨rfl, hb8, hr8⟩
  refine ⟨hr8, ?_⟩
  clear hS
  have hS := hr8
  go_simp
  refine wpAnyH_take (i := 22) (v := ?_) rfl (by kernel_rfl) (by kernel_rfl) (by kernel_rfl) (fun _ _ _ h => h) (Or.inl ⟨by rfl, ?_⟩) hS ?_
  rotate_left 1
  · intro u hu
    go_simp
    first | done | with_reducible rfl
  go_simp
  refine wpAnyH_take (i := 23) (v := ?_) rfl (by kernel_rfl) (by kernel_rfl) (by kernel_rfl) (fun _ _ _ h => h) (Or.inl ⟨by rfl, ?_⟩) hS ?_
  rotate_left 1
  · intro u hu
    go_simp
    first | done | with_reducible rfl
  go_simp
  refine wpAnyH_take (i := 24) (v := ?_) rfl (by kernel_rfl) (by kernel_rfl) (by kernel_rfl) (fun _ _ _ h => h) (Or.inl ⟨by rfl, ?_⟩) hS ?_
  rotate_left 1
  · intro u hu
    go_simp
    first | done | with_reducible rfl
  go_simp
  refine wpAnyH_oneG 25 (by kernel_rfl) rfl (by rfl) ?_
  go_wp2_with fail
  (with_reducible refine (HC3.out _ hb8).mono ?_)
  rintro e7 w7 ⟨rfl, hb7, hr7⟩
  refine ⟨hr7, ?_⟩
  clear hS
  have hS := hr7
  go_simp
  refine wpAnyH_take (i := 26) (v := ?_) rfl (by kernel_rfl) (by kernel_rfl) (by kernel_rfl) (fun _ _ _ h => h) (Or.inl ⟨by rfl, ?_⟩) hS ?_
  rotate_left 1
  · intro u hu
    go_simp
    first | done | with_reducible rfl
  go_simp
  refine wpAnyH_take (i := 27) (v := ?_) rfl (by kernel_rfl) (by kernel_rfl) (by kernel_rfl) (fun _ _ _ h => h) (Or.inl ⟨by rfl, ?_⟩) hS ?_
  rotate_left 1
  · intro u hu
    go_simp
    first | done | with_reducible rfl
  go_simp
  refine wpAnyH_done (by kernel_rfl) ?_ _
  go_simp
  go_wp2
  go_ret
  exact ⟨rfl, hb7⟩
end Go.Proofs.YtnjdloocalfkmaaDoor
