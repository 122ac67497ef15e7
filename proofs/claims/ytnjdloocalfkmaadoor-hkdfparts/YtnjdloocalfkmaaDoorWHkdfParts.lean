/-
  The walk of HkdfParts.
-/
import Derived.Test.YtnjdloocalfkmaaDoorHkH
import Derived.Test.YtnjdloocalfkmaaDoorHkR
namespace Go.Proofs.YtnjdloocalfkmaaDoor
open Go.RowKit Go.Joins
set_option linter.unusedVariables false

set_option maxHeartbeats 1000000 in
theorem parts_long (A1 A2 : Option Addr) (n1 c1 n2 c2 : Nat) (x y : Int) (w : World) (hG : Glob w) (h : 150 < n1 ∨ 150 < n2) :
    Calls Tryd.prog 5 #[.slice A1 n1 c1, .slice A2 n2 c2, .int .i64 x, .int .u8 y] w fun e w' => e = .returned (.bool true) ∧ Below w.heap.size w w' := by
  have HA := Lib.hid (awake_any w hG)
  clear hG
  by_cases h0 : 150 < n1
  · have t1 : decide ((150 : Int) < (n1 : Int)) = true := by simp; omega
    clear h h0
    go_enter Tryd.func5, Tryd.ntmps5
    go_wp2_with ((with_reducible refine HA.out.mono ?_); rintro e w1 ⟨rfl, hb⟩)
    go_ret
    exact ⟨rfl, hb⟩
  · have t1 : decide ((150 : Int) < (n1 : Int)) = false := by simp; omega
    have t2 : decide ((150 : Int) < (n2 : Int)) = true := by simp; omega
    clear h h0
    go_enter Tryd.func5, Tryd.ntmps5
    go_wp2_with ((with_reducible refine HA.out.mono ?_); rintro e w1 ⟨rfl, hb⟩)
    go_ret
    exact ⟨rfl, hb⟩

set_option maxHeartbeats 4000000 in
theorem parts_walk (key text : List UInt8) (by_ : UInt8) (A1 A2 : Option Addr) (n1 c1 n2 c2 : Nat) (x : Int) (w : World) (hG : Glob w) (h1 : Sl w w.heap.size A1 n1 key) (h2 : Sl w w.heap.size A2 n2 text) (hn1 : n1 ≤ c1) (hc1 : c1 ≤ maxLen) (hn2 : n2 ≤ c2) (hc2 : c2 ≤ maxLen)
    (hm1 : n1 ≤ 150) (hm2 : n2 ≤ 150) :
    Calls Tryd.prog 5 #[.slice A1 n1 c1, .slice A2 n2 c2, .int .i64 x, .int .u8 (bn by_)] w fun e w' => e = .returned (.bool true) ∧ Below w.heap.size w w' := by
  have HG := Lib.hid hG
  have H1 := Lib.hid h1
  have H2 := Lib.hid h2
  have t1 : decide ((150 : Int) < (n1 : Int)) = false := by simp; omega
  have t2 : decide ((150 : Int) < (n2 : Int)) = false := by simp; omega
  obtain ⟨q, hq⟩ : ∃ q : Nat, (n2 : Int) + 1 = (q : Int) := ⟨n2 + 1, by omega⟩
  obtain ⟨d, hd, hdq⟩ : ∃ d : Nat, lowV x (q : Int) = (d : Int) ∧ d < q := by
    have := low_bd x (q : Int) (by omega) (by omega)
    exact ⟨(lowV x (q : Int)).toNat, by omega, by omega⟩
  have hlx := fun u => low_any x (q : Int) u (by omega) (by omega)
  rw [hd] at hlx
  have HLX := Lib.hid hlx
  have hdn : d ≤ n2 := by omega
  obtain ⟨N, hN⟩ : ∃ N, n2 + 1 = N := ⟨_, rfl⟩
  have hk : macV (List.replicate 32 0) text = macV [] text := by
    have h := kb_zeros [] 32 (by simp)
    rw [List.nil_append] at h
    exact macV_key h text
  have hEq1 := run_eql_digests (macV key text) (macV key text) (macV_length _ _) (macV_length _ _)
  have hEq2 := run_eql_digests (macV key (text ++ [by_])) (macV key (text ++ [by_])) (macV_length _ _) (macV_length _ _)
  have hEq3 := run_eql_digests (macV [] text) (macV [] text) (macV_length _ _) (macV_length _ _)
  rw [decide_eq_true rfl] at hEq1 hEq2 hEq3
  obtain ⟨cs, hcs⟩ : ∃ cs, bvs (macV key text) = cs := ⟨_, rfl⟩
  obtain ⟨ds, hds⟩ : ∃ ds, bvs (macV key (text ++ [by_])) = ds := ⟨_, rfl⟩
  obtain ⟨fs, hfs⟩ : ∃ fs, bvs (macV [] text) = fs := ⟨_, rfl⟩
  have hcl : cs.length = 32 := by rw [← hcs, bvs_length, macV_length]
  have hone := bvs_one (macV key text)
  rw [hcs] at hEq1 hone
  rw [hds] at hEq2
  rw [hfs] at hEq3
  have HEq1 := Lib.hid hEq1
  have HEq2 := Lib.hid hEq2
  have HEq3 := Lib.hid hEq3
  have Hone := Lib.hid hone
  have HK := Lib.hid hk
  have HCs := Lib.hid hcs
  have HDs := Lib.hid hds
  have HFs := Lib.hid hfs
  have HCl := Lib.hid hcl
  have hmk : ∀ u : World, (Instr.makeSlice 22 (.int .i64 32) (.int .i64 32)).run Tryd.prog u = .ok (.slice (some ⟨u.heap.size, 0, none⟩) 32 32) (u.alloc (.cells (madeCells #[.int .u8 0] 32) 5)) := run_make_bytes 32 (by omega)
  have hbr : ∀ o, Below w.heap.size w (w.alloc o) := fun o => (Below.refl _ _).alloc (Nat.le_refl _) _
  clear hG h1 h2 hk hcs hds hfs hcl hone hEq1 hEq2 hEq3 hlx hd
  go_enter Tryd.func5, Tryd.ntmps5
  go_wp2_with (first
    | (go_at_call 20; (with_reducible refine (HLX.out _).mono ?_); rintro e w' ⟨rfl, rfl⟩)
    | (go_at_call 12; (with_reducible refine (mac_one key text A1 A2 n1 c1 n2 c2 _ w.heap.size _ (HG.out.below (hbr _)) (H1.out.below (hbr _)) (H2.out.below (hbr _)) (by simp) hn1 hc1 hn2 hc2 (by omega) (by omega) (heap_alloc_new _ _)).mono ?_); rintro e1 w1 ⟨rfl, hb1⟩; rw [HCs.out]; have hz1 := hb1.size; simp at hz1; have HB1 : Hid (Below w.heap.size w w1) := (hbr _).trans (hb1.mono (by simp)); clear hb1)
    | ((with_reducible refine wpList_store_only rfl 27 (.tmp 9) (.tmp 29) rfl w1.heap.size cs ?hx ?hy 27 (List.replicate 32 (.int .u8 0)).toArray ?hg ?hi ?ho Hone.out ?_); (case hx => with_unfolding_all rfl); (case hy => with_unfolding_all rfl); (case hg => exact heap_alloc_new _ _); (case hi => rw [size32, HCl.out]); (case ho => rw [HCl.out]; rfl); intro w2 K2 HO2; have hz2 : w1.heap.size < w2.heap.size := (Array.getElem?_eq_some_iff.1 K2.out).1; have HB2 : Hid (Below w.heap.size w w2) := (HB1.out.alloc HB1.out.size _).trans (HO2.out.below (by have := HB1.out.size; simp; omega) HB1.out.size))
    | (go_at_call 9; (with_reducible refine (copied_any text A2 n2 c2 w.heap.size _ (H2.out.below HB2.out) (by omega)).mono ?_); rintro e3 w3 ⟨A3, c3, rfl, ho3, hle3, hc3, hb3⟩; have HO3 := Lib.hid ho3; have HB3 := Lib.hid hb3; have hz3 := hb3.size; clear ho3 hb3)
    | (at_builtin; (refine wpList_append_bytesN rfl (.tmp 31) (.tmp 33) rfl w2.heap.size (.slice A3 n2 c3) n2 1 N text [by_] (text ++ [by_]) rfl (HO3.out.alloc _) (w3.heap.size + 1) (some ⟨w3.heap.size, 0, none⟩) 1 rfl (sl_cell (heap_alloc_new _ _) rfl (by omega)) hN rfl (by omega) ?hba w2 ?hbe ?_); (case hba => simp; omega); (case hbe => exact HB3.out.alloc hz3 _); intro A4 c4 w4 HO4 hle4 hcm4 HB4; have hz4 := HB4.out.size))
  clear hmk
  have hw2 := HB2.out.size
  obtain ⟨w5, hw5⟩ : ∃ w5, w4.alloc (.cells (madeCells #[.int .u8 0] 32) 5) = w5 := ⟨_, rfl⟩
  have hb45 : Below w4.heap.size w4 w5 := by rw [← hw5]; exact (Below.refl _ _).alloc (Nat.le_refl _) _
  have hgz5 : w5.heap[w4.heap.size]? = some (.cells (bvs (List.replicate 32 0)).toArray 5 (0, 0)) := by
    rw [← hw5, ← zeros_bvs, ← madeCells_eq]; exact heap_alloc_new _ _
  have hz5 := (Array.getElem?_eq_some_iff.1 hgz5).1
  have hb25 : Below w2.heap.size w2 w5 := HB4.out.trans (hb45.mono hz4)
  have hb05 : Below w.heap.size w w5 := HB2.out.trans (hb25.mono hw2)
  obtain ⟨ga, hga⟩ : ∃ ga, w1.heap.size = ga := ⟨_, rfl⟩
  obtain ⟨gz, hgz⟩ : ∃ gz, w4.heap.size = gz := ⟨_, rfl⟩
  rw [hga] at K2 hz2 ⊢
  have hsm5 : Sl w5 w5.heap.size A4 N (text ++ [by_]) := (HO4.out.sl).grow hb45
  rw [hgz] at hgz5 hz5 ⊢
  rw [hw5]
  have hga5 : w5.heap[ga]? = some (.cells cs.toArray 27 (0, 0)) := by rw [hb25.block _ hz2]; exact K2.out
  have hlt5 := (Array.getElem?_eq_some_iff.1 hga5).1
  have hsz5 : Sl w5 w5.heap.size (some ⟨gz, 0, none⟩) 32 (List.replicate 32 0) := by
    have h := sl_block (B := w5.heap.size) hgz5 hz5
    rw [List.length_replicate] at h
    exact h
  have hR5 : w5.rangeAt ga 0 cs := range_row hga5
  have hkeep : ∀ v, Below w5.heap.size w5 v → v.rangeAt ga 0 cs := fun v hv => range_row (t := 27) (fr := (0, 0)) (by rw [hv.block _ hlt5]; exact hga5)
  obtain ⟨A6, hA6⟩ : ∃ A6, (if c2 = 0 then A2 else A2.map (·.add 0)) = A6 := ⟨_, rfl⟩
  obtain ⟨A7, hA7⟩ : ∃ A7, (if c2 = d then A2 else A2.map (·.add d)) = A7 := ⟨_, rfl⟩
  have hcut1 : ∀ u : World, (Instr.slice 22 (.slice A2 n2 c2) none (some (.int .i64 (d : Int))) none).run Tryd.prog u = .ok (.slice A6 d c2) u := fun u => by
    rw [← hA6]; exact run_cut_to u A2 n2 c2 d (by omega)
  have hcut2 : ∀ u : World, (Instr.slice 22 (.slice A2 n2 c2) (some (.int .i64 (d : Int))) none none).run Tryd.prog u = .ok (.slice A7 (n2 - d) (c2 - d)) u := fun u => by
    rw [← hA7]; exact run_cut_bytes u A2 n2 c2 d hdn hn2
  have ht5 : Sl w5 w5.heap.size A2 n2 text := (H2.out.below hb05).more hb05.size
  have hk5 : Sl w5 w5.heap.size A1 n1 key := (H1.out.below hb05).more hb05.size
  have hp6 : Sl w5 w5.heap.size A6 d (text.take d) := by
    rw [← hA6]
    have h := ht5.drop (k := 0) (c := c2) (by omega) hn2
    rw [Nat.sub_zero, List.drop_zero] at h
    exact h.take hdn
  have hp7 : Sl w5 w5.heap.size A7 (n2 - d) (text.drop d) := by
    rw [← hA7]
    exact ht5.drop hdn hn2
  have hG5 := HG.out.below hb05
  have hC1 : ∀ (v : World) (g : Nat), Below w5.heap.size w5 v → v.heap[g]? = some (.cells #[.slice A6 d c2, .slice A7 (n2 - d) (c2 - d)] 22 (0, 0)) → Calls Tryd.prog 12 #[.slice A1 n1 c1, .slice (some ⟨g, 0, none⟩) 2 2] v fun e w' => e = .returned (.agg cs.toArray) ∧ Below w5.heap.size w5 w' ∧ w'.rangeAt ga 0 cs := fun v g hv hg => by
    have hgv := (Array.getElem?_eq_some_iff.1 hg).1
    have hj : joined [⟨A6, d, c2, text.take d⟩, ⟨A7, n2 - d, c2 - d, text.drop d⟩] = text := by simp [joined]
    refine (mac_any key [⟨A6, d, c2, text.take d⟩, ⟨A7, n2 - d, c2 - d, text.drop d⟩] A1 (some ⟨g, 0, none⟩) n1 c1 2 2 v.heap.size v (hG5.below hv) ((hk5.below hv).more hv.size)
      (slw_block (g := g) (ps := [⟨A6, d, c2, text.take d⟩, ⟨A7, n2 - d, c2 - d, text.drop d⟩]) (t := 22) (fr := (0, 0)) hg hgv (fun p hp => by
        simp only [List.mem_cons, List.not_mem_nil, or_false] at hp
        rcases hp with rfl | rfl
        · exact ⟨(hp6.below hv).more hv.size, by show d ≤ c2; omega, hc2⟩
        · exact ⟨(hp7.below hv).more hv.size, by show n2 - d ≤ c2 - d; omega, by show c2 - d ≤ maxLen; omega⟩)) (Nat.le_refl _) hn1 hc1 (by omega) (by omega) (by rw [hj, ht5.1]; omega)).mono ?_
    rintro e w' ⟨rfl, hb⟩
    rw [hj, HCs.out]
    have hb' := hv.trans (hb.mono hv.size)
    exact ⟨rfl, hb', hkeep _ hb'⟩
  have hC2 : ∀ (v : World) (g : Nat), Below w5.heap.size w5 v → v.heap[g]? = some (.cells #[.slice A4 N c4] 22 (0, 0)) → Calls Tryd.prog 12 #[.slice A1 n1 c1, .slice (some ⟨g, 0, none⟩) 1 1] v fun e w' => e = .returned (.agg ds.toArray) ∧ Below w5.heap.size w5 w' ∧ w'.rangeAt ga 0 cs := fun v g hv hg => by
    refine (mac_one key (text ++ [by_]) A1 A4 n1 c1 N c4 g w5.heap.size v (hG5.below hv) (hk5.below hv) (hsm5.below hv) hv.size hn1 hc1 hle4 hcm4 (by omega) (by omega) hg).mono ?_
    rintro e w' ⟨rfl, hb⟩
    rw [HDs.out]
    have hb' := hv.trans (hb.mono hv.size)
    exact ⟨rfl, hb', hkeep _ hb'⟩
  have hC3 : ∀ (v : World), Below w5.heap.size w5 v → Calls Tryd.prog 13 #[.slice A1 n1 c1, .slice A4 N c4] v fun e w' => e = .returned (.agg ds.toArray) ∧ Below w5.heap.size w5 w' ∧ w'.rangeAt ga 0 cs := fun v hv => by
    refine (rmac_any key (text ++ [by_]) A1 A4 n1 c1 N c4 w5.heap.size v (hk5.below hv) (hsm5.below hv) hv.size (by omega) (by omega)).mono ?_
    rintro e w' ⟨rfl, hb⟩
    rw [HDs.out]
    have hb' := hv.trans (hb.mono hv.size)
    exact ⟨rfl, hb', hkeep _ hb'⟩
  have hC4 : ∀ (v : World), Below w5.heap.size w5 v → Calls Tryd.prog 14 #[.slice none 0 0, .slice A2 n2 c2] v fun e w' => e = .returned (.agg fs.toArray) ∧ Below w5.heap.size w5 w' ∧ w'.rangeAt ga 0 cs := fun v hv => by
    refine (extract_any [] text none A2 0 0 n2 c2 w5.heap.size v (hG5.below hv) Sl.nil (ht5.below hv) hv.size (Nat.le_refl _) (by simp [maxLen]) hn2 hc2 (by omega) (by omega)).mono ?_
    rintro e w' ⟨rfl, hb⟩
    rw [HFs.out]
    have hb' := hv.trans (hb.mono hv.size)
    exact ⟨rfl, hb', hkeep _ hb'⟩
  have hC5 : ∀ (v : World), Below w5.heap.size w5 v → Calls Tryd.prog 14 #[.slice (some ⟨gz, 0, none⟩) 32 32, .slice A2 n2 c2] v fun e w' => e = .returned (.agg fs.toArray) ∧ Below w5.heap.size w5 w' ∧ w'.rangeAt ga 0 cs := fun v hv => by
    refine (extract_any (List.replicate 32 0) text (some ⟨gz, 0, none⟩) A2 32 32 n2 c2 w5.heap.size v (hG5.below hv) (hsz5.below hv) (ht5.below hv) hv.size (Nat.le_refl _) (by simp [maxLen]) hn2 hc2 (by omega) (by omega)).mono ?_
    rintro e w' ⟨rfl, hb⟩
    rw [HK.out, HFs.out]
    have hb' := hv.trans (hb.mono hv.size)
    exact ⟨rfl, hb', hkeep _ hb'⟩
  have hC6 : ∀ (v : World), Below w5.heap.size w5 v → Calls Tryd.prog 14 #[.slice A1 n1 c1, .slice A2 n2 c2] v fun e w' => e = .returned (.agg cs.toArray) ∧ Below w5.heap.size w5 w' ∧ w'.rangeAt ga 0 cs := fun v hv => by
    refine (extract_any key text A1 A2 n1 c1 n2 c2 w5.heap.size v (hG5.below hv) (hk5.below hv) (ht5.below hv) hv.size hn1 hc1 hn2 hc2 (by omega) (by omega)).mono ?_
    rintro e w' ⟨rfl, hb⟩
    rw [HCs.out]
    have hb' := hv.trans (hb.mono hv.size)
    exact ⟨rfl, hb', hkeep _ hb'⟩
  have hC7 : ∀ (v : World), Below w5.heap.size w5 v → Calls Tryd.prog 19 #[.slice A2 n2 c2, .slice A4 N c4] v fun e w' => e = .returned (.bool false) ∧ Below w5.heap.size w5 w' ∧ w'.rangeAt ga 0 cs := fun v hv => by
    refine (equal_any text (text ++ [by_]) A2 A4 n2 N c2 c4 w5.heap.size w5.heap.size v (ht5.below hv) (hsm5.below hv) (by simp [maxLen]; omega)).mono ?_
    rintro e w' ⟨rfl, k, rfl⟩
    have hb' := below_drewN hv k
    exact ⟨by simp, hb', hkeep _ hb'⟩
  have hC8 : ∀ (v : World), Below w5.heap.size w5 v → Calls Tryd.prog 8 #[] v fun e w' => e = .returned (.bool true) ∧ Below w.heap.size w w' ∧ w'.rangeAt ga 0 cs := fun v hv => by
    refine (awake_any v (hG5.below hv)).mono ?_
    rintro e w' ⟨rfl, hb⟩
    have hb' := hv.trans (hb.mono hv.size)
    exact ⟨rfl, hb05.trans (hb'.mono hb05.size), hkeep _ hb'⟩
  have hEq1 := HEq1.out
  have hEq2 := HEq2.out
  have hEq3 := HEq3.out
  have hi32 : (Tryd.prog.info? 27).map (·.size) = some cs.length := by rw [size32, HCl.out]
  have HC1 := Lib.hid hC1
  have HC2 := Lib.hid hC2
  have HC3 := Lib.hid hC3
  have HC4 := Lib.hid hC4
  have HC5 := Lib.hid hC5
  have HC6 := Lib.hid hC6
  have HC7 := Lib.hid hC7
  have HC8 := Lib.hid hC8
  have HG5 := Lib.hid hG5
  clear hC1 hC2 hC3 hC4 hC5 hC6 hC7 hC8 hkeep hsm5 hsz5 hp6 hp7 ht5 hk5 hga5 hgz5 hb45 hb25 hb05 K2 HO2 HO3 HO4 hbr HB1 HB2 HB3 HB4 HK hG5 hA6 hA7 hw5
  have hS : w5.drew.rangeAt ga 0 cs := hR5
  have HH0 : Hid (∀ o, Below w5.heap.size w5 ((w5.alloc o).drew)) := fun o => ((Below.refl _ _).alloc (Nat.le_refl _) _).drew
  have HH1 : Hid (∀ o, ((w5.alloc o).drew).heap[w5.heap.size]? = some o) := fun o => heap_alloc_new _ _
  refine wp_held (S := fun u => u.rangeAt ga 0 cs) (by kernel_rfl) ?_
  refine wpAnyH_take (i := 0) (v := ?_) rfl (by kernel_rfl) (by kernel_rfl) (by kernel_rfl) (fun _ _ _ h => h) (Or.inl ⟨by rfl, ?_⟩) hS ?_
  rotate_left 1
  · intro u hu
    go_simp
    first | done | with_reducible rfl
  go_simp
  refine wpAnyH_take (i := 1) (v := ?_) rfl (by kernel_rfl) (by kernel_rfl) (by kernel_rfl) (fun _ _ _ h => h) (Or.inl ⟨by rfl, ?_⟩) hS ?_
  rotate_left 1
  · intro u hu
    go_simp
    first | done | with_reducible rfl
  go_simp
  refine wpAnyH_take (i := 2) (v := ?_) rfl (by kernel_rfl) (by kernel_rfl) (by kernel_rfl) (fun _ _ _ h => h) (Or.inl ⟨by rfl, ?_⟩) hS ?_
  rotate_left 1
  · intro u hu
    go_simp
    first | done | with_reducible rfl
  go_simp
  refine wpAnyH_take (i := 3) (v := ?_) rfl (by kernel_rfl) (by kernel_rfl) (by kernel_rfl) (fun _ _ _ h => h) (Or.inl ⟨by rfl, ?_⟩) hS ?_
  rotate_left 1
  · intro u hu
    go_simp
    first | done | with_reducible rfl
  go_simp
  refine wpAnyH_take (i := 4) (v := ?_) rfl (by kernel_rfl) (by kernel_rfl) (by kernel_rfl) (fun _ _ _ h => h) (Or.inl ⟨by rfl, ?_⟩) hS ?_
  rotate_left 1
  · intro u hu
    go_simp
    first | done | with_reducible rfl
  go_simp
  refine wpAnyH_take (i := 5) (v := ?_) rfl (by kernel_rfl) (by kernel_rfl) (by kernel_rfl) (fun _ _ _ h => h) (Or.inl ⟨by rfl, ?_⟩) hS ?_
  rotate_left 1
  · intro u hu
    go_simp
    first | done | with_reducible rfl
  go_simp
  refine wpAnyH_take (i := 6) (v := ?_) rfl (by kernel_rfl) (by kernel_rfl) (by kernel_rfl) (fun _ _ _ h => h) (Or.inl ⟨by rfl, ?_⟩) hS ?_
  rotate_left 1
  · intro u hu
    go_simp
    first | done | with_reducible rfl
  go_simp
  refine wpAnyH_pickG 9 (.agg cs.toArray) rfl (by kernel_rfl) (by kernel_rfl) (by kernel_rfl) (by rfl) (fun _ _ _ h => h) (fun u hu => exec_load_mid u 27 (.tmp 9) rfl ga 0 (by with_unfolding_all rfl) cs _ hu Tryd.underlying27 rfl hi32) hS ?_
  go_simp
  refine wpAnyH_oneG 7 (by kernel_rfl) rfl (by rfl) ?_
  go_simp
  refine ⟨range_alloc hS _, ?_⟩
  replace hS := range_alloc hS (.cells #[.slice A6 d c2, .slice A7 (n2 - d) (c2 - d)] 22)
  refine wpAnyH_oneG 8 (by kernel_rfl) rfl (by rfl) ?_
  go_wp2_with fail
  (with_reducible refine (HC1.out _ _ ?b6 ?h6).mono ?_)
  case b6 => exact HH0.out _
  case h6 => exact HH1.out _
  rintro e6 w6 ⟨rfl, hb6, hr6⟩
  refine ⟨hr6, ?_⟩
  clear hS
  have hS := hr6
  go_simp
  refine wpAnyH_take (i := 10) (v := ?_) rfl (by kernel_rfl) (by kernel_rfl) (by kernel_rfl) (fun _ _ _ h => h) (Or.inl ⟨by rfl, ?_⟩) hS ?_
  rotate_left 1
  · intro u hu
    go_simp
    first | done | with_reducible rfl
  go_simp
  refine wpAnyH_take (i := 11) (v := ?_) rfl (by kernel_rfl) (by kernel_rfl) (by kernel_rfl) (fun _ _ _ h => h) (Or.inl ⟨by rfl, ?_⟩) hS ?_
  rotate_left 1
  · intro u hu
    go_simp
    first | done | with_reducible rfl
  go_simp
  refine wpAnyH_take (i := 12) (v := ?_) rfl (by kernel_rfl) (by kernel_rfl) (by kernel_rfl) (fun _ _ _ h => h) (Or.inl ⟨by rfl, ?_⟩) hS ?_
  rotate_left 1
  · intro u hu
    go_simp
    first | done | with_reducible rfl
  go_simp
  refine wpAnyH_take (i := 13) (v := ?_) rfl (by kernel_rfl) (by kernel_rfl) (by kernel_rfl) (fun _ _ _ h => h) (Or.inl ⟨by rfl, ?_⟩) hS ?_
  rotate_left 1
  · intro u hu
    go_simp
    first | done | with_reducible rfl
  go_simp
  refine wpAnyH_take (i := 16) (v := ?_) rfl (by kernel_rfl) (by kernel_rfl) (by kernel_rfl) (fun _ _ _ h => h) (Or.inl ⟨by rfl, ?_⟩) hS ?_
  rotate_left 1
  · intro u hu
    go_simp
    first | done | with_reducible rfl
  go_simp
  refine wpAnyH_take (i := 17) (v := ?_) rfl (by kernel_rfl) (by kernel_rfl) (by kernel_rfl) (fun _ _ _ h => h) (Or.inl ⟨by rfl, ?_⟩) hS ?_
  rotate_left 1
  · intro u hu
    go_simp
    first | done | with_reducible rfl
  go_simp
  refine wpAnyH_oneG 14 (by kernel_rfl) rfl (by rfl) ?_
  go_simp
  refine ⟨range_alloc hS _, ?_⟩
  replace hS := range_alloc hS (.cells #[.slice A4 N c4] 22)
  refine wpAnyH_oneG 15 (by kernel_rfl) rfl (by rfl) ?_
  go_wp2_with fail
  (with_reducible refine (HC2.out _ _ ?b7 ?h7).mono ?_)
  case b7 => exact hb6.alloc hb6.size _
  case h7 => exact heap_alloc_new _ _
  rintro e7 w7 ⟨rfl, hb7, hr7⟩
  refine ⟨hr7, ?_⟩
  clear hS
  have hS := hr7
  go_simp
  refine wpAnyH_oneG 18 (by kernel_rfl) rfl (by rfl) ?_
  go_wp2_with fail
  (with_reducible refine (HC3.out _ hb7).mono ?_)
  rintro e8 w8 ⟨rfl, hb8, hr8⟩
  refine ⟨hr8, ?_⟩
  clear hS
  have hS := hr8
  go_simp
  refine wpAnyH_take (i := 19) (v := ?_) rfl (by kernel_rfl) (by kernel_rfl) (by kernel_rfl) (fun _ _ _ h => h) (Or.inl ⟨by rfl, ?_⟩) hS ?_
  rotate_left 1
  · intro u hu
    go_simp
    first | done | with_reducible rfl
  go_simp
  refine wpAnyH_take (i := 20) (v := ?_) rfl (by kernel_rfl) (by kernel_rfl) (by kernel_rfl) (fun _ _ _ h => h) (Or.inl ⟨by rfl, ?_⟩) hS ?_
  rotate_left 1
  · intro u hu
    go_simp
    first | done | with_reducible rfl
  go_simp
  refine wpAnyH_take (i := 21) (v := ?_) rfl (by kernel_rfl) (by kernel_rfl) (by kernel_rfl) (fun _ _ _ h => h) (Or.inl ⟨by rfl, ?_⟩) hS ?_
  rotate_left 1
  · intro u hu
    go_simp
    first | done | with_reducible rfl
  go_simp
  refine wpAnyH_take (i := 22) (v := ?_) rfl (by kernel_rfl) (by kernel_rfl) (by kernel_rfl) (fun _ _ _ h => h) (Or.inl ⟨by rfl, ?_⟩) hS ?_
  rotate_left 1
  · intro u hu
    go_simp
    first | done | with_reducible rfl
  go_simp
  refine wpAnyH_take (i := 24) (v := ?_) rfl (by kernel_rfl) (by kernel_rfl) (by kernel_rfl) (fun _ _ _ h => h) (Or.inl ⟨by rfl, ?_⟩) hS ?_
  rotate_left 1
  · intro u hu
    go_simp
    first | done | with_reducible rfl
  go_simp
  refine wpAnyH_take (i := 25) (v := ?_) rfl (by kernel_rfl) (by kernel_rfl) (by kernel_rfl) (fun _ _ _ h => h) (Or.inl ⟨by rfl, ?_⟩) hS ?_
  rotate_left 1
  · intro u hu
    go_simp
    first | done | with_reducible rfl
  go_simp
  refine wpAnyH_oneG 23 (by kernel_rfl) rfl (by rfl) ?_
  go_wp2_with fail
  (with_reducible refine (HC4.out _ hb8).mono ?_)
  rintro e9 w9 ⟨rfl, hb9, hr9⟩
  refine ⟨hr9, ?_⟩
  clear hS
  have hS := hr9
  go_simp
  refine wpAnyH_oneG 26 (by kernel_rfl) rfl (by rfl) ?_
  go_wp2_with fail
  (with_reducible refine (HC5.out _ hb9).mono ?_)
  rintro ea wa ⟨rfl, hba, hra⟩
  refine ⟨hra, ?_⟩
  clear hS
  have hS := hra
  go_simp
  refine wpAnyH_take (i := 27) (v := ?_) rfl (by kernel_rfl) (by kernel_rfl) (by kernel_rfl) (fun _ _ _ h => h) (Or.inl ⟨by rfl, ?_⟩) hS ?_
  rotate_left 1
  · intro u hu
    go_simp
    first | done | with_reducible rfl
  go_simp
  refine wpAnyH_take (i := 28) (v := ?_) rfl (by kernel_rfl) (by kernel_rfl) (by kernel_rfl) (fun _ _ _ h => h) (Or.inl ⟨by rfl, ?_⟩) hS ?_
  rotate_left 1
  · intro u hu
    go_simp
    first | done | with_reducible rfl
  go_simp
  refine wpAnyH_take (i := 29) (v := ?_) rfl (by kernel_rfl) (by kernel_rfl) (by kernel_rfl) (fun _ _ _ h => h) (Or.inl ⟨by rfl, ?_⟩) hS ?_
  rotate_left 1
  · intro u hu
    go_simp
    first | done | with_reducible rfl
  go_simp
  refine wpAnyH_take (i := 30) (v := ?_) rfl (by kernel_rfl) (by kernel_rfl) (by kernel_rfl) (fun _ _ _ h => h) (Or.inl ⟨by rfl, ?_⟩) hS ?_
  rotate_left 1
  · intro u hu
    go_simp
    first | done | with_reducible rfl
  go_simp
  refine wpAnyH_take (i := 31) (v := ?_) rfl (by kernel_rfl) (by kernel_rfl) (by kernel_rfl) (fun _ _ _ h => h) (Or.inl ⟨by rfl, ?_⟩) hS ?_
  rotate_left 1
  · intro u hu
    go_simp
    first | done | with_reducible rfl
  go_simp
  refine wpAnyH_pickG 33 (.agg cs.toArray) rfl (by kernel_rfl) (by kernel_rfl) (by kernel_rfl) (by rfl) (fun _ _ _ h => h) (fun u hu => exec_load_mid u 27 (.tmp 9) rfl ga 0 (by with_unfolding_all rfl) cs _ hu Tryd.underlying27 rfl hi32) hS ?_
  go_simp
  refine wpAnyH_oneG 32 (by kernel_rfl) rfl (by rfl) ?_
  go_wp2_with fail
  (with_reducible refine (HC6.out _ hba).mono ?_)
  rintro eb wb ⟨rfl, hbb, hrb⟩
  refine ⟨hrb, ?_⟩
  clear hS
  have hS := hrb
  go_simp
  refine wpAnyH_take (i := 34) (v := ?_) rfl (by kernel_rfl) (by kernel_rfl) (by kernel_rfl) (fun _ _ _ h => h) (Or.inl ⟨by rfl, ?_⟩) hS ?_
  rotate_left 1
  · intro u hu
    go_simp
    first | done | with_reducible rfl
  go_simp
  refine wpAnyH_take (i := 35) (v := ?_) rfl (by kernel_rfl) (by kernel_rfl) (by kernel_rfl) (fun _ _ _ h => h) (Or.inl ⟨by rfl, ?_⟩) hS ?_
  rotate_left 1
  · intro u hu
    go_simp
    first | done | with_reducible rfl
  go_simp
  refine wpAnyH_take (i := 36) (v := ?_) rfl (by kernel_rfl) (by kernel_rfl) (by kernel_rfl) (fun _ _ _ h => h) (Or.inl ⟨by rfl, ?_⟩) hS ?_
  rotate_left 1
  · intro u hu
    go_simp
    first | done | with_reducible rfl
  go_simp
  refine wpAnyH_take (i := 37) (v := ?_) rfl (by kernel_rfl) (by kernel_rfl) (by kernel_rfl) (fun _ _ _ h => h) (Or.inl ⟨by rfl, ?_⟩) hS ?_
  rotate_left 1
  · intro u hu
    go_simp
    first | done | with_reducible rfl
  go_simp
  refine wpAnyH_take (i := 38) (v := ?_) rfl (by kernel_rfl) (by kernel_rfl) (by kernel_rfl) (fun _ _ _ h => h) (Or.inl ⟨by rfl, ?_⟩) hS ?_
  rotate_left 1
  · intro u hu
    go_simp
    first | done | with_reducible rfl
  go_simp
  refine wpAnyH_oneG 39 (by kernel_rfl) rfl (by rfl) ?_
  go_wp2_with fail
  (with_reducible refine (HC7.out _ hbb).mono ?_)
  rintro ec wc ⟨rfl, hbc, hrc⟩
  refine ⟨hrc, ?_⟩
  clear hS
  have hS := hrc
  go_simp
  refine wpAnyH_take (i := 40) (v := ?_) rfl (by kernel_rfl) (by kernel_rfl) (by kernel_rfl) (fun _ _ _ h => h) (Or.inl ⟨by rfl, ?_⟩) hS ?_
  rotate_left 1
  · intro u hu
    go_simp
    first | done | with_reducible rfl
  go_simp
  refine wpAnyH_take (i := 41) (v := ?_) rfl (by kernel_rfl) (by kernel_rfl) (by kernel_rfl) (fun _ _ _ h => h) (Or.inl ⟨by rfl, ?_⟩) hS ?_
  rotate_left 1
  · intro u hu
    go_simp
    first | done | with_reducible rfl
  go_simp
  refine wpAnyH_take (i := 42) (v := ?_) rfl (by kernel_rfl) (by kernel_rfl) (by kernel_rfl) (fun _ _ _ h => h) (Or.inl ⟨by rfl, ?_⟩) hS ?_
  rotate_left 1
  · intro u hu
    go_simp
    first | done | with_reducible rfl
  go_simp
  refine wpAnyH_oneG 43 (by kernel_rfl) rfl (by rfl) ?_
  go_wp2_with fail
  (with_reducible refine (HC8.out _ hbc).mono ?_)
  rintro ed wd ⟨rfl, hbd, hrd⟩
  refine ⟨hrd, ?_⟩
  clear hS
  have hS := hrd
  go_simp
  refine wpAnyH_take (i := 44) (v := ?_) rfl (by kernel_rfl) (by kernel_rfl) (by kernel_rfl) (fun _ _ _ h => h) (Or.inl ⟨by rfl, ?_⟩) hS ?_
  rotate_left 1
  · intro u hu
    go_simp
    first | done | with_reducible rfl
  go_simp
  refine wpAnyH_take (i := 45) (v := ?_) rfl (by kernel_rfl) (by kernel_rfl) (by kernel_rfl) (fun _ _ _ h => h) (Or.inl ⟨by rfl, ?_⟩) hS ?_
  rotate_left 1
  · intro u hu
    go_simp
    first | done | with_reducible rfl
  go_simp
  refine wpAnyH_done (by kernel_rfl) ?_ _
  go_simp
  go_wp2
  go_ret
  exact ⟨rfl, hbd⟩
end Go.Proofs.YtnjdloocalfkmaaDoor
