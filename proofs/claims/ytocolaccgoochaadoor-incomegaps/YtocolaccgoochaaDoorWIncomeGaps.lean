/-
  The law IncomeGaps: what came behind a gap is not readable till the gap is filled. (Two regions were written by program.)
-/
import Derived.Test.YtocolaccgoochaaDoorInI
import Derived.Test.YtocolaccgoochaaDoorLow
import Derived.Test.YtocolaccgoochaaDoorGrowW
namespace Go.Proofs.YtocolaccgoochaaDoor
open Go.RowKit Go.Lib
set_option linter.unusedVariables false

/-- D came up to x and from y on, and the end; nothing is read -/
structure Gap (D : List UInt8) (x y : Nat) (s : InS) : Prop where
  c : Cons D s
  rd : s.rd = 0
  en : s.en = some D.length
  lo : ∀ i, i < x → s.p i ≠ none
  hi : ∀ i, i < D.length → y ≤ i → s.p i ≠ none
  no : ∀ i, x ≤ i → i < y → s.p i = none
theorem gap_one {D : List UInt8} {x : Nat} (hx : x ≤ D.length) : ¬ clashV InS.new 0 (D.take x) false ∧ Cons D (putS InS.new 0 (D.take x) false) :=
  cons_put (d := D.take x) (o := 0) (e := false) (cons_new D) (fun k hk => by
    have h1 : k < x := by simp at hk; omega
    simp [List.getD_eq_getElem?_getD, h1]) (by simp; omega) (fun h => by cases h)
theorem gap_two {D : List UInt8} {x y : Nat} (hxy : x ≤ y) (hy : y ≤ D.length) : ¬ clashV (putS InS.new 0 (D.take x) false) y (D.drop y) true ∧ Gap D x y (putS (putS InS.new 0 (D.take x) false) y (D.drop y) true) := by
  obtain ⟨h1, h2⟩ := cons_put (d := D.drop y) (o := y) (e := true) (gap_one (D := D) (x := x) (by omega)).2 (fun k hk => by
    simp [List.getD_eq_getElem?_getD]) (by simp; omega) (fun _ => by simp; omega)
  have hp : ∀ i, (putS (putS InS.new 0 (D.take x) false) y (D.drop y) true).p i = if y ≤ i ∧ i < y + (D.drop y).length then some ((D.drop y).getD (i - y) 0) else if 0 ≤ i ∧ i < 0 + (D.take x).length then some ((D.take x).getD (i - 0) 0) else none := fun i => rfl
  refine ⟨h1, h2, rfl, ?_, fun i hi => ?_, fun i hi hyi => ?_, fun i hi hyi => ?_⟩
  · rw [put_en, if_pos rfl]
    congr 1
    simp
    omega
  · rw [hp]
    by_cases c : y ≤ i ∧ i < y + (D.drop y).length
    · rw [if_pos c]
      simp
    · rw [if_neg c, if_pos ⟨by omega, by simp; omega⟩]
      simp
  · rw [hp, if_pos ⟨hyi, by simp; omega⟩]
    simp
  · rw [hp, if_neg (by omega), if_neg (by simp; omega)]
theorem Gap.front {D : List UInt8} {x y most : Nat} {s : InS} (h : Gap D x y s) (hok : s.Ok most) (hxy : x < y) : frontV s = x := front_is hok h.lo (h.no x (Nat.le_refl _) hxy)
theorem Gap.ge {D : List UInt8} {x y most : Nat} {s : InS} (h : Gap D x y s) (hok : s.Ok most) (hxy : x ≤ y) : x ≤ frontV s := by
  obtain ⟨t, e, h1, h2, h3, h4⟩ := front_ex hok
  rw [e]
  refine Classical.byContradiction fun hh => ?_
  exact h.lo t (by omega) h4
theorem Gap.readN {D : List UInt8} {x y most : Nat} {s : InS} (h : Gap D x y s) (hok : s.Ok most) (hxy : x ≤ y) : readN s (x : Int) = x := by
  have := h.ge hok hxy
  unfold Go.Proofs.YtocolaccgoochaaDoor.readN readableV
  rw [h.rd]
  omega
theorem Gap.bytes {D : List UInt8} {x y most : Nat} {s : InS} (h : Gap D x y s) (hok : s.Ok most) (hxy : x ≤ y) : bytesV s x = D.take x := by
  have := h.ge hok hxy
  rw [bytes_of_cons hok h.c (by rw [h.rd]; omega), h.rd, List.drop_zero]
theorem Gap.fill {D : List UInt8} {x y most : Nat} {s : InS} (h : Gap D x y s) (hok : s.Ok most) (hxy : x ≤ y) (hy : y ≤ D.length) :
    ¬ clashV (readS s (x : Int)) x ((D.drop x).take (y - x)) false ∧ Full D (putS (readS s (x : Int)) x ((D.drop x).take (y - x)) false) ∧ (putS (readS s (x : Int)) x ((D.drop x).take (y - x)) false).rd = x := by
  have hl : ((D.drop x).take (y - x)).length = y - x := by simp; omega
  obtain ⟨h1, h2⟩ := cons_put (d := (D.drop x).take (y - x)) (o := x) (e := false) (cons_read h.c (x : Int)) (fun k hk => by
    rw [hl] at hk
    have h1 : x + k < D.length := by omega
    simp [List.getD_eq_getElem?_getD, hk, h1]) (by omega) (fun h => by cases h)
  refine ⟨h1, ⟨h2, fun i hi => put_has ?_, ?_⟩, ?_⟩
  · by_cases c1 : i < x
    · exact .inl (h.lo i c1)
    · by_cases c2 : y ≤ i
      · exact .inl (h.hi i hi c2)
      · exact .inr ⟨by omega, by omega⟩
  · rw [put_en]
    exact h.en
  · show s.rd + Go.Proofs.YtocolaccgoochaaDoor.readN s (x : Int) = x
    rw [h.readN hok hxy, h.rd]
    omega
set_option maxRecDepth 8000 in
set_option maxHeartbeats 8000000 in
theorem gaps_any (a0 a1 a2 : Int) (w : World) (hG : Glob w) : Calls Tryd.prog 5 #[.int .i64 a0, .int .i64 a1, .int .i64 a2] w fun e w' => e = .returned (.bool true) ∧ Below w.heap.size w w' := by
  obtain ⟨y0, hy00, hy01, HL0⟩ := low_int a0 99 (by omega) (by omega)
  obtain ⟨m0, rfl⟩ : ∃ x : Nat, y0 = (x : Int) := ⟨y0.toNat, by omega⟩
  obtain ⟨M, hM⟩ : ∃ M, 2 + m0 = M := ⟨_, rfl⟩
  have eM : (2 : Int) + (m0 : Int) = (M : Int) := by omega
  have hMb : (M : Int) ≤ 100 := by omega
  have hM2 : 2 ≤ M := by omega
  obtain ⟨l1, hl1, HL1⟩ := low_nat a1 M (by omega) (by omega)
  obtain ⟨l2, hl2, HL2⟩ := low_nat a2 M (by omega) (by omega)
  obtain ⟨x, hx⟩ : ∃ x, min l1 l2 = x := ⟨_, rfl⟩
  obtain ⟨y, hy⟩ : ∃ y, max l1 l2 = y := ⟨_, rfl⟩
  have ex : min (l1 : Int) (l2 : Int) = (x : Int) := by omega
  have ey : max (l1 : Int) (l2 : Int) = (y : Int) := by omega
  have hxy : x ≤ y := by omega
  have hyM : y < M := by omega
  have hyb : (y : Int) < (M : Int) := by omega
  have hxb : (x : Int) ≤ (y : Int) := by omega
  have hx100 : (x : Int) ≤ 100 := by omega
  have hy100 : (y : Int) ≤ 100 := by omega
  obtain ⟨M1, hM1⟩ : ∃ M1, M - 1 = M1 := ⟨_, rfl⟩
  have eM1 : (M : Int) - 1 = (M1 : Int) := by omega
  have hM1b : (M1 : Int) ≤ 100 := by omega
  have HGr : Hid (Calls Tryd.prog 27 #[.int .i64 (M : Int), .int .i64 5] w (MakesBytes w M (growL M 5))) := grow_bytes M 5 (by omega) (by omega) w
  obtain ⟨D, hD⟩ : ∃ D, growL M 5 = D := ⟨_, rfl⟩
  have HDL : Hid (D.length = M) := by rw [← hD]; exact growL_length M 5
  rw [hD] at HGr
  have HZ0 := Lib.hid HL0
  have HZ1 := Lib.hid HL1
  have HZ2 := Lib.hid HL2
  have HGl := Lib.hid hG
  have HM1 := Lib.hid hM1
  clear hG HL0 HL1 HL2 hy00 hy01 hM hl1 hl2 hx hy hM1 hD
  go_enter Tryd.func5, Tryd.ntmps5
  go_wp2_with fail
  (with_reducible refine (HZ0.out _).mono ?_)
  rintro e1 w1 ⟨rfl, rfl⟩
  go_wp2_with fail
  (with_reducible refine (HGr.out).mono ?_)
  rintro e2 w2 ⟨A2, cd, rfl, ho2, hc2, hcm2, hb2⟩
  obtain ⟨gd, rfl, hgd1, hgd2⟩ := ho2.at_ (by omega)
  have HN := Lib.hid (rn_new (HGl.out.below hb2 HGl.out.pos) hb2 HGl.out.pos (z := (M : Int)) M rfl (by omega))
  have HO2 := Lib.hid ho2
  have HCD : Hid (M ≤ cd) := hc2
  have HGD : Hid (gd < w2.heap.size) := hgd2
  clear ho2 hc2 hcm2 hb2 hgd1 hgd2
  go_wp2_with fail
  (with_reducible refine (HN.out).mono ?_)
  rintro e3 w3 ⟨F3, g, rfl, R3, hb3, hF3⟩
  have HR3 := Lib.hid R3
  have HD3 : Hid (Sl w3 w3.heap.size (some ⟨gd, 0, none⟩) M D) := (HO2.out.below hb3).sl
  have HN3 : Hid (¬ F3 gd) := fun hf => by have := hF3 gd hf; have := HGD.out; omega
  clear R3 hb3 hF3 HN
  have hcx : ∀ u : World, (Instr.slice 30 (.slice (some ⟨gd, 0, none⟩) M cd) none (some (.int .i64 (x : Int))) none).run Tryd.prog u = .ok (.slice (some ⟨gd, 0, none⟩) x cd) u := fun u => by
    have h := run_cut_to u (some ⟨gd, 0, none⟩) M cd x (by have := HCD.out; omega)
    rw [h, if_neg (by have := HCD.out; omega)]
    simp [addr_add]
  have hcm1 : ∀ u : World, (Instr.slice 30 (.slice (some ⟨gd, 0, none⟩) M cd) none (some (.int .i64 (M1 : Int))) none).run Tryd.prog u = .ok (.slice (some ⟨gd, 0, none⟩) M1 cd) u := fun u => by
    have h := run_cut_to u (some ⟨gd, 0, none⟩) M cd M1 (by have := HCD.out; have := HM1.out; omega)
    rw [h, if_neg (by have := HCD.out; omega)]
    simp [addr_add]
  have hcy : ∀ u : World, (Instr.slice 30 (.slice (some ⟨gd, 0, none⟩) M cd) (some (.int .i64 (y : Int))) none none).run Tryd.prog u = .ok (.slice (some ⟨gd, y, none⟩) (M - y) (cd - y)) u := fun u => by
    have h := run_cut_bytes u (some ⟨gd, 0, none⟩) M cd y (by omega) HCD.out
    rw [h, if_neg (by have := HCD.out; omega)]
    simp [addr_add]
  have hcX : ∀ u : World, (Instr.slice 30 (.slice (some ⟨gd, 0, none⟩) M cd) (some (.int .i64 (x : Int))) none none).run Tryd.prog u = .ok (.slice (some ⟨gd, x, none⟩) (M - x) (cd - x)) u := fun u => by
    have h := run_cut_bytes u (some ⟨gd, 0, none⟩) M cd x (by omega) HCD.out
    rw [h, if_neg (by have := HCD.out; omega)]
    simp [addr_add]
  have hdr : ∀ (z : Nat) (u : World) (B : Nat) (l : List UInt8), z < M → Sl u B (some ⟨gd, 0, none⟩) M l → Sl u B (some ⟨gd, z, none⟩) (M - z) (l.drop z) := fun z u B l hz hs => by
    have h1 := hs.drop (k := z) (c := cd) (by omega) HCD.out
    rw [if_neg (by have := HCD.out; omega)] at h1
    simpa [addr_add] using h1
  obtain ⟨AX, hAX⟩ : ∃ AX : Option Addr, some ⟨gd, x, none⟩ = AX := ⟨_, rfl⟩
  have HSX : Hid (∀ (u : World) (B : Nat) (l : List UInt8), Sl u B (some ⟨gd, 0, none⟩) M l → Sl u B AX (M - x) (l.drop x)) := fun u B l hs => by rw [← hAX]; exact hdr x u B l (by omega) hs
  rw [hAX] at hcX
  clear hAX
  obtain ⟨AP, hpsl, hpx, hpb⟩ := sl_piece_at (some ⟨gd, 0, none⟩) (a := x) (b := y) (n := M) (c := cd) hxy (by omega) HCD.out
  obtain ⟨dd, hdd⟩ : ∃ dd, y - x = dd := ⟨_, rfl⟩
  rw [hdd] at hpsl
  simp only [hdd] at hpx
  have HDD := Lib.hid hdd
  have HPC := Lib.hid hpx
  have HPB := Lib.hid hpb
  have HDR := Lib.hid hdr
  clear hdr hpx hpb hdd
  have hg1 := gap_one (D := D) (x := x) (by rw [HDL.out]; omega)
  have HP3 := Lib.hid (rn_put_ok HR3.out (off := 0) (c := cd) (e := false) 0 rfl (HD3.out.take (k := x) (by omega)) (fun _ a ha => by cases ha; exact HN3.out) (by have := HCD.out; omega) (by omega) (by omega) (by simp; have := HDL.out; omega) hg1.1)
  clear hg1
  go_wp2_with fail
  (with_reducible refine (HZ1.out _).mono ?_)
  rintro e4 w4 ⟨rfl, rfl⟩
  go_wp2_with fail
  (with_reducible refine (HZ2.out _).mono ?_)
  rintro e5 w5 ⟨rfl, rfl⟩
  go_wp2_with fail
  (with_reducible refine (HZ1.out _).mono ?_)
  rintro e6 w6 ⟨rfl, rfl⟩
  go_wp2_with fail
  (with_reducible refine (HZ2.out _).mono ?_)
  rintro e7 w7 ⟨rfl, rfl⟩
  go_wp2_with fail
  (with_reducible refine (HP3.out).mono ?_)
  rintro e8 w8 ⟨F8, rfl, R8, A8⟩
  have HD8 : Hid (Sl w8 w8.heap.size (some ⟨gd, 0, none⟩) M D) := A8.sl HD3.out (fun _ a ha => by cases ha; exact HN3.out)
  have HN8 : Hid (¬ F8 gd) := A8.off (by
    obtain ⟨b, off, e, hb, _⟩ := HD3.out.2 (by omega)
    cases e
    exact hb) HN3.out
  have hg2 := gap_two (D := D) (x := x) (y := y) hxy (by rw [HDL.out]; omega)
  have HP8 := Lib.hid (rn_put_ok R8 (off := (y : Int)) (c := cd - y) (e := true) y rfl (HDR.out y _ _ _ hyM HD8.out) (fun _ a ha => by cases ha; exact HN8.out) (by have := HCD.out; omega) (by omega) (by omega) (by simp; have := HDL.out; omega) hg2.1)
  obtain ⟨s2, hs2⟩ : ∃ s2, putS (putS InS.new 0 (D.take x) false) y (D.drop y) true = s2 := ⟨_, rfl⟩
  rw [hs2] at HP8 hg2
  have GP := Lib.hid hg2.2
  clear R8 A8 hg2 hs2 HP3
  go_wp2_with fail
  (with_reducible refine (HP8.out).mono ?_)
  rintro e9 w9 ⟨F9, rfl, R9, A9⟩
  have HD9 : Hid (Sl w9 w9.heap.size (some ⟨gd, 0, none⟩) M D) := A9.sl HD8.out (fun _ a ha => by cases ha; exact HN8.out)
  have HN9 : Hid (¬ F9 gd) := A9.off (by
    obtain ⟨b, off, e, hb, _⟩ := HD8.out.2 (by omega)
    cases e
    exact hb) HN8.out
  have HR9 := Lib.hid R9
  clear R9 A9 HP8
  rcases Nat.lt_or_ge x y with hlt | hge
  · have hltI : (x : Int) < (y : Int) := by omega
    have hrv := readable_any HR9.out.i
    have hvx : readableV s2 = x := by unfold readableV; rw [GP.out.front HR9.out.ok hlt, GP.out.rd]; omega
    rw [hvx] at hrv
    have HRv := Lib.hid hrv
    have hwv : wholeV s2 = false := by
      unfold wholeV
      rw [GP.out.front HR9.out.ok hlt, GP.out.en, HDL.out]
      simp
      omega
    clear hrv hvx
    go_wp2_with fail
    (with_reducible refine (HRv.out).mono ?_)
    rintro e21 w21 ⟨rfl, k21, rfl⟩
    have hw := whole_any (HR9.out.drewN k21).i
    rw [hwv] at hw
    have HW := Lib.hid hw
    clear hw hwv
    go_wp2_with fail
    (with_reducible refine (HW.out).mono ?_)
    rintro e22 w22 ⟨rfl, k22, rfl⟩
    have hh := highest_any (HR9.out.drewN (k21 + k22)).i
    rw [high_en HR9.out.ok GP.out.en, HDL.out] at hh
    have HHi := Lib.hid hh
    clear hh
    go_wp2_with fail
    (with_reducible refine (HHi.out).mono ?_)
    rintro e23 w23 ⟨rfl, k23, rfl⟩
    obtain ⟨w9b, hw9b⟩ : ∃ w9b, (w9.drewN (k21 + k22)).drewN k23 = w9b := ⟨_, rfl⟩
    rw [hw9b]
    have R9b : Rn w w9b F9 g M (0 + x + (M - y)) s2 := by rw [← hw9b]; exact (HR9.out.drewN (k21 + k22)).drewN k23
    have HR9b := Lib.hid R9b
    have HD9b : Hid (Sl w9b w9b.heap.size (some ⟨gd, 0, none⟩) M D) := by rw [← hw9b]; exact (HD9.out.drewN (k21 + k22)).drewN k23
    have HPA := Lib.hid (rn_put_bound (R9b.alloc (.cells #[.int .u8 1] 5)) (off := (M : Int)) (c := 1) (e := false) (l := [1]) M rfl (one_sl w9b 1) (fun _ a ha => by cases ha; exact R9b.off (.inr (Nat.le_refl _))) (Nat.le_refl _) (by omega) (by omega) (by simp))
    clear R9b hw9b
    go_wp2_with fail
    (with_reducible refine (HPA.out).mono ?_)
    rintro e11 w11 ⟨F11, rfl, R11, A11⟩
    have HD11 : Hid (Sl w11 w11.heap.size (some ⟨gd, 0, none⟩) M D) := A11.sl ((HD9b.out.below ((Below.refl _ _).alloc (Nat.le_refl _) _)).more (by simp)) (fun _ a ha => by cases ha; exact HN9.out)
    have hgdl : gd < w9b.heap.size := by
      obtain ⟨b, off, e, hb, _⟩ := HD9b.out.2 (by omega)
      cases e
      exact hb
    have HN11 : Hid (¬ F11 gd) := A11.off (by rw [World.size_alloc]; omega) HN9.out
    have HPB2 := Lib.hid (rn_put_clash R11 (off := 0) (c := cd) (e := true) 0 rfl (HD11.out.take (k := M1) (by have := HM1.out; omega)) (fun _ a ha => by cases ha; exact HN11.out) (by have := HCD.out; have := HM1.out; omega) (by have := HM1.out; omega) (by omega) (by simp; have := HDL.out; have := HM1.out; omega) (.inl ⟨_, GP.out.en, .inr ⟨rfl, by simp; have := HDL.out; have := HM1.out; omega⟩⟩))
    clear R11 A11 HPA hgdl
    go_wp2_with fail
    (with_reducible refine (HPB2.out).mono ?_)
    rintro e12 w10 ⟨F10, rfl, R10, A10⟩
    have HD10 : Hid (Sl w10 w10.heap.size (some ⟨gd, 0, none⟩) M D) := A10.sl HD11.out (fun _ a ha => by cases ha; exact HN11.out)
    have HN10 : Hid (¬ F10 gd) := A10.off (by
      obtain ⟨b, off, e, hb, _⟩ := HD11.out.2 (by omega)
      cases e
      exact hb) HN11.out
    have HR10 := Lib.hid R10
    clear R10 A10 HPB2
    go_wp2_with fail
    have hR10 := HR10.out
    have hok10 := hR10.ok
    have hrd := rn_read (show Rn w w10.drew F10 g M (0 + x + (M - y) + 1 + M1) s2 from hR10.drewN 1) (x : Int)
    rw [GP.out.readN hok10 hxy, GP.out.bytes hok10 hxy] at hrd
    have HRD := Lib.hid hrd
    have hgp0 := GP.out.fill hok10 hxy (by rw [HDL.out]; omega)
    rw [HDD.out] at hgp0
    have HGP := Lib.hid hgp0
    have HNN : Hid (0 + x + (M - y) + 1 + M1 ≤ 400) := by have := HM1.out; show _ ≤ _; omega
    clear hR10 hok10 hrd hgp0
    refine wp_held (S := fun _ => True) (by kernel_rfl) ?_
    refine wpAnyH_take (i := 0) (v := ?_) rfl (by kernel_rfl) (by kernel_rfl) (by kernel_rfl) (fun _ _ _ h => h) (Or.inl ⟨by rfl, ?_⟩) trivial ?_
    rotate_left 1
    · intro u hu
      go_simp
      first | done | with_reducible rfl
    go_simp
    refine wpAnyH_take (i := 1) (v := ?_) rfl (by kernel_rfl) (by kernel_rfl) (by kernel_rfl) (fun _ _ _ h => h) (Or.inl ⟨by rfl, ?_⟩) trivial ?_
    rotate_left 1
    · intro u hu
      go_simp
      first | done | with_reducible rfl
    go_simp
    refine wpAnyH_take (i := 3) (v := ?_) rfl (by kernel_rfl) (by kernel_rfl) (by kernel_rfl) (fun _ _ _ h => h) (Or.inl ⟨by rfl, ?_⟩) trivial ?_
    rotate_left 1
    · intro u hu
      go_simp
      first | done | with_reducible rfl
    go_simp
    refine wpAnyH_take (i := 4) (v := ?_) rfl (by kernel_rfl) (by kernel_rfl) (by kernel_rfl) (fun _ _ _ h => h) (Or.inl ⟨by rfl, ?_⟩) trivial ?_
    rotate_left 1
    · intro u hu
      go_simp
      first | done | with_reducible rfl
    go_simp
    refine wpAnyH_take (i := 5) (v := ?_) rfl (by kernel_rfl) (by kernel_rfl) (by kernel_rfl) (fun _ _ _ h => h) (Or.inl ⟨by rfl, ?_⟩) trivial ?_
    rotate_left 1
    · intro u hu
      go_simp
      first | done | with_reducible rfl
    go_simp
    refine wpAnyH_oneG 2 (by kernel_rfl) rfl (by rfl) ?_
    go_wp2_with fail
    (with_reducible refine (HRD.out).mono ?_)
    rintro e13 w13 ⟨A13, c13, rfl, ho13, hc13, hm13, R13, hO13⟩
    have HD13 : Hid (Sl w13 w13.heap.size (some ⟨gd, 0, none⟩) M D) := by
      have h1 := (Mvd.refl F10 w10).only ⟨hO13.os, hO13.tape, hO13.output, hO13.size, hO13.block⟩ (fun _ => HR10.out.fg)
      exact (h1.sl HD10.out (fun _ a ha => by cases ha; exact HN10.out))
    have HSM := Lib.hid (same_yes (D.take x) (D.take x) rfl A13 (some ⟨gd, 0, none⟩) x x c13 cd _ _ w13 ho13.sl (HD13.out.take (by omega)) (by simp only [maxLen]; omega))
    have HR13 := Lib.hid R13
    clear ho13 hc13 hm13 R13 hO13
    refine wpAnyH_oneG 6 (by kernel_rfl) rfl (by rfl) ?_
    go_wp2_with fail
    (with_reducible refine (HSM.out).mono ?_)
    rintro e14 w14 ⟨rfl, k14, rfl⟩
    have HP14 := Lib.hid (rn_put_ok (HR13.out.drewN k14) (off := (x : Int)) (c := cd - x) (e := false) x rfl (HPC.out _ _ _ ((HD13.out).drewN k14)) (fun _ a ha => by
      obtain ⟨y1, hy1, hy2⟩ := HPB.out a ha
      cases hy1
      rw [hy2]
      exact HN10.out) (by have := HCD.out; have := HDD.out; omega) (by have := HNN.out; have := HDD.out; omega) (by have := HDD.out; omega) (by have := HDL.out; have := HDD.out; simp; omega) HGP.out.1)
    refine wpAnyH_take (i := 7) (v := ?_) rfl (by kernel_rfl) (by kernel_rfl) (by kernel_rfl) (fun _ _ _ h => h) (Or.inl ⟨by rfl, ?_⟩) trivial ?_
    rotate_left 1
    · intro u hu
      go_simp
      first | done | with_reducible rfl
    go_simp
    refine wpAnyH_take (i := 8) (v := ?_) rfl (by kernel_rfl) (by kernel_rfl) (by kernel_rfl) (fun _ _ _ h => h) (Or.inl ⟨by rfl, ?_⟩) trivial ?_
    rotate_left 1
    · intro u hu
      go_simp
      first | done | with_reducible rfl
    go_simp
    refine wpAnyH_take (i := 9) (v := ?_) rfl (by kernel_rfl) (by kernel_rfl) (by kernel_rfl) (fun _ _ _ h => h) (Or.inl ⟨by rfl, ?_⟩) trivial ?_
    rotate_left 1
    · intro u hu
      go_simp
      first | done | with_reducible rfl
    go_simp
    refine wpAnyH_take (i := 10) (v := ?_) rfl (by kernel_rfl) (by kernel_rfl) (by kernel_rfl) (fun _ _ _ h => h) (Or.inl ⟨by rfl, ?_⟩) trivial ?_
    rotate_left 1
    · intro u hu
      go_simp
      first | done | with_reducible rfl
    go_simp
    refine wpAnyH_take (i := 11) (v := ?_) rfl (by kernel_rfl) (by kernel_rfl) (by kernel_rfl) (fun _ _ _ h => h) (Or.inl ⟨by rfl, ?_⟩) trivial ?_
    rotate_left 1
    · intro u hu
      go_simp
      first | done | with_reducible rfl
    go_simp
    refine wpAnyH_take (i := 12) (v := ?_) rfl (by kernel_rfl) (by kernel_rfl) (by kernel_rfl) (fun _ _ _ h => h) (Or.inl ⟨by rfl, ?_⟩) trivial ?_
    rotate_left 1
    · intro u hu
      go_simp
      first | done | with_reducible rfl
    go_simp
    refine wpAnyH_take (i := 13) (v := ?_) rfl (by kernel_rfl) (by kernel_rfl) (by kernel_rfl) (fun _ _ _ h => h) (Or.inl ⟨by rfl, ?_⟩) trivial ?_
    rotate_left 1
    · intro u hu
      go_simp
      first | done | with_reducible rfl
    go_simp
    refine wpAnyH_take (i := 14) (v := ?_) rfl (by kernel_rfl) (by kernel_rfl) (by kernel_rfl) (fun _ _ _ h => h) (Or.inl ⟨by rfl, ?_⟩) trivial ?_
    rotate_left 1
    · intro u hu
      go_simp
      first | done | with_reducible rfl
    go_simp
    refine wpAnyH_oneG 15 (by kernel_rfl) rfl (by rfl) ?_
    go_wp2_with fail
    (with_reducible refine (HP14.out).mono ?_)
    rintro e15 w15 ⟨F15, rfl, R15, A15⟩
    have HD15 : Hid (Sl w15 w15.heap.size (some ⟨gd, 0, none⟩) M D) := A15.sl ((HD13.out).drewN k14) (fun _ a ha => by cases ha; exact HN10.out)
    have HN15 : Hid (¬ F15 gd) := A15.off (by
      obtain ⟨b, off, e, hb, _⟩ := HD13.out.2 (by omega)
      cases e
      exact hb) HN10.out
    have HR15 := Lib.hid R15
    clear R15 A15
    refine wpAnyH_take (i := 16) (v := ?_) rfl (by kernel_rfl) (by kernel_rfl) (by kernel_rfl) (fun _ _ _ h => h) (Or.inl ⟨by rfl, ?_⟩) trivial ?_
    rotate_left 1
    · intro u hu
      go_simp
      first | done | with_reducible rfl
    go_simp
    refine wpAnyH_take (i := 17) (v := ?_) rfl (by kernel_rfl) (by kernel_rfl) (by kernel_rfl) (fun _ _ _ h => h) (Or.inl ⟨by rfl, ?_⟩) trivial ?_
    rotate_left 1
    · intro u hu
      go_simp
      first | done | with_reducible rfl
    go_simp
    refine wpAnyH_done (by kernel_rfl) ?_ _
    obtain ⟨s4, hs4⟩ : ∃ s4, putS (readS s2 (x : Int)) x ((D.drop x).take dd) false = s4 := ⟨_, rfl⟩
    have hgp := HGP.out
    have hR15 := HR15.out
    rw [hs4] at hgp hR15
    have FL4 := Lib.hid hgp.2.1
    have RD4 := Lib.hid hgp.2.2
    have hR15d : Rn w w15.drew F15 g M (0 + x + (M - y) + 1 + M1 + dd) s4 := hR15.drewN 1
    have hwh := whole_any hR15d.i
    rw [FL4.out.whole hR15d.ok] at hwh
    have HWh := Lib.hid hwh
    have hni : readN s4 (M : Int) = M - x := by rw [FL4.out.readN hR15d.ok M rfl, RD4.out, HDL.out]; omega
    have hby : bytesV s4 (M - x) = D.drop x := by
      rw [FL4.out.bytes hR15d.ok (m := M - x) (by rw [RD4.out, HDL.out]; omega), RD4.out, List.take_of_length_le (by rw [List.length_drop, HDL.out]; exact Nat.le_refl _)]
    have HRd2 : Hid (∀ k, Calls Tryd.prog 12 #[.pointer (some ⟨g, 0, none⟩), .int .i64 (M : Int)] (w15.drewN (1 + k)) fun e w' => ∃ A c, e = .returned (.slice A (M - x) c) ∧ Own w' (w15.drewN (1 + k)).heap.size (.slice A (M - x) c) (M - x) (D.drop x) ∧ M - x ≤ c ∧ c ≤ maxLen ∧ Rn w w' F15 g M (0 + x + (M - y) + 1 + M1 + dd) (readS s4 (M : Int)) ∧ Only g (w15.drewN (1 + k)) w') := fun k => by
      have h := rn_read (hR15.drewN (1 + k)) (M : Int)
      rw [hni, hby] at h
      exact h
    have FL5 := Lib.hid (FL4.out.read (M : Int))
    have RD5 : Hid ((readS s4 (M : Int)).rd = M) := by show s4.rd + readN s4 (M : Int) = M; rw [hni, RD4.out]; omega
    have hfg := hR15.fg
    clear hgp hR15 hR15d hwh hni hby hs4 HP14
    go_wp2_with fail
    refine wp_held (S := fun _ => True) (by kernel_rfl) ?_
    refine wpAnyH_take (i := 0) (v := ?_) rfl (by kernel_rfl) (by kernel_rfl) (by kernel_rfl) (fun _ _ _ h => h) (Or.inl ⟨by rfl, ?_⟩) trivial ?_
    rotate_left 1
    · intro u hu
      go_simp
      first | done | with_reducible rfl
    go_simp
    refine wpAnyH_oneG 1 (by kernel_rfl) rfl (by rfl) ?_
    go_wp2_with fail
    (with_reducible refine (HWh.out).mono ?_)
    rintro e16 w16 ⟨rfl, k16, rfl⟩
    refine wpAnyH_take (i := 2) (v := ?_) rfl (by kernel_rfl) (by kernel_rfl) (by kernel_rfl) (fun _ _ _ h => h) (Or.inl ⟨by rfl, ?_⟩) trivial ?_
    rotate_left 1
    · intro u hu
      go_simp
      first | done | with_reducible rfl
    go_simp
    refine wpAnyH_take (i := 3) (v := ?_) rfl (by kernel_rfl) (by kernel_rfl) (by kernel_rfl) (fun _ _ _ h => h) (Or.inl ⟨by rfl, ?_⟩) trivial ?_
    rotate_left 1
    · intro u hu
      go_simp
      first | done | with_reducible rfl
    go_simp
    refine wpAnyH_take (i := 4) (v := ?_) rfl (by kernel_rfl) (by kernel_rfl) (by kernel_rfl) (fun _ _ _ h => h) (Or.inl ⟨by rfl, ?_⟩) trivial ?_
    rotate_left 1
    · intro u hu
      go_simp
      first | done | with_reducible rfl
    go_simp
    refine wpAnyH_take (i := 6) (v := ?_) rfl (by kernel_rfl) (by kernel_rfl) (by kernel_rfl) (fun _ _ _ h => h) (Or.inl ⟨by rfl, ?_⟩) trivial ?_
    rotate_left 1
    · intro u hu
      go_simp
      first | done | with_reducible rfl
    go_simp
    refine wpAnyH_take (i := 7) (v := ?_) rfl (by kernel_rfl) (by kernel_rfl) (by kernel_rfl) (fun _ _ _ h => h) (Or.inl ⟨by rfl, ?_⟩) trivial ?_
    rotate_left 1
    · intro u hu
      go_simp
      first | done | with_reducible rfl
    go_simp
    refine wpAnyH_take (i := 8) (v := ?_) rfl (by kernel_rfl) (by kernel_rfl) (by kernel_rfl) (fun _ _ _ h => h) (Or.inl ⟨by rfl, ?_⟩) trivial ?_
    rotate_left 1
    · intro u hu
      go_simp
      first | done | with_reducible rfl
    go_simp
    have HRD2 := Lib.hid (HRd2.out k16)
    refine wpAnyH_oneG 5 (by kernel_rfl) rfl (by rfl) ?_
    go_wp2_with fail
    (with_reducible refine (HRD2.out).mono ?_)
    rintro e17 w17 ⟨A17, c17, rfl, ho17, hc17, hm17, R17, hO17⟩
    have HD17 : Hid (Sl w17 w17.heap.size (some ⟨gd, 0, none⟩) M D) := by
      have h1 := (Mvd.refl F15 w15).only (g := g) ⟨hO17.os, hO17.tape, hO17.output, hO17.size, hO17.block⟩ (fun _ => HR15.out.fg)
      exact (h1.sl HD15.out (fun _ a ha => by cases ha; exact HN15.out))
    have HSM2 := Lib.hid (same_yes (D.drop x) (D.drop x) rfl A17 AX (M - x) (M - x) c17 (cd - x) _ _ w17 ho17.sl (HSX.out _ _ _ HD17.out) (by simp only [maxLen]; omega))
    have HR17 := Lib.hid R17
    clear ho17 hc17 hm17 R17 hO17
    refine wpAnyH_oneG 9 (by kernel_rfl) rfl (by rfl) ?_
    go_wp2_with fail
    (with_reducible refine (HSM2.out).mono ?_)
    rintro e18 w18 ⟨rfl, k18, rfl⟩
    have hEn := ended_any (HR17.out.drewN k18).i
    rw [FL5.out.ended (by rw [RD5.out, HDL.out])] at hEn
    have HEn := Lib.hid hEn
    clear hEn
    refine wpAnyH_take (i := 10) (v := ?_) rfl (by kernel_rfl) (by kernel_rfl) (by kernel_rfl) (fun _ _ _ h => h) (Or.inl ⟨by rfl, ?_⟩) trivial ?_
    rotate_left 1
    · intro u hu
      go_simp
      first | done | with_reducible rfl
    go_simp
    refine wpAnyH_take (i := 11) (v := ?_) rfl (by kernel_rfl) (by kernel_rfl) (by kernel_rfl) (fun _ _ _ h => h) (Or.inl ⟨by rfl, ?_⟩) trivial ?_
    rotate_left 1
    · intro u hu
      go_simp
      first | done | with_reducible rfl
    go_simp
    refine wpAnyH_take (i := 12) (v := ?_) rfl (by kernel_rfl) (by kernel_rfl) (by kernel_rfl) (fun _ _ _ h => h) (Or.inl ⟨by rfl, ?_⟩) trivial ?_
    rotate_left 1
    · intro u hu
      go_simp
      first | done | with_reducible rfl
    go_simp
    refine wpAnyH_oneG 13 (by kernel_rfl) rfl (by rfl) ?_
    go_wp2_with fail
    (with_reducible refine (HEn.out).mono ?_)
    rintro e19 w19 ⟨rfl, k19, rfl⟩
    have HAW := Lib.hid (awake_any _ (HR17.out.drewN (k18 + k19)).G)
    have HBB := Lib.hid (HR17.out.drewN (k18 + k19)).b
    refine wpAnyH_take (i := 14) (v := ?_) rfl (by kernel_rfl) (by kernel_rfl) (by kernel_rfl) (fun _ _ _ h => h) (Or.inl ⟨by rfl, ?_⟩) trivial ?_
    rotate_left 1
    · intro u hu
      go_simp
      first | done | with_reducible rfl
    go_simp
    refine wpAnyH_take (i := 15) (v := ?_) rfl (by kernel_rfl) (by kernel_rfl) (by kernel_rfl) (fun _ _ _ h => h) (Or.inl ⟨by rfl, ?_⟩) trivial ?_
    rotate_left 1
    · intro u hu
      go_simp
      first | done | with_reducible rfl
    go_simp
    refine wpAnyH_oneG 16 (by kernel_rfl) rfl (by rfl) ?_
    go_wp2_with fail
    (with_reducible refine (HAW.out).mono ?_)
    rintro e20 w20 ⟨rfl, b20⟩
    have HB20 : Hid (Below w.heap.size w w20) := HBB.out.trans (b20.mono HBB.out.size)
    clear b20
    refine wpAnyH_take (i := 17) (v := ?_) rfl (by kernel_rfl) (by kernel_rfl) (by kernel_rfl) (fun _ _ _ h => h) (Or.inl ⟨by rfl, ?_⟩) trivial ?_
    rotate_left 1
    · intro u hu
      go_simp
      first | done | with_reducible rfl
    go_simp
    refine wpAnyH_take (i := 18) (v := ?_) rfl (by kernel_rfl) (by kernel_rfl) (by kernel_rfl) (fun _ _ _ h => h) (Or.inl ⟨by rfl, ?_⟩) trivial ?_
    rotate_left 1
    · intro u hu
      go_simp
      first | done | with_reducible rfl
    go_simp
    refine wpAnyH_done (by kernel_rfl) ?_ _
    go_wp2_with fail
    go_ret
    exact ⟨rfl, HB20.out⟩
  · have hltI : ¬ ((x : Int) < (y : Int)) := by omega
    have hh := highest_any HR9.out.i
    rw [high_en HR9.out.ok GP.out.en, HDL.out] at hh
    have HHi := Lib.hid hh
    clear hh
    go_wp2_with fail
    (with_reducible refine (HHi.out).mono ?_)
    rintro e23 w23 ⟨rfl, k23, rfl⟩
    obtain ⟨w9b, hw9b⟩ : ∃ w9b, w9.drewN k23 = w9b := ⟨_, rfl⟩
    rw [hw9b]
    have R9b : Rn w w9b F9 g M (0 + x + (M - y)) s2 := by rw [← hw9b]; exact HR9.out.drewN k23
    have HR9b := Lib.hid R9b
    have HD9b : Hid (Sl w9b w9b.heap.size (some ⟨gd, 0, none⟩) M D) := by rw [← hw9b]; exact HD9.out.drewN k23
    have HPA := Lib.hid (rn_put_bound (R9b.alloc (.cells #[.int .u8 1] 5)) (off := (M : Int)) (c := 1) (e := false) (l := [1]) M rfl (one_sl w9b 1) (fun _ a ha => by cases ha; exact R9b.off (.inr (Nat.le_refl _))) (Nat.le_refl _) (by omega) (by omega) (by simp))
    clear R9b hw9b
    go_wp2_with fail
    (with_reducible refine (HPA.out).mono ?_)
    rintro e11 w11 ⟨F11, rfl, R11, A11⟩
    have HD11 : Hid (Sl w11 w11.heap.size (some ⟨gd, 0, none⟩) M D) := A11.sl ((HD9b.out.below ((Below.refl _ _).alloc (Nat.le_refl _) _)).more (by simp)) (fun _ a ha => by cases ha; exact HN9.out)
    have hgdl : gd < w9b.heap.size := by
      obtain ⟨b, off, e, hb, _⟩ := HD9b.out.2 (by omega)
      cases e
      exact hb
    have HN11 : Hid (¬ F11 gd) := A11.off (by rw [World.size_alloc]; omega) HN9.out
    have HPB2 := Lib.hid (rn_put_clash R11 (off := 0) (c := cd) (e := true) 0 rfl (HD11.out.take (k := M1) (by have := HM1.out; omega)) (fun _ a ha => by cases ha; exact HN11.out) (by have := HCD.out; have := HM1.out; omega) (by have := HM1.out; omega) (by omega) (by simp; have := HDL.out; have := HM1.out; omega) (.inl ⟨_, GP.out.en, .inr ⟨rfl, by simp; have := HDL.out; have := HM1.out; omega⟩⟩))
    clear R11 A11 HPA hgdl
    go_wp2_with fail
    (with_reducible refine (HPB2.out).mono ?_)
    rintro e12 w10 ⟨F10, rfl, R10, A10⟩
    have HD10 : Hid (Sl w10 w10.heap.size (some ⟨gd, 0, none⟩) M D) := A10.sl HD11.out (fun _ a ha => by cases ha; exact HN11.out)
    have HN10 : Hid (¬ F10 gd) := A10.off (by
      obtain ⟨b, off, e, hb, _⟩ := HD11.out.2 (by omega)
      cases e
      exact hb) HN11.out
    have HR10 := Lib.hid R10
    clear R10 A10 HPB2
    go_wp2_with fail
    have hR10 := HR10.out
    have hok10 := hR10.ok
    have hrd := rn_read (show Rn w w10.drew F10 g M (0 + x + (M - y) + 1 + M1) s2 from hR10.drewN 1) (x : Int)
    rw [GP.out.readN hok10 hxy, GP.out.bytes hok10 hxy] at hrd
    have HRD := Lib.hid hrd
    have hgp0 := GP.out.fill hok10 hxy (by rw [HDL.out]; omega)
    rw [HDD.out] at hgp0
    have HGP := Lib.hid hgp0
    have HNN : Hid (0 + x + (M - y) + 1 + M1 ≤ 400) := by have := HM1.out; show _ ≤ _; omega
    clear hR10 hok10 hrd hgp0
    refine wp_held (S := fun _ => True) (by kernel_rfl) ?_
    refine wpAnyH_take (i := 0) (v := ?_) rfl (by kernel_rfl) (by kernel_rfl) (by kernel_rfl) (fun _ _ _ h => h) (Or.inl ⟨by rfl, ?_⟩) trivial ?_
    rotate_left 1
    · intro u hu
      go_simp
      first | done | with_reducible rfl
    go_simp
    refine wpAnyH_take (i := 1) (v := ?_) rfl (by kernel_rfl) (by kernel_rfl) (by kernel_rfl) (fun _ _ _ h => h) (Or.inl ⟨by rfl, ?_⟩) trivial ?_
    rotate_left 1
    · intro u hu
      go_simp
      first | done | with_reducible rfl
    go_simp
    refine wpAnyH_take (i := 3) (v := ?_) rfl (by kernel_rfl) (by kernel_rfl) (by kernel_rfl) (fun _ _ _ h => h) (Or.inl ⟨by rfl, ?_⟩) trivial ?_
    rotate_left 1
    · intro u hu
      go_simp
      first | done | with_reducible rfl
    go_simp
    refine wpAnyH_take (i := 4) (v := ?_) rfl (by kernel_rfl) (by kernel_rfl) (by kernel_rfl) (fun _ _ _ h => h) (Or.inl ⟨by rfl, ?_⟩) trivial ?_
    rotate_left 1
    · intro u hu
      go_simp
      first | done | with_reducible rfl
    go_simp
    refine wpAnyH_take (i := 5) (v := ?_) rfl (by kernel_rfl) (by kernel_rfl) (by kernel_rfl) (fun _ _ _ h => h) (Or.inl ⟨by rfl, ?_⟩) trivial ?_
    rotate_left 1
    · intro u hu
      go_simp
      first | done | with_reducible rfl
    go_simp
    refine wpAnyH_oneG 2 (by kernel_rfl) rfl (by rfl) ?_
    go_wp2_with fail
    (with_reducible refine (HRD.out).mono ?_)
    rintro e13 w13 ⟨A13, c13, rfl, ho13, hc13, hm13, R13, hO13⟩
    have HD13 : Hid (Sl w13 w13.heap.size (some ⟨gd, 0, none⟩) M D) := by
      have h1 := (Mvd.refl F10 w10).only ⟨hO13.os, hO13.tape, hO13.output, hO13.size, hO13.block⟩ (fun _ => HR10.out.fg)
      exact (h1.sl HD10.out (fun _ a ha => by cases ha; exact HN10.out))
    have HSM := Lib.hid (same_yes (D.take x) (D.take x) rfl A13 (some ⟨gd, 0, none⟩) x x c13 cd _ _ w13 ho13.sl (HD13.out.take (by omega)) (by simp only [maxLen]; omega))
    have HR13 := Lib.hid R13
    clear ho13 hc13 hm13 R13 hO13
    refine wpAnyH_oneG 6 (by kernel_rfl) rfl (by rfl) ?_
    go_wp2_with fail
    (with_reducible refine (HSM.out).mono ?_)
    rintro e14 w14 ⟨rfl, k14, rfl⟩
    have HP14 := Lib.hid (rn_put_ok (HR13.out.drewN k14) (off := (x : Int)) (c := cd - x) (e := false) x rfl (HPC.out _ _ _ ((HD13.out).drewN k14)) (fun _ a ha => by
      obtain ⟨y1, hy1, hy2⟩ := HPB.out a ha
      cases hy1
      rw [hy2]
      exact HN10.out) (by have := HCD.out; have := HDD.out; omega) (by have := HNN.out; have := HDD.out; omega) (by have := HDD.out; omega) (by have := HDL.out; have := HDD.out; simp; omega) HGP.out.1)
    refine wpAnyH_take (i := 7) (v := ?_) rfl (by kernel_rfl) (by kernel_rfl) (by kernel_rfl) (fun _ _ _ h => h) (Or.inl ⟨by rfl, ?_⟩) trivial ?_
    rotate_left 1
    · intro u hu
      go_simp
      first | done | with_reducible rfl
    go_simp
    refine wpAnyH_take (i := 8) (v := ?_) rfl (by kernel_rfl) (by kernel_rfl) (by kernel_rfl) (fun _ _ _ h => h) (Or.inl ⟨by rfl, ?_⟩) trivial ?_
    rotate_left 1
    · intro u hu
      go_simp
      first | done | with_reducible rfl
    go_simp
    refine wpAnyH_take (i := 9) (v := ?_) rfl (by kernel_rfl) (by kernel_rfl) (by kernel_rfl) (fun _ _ _ h => h) (Or.inl ⟨by rfl, ?_⟩) trivial ?_
    rotate_left 1
    · intro u hu
      go_simp
      first | done | with_reducible rfl
    go_simp
    refine wpAnyH_take (i := 10) (v := ?_) rfl (by kernel_rfl) (by kernel_rfl) (by kernel_rfl) (fun _ _ _ h => h) (Or.inl ⟨by rfl, ?_⟩) trivial ?_
    rotate_left 1
    · intro u hu
      go_simp
      first | done | with_reducible rfl
    go_simp
    refine wpAnyH_take (i := 11) (v := ?_) rfl (by kernel_rfl) (by kernel_rfl) (by kernel_rfl) (fun _ _ _ h => h) (Or.inl ⟨by rfl, ?_⟩) trivial ?_
    rotate_left 1
    · intro u hu
      go_simp
      first | done | with_reducible rfl
    go_simp
    refine wpAnyH_take (i := 12) (v := ?_) rfl (by kernel_rfl) (by kernel_rfl) (by kernel_rfl) (fun _ _ _ h => h) (Or.inl ⟨by rfl, ?_⟩) trivial ?_
    rotate_left 1
    · intro u hu
      go_simp
      first | done | with_reducible rfl
    go_simp
    refine wpAnyH_take (i := 13) (v := ?_) rfl (by kernel_rfl) (by kernel_rfl) (by kernel_rfl) (fun _ _ _ h => h) (Or.inl ⟨by rfl, ?_⟩) trivial ?_
    rotate_left 1
    · intro u hu
      go_simp
      first | done | with_reducible rfl
    go_simp
    refine wpAnyH_take (i := 14) (v := ?_) rfl (by kernel_rfl) (by kernel_rfl) (by kernel_rfl) (fun _ _ _ h => h) (Or.inl ⟨by rfl, ?_⟩) trivial ?_
    rotate_left 1
    · intro u hu
      go_simp
      first | done | with_reducible rfl
    go_simp
    refine wpAnyH_oneG 15 (by kernel_rfl) rfl (by rfl) ?_
    go_wp2_with fail
    (with_reducible refine (HP14.out).mono ?_)
    rintro e15 w15 ⟨F15, rfl, R15, A15⟩
    have HD15 : Hid (Sl w15 w15.heap.size (some ⟨gd, 0, none⟩) M D) := A15.sl ((HD13.out).drewN k14) (fun _ a ha => by cases ha; exact HN10.out)
    have HN15 : Hid (¬ F15 gd) := A15.off (by
      obtain ⟨b, off, e, hb, _⟩ := HD13.out.2 (by omega)
      cases e
      exact hb) HN10.out
    have HR15 := Lib.hid R15
    clear R15 A15
    refine wpAnyH_take (i := 16) (v := ?_) rfl (by kernel_rfl) (by kernel_rfl) (by kernel_rfl) (fun _ _ _ h => h) (Or.inl ⟨by rfl, ?_⟩) trivial ?_
    rotate_left 1
    · intro u hu
      go_simp
      first | done | with_reducible rfl
    go_simp
    refine wpAnyH_take (i := 17) (v := ?_) rfl (by kernel_rfl) (by kernel_rfl) (by kernel_rfl) (fun _ _ _ h => h) (Or.inl ⟨by rfl, ?_⟩) trivial ?_
    rotate_left 1
    · intro u hu
      go_simp
      first | done | with_reducible rfl
    go_simp
    refine wpAnyH_done (by kernel_rfl) ?_ _
    obtain ⟨s4, hs4⟩ : ∃ s4, putS (readS s2 (x : Int)) x ((D.drop x).take dd) false = s4 := ⟨_, rfl⟩
    have hgp := HGP.out
    have hR15 := HR15.out
    rw [hs4] at hgp hR15
    have FL4 := Lib.hid hgp.2.1
    have RD4 := Lib.hid hgp.2.2
    have hR15d : Rn w w15.drew F15 g M (0 + x + (M - y) + 1 + M1 + dd) s4 := hR15.drewN 1
    have hwh := whole_any hR15d.i
    rw [FL4.out.whole hR15d.ok] at hwh
    have HWh := Lib.hid hwh
    have hni : readN s4 (M : Int) = M - x := by rw [FL4.out.readN hR15d.ok M rfl, RD4.out, HDL.out]; omega
    have hby : bytesV s4 (M - x) = D.drop x := by
      rw [FL4.out.bytes hR15d.ok (m := M - x) (by rw [RD4.out, HDL.out]; omega), RD4.out, List.take_of_length_le (by rw [List.length_drop, HDL.out]; exact Nat.le_refl _)]
    have HRd2 : Hid (∀ k, Calls Tryd.prog 12 #[.pointer (some ⟨g, 0, none⟩), .int .i64 (M : Int)] (w15.drewN (1 + k)) fun e w' => ∃ A c, e = .returned (.slice A (M - x) c) ∧ Own w' (w15.drewN (1 + k)).heap.size (.slice A (M - x) c) (M - x) (D.drop x) ∧ M - x ≤ c ∧ c ≤ maxLen ∧ Rn w w' F15 g M (0 + x + (M - y) + 1 + M1 + dd) (readS s4 (M : Int)) ∧ Only g (w15.drewN (1 + k)) w') := fun k => by
      have h := rn_read (hR15.drewN (1 + k)) (M : Int)
      rw [hni, hby] at h
      exact h
    have FL5 := Lib.hid (FL4.out.read (M : Int))
    have RD5 : Hid ((readS s4 (M : Int)).rd = M) := by show s4.rd + readN s4 (M : Int) = M; rw [hni, RD4.out]; omega
    have hfg := hR15.fg
    clear hgp hR15 hR15d hwh hni hby hs4 HP14
    go_wp2_with fail
    refine wp_held (S := fun _ => True) (by kernel_rfl) ?_
    refine wpAnyH_take (i := 0) (v := ?_) rfl (by kernel_rfl) (by kernel_rfl) (by kernel_rfl) (fun _ _ _ h => h) (Or.inl ⟨by rfl, ?_⟩) trivial ?_
    rotate_left 1
    · intro u hu
      go_simp
      first | done | with_reducible rfl
    go_simp
    refine wpAnyH_oneG 1 (by kernel_rfl) rfl (by rfl) ?_
    go_wp2_with fail
    (with_reducible refine (HWh.out).mono ?_)
    rintro e16 w16 ⟨rfl, k16, rfl⟩
    refine wpAnyH_take (i := 2) (v := ?_) rfl (by kernel_rfl) (by kernel_rfl) (by kernel_rfl) (fun _ _ _ h => h) (Or.inl ⟨by rfl, ?_⟩) trivial ?_
    rotate_left 1
    · intro u hu
      go_simp
      first | done | with_reducible rfl
    go_simp
    refine wpAnyH_take (i := 3) (v := ?_) rfl (by kernel_rfl) (by kernel_rfl) (by kernel_rfl) (fun _ _ _ h => h) (Or.inl ⟨by rfl, ?_⟩) trivial ?_
    rotate_left 1
    · intro u hu
      go_simp
      first | done | with_reducible rfl
    go_simp
    refine wpAnyH_take (i := 4) (v := ?_) rfl (by kernel_rfl) (by kernel_rfl) (by kernel_rfl) (fun _ _ _ h => h) (Or.inl ⟨by rfl, ?_⟩) trivial ?_
    rotate_left 1
    · intro u hu
      go_simp
      first | done | with_reducible rfl
    go_simp
    refine wpAnyH_take (i := 6) (v := ?_) rfl (by kernel_rfl) (by kernel_rfl) (by kernel_rfl) (fun _ _ _ h => h) (Or.inl ⟨by rfl, ?_⟩) trivial ?_
    rotate_left 1
    · intro u hu
      go_simp
      first | done | with_reducible rfl
    go_simp
    refine wpAnyH_take (i := 7) (v := ?_) rfl (by kernel_rfl) (by kernel_rfl) (by kernel_rfl) (fun _ _ _ h => h) (Or.inl ⟨by rfl, ?_⟩) trivial ?_
    rotate_left 1
    · intro u hu
      go_simp
      first | done | with_reducible rfl
    go_simp
    refine wpAnyH_take (i := 8) (v := ?_) rfl (by kernel_rfl) (by kernel_rfl) (by kernel_rfl) (fun _ _ _ h => h) (Or.inl ⟨by rfl, ?_⟩) trivial ?_
    rotate_left 1
    · intro u hu
      go_simp
      first | done | with_reducible rfl
    go_simp
    have HRD2 := Lib.hid (HRd2.out k16)
    refine wpAnyH_oneG 5 (by kernel_rfl) rfl (by rfl) ?_
    go_wp2_with fail
    (with_reducible refine (HRD2.out).mono ?_)
    rintro e17 w17 ⟨A17, c17, rfl, ho17, hc17, hm17, R17, hO17⟩
    have HD17 : Hid (Sl w17 w17.heap.size (some ⟨gd, 0, none⟩) M D) := by
      have h1 := (Mvd.refl F15 w15).only (g := g) ⟨hO17.os, hO17.tape, hO17.output, hO17.size, hO17.block⟩ (fun _ => HR15.out.fg)
      exact (h1.sl HD15.out (fun _ a ha => by cases ha; exact HN15.out))
    have HSM2 := Lib.hid (same_yes (D.drop x) (D.drop x) rfl A17 AX (M - x) (M - x) c17 (cd - x) _ _ w17 ho17.sl (HSX.out _ _ _ HD17.out) (by simp only [maxLen]; omega))
    have HR17 := Lib.hid R17
    clear ho17 hc17 hm17 R17 hO17
    refine wpAnyH_oneG 9 (by kernel_rfl) rfl (by rfl) ?_
    go_wp2_with fail
    (with_reducible refine (HSM2.out).mono ?_)
    rintro e18 w18 ⟨rfl, k18, rfl⟩
    have hEn := ended_any (HR17.out.drewN k18).i
    rw [FL5.out.ended (by rw [RD5.out, HDL.out])] at hEn
    have HEn := Lib.hid hEn
    clear hEn
    refine wpAnyH_take (i := 10) (v := ?_) rfl (by kernel_rfl) (by kernel_rfl) (by kernel_rfl) (fun _ _ _ h => h) (Or.inl ⟨by rfl, ?_⟩) trivial ?_
    rotate_left 1
    · intro u hu
      go_simp
      first | done | with_reducible rfl
    go_simp
    refine wpAnyH_take (i := 11) (v := ?_) rfl (by kernel_rfl) (by kernel_rfl) (by kernel_rfl) (fun _ _ _ h => h) (Or.inl ⟨by rfl, ?_⟩) trivial ?_
    rotate_left 1
    · intro u hu
      go_simp
      first | done | with_reducible rfl
    go_simp
    refine wpAnyH_take (i := 12) (v := ?_) rfl (by kernel_rfl) (by kernel_rfl) (by kernel_rfl) (fun _ _ _ h => h) (Or.inl ⟨by rfl, ?_⟩) trivial ?_
    rotate_left 1
    · intro u hu
      go_simp
      first | done | with_reducible rfl
    go_simp
    refine wpAnyH_oneG 13 (by kernel_rfl) rfl (by rfl) ?_
    go_wp2_with fail
    (with_reducible refine (HEn.out).mono ?_)
    rintro e19 w19 ⟨rfl, k19, rfl⟩
    have HAW := Lib.hid (awake_any _ (HR17.out.drewN (k18 + k19)).G)
    have HBB := Lib.hid (HR17.out.drewN (k18 + k19)).b
    refine wpAnyH_take (i := 14) (v := ?_) rfl (by kernel_rfl) (by kernel_rfl) (by kernel_rfl) (fun _ _ _ h => h) (Or.inl ⟨by rfl, ?_⟩) trivial ?_
    rotate_left 1
    · intro u hu
      go_simp
      first | done | with_reducible rfl
    go_simp
    refine wpAnyH_take (i := 15) (v := ?_) rfl (by kernel_rfl) (by kernel_rfl) (by kernel_rfl) (fun _ _ _ h => h) (Or.inl ⟨by rfl, ?_⟩) trivial ?_
    rotate_left 1
    · intro u hu
      go_simp
      first | done | with_reducible rfl
    go_simp
    refine wpAnyH_oneG 16 (by kernel_rfl) rfl (by rfl) ?_
    go_wp2_with fail
    (with_reducible refine (HAW.out).mono ?_)
    rintro e20 w20 ⟨rfl, b20⟩
    have HB20 : Hid (Below w.heap.size w w20) := HBB.out.trans (b20.mono HBB.out.size)
    clear b20
    refine wpAnyH_take (i := 17) (v := ?_) rfl (by kernel_rfl) (by kernel_rfl) (by kernel_rfl) (fun _ _ _ h => h) (Or.inl ⟨by rfl, ?_⟩) trivial ?_
    rotate_left 1
    · intro u hu
      go_simp
      first | done | with_reducible rfl
    go_simp
    refine wpAnyH_take (i := 18) (v := ?_) rfl (by kernel_rfl) (by kernel_rfl) (by kernel_rfl) (fun _ _ _ h => h) (Or.inl ⟨by rfl, ?_⟩) trivial ?_
    rotate_left 1
    · intro u hu
      go_simp
      first | done | with_reducible rfl
    go_simp
    refine wpAnyH_done (by kernel_rfl) ?_ _
    go_wp2_with fail
    go_ret
    exact ⟨rfl, HB20.out⟩
end Go.Proofs.YtocolaccgoochaaDoor
