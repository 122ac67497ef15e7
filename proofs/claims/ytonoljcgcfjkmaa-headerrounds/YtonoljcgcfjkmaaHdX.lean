/-
  The document's own reading of a header: the contract of its Get.
-/
import Derived.Test.YtonoljcgcfjkmaaHdW
namespace Go.Proofs.Ytonoljcgcfjkmaa
open Go.RowKit
set_option linter.unusedVariables false

theorem HdrW.below {w w' : World} {base : Nat} {hv : List Value} {h : Hdr} (k : HdrW w base hv h) (hb : Below w.heap.size w w') : HdrW w' base hv h := by
  obtain ⟨A1, n1, c1, A2, n2, c2, A3, n3, c3, e, ⟨o1, x1, y1⟩, ⟨o2, x2, y2⟩, ⟨o3, x3, y3⟩, hap⟩ := k
  exact ⟨A1, n1, c1, A2, n2, c2, A3, n3, c3, e, ⟨o1.below hb, x1, y1⟩, ⟨o2.below hb, x2, y2⟩, ⟨o3.below hb, x3, y3⟩, hap⟩
theorem HdrW.only {w w' : World} {base g : Nat} {hv : List Value} {h : Hdr} (k : HdrW w base hv h) (ho : Only g w w') (hg : g < base) : HdrW w' base hv h := by
  obtain ⟨A1, n1, c1, A2, n2, c2, A3, n3, c3, e, ⟨o1, x1, y1⟩, ⟨o2, x2, y2⟩, ⟨o3, x3, y3⟩, hap⟩ := k
  exact ⟨A1, n1, c1, A2, n2, c2, A3, n3, c3, e, ⟨o1.onlyA ho fun a ha => by have := (o1.blk a ha).1; omega, x1, y1⟩, ⟨o2.onlyA ho fun a ha => by have := (o2.blk a ha).1; omega, x2, y2⟩, ⟨o3.onlyA ho fun a ha => by have := (o3.blk a ha).1; omega, x3, y3⟩, hap⟩
theorem HdrW.base {w : World} {base base' : Nat} {hv : List Value} {h : Hdr} (k : HdrW w base hv h) (hb : base' ≤ base) : HdrW w base' hv h := by
  obtain ⟨A1, n1, c1, A2, n2, c2, A3, n3, c3, e, ⟨o1, x1, y1⟩, ⟨o2, x2, y2⟩, ⟨o3, x3, y3⟩, hap⟩ := k
  exact ⟨A1, n1, c1, A2, n2, c2, A3, n3, c3, e, ⟨o1.base hb, x1, y1⟩, ⟨o2.base hb, x2, y2⟩, ⟨o3.base hb, x3, y3⟩, hap⟩
theorem HdrW.withNum {w : World} {base : Nat} {hv : List Value} {h : Hdr} (k : HdrW w base hv h) (N : Nat) : HdrW w base (hv.set 8 (.int .u64 (N : Int))) { h with num := N } := by
  obtain ⟨A1, n1, c1, A2, n2, c2, A3, n3, c3, rfl, k1, k2, k3, hap⟩ := k
  exact ⟨A1, n1, c1, A2, n2, c2, A3, n3, c3, rfl, k1, k2, k3, hap⟩
theorem HdrW.cells {w : World} {base : Nat} {hv : List Value} {h : Hdr} (k : HdrW w base hv h) : hv[0]? = some (.bool h.long) ∧ hv[9]? = some (.int .i64 (h.nl : Int)) := by
  obtain ⟨A1, n1, c1, A2, n2, c2, A3, n3, c3, rfl, k1, k2, k3, hap⟩ := k
  exact ⟨rfl, rfl⟩
/-- what Lead tells lies within bounds -/
def Fits (l : List UInt8) (r : (Hdr × Nat × Nat) × Nat) : Prop := r.2 = 0 → 1 ≤ r.1.1.nl ∧ r.1.1.nl ≤ 4 ∧ r.1.2.1 ≤ l.length ∧ r.1.2.2 ≤ l.length + 1073741824 ∧ (r.1.1.long = false → r.1.2.1 + r.1.2.2 = l.length)
theorem fits_err (l : List UInt8) (c : Nat) (h : c ≠ 0) : Fits l (errR c) := fun h0 => absurd h0 h
theorem nlB_b (b : Nat) : 1 ≤ nlB b ∧ nlB b ≤ 4 := by unfold nlB; omega
theorem fits_end (l : List UInt8) (b ver : Nat) (d s t : List UInt8) (p : Nat) (hL : longB b = true) (hp : p ≤ l.length) : Fits l (endL l b ver d s t p) := by
  unfold endL
  have hfit := (getV_fits (l.drop p)).1
  rw [List.length_drop] at hfit
  split
  · exact fits_err _ _ (by assumption)
  · refine fun _ => ⟨(nlB_b b).1, (nlB_b b).2, ?_, ?_, fun h => ?_⟩
    · show p + _ ≤ _; omega
    · show min _ _ ≤ _; omega
    · exact absurd (show longB b = false from h) (by simp [hL])
theorem fits_tok (l : List UInt8) (b ver : Nat) (d s : List UInt8) (p : Nat) (hL : longB b = true) (hp : p ≤ l.length) : Fits l (tokL l b ver d s p) := by
  unfold tokL
  split
  · exact fits_err _ _ (by assumption)
  · split
    · exact fits_err _ _ (by omega)
    · split
      · exact fits_err _ _ (by omega)
      · exact fits_end _ _ _ _ _ _ _ hL (by omega)
theorem fits_lead (l : List UInt8) : Fits l (leadR l) := by
  unfold leadR
  split
  · exact fits_err _ _ (by omega)
  · split
    · exact fits_err _ _ (by omega)
    · generalize (l.getD 0 0).toNat = b
      split
      · next hL =>
        have hL : longB b = true := by unfold longB; simpa using hL
        unfold longL
        split
        · exact fits_err _ _ (by omega)
        · split
          · exact fits_err _ _ (by omega)
          · generalize beN 0 ((l.drop 1).take 4) = ver
            unfold dstL
            split
            · exact fits_err _ _ (by omega)
            · split
              · exact fits_err _ _ (by omega)
              · split
                · exact fits_err _ _ (by omega)
                · unfold srcL
                  split
                  · exact fits_err _ _ (by omega)
                  · split
                    · exact fits_err _ _ (by omega)
                    · split
                      · exact fits_err _ _ (by omega)
                      · unfold restL
                        split
                        · exact fits_tok _ _ _ _ _ _ hL (by omega)
                        · exact fits_end _ _ _ _ _ _ _ hL (by omega)
      · unfold shortL
        split
        · exact fits_err _ _ (by omega)
        · split
          · exact fits_err _ _ (by omega)
          · refine fun _ => ⟨(nlB_b b).1, (nlB_b b).2, ?_, ?_, fun _ => ?_⟩
            · show 9 ≤ _; omega
            · show l.length - 9 ≤ _; omega
            · show 9 + (l.length - 9) = _; omega

set_option maxHeartbeats 4000000 in
set_option maxRecDepth 8000 in
theorem rhget_any (l : List UInt8) (A : Option Addr) (n c B : Nat) (w : World) (hs : Sl w B A n l) (hB : B ≤ w.heap.size) (hnc : n ≤ c) (hcm : c ≤ maxLen) (hn : n ≤ 1000000) :
    Calls Try.prog 13 #[.slice A n c] w (Gets w (getR l)) := by
  have hln := hs.1
  have HLD := Lib.hid (fun u hu hb => lead_any l A n c B u hu hb hnc hcm hn)
  have HS : Hid (∀ u : World, Below w.heap.size w u → Sl u B A n l) := fun u hu => hs.below (hu.mono hB)
  have HBW := Lib.hid hB
  have HC : Hid (n ≤ c ∧ c ≤ maxLen) := ⟨hnc, hcm⟩
  have hft := fits_lead l
  unfold getR
  obtain ⟨⟨⟨h, at_, told⟩, q⟩, hld⟩ : ∃ r, leadR l = r := ⟨_, rfl⟩
  rw [hld] at HLD hft ⊢
  obtain ⟨RR, hRR⟩ : ∃ r, finR l ((h, at_, told), q) = r := ⟨_, rfl⟩
  have HRR := Lib.hid hRR
  rw [hRR]
  have HLEN := Lib.hid hln
  clear hs hB hnc hcm hld hRR hln
  go_enter Try.func13, Try.ntmps13
  go_wp2_with fail
  (with_reducible refine (HLD.out _ (HS.out _ ((Below.refl _ w).alloc (Nat.le_refl _) _)) (Nat.le_trans HBW.out (by simp))).mono ?_)
  rintro e2 w2 ⟨hv, rfl, hln, hone, hH, b2⟩
  simp only at hH
  have HONE := Lib.hid hone
  have HLN := Lib.hid hln
  have HL2 : Hid (hdr0.length = hv.length) := show _ = _ by rw [hln]; rfl
  have Z2 : Hid (Rw w2 w.heap.size 26 hdr0) := (show Rw _ _ _ hdr0 from heap_alloc_new w _).below b2
  have KB2 : Hid (Below w.heap.size w w2) := ((Below.refl _ w).alloc (Nat.le_refl _) _).trans (b2.mono (by simp))
  have HH := Lib.hid hH
  have B2S : Hid (w.heap.size + 1 ≤ w2.heap.size) := show _ ≤ _ by have := b2.size; simpa using this
  clear hone hln hH b2
  by_cases hq : q = 0
  · subst hq
    obtain ⟨nl1, nl4, hat, htold, hsh⟩ := hft rfl
    simp only at nl1 nl4 hat htold hsh
    rw [HLEN.out] at hat htold hsh
    have HW := Lib.hid (HH.out rfl)
    have hcells := HW.out.cells
    obtain ⟨hc0, hc9⟩ := hcells
    have HC0 := Lib.hid hc0
    have HC9 := Lib.hid hc9
    have HR : Hid (RR = if h.long = true ∧ told < h.nl then errR 5 else if n < at_ + h.nl then errR 3 else if n < at_ + told then errR 3 else (({ h with num := beN 0 ((l.drop at_).take h.nl) }, at_ + h.nl, told - h.nl), 0)) := show _ = _ by rw [← HRR.out]; unfold finR; rw [if_neg (by simp), HLEN.out]
    obtain ⟨nl, hnl⟩ : ∃ x, h.nl = x := ⟨_, rfl⟩
    obtain ⟨lg, hlg⟩ : ∃ x, h.long = x := ⟨_, rfl⟩
    rw [hnl] at nl1 nl4 HR HC9
    rw [hlg] at hsh HR HC0
    have HNLE := Lib.hid hnl
    have HLGE := Lib.hid hlg
    clear hc0 hc9 hft HRR HH hnl hlg
    obtain ⟨e1, he1⟩ : ∃ x, at_ + nl = x := ⟨_, rfl⟩
    have ee1 : (at_ : Int) + (nl : Int) = (e1 : Int) := by omega
    obtain ⟨e2, he2⟩ : ∃ x, at_ + told = x := ⟨_, rfl⟩
    have ee2 : (at_ : Int) + (told : Int) = (e2 : Int) := by omega
    have he1b : e1 ≤ 2000000 := by omega
    have he2b : e2 ≤ 4000000000 := by omega
    have hatb : at_ ≤ 1000000 := by omega
    have htoldb : told ≤ 2000000000 := by omega
    rw [he1, he2] at HR
    by_cases h5 : lg = true ∧ told < nl
    · replace HR := Lib.hid (HR.out.trans (if_pos h5))
      obtain ⟨rfl, h5⟩ := h5
      have t5 : decide ((told : Int) < (nl : Int)) = true := by simp; omega
      go_upto_region 5 with ((with_reducible refine wpList_store_rw rfl 26 (.tmp 6) (.tmp 14) rfl w2.heap.size hv ?hx ?hy 26 hdr0 ?hB (hdr_sizeL hv HLN.out) HL2.out HONE.out ?_); (case hx => with_unfolding_all rfl); (case hy => with_unfolding_all rfl); (case hB => exact heap_alloc_new w2 _); intro w3 R3 O3; have B3 : Hid (Below w2.heap.size w2 w3) := ((Below.refl _ w2).alloc (Nat.le_refl _) _).trans (O3.out.below (by simp) (Nat.le_refl _)); have Z3 := Lib.hid (Z2.out.below B3.out); have KB3 := Lib.hid (KB2.out.trans (B3.out.mono KB2.out.size)); have z0 := R3.out.cell 0 _ HC0.out; have z9 := R3.out.cell 9 _ HC9.out)
      go_wp2_with ((with_reducible refine wpList_store_rw rfl 26 (.tmp 2) (.tmp 30) rfl w.heap.size hdr0 ?hx ?hy 26 hdr0 Z3.out hdr0_size rfl hdr0_one ?_); (case hx => with_unfolding_all rfl); (case hy => with_unfolding_all rfl); intro w99 R99 O99)
      refine ret_rw3 rfl w.heap.size 26 hdr0 _ rfl R99.out Try.underlying26 rfl hdr_size rfl ?_
      rw [HR.out]
      exact ⟨hdr0, rfl, hdr0_w _ _, KB3.out.trans (O99.out.below KB3.out.size (Nat.le_refl _))⟩
    replace HR := Lib.hid (HR.out.trans (if_neg h5))
    have hways : (lg = false) ∨ (lg = true ∧ ¬ told < nl) := by
      cases lg
      · exact .inl rfl
      · exact .inr ⟨rfl, fun h => h5 ⟨rfl, h⟩⟩
    have htn : at_ + nl ≤ n → nl ≤ told := by
      intro hx
      cases lg
      · have := hsh rfl; omega
      · simp at h5; omega
    clear h5 hsh
    by_cases h3 : n < e1
    · replace HR := Lib.hid (HR.out.trans (if_pos h3))
      have t3 : decide ((n : Int) < (e1 : Int)) = true := by simp; omega
      rcases hways with rfl | ⟨rfl, t5⟩
      all_goals
        go_upto_region 7 with ((with_reducible refine wpList_store_rw rfl 26 (.tmp 6) (.tmp 14) rfl w2.heap.size hv ?hx ?hy 26 hdr0 ?hB (hdr_sizeL hv HLN.out) HL2.out HONE.out ?_); (case hx => with_unfolding_all rfl); (case hy => with_unfolding_all rfl); (case hB => exact heap_alloc_new w2 _); intro w3 R3 O3; have B3 : Hid (Below w2.heap.size w2 w3) := ((Below.refl _ w2).alloc (Nat.le_refl _) _).trans (O3.out.below (by simp) (Nat.le_refl _)); have Z3 := Lib.hid (Z2.out.below B3.out); have KB3 := Lib.hid (KB2.out.trans (B3.out.mono KB2.out.size)); have z0 := R3.out.cell 0 _ HC0.out; have z9 := R3.out.cell 9 _ HC9.out)
        go_wp2_with ((with_reducible refine wpList_store_rw rfl 26 (.tmp 2) (.tmp 38) rfl w.heap.size hdr0 ?hx ?hy 26 hdr0 Z3.out hdr0_size rfl hdr0_one ?_); (case hx => with_unfolding_all rfl); (case hy => with_unfolding_all rfl); intro w99 R99 O99)
        refine ret_rw3 rfl w.heap.size 26 hdr0 _ rfl R99.out Try.underlying26 rfl hdr_size rfl ?_
        rw [HR.out]
        exact ⟨hdr0, rfl, hdr0_w _ _, KB3.out.trans (O99.out.below KB3.out.size (Nat.le_refl _))⟩
    replace HR := Lib.hid (HR.out.trans (if_neg h3))
    have t3 : decide ((n : Int) < (e1 : Int)) = false := by simp; omega
    have htn := htn (by omega)
    obtain ⟨A1, eA1⟩ : ∃ v, (if c = at_ then A else A.map (·.add at_)) = v := ⟨_, rfl⟩
    have hcut : ∀ u : World, (Instr.slice 23 (.slice A n c) (some (.int .i64 (at_ : Int))) (some (.int .i64 (e1 : Int))) none).run Try.prog u = .ok (.slice A1 nl (c - at_)) u := fun u => by
      rw [run_cut2 u A n c at_ e1 (by omega) (by have := HC.out.1; omega), eA1, show e1 - at_ = nl by omega]
    have HSN : Hid (∀ u : World, Below w.heap.size w u → Sl u B A1 nl ((l.drop at_).take nl)) := fun u hu => by
      have h1 := ((HS.out u hu).drop (k := at_) (c := c) (by omega) HC.out.1).take (k := nl) (by omega)
      rwa [eA1] at h1
    have HNUM : Hid (∀ u : World, Below w.heap.size w u → Calls Try.prog 41 #[.slice A1 nl (c - at_)] u fun e w' => e = .returned (.int .u64 (beN 0 ((l.drop at_).take nl) : Nat)) ∧ u = w') := fun u hu => number_any _ A1 nl (c - at_) B u (HSN.out u hu) (by omega)
    obtain ⟨N, hN⟩ : ∃ N, beN 0 ((l.drop at_).take nl) = N := ⟨_, rfl⟩
    rw [hN] at HNUM HR
    obtain ⟨rs, hrs⟩ : ∃ r, told - nl = r := ⟨_, rfl⟩
    have ers : (told : Int) - (nl : Int) = (rs : Int) := by omega
    have hrsb : rs ≤ 2000000000 := by omega
    rw [hrs] at HR
    have HLS : Hid ((hv.set 8 (.int .u64 (N : Int))).length = 10) := show _ = _ by rw [List.length_set]; exact HLN.out
    have HOS : Hid (∀ v ∈ hv.set 8 (.int .u64 (N : Int)), v.oneCell' = true) := fun v hv' => by
      rcases List.mem_or_eq_of_mem_set hv' with h | h
      · exact HONE.out v h
      · subst h; rfl
    have HC9S : Hid ((hv.set 8 (.int .u64 (N : Int)))[9]? = some (.int .i64 (nl : Int))) := show _ = _ by rw [List.getElem?_set_ne (by omega)]; exact HC9.out
    obtain ⟨hs, ehs⟩ : ∃ x, hv.set 8 (.int .u64 (N : Int)) = x := ⟨_, rfl⟩
    have HWS := HW.out.withNum N
    rw [ehs] at HWS HLS HOS HC9S
    have HWN := Lib.hid HWS
    have EHS := Lib.hid ehs
    have HL2S : Hid (hdr0.length = hs.length) := show _ = _ by rw [HLS.out]; rfl
    clear eA1 hN hrs ehs HWS HSN
    by_cases h4 : n < e2
    · replace HR := Lib.hid (HR.out.trans (if_pos h4))
      have t4 : decide ((n : Int) < (e2 : Int)) = true := by simp; omega
      rcases hways with rfl | ⟨rfl, t5⟩
      all_goals
        go_upto_region 11 with (first | ((with_reducible refine wpList_store_rw rfl 26 (.tmp 6) (.tmp 14) rfl w2.heap.size hv ?hx ?hy 26 hdr0 ?hB (hdr_sizeL hv HLN.out) HL2.out HONE.out ?_); (case hx => with_unfolding_all rfl); (case hy => with_unfolding_all rfl); (case hB => exact heap_alloc_new w2 _); intro w3 R3 O3; have B3 : Hid (Below w2.heap.size w2 w3) := ((Below.refl _ w2).alloc (Nat.le_refl _) _).trans (O3.out.below (by simp) (Nat.le_refl _)); have Z3 := Lib.hid (Z2.out.below B3.out); have KB3 := Lib.hid (KB2.out.trans (B3.out.mono KB2.out.size)); have z0 := R3.out.cell 0 _ HC0.out; have z9 := R3.out.cell 9 _ HC9.out) | ((with_reducible refine wpList_put_rw rfl 24 (.tmp 47) (.tmp 46) rfl w2.heap.size 8 (.int .u64 (N : Int)) ?hx ?hy rfl rfl 26 hv R3.out sz_u64 ?hl ?_); (case hx => with_unfolding_all rfl); (case hy => with_unfolding_all rfl); (case hl => rw [HLN.out]; omega); intro w4 R4 O4; rw [EHS.out] at R4; have B4 : Hid (Below w2.heap.size w2 w4) := B3.out.trans (O4.out.below B3.out.size (Nat.le_refl _)); have Z4 := Lib.hid (Z2.out.below B4.out); have KB4 := Lib.hid (KB2.out.trans (B4.out.mono KB2.out.size)); have z49 := R4.out.cell 9 _ HC9S.out) | (go_at_call 41; (with_reducible refine (HNUM.out _ KB3.out).mono ?_); rintro e w' ⟨rfl, rfl⟩))
        go_wp2_with ((with_reducible refine wpList_store_rw rfl 26 (.tmp 2) (.tmp 58) rfl w.heap.size hdr0 ?hx ?hy 26 hdr0 Z4.out hdr0_size rfl hdr0_one ?_); (case hx => with_unfolding_all rfl); (case hy => with_unfolding_all rfl); intro w99 R99 O99)
        refine ret_rw3 rfl w.heap.size 26 hdr0 _ rfl R99.out Try.underlying26 rfl hdr_size rfl ?_
        rw [HR.out]
        exact ⟨hdr0, rfl, hdr0_w _ _, KB4.out.trans (O99.out.below KB4.out.size (Nat.le_refl _))⟩
    · replace HR := Lib.hid (HR.out.trans (if_neg h4))
      have t4 : decide ((n : Int) < (e2 : Int)) = false := by simp; omega
      rcases hways with rfl | ⟨rfl, t5⟩
      all_goals
        go_upto_region 12 with (first | ((with_reducible refine wpList_store_rw rfl 26 (.tmp 6) (.tmp 14) rfl w2.heap.size hv ?hx ?hy 26 hdr0 ?hB (hdr_sizeL hv HLN.out) HL2.out HONE.out ?_); (case hx => with_unfolding_all rfl); (case hy => with_unfolding_all rfl); (case hB => exact heap_alloc_new w2 _); intro w3 R3 O3; have B3 : Hid (Below w2.heap.size w2 w3) := ((Below.refl _ w2).alloc (Nat.le_refl _) _).trans (O3.out.below (by simp) (Nat.le_refl _)); have Z3 := Lib.hid (Z2.out.below B3.out); have KB3 := Lib.hid (KB2.out.trans (B3.out.mono KB2.out.size)); have z0 := R3.out.cell 0 _ HC0.out; have z9 := R3.out.cell 9 _ HC9.out) | ((with_reducible refine wpList_put_rw rfl 24 (.tmp 47) (.tmp 46) rfl w2.heap.size 8 (.int .u64 (N : Int)) ?hx ?hy rfl rfl 26 hv R3.out sz_u64 ?hl ?_); (case hx => with_unfolding_all rfl); (case hy => with_unfolding_all rfl); (case hl => rw [HLN.out]; omega); intro w4 R4 O4; rw [EHS.out] at R4; have B4 : Hid (Below w2.heap.size w2 w4) := B3.out.trans (O4.out.below B3.out.size (Nat.le_refl _)); have Z4 := Lib.hid (Z2.out.below B4.out); have KB4 := Lib.hid (KB2.out.trans (B4.out.mono KB2.out.size)); have z49 := R4.out.cell 9 _ HC9S.out) | (go_at_call 41; (with_reducible refine (HNUM.out _ KB3.out).mono ?_); rintro e w' ⟨rfl, rfl⟩))
        refine wp_held (S := fun u => Rw u w2.heap.size 26 hs) (by kernel_rfl) ?_
        replace R4 := Lib.hid R4.out.drew
        replace Z4 := Lib.hid Z4.out.drew
        replace B4 := Lib.hid B4.out.drew
        replace KB4 := Lib.hid KB4.out.drew
        obtain ⟨w0, hw0⟩ : ∃ x, w4.drew = x := ⟨_, rfl⟩
        rw [hw0] at R4 Z4 B4 KB4 ⊢
        clear hw0
        have we1 : IntKind.i64.wrap (e1 : Int) = (e1 : Int) := IntWalk.i64_in _ (by omega)
        have hS0 := R4.out
        refine wpAnyH_pickG 0 (.agg hs.toArray) rfl (by kernel_rfl) (by kernel_rfl) (by kernel_rfl) (by rfl) (fun _ _ _ h => h) (fun u hu => exec_load_mid u 26 (.tmp 6) rfl w2.heap.size 0 (by with_unfolding_all rfl) hs _ (range_row hu) Try.underlying26 rfl (hdr_sizeL hs HLS.out)) hS0 ?_
        go_simp
        refine wpAnyH_take (i := 1) (v := ?_) rfl (by kernel_rfl) (by kernel_rfl) (by kernel_rfl) (fun _ _ _ h => h) (Or.inl ⟨by rfl, ?_⟩) hS0 ?_
        rotate_left 1
        · intro u hu
          go_simp
          first | done | with_reducible rfl
        go_simp
        refine wpAnyH_take (i := 2) (v := ?_) rfl (by kernel_rfl) (by kernel_rfl) (by kernel_rfl) (fun _ _ _ h => h) (Or.inl ⟨by rfl, ?_⟩) hS0 ?_
        rotate_left 1
        · intro u hu
          go_simp
          first | done | with_reducible rfl
        go_simp
        refine wpAnyH_take (i := 3) (v := .int .i64 (nl : Int)) rfl (by kernel_rfl) (by kernel_rfl) (by kernel_rfl) (fun _ _ _ h => h) (Or.inl ⟨by rfl, ?_⟩) hS0 ?_
        · intro u hu
          have qq := hu.cell 9 _ HC9S.out
          go_simp
        go_simp
        refine wpAnyH_take (i := 4) (v := ?_) rfl (by kernel_rfl) (by kernel_rfl) (by kernel_rfl) (fun _ _ _ h => h) (Or.inl ⟨by rfl, ?_⟩) hS0 ?_
        rotate_left 1
        · intro u hu
          go_simp
          first | done | with_reducible rfl
        go_simp
        refine wpAnyH_take (i := 5) (v := ?_) rfl (by kernel_rfl) (by kernel_rfl) (by kernel_rfl) (fun _ _ _ h => h) (Or.inl ⟨by rfl, ?_⟩) hS0 ?_
        rotate_left 1
        · intro u hu
          go_simp
          first | done | with_reducible rfl
        go_simp
        refine wpAnyH_oneG 6 (by kernel_rfl) rfl (by rfl) ?_
        refine wp_store_rw 26 (.tmp 2) (.tmp 59) rfl w.heap.size hs (by with_unfolding_all rfl) (by with_unfolding_all rfl) 26 hdr0 Z4.out (hdr_sizeL hs HLS.out) HL2S.out HOS.out ?_
        intro w99 R99 O99
        have hS1 := R4.out.only O99.out (by have := B2S.out; omega)
        refine ⟨hS1, ?_⟩
        go_simp
        refine wpAnyH_take (i := 7) (v := ?_) rfl (by kernel_rfl) (by kernel_rfl) (by kernel_rfl) (fun _ _ _ h => h) (Or.inl ⟨by rfl, ?_⟩) hS1 ?_
        rotate_left 1
        · intro u hu
          go_simp
          first | done | with_reducible rfl
        go_simp
        refine wpAnyH_take (i := 8) (v := ?_) rfl (by kernel_rfl) (by kernel_rfl) (by kernel_rfl) (fun _ _ _ h => h) (Or.inl ⟨by rfl, ?_⟩) hS1 ?_
        rotate_left 1
        · intro u hu
          go_simp
          first | done | with_reducible rfl
        go_simp
        refine wpAnyH_take (i := 9) (v := ?_) rfl (by kernel_rfl) (by kernel_rfl) (by kernel_rfl) (fun _ _ _ h => h) (Or.inl ⟨by rfl, ?_⟩) hS1 ?_
        rotate_left 1
        · intro u hu
          go_simp
          first | done | with_reducible rfl
        go_simp
        refine wpAnyH_done (by kernel_rfl) ?_ _
        go_wp2_with fail
        refine ret_rw3 rfl w.heap.size 26 hs _ rfl R99.out Try.underlying26 rfl (hdr_sizeL hs HLS.out) rfl ?_
        rw [HR.out]
        have HF := (((HWN.out.below B4.out).base (base' := w.heap.size + 1) (by simp)).only O99.out (Nat.lt_succ_self _)).base (Nat.le_succ _)
        rw [HNLE.out, HLGE.out] at HF
        exact ⟨hs, rfl, HF, KB4.out.trans (O99.out.below KB4.out.size (Nat.le_refl _))⟩
  · have HR : Hid (RR = errR q) := show _ = _ by rw [← HRR.out]; unfold finR; exact if_pos hq
    have tq : ((q : Int) != 0) = true := by simp; omega
    go_upto_region 3 with ((with_reducible refine wpList_store_rw rfl 26 (.tmp 6) (.tmp 14) rfl w2.heap.size hv ?hx ?hy 26 hdr0 ?hB (hdr_sizeL hv HLN.out) HL2.out HONE.out ?_); (case hx => with_unfolding_all rfl); (case hy => with_unfolding_all rfl); (case hB => exact heap_alloc_new w2 _); intro w3 R3 O3; have B3 : Hid (Below w2.heap.size w2 w3) := ((Below.refl _ w2).alloc (Nat.le_refl _) _).trans (O3.out.below (by simp) (Nat.le_refl _)); have Z3 := Lib.hid (Z2.out.below B3.out); have KB3 := Lib.hid (KB2.out.trans (B3.out.mono KB2.out.size)))
    go_wp2_with ((with_reducible refine wpList_store_rw rfl 26 (.tmp 2) (.tmp 20) rfl w.heap.size hdr0 ?hx ?hy 26 hdr0 Z3.out hdr0_size rfl hdr0_one ?_); (case hx => with_unfolding_all rfl); (case hy => with_unfolding_all rfl); intro w99 R99 O99)
    refine ret_rw3 rfl w.heap.size 26 hdr0 _ rfl R99.out Try.underlying26 rfl hdr_size rfl ?_
    rw [HR.out]
    exact ⟨hdr0, rfl, hdr0_w _ _, KB3.out.trans (O99.out.below KB3.out.size (Nat.le_refl _))⟩
end Go.Proofs.Ytonoljcgcfjkmaa
