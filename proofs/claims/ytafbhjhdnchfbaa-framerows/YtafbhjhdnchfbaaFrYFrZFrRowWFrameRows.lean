/-
  The document's plain and ranges.
-/
import Derived.Test.YtafbhjhdnchfbaaFrE
import Derived.Test.YtafbhjhdnchfbaaFrT
import Derived.Test.YtafbhjhdnchfbaaFrArg
import Derived.Test.YtafbhjhdnchfbaaFrQ
import Derived.Test.YtafbhjhdnchfbaaFrU
import Derived.Test.YtafbhjhdnchfbaaFrRaFrRcFrReWFrameReads
namespace Go.Proofs.Ytafbhjhdnchfbaa
open Go.RowKit
set_option linter.unusedVariables false

set_option maxHeartbeats 4000000 in
theorem plain_any (f : Fr) (p : Fp) (w : World) (hr : f.rs.length = p.rn) (hd : f.data.length = p.dn) (hc : f.cid.length = p.cn) (ht : f.tok.length = p.tn) (b : Bool) (hb : b = true ↔ plainF f) :
    Calls Try.prog 37 #[.agg (frV f p).toArray] w fun e w' => e = .returned (.bool b) ∧ Below w.heap.size w w' := by
  obtain ⟨k, n, d, rs, id, of, fi, da, ci, tk⟩ := f
  obtain ⟨ra, rn, rc, dA, dn, dc, ca, cn, cc, ta, tn, tc⟩ := p
  simp only [plainF] at hb hr hd hc ht
  have B0 : Hid (∀ o1, Below w.heap.size w (w.alloc o1)) := fun _ => (Below.refl _ _).alloc (Nat.le_refl _) _
  have nil_iff : ∀ {α : Type} (l : List α) (m : Nat), l.length = m → (l = [] ↔ m = 0) := fun l m h => by
    rw [← h]
    exact List.length_eq_zero_iff.symm
  rw [nil_iff rs rn hr, nil_iff da dn hd, nil_iff ci cn hc, nil_iff tk tn ht] at hb
  clear nil_iff hr hd hc ht
  have no : ∀ P : Prop, ¬ P → (b = true ↔ P) → b = false := fun P hP h => by
    cases b with
    | false => rfl
    | true => exact absurd (h.1 rfl) hP
  unfold frV
  by_cases h1 : n = 0
  rotate_left
  · obtain rfl := no _ (by omega) hb
    have t : ((n : Int) == 0) = false := by simp; omega
    clear hb no
    go_enter Try.func37, Try.ntmps37
    go_wp2
    go_ret
    exact ⟨rfl, B0.out _⟩
  have t1 : ((n : Int) == 0) = true := by simp; omega
  by_cases h2 : d = 0
  rotate_left
  · obtain rfl := no _ (by omega) hb
    have t : ((d : Int) == 0) = false := by simp; omega
    clear hb no
    go_enter Try.func37, Try.ntmps37
    go_wp2
    go_ret
    exact ⟨rfl, B0.out _⟩
  have t2 : ((d : Int) == 0) = true := by simp; omega
  by_cases h3 : rn = 0
  rotate_left
  · obtain rfl := no _ (by omega) hb
    have t : ((rn : Int) == 0) = false := by simp; omega
    clear hb no
    go_enter Try.func37, Try.ntmps37
    go_wp2
    go_ret
    exact ⟨rfl, B0.out _⟩
  have t3 : ((rn : Int) == 0) = true := by simp; omega
  by_cases h4 : id = 0
  rotate_left
  · obtain rfl := no _ (by omega) hb
    have t : ((id : Int) == 0) = false := by simp; omega
    clear hb no
    go_enter Try.func37, Try.ntmps37
    go_wp2
    go_ret
    exact ⟨rfl, B0.out _⟩
  have t4 : ((id : Int) == 0) = true := by simp; omega
  by_cases h5 : of = 0
  rotate_left
  · obtain rfl := no _ (by omega) hb
    have t : ((of : Int) == 0) = false := by simp; omega
    clear hb no
    go_enter Try.func37, Try.ntmps37
    go_wp2
    go_ret
    exact ⟨rfl, B0.out _⟩
  have t5 : ((of : Int) == 0) = true := by simp; omega
  cases fi with
  | true =>
    obtain rfl := no _ (by simp) hb
    clear hb no
    go_enter Try.func37, Try.ntmps37
    go_wp2
    go_ret
    exact ⟨rfl, B0.out _⟩
  | false =>
  by_cases h7 : dn = 0
  rotate_left
  · obtain rfl := no _ (by omega) hb
    have t : ((dn : Int) == 0) = false := by simp; omega
    clear hb no
    go_enter Try.func37, Try.ntmps37
    go_wp2
    go_ret
    exact ⟨rfl, B0.out _⟩
  have t7 : ((dn : Int) == 0) = true := by simp; omega
  by_cases h8 : cn = 0
  rotate_left
  · obtain rfl := no _ (by omega) hb
    have t : ((cn : Int) == 0) = false := by simp; omega
    clear hb no
    go_enter Try.func37, Try.ntmps37
    go_wp2
    go_ret
    exact ⟨rfl, B0.out _⟩
  have t8 : ((cn : Int) == 0) = true := by simp; omega
  by_cases h9 : tn = 0
  rotate_left
  · obtain rfl := no _ (by omega) hb
    have t : ((tn : Int) == 0) = false := by simp; omega
    clear hb no
    go_enter Try.func37, Try.ntmps37
    go_wp2
    go_ret
    exact ⟨rfl, B0.out _⟩
  have t9 : ((tn : Int) == 0) = true := by simp; omega
  obtain rfl : b = true := hb.2 (by simp [h1, h2, h3, h4, h5, h7, h8, h9])
  clear hb no
  go_enter Try.func37, Try.ntmps37
  go_wp2
  go_ret
  exact ⟨rfl, B0.out _⟩
set_option maxHeartbeats 4000000 in
theorem rranges_any (rs : List (Nat × Nat)) (A : Option Addr) (n c B : Nat) (w : World) (h : SlR w B A n rs) (hr : ∀ x ∈ rs, x.1 < 18446744073709551616 ∧ x.2 < 18446744073709551616) (hm : n ≤ maxLen) (b : Bool) (hb : b = true ↔ RangesP rs) :
    Calls Try.prog 36 #[.slice A n c] w fun e w' => e = .returned (.bool b) ∧ Below w.heap.size w w' := by
  have hl := h.1
  have hn63 : n ≤ 9223372036854775807 := by unfold maxLen at hm; omega
  have HX : Hid (∀ j, j < n → (rs.getD j (0, 0)).1 < 18446744073709551616 ∧ (rs.getD j (0, 0)).2 < 18446744073709551616) := fun j hj => by
    rw [getD_at _ _ _ (by omega)]
    exact hr _ (List.getElem_mem _)
  have HI := Lib.hid (hb.trans (ranges_index rs))
  rw [hl] at HI
  have BN : Hid (∀ k, Below w.heap.size w (w.drewN k)) := fun k => ⟨rfl, rfl, rfl, Nat.le_refl _, fun _ _ => rfl⟩
  have H0 := Lib.hid h
  have no : ∀ j, j < n → ¬ condR rs j → b = false := fun j hj hc => by
    cases b with
    | false => rfl
    | true => exact absurd ((HI.out.1 rfl).2.2 j hj) hc
  have NO := Lib.hid no
  clear hb hl hr hm h no
  go_enter Try.func36, Try.ntmps36
  go_wp2_with fail
  go_loopw [3] (fun i wr => ∃ j k : Nat, j ≤ n ∧ i = .int .i64 j ∧ wr = w.drewN k ∧ Hid (∀ i, i < j → condR rs i)) (fun i _ => n - (intOf i).toNat)
  case atStart => exact ⟨0, 0, by omega, rfl, rfl, fun i hi => absurd hi (by omega)⟩
  case round =>
    obtain ⟨j, m, hj, rfl, rfl, HJ⟩ := hrel
    by_cases hlt : j < n
    · obtain ⟨bk, off, rfl, hbk, _⟩ := H0.out.2 (by omega)
      obtain ⟨⟨lo, hi⟩, hx⟩ : ∃ x, rs.getD j (0, 0) = x := ⟨_, rfl⟩
      have hxj := HX.out j hlt
      have cj := slR_at H0.out j hlt
      rw [hx] at hxj cj
      simp only at hxj cj
      obtain ⟨cj1, cj2⟩ := cj
      have Hx := Lib.hid hx
      clear hx
      by_cases h1 : hi < lo
      · obtain rfl := NO.out j hlt (by unfold condR; rw [Hx.out]; simp only; omega)
        have t1 : decide ((hi : Int) < (lo : Int)) = true := decide_eq_true (by omega)
        go_wp2_with fail
        go_quiet (fail)
        go_wp2
        go_ret
        exact ⟨rfl, by simp only [World.drewN_drewN]; exact BN.out _⟩
      · have t1 : decide ((hi : Int) < (lo : Int)) = false := decide_eq_false (by omega)
        by_cases h2 : 4611686018427387903 < hi
        · obtain rfl := NO.out j hlt (by unfold condR maxV; rw [Hx.out]; simp only; omega)
          have t2 : decide ((4611686018427387903 : Int) < (hi : Int)) = true := decide_eq_true (by omega)
          go_wp2_with fail
          go_quiet (fail)
          go_wp2
          go_ret
          exact ⟨rfl, by simp only [World.drewN_drewN]; exact BN.out _⟩
        · have t2 : decide ((4611686018427387903 : Int) < (hi : Int)) = false := decide_eq_false (by omega)
          by_cases hj0 : j = 0
          · subst hj0
            simp only [Nat.zero_mul, Nat.add_zero] at cj1 cj2
            have HJ1 : Hid (∀ i, i < 0 + 1 → condR rs i) := fun i hi' => by
              obtain rfl : i = 0 := by omega
              refine ⟨?_, ?_, fun h => absurd h (by omega)⟩
              · rw [Hx.out]; simp only; omega
              · rw [Hx.out]; unfold maxV; simp only; omega
            go_wp2_with fail
            go_quiet (fail)
            go_wp2
            go_roundw
            case rel => exact ⟨0 + 1, m + nq, by omega, by go_num, by simp, HJ1⟩
            case measure => simp [intOf]; omega
          · obtain ⟨i, rfl⟩ : ∃ i, j = i + 1 := ⟨j - 1, by omega⟩
            obtain ⟨⟨plo, phi⟩, hp⟩ : ∃ x, rs.getD i (0, 0) = x := ⟨_, rfl⟩
            have hpi := HX.out i (by omega)
            have cI := slR_at H0.out i (by omega)
            rw [hp] at hpi cI
            simp only at hpi cI
            obtain ⟨ci1, ci2⟩ := cI
            have Hp := Lib.hid hp
            have wi : IntKind.i64.wrap ((i : Int) + 1 - 1) = (i : Int) := by rw [show (i : Int) + 1 - 1 = (i : Int) by omega]; exact IntWalk.i64_in _ (by omega)
            have wi2 : IntKind.i64.wrap (i : Int) = (i : Int) := IntWalk.i64_in _ (by omega)
            have hin : i < n := by omega
            have tj : decide ((0 : Int) < (i : Int) + 1) = true := decide_eq_true (by omega)
            have hcn : hi + 2 ≤ plo ∨ b = false := by
              by_cases h : hi + 2 ≤ plo
              · exact .inl h
              · refine .inr (NO.out (i + 1) hlt ?_)
                unfold condR
                intro hc
                have := hc.2.2 (by omega)
                rw [Hx.out, show i + 1 - 1 = i by omega, Hp.out] at this
                exact h this
            clear hp ci2
            by_cases h3 : plo < 2
            · obtain rfl : b = false := hcn.resolve_left (by omega)
              have t3 : decide ((plo : Int) < 2) = true := decide_eq_true (by omega)
              clear hcn
              go_wp2_with fail
              go_quiet (fail)
              go_wp2
              go_ret
              exact ⟨rfl, by simp only [World.drewN_drewN]; exact BN.out _⟩
            · have t3 : decide ((plo : Int) < 2) = false := decide_eq_false (by omega)
              obtain ⟨d, hd⟩ : ∃ d : Nat, plo - 2 = d := ⟨_, rfl⟩
              have wd : IntKind.u64.wrap ((plo : Int) - 2) = (d : Int) := by rw [wrap_u64N]; omega
              by_cases h4 : d < hi
              · obtain rfl : b = false := hcn.resolve_left (by omega)
                have t4 : decide ((d : Int) < (hi : Int)) = true := decide_eq_true (by omega)
                clear hcn hd
                go_wp2_with fail
                go_quiet (fail)
                go_wp2
                go_ret
                exact ⟨rfl, by simp only [World.drewN_drewN]; exact BN.out _⟩
              · have t4 : decide ((d : Int) < (hi : Int)) = false := decide_eq_false (by omega)
                have HJ1 : Hid (∀ k, k < i + 1 + 1 → condR rs k) := fun k hk => by
                  by_cases hk1 : k < i + 1
                  · exact HJ.out k hk1
                  · obtain rfl : k = i + 1 := by omega
                    refine ⟨?_, ?_, fun _ => ?_⟩
                    · rw [Hx.out]; simp only; omega
                    · rw [Hx.out]; unfold maxV; simp only; omega
                    · rw [Hx.out, show i + 1 - 1 = i by omega, Hp.out]; simp only; omega
                clear hcn hd
                go_wp2_with fail
                go_quiet (fail)
                go_wp2
                go_roundw
                case rel => exact ⟨i + 1 + 1, m + nq, by omega, by go_num, by simp, HJ1⟩
                case measure => simp [intOf]; omega
    · obtain rfl : j = n := by omega
      by_cases h1 : 1 ≤ j
      · by_cases h8 : j ≤ 8
        · obtain rfl : b = true := HI.out.2 ⟨h1, h8, HJ.out⟩
          have t1 : decide ((1 : Int) ≤ (j : Int)) = true := decide_eq_true (by omega)
          have t2 : decide ((j : Int) ≤ 8) = true := decide_eq_true (by omega)
          go_wp2
          go_ret
          exact ⟨rfl, BN.out _⟩
        · obtain rfl : b = false := by
            cases b with
            | false => rfl
            | true => exact absurd (HI.out.1 rfl).2.1 h8
          have t1 : decide ((1 : Int) ≤ (j : Int)) = true := decide_eq_true (by omega)
          have t2 : decide ((j : Int) ≤ 8) = false := decide_eq_false (by omega)
          go_wp2
          go_ret
          exact ⟨rfl, BN.out _⟩
      · obtain rfl : b = false := by
          cases b with
          | false => rfl
          | true => exact absurd (HI.out.1 rfl).1 h1
        have t1 : decide ((1 : Int) ≤ (j : Int)) = false := decide_eq_false (by omega)
        go_wp2
        go_ret
        exact ⟨rfl, BN.out _⟩
end Go.Proofs.Ytafbhjhdnchfbaa

/-
  Whether a frame may be, by the document: May. (A way a kind, written out by a small program.)
-/
namespace Go.Proofs.Ytafbhjhdnchfbaa
open Go.RowKit
set_option linter.unusedVariables false

theorem bool_iff {b b2 : Bool} {P Q : Prop} (hb : b = true ↔ P ∧ Q) (hP : P) (hb2 : b2 = true ↔ Q) : b = b2 := by
  rw [← Bool.coe_iff_coe, hb, hb2]
  exact ⟨fun h => h.2, fun h => ⟨hP, h⟩⟩
theorem bool_no {b : Bool} {P Q : Prop} (hb : b = true ↔ P ∧ Q) (hP : ¬ P) : b = false := by
  cases b with
  | false => rfl
  | true => exact absurd (hb.1 rfl).1 hP
theorem bool_ex (P : Prop) : ∃ b : Bool, b = true ↔ P := ⟨@decide P (Classical.propDecidable _), by simp⟩
set_option maxHeartbeats 8000000 in
set_option maxRecDepth 4000 in
theorem rmay_any (f : Fr) (p : Fp) (B : Nat) (w : World) (hB : B ≤ w.heap.size) (hf : FrL w B f p) (hn : FrN f) (b : Bool) (hb : b = true ↔ MayF f) :
    Calls Try.prog 15 #[.agg (frV f p).toArray] w fun e w' => e = .returned (.bool b) ∧ Below w.heap.size w w' := by
  have HP : Hid (∀ u : World, Below w.heap.size w u → FrL u B f p) := fun u hu => hf.below (hu.mono hB)
  obtain ⟨k, n, d, rs, id, of, fi, da, ci, tk⟩ := f
  obtain ⟨ra, rn, rc, dA, dn, dc, ca, cn, cc, ta, tn, tc⟩ := p
  obtain ⟨nk, nn, nd, ni, no, nr⟩ := hn
  simp only at nk nn nd ni no
  have HNR := Lib.hid nr
  have lrn : rs.length = rn := hf.r.1
  have ldn : da.length = dn := hf.d.1
  have lcn : ci.length = cn := hf.c.1
  have ltn : tk.length = tn := hf.t.1
  have hrn : rn ≤ maxLen := by have := hf.rb; simp only at this; omega
  have hdn : dn ≤ 9223372036854775807 := by have := hf.db; simp only [maxLen] at this; omega
  have hcn : cn ≤ 9223372036854775807 := by have := hf.cb; simp only [maxLen] at this; omega
  have htn : tn ≤ 9223372036854775807 := by have := hf.tb; simp only [maxLen] at this; omega
  have wdn : IntKind.u64.wrap (dn : Int) = (dn : Int) := by rw [wrap_u64N]; omega
  have B0 : Hid (∀ o1 o2, Below w.heap.size w ((w.alloc o1).alloc o2)) := fun _ _ => ((Below.refl _ _).alloc (Nat.le_refl _) _).alloc (by simp) _
  have HRN := Lib.hid hrn
  simp only [MayF] at hb
  clear hf nr hrn
  have hways : k = 0 ∨ k = 1 ∨ k = 2 ∨ k = 6 ∨ k = 8 ∨ k = 16 ∨ k = 24 ∨ k = 25 ∨ k = 26 ∨ k = 27 ∨ k = 28 ∨ k = 30 ∨ (k ≠ 0 ∧ k ≠ 1 ∧ k ≠ 2 ∧ k ≠ 6 ∧ k ≠ 8 ∧ k ≠ 16 ∧ k ≠ 24 ∧ k ≠ 25 ∧ k ≠ 26 ∧ k ≠ 27 ∧ k ≠ 28 ∧ k ≠ 30) := by omega
  rcases hways with rfl | rfl | rfl | rfl | rfl | rfl | rfl | rfl | rfl | rfl | rfl | rfl | ⟨h0, h1, h2, h6, h8, h16, h24, h25, h26, h27, h28, h30⟩
  · simp at hb
    try unfold maxV at hb
    by_cases c1 : 1 ≤ n
    · have t1 : decide ((1 : Int) ≤ (n : Int)) = true := by simp; omega
      by_cases c2 : n ≤ 16384
      · have t2 : decide ((n : Int) ≤ 16384) = true := by simp; omega
        obtain ⟨b2, hb2⟩ := bool_ex (plainF ⟨0, 0, d, rs, id, of, fi, da, ci, tk⟩)
        obtain rfl := bool_iff hb ⟨c1, c2⟩ hb2
        have HPL : Hid (∀ u : World, Calls Try.prog 37 #[.agg #[.int .i64 0, .int .u64 0, .int .u64 (d : Int), .slice ra rn rc, .int .u64 (id : Int), .int .u64 (of : Int), .bool fi, .slice dA dn dc, .slice ca cn cc, .slice ta tn tc]] u fun e w' => e = .returned (.bool b) ∧ Below u.heap.size u w') := fun u => plain_any ⟨0, 0, d, rs, id, of, fi, da, ci, tk⟩ ⟨ra, rn, rc, dA, dn, dc, ca, cn, cc, ta, tn, tc⟩ u lrn ldn lcn ltn b hb2
        clear hb hb2
        unfold frV
        go_enter Try.func15, Try.ntmps15
        go_wp2_with fail
        (with_reducible refine (HPL.out _).mono ?_)
        rintro e1 w1 ⟨rfl, b1⟩
        go_wp2_with fail
        go_ret
        exact ⟨by first | rfl | simp, (B0.out _ _).trans (b1.mono (by simp; omega))⟩
      · have t2 : decide ((n : Int) ≤ 16384) = false := by simp; omega
        obtain rfl := bool_no hb (by omega)
        clear hb
        unfold frV
        go_enter Try.func15, Try.ntmps15
        go_wp2
        go_ret
        exact ⟨rfl, B0.out _ _⟩
    · have t1 : decide ((1 : Int) ≤ (n : Int)) = false := by simp; omega
      obtain rfl := bool_no hb (by omega)
      clear hb
      unfold frV
      go_enter Try.func15, Try.ntmps15
      go_wp2
      go_ret
      exact ⟨rfl, B0.out _ _⟩
  · simp at hb
    try unfold maxV at hb
    obtain ⟨b2, hb2⟩ := bool_ex (plainF ⟨1, n, d, rs, id, of, fi, da, ci, tk⟩)
    obtain rfl : b = b2 := by rw [← Bool.coe_iff_coe, hb, hb2]
    have HPL : Hid (∀ u : World, Calls Try.prog 37 #[.agg #[.int .i64 1, .int .u64 (n : Int), .int .u64 (d : Int), .slice ra rn rc, .int .u64 (id : Int), .int .u64 (of : Int), .bool fi, .slice dA dn dc, .slice ca cn cc, .slice ta tn tc]] u fun e w' => e = .returned (.bool b) ∧ Below u.heap.size u w') := fun u => plain_any ⟨1, n, d, rs, id, of, fi, da, ci, tk⟩ ⟨ra, rn, rc, dA, dn, dc, ca, cn, cc, ta, tn, tc⟩ u lrn ldn lcn ltn b hb2
    clear hb hb2
    unfold frV
    go_enter Try.func15, Try.ntmps15
    go_wp2_with fail
    (with_reducible refine (HPL.out _).mono ?_)
    rintro e1 w1 ⟨rfl, b1⟩
    go_wp2_with fail
    go_ret
    exact ⟨by first | rfl | simp, (B0.out _ _).trans (b1.mono (by simp; omega))⟩
  · simp at hb
    try unfold maxV at hb
    by_cases c1 : d ≤ 4611686018427387903
    · have t1 : decide ((d : Int) ≤ 4611686018427387903) = true := by simp; omega
      have HM := fun (c : Bool) (hc : c = true ↔ RangesP rs) => Lib.hid (fun u hu => rranges_any rs ra rn rc B u (HP.out u hu).r HNR.out HRN.out c hc)
      obtain ⟨c2, hc2⟩ := bool_ex (RangesP rs)
      replace HM := HM c2 hc2
      cases c2 with
      | true =>
        have hR : RangesP rs := hc2.1 rfl
        obtain ⟨b2, hb2⟩ := bool_ex (plainF ⟨2, n, 0, [], id, of, fi, da, ci, tk⟩)
        obtain rfl := bool_iff hb ⟨c1, hR⟩ hb2
        have HPL := Lib.hid (fun u => plain_any ⟨2, n, 0, [], id, of, fi, da, ci, tk⟩ ⟨none, 0, 0, dA, dn, dc, ca, cn, cc, ta, tn, tc⟩ u rfl ldn lcn ltn b hb2)
        obtain ⟨gs, hgs⟩ : ∃ gs, frV ⟨2, n, 0, [], id, of, fi, da, ci, tk⟩ ⟨none, 0, 0, dA, dn, dc, ca, cn, cc, ta, tn, tc⟩ = gs := ⟨_, rfl⟩
        have HGS : Hid (gs = [.int .i64 2, .int .u64 (n : Int), .int .u64 0, .slice none 0 0, .int .u64 (id : Int), .int .u64 (of : Int), .bool fi, .slice dA dn dc, .slice ca cn cc, .slice ta tn tc]) := show _ = _ by rw [← hgs]; rfl
        have HSZ : Hid ((Try.prog.info? 26).map (·.size) = some gs.length) := show _ = _ by rw [← hgs]; exact fr_size
        rw [hgs] at HPL
        clear hb hb2 hc2 hgs hR
        unfold frV
        go_enter Try.func15, Try.ntmps15
        go_wp2_with fail
        (with_reducible refine (HM.out _ ?hu).mono ?_)
        case hu => exact B0.out _ _
        rintro e1 w1 ⟨rfl, b1⟩
        have R1 : Hid (Rw w1 (w.heap.size + 1) 26 gs) := (show Rw _ _ _ gs by rw [HGS.out]; exact heap_allocs w [_, _] 1 _ rfl).below b1
        have B1 : Hid (Below w.heap.size w w1) := (B0.out _ _).trans (b1.mono (by simp; omega))
        clear b1
        go_wp2_with ((with_reducible refine wpList_load_rwG 101 rfl 26 (.tmp 3) rfl ?hw (w.heap.size + 1) ?hx 26 gs R1.out _ Try.underlying26 rfl HSZ.out ?_); (case hw => rfl); (case hx => with_unfolding_all rfl))
        (with_reducible refine (HPL.out w1).mono ?_)
        rintro e2 w2 ⟨rfl, b2⟩
        go_wp2_with fail
        go_ret
        exact ⟨by first | rfl | simp, B1.out.trans (b2.mono B1.out.size)⟩
      | false =>
        have hR : ¬ RangesP rs := fun h => by have := hc2.2 h; simp at this
        obtain rfl := bool_no hb (fun h => hR h.2)
        clear hb hc2 hR
        unfold frV
        go_enter Try.func15, Try.ntmps15
        go_wp2_with fail
        (with_reducible refine (HM.out _ ?hu).mono ?_)
        case hu => exact B0.out _ _
        rintro e1 w1 ⟨rfl, b1⟩
        go_wp2_with fail
        go_ret
        exact ⟨by first | rfl | simp, (B0.out _ _).trans (b1.mono (by simp; omega))⟩
    · have t1 : decide ((d : Int) ≤ 4611686018427387903) = false := by simp; omega
      obtain rfl := bool_no hb (by omega)
      clear hb
      unfold frV
      go_enter Try.func15, Try.ntmps15
      go_wp2
      go_ret
      exact ⟨rfl, B0.out _ _⟩
  · simp at hb
    rw [ldn] at hb
    try unfold maxV at hb
    by_cases c1 : dn < 16384
    · have t1 : decide ((dn : Int) < 16384) = true := by simp; omega
      by_cases c2 : id ≤ 4611686018427387903
      · have t2 : decide ((id : Int) ≤ 4611686018427387903) = true := by simp; omega
        obtain ⟨dd, hdd⟩ : ∃ dd : Nat, 4611686018427387903 - dn = dd := ⟨_, rfl⟩
        have wdd : (4611686018427387903 : Int) - (dn : Int) = (dd : Int) := by omega
        by_cases c3 : of ≤ dd
        · have t3 : decide ((of : Int) ≤ (dd : Int)) = true := by simp; omega
          obtain ⟨b2, hb2⟩ := bool_ex (plainF ⟨6, n, d, rs, id, 0, fi, [], ci, tk⟩)
          obtain rfl := bool_iff hb ⟨c1, c2, by omega⟩ hb2
          have HPL : Hid (∀ u : World, Calls Try.prog 37 #[.agg #[.int .i64 6, .int .u64 (n : Int), .int .u64 (d : Int), .slice ra rn rc, .int .u64 (id : Int), .int .u64 0, .bool fi, .slice none 0 0, .slice ca cn cc, .slice ta tn tc]] u fun e w' => e = .returned (.bool b) ∧ Below u.heap.size u w') := fun u => plain_any ⟨6, n, d, rs, id, 0, fi, [], ci, tk⟩ ⟨ra, rn, rc, none, 0, 0, ca, cn, cc, ta, tn, tc⟩ u lrn rfl lcn ltn b hb2
          clear hb hb2
          unfold frV
          go_enter Try.func15, Try.ntmps15
          go_wp2_with fail
          (with_reducible refine (HPL.out _).mono ?_)
          rintro e1 w1 ⟨rfl, b1⟩
          go_wp2_with fail
          go_ret
          exact ⟨by first | rfl | simp, (B0.out _ _).trans (b1.mono (by simp; omega))⟩
        · have t3 : decide ((of : Int) ≤ (dd : Int)) = false := by simp; omega
          obtain rfl := bool_no hb (by omega)
          clear hb
          unfold frV
          go_enter Try.func15, Try.ntmps15
          go_wp2
          go_ret
          exact ⟨rfl, B0.out _ _⟩
      · have t2 : decide ((id : Int) ≤ 4611686018427387903) = false := by simp; omega
        obtain rfl := bool_no hb (by omega)
        clear hb
        unfold frV
        go_enter Try.func15, Try.ntmps15
        go_wp2
        go_ret
        exact ⟨rfl, B0.out _ _⟩
    · have t1 : decide ((dn : Int) < 16384) = false := by simp; omega
      obtain rfl := bool_no hb (by omega)
      clear hb
      unfold frV
      go_enter Try.func15, Try.ntmps15
      go_wp2
      go_ret
      exact ⟨rfl, B0.out _ _⟩
  · simp at hb
    rw [ldn] at hb
    try unfold maxV at hb
    by_cases c1 : dn < 16384
    · have t1 : decide ((dn : Int) < 16384) = true := by simp; omega
      by_cases c2 : id ≤ 4611686018427387903
      · have t2 : decide ((id : Int) ≤ 4611686018427387903) = true := by simp; omega
        obtain ⟨dd, hdd⟩ : ∃ dd : Nat, 4611686018427387903 - dn = dd := ⟨_, rfl⟩
        have wdd : (4611686018427387903 : Int) - (dn : Int) = (dd : Int) := by omega
        by_cases c3 : of ≤ dd
        · have t3 : decide ((of : Int) ≤ (dd : Int)) = true := by simp; omega
          obtain ⟨b2, hb2⟩ := bool_ex (plainF ⟨8, n, d, rs, 0, 0, false, [], ci, tk⟩)
          obtain rfl := bool_iff hb ⟨c1, c2, by omega⟩ hb2
          have HPL : Hid (∀ u : World, Calls Try.prog 37 #[.agg #[.int .i64 8, .int .u64 (n : Int), .int .u64 (d : Int), .slice ra rn rc, .int .u64 0, .int .u64 0, .bool false, .slice none 0 0, .slice ca cn cc, .slice ta tn tc]] u fun e w' => e = .returned (.bool b) ∧ Below u.heap.size u w') := fun u => plain_any ⟨8, n, d, rs, 0, 0, false, [], ci, tk⟩ ⟨ra, rn, rc, none, 0, 0, ca, cn, cc, ta, tn, tc⟩ u lrn rfl lcn ltn b hb2
          clear hb hb2
          unfold frV
          go_enter Try.func15, Try.ntmps15
          go_wp2_with fail
          (with_reducible refine (HPL.out _).mono ?_)
          rintro e1 w1 ⟨rfl, b1⟩
          go_wp2_with fail
          go_ret
          exact ⟨by first | rfl | simp, (B0.out _ _).trans (b1.mono (by simp; omega))⟩
        · have t3 : decide ((of : Int) ≤ (dd : Int)) = false := by simp; omega
          obtain rfl := bool_no hb (by omega)
          clear hb
          unfold frV
          go_enter Try.func15, Try.ntmps15
          go_wp2
          go_ret
          exact ⟨rfl, B0.out _ _⟩
      · have t2 : decide ((id : Int) ≤ 4611686018427387903) = false := by simp; omega
        obtain rfl := bool_no hb (by omega)
        clear hb
        unfold frV
        go_enter Try.func15, Try.ntmps15
        go_wp2
        go_ret
        exact ⟨rfl, B0.out _ _⟩
    · have t1 : decide ((dn : Int) < 16384) = false := by simp; omega
      obtain rfl := bool_no hb (by omega)
      clear hb
      unfold frV
      go_enter Try.func15, Try.ntmps15
      go_wp2
      go_ret
      exact ⟨rfl, B0.out _ _⟩
  · simp at hb
    try unfold maxV at hb
    by_cases c1 : n ≤ 4611686018427387903
    · have t1 : decide ((n : Int) ≤ 4611686018427387903) = true := by simp; omega
      obtain ⟨b2, hb2⟩ := bool_ex (plainF ⟨16, 0, d, rs, id, of, fi, da, ci, tk⟩)
      obtain rfl := bool_iff hb c1 hb2
      have HPL : Hid (∀ u : World, Calls Try.prog 37 #[.agg #[.int .i64 16, .int .u64 0, .int .u64 (d : Int), .slice ra rn rc, .int .u64 (id : Int), .int .u64 (of : Int), .bool fi, .slice dA dn dc, .slice ca cn cc, .slice ta tn tc]] u fun e w' => e = .returned (.bool b) ∧ Below u.heap.size u w') := fun u => plain_any ⟨16, 0, d, rs, id, of, fi, da, ci, tk⟩ ⟨ra, rn, rc, dA, dn, dc, ca, cn, cc, ta, tn, tc⟩ u lrn ldn lcn ltn b hb2
      clear hb hb2
      unfold frV
      go_enter Try.func15, Try.ntmps15
      go_wp2_with fail
      (with_reducible refine (HPL.out _).mono ?_)
      rintro e1 w1 ⟨rfl, b1⟩
      go_wp2_with fail
      go_ret
      exact ⟨by first | rfl | simp, (B0.out _ _).trans (b1.mono (by simp; omega))⟩
    · have t1 : decide ((n : Int) ≤ 4611686018427387903) = false := by simp; omega
      obtain rfl := bool_no hb c1
      clear hb
      unfold frV
      go_enter Try.func15, Try.ntmps15
      go_wp2
      go_ret
      exact ⟨rfl, B0.out _ _⟩
  · simp at hb
    rw [lcn, ltn] at hb
    try unfold maxV at hb
    by_cases c1 : n ≤ 4611686018427387903
    · have t1 : decide ((n : Int) ≤ 4611686018427387903) = true := by simp; omega
      by_cases c2 : cn = 8
      · have t2 : ((cn : Int) == 8) = true := by simp; omega
        by_cases c3 : tn = 16
        · have t3 : ((tn : Int) == 16) = true := by simp; omega
          obtain ⟨b2, hb2⟩ := bool_ex (plainF ⟨24, 0, d, rs, id, of, fi, da, [], []⟩)
          obtain rfl := bool_iff hb ⟨c1, c2, c3⟩ hb2
          have HPL : Hid (∀ u : World, Calls Try.prog 37 #[.agg #[.int .i64 24, .int .u64 0, .int .u64 (d : Int), .slice ra rn rc, .int .u64 (id : Int), .int .u64 (of : Int), .bool fi, .slice dA dn dc, .slice none 0 0, .slice none 0 0]] u fun e w' => e = .returned (.bool b) ∧ Below u.heap.size u w') := fun u => plain_any ⟨24, 0, d, rs, id, of, fi, da, [], []⟩ ⟨ra, rn, rc, dA, dn, dc, none, 0, 0, none, 0, 0⟩ u lrn ldn rfl rfl b hb2
          clear hb hb2
          unfold frV
          go_enter Try.func15, Try.ntmps15
          go_wp2_with fail
          (with_reducible refine (HPL.out _).mono ?_)
          rintro e1 w1 ⟨rfl, b1⟩
          go_wp2_with fail
          go_ret
          exact ⟨by first | rfl | simp, (B0.out _ _).trans (b1.mono (by simp; omega))⟩
        · have t3 : ((tn : Int) == 16) = false := by simp; omega
          obtain rfl := bool_no hb (by omega)
          clear hb
          unfold frV
          go_enter Try.func15, Try.ntmps15
          go_wp2
          go_ret
          exact ⟨rfl, B0.out _ _⟩
      · have t2 : ((cn : Int) == 8) = false := by simp; omega
        obtain rfl := bool_no hb (by omega)
        clear hb
        unfold frV
        go_enter Try.func15, Try.ntmps15
        go_wp2
        go_ret
        exact ⟨rfl, B0.out _ _⟩
    · have t1 : decide ((n : Int) ≤ 4611686018427387903) = false := by simp; omega
      obtain rfl := bool_no hb (by omega)
      clear hb
      unfold frV
      go_enter Try.func15, Try.ntmps15
      go_wp2
      go_ret
      exact ⟨rfl, B0.out _ _⟩
  · simp at hb
    try unfold maxV at hb
    by_cases c1 : n ≤ 4611686018427387903
    · have t1 : decide ((n : Int) ≤ 4611686018427387903) = true := by simp; omega
      obtain ⟨b2, hb2⟩ := bool_ex (plainF ⟨25, 0, d, rs, id, of, fi, da, ci, tk⟩)
      obtain rfl := bool_iff hb c1 hb2
      have HPL : Hid (∀ u : World, Calls Try.prog 37 #[.agg #[.int .i64 25, .int .u64 0, .int .u64 (d : Int), .slice ra rn rc, .int .u64 (id : Int), .int .u64 (of : Int), .bool fi, .slice dA dn dc, .slice ca cn cc, .slice ta tn tc]] u fun e w' => e = .returned (.bool b) ∧ Below u.heap.size u w') := fun u => plain_any ⟨25, 0, d, rs, id, of, fi, da, ci, tk⟩ ⟨ra, rn, rc, dA, dn, dc, ca, cn, cc, ta, tn, tc⟩ u lrn ldn lcn ltn b hb2
      clear hb hb2
      unfold frV
      go_enter Try.func15, Try.ntmps15
      go_wp2_with fail
      (with_reducible refine (HPL.out _).mono ?_)
      rintro e1 w1 ⟨rfl, b1⟩
      go_wp2_with fail
      go_ret
      exact ⟨by first | rfl | simp, (B0.out _ _).trans (b1.mono (by simp; omega))⟩
    · have t1 : decide ((n : Int) ≤ 4611686018427387903) = false := by simp; omega
      obtain rfl := bool_no hb c1
      clear hb
      unfold frV
      go_enter Try.func15, Try.ntmps15
      go_wp2
      go_ret
      exact ⟨rfl, B0.out _ _⟩
  · simp at hb
    rw [ldn] at hb
    try unfold maxV at hb
    by_cases c1 : dn = 8
    · have t1 : ((dn : Int) == 8) = true := by simp; omega
      obtain ⟨b2, hb2⟩ := bool_ex (plainF ⟨26, n, d, rs, id, of, fi, [], ci, tk⟩)
      obtain rfl := bool_iff hb c1 hb2
      have HPL : Hid (∀ u : World, Calls Try.prog 37 #[.agg #[.int .i64 26, .int .u64 (n : Int), .int .u64 (d : Int), .slice ra rn rc, .int .u64 (id : Int), .int .u64 (of : Int), .bool fi, .slice none 0 0, .slice ca cn cc, .slice ta tn tc]] u fun e w' => e = .returned (.bool b) ∧ Below u.heap.size u w') := fun u => plain_any ⟨26, n, d, rs, id, of, fi, [], ci, tk⟩ ⟨ra, rn, rc, none, 0, 0, ca, cn, cc, ta, tn, tc⟩ u lrn rfl lcn ltn b hb2
      clear hb hb2
      unfold frV
      go_enter Try.func15, Try.ntmps15
      go_wp2_with fail
      (with_reducible refine (HPL.out _).mono ?_)
      rintro e1 w1 ⟨rfl, b1⟩
      go_wp2_with fail
      go_ret
      exact ⟨by first | rfl | simp, (B0.out _ _).trans (b1.mono (by simp; omega))⟩
    · have t1 : ((dn : Int) == 8) = false := by simp; omega
      obtain rfl := bool_no hb c1
      clear hb
      unfold frV
      go_enter Try.func15, Try.ntmps15
      go_wp2
      go_ret
      exact ⟨rfl, B0.out _ _⟩
  · simp at hb
    rw [ldn] at hb
    try unfold maxV at hb
    by_cases c1 : dn = 8
    · have t1 : ((dn : Int) == 8) = true := by simp; omega
      obtain ⟨b2, hb2⟩ := bool_ex (plainF ⟨27, n, d, rs, id, of, fi, [], ci, tk⟩)
      obtain rfl := bool_iff hb c1 hb2
      have HPL : Hid (∀ u : World, Calls Try.prog 37 #[.agg #[.int .i64 27, .int .u64 (n : Int), .int .u64 (d : Int), .slice ra rn rc, .int .u64 (id : Int), .int .u64 (of : Int), .bool fi, .slice none 0 0, .slice ca cn cc, .slice ta tn tc]] u fun e w' => e = .returned (.bool b) ∧ Below u.heap.size u w') := fun u => plain_any ⟨27, n, d, rs, id, of, fi, [], ci, tk⟩ ⟨ra, rn, rc, none, 0, 0, ca, cn, cc, ta, tn, tc⟩ u lrn rfl lcn ltn b hb2
      clear hb hb2
      unfold frV
      go_enter Try.func15, Try.ntmps15
      go_wp2_with fail
      (with_reducible refine (HPL.out _).mono ?_)
      rintro e1 w1 ⟨rfl, b1⟩
      go_wp2_with fail
      go_ret
      exact ⟨by first | rfl | simp, (B0.out _ _).trans (b1.mono (by simp; omega))⟩
    · have t1 : ((dn : Int) == 8) = false := by simp; omega
      obtain rfl := bool_no hb c1
      clear hb
      unfold frV
      go_enter Try.func15, Try.ntmps15
      go_wp2
      go_ret
      exact ⟨rfl, B0.out _ _⟩
  · simp at hb
    try unfold maxV at hb
    by_cases c1 : n ≤ 4611686018427387903
    · have t1 : decide ((n : Int) ≤ 4611686018427387903) = true := by simp; omega
      obtain ⟨b2, hb2⟩ := bool_ex (plainF ⟨28, 0, d, rs, id, of, fi, da, ci, tk⟩)
      obtain rfl := bool_iff hb c1 hb2
      have HPL : Hid (∀ u : World, Calls Try.prog 37 #[.agg #[.int .i64 28, .int .u64 0, .int .u64 (d : Int), .slice ra rn rc, .int .u64 (id : Int), .int .u64 (of : Int), .bool fi, .slice dA dn dc, .slice ca cn cc, .slice ta tn tc]] u fun e w' => e = .returned (.bool b) ∧ Below u.heap.size u w') := fun u => plain_any ⟨28, 0, d, rs, id, of, fi, da, ci, tk⟩ ⟨ra, rn, rc, dA, dn, dc, ca, cn, cc, ta, tn, tc⟩ u lrn ldn lcn ltn b hb2
      clear hb hb2
      unfold frV
      go_enter Try.func15, Try.ntmps15
      go_wp2_with fail
      (with_reducible refine (HPL.out _).mono ?_)
      rintro e1 w1 ⟨rfl, b1⟩
      go_wp2_with fail
      go_ret
      exact ⟨by first | rfl | simp, (B0.out _ _).trans (b1.mono (by simp; omega))⟩
    · have t1 : decide ((n : Int) ≤ 4611686018427387903) = false := by simp; omega
      obtain rfl := bool_no hb c1
      clear hb
      unfold frV
      go_enter Try.func15, Try.ntmps15
      go_wp2
      go_ret
      exact ⟨rfl, B0.out _ _⟩
  · simp at hb
    try unfold maxV at hb
    obtain ⟨b2, hb2⟩ := bool_ex (plainF ⟨30, n, d, rs, id, of, fi, da, ci, tk⟩)
    obtain rfl : b = b2 := by rw [← Bool.coe_iff_coe, hb, hb2]
    have HPL : Hid (∀ u : World, Calls Try.prog 37 #[.agg #[.int .i64 30, .int .u64 (n : Int), .int .u64 (d : Int), .slice ra rn rc, .int .u64 (id : Int), .int .u64 (of : Int), .bool fi, .slice dA dn dc, .slice ca cn cc, .slice ta tn tc]] u fun e w' => e = .returned (.bool b) ∧ Below u.heap.size u w') := fun u => plain_any ⟨30, n, d, rs, id, of, fi, da, ci, tk⟩ ⟨ra, rn, rc, dA, dn, dc, ca, cn, cc, ta, tn, tc⟩ u lrn ldn lcn ltn b hb2
    clear hb hb2
    unfold frV
    go_enter Try.func15, Try.ntmps15
    go_wp2_with fail
    (with_reducible refine (HPL.out _).mono ?_)
    rintro e1 w1 ⟨rfl, b1⟩
    go_wp2_with fail
    go_ret
    exact ⟨by first | rfl | simp, (B0.out _ _).trans (b1.mono (by simp; omega))⟩
  · have t0 : (k == 0) = false := by simp; omega
    have t1 : (k == 1) = false := by simp; omega
    have t2 : (k == 2) = false := by simp; omega
    have t6 : (k == 6) = false := by simp; omega
    have t8 : (k == 8) = false := by simp; omega
    have t16 : (k == 16) = false := by simp; omega
    have t24 : (k == 24) = false := by simp; omega
    have t25 : (k == 25) = false := by simp; omega
    have t26 : (k == 26) = false := by simp; omega
    have t27 : (k == 27) = false := by simp; omega
    have t28 : (k == 28) = false := by simp; omega
    have t30 : (k == 30) = false := by simp; omega
    simp only [h0, h1, h2, h6, h8, h16, h24, h25, h26, h27, h28, h30, or_self, if_false] at hb
    obtain rfl : b = false := by simpa using hb
    clear hb h0 h1 h2 h6 h8 h16 h24 h25 h26 h27 h28 h30
    unfold frV
    go_enter Try.func15, Try.ntmps15
    go_wp2
    go_ret
    exact ⟨rfl, B0.out _ _⟩
end Go.Proofs.Ytafbhjhdnchfbaa

/-
  A slice of frames that came in; frames onto a slice of the call's own whose lists lie elsewhere; frames merged one at a time.
-/
namespace Go.Proofs.Ytafbhjhdnchfbaa
open Go.RowKit Go.ChangeShapes Go.WideShapes Go.ChangeAt
set_option linter.unusedVariables false

section
variable {H : Type} {enc : TypeId × Value → H} {W : World} {n : Nat} {v : Value} {y : DataW H × List MemPlace}
/-- cells that came in as a frame -/
theorem in_frame {cs : List Value} (hsz : cs.length = 10) (h : DataW.trod enc Try.prog W 0 (fun _ => true) true n 26 cs = some y) :
    ∃ (f : Fr) (q : Fp), cs = frV f q ∧ FrL W W.heap.size f q ∧ FrN f := by
  obtain ⟨v0, v1, v2, v3, v4, v5, v6, v7, v8, v9, rfl⟩ := list10 hsz
  obtain ⟨xs, m, _, _, _, hlen, hf⟩ := DataW.trod_struct Try.underlying26 h
  obtain ⟨y0, y1, y2, y3, y4, y5, y6, y7, y8, y9, rfl⟩ := list10 (show xs.length = 10 from hlen)
  have h0 : DataW.trod enc Try.prog W 0 (fun _ => true) true m 3 [v0] = some y0 := by simpa [cells_i] using hf 0 _ rfl
  have h1 : DataW.trod enc Try.prog W 0 (fun _ => true) true m 22 [v1] = some y1 := by simpa [cells_u] using hf 1 _ rfl
  have h2 : DataW.trod enc Try.prog W 0 (fun _ => true) true m 22 [v2] = some y2 := by simpa [cells_u] using hf 2 _ rfl
  have h3 : DataW.trod enc Try.prog W 0 (fun _ => true) true m 23 [v3] = some y3 := by simpa [cells_rs] using hf 3 _ rfl
  have h4 : DataW.trod enc Try.prog W 0 (fun _ => true) true m 22 [v4] = some y4 := by simpa [cells_u] using hf 4 _ rfl
  have h5 : DataW.trod enc Try.prog W 0 (fun _ => true) true m 22 [v5] = some y5 := by simpa [cells_u] using hf 5 _ rfl
  have h6 : DataW.trod enc Try.prog W 0 (fun _ => true) true m 4 [v6] = some y6 := by simpa [cells_b] using hf 6 _ rfl
  have h7 : DataW.trod enc Try.prog W 0 (fun _ => true) true m 24 [v7] = some y7 := by simpa [cells_s] using hf 7 _ rfl
  have h8 : DataW.trod enc Try.prog W 0 (fun _ => true) true m 24 [v8] = some y8 := by simpa [cells_s] using hf 8 _ rfl
  have h9 : DataW.trod enc Try.prog W 0 (fun _ => true) true m 24 [v9] = some y9 := by simpa [cells_s] using hf 9 _ rfl
  obtain ⟨K, rfl, hK⟩ := in_kind h0
  obtain ⟨N, rfl, hN⟩ := in_u64 h1
  obtain ⟨D, rfl, hD⟩ := in_u64 h2
  obtain ⟨A0, n0, c0, l0, rfl, s0, r0, m0, b0⟩ := in_ranges h3
  obtain ⟨I, rfl, hI⟩ := in_u64 h4
  obtain ⟨O, rfl, hO⟩ := in_u64 h5
  obtain ⟨F, rfl⟩ := in_bool h6
  obtain ⟨A1, n1, c1, l1, rfl, s1, r1, m1⟩ := in_bytes h7
  obtain ⟨A2, n2, c2, l2, rfl, s2, r2, m2⟩ := in_bytes h8
  obtain ⟨A3, n3, c3, l3, rfl, s3, r3, m3⟩ := in_bytes h9
  exact ⟨⟨K, N, D, l0, I, O, F, l1, l2, l3⟩, ⟨A0, n0, c0, A1, n1, c1, A2, n2, c2, A3, n3, c3⟩, rfl, ⟨s0, s1, s2, s3, ⟨r0, m0⟩, ⟨r1, m1⟩, ⟨r2, m2⟩, ⟨r3, m3⟩⟩, ⟨hK, hN, hD, hI, hO, b0⟩⟩
end
/-- frames that came in: where they lie, and what each is -/
structure InF (w : World) (B : Nat) (A : Option Addr) (n : Nat) (l : List (Fr × Fp)) : Prop where
  len : l.length = n
  at_ : 0 < n → ∃ g o, A = some ⟨g, o, none⟩ ∧ g < B ∧ ∀ i, (hi : i < l.length) → w.rangeAt g (o + i * 10) (frV l[i].1 l[i].2)
  each : ∀ x ∈ l, FrL w B x.1 x.2 ∧ FrN x.1
theorem in_frames {H : Type} {enc : TypeId × Value → H} {W : World} {n : Nat} {v : Value} {y : DataW H × List MemPlace} (h : DataW.trod enc Try.prog W 0 (fun _ => true) true n 37 [v] = some y) : ∃ A len cap l, v = .slice A len cap ∧ InF W W.heap.size A len l := by
  rcases Go.Deep.open_slice Try.underlying37 h with ⟨hcs, _⟩ | ⟨a, len, cap, m, k, D, Pl, hcs, _, hl, hm, hmm, _, hx⟩
  · exact ⟨none, 0, 0, [], by simpa using hcs, rfl, fun h => absurd h (Nat.lt_irrefl _), fun x hx => by cases hx⟩
  · have hlm : len ≤ m := by rw [hmm]; split <;> omega
    have each : ∀ i, i < len → ∃ q : Fr × Fp, (∀ j u, (frV q.1 q.2)[j]? = some u → W.cell? (a.add (i * 10 + j)) = some u) ∧ FrL W W.heap.size q.1 q.2 ∧ FrN q.1 := fun i hi => by
      obtain ⟨cs', h1, h2⟩ := hx i (by omega)
      rw [cells_fr] at h1
      obtain ⟨_, hlen, hcell⟩ := World.cells?_some h1
      obtain ⟨f, q, rfl, hf, hn⟩ := in_frame hlen h2
      refine ⟨(f, q), fun j u hj => ?_, hf, hn⟩
      have hj10 : j < 10 := by
        have := (List.getElem?_eq_some_iff.1 hj).1
        rwa [frV_len] at this
      have := hcell j hj10
      rw [Go.Deep.add_add] at this
      exact this.trans hj
    have hq : ∃ q : Nat → Fr × Fp, ∀ i, i < len → (∀ j u, (frV (q i).1 (q i).2)[j]? = some u → W.cell? (a.add (i * 10 + j)) = some u) ∧ FrL W W.heap.size (q i).1 (q i).2 ∧ FrN (q i).1 := by
      refine ⟨fun i => if hi : i < len then Classical.choose (each i hi) else (Fr.of 0, Fp.nil), fun i hi => ?_⟩
      simp only [hi, dif_pos]
      exact Classical.choose_spec (each i hi)
    obtain ⟨q, hq⟩ := hq
    refine ⟨some a, len, cap, (List.range len).map q, by simpa using hcs, by simp, fun h0 => ?_, fun x hx' => ?_⟩
    · obtain ⟨b, off, spot⟩ := a
      have hc0 := (hq 0 h0).1 0 _ rfl
      have hspot : spot = none := by simpa [Addr.add] using World.cell?_spot hc0
      subst hspot
      have hadd : ∀ j, (⟨b, off, none⟩ : Addr).add j = ⟨b, off + j, none⟩ := fun j => by unfold Addr.add; split <;> simp_all
      refine ⟨b, off, rfl, World.block_lt_of_cell? W _ (by rw [hadd] at hc0; exact hc0), fun i hi j u hu => ?_⟩
      simp only [List.length_map, List.length_range] at hi
      simp only [List.getElem_map, List.getElem_range] at hu
      have := (hq i hi).1 j u hu
      rw [hadd, ← Nat.add_assoc] at this
      exact this
    · obtain ⟨i, hi, rfl⟩ := List.mem_map.1 hx'
      exact (hq i (List.mem_range.1 hi)).2
/-- a frame of them -/
theorem InF.pick {w : World} {B n : Nat} {A : Option Addr} {l : List (Fr × Fp)} (h : InF w B A n l) (i : Nat) (hi : i < n) : ∃ g o f p, A = some ⟨g, o, none⟩ ∧ g < B ∧ l[i]? = some (f, p) ∧ w.rangeAt g (o + i * 10) (frV f p) ∧ FrL w B f p ∧ FrN f := by
  have hl := h.len
  obtain ⟨g, o, hA, hg, hat⟩ := h.at_ (by omega)
  have hi' : i < l.length := by omega
  have he := h.each l[i] (List.getElem_mem _)
  exact ⟨g, o, l[i].1, l[i].2, hA, hg, List.getElem?_eq_getElem hi', hat i hi', he.1, he.2⟩

/-- the call's own slice of frames; their lists may lie anywhere -/
def Wan (w : World) (B : Nat) (v : Value) (n : Nat) (l : List (Fr × Fp)) : Prop := w.ownsRow B 26 10 v n (fvs l)
theorem Wan.nil (w : World) (B : Nat) : Wan w B (.slice none 0 0) 0 [] := World.ownsRow_nil w B _ _
theorem Wan.len {w : World} {B n : Nat} {v : Value} {l : List (Fr × Fp)} (h : Wan w B v n l) : l.length = n := by have := h.1; rw [fvs_length] at this; omega
theorem Wan.below {w w' : World} {B n : Nat} {v : Value} {l : List (Fr × Fp)} (h : Wan w B v n l) (hb : Below w.heap.size w w') : Wan w' B v n l :=
  World.ownsRow.kept (row := none) h ⟨hb.os, hb.tape, hb.output, hb.size, fun k hk _ => hb.block k hk⟩ (by cases v.ownBlock <;> simp)
theorem Wan.form {w : World} {B n : Nat} {v : Value} {l : List (Fr × Fp)} (h : Wan w B v n l) : ∃ A c, v = .slice A n c ∧ n ≤ c ∧ c ≤ maxLen := by
  rcases h.2 with ⟨rfl, rfl⟩ | ⟨g, cap, cur, rfl, _, _, hn, hm, _⟩
  · exact ⟨none, 0, rfl, Nat.le_refl _, by simp [maxLen]⟩
  · exact ⟨_, cap, rfl, hn, hm⟩
theorem Wan.at_ {w : World} {B n c : Nat} {A : Option Addr} {l : List (Fr × Fp)} (h : Wan w B (.slice A n c) n l) (hn : 0 < n) : ∃ g, A = some ⟨g, 0, none⟩ ∧ B ≤ g ∧ g < w.heap.size ∧ ∀ i, (hi : i < l.length) → w.rangeAt g (i * 10) (frV l[i].1 l[i].2) := by
  rcases h.2 with ⟨_, h0⟩ | ⟨g, cap, cur, hv, hB, hg, _⟩
  · omega
  · injection hv with hA
    subst hA
    refine ⟨g, rfl, hB, (Array.getElem?_eq_some_iff.1 hg).1, fun i hi j u hu => ?_⟩
    have hj : j < 10 := by
      have := (List.getElem?_eq_some_iff.1 hu).1
      rwa [frV_len] at this
    have hadd : ∀ j, (⟨g, 0, none⟩ : Addr).add j = ⟨g, j, none⟩ := fun j => by unfold Addr.add; split <;> simp_all
    have h1 := World.ownsRow.cells (w := w) h (g := g) rfl (i * 10 + j) u (by rw [fvs_at l i j hi hj]; exact hu)
    rw [hadd] at h1
    exact h1
theorem range_belowS {w u : World} {g off : Nat} {cs : List Value} (h : w.rangeAt g off cs) (hg : g < w.heap.size) (hb : Below w.heap.size w u) : u.rangeAt g off cs := fun j v hv => (Below.cell hb (p := ⟨g, off + j, none⟩) hg).trans (h j v hv)
theorem Wan.frozen {w : World} {B n c g : Nat} {l : List (Fr × Fp)} (h : Wan w B (.slice (some ⟨g, 0, none⟩) n c) n l) (j : Nat) : w.frozen? ⟨g, j, none⟩ = false := World.ownsRow.frozenAt h j
theorem Wan.pick {w : World} {B n c : Nat} {A : Option Addr} {l : List (Fr × Fp)} (h : Wan w B (.slice A n c) n l) (i : Nat) (hi : i < n) (f : Fr) (hf : (l.map (·.1))[i]? = some f) : ∃ p g, A = some ⟨g, 0, none⟩ ∧ g < w.heap.size ∧ (f, p) ∈ l ∧ w.rangeAt g (i * 10) (frV f p) := by
  have hl := h.len
  obtain ⟨g, hA, _, hg, hat⟩ := h.at_ (by omega)
  have hx := hat i (by omega)
  have hm : l[i] ∈ l := List.getElem_mem _
  have hfe : l[i].1 = f := by
    have : i < (l.map (·.1)).length := by simp; omega
    rw [List.getElem?_eq_getElem this] at hf
    simpa using hf
  rw [hfe] at hx
  exact ⟨l[i].2, g, hA, hg, by rw [← hfe]; exact hm, hx⟩
/-- the last of them: its number put anew -/
theorem Wan.last {w : World} {B n c g : Nat} {l : List (Fr × Fp)} {f : Fr} {p : Fp} (h : Wan w B (.slice (some ⟨g, 0, none⟩) n c) n (l ++ [(f, p)])) (m : Nat) :
    Wan (w.setCell ⟨g, l.length * 10 + 1, none⟩ (.int .u64 (m : Int))) B (.slice (some ⟨g, 0, none⟩) n c) n (l ++ [({ f with n := m }, p)]) := by
  have := (World.ownsRow.stored h (l.length * 10 + 1) (.int .u64 (m : Int))).1
  rw [fvs_append, List.set_append_right _ _ (by rw [fvs_length]; omega), fvs_length, show l.length * 10 + 1 - l.length * 10 = 1 by omega] at this
  unfold Wan
  rw [fvs_append]
  exact this
/-- the last of them: its kind, its number -/
theorem Wan.cellK {w : World} {B n c g : Nat} {l : List (Fr × Fp)} {f : Fr} {p : Fp} (h : Wan w B (.slice (some ⟨g, 0, none⟩) n c) n (l ++ [(f, p)])) : w.cell? ⟨g, l.length * 10, none⟩ = some (.int .i64 f.kind) ∧ w.cell? ⟨g, l.length * 10 + 1, none⟩ = some (.int .u64 (f.n : Int)) := by
  have hl := h.len
  simp only [List.length_append, List.length_cons, List.length_nil] at hl
  obtain ⟨g', hA, _, _, hat⟩ := h.at_ (by omega)
  injection hA with hA
  injection hA with hA
  subst hA
  have hx := hat l.length (by simp)
  simp only [List.getElem_concat_length] at hx
  exact ⟨hx 0 _ rfl, hx 1 _ rfl⟩
/-- bytes of the call's own stay when frames are put or appended, and frames when bytes are -/
theorem Own.put_frame {w : World} {B B' n m c g : Nat} {v : Value} {l : List (Fr × Fp)} {r : List UInt8} (h : Own w B v m r) (hw : Wan w B' (.slice (some ⟨g, 0, none⟩) n c) n l) (j : Nat) (u : Value) : Own (w.setCell ⟨g, j, none⟩ u) B v m r :=
  own_grown (e := 0) (by decide) h hw (World.ownsRow.stored hw j u).2
theorem Own.grown_frame {w w' : World} {B B' n m : Nat} {v x : Value} {l : List (Fr × Fp)} {r : List UInt8} (h : Own w B v m r) (hw : Wan w B' x n l) (hg : w.grownBy w' x.ownBlock) : Own w' B v m r := own_grown (e := 0) (by decide) h hw hg
theorem Wan.grown_bytes {w w' : World} {B B' n m : Nat} {v x : Value} {l : List (Fr × Fp)} {r : List UInt8} (h : Wan w B x n l) (hw : Own w B' v m r) (hg : w.grownBy w' v.ownBlock) : Wan w' B x n l := own_grown (e := 0) (by decide) h hw hg
theorem Own.below_put {w : World} {B n c g j : Nat} {l : List (Fr × Fp)} (h : Wan w B (.slice (some ⟨g, 0, none⟩) n c) n l) (hg : B ≤ g) (u : Value) : Below B w (w.setCell ⟨g, j, none⟩ u) := (Below.refl B w).setCell hg u
theorem wpList_append_want {w : World} {ops : Array Oper} {rest : List Oper} {o : Oper} {a : Act} {Q : Exit → Act → World → Prop} (hgd : o.guard = none) (s x : Operand)
    (ho : o.op = .call { callee := .builtin .append, args := #[s, x], argTypes := #[37, 37] })
    (base : Nat) (v : Value) (n : Nat) (l : List (Fr × Fp)) (hs : a.eval s = v) (hown : Wan w base v n l)
    (b : Nat) (f : Fr) (p : Fp) (hx : a.eval x = .slice (some ⟨b, 0, none⟩) 1 1) (hr : w.rangeAt b 0 (frV f p))
    (hlen : n + 1 ≤ 1000000) (hbase : base ≤ w.heap.size) (w0 : World) (hb : Below base w0 w)
    (h : ∀ A' c' w', Hid (Wan w' base (.slice A' (n + 1) c') (n + 1) (l ++ [(f, p)])) → Hid (w.grownBy w' v.ownBlock) → Hid (Below base w0 w') → wpList Try.prog ops Q rest (a.put o.dst (.slice A' (n + 1) c')) w') :
    wpList Try.prog ops Q (o :: rest) a w := by
  refine wpList_plain hgd fun K hK => ?_
  obtain ⟨i, hi, hz0, hz1, hz2⟩ := info_parts frame_info
  have hcells : ∀ j u, (frV f p)[j]? = some u → w.cell? ((⟨b, 0, none⟩ : Addr).add j) = some u := by
    intro j u hu
    have hadd : (⟨b, 0, none⟩ : Addr).add j = ⟨b, 0 + j, none⟩ := by unfold Addr.add; split <;> simp_all
    rw [hadd]
    exact hr j u hu
  obtain ⟨v', w', hrun, h2, h3, _, h5⟩ := run_append_own_at (P := Try.prog) w base 37 o.type 26 i (.agg fr0.toArray) 10 144 Try.underlying37 hi hz0 hz1 hz2 rfl (by omega) v n (fvs l) hown ⟨b, 0, none⟩ 1 1 (frV f p)
    (by rw [frV_len]) hcells (frV_one f p) (by simp only [maxLen]; omega) (by omega) hbase
  have h2' : Wan w' base v' (n + 1) (l ++ [(f, p)]) := by unfold Wan; rw [fvs_append]; simpa [fvs] using h2
  obtain ⟨A', c', rfl, hle, hcm⟩ := h2'.form
  unfold Oper.wp execOp
  simp only [ho, resolve, invoke, builtin, Sem.run_bind, Sem.run_pure, Result.andThen_ok, List.map_toArray, List.map_cons, List.map_nil, hs, hx, hrun]
  exact hK _ _ (h A' c' w' h2' h3 (hb.grown h3 hbase fun k hk => (World.ownsRow.lt hown k hk).1))

/-- one frame more, merged -/
theorem merge_snoc (a : List Fr) (f : Fr) : mergeF (a ++ [f]) = mergeS (mergeF a) f := by simp [mergeF]
theorem mergeS_nil (f : Fr) : mergeS [] f = [f] := rfl
theorem mergeS_yes (a : List Fr) (g f : Fr) (h : f.kind = 0 ∧ g.kind = 0) : mergeS (a ++ [g]) f = a ++ [{ g with n := g.n + f.n }] := by simp [mergeS, h]
theorem mergeS_no (a : List Fr) (g f : Fr) (h : ¬ (f.kind = 0 ∧ g.kind = 0)) : mergeS (a ++ [g]) f = a ++ [g] ++ [f] := by
  simp only [mergeS, List.getLast?_append, List.getLast?_singleton, Option.some_or]
  rw [if_neg h]
theorem mergeS_not0 (a : List Fr) (f : Fr) (h : f.kind ≠ 0) : mergeS a f = a ++ [f] := by
  rcases List.eq_nil_or_concat a with rfl | ⟨b, g, rfl⟩
  · rfl
  · rw [List.concat_eq_append]
    exact mergeS_no b g f fun h' => h h'.1
theorem take_snoc {α : Type} (l : List α) (i : Nat) (x : α) (h : l[i]? = some x) : l.take (i + 1) = l.take i ++ [x] := by
  rw [List.take_add_one, h]
  rfl
theorem putRs_len (p0 : Nat) (rs : List (Nat × Nat)) : (putRs p0 rs).length ≤ 16 * rs.length := by
  induction rs generalizing p0 with
  | nil => simp [putRs]
  | cons x t ih =>
    obtain ⟨lo, hi⟩ := x
    have h1 := enc_le (p0 - hi - 2)
    have h2 := enc_le (hi - lo)
    have h3 := ih lo
    simp only [putRs, List.length_append, List.length_cons]
    omega
/-- a frame that is gone through has not so many bytes -/
theorem put_short (f : Fr) (h : MayF f) (hg : ¬ GreatP f) : (putF f).length ≤ 100000 := by
  obtain ⟨k, n, d, rs, id, of, fi, da, ci, tk⟩ := f
  unfold GreatP at hg
  simp only at hg
  have e1 := enc_le n
  have e2 := enc_le id
  have e3 := enc_le of
  have e4 := enc_le da.length
  unfold putF
  simp only
  split
  · next h0 =>
    simp only [List.length_replicate]
    omega
  split
  · cases rs with
    | nil => simp [putAck]
    | cons x t =>
      obtain ⟨lo, hi⟩ := x
      have h1 := enc_le hi
      have h2 := enc_le d
      have h3 := enc_le t.length
      have h4 := enc_le (hi - lo)
      have h5 := putRs_len lo t
      simp only [List.length_cons] at hg
      simp only [putAck, List.length_cons, List.length_append]
      omega
  split
  · simp only [List.length_cons, List.length_append]; omega
  split
  · simp only [List.length_cons, List.length_append]; omega
  split
  · simp only [List.length_cons]; omega
  split
  · simp only [List.length_cons, List.length_append, List.length_nil]; omega
  split
  · simp only [List.length_cons, List.length_append]; omega
  split
  · simp only [List.length_cons]; omega
  · simp

/-- what All answers, told short: how many, which code -/
def lenX : Except Nat (List Fr) → Nat
  | .error _ => 0
  | .ok fs => fs.length
def codeX : Except Nat (List Fr) → Nat
  | .error c => c
  | .ok _ => 0
theorem allsF_len {w w' : World} {X : Except Nat (List Fr)} {e : Ending} (h : AllsF w X e w') : ∃ A c, e = .returned (.tuple #[.slice A (lenX X) c, .int .i64 (codeX X : Int)]) ∧ Below w.heap.size w w' := by
  cases X with
  | error c => exact ⟨none, 0, h.1, h.2⟩
  | ok fs =>
    obtain ⟨A, n, c, fps, rfl, ho, hf, hb⟩ := h
    refine ⟨A, c, ?_, hb⟩
    have : n = fs.length := by rw [← hf, List.length_map]; exact ho.len.symm
    subst this
    rfl
end Go.Proofs.Ytafbhjhdnchfbaa

/-
  FrameRows: the law's walk.
-/
namespace Go.Proofs.Ytafbhjhdnchfbaa
open Go.RowKit
set_option linter.unusedVariables false

set_option maxRecDepth 8000 in
theorem rows_short (A : Option Addr) (n c : Nat) (at_ : Int) (y : UInt8) (w : World) (h : n = 0 ∨ 8 < n) : Calls Try.prog 5 #[.slice A n c, .int .i64 at_, .int .u8 (bn y)] w fun e w' => e = .returned (.bool true) ∧ Below w.heap.size w w' := by
  rcases h with rfl | h
  · go_enter Try.func5, Try.ntmps5
    go_wp2_with fail
    (with_reducible refine (awake_any _).mono ?_)
    rintro e1 w1 ⟨rfl, b1⟩
    go_wp2
    go_ret
    exact ⟨rfl, b1⟩
  · have h1 : (8 : Int) < (n : Int) := by omega
    go_enter Try.func5, Try.ntmps5
    go_wp2_with fail
    (with_reducible refine (awake_any _).mono ?_)
    rintro e1 w1 ⟨rfl, b1⟩
    go_wp2
    go_ret
    exact ⟨rfl, b1⟩
set_option maxHeartbeats 8000000 in
set_option maxRecDepth 8000 in
theorem rows_any (l : List (Fr × Fp)) (A : Option Addr) (n c : Nat) (at_ : Int) (y : UInt8) (w : World) (h1 : 1 ≤ n) (h8 : n ≤ 8) (hin : InF w w.heap.size A n l) : Calls Try.prog 5 #[.slice A n c, .int .i64 at_, .int .u8 (bn y)] w fun e w' => e = .returned (.bool true) ∧ Below w.heap.size w w' := by
  have HIN := Lib.hid hin
  have HAW : Hid (∀ u, Below w.heap.size w u → Calls Try.prog 11 #[] u fun e w' => e = .returned (.bool true) ∧ Below w.heap.size w w') := fun u hu => (awake_any u).mono fun e w' h => ⟨h.1, hu.trans (h.2.mono hu.size)⟩
  have k8 : ¬ (8 : Int) < (n : Int) := by omega
  have k0 : ((n : Int) == 0) = false := by simp; omega
  clear hin
  go_enter Try.func5, Try.ntmps5
  go_wp2_with fail
  go_loopw [7, 8, 9, 10] (fun bs fv i _ wr => ∃ (j : Nat) (A1 : Option Addr) (m d : Nat) (A2 : Option Addr) (k e : Nat) (fps : List (Fr × Fp)), i = .int .i64 j ∧ bs = .slice A1 m d ∧ fv = .slice A2 k e ∧ j ≤ n ∧ m ≤ 100000 * j ∧ k ≤ j ∧ Hid (Own wr w.heap.size (.slice A1 m d) m (joinF ((l.take j).map (·.1)))) ∧ Hid (Wan wr w.heap.size (.slice A2 k e) k fps) ∧ Hid (fps.map (·.1) = mergeF ((l.take j).map (·.1))) ∧ Hid (∀ x ∈ fps, FrL w w.heap.size x.1 x.2) ∧ Hid (∀ x ∈ fps, x.1.kind = 0 → x.1.n ≤ 400 * j) ∧ Hid (∀ x ∈ l.take j, MayF x.1 ∧ ¬ GreatP x.1) ∧ Hid (Below w.heap.size w wr)) (fun _ _ i _ _ => n - (intOf i).toNat)
  case atStart => exact ⟨0, none, 0, 0, none, 0, 0, [], rfl, rfl, rfl, Nat.zero_le _, Nat.le_refl _, Nat.le_refl _, Own.nil _ _, Wan.nil _ _, rfl, fun x hx => by simp at hx, fun x hx => by simp at hx, fun x hx => by simp at hx, Below.refl _ _⟩
  case round =>
    obtain ⟨j, A1, m, d, A2, k, e, fps, rfl, rfl, rfl, hj, hm, hk, O1, V1, HM, HF, HP, HY, B1⟩ := hrel
    by_cases hlt : j < n
    · obtain ⟨g, o, f, p, rfl, hg, hlj, hr, hfl, hfn⟩ := HIN.out.pick j hlt
      have lt1 : (j : Int) < (n : Int) := by omega
      have HR : Hid (∀ u, Below w.heap.size w u → u.rangeAt g (o + j * 10) (frV f p)) := fun u hu => range_belowR hr hg hu
      have HFL := Lib.hid hfl
      have HFN := Lib.hid hfn
      have HLJ := Lib.hid hlj
      obtain ⟨bG, hbG⟩ : ∃ b : Bool, b = true ↔ GreatP f := by
        by_cases h : GreatP f
        · exact ⟨true, by simp [h]⟩
        · exact ⟨false, by simp [h]⟩
      obtain ⟨bM, hbM⟩ : ∃ b : Bool, b = true ↔ MayF f := by
        by_cases h : MayF f
        · exact ⟨true, by simp [h]⟩
        · exact ⟨false, by simp [h]⟩
      have HGR : Hid (∀ u, Below w.heap.size w u → Calls Try.prog 10 #[.agg (frV f p).toArray] u fun e w' => e = .returned (.bool bG) ∧ Below u.heap.size u w') := fun u hu => great_any f p w.heap.size u (HFL.out.below hu) HFN.out bG hbG
      have HMY : Hid (∀ u, Below w.heap.size w u → Calls Try.prog 15 #[.agg (frV f p).toArray] u fun e w' => e = .returned (.bool bM) ∧ Below u.heap.size u w') := fun u hu => rmay_any f p w.heap.size u hu.size (HFL.out.below hu) HFN.out bM hbM
      have HPU : Hid (MayF f → ∀ u, Below w.heap.size w u → Calls Try.prog 12 #[.agg (frV f p).toArray] u (MakesB u (putF f))) := fun hm u hu => fput_any f p w.heap.size u hu.size (HFL.out.below hu) HFN.out _ ⟨fun _ => rfl, fun h => absurd hm h⟩
      have HBG := Lib.hid hbG
      have HBM := Lib.hid hbM
      have HSZ := Lib.hid (frV_size f p)
      obtain ⟨vs, hvs⟩ : ∃ vs, frV f p = vs := ⟨_, rfl⟩
      have HV := Lib.hid hvs
      rw [hvs] at HR HGR HMY HPU HSZ
      clear hr hfl hfn hlj hbG hbM hvs
      cases bG with
      | true =>
        go_wp2_with (first | ((with_reducible refine wpList_load_midG 40 rfl 26 (.tmp 39) rfl ?hw g (o + j * 10) ?hx vs (HR.out _ B1.out) _ Try.underlying26 rfl HSZ.out ?_); (case hw => rfl); (case hx => with_unfolding_all rfl)) | (go_at_call 10; (with_reducible refine (HGR.out _ B1.out).mono ?_); rintro e1 w1 ⟨rfl, b1⟩; have B2 := Lib.hid (B1.out.trans (b1.mono B1.out.size)); clear b1))
        (with_reducible refine (HAW.out _ B2.out).mono ?_)
        rintro e9 w9 ⟨rfl, b9⟩
        go_wp2
        go_ret
        exact ⟨rfl, b9⟩
      | false =>
        cases bM with
        | false =>
          go_wp2_with (first | ((with_reducible refine wpList_load_midG 40 rfl 26 (.tmp 39) rfl ?hw g (o + j * 10) ?hx vs (HR.out _ B1.out) _ Try.underlying26 rfl HSZ.out ?_); (case hw => rfl); (case hx => with_unfolding_all rfl)) | (go_at_call 10; (with_reducible refine (HGR.out _ B1.out).mono ?_); rintro e1 w1 ⟨rfl, b1⟩; have B2 := Lib.hid (B1.out.trans (b1.mono B1.out.size)); clear b1) | ((with_reducible refine wpList_load_midG 46 rfl 26 (.tmp 45) rfl ?hw g (o + j * 10) ?hx vs (HR.out _ B2.out) _ Try.underlying26 rfl HSZ.out ?_); (case hw => rfl); (case hx => with_unfolding_all rfl)) | (go_at_call 15; (with_reducible refine (HMY.out _ B2.out).mono ?_); rintro e2 w2 ⟨rfl, b2⟩; have B3 := Lib.hid (B2.out.trans (b2.mono B2.out.size)); clear b2))
          (with_reducible refine (HAW.out _ B3.out).mono ?_)
          rintro e9 w9 ⟨rfl, b9⟩
          go_wp2
          go_ret
          exact ⟨rfl, b9⟩
        | true =>
          have hmay : MayF f := HBM.out.1 rfl
          have hng : ¬ GreatP f := fun h => by have := HBG.out.2 h; cases this
          have HPT := Lib.hid (HPU.out hmay)
          have hpl := put_short f hmay hng
          have hn4 : f.kind = 0 → f.n ≤ 400 := fun h => by
            have : ¬ (f.kind = 0 ∧ 400 < f.n) := fun h' => hng (.inr (.inr (.inr (.inr h'))))
            omega
          have HN4 := Lib.hid hn4
          have HMG : Hid (MayF f ∧ ¬ GreatP f) := ⟨hmay, hng⟩
          clear hmay hng hn4 HBG HBM HPU
          go_wp2_with (first | ((with_reducible refine wpList_load_midG 40 rfl 26 (.tmp 39) rfl ?hw g (o + j * 10) ?hx vs (HR.out _ B1.out) _ Try.underlying26 rfl HSZ.out ?_); (case hw => rfl); (case hx => with_unfolding_all rfl)) | (go_at_call 10; (with_reducible refine (HGR.out _ B1.out).mono ?_); rintro e1 w1 ⟨rfl, b1⟩; have B2 := Lib.hid (B1.out.trans (b1.mono B1.out.size)); have C1 := Lib.hid b1; clear b1) | ((with_reducible refine wpList_load_midG 46 rfl 26 (.tmp 45) rfl ?hw g (o + j * 10) ?hx vs (HR.out _ B2.out) _ Try.underlying26 rfl HSZ.out ?_); (case hw => rfl); (case hx => with_unfolding_all rfl)) | (go_at_call 15; (with_reducible refine (HMY.out _ B2.out).mono ?_); rintro e2 w2 ⟨rfl, b2⟩; have B3 := Lib.hid (B2.out.trans (b2.mono B2.out.size)); have C2 := Lib.hid (C1.out.trans (b2.mono C1.out.size)); clear b2) | ((with_reducible refine wpList_load_midG 55 rfl 26 (.tmp 54) rfl ?hw g (o + j * 10) ?hx vs (HR.out _ B3.out) _ Try.underlying26 rfl HSZ.out ?_); (case hw => rfl); (case hx => with_unfolding_all rfl)))
          (with_reducible refine (HPT.out _ B3.out).mono ?_)
          rintro e4 w4 ⟨A3, n3, c3, rfl, o4, b4⟩
          simp only
          obtain rfl : n3 = (putF f).length := o4.len.symm
          have O4 := Lib.hid o4
          have B4 := Lib.hid (B3.out.trans (b4.mono B3.out.size))
          have C4 := Lib.hid (C2.out.trans (b4.mono C2.out.size))
          have O14 := Lib.hid (O1.out.below C4.out)
          have V14 := Lib.hid (V1.out.below C4.out)
          clear o4 b4 O1 V1 HGR HMY HPT B1 B2 B3 C1 C2 C4
          have HJ := Lib.hid (show joinF ((l.take (j + 1)).map (·.1)) = joinF ((l.take j).map (·.1)) ++ putF f from by rw [take_snoc l j _ HLJ.out, List.map_append, joinF_append]; simp [joinF])
          have HM2 := Lib.hid (show mergeF ((l.take (j + 1)).map (·.1)) = mergeS (fps.map (·.1)) f from by rw [take_snoc l j _ HLJ.out, List.map_append, HM.out]; exact merge_snoc _ _)
          have HY2 := Lib.hid (show ∀ x ∈ l.take (j + 1), MayF x.1 ∧ ¬ GreatP x.1 from by
            rw [take_snoc l j _ HLJ.out]
            intro x hx
            rcases List.mem_append.1 hx with hx | hx
            · exact HY.out x hx
            · obtain rfl : x = (f, p) := by simpa using hx
              exact HMG.out)
          have hkl := V14.out.len
          have HKI := Lib.hid (show vs[0]? = some (.int .i64 f.kind) from by rw [← HV.out]; rfl)
          have HNI := Lib.hid (show vs[1]? = some (.int .u64 (f.n : Int)) from by rw [← HV.out]; rfl)
          have hcells : vs = [.int .i64 f.kind, .int .u64 (f.n : Int), .int .u64 (f.delay : Int), .slice p.ra p.rn p.rc, .int .u64 (f.id : Int), .int .u64 (f.off : Int), .bool f.fin, .slice p.da p.dn p.dc, .slice p.ca p.cn p.cc, .slice p.ta p.tn p.tc] := HV.out.symm
          clear HM HY HLJ HMG
          by_cases hfk : f.kind = 0
          · rcases List.eq_nil_or_concat fps with rfl | ⟨r, gq, hgq⟩
            · have hno : mergeS (([] : List (Fr × Fp)).map (·.1)) f = ([] : List (Fr × Fp)).map (·.1) ++ [f] := rfl
              obtain rfl : k = 0 := by simpa using hkl.symm
              have HNO := Lib.hid hno
              rw [hfk] at HKI
              have HFK := Lib.hid hfk
              clear hno hkl hfk
              subst hcells
              go_wp2_with (first | (at_builtin; refine wpList_append_bytes rfl _ _ rfl w.heap.size (.slice A1 m d) m (joinF ((l.take j).map (·.1))) rfl O14.out w4.heap.size A3 (putF f).length c3 (putF f) rfl O4.out.sl (by omega) B4.out.size w B4.out ?_; intro A5 c5 w5 ho hle hc hgr hb; have O5 := Lib.hid ho; have V5 := Lib.hid (V14.out.grown_bytes O14.out hgr); have B5 := Lib.hid hb; have q0 : w5.cell? ⟨g, o + j * 10, none⟩ = some (.int .i64 0) := HR.out _ hb 0 _ HKI.out; clear ho hle hc hgr hb O14 V14 O4 B4) | ((with_reducible refine wpList_load_midG 98 rfl 26 (.tmp 97) rfl ?hw g (o + j * 10) ?hx [.int .i64 f.kind, .int .u64 (f.n : Int), .int .u64 (f.delay : Int), .slice p.ra p.rn p.rc, .int .u64 (f.id : Int), .int .u64 (f.off : Int), .bool f.fin, .slice p.da p.dn p.dc, .slice p.ca p.cn p.cc, .slice p.ta p.tn p.tc] (HR.out _ B5.out) _ Try.underlying26 rfl HSZ.out ?_); (case hw => rfl); (case hx => with_unfolding_all rfl)) | (at_builtin; refine wpList_append_want rfl _ _ rfl w.heap.size (.slice A2 0 e) 0 ([] : List (Fr × Fp)) rfl (V5.out.below ((Below.refl _ _).alloc (Nat.le_refl _) _)) w5.heap.size f p rfl ?hr (by omega) (Nat.le_trans B5.out.size (by simp)) w (B5.out.alloc B5.out.size _) ?_; (case hr => exact range_row (t := 26) (fr := (0, 0)) (heap_alloc_new w5 _)); intro A6 c6 w6 V6 G6 B6; have O6 := Lib.hid (Own.grown_frame (O5.out.alloc _) (V5.out.below ((Below.refl _ _).alloc (Nat.le_refl _) _)) G6.out)))
              go_roundw
              case rel =>
                refine ⟨j + 1, A5, m + (putF f).length, c5, A6, 0 + 1, c6, ([] : List (Fr × Fp)) ++ [(f, p)], by go_num, rfl, rfl, by omega, by omega, by omega, ?_, V6, ?_, ?_, ?_, HY2.out, B6⟩
                · show Own _ _ _ _ _
                  rw [HJ.out]
                  exact O6.out
                · show _ = _
                  rw [HM2.out, HNO.out, List.map_append]
                  rfl
                · intro x hx
                  rcases List.mem_append.1 hx with hx | hx
                  · exact HF.out x hx
                  · obtain rfl : x = (f, p) := by simpa using hx
                    exact HFL.out
                · intro x hx h0
                  rcases List.mem_append.1 hx with hx | hx
                  · have := HP.out x hx h0
                    omega
                  · obtain rfl : x = (f, p) := by simpa using hx
                    have := HN4.out h0
                    simp only
                    omega
              case measure => simp [intOf]; omega
            · rw [List.concat_eq_append] at hgq
              subst hgq
              obtain ⟨gf, q⟩ := gq
              obtain ⟨kk, hkk⟩ : ∃ kk, r.length = kk := ⟨_, rfl⟩
              obtain rfl : k = kk + 1 := by simp at hkl; omega
              obtain ⟨g2, rfl, hg2, _, _⟩ := V14.out.at_ (Nat.succ_pos _)
              have HG2 := Lib.hid hg2
              have HKK := Lib.hid hkk
              have wk : IntKind.i64.wrap ((kk : Int) + 1 - 1) = (kk : Int) := by rw [show (kk : Int) + 1 - 1 = (kk : Int) by omega]; exact IntWalk.i64_in _ (by omega)
              have wk2 : IntKind.i64.wrap (kk : Int) = (kk : Int) := IntWalk.i64_in _ (by omega)
              have kk0 : (0 : Int) ≤ (kk : Int) := by omega
              have kk1 : (kk : Int) < (kk : Int) + 1 := by omega
              by_cases hgk : gf.kind = 0
              · have hyes : mergeS ((r ++ [(gf, q)]).map (·.1)) f = r.map (·.1) ++ [{ gf with n := gf.n + f.n }] := by
                  rw [List.map_append]
                  exact mergeS_yes _ _ _ ⟨hfk, hgk⟩
                have HNO := Lib.hid hyes
                rw [hfk] at HKI
                have HFK := Lib.hid hfk
                have HGK := Lib.hid hgk
                have hgn := HP.out (gf, q) (by simp) hgk
                simp only at hgn
                have hf4 := HN4.out hfk
                obtain ⟨gn, hgn0⟩ : ∃ z, gf.n = z := ⟨_, rfl⟩
                obtain ⟨fn, hfn0⟩ : ∃ z, f.n = z := ⟨_, rfl⟩
                obtain ⟨sn, hsn⟩ : ∃ z, gn + fn = z := ⟨_, rfl⟩
                rw [hgn0] at hgn
                rw [hfn0] at hf4 HNI
                have HGN := Lib.hid hgn0
                have HFN0 := Lib.hid hfn0
                have wsum : IntKind.u64.wrap ((gn : Int) + (fn : Int)) = (sn : Int) := by rw [wrap_u64N]; omega
                have HSN := Lib.hid hsn
                have hsb : sn ≤ 400 * (j + 1) := by omega
                clear hyes hkl hfk hgk hkk hg2 hgn0 hfn0 hsn
                subst hcells
                go_wp2_with (at_builtin; refine wpList_append_bytes rfl _ _ rfl w.heap.size (.slice A1 m d) m (joinF ((l.take j).map (·.1))) rfl O14.out w4.heap.size A3 (putF f).length c3 (putF f) rfl O4.out.sl (by omega) B4.out.size w B4.out ?_; intro A5 c5 w5 ho hle hc hgr hb; have O5 := Lib.hid ho; have V5 := Lib.hid (V14.out.grown_bytes O14.out hgr); have B5 := Lib.hid hb; have q0 : w5.cell? ⟨g, o + j * 10, none⟩ = some (.int .i64 0) := HR.out _ hb 0 _ HKI.out; have q1 : w5.cell? ⟨g, o + j * 10 + 1, none⟩ = some (.int .u64 (fn : Int)) := HR.out _ hb 1 _ HNI.out; have x0 : w5.cell? ⟨g2, kk * 10, none⟩ = some (.int .i64 0) := by { have := V5.out.cellK.1; rw [HKK.out, HGK.out] at this; exact this }; have x1 : w5.cell? ⟨g2, kk * 10 + 1, none⟩ = some (.int .u64 (gn : Int)) := by { have := V5.out.cellK.2; rw [HKK.out, HGN.out] at this; exact this }; have x2 := V5.out.frozen (kk * 10 + 1); clear ho hle hc hgr hb O14 V14 O4 B4)
                refine wp_tail 13 (by kernel_rfl) (by kernel_rfl) ?_
                simp only [List.take_succ_cons, List.take_zero, List.drop_succ_cons, List.drop_zero]
                repeat still_step
                refine wpStill_nil ?_
                go_wp2_with fail
                go_roundw
                case rel =>
                  refine ⟨j + 1, A5, m + (putF f).length, c5, some ⟨g2, 0, none⟩, kk + 1, e, r ++ [({ gf with n := sn }, q)], by go_num, rfl, rfl, by omega, by omega, by omega, ?_, ?_, ?_, ?_, ?_, HY2.out, ?_⟩
                  · show Own _ _ _ _ _
                    rw [HJ.out]
                    exact Own.drew (O5.out.put_frame V5.out _ _)
                  · show Wan _ _ _ _ _
                    have := V5.out.last sn
                    rw [HKK.out] at this
                    exact this
                  · show _ = _
                    rw [HM2.out, HNO.out, List.map_append, HGN.out, HFN0.out, HSN.out]
                    rfl
                  · intro x hx
                    rcases List.mem_append.1 hx with hx | hx
                    · exact HF.out x (List.mem_append.2 (.inl hx))
                    · obtain rfl : x = ({ gf with n := sn }, q) := by simpa using hx
                      have h := HF.out (gf, q) (by simp)
                      exact ⟨h.r, h.d, h.c, h.t, h.rb, h.db, h.cb, h.tb⟩
                  · intro x hx h0
                    rcases List.mem_append.1 hx with hx | hx
                    · have := HP.out x (List.mem_append.2 (.inl hx)) h0
                      omega
                    · obtain rfl : x = ({ gf with n := sn }, q) := by simpa using hx
                      exact hsb
                  · exact (B5.out.setCell HG2.out _).drew
                case measure => simp [intOf]; omega
              · have hno : mergeS ((r ++ [(gf, q)]).map (·.1)) f = (r ++ [(gf, q)]).map (·.1) ++ [f] := by
                  rw [List.map_append]
                  exact mergeS_no _ _ _ fun h => hgk h.2
                have HNO := Lib.hid hno
                rw [hfk] at HKI
                have HFK := Lib.hid hfk
                have tk2 : (gf.kind == 0) = false := by simp [hgk]
                obtain ⟨G, hG⟩ : ∃ z, gf.kind = z := ⟨_, rfl⟩
                rw [hG] at tk2
                have HGK := Lib.hid hG
                clear hno hkl hfk hgk hkk hg2 hG
                subst hcells
                go_wp2_with (first | (at_builtin; refine wpList_append_bytes rfl _ _ rfl w.heap.size (.slice A1 m d) m (joinF ((l.take j).map (·.1))) rfl O14.out w4.heap.size A3 (putF f).length c3 (putF f) rfl O4.out.sl (by omega) B4.out.size w B4.out ?_; intro A5 c5 w5 ho hle hc hgr hb; have O5 := Lib.hid ho; have V5 := Lib.hid (V14.out.grown_bytes O14.out hgr); have B5 := Lib.hid hb; have q0 : w5.cell? ⟨g, o + j * 10, none⟩ = some (.int .i64 0) := HR.out _ hb 0 _ HKI.out; have x0 : w5.cell? ⟨g2, kk * 10, none⟩ = some (.int .i64 G) := by { have := V5.out.cellK.1; rw [HKK.out, HGK.out] at this; exact this }; clear ho hle hc hgr hb O14 V14 O4 B4) | ((with_reducible refine wpList_load_midG 98 rfl 26 (.tmp 97) rfl ?hw g (o + j * 10) ?hx [.int .i64 f.kind, .int .u64 (f.n : Int), .int .u64 (f.delay : Int), .slice p.ra p.rn p.rc, .int .u64 (f.id : Int), .int .u64 (f.off : Int), .bool f.fin, .slice p.da p.dn p.dc, .slice p.ca p.cn p.cc, .slice p.ta p.tn p.tc] (HR.out _ B5.out) _ Try.underlying26 rfl HSZ.out ?_); (case hw => rfl); (case hx => with_unfolding_all rfl)) | (at_builtin; refine wpList_append_want rfl _ _ rfl w.heap.size (.slice (some ⟨g2, 0, none⟩) (kk + 1) e) (kk + 1) (r ++ [(gf, q)]) rfl (V5.out.below ((Below.refl _ _).alloc (Nat.le_refl _) _)) w5.heap.size f p rfl ?hr (by omega) (Nat.le_trans B5.out.size (by simp)) w (B5.out.alloc B5.out.size _) ?_; (case hr => exact range_row (t := 26) (fr := (0, 0)) (heap_alloc_new w5 _)); intro A6 c6 w6 V6 G6 B6; have O6 := Lib.hid (Own.grown_frame (O5.out.alloc _) (V5.out.below ((Below.refl _ _).alloc (Nat.le_refl _) _)) G6.out)))
                go_roundw
                case rel =>
                  refine ⟨j + 1, A5, m + (putF f).length, c5, A6, (kk + 1) + 1, c6, (r ++ [(gf, q)]) ++ [(f, p)], by go_num, rfl, rfl, by omega, by omega, by omega, ?_, V6, ?_, ?_, ?_, HY2.out, B6⟩
                  · show Own _ _ _ _ _
                    rw [HJ.out]
                    exact O6.out
                  · show _ = _
                    rw [HM2.out, HNO.out, List.map_append]
                    rfl
                  · intro x hx
                    rcases List.mem_append.1 hx with hx | hx
                    · exact HF.out x hx
                    · obtain rfl : x = (f, p) := by simpa using hx
                      exact HFL.out
                  · intro x hx h0
                    rcases List.mem_append.1 hx with hx | hx
                    · have := HP.out x hx h0
                      omega
                    · obtain rfl : x = (f, p) := by simpa using hx
                      have := HN4.out h0
                      simp only
                      omega
                case measure => simp [intOf]; omega
          · have hno : mergeS (fps.map (·.1)) f = fps.map (·.1) ++ [f] := mergeS_not0 _ _ hfk
            have HNO := Lib.hid hno
            have tk : (f.kind == 0) = false := by simp [hfk]
            obtain ⟨K, hK⟩ : ∃ z, f.kind = z := ⟨_, rfl⟩
            rw [hK] at tk HKI
            have HFK := Lib.hid hK
            clear hno hkl hfk hK
            subst hcells
            go_wp2_with (first | (at_builtin; refine wpList_append_bytes rfl _ _ rfl w.heap.size (.slice A1 m d) m (joinF ((l.take j).map (·.1))) rfl O14.out w4.heap.size A3 (putF f).length c3 (putF f) rfl O4.out.sl (by omega) B4.out.size w B4.out ?_; intro A5 c5 w5 ho hle hc hgr hb; have O5 := Lib.hid ho; have V5 := Lib.hid (V14.out.grown_bytes O14.out hgr); have B5 := Lib.hid hb; have q0 : w5.cell? ⟨g, o + j * 10, none⟩ = some (.int .i64 K) := HR.out _ hb 0 _ HKI.out; clear ho hle hc hgr hb O14 V14 O4 B4) | ((with_reducible refine wpList_load_midG 98 rfl 26 (.tmp 97) rfl ?hw g (o + j * 10) ?hx [.int .i64 f.kind, .int .u64 (f.n : Int), .int .u64 (f.delay : Int), .slice p.ra p.rn p.rc, .int .u64 (f.id : Int), .int .u64 (f.off : Int), .bool f.fin, .slice p.da p.dn p.dc, .slice p.ca p.cn p.cc, .slice p.ta p.tn p.tc] (HR.out _ B5.out) _ Try.underlying26 rfl HSZ.out ?_); (case hw => rfl); (case hx => with_unfolding_all rfl)) | (at_builtin; refine wpList_append_want rfl _ _ rfl w.heap.size (.slice A2 k e) k fps rfl (V5.out.below ((Below.refl _ _).alloc (Nat.le_refl _) _)) w5.heap.size f p rfl ?hr (by omega) (Nat.le_trans B5.out.size (by simp)) w (B5.out.alloc B5.out.size _) ?_; (case hr => exact range_row (t := 26) (fr := (0, 0)) (heap_alloc_new w5 _)); intro A6 c6 w6 V6 G6 B6; have O6 := Lib.hid (Own.grown_frame (O5.out.alloc _) (V5.out.below ((Below.refl _ _).alloc (Nat.le_refl _) _)) G6.out)))
            go_roundw
            case rel =>
              refine ⟨j + 1, A5, m + (putF f).length, c5, A6, k + 1, c6, fps ++ [(f, p)], by go_num, rfl, rfl, by omega, by omega, by omega, ?_, V6, ?_, ?_, ?_, HY2.out, B6⟩
              · show Own _ _ _ _ _
                rw [HJ.out]
                exact O6.out
              · show _ = _
                rw [HM2.out, HNO.out, List.map_append]
                rfl
              · intro x hx
                rcases List.mem_append.1 hx with hx | hx
                · exact HF.out x hx
                · obtain rfl : x = (f, p) := by simpa using hx
                  exact HFL.out
              · intro x hx h0
                rcases List.mem_append.1 hx with hx | hx
                · have := HP.out x hx h0
                  omega
                · obtain rfl : x = (f, p) := by simpa using hx
                  have := HN4.out h0
                  simp only
                  omega
            case measure => simp [intOf]; omega

    · obtain rfl : j = n := by omega
      have htake : l.take j = l := List.take_of_length_le (by rw [HIN.out.len]; exact Nat.le_refl _)
      rw [htake] at O1 HM HY
      have hll : (l.map (·.1)).length = j := by rw [List.length_map]; exact HIN.out.len
      have hX : allX (joinF (l.map (·.1))) = .ok (mergeF (l.map (·.1))) := by
        refine allX_merge _ (fun f hf => ?_) (fun f hf h0 => ?_) (by rw [hll]; exact h1) (by rw [hll]; exact h8)
        · obtain ⟨x, hx, rfl⟩ := List.mem_map.1 hf
          exact (HY.out x hx).1
        · obtain ⟨x, hx, rfl⟩ := List.mem_map.1 hf
          have h := (HY.out x hx).2
          have : ¬ (x.1.kind = 0 ∧ 400 < x.1.n) := fun h' => h (.inr (.inr (.inr (.inr h'))))
          omega
      have hm0 : 0 < m := by
        rw [← O1.out.len]
        cases l with
        | nil => simp at hll; omega
        | cons x t =>
          obtain ⟨b, u, hu⟩ := putF_ne x.1 (HY.out x (List.mem_cons_self ..)).1
          rw [List.map_cons, joinF_cons, hu]
          simp
      obtain ⟨L, hL⟩ : ∃ L, joinF (l.map (·.1)) = L := ⟨_, rfl⟩
      obtain ⟨M, hM⟩ : ∃ M, mergeF (l.map (·.1)) = M := ⟨_, rfl⟩
      rw [hL, hM] at hX
      rw [hL] at O1
      rw [hM] at HM
      obtain ⟨g1, rfl, hg1, hg1s⟩ := O1.out.at_ hm0
      have HD : Hid (m ≤ d ∧ d ≤ maxLen) := O1.out.bnd
      have HA1 : Hid (∀ u, Below wr.heap.size wr u → Calls Try.prog 24 #[.slice (some ⟨g1, 0, none⟩) m d] u (AllsF u (.ok M))) := fun u hu => by
        rw [← hX]
        exact fall_any L _ m d wr.heap.size u (O1.out.sl.below hu) hu.size HD.out.1 HD.out.2
      have HG1 : Hid (w.heap.size ≤ g1 ∧ g1 < wr.heap.size) := ⟨hg1, hg1s⟩
      have tm : ((m : Int) == 0) = false := by simp; omega
      have lt1 : ¬ (j : Int) < (j : Int) := by omega
      obtain ⟨i, hi, hlow⟩ := low_nat at_ m hm0 (by omega)
      have HLO := Lib.hid hlow
      clear htake hll hX hL hM hg1 hg1s hlow HY HP
      go_wp2_with fail
      (with_reducible refine (HA1.out _ (Below.refl _ _)).mono ?_)
      rintro e2 w2 h2
      obtain ⟨A3, n3, c3, fps3, rfl, o3, hf3, b3⟩ := h2
      have hn3 : n3 = k := by
        have e1 := o3.len
        have e2 := V1.out.len
        have e3 := congrArg List.length (hf3.trans HM.out.symm)
        simp only [List.length_map] at e3
        omega
      subst hn3
      have O3 := Lib.hid o3
      have HF3 := Lib.hid hf3
      have C3 := Lib.hid b3
      have B3 := Lib.hid (B1.out.trans (b3.mono B1.out.size))
      have V3 := Lib.hid (V1.out.below b3)
      have W3 := Lib.hid (O1.out.below b3)
      have tk : ((n3 : Int) != (n3 : Int)) = false := by simp
      have HML : Hid (M.length = n3) := show _ = _ by rw [← HM.out, List.length_map]; exact V1.out.len
      clear o3 hf3 b3 HA1 V1 O1 lt1
      simp only
      go_wp2_with fail
      go_loopw [13] (fun i wr => ∃ j : Nat, i = .int .i64 j ∧ j ≤ n3 ∧ Hid (Below w2.heap.size w2 wr)) (fun i _ => n3 - (intOf i).toNat)
      case atStart => exact ⟨0, rfl, Nat.zero_le _, Below.refl _ _⟩
      case round =>
        obtain ⟨jj, rfl, hjj, B⟩ := hrel
        by_cases hlt : jj < n3
        · have hfj : M[jj]? = some (M[jj]'(by have := HML.out; omega)) := List.getElem?_eq_getElem _
          obtain ⟨fj, hfe⟩ : ∃ fj, M[jj]'(by have := HML.out; omega) = fj := ⟨_, rfl⟩
          rw [hfe] at hfj
          obtain ⟨p1, g3, rfl, hg3, fo1, r1⟩ := pick_row O3.out jj hlt fj (by rw [HF3.out]; exact hfj)
          obtain ⟨p2, g2, rfl, hg2, hmem, r2⟩ := V3.out.pick jj hlt fj (by rw [HM.out]; exact hfj)
          have HSAME : Hid (∀ u, Below w2.heap.size w2 u → Calls Try.prog 20 #[.agg (frV fj p1).toArray, .agg (frV fj p2).toArray] u fun e w' => e = .returned (.bool true) ∧ Below w2.heap.size w2 w') := fun u hu =>
            (rsam_any fj fj p1 p2 u.heap.size u (Nat.le_refl _) (fo1.below hu).l (((HF.out _ hmem).below (B3.out.trans (hu.mono B3.out.size))).more (Nat.le_trans B3.out.size hu.size)) true (by simp)).mono fun e w' h => ⟨h.1, hu.trans (h.2.mono hu.size)⟩
          have HR : Hid (∀ u, Below w2.heap.size w2 u → u.rangeAt g3 (jj * 10) (frV fj p1) ∧ u.rangeAt g2 (jj * 10) (frV fj p2)) := fun u hu => ⟨range_belowS r1 hg3 hu, range_belowS r2 hg2 hu⟩
          have HSZ1 := Lib.hid (frV_size fj p1)
          have HSZ2 := Lib.hid (frV_size fj p2)
          obtain ⟨vs1, hv1⟩ : ∃ y, frV fj p1 = y := ⟨_, rfl⟩
          obtain ⟨vs2, hv2⟩ : ∃ y, frV fj p2 = y := ⟨_, rfl⟩
          rw [hv1, hv2] at HSAME HR
          rw [hv1] at HSZ1
          rw [hv2] at HSZ2
          have lt1 : (jj : Int) < (n3 : Int) := by omega
          clear hfj hfe hg3 hg2 fo1 hmem r1 r2 hv1 hv2
          go_wp2_with fail
          refine wp_held (S := fun u => Below w2.heap.size w2 u) (by kernel_rfl) ?_
          have hS : Below w2.heap.size w2 wr.drew := below_dr B.out
          refine wpAnyH_take (i := 0) (v := ?_) rfl (by kernel_rfl) (by kernel_rfl) (by kernel_rfl) (fun _ _ _ h => h) (Or.inl ⟨by rfl, ?_⟩) hS ?_
          rotate_left 1
          · intro u hu
            go_simp
            first | done | with_reducible rfl
          go_simp
          refine wpAnyH_take (i := 1) (v := ?_) rfl (by kernel_rfl) (by kernel_rfl) (by kernel_rfl) (fun _ _ _ h => h) (Or.inl ⟨by rfl, ?_⟩) hS ?_
          rotate_left 1
          · intro u hu
            go_simp
            first | done | with_reducible rfl
          go_simp
          refine wpAnyH_take (i := 2) (v := ?_) rfl (by kernel_rfl) (by kernel_rfl) (by kernel_rfl) (fun _ _ _ h => h) (Or.inl ⟨by rfl, ?_⟩) hS ?_
          rotate_left 1
          · intro u hu
            go_simp
            first | done | with_reducible rfl
          go_simp
          refine wpAnyH_pickG 3 (.agg vs1.toArray) rfl (by kernel_rfl) (by kernel_rfl) (by kernel_rfl) (by rfl) (fun _ _ _ h => h) (fun u hu => exec_load_mid u 26 (.tmp 128) rfl g3 (jj * 10) (by with_unfolding_all rfl) vs1 _ (HR.out u hu).1 Try.underlying26 rfl HSZ1.out) hS ?_
          go_simp
          refine wpAnyH_take (i := 4) (v := ?_) rfl (by kernel_rfl) (by kernel_rfl) (by kernel_rfl) (fun _ _ _ h => h) (Or.inl ⟨by rfl, ?_⟩) hS ?_
          rotate_left 1
          · intro u hu
            go_simp
            first | done | with_reducible rfl
          go_simp
          refine wpAnyH_take (i := 5) (v := ?_) rfl (by kernel_rfl) (by kernel_rfl) (by kernel_rfl) (fun _ _ _ h => h) (Or.inl ⟨by rfl, ?_⟩) hS ?_
          rotate_left 1
          · intro u hu
            go_simp
            first | done | with_reducible rfl
          go_simp
          refine wpAnyH_take (i := 6) (v := ?_) rfl (by kernel_rfl) (by kernel_rfl) (by kernel_rfl) (fun _ _ _ h => h) (Or.inl ⟨by rfl, ?_⟩) hS ?_
          rotate_left 1
          · intro u hu
            go_simp
            first | done | with_reducible rfl
          go_simp
          refine wpAnyH_pickG 7 (.agg vs2.toArray) rfl (by kernel_rfl) (by kernel_rfl) (by kernel_rfl) (by rfl) (fun _ _ _ h => h) (fun u hu => exec_load_mid u 26 (.tmp 132) rfl g2 (jj * 10) (by with_unfolding_all rfl) vs2 _ (HR.out u hu).2 Try.underlying26 rfl HSZ2.out) hS ?_
          go_simp
          refine wpAnyH_oneG 8 (by kernel_rfl) rfl (by rfl) ?_
          go_wp2_with fail
          (with_reducible refine (HSAME.out _ hS).mono ?_)
          rintro e9 w9 ⟨rfl, hS9⟩
          refine ⟨hS9, ?_⟩
          clear hS
          refine wpAnyH_take (i := 9) (v := ?_) rfl (by kernel_rfl) (by kernel_rfl) (by kernel_rfl) (fun _ _ _ h => h) (Or.inl ⟨by rfl, ?_⟩) hS9 ?_
          rotate_left 1
          · intro u hu
            go_simp
            first | done | with_reducible rfl
          go_simp
          refine wpAnyH_done (by kernel_rfl) ?_ _
          go_wp2_with fail
          go_roundw
          case rel => exact ⟨jj + 1, by go_num, Nat.succ_le_of_lt hlt, hS9⟩
          case measure => simp [intOf]; omega
        · obtain rfl : jj = n3 := by omega
          have lt1 : ¬ (jj : Int) < (jj : Int) := by omega
          have B4 := Lib.hid (B3.out.trans (B.out.mono B3.out.size))
          have W4 := Lib.hid (W3.out.below B.out)
          have hG1 : w.heap.size ≤ g1 ∧ g1 < w2.heap.size := ⟨HG1.out.1, Nat.lt_of_lt_of_le HG1.out.2 C3.out.size⟩
          clear HG1 W3 V3 O3 HM HF HF3 HML C3
          have hic : i ≤ d := by have := HD.out.1; omega
          have hd0 : ¬ d = 0 := by have := HD.out.1; omega
          obtain ⟨n1, hn1⟩ : ∃ z, lenX (allX (L.take i)) = z := ⟨_, rfl⟩
          obtain ⟨c1, hc1⟩ : ∃ z, codeX (allX (L.take i)) = z := ⟨_, rfl⟩
          obtain ⟨n2, hn2⟩ : ∃ z, lenX (allX (L.set i y)) = z := ⟨_, rfl⟩
          obtain ⟨c2, hc2⟩ : ∃ z, codeX (allX (L.set i y)) = z := ⟨_, rfl⟩
          have HP1 : Hid (∀ u, Own u w.heap.size (.slice (some ⟨g1, 0, none⟩) m d) m L → Calls Try.prog 24 #[.slice (some ⟨g1, 0, none⟩) i d] u fun e w' => ∃ A c, e = .returned (.tuple #[.slice A n1 c, .int .i64 (c1 : Int)]) ∧ Below u.heap.size u w') := fun u hu => by
            rw [← hn1, ← hc1]
            exact (fall_any (L.take i) _ i d u.heap.size u (hu.sl.take (Nat.le_of_lt hi)) (Nat.le_refl _) hic HD.out.2).mono fun e w' h => allsF_len h
          have HP2 : Hid (∀ u, Own u w.heap.size (.slice (some ⟨g1, 0, none⟩) m d) m L → Calls Try.prog 25 #[.slice (some ⟨g1, 0, none⟩) i d] u fun e w' => ∃ A c, e = .returned (.tuple #[.slice A n1 c, .int .i64 (c1 : Int)]) ∧ Below u.heap.size u w') := fun u hu => by
            rw [← hn1, ← hc1]
            exact (rall_any (L.take i) _ i d u.heap.size u (hu.sl.take (Nat.le_of_lt hi)) (Nat.le_refl _) hic HD.out.2).mono fun e w' h => allsF_len h
          have HP3 : Hid (∀ u, Own u w.heap.size (.slice (some ⟨g1, 0, none⟩) m d) m (L.set i y) → Calls Try.prog 24 #[.slice (some ⟨g1, 0, none⟩) m d] u fun e w' => ∃ A c, e = .returned (.tuple #[.slice A n2 c, .int .i64 (c2 : Int)]) ∧ Below u.heap.size u w') := fun u hu => by
            rw [← hn2, ← hc2]
            exact (fall_any (L.set i y) _ m d u.heap.size u hu.sl (Nat.le_refl _) HD.out.1 HD.out.2).mono fun e w' h => allsF_len h
          have HP4 : Hid (∀ u, Own u w.heap.size (.slice (some ⟨g1, 0, none⟩) m d) m (L.set i y) → Calls Try.prog 25 #[.slice (some ⟨g1, 0, none⟩) m d] u fun e w' => ∃ A c, e = .returned (.tuple #[.slice A n2 c, .int .i64 (c2 : Int)]) ∧ Below u.heap.size u w') := fun u hu => by
            rw [← hn2, ← hc2]
            exact (rall_any (L.set i y) _ m d u.heap.size u hu.sl (Nat.le_refl _) HD.out.1 HD.out.2).mono fun e w' h => allsF_len h
          have hcut : ∀ u : World, (Instr.slice 24 (.slice (some ⟨g1, 0, none⟩) m d) none (some (.int .i64 (i : Int))) none).run Try.prog u = .ok (.slice (some ⟨g1, 0, none⟩) i d) u := fun u => by
            rw [run_cut_to u _ m d i hic, if_neg hd0]
            rfl
          have la : (i : Int) < (m : Int) := by omega
          have t1 : ((c1 : Int) == (c1 : Int)) = true := by simp
          have t2 : ((n1 : Int) == (n1 : Int)) = true := by simp
          have t3 : ((c2 : Int) == (c2 : Int)) = true := by simp
          have t4 : ((n2 : Int) == (n2 : Int)) = true := by simp
          clear hn1 hc1 hn2 hc2 hic hd0 tk
          go_wp2_with (first | (go_at_call 26; (with_reducible refine (HLO.out _).mono ?_); rintro e w' ⟨rfl, rfl⟩))
          (with_reducible refine (HP1.out _ W4.out).mono ?_)
          rintro e5 w5 ⟨A5, k5, rfl, b5⟩
          have W5 := Lib.hid (W4.out.below b5)
          have B5 := Lib.hid (B4.out.trans (b5.mono B4.out.size))
          clear b5 W4 B4
          simp only
          go_wp2_with fail
          (with_reducible refine (HP2.out _ W5.out).mono ?_)
          rintro e6 w6 ⟨A6, k6, rfl, b6⟩
          have W6 := Lib.hid (W5.out.below b6)
          have B6 := Lib.hid (B5.out.trans (b6.mono B5.out.size))
          have cd := W6.out.cell i (by rw [W6.out.len]; exact hi)
          have cf := W6.out.frozen i
          clear b6 W5 B5
          simp only
          go_wp2_with fail
          obtain ⟨w7, hw7⟩ : ∃ x, w6.setCell ⟨g1, i, none⟩ (.int .u8 (bn y)) = x := ⟨_, rfl⟩
          have W7 : Hid (Own w7 w.heap.size (.slice (some ⟨g1, 0, none⟩) m d) m (L.set i y)) := show Own _ _ _ _ _ by rw [← hw7]; exact W6.out.store i y _ rfl
          have B7 : Hid (Below w.heap.size w w7) := show Below _ _ _ by rw [← hw7]; exact B6.out.setCell hG1.1 _
          rw [hw7]
          clear hw7 cd cf W6 B6
          (with_reducible refine (HP3.out _ W7.out).mono ?_)
          rintro e8 w8 ⟨A8, k8', rfl, b8⟩
          have W8 := Lib.hid (W7.out.below b8)
          have B8 := Lib.hid (B7.out.trans (b8.mono B7.out.size))
          clear b8 W7 B7
          simp only
          go_wp2_with fail
          (with_reducible refine (HP4.out _ W8.out).mono ?_)
          rintro e9 w9 ⟨A9, k9, rfl, b9⟩
          have B9 := Lib.hid (B8.out.trans (b9.mono B8.out.size))
          clear b9 W8 B8
          simp only
          go_wp2_with fail
          (with_reducible refine (HAW.out _ B9.out).mono ?_)
          rintro e10 w10 ⟨rfl, b10⟩
          go_wp2
          go_ret
          exact ⟨rfl, b10⟩
theorem rows_all (l : List (Fr × Fp)) (A : Option Addr) (n c : Nat) (at_ : Int) (y : UInt8) (w : World) (hin : InF w w.heap.size A n l) : Calls Try.prog 5 #[.slice A n c, .int .i64 at_, .int .u8 (bn y)] w fun e w' => e = .returned (.bool true) ∧ Below w.heap.size w w' := by
  by_cases h : 1 ≤ n ∧ n ≤ 8
  · exact rows_any l A n c at_ y w h.1 h.2 hin
  · exact rows_short A n c at_ y w (by omega)
end Go.Proofs.Ytafbhjhdnchfbaa
