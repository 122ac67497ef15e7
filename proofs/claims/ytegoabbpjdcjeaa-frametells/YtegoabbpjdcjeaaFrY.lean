/-
  The document's plain and ranges.
-/
import Derived.Test.YtegoabbpjdcjeaaFrE
namespace Go.Proofs.Ytegoabbpjdcjeaa
open Go.RowKit
set_option linter.unusedVariables false

set_option maxHeartbeats 4000000 in
theorem plain_any (f : Fr) (p : Fp) (w : World) (hr : f.rs.length = p.rn) (hd : f.data.length = p.dn) (hc : f.cid.length = p.cn) (ht : f.tok.length = p.tn) (b : Bool) (hb : b = true ↔ plainF f) :
    Calls Try.prog 37 #[.agg (frV f p).toArray] w fun e w' => e = .returned (.bool b) ∧ Below w.heap.size w w' := by
  obtain ⟨k, n, d, rs, id, of, fi, da, ci, tk⟩ := f
  obtain ⟨ra, rn, rc, dA, dn, dc, ca, cn, cc, ta, tn, tc⟩ := p
  simp only [plainF] at hb hr hd hc ht
  have B0 : Hid (∀ o1, Below w.heap.size w (w.alloc o1)) := fun _ => (Below.refl _ _).alloc (Nat.le_refl _) _
  have nil_iff : ∀ {α : Type} (l : List α) (m : Nat), l.length = m → (l = [] ↔ m = 0) := fun l m h => by
    rw [← h]
    exact List.length_eq_zero_iff.symm
  rw [nil_iff rs rn hr, nil_iff da dn hd, nil_iff ci cn hc, nil_iff tk tn ht] at hb
  clear nil_iff hr hd hc ht
  have no : ∀ P : Prop, ¬ P → (b = true ↔ P) → b = false := fun P hP h => by
    cases b with
    | false => rfl
    | true => exact absurd (h.1 rfl) hP
  unfold frV
  by_cases h1 : n = 0
  rotate_left
  · obtain rfl := no _ (by omega) hb
    have t : ((n : Int) == 0) = false := by simp; omega
    clear hb no
    go_enter Try.func37, Try.ntmps37
    go_wp2
    go_ret
    exact ⟨rfl, B0.out _⟩
  have t1 : ((n : Int) == 0) = true := by simp; omega
  by_cases h2 : d = 0
  rotate_left
  · obtain rfl := no _ (by omega) hb
    have t : ((d : Int) == 0) = false := by simp; omega
    clear hb no
    go_enter Try.func37, Try.ntmps37
    go_wp2
    go_ret
    exact ⟨rfl, B0.out _⟩
  have t2 : ((d : Int) == 0) = true := by simp; omega
  by_cases h3 : rn = 0
  rotate_left
  · obtain rfl := no _ (by omega) hb
    have t : ((rn : Int) == 0) = false := by simp; omega
    clear hb no
    go_enter Try.func37, Try.ntmps37
    go_wp2
    go_ret
    exact ⟨rfl, B0.out _⟩
  have t3 : ((rn : Int) == 0) = true := by simp; omega
  by_cases h4 : id = 0
  rotate_left
  · obtain rfl := no _ (by omega) hb
    have t : ((id : Int) == 0) = false := by simp; omega
    clear hb no
    go_enter Try.func37, Try.ntmps37
    go_wp2
    go_ret
    exact ⟨rfl, B0.out _⟩
  have t4 : ((id : Int) == 0) = true := by simp; omega
  by_cases h5 : of = 0
  rotate_left
  · obtain rfl := no _ (by omega) hb
    have t : ((of : Int) == 0) = false := by simp; omega
    clear hb no
    go_enter Try.func37, Try.ntmps37
    go_wp2
    go_ret
    exact ⟨rfl, B0.out _⟩
  have t5 : ((of : Int) == 0) = true := by simp; omega
  cases fi with
  | true =>
    obtain rfl := no _ (by simp) hb
    clear hb no
    go_enter Try.func37, Try.ntmps37
    go_wp2
    go_ret
    exact ⟨rfl, B0.out _⟩
  | false =>
  by_cases h7 : dn = 0
  rotate_left
  · obtain rfl := no _ (by omega) hb
    have t : ((dn : Int) == 0) = false := by simp; omega
    clear hb no
    go_enter Try.func37, Try.ntmps37
    go_wp2
    go_ret
    exact ⟨rfl, B0.out _⟩
  have t7 : ((dn : Int) == 0) = true := by simp; omega
  by_cases h8 : cn = 0
  rotate_left
  · obtain rfl := no _ (by omega) hb
    have t : ((cn : Int) == 0) = false := by simp; omega
    clear hb no
    go_enter Try.func37, Try.ntmps37
    go_wp2
    go_ret
    exact ⟨rfl, B0.out _⟩
  have t8 : ((cn : Int) == 0) = true := by simp; omega
  by_cases h9 : tn = 0
  rotate_left
  · obtain rfl := no _ (by omega) hb
    have t : ((tn : Int) == 0) = false := by simp; omega
    clear hb no
    go_enter Try.func37, Try.ntmps37
    go_wp2
    go_ret
    exact ⟨rfl, B0.out _⟩
  have t9 : ((tn : Int) == 0) = true := by simp; omega
  obtain rfl : b = true := hb.2 (by simp [h1, h2, h3, h4, h5, h7, h8, h9])
  clear hb no
  go_enter Try.func37, Try.ntmps37
  go_wp2
  go_ret
  exact ⟨rfl, B0.out _⟩
set_option maxHeartbeats 4000000 in
theorem rranges_any (rs : List (Nat × Nat)) (A : Option Addr) (n c B : Nat) (w : World) (h : SlR w B A n rs) (hr : ∀ x ∈ rs, x.1 < 18446744073709551616 ∧ x.2 < 18446744073709551616) (hm : n ≤ maxLen) (b : Bool) (hb : b = true ↔ RangesP rs) :
    Calls Try.prog 36 #[.slice A n c] w fun e w' => e = .returned (.bool b) ∧ Below w.heap.size w w' := by
  have hl := h.1
  have hn63 : n ≤ 9223372036854775807 := by unfold maxLen at hm; omega
  have HX : Hid (∀ j, j < n → (rs.getD j (0, 0)).1 < 18446744073709551616 ∧ (rs.getD j (0, 0)).2 < 18446744073709551616) := fun j hj => by
    rw [getD_at _ _ _ (by omega)]
    exact hr _ (List.getElem_mem _)
  have HI := Lib.hid (hb.trans (ranges_index rs))
  rw [hl] at HI
  have BN : Hid (∀ k, Below w.heap.size w (w.drewN k)) := fun k => ⟨rfl, rfl, rfl, Nat.le_refl _, fun _ _ => rfl⟩
  have H0 := Lib.hid h
  have no : ∀ j, j < n → ¬ condR rs j → b = false := fun j hj hc => by
    cases b with
    | false => rfl
    | true => exact absurd ((HI.out.1 rfl).2.2 j hj) hc
  have NO := Lib.hid no
  clear hb hl hr hm h no
  go_enter Try.func36, Try.ntmps36
  go_wp2_with fail
  go_loopw [3] (fun i wr => ∃ j k : Nat, j ≤ n ∧ i = .int .i64 j ∧ wr = w.drewN k ∧ Hid (∀ i, i < j → condR rs i)) (fun i _ => n - (intOf i).toNat)
  case atStart => exact ⟨0, 0, by omega, rfl, rfl, fun i hi => absurd hi (by omega)⟩
  case round =>
    obtain ⟨j, m, hj, rfl, rfl, HJ⟩ := hrel
    by_cases hlt : j < n
    · obtain ⟨bk, off, rfl, hbk, _⟩ := H0.out.2 (by omega)
      obtain ⟨⟨lo, hi⟩, hx⟩ : ∃ x, rs.getD j (0, 0) = x := ⟨_, rfl⟩
      have hxj := HX.out j hlt
      have cj := slR_at H0.out j hlt
      rw [hx] at hxj cj
      simp only at hxj cj
      obtain ⟨cj1, cj2⟩ := cj
      have Hx := Lib.hid hx
      clear hx
      by_cases h1 : hi < lo
      · obtain rfl := NO.out j hlt (by unfold condR; rw [Hx.out]; simp only; omega)
        have t1 : decide ((hi : Int) < (lo : Int)) = true := decide_eq_true (by omega)
        go_wp2_with fail
        go_quiet (fail)
        go_wp2
        go_ret
        exact ⟨rfl, by simp only [World.drewN_drewN]; exact BN.out _⟩
      · have t1 : decide ((hi : Int) < (lo : Int)) = false := decide_eq_false (by omega)
        by_cases h2 : 4611686018427387903 < hi
        · obtain rfl := NO.out j hlt (by unfold condR maxV; rw [Hx.out]; simp only; omega)
          have t2 : decide ((4611686018427387903 : Int) < (hi : Int)) = true := decide_eq_true (by omega)
          go_wp2_with fail
          go_quiet (fail)
          go_wp2
          go_ret
          exact ⟨rfl, by simp only [World.drewN_drewN]; exact BN.out _⟩
        · have t2 : decide ((4611686018427387903 : Int) < (hi : Int)) = false := decide_eq_false (by omega)
          by_cases hj0 : j = 0
          · subst hj0
            simp only [Nat.zero_mul, Nat.add_zero] at cj1 cj2
            have HJ1 : Hid (∀ i, i < 0 + 1 → condR rs i) := fun i hi' => by
              obtain rfl : i = 0 := by omega
              refine ⟨?_, ?_, fun h => absurd h (by omega)⟩
              · rw [Hx.out]; simp only; omega
              · rw [Hx.out]; unfold maxV; simp only; omega
            go_wp2_with fail
            go_quiet (fail)
            go_wp2
            go_roundw
            case rel => exact ⟨0 + 1, m + nq, by omega, by go_num, by simp, HJ1⟩
            case measure => simp [intOf]; omega
          · obtain ⟨i, rfl⟩ : ∃ i, j = i + 1 := ⟨j - 1, by omega⟩
            obtain ⟨⟨plo, phi⟩, hp⟩ : ∃ x, rs.getD i (0, 0) = x := ⟨_, rfl⟩
            have hpi := HX.out i (by omega)
            have cI := slR_at H0.out i (by omega)
            rw [hp] at hpi cI
            simp only at hpi cI
            obtain ⟨ci1, ci2⟩ := cI
            have Hp := Lib.hid hp
            have wi : IntKind.i64.wrap ((i : Int) + 1 - 1) = (i : Int) := by rw [show (i : Int) + 1 - 1 = (i : Int) by omega]; exact IntWalk.i64_in _ (by omega)
            have wi2 : IntKind.i64.wrap (i : Int) = (i : Int) := IntWalk.i64_in _ (by omega)
            have hin : i < n := by omega
            have tj : decide ((0 : Int) < (i : Int) + 1) = true := decide_eq_true (by omega)
            have hcn : hi + 2 ≤ plo ∨ b = false := by
              by_cases h : hi + 2 ≤ plo
              · exact .inl h
              · refine .inr (NO.out (i + 1) hlt ?_)
                unfold condR
                intro hc
                have := hc.2.2 (by omega)
                rw [Hx.out, show i + 1 - 1 = i by omega, Hp.out] at this
                exact h this
            clear hp ci2
            by_cases h3 : plo < 2
            · obtain rfl : b = false := hcn.resolve_left (by omega)
              have t3 : decide ((plo : Int) < 2) = true := decide_eq_true (by omega)
              clear hcn
              go_wp2_with fail
              go_quiet (fail)
              go_wp2
              go_ret
              exact ⟨rfl, by simp only [World.drewN_drewN]; exact BN.out _⟩
            · have t3 : decide ((plo : Int) < 2) = false := decide_eq_false (by omega)
              obtain ⟨d, hd⟩ : ∃ d : Nat, plo - 2 = d := ⟨_, rfl⟩
              have wd : IntKind.u64.wrap ((plo : Int) - 2) = (d : Int) := by rw [wrap_u64N]; omega
              by_cases h4 : d < hi
              · obtain rfl : b = false := hcn.resolve_left (by omega)
                have t4 : decide ((d : Int) < (hi : Int)) = true := decide_eq_true (by omega)
                clear hcn hd
                go_wp2_with fail
                go_quiet (fail)
                go_wp2
                go_ret
                exact ⟨rfl, by simp only [World.drewN_drewN]; exact BN.out _⟩
              · have t4 : decide ((d : Int) < (hi : Int)) = false := decide_eq_false (by omega)
                have HJ1 : Hid (∀ k, k < i + 1 + 1 → condR rs k) := fun k hk => by
                  by_cases hk1 : k < i + 1
                  · exact HJ.out k hk1
                  · obtain rfl : k = i + 1 := by omega
                    refine ⟨?_, ?_, fun _ => ?_⟩
                    · rw [Hx.out]; simp only; omega
                    · rw [Hx.out]; unfold maxV; simp only; omega
                    · rw [Hx.out, show i + 1 - 1 = i by omega, Hp.out]; simp only; omega
                clear hcn hd
                go_wp2_with fail
                go_quiet (fail)
                go_wp2
                go_roundw
                case rel => exact ⟨i + 1 + 1, m + nq, by omega, by go_num, by simp, HJ1⟩
                case measure => simp [intOf]; omega
    · obtain rfl : j = n := by omega
      by_cases h1 : 1 ≤ j
      · by_cases h8 : j ≤ 8
        · obtain rfl : b = true := HI.out.2 ⟨h1, h8, HJ.out⟩
          have t1 : decide ((1 : Int) ≤ (j : Int)) = true := decide_eq_true (by omega)
          have t2 : decide ((j : Int) ≤ 8) = true := decide_eq_true (by omega)
          go_wp2
          go_ret
          exact ⟨rfl, BN.out _⟩
        · obtain rfl : b = false := by
            cases b with
            | false => rfl
            | true => exact absurd (HI.out.1 rfl).2.1 h8
          have t1 : decide ((1 : Int) ≤ (j : Int)) = true := decide_eq_true (by omega)
          have t2 : decide ((j : Int) ≤ 8) = false := decide_eq_false (by omega)
          go_wp2
          go_ret
          exact ⟨rfl, BN.out _⟩
      · obtain rfl : b = false := by
          cases b with
          | false => rfl
          | true => exact absurd (HI.out.1 rfl).1 h1
        have t1 : decide ((1 : Int) ≤ (j : Int)) = false := decide_eq_false (by omega)
        go_wp2
        go_ret
        exact ⟨rfl, BN.out _⟩
end Go.Proofs.Ytegoabbpjdcjeaa
