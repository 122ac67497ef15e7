/-
  Ranges that may be an Ack's: frame.mayRanges.
-/
import Derived.Test.YtcipmfhacloegaaFrA
namespace Go.Proofs.Ytcipmfhacloegaa
open Go.RowKit
set_option linter.unusedVariables false

theorem getD_at {α : Type} (l : List α) (d : α) (j : Nat) (h : j < l.length) : l.getD j d = l[j] := by simp [h]
theorem belowN {B : Nat} {a w : World} (h : Below B a w) (n : Nat) : Below B a (w.drewN n) := ⟨h.os, h.tape, h.output, h.size, h.block⟩
theorem slR_at {w : World} {B n b off : Nat} {l : List (Nat × Nat)} (h : SlR w B (some ⟨b, off, none⟩) n l) (j : Nat) (hj : j < n) :
    w.cell? ⟨b, off + j * 2, none⟩ = some (.int .u64 ((l.getD j (0, 0)).1 : Int)) ∧ w.cell? ⟨b, off + j * 2 + 1, none⟩ = some (.int .u64 ((l.getD j (0, 0)).2 : Int)) := by
  have hl := h.1
  obtain ⟨b', off', e, hb, hc⟩ := h.2 (by omega)
  have e : b = b' ∧ off = off' := by simpa using e
  obtain ⟨rfl, rfl⟩ := e
  have := hc j (by omega)
  rw [getD_at _ _ _ (by omega)]
  exact this
set_option maxHeartbeats 2000000 in
theorem mayRanges_any (rs : List (Nat × Nat)) (A : Option Addr) (n c B : Nat) (w : World) (hB : B ≤ w.heap.size) (h : SlR w B A n rs) (hr : ∀ x ∈ rs, x.1 < 18446744073709551616 ∧ x.2 < 18446744073709551616) (hm : n ≤ maxLen) (b : Bool) (hb : b = true ↔ RangesP rs) :
    Calls Try.prog 59 #[.slice A n c] w fun e w' => e = .returned (.bool b) ∧ Below w.heap.size w w' := by
  have hl := h.1
  have hn63 : n ≤ 9223372036854775807 := by unfold maxLen at hm; omega
  have HX : Hid (∀ j, j < n → (rs.getD j (0, 0)).1 < 18446744073709551616 ∧ (rs.getD j (0, 0)).2 < 18446744073709551616) := fun j hj => by
    rw [getD_at _ _ _ (by omega)]
    exact hr _ (List.getElem_mem _)
  have HI := Lib.hid (hb.trans (ranges_index rs))
  rw [hl] at HI
  have HS : Hid (∀ u, Below w.heap.size w u → SlR u B A n rs) := fun u hu => h.below (hu.mono hB)
  have H0 := Lib.hid h
  clear hb hl hr hm h
  by_cases h0 : n = 0
  · subst h0
    obtain rfl : b = false := by
      cases b with
      | false => rfl
      | true => have := (HI.out.1 rfl).1; omega
    go_enter Try.func59, Try.ntmps59
    go_wp2
    go_ret
    exact ⟨rfl, Below.refl _ _⟩
  · by_cases h8 : 8 < n
    · obtain rfl : b = false := by
        cases b with
        | false => rfl
        | true => have := (HI.out.1 rfl).2.1; omega
      go_enter Try.func59, Try.ntmps59
      go_wp2
      go_ret
      exact ⟨rfl, Below.refl _ _⟩
    · obtain ⟨bk, off, rfl, hbk, _⟩ := H0.out.2 (by omega)
      obtain ⟨⟨x1, x2⟩, hx⟩ : ∃ x, rs.getD 0 (0, 0) = x := ⟨_, rfl⟩
      have hx0 := HX.out 0 (by omega)
      have c0 := slR_at H0.out 0 (by omega)
      rw [hx] at hx0 c0
      simp only [Nat.zero_mul, Nat.add_zero] at hx0 c0
      obtain ⟨c01, c02⟩ := c0
      by_cases hv : 4611686018427387903 < x2
      · obtain rfl : b = false := by
          cases b with
          | false => rfl
          | true =>
            have := ((HI.out.1 rfl).2.2 0 (by omega)).2.1
            rw [hx] at this
            unfold maxV at this
            simp only at this
            omega
        go_enter Try.func59, Try.ntmps59
        go_wp2
        go_ret
        exact ⟨rfl, Below.refl _ _⟩
      · have HV : Hid ((rs.getD 0 (0, 0)).2 ≤ 4611686018427387903) := show _ ≤ _ by rw [hx]; simp only; omega
        have hv' : x2 ≤ 4611686018427387903 := by omega
        have t1 : ((n : Int) == 0) = false := by simp; omega
        have t2 : decide ((8 : Int) < (n : Int)) = false := by simp; omega
        have t3 : decide ((4611686018427387903 : Int) < (x2 : Int)) = false := by simp; omega
        clear hx hv
        go_enter Try.func59, Try.ntmps59
        go_wp2_with fail
        clear c01 c02 hv' hx0 t1 t2 t3
        go_loopw [3, 4, 22] (fun _ _ i wr => ∃ j : Nat, j ≤ n ∧ i = .int .i64 j ∧ Hid (Below w.heap.size w wr) ∧ Hid (∀ i, i < j → condR rs i)) (fun _ _ i _ => n - (intOf i).toNat)
        case atStart => exact ⟨0, by omega, rfl, Below.refl _ _, fun i hi => absurd hi (by omega)⟩
        case round =>
          obtain ⟨j, hj, rfl, HW, HJ⟩ := hrel
          by_cases hlt : j < n
          · obtain ⟨⟨lo, hi⟩, hx⟩ : ∃ x, rs.getD j (0, 0) = x := ⟨_, rfl⟩
            have hxj := HX.out j hlt
            have cj := slR_at (HS.out _ HW.out) j hlt
            rw [hx] at hxj cj
            simp only at hxj cj
            obtain ⟨cj1, cj2⟩ := cj
            have Hx := Lib.hid hx
            clear hx
            by_cases h1 : hi < lo
            · obtain rfl : b = false := by
                cases b with
                | false => rfl
                | true =>
                  have := ((HI.out.1 rfl).2.2 j hlt).1
                  rw [Hx.out] at this
                  simp only at this
                  omega
              go_wp2
              go_ret
              exact ⟨rfl, HW.out.alloc HW.out.size _⟩
            · have HLH : Hid (lo ≤ hi) := show _ ≤ _ by omega
              by_cases hj0 : j = 0
              · subst hj0
                simp only [Nat.zero_mul, Nat.add_zero] at cj1 cj2
                have HJ1 : Hid (∀ i, i < 0 + 1 → condR rs i) := fun i hi' => by
                  obtain rfl : i = 0 := by omega
                  refine ⟨?_, ?_, fun h => absurd h (by omega)⟩
                  · rw [Hx.out]; exact HLH.out
                  · exact HV.out
                go_wp2_with fail
                go_quiet (fail)
                go_wp2
                go_roundw
                case rel => exact ⟨0 + 1, by omega, by go_num, belowN (HW.out.alloc HW.out.size _) _, HJ1⟩
                case measure => simp [intOf]; omega
              · obtain ⟨i, rfl⟩ : ∃ i, j = i + 1 := ⟨j - 1, by omega⟩
                obtain ⟨⟨plo, phi⟩, hp⟩ : ∃ x, rs.getD i (0, 0) = x := ⟨_, rfl⟩
                have hpi := HX.out i (by omega)
                have cI := slR_at (HS.out _ (HW.out.alloc HW.out.size (.cells #[.int .u64 (lo : Int), .int .u64 (hi : Int)] 44))) i (by omega)
                have hci := HJ.out i (by omega)
                unfold condR at hci
                rw [hp] at hpi cI hci
                simp only at hpi cI hci
                obtain ⟨ci1, ci2⟩ := cI
                have hpm : phi ≤ 4611686018427387903 := hci.2.1
                have hpl : plo ≤ phi := hci.1
                have Hp := Lib.hid hp
                have wi : IntKind.i64.wrap ((i : Int) + 1 - 1) = (i : Int) := by rw [show (i : Int) + 1 - 1 = (i : Int) by omega]; exact IntWalk.i64_in _ (by omega)
                have tj : decide ((0 : Int) < (i : Int) + 1) = true := decide_eq_true (by omega)
                clear hp hci ci2
                have hno : b = true → hi + 2 ≤ plo := fun hb => by
                  have := ((HI.out.1 hb).2.2 (i + 1) hlt).2.2 (by omega)
                  rw [Hx.out, show i + 1 - 1 = i by omega, Hp.out] at this
                  exact this
                by_cases h2 : plo < hi
                · obtain rfl : b = false := by
                    cases b with
                    | false => rfl
                    | true => have := hno rfl; omega
                  have t2 : decide ((plo : Int) < (hi : Int)) = true := by simp; omega
                  clear hno
                  go_wp2_with fail
                  go_quiet (fail)
                  go_wp2
                  go_ret
                  exact ⟨rfl, belowN (HW.out.alloc HW.out.size _) _⟩
                · have t2 : decide ((plo : Int) < (hi : Int)) = false := by simp; omega
                  obtain ⟨d, hd⟩ : ∃ d : Nat, plo - hi = d := ⟨_, rfl⟩
                  have wd : IntKind.u64.wrap ((plo : Int) - (hi : Int)) = (d : Int) := by rw [wrap_u64N]; omega
                  by_cases h3 : d < 2
                  · obtain rfl : b = false := by
                      cases b with
                      | false => rfl
                      | true => have := hno rfl; omega
                    have t3 : decide ((d : Int) < 2) = true := by simp; omega
                    clear hno hd
                    go_wp2_with fail
                    go_quiet (fail)
                    go_wp2
                    go_ret
                    exact ⟨rfl, belowN (HW.out.alloc HW.out.size _) _⟩
                  · have t3 : decide ((d : Int) < 2) = false := by simp; omega
                    have HJ1 : Hid (∀ k, k < i + 1 + 1 → condR rs k) := fun k hk => by
                      by_cases hk1 : k < i + 1
                      · exact HJ.out k hk1
                      · obtain rfl : k = i + 1 := by omega
                        refine ⟨?_, ?_, fun _ => ?_⟩
                        · rw [Hx.out]; exact HLH.out
                        · rw [Hx.out]; unfold maxV; simp only; omega
                        · rw [Hx.out, show i + 1 - 1 = i by omega, Hp.out]; simp only; omega
                    clear hno hd
                    go_wp2_with fail
                    go_quiet (fail)
                    go_wp2
                    go_roundw
                    case rel => exact ⟨i + 1 + 1, by omega, by go_num, belowN (HW.out.alloc HW.out.size _) _, HJ1⟩
                    case measure => simp [intOf]; omega
          · go_wp2
            go_ret
            obtain rfl : b = true := HI.out.2 ⟨by omega, by omega, fun i hi => HJ.out i (by omega)⟩
            exact ⟨rfl, HW.out⟩
end Go.Proofs.Ytcipmfhacloegaa
