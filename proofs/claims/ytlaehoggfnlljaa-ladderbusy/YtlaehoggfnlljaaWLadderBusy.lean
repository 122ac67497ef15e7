/-
  The walk of LadderBusy.
-/
import Derived.Test.YtlaehoggfnlljaaWLadderRates
namespace Go.Proofs.Ytlaehoggfnlljaa
open Go.RowKit Go.Lib Go.Maps
set_option linter.unusedVariables false

def asksL (f p : Int) (K : Nat) : List Int := (List.range K).map fun (i : Nat) => f + (i : Int) * p
theorem asks_len (f p : Int) (K : Nat) : (asksL f p K).length = K := by simp [asksL]
theorem asks_succ (f p : Int) (K : Nat) : asksL f p (K + 1) = asksL f p K ++ [f + (K : Int) * p] := by simp [asksL, List.range_succ]
theorem asks_mem {f p a : Int} {K : Nat} : a ∈ asksL f p K ↔ ∃ i : Nat, i < K ∧ f + (i : Int) * p = a := by simp [asksL]
theorem busy_asks {f p t : Int} {K : Nat} (hK : 0 < K) (hp : 0 < p) (hf : 0 ≤ f) (h0 : f ≤ t) (h1 : t ≤ f + ((K : Int) - 1) * p + 23) :
    busyL (asksL f p K) t = (decide ((t - f) % p < 24) || decide (f + ((K : Int) - 1) * p ≤ t)) := by
  rw [Bool.eq_iff_iff, busy_iff]
  simp only [Bool.or_eq_true, decide_eq_true_eq]
  constructor
  · rintro ⟨a, ha, a0, a1, a2⟩
    obtain ⟨i, hi, rfl⟩ := asks_mem.1 ha
    left
    have e : (t - f) % p = (t - f - (i : Int) * p) % p := by
      rw [Int.sub_mul_emod_self_right]
    rw [e]
    have e1 := Int.mul_ediv_add_emod (t - f - (i : Int) * p) p
    have e2 : 0 ≤ p * ((t - f - (i : Int) * p) / p) := Int.mul_nonneg (by omega) (Int.ediv_nonneg (by omega) (by omega))
    omega
  · intro h
    by_cases hl : f + ((K : Int) - 1) * p ≤ t
    · refine ⟨f + ((K : Int) - 1) * p, asks_mem.2 ⟨K - 1, by omega, ?_⟩, ?_, hl, by omega⟩
      · rw [show ((K - 1 : Nat) : Int) = (K : Int) - 1 by omega]
      · have : 0 ≤ ((K : Int) - 1) * p := Int.mul_nonneg (by omega) (by omega)
        omega
    · have hr : (t - f) % p < 24 := h.resolve_right hl
      have e := Int.mul_ediv_add_emod (t - f) p
      have hr0 := Int.emod_nonneg (t - f) (show p ≠ 0 by omega)
      have hq0 : 0 ≤ (t - f) / p := Int.ediv_nonneg (by omega) (by omega)
      have hqK : (t - f) / p < (K : Int) - 1 := by
        apply Int.ediv_lt_of_lt_mul hp
        omega
      have hm : 0 ≤ p * ((t - f) / p) := Int.mul_nonneg (by omega) hq0
      refine ⟨f + p * ((t - f) / p), asks_mem.2 ⟨((t - f) / p).toNat, by omega, ?_⟩, by omega, by omega, by omega⟩
      rw [Int.toNat_of_nonneg hq0, Int.mul_comm]
theorem low_wf' {y : Int} (h0 : 0 ≤ y) (h1 : y < 2000) : (Lit.int .i64 y).wf = true := wf_of (by omega) (by omega)
theorem slots_all {h f : Int} {A : List Int} : ∀ {m : Nat}, (∀ j : Nat, j < m → slotL h A (f + (j : Int)) = true) → (slotsL h A f m).length = m
  | 0, _ => rfl
  | m + 1, hj => by
    rw [slots_succ, hj m (by omega)]
    have := slots_all (fun j hjm => hj j (by omega) : ∀ j : Nat, j < m → slotL h A (f + (j : Int)) = true)
    simp [this]
/-- the ticks asked for are slots as the law says -/
theorem slot_asks {h f p t q : Int} {K : Nat} (hK : 0 < K) (hp : 0 < p) (hf : 0 ≤ f) (h0 : f ≤ t) (hq : ((K : Int) - 1) * p = q) (h1 : t ≤ f + q + 23) :
    slotL h (asksL f p K) t = (decide ((t - f).tmod p < 24) || decide (f + q ≤ t) || slowL h t) := by
  unfold slotL
  rw [busy_asks hK hp hf h0 (by omega), hq, Int.tmod_eq_emod_of_nonneg (by omega)]
  simp
  intro
  omega
set_option maxHeartbeats 3000000 in
theorem busyW_any (h0 f0 p0 k0 : Int) (w : World) : Calls Try.prog 7 #[.int .i64 h0, .int .i64 f0, .int .i64 p0, .int .i64 k0] w fun e w' => e = .returned (.bool true) ∧ Below w.heap.size w w' := by
  obtain ⟨h, hh0, hh1, HH⟩ := low_int h0 9 (by omega) (by omega)
  obtain ⟨f, hf0, hf1, HF⟩ := low_int f0 1000 (by omega) (by omega)
  obtain ⟨p', hp0', hp1', HP⟩ := low_int p0 40 (by omega) (by omega)
  obtain ⟨k', hk0', hk1', HK⟩ := low_int k0 8 (by omega) (by omega)
  have HH := Lib.hid HH
  have HF := Lib.hid HF
  have HP := Lib.hid HP
  have HK := Lib.hid HK
  obtain ⟨p, hpp⟩ : ∃ p, 1 + p' = p := ⟨_, rfl⟩
  obtain ⟨k, hkk⟩ : ∃ k, 1 + k' = k := ⟨_, rfl⟩
  obtain ⟨K, hKK⟩ : ∃ K : Nat, k = (K : Int) := ⟨k.toNat, by omega⟩
  have hp0 : 1 ≤ p := by omega
  have hp1 : p ≤ 40 := by omega
  have hpz : p ≠ 0 := by omega
  have hk0 : 1 ≤ k := by omega
  have hk1 : k ≤ 8 := by omega
  have hK0 : 0 < K := by omega
  have hK1 : K ≤ 8 := by omega
  have rp : wrap64 p = p := by unfold wrap64; omega
  have rk : wrap64 k = k := by unfold wrap64; omega
  obtain ⟨k1, hk2⟩ : ∃ k1, k - 1 = k1 := ⟨_, rfl⟩
  have rk1 : wrap64 k1 = k1 := by unfold wrap64; omega
  obtain ⟨q, hq⟩ : ∃ q, k1 * p = q := ⟨_, rfl⟩
  have hq0 : 0 ≤ q := by rw [← hq]; exact Int.mul_nonneg (by omega) (by omega)
  have hq1 : q ≤ 280 := by
    rw [← hq]
    have := Int.mul_le_mul (show k1 ≤ 7 by omega) (show p ≤ 40 by omega) (by omega) (by omega)
    omega
  have rq : wrap64 q = q := by unfold wrap64; omega
  obtain ⟨l, hl⟩ : ∃ l, f + q = l := ⟨_, rfl⟩
  have rl : wrap64 l = l := by unfold wrap64; omega
  obtain ⟨l24, hl24⟩ : ∃ l24, l + 24 = l24 := ⟨_, rfl⟩
  have rl24 : wrap64 l24 = l24 := by unfold wrap64; omega
  obtain ⟨z, hz⟩ : ∃ z, l24 - 1 = z := ⟨_, rfl⟩
  have rz : wrap64 z = z := by unfold wrap64; omega
  obtain ⟨M, hM⟩ : ∃ M : Nat, z - f + 1 = (M : Int) := ⟨(z - f + 1).toNat, by omega⟩
  have HM := Lib.hid hM
  have hM1 : M ≤ 400 := by omega
  have HKQ : Hid (((K : Int) - 1) * p = q) := by show _ = _; rw [← hKK, hk2, hq]
  have HKK := Lib.hid hKK
  have hfw := Lib.hid (low_wf' hf0 (show f < 2000 by omega))
  have hzw := Lib.hid (low_wf' (show 0 ≤ z by omega) (show z < 2000 by omega))
  have HSV : Hid (slotsV h (asksL f p K) f z = slotsL h (asksL f p K) f M) := by
    show _ = _
    rw [slotsV_some (by omega) (by omega)]
    rw [show (z - f + 1).toNat = M by omega]
  have HAL : Hid (∀ (y : Int), f ≤ y → y ≤ z → slotL h (asksL f p K) y = (decide ((y - f).tmod p < 24) || decide (l ≤ y) || slowL h y)) := by
    intro y hy0 hy1
    rw [slot_asks hK0 (by omega) hf0 hy0 HKQ.out (by omega), hl]
  have HZE : Hid (f + q + 23 = z) := by show _ = _; omega
  have HZL : Hid (l ≤ z) := by show l ≤ z; omega
  clear hM hKK
  go_enter Try.func7, Try.ntmps7
  go_wp2_with fail
  (with_reducible refine (HH.out w).mono ?_)
  rintro e1 w1 ⟨rfl, rfl⟩
  go_wp2_with fail
  (with_reducible refine (HF.out w).mono ?_)
  rintro e1 w1 ⟨rfl, rfl⟩
  go_wp2_with fail
  (with_reducible refine (HP.out w).mono ?_)
  rintro e1 w1 ⟨rfl, rfl⟩
  go_wp2_with fail
  (with_reducible refine (HK.out w).mono ?_)
  rintro e1 w1 ⟨rfl, rfl⟩
  go_wp2_with fail
  clear hpp hkk HH HF HP HK
  go_loopw [9, 10] (fun v i wr => ∃ (j : Nat) (A : Option Addr) (c : Nat), i = .int .i64 j ∧ v = .slice A j c ∧ j ≤ K ∧ Hid (OwnI wr w.heap.size (.slice A j c) j (asksL f p j)) ∧ Hid (Below w.heap.size w wr)) (fun _ i _ => K - (intOf i).toNat)
  case atStart => exact ⟨0, none, 0, rfl, rfl, by omega, OwnI.nil _ _, Below.refl _ _⟩
  case round =>
    obtain ⟨j, A, c, rfl, rfl, hj, HO, HB⟩ := hrel
    by_cases hlt : (j : Int) < k
    · have hjK : j < K := by have := HKK.out; omega
      obtain ⟨y, hy⟩ : ∃ y, (j : Int) * p = y := ⟨_, rfl⟩
      have hy0 : 0 ≤ y := by rw [← hy]; exact Int.mul_nonneg (by omega) (by omega)
      have hy1 : y ≤ 280 := by
        rw [← hy]
        have := Int.mul_le_mul (show (j : Int) ≤ 7 by omega) (show p ≤ 40 by omega) (by omega) (by omega)
        omega
      have ry : wrap64 y = y := by unfold wrap64; omega
      obtain ⟨x, hx⟩ : ∃ x, f + y = x := ⟨_, rfl⟩
      have rx : wrap64 x = x := by unfold wrap64; omega
      have HN : Hid (asksL f p (j + 1) = asksL f p j ++ [x]) := by show _ = _; rw [asks_succ, hy, hx]
      go_wp2_with (at_builtin; refine wpList_append_ints rfl _ _ rfl w.heap.size (.slice A j c) j _ rfl (HO.out.alloc _) _ _ 1 1 [x] rfl (slI_one wr x) (by omega) (by have := HB.out.size; simp; omega) ?_; intro A2 c2 w3 HO3 HC3 HB3)
      go_roundw
      case rel => exact ⟨j + 1, A2, c2, by go_num, rfl, by omega, by rw [HN.out]; exact HO3.out, HB.out.trans (((Below.refl _ _).alloc (by have := HB.out.size; omega) _).trans HB3.out)⟩
      case measure => simp [intOf]; omega
    · obtain rfl : j = K := by have := HKK.out; omega
      have HW : Hid (∀ y ∈ asksL f p j, (Lit.int .i64 y).wf = true) := by
        intro y hy
        obtain ⟨i, hi, rfl⟩ := asks_mem.1 hy
        have hy0 : 0 ≤ (i : Int) * p := Int.mul_nonneg (by omega) (by omega)
        have hy1 := Int.mul_le_mul (show (i : Int) ≤ 7 by omega) (show p ≤ 40 by omega) (by omega) (by omega)
        exact low_wf' (by omega) (by omega)
      have HS := Lib.hid (slots_any (c := c) HO.out.sl (Nat.le_refl _) HW.out (by omega) h f z hfw.out hzw.out)
      rw [HSV.out] at HS
      obtain ⟨G, hG⟩ : ∃ G, asksL f p j = G := ⟨_, rfl⟩
      have HGA : Hid (∀ (y : Int), f ≤ y → y ≤ z → slotL h G y = (decide ((y - f).tmod p < 24) || decide (l ≤ y) || slowL h y)) := by rw [← hG]; exact HAL.out
      rw [hG] at HS
      clear hG HAL HW HSV
      obtain ⟨g, hg⟩ : ∃ g, (slotsL h G f M).length = g := ⟨_, rfl⟩
      have HG := Lib.hid hg
      have hg1 : g ≤ 400 := by have := slots_len h G f M; omega
      rw [hg] at HS
      clear hg
      have HB0 := Lib.hid HB.out
      clear HB HO
      go_wp2_with fail
      (with_reducible refine HS.out.mono ?_)
      rintro e4 w4 ⟨⟨A4, c4, rfl, o4⟩, b4⟩
      have B4 := Lib.hid (HB0.out.trans (b4.mono HB0.out.size))
      clear o4 b4 HS HB0
      go_wp2_with fail
      go_loopw [13, 14] (fun v i ws => ∃ (i' : Nat) (x y : Int), i = .int .i64 y ∧ v = .int .i64 x ∧ ws = w4 ∧ i' ≤ M ∧ 0 ≤ x ∧ x ≤ 400 ∧ 0 ≤ y ∧ y ≤ 2000 ∧ Hid (y = f + (i' : Int)) ∧ Hid (x = ((slotsL h G f i').length : Int))) (fun _ i _ => 3000 - (intOf i).toNat)
      case atStart => exact ⟨0, 0, f, rfl, rfl, rfl, by omega, by omega, by omega, by omega, by omega, by show _ = _; omega, rfl⟩
      case round =>
        obtain ⟨i, x, y, rfl, rfl, rfl, hi, hx0, hx1, hy0, hy1, HY, HX⟩ := hrel
        have hlen := Lib.hid (slots_len h G f i)
        by_cases hyz : y ≤ z
        · have hiM : i < M := by have := HM.out; have := HY.out; omega
          obtain ⟨d, hd⟩ : ∃ d, y - f = d := ⟨_, rfl⟩
          have hd0 : 0 ≤ d ∧ d ≤ 400 := by have := HM.out; have := HY.out; omega
          have rd : wrap64 d = d := by unfold wrap64; omega
          obtain ⟨r, hr⟩ : ∃ r, d.tmod p = r := ⟨_, rfl⟩
          obtain ⟨s, hs⟩ : ∃ s, slowL h y = s := ⟨_, rfl⟩
          have HSY : Hid (slotL h G y = (decide (r < 24) || decide (l ≤ y) || s)) := by
            show _ = _
            rw [HGA.out y (by have := HY.out; omega) hyz, hd, hr, hs]
          have HN : Hid ((slotsL h G f (i + 1)).length = (slotsL h G f i).length + (if slotL h G y = true then 1 else 0)) := by
            show _ = _
            rw [slots_succ, ← HY.out]
            split <;> simp_all
          have hrm : d % p = r := by rw [← hr, Int.tmod_eq_emod_of_nonneg hd0.1]
          have hr0 : 0 ≤ r := by rw [← hrm]; exact Int.emod_nonneg _ hpz
          have hr1 : r < 40 := by have := Int.emod_lt_of_pos d (show 0 < p by omega); omega
          have rr : wrap64 r = r := by unfold wrap64; omega
          obtain ⟨h2, hh2⟩ : ∃ h2, 2 * h = h2 := ⟨_, rfl⟩
          have rh2 : wrap64 h2 = h2 := by unfold wrap64; omega
          obtain ⟨u, hu⟩ : ∃ u, y + h2 = u := ⟨_, rfl⟩
          have ru : wrap64 u = u := by unfold wrap64; omega
          have s1 : (u % 4 == 0) = s := by rw [← hs, ← hu, ← hh2]; unfold slowL; rw [Bool.eq_iff_iff]; simp
          have s2 : (u.tmod 4 == 0) = s := by rw [Int.tmod_eq_emod_of_nonneg (by omega)]; exact s1
          obtain ⟨y1, hy1'⟩ : ∃ y1, y + 1 = y1 := ⟨_, rfl⟩
          have ry1 : wrap64 y1 = y1 := by unfold wrap64; omega
          obtain ⟨x1, hx1'⟩ : ∃ x1, x + 1 = x1 := ⟨_, rfl⟩
          have rx1 : wrap64 x1 = x1 := by unfold wrap64; omega
          have HY1 : Hid (y1 = f + ((i + 1 : Nat) : Int)) := by have := HY.out; show _ = _; omega
          have hxb := Lib.hid (show x ≤ (i : Int) by have := hlen.out; have := HX.out; omega)
          have HE : Hid ((decide (r < 24) || decide (l ≤ y) || s) = true → x1 = ((slotsL h G f (i + 1)).length : Int)) := by
            intro e
            rw [HN.out, HSY.out, e, ← hx1', HX.out]
            simp
          have HE' : Hid ((decide (r < 24) || decide (l ≤ y) || s) = false → x = ((slotsL h G f (i + 1)).length : Int)) := by
            intro e
            rw [HN.out, HSY.out, e, HX.out]
            simp
          clear hs hlen
          by_cases c1 : r < 24
          · go_wp2_with fail
            go_roundw
            case rel => exact ⟨i + 1, x1, y1, rfl, rfl, trivial, by omega, by omega, by have := hxb.out; omega, by have := HY1.out; omega, by have := HY1.out; omega, HY1.out, HE.out (by simp [c1])⟩
            case measure => have := HY1.out; have := HY.out; simp [intOf]; omega
          · by_cases c2 : l ≤ y
            · go_wp2_with fail
              go_roundw
              case rel => exact ⟨i + 1, x1, y1, rfl, rfl, trivial, by omega, by omega, by have := hxb.out; omega, by have := HY1.out; omega, by have := HY1.out; omega, HY1.out, HE.out (by simp [c2])⟩
              case measure => have := HY1.out; have := HY.out; simp [intOf]; omega
            · cases s
              · go_wp2_with fail
                go_roundw
                case rel => exact ⟨i + 1, x, y1, rfl, rfl, trivial, by omega, by omega, by omega, by have := HY1.out; omega, by have := HY1.out; omega, HY1.out, HE'.out (by simp [c1, c2])⟩
                case measure => have := HY1.out; have := HY.out; simp [intOf]; omega
              · go_wp2_with fail
                go_roundw
                case rel => exact ⟨i + 1, x1, y1, rfl, rfl, trivial, by omega, by omega, by have := hxb.out; omega, by have := HY1.out; omega, by have := HY1.out; omega, HY1.out, HE.out (by simp)⟩
                case measure => have := HY1.out; have := HY.out; simp [intOf]; omega
        · obtain rfl : i = M := by have := HM.out; have := HY.out; omega
          obtain rfl : x = (g : Int) := by rw [HX.out, HG.out]
          have HP2 : Hid (p ≤ 24 → (g : Int) = (i : Int)) := by
            intro hp24
            rw [← HG.out]
            rw [slots_all]
            intro j hj
            have := HM.out
            rw [HGA.out (f + (j : Int)) (by omega) (by omega)]
            have e1 := Int.emod_lt_of_pos (f + (j : Int) - f) (show 0 < p by omega)
            rw [Int.tmod_eq_emod_of_nonneg (by omega), decide_eq_true (by omega)]
            rfl
          obtain ⟨zf, hzf⟩ : ∃ zf, z - f = zf := ⟨_, rfl⟩
          have hzf0 : 0 ≤ zf ∧ zf ≤ 400 := by have := HM.out; omega
          have rzf : wrap64 zf = zf := by unfold wrap64; omega
          obtain ⟨zf1, hzf1⟩ : ∃ zf1, zf + 1 = zf1 := ⟨_, rfl⟩
          have rzf1 : wrap64 zf1 = zf1 := by unfold wrap64; omega
          have HZ1 : Hid (zf1 = (i : Int)) := by have := HM.out; show _ = _; omega
          by_cases c1 : 24 < p
          · go_wp2_with fail
            (with_reducible refine (awake_any wr).mono ?_)
            rintro e5 w5 ⟨rfl, b5⟩
            go_wp2_with fail
            go_ret
            exact ⟨rfl, B4.out.trans (b5.mono B4.out.size)⟩
          · have hgz : (g : Int) = zf1 := by rw [HZ1.out, HP2.out (by omega)]
            have hgg : ((g : Int) == zf1) = true := by rw [hgz]; simp
            clear hgz
            go_wp2_with fail
            (with_reducible refine (awake_any wr).mono ?_)
            rintro e5 w5 ⟨rfl, b5⟩
            go_wp2_with fail
            go_ret
            exact ⟨rfl, B4.out.trans (b5.mono B4.out.size)⟩
end Go.Proofs.Ytlaehoggfnlljaa
