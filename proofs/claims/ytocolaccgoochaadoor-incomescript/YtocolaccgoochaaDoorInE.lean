/-
  Package income: grow.
-/
import Derived.Test.YtocolaccgoochaaDoorInC
import Derived.Test.YtocolaccgoochaaDoorQTail
namespace Go.Proofs.YtocolaccgoochaaDoor
open Go.RowKit Go.Lib Go.Maps
set_option linter.unusedVariables false

theorem tz_zero (w : World) : Calls Tryd.prog 35 #[.int .u64 0] w fun e w' => e = .returned (.int .i64 64) ∧ w = w' := by
  go_enter Tryd.func35, Tryd.ntmps35
  go_wp2
  go_ret
  exact ⟨rfl, rfl⟩
/-- how many stand side by side from bit r on -/
def runQ (q : UInt64) (r : Nat) : Nat := if ~~~(q >>> UInt64.ofNat r) = 0 then 64 else Lib.ctz 64 (~~~(q >>> UInt64.ofNat r)).toNat
theorem bit_shr {q : UInt64} {r j : Nat} (hr : r < 64) : bitQ (q >>> UInt64.ofNat r) j = bitQ q (r + j) := by
  unfold bitQ
  rw [shrQ q r hr, Nat.testBit_div_two_pow, Nat.add_comm]
theorem bit_high {q : UInt64} {j : Nat} (hj : 64 ≤ j) : bitQ q j = false := by
  unfold bitQ
  exact Nat.testBit_lt_two_pow (Nat.lt_of_lt_of_le q.toNat_lt (Nat.pow_le_pow_right (by omega) hj))
theorem not_xor (s : UInt64) : bits .xor .u64 (if IntKind.u64.signed = true then -1 else IntKind.u64.max) (qn s) = qn (~~~s) := by
  have h := u64_xor' 18446744073709551615 s
  have e : (18446744073709551615 : UInt64) ^^^ s = ~~~s := UInt64.toNat_inj.1 (Nat.eq_of_testBit_eq fun j => by
    show bitQ _ j = bitQ _ j
    rcases Nat.lt_or_ge j 64 with c | c
    · rw [bit_xor, bit_not _ c, bit_all c]
      simp
    · rw [bit_high c, bit_high c])
  rw [← e, ← h]
  rfl
theorem run_is {q : UInt64} {r : Nat} (hr : r < 64) : r + runQ q r ≤ 64 ∧ (∀ j, j < runQ q r → bitQ q (r + j) = true) ∧ (r + runQ q r < 64 → bitQ q (r + runQ q r) = false) := by
  unfold runQ
  split
  · rename_i h
    have hall : ∀ j, j < 64 → bitQ q (r + j) = true := fun j hj => by
      have := bit_not (q >>> UInt64.ofNat r) hj
      rw [h, bit_zero, bit_shr hr] at this
      cases hb : bitQ q (r + j) with
      | true => rfl
      | false => rw [hb] at this; cases this
    have h0 : r = 0 := by
      rcases Nat.eq_zero_or_pos r with h0 | h0
      · exact h0
      · have := hall 63 (by omega)
        rw [bit_high (by omega)] at this
        cases this
    exact ⟨by omega, hall, fun h => absurd h (by omega)⟩
  · rename_i h
    obtain ⟨h1, h2⟩ := ctz_bit h
    obtain ⟨c, hc⟩ : ∃ c, Lib.ctz 64 (~~~(q >>> UInt64.ofNat r)).toNat = c := ⟨_, rfl⟩
    have hfirst : ∀ j, j < c → bitQ (~~~(q >>> UInt64.ofNat r)) j = false := fun j hj => by
      cases hb : bitQ (~~~(q >>> UInt64.ofNat r)) j with
      | false => rfl
      | true =>
        -- the least bit that is set
        have hx : ∃ i, bitQ (~~~(q >>> UInt64.ofNat r)) i = true ∧ ∀ k, k < i → bitQ (~~~(q >>> UInt64.ofNat r)) k = false := by
          have hm : ∀ n, (∃ i, i ≤ n ∧ bitQ (~~~(q >>> UInt64.ofNat r)) i = true) → ∃ i, i ≤ n ∧ bitQ (~~~(q >>> UInt64.ofNat r)) i = true ∧ ∀ k, k < i → bitQ (~~~(q >>> UInt64.ofNat r)) k = false := by
            intro n
            induction n with
            | zero =>
              rintro ⟨i, hi, hb⟩
              exact ⟨i, hi, hb, fun k hk => absurd hk (by omega)⟩
            | succ n ih =>
              rintro ⟨i, hi, hb⟩
              by_cases e : ∃ i, i ≤ n ∧ bitQ (~~~(q >>> UInt64.ofNat r)) i = true
              · obtain ⟨i', h1, h2, h3⟩ := ih e
                exact ⟨i', by omega, h2, h3⟩
              · refine ⟨i, hi, hb, fun k hk => ?_⟩
                cases hb2 : bitQ (~~~(q >>> UInt64.ofNat r)) k with
                | false => rfl
                | true => exact absurd ⟨k, by omega, hb2⟩ e
          obtain ⟨i, _, h2, h3⟩ := hm j ⟨j, Nat.le_refl _, hb⟩
          exact ⟨i, h2, h3⟩
        obtain ⟨i, hi, hk⟩ := hx
        have := ctz_first hi hk
        rw [hc] at this
        have := hk j (by omega)
        rw [hb] at this
        cases this
    rw [hc] at h1 h2 ⊢
    have hyes : ∀ j, j < c → bitQ q (r + j) = true := fun j hj => by
      have h3 := hfirst j hj
      rw [bit_not _ (by omega), bit_shr hr] at h3
      simpa using h3
    have hle : r + c ≤ 64 := by
      refine Classical.byContradiction fun hh => ?_
      have := hyes (64 - r) (by omega)
      rw [show r + (64 - r) = 64 by omega, bit_high (Nat.le_refl _)] at this
      cases this
    refine ⟨hle, hyes, fun hlt => ?_⟩
    rw [bit_not _ h2, bit_shr hr] at h1
    simpa using h1
noncomputable def leftG (most g : Nat) (w : World) : Nat := most - (match w.cell? ⟨g, 3, none⟩ with | some v => (intOf v).toNat | none => 0)
theorem leftG_eq {most g x : Nat} {w : World} (h : w.cell? ⟨g, 3, none⟩ = some (.int .i64 (x : Int))) : leftG most g w = most - x := by
  unfold leftG
  rw [h]
  simp [intOf]
set_option maxHeartbeats 2000000 in
theorem grow_any {w : World} {F : Nat → Prop} {g b most rd wh hi N : Nat} {cl : Bool} {M : Nat → Option Nat} {p : Nat → Option UInt8}
    (hh : HdW w g b most rd wh hi cl) (hp : PagesW w F b N M p) (hgF : ¬ F g) (hG : Glob w) (hg0 : 0 < g) (hmost : most ≤ 1048576) (htop : ∀ i, p i ≠ none → i < most) (hwh : ∀ j, j < wh → p j ≠ none) :
    Calls Tryd.prog 31 #[.pointer (some ⟨g, 0, none⟩)] w fun e w' => e = .returned (.tuple #[]) ∧ ∃ t, HdW w' g b most rd t hi cl ∧ Only g w w' ∧ wh ≤ t ∧ (∀ j, j < t → p j ≠ none) ∧ p t = none := by
  have hwm : wh ≤ most := by
    rcases Nat.eq_zero_or_pos wh with h0 | h0
    · omega
    · have := htop _ (hwh (wh - 1) (by omega)); omega
  have HP := Lib.hid hp
  have HG := Lib.hid hG
  have HF := Lib.hid hgF
  have HT := Lib.hid htop
  have c1 := Rw.cell hh 1 _ rfl
  have c3 := Rw.cell hh 3 _ rfl
  obtain ⟨k0, hk0⟩ : ∃ k0, wh / 64 = k0 := ⟨_, rfl⟩
  have ek : (wh : Int) / 64 = (k0 : Int) := by omega
  have hlook : ∀ n, (Instr.lookup 46 (.map (some b)) (.int .i64 (k0 : Int)) false).run Tryd.prog (w.drewN n) = .ok (ptrV (M k0)) (w.drewN n) := fun n => (hp.still (w' := w.drewN n) (Nat.le_refl _) (fun _ _ _ => rfl)).look k0 (by omega)
  have hwb : (wh : Int) ≤ 1048576 := by omega
  have HH := Lib.hid hh
  have HW := Lib.hid hwh
  have HK0 := Lib.hid hk0
  obtain ⟨v0, hv0⟩ : ∃ v0, ptrV (M k0) = v0 := ⟨_, rfl⟩
  rw [hv0] at hlook
  have HV0 := Lib.hid hv0
  clear hh hp hG hgF htop hwh hk0 hv0
  go_enter Tryd.func31, Tryd.ntmps31
  go_wp2_with fail
  go_quiet (fail)
  go_wp2_with fail
  go_loopw [2, 3] (fun vv _ wr => ∃ (x : Nat) (v : Value), vv = v ∧ Hid (v = ptrV (M (x / 64))) ∧ wh ≤ x ∧ x ≤ most ∧ Hid (HdW wr g b most rd x hi cl) ∧ Hid (Only g w wr) ∧ Hid (∀ j, j < x → p j ≠ none)) (fun _ _ wr => leftG most g wr)
  case atStart => exact ⟨wh, v0, rfl, by rw [HK0.out]; exact HV0.out.symm, Nat.le_refl _, hwm, HH.out, (Only.refl g w).drewN _, HW.out⟩
  case round =>
    clear hlook HV0 HK0 HW HH c1 c3
    obtain ⟨x, v, hvv, hv, hx1, hx2, HH, HO, HW⟩ := hrel
    obtain ⟨k, hk⟩ : ∃ k, x / 64 = k := ⟨_, rfl⟩
    have hv' := hv.out
    rw [hk] at hv'
    clear hv
    have hp2 : PagesW wr F b N M p := HP.out.still HO.out.size (fun i hi hil => HO.out.block i hil (fun e => HF.out (by rw [← e]; exact hi)))
    cases hM : M k with
    | none =>
      rw [hM] at hv'
      have hv2 : v = .pointer none := hv'
      rw [hv2] at hvv
      subst hvv
      have hpx : p x = none := by
        have := hp2.no k hM (x % 64) (Nat.mod_lt _ (by omega))
        rw [← this]
        congr 1
        omega
      have HPX := Lib.hid hpx
      clear hv' hM hk hp2 hpx
      go_wp2_with fail
      go_end0
      exact ⟨rfl, x, HH.out, HO.out, hx1, HW.out, HPX.out⟩
    | some pg =>
      rw [hM] at hv'
      have hv2 : v = .pointer (some ⟨pg, 0, none⟩) := hv'
      rw [hv2] at hvv
      subst hvv
      obtain ⟨hFp, hne, q, d, hpg, hq⟩ := hp2.pg k pg hM
      have cq := hpg.came
      have c1 := Rw.cell HH.out 1 _ rfl
      have c3 := Rw.cell HH.out 3 _ rfl
      have f3 := Rw.frozen HH.out 3
      obtain ⟨r, hr⟩ : ∃ r, x % 64 = r := ⟨_, rfl⟩
      have er : (x : Int) % 64 = (r : Int) := by omega
      have er2 : Int.tmod (x : Int) 64 = (r : Int) := by
        rw [← er]; rfl
      have hr64 : r < 64 := by omega
      have hrb : (r : Int) < 64 := by omega
      have hxb : (x : Int) ≤ 1048576 := by omega
      have hgw : Glob wr := fun j hj => by
        have := HG.out j hj
        have h1 := HO.out.block 0 (World.block_lt_of_cell? w _ this) (by omega)
        unfold World.cell? at this ⊢
        rw [h1]
        exact this
      obtain ⟨hr1, hr2, hr3⟩ := run_is (q := q) hr64
      obtain ⟨y, hy⟩ : ∃ y, ~~~(q >>> UInt64.ofNat r) = y := ⟨_, rfl⟩
      have hsh : (qn q / 2 ^ r : Int) = qn (q >>> UInt64.ofNat r) := by
        have := u64_shr q r hr64
        rw [← this]
        simp
      obtain ⟨s, hs⟩ : ∃ s, q >>> UInt64.ofNat r = s := ⟨_, rfl⟩
      rw [hs] at hy hsh
      have hT : ∀ n, Calls Tryd.prog 35 #[.int .u64 (qn y)] (wr.drewN n) (Quiet (.int .i64 (runQ q r : Nat)) (wr.drewN n)) := fun n => by
        unfold runQ
        rw [hs, hy]
        split
        · rename_i h
          rw [h]
          exact (tz_zero _).mono fun e w' hh => ⟨hh.1, 0, hh.2.symm⟩
        · rename_i h
          exact (tz_any y h (wr.drewN n) (fun j hj => hgw j hj)).mono fun e w' hh => ⟨hh.1, 0, hh.2.symm⟩
      have hxo := not_xor s
      rw [hy] at hxo
      have HTz := Lib.hid hT
      obtain ⟨z, hz⟩ : ∃ z, runQ q r = z := ⟨_, rfl⟩
      rw [hz] at HTz hr1 hr2 hr3
      have hzb : (z : Int) ≤ 64 := by omega
      have HP2 := Lib.hid hp2
      have HQ := Lib.hid hq
      have HR2 := Lib.hid hr2
      have HR3 := Lib.hid hr3
      have HKK := Lib.hid hk
      have HRR := Lib.hid hr
      clear hT hz hs hy hp2 hq hr2 hr3 hgw hpg hk hr hv'
      go_wp2_with fail
      go_quiet ((go_at_call 35; exact Calls.quiet_of (HTz.out _)))
      rcases Nat.eq_zero_or_pos z with hz0 | hz0
      · have hpx : Hid (p x = none) := by
          show p x = none
          have h1 := HQ.out r hr64
          have h2 := HR3.out (by omega)
          rw [hz0, Nat.add_zero] at h2
          rw [h2] at h1
          rw [show 64 * k + r = x by have := HKK.out; have := HRR.out; omega] at h1
          simpa using h1
        have hz1 : ((z : Int) == 0) = true := by simp [hz0]
        have hz2 : decide ((z : Int) = 0) = true := by simp [hz0]
        clear hz0 c1 c3 f3 cq
        go_wp2_with fail
        refine bodyPost_ret (results_none rfl _ _ _) rfl ?_
        exact ⟨rfl, x, HH.out, HO.out.drewN _, hx1, HW.out, hpx.out⟩
      · obtain ⟨x2, hx2e⟩ : ∃ x2, x + z = x2 := ⟨_, rfl⟩
        have hall : Hid (∀ j, j < x2 → p j ≠ none) := fun j hj => by
          rcases Nat.lt_or_ge j x with c | c
          · exact HW.out j c
          · have h1 := HQ.out (r + (j - x)) (by omega)
            have h2 := HR2.out (j - x) (by omega)
            rw [h2, show 64 * k + (r + (j - x)) = j by have := HKK.out; have := HRR.out; omega] at h1
            rw [h1]
            simp
        have hx2m : x2 ≤ most := by
          have := HT.out _ (hall.out (x2 - 1) (by omega))
          omega
        have ex : (x : Int) + (z : Int) = (x2 : Int) := by omega
        have hz1 : ((z : Int) == 0) = false := by simp; omega
        have hz2 : decide ((z : Int) = 0) = false := by simp; omega
        obtain ⟨k2, hk2⟩ : ∃ k2, x2 / 64 = k2 := ⟨_, rfl⟩
        have ek2 : (x2 : Int) / 64 = (k2 : Int) := by omega
        have hx2b : (x2 : Int) ≤ 1048576 := by omega
        obtain ⟨u, hu⟩ : ∃ u, u = (wr.drewN nq).setCell ⟨g, 3, none⟩ (.int .i64 (x2 : Int)) := ⟨_, rfl⟩
        have hO2 : Only g w u := by rw [hu]; exact (HO.out.drewN nq).setCell 3 _
        have hH2 : HdW u g b most rd x2 hi cl := by rw [hu]; exact Rw.put (HH.out : Rw (wr.drewN nq) g 48 _) 3 (.int .i64 (x2 : Int))
        have hp3 : PagesW u F b N M p := HP.out.still hO2.size (fun i hi hil => hO2.block i hil (fun e => HF.out (by rw [← e]; exact hi)))
        have hlook2 : ∀ n, (Instr.lookup 46 (.map (some b)) (.int .i64 (k2 : Int)) false).run Tryd.prog (u.drewN n) = .ok (ptrV (M k2)) (u.drewN n) := fun n => (hp3.still (w' := u.drewN n) (Nat.le_refl _) (fun _ _ _ => rfl)).look k2 (by omega)
        have c13 := Rw.cell hH2 1 _ rfl
        have c33 := Rw.cell hH2 3 _ rfl
        obtain ⟨v3, hv3⟩ : ∃ v3, ptrV (M k2) = v3 := ⟨_, rfl⟩
        rw [hv3] at hlook2
        have HV3 := Lib.hid hv3
        have HK2 := Lib.hid hk2
        have HO2 := Lib.hid hO2
        have HH2 := Lib.hid hH2
        have HX2 := Lib.hid hx2e
        have HZ0 := Lib.hid hz0
        clear hO2 hH2 hp3 hv3 hk2 hx2e hz0 cq
        go_wp2_with fail
        rw [← hu]
        clear hu
        go_quiet (fail)
        go_wp2_with fail
        go_roundw
        case rel => exact ⟨x2, v3, rfl, by rw [HK2.out]; exact HV3.out.symm, by omega, hx2m, HH2.out, HO2.out.drewN _, hall.out⟩
        case measure =>
          have l1 : leftG most g (u.drewN nq) = most - x2 := leftG_eq (Rw.cell HH2.out 3 _ rfl)
          rw [l1, leftG_eq (Rw.cell HH.out 3 _ rfl)]
          have := HX2.out
          have := HZ0.out
          omega
end Go.Proofs.YtocolaccgoochaaDoor
