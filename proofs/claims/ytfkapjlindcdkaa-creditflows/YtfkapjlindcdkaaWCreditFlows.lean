/-
  The walk of CreditFlows.
-/
import Derived.Test.YtfkapjlindcdkaaWCreditMeets
namespace Go.Proofs.Ytfkapjlindcdkaa
open Go.RowKit Go.Lib
set_option linter.unusedVariables false

set_option maxRecDepth 8000 in
set_option maxHeartbeats 8000000 in
theorem flows_any (x0 t0 p0 : Int) (w : World) : Calls Try.prog 4 #[.int .i64 x0, .int .i64 t0, .int .i64 p0] w fun e w' => e = .returned (.bool true) ∧ Below w.heap.size w w' := by
  obtain ⟨x, hx0, hx1, HX⟩ := low_int x0 100 (by omega) (by omega)
  obtain ⟨tot, ht0, ht1, HT⟩ := low_int t0 3001 (by omega) (by omega)
  obtain ⟨p, hp0, hp1, HP⟩ := low_int p0 60 (by omega) (by omega)
  have HX := Lib.hid HX
  have HT := Lib.hid HT
  have HP := Lib.hid HP
  obtain ⟨win, hwin⟩ : ∃ win, 1 + x = win := ⟨_, rfl⟩
  have rw1 : wrap64 win = win := by unfold wrap64; omega
  have hw1 : 1 ≤ win := by omega
  have hw2 : win ≤ 100 := by omega
  obtain ⟨st, hst⟩ : ∃ st, 1 + p = st := ⟨_, rfl⟩
  have rs1 : wrap64 st = st := by unfold wrap64; omega
  have hs1 : 1 ≤ st := by omega
  have hs2 : st ≤ 60 := by omega
  go_enter Try.func4, Try.ntmps4
  go_wp2_with fail
  (with_reducible refine (HX.out w).mono ?_)
  rintro e1 w1 ⟨rfl, rfl⟩
  go_wp2_with fail
  (with_reducible refine (HT.out w).mono ?_)
  rintro e1 w1 ⟨rfl, rfl⟩
  go_wp2_with fail
  (with_reducible refine (HP.out w).mono ?_)
  rintro e1 w1 ⟨rfl, rfl⟩
  go_wp2_with fail
  (with_reducible refine (Kr.new w w (Below.refl _ _) win (by omega) (by omega)).mono ?_)
  rintro e1 w1 ⟨rfl, k1, b1⟩
  have K1 := Lib.hid k1
  have B1 := Lib.hid k1.b
  clear k1 b1
  go_wp2_with fail
  (with_reducible refine (Kr.new w w1 B1.out win (by omega) (by omega)).mono ?_)
  rintro e2 w2 ⟨rfl, k2, b2⟩
  have S2 : Hid (Kr w w2 w.heap.size ⟨win, win, 0, 0⟩) := K1.out.below b2
  have R2 : Hid (Kr w w2 w1.heap.size ⟨win, win, 0, 0⟩) := k2
  have HG : Hid (w.heap.size < w1.heap.size) := K1.out.c.lt
  obtain ⟨g, hgg⟩ : ∃ g, w1.heap.size = g := ⟨_, rfl⟩
  rw [hgg] at R2 HG ⊢
  clear k2 b2 K1 B1 hgg
  go_wp2_with fail
  clear hwin hst HX HT HP
  go_loopw [9, 10, 11] (fun uv rv iv wr => ∃ (k : Nat) (lim used rd : Int), iv = .int .i64 k ∧ rv = .int .i64 rd ∧ uv = .int .i64 used ∧ (k : Int) ≤ rd ∧ rd ≤ used ∧ used ≤ lim ∧ used ≤ tot ∧ Hid (FlowOk win tot lim used rd) ∧ Hid (Kr w wr w.heap.size ⟨win, lim, used, 0⟩) ∧ Hid (Kr w wr g ⟨win, lim, 0, rd⟩)) (fun _ _ iv _ => 4000 - (intOf iv).toNat)
  case atStart => exact ⟨0, win, 0, 0, rfl, rfl, rfl, by omega, by omega, by omega, by omega, ⟨hw1, by omega, by omega, by omega, by omega, by omega, by omega⟩, S2.out, R2.out⟩
  case round =>
    obtain ⟨k, lim, used, rd, rfl, rfl, rfl, hkr, hru, hul, hut, HF, KS, KR⟩ := hrel
    have hk2 : (k : Int) < 20000 := by omega
    have hr0 : 0 ≤ rd := by omega
    have HKR : Hid ((k : Int) ≤ rd) := hkr
    clear hkr
    have hlb : lim ≤ 3100 := by have := HF.out.far; omega
    by_cases hlt : rd < tot
    · obtain ⟨n, hn⟩ : ∃ n, min (lim - used) (tot - used) = n := ⟨_, rfl⟩
      have hgr := flow_grows HF.out hlt hs1 hn.symm
      obtain ⟨hn0, hgr, hnl, hnt, hnw⟩ := hgr
      obtain ⟨u, hu⟩ : ∃ u, used + n = u := ⟨_, rfl⟩
      rw [hu] at hgr hnl hnt hnw
      have huw : wrap64 u = u := by unfold wrap64; omega
      obtain ⟨r2, hr2⟩ : ∃ r2, min u (rd + st) = r2 := ⟨_, rfl⟩
      rw [hr2] at hgr
      have hr2u : r2 ≤ u := by omega
      have hwf : (Lit.int .i64 r2).wf = true := by simp [Lit.wf, IntKind.min, IntKind.max, IntKind.signed, IntKind.bits]; omega
      have HN := Lib.hid HF.out.near
      have HA := Lib.hid HF.out.far
      have HQ := Lib.hid KS.out.room
      have FT := Lib.hid (lim_take (s := ⟨win, lim, used, 0⟩) (r := n) hn0 (by simp only; omega))
      simp only at HQ
      clear S2 R2
      by_cases hm : lim < r2 + win ∧ lim + win / 2 ≤ r2 + win
      · obtain ⟨hm0, hm1⟩ := hm
        obtain ⟨l2, hl2⟩ : ∃ l2, r2 + win = l2 := ⟨_, rfl⟩
        have FR := Lib.hid (cread_yes (s := ⟨win, lim, 0, rd⟩) (t := r2) (by simp only; omega) (by omega) (by simp only; omega) (by simp only; omega))
        have FS := Lib.hid (lim_more (s := ⟨win, lim, u, 0⟩) (r := l2) (by simp only; omega) (by omega))
        have HF2 : Hid (FlowOk win tot l2 u r2) := ⟨hw1, by omega, by omega, by omega, by omega, by omega, by omega⟩
        have hul2 : u ≤ l2 := by omega
        rw [hl2] at FR hm0 hm1
        clear hl2
        clear hm0 hm1 HN HA HF
        go_wp2_with fail
        (with_reducible refine HQ.out.mono ?_)
        rintro e3 w3 ⟨rfl, m3, rfl⟩
        have HP := Lib.hid ((KS.out.drewN m3).take n)
        rw [FT.out.1, FT.out.2] at HP
        try simp only at HP
        rw [hu] at HP
        have R3 := Lib.hid (KR.out.drewN m3)
        clear KS KR FT HQ
        go_wp2_with fail
        (with_reducible refine HP.out.mono ?_)
        rintro e4 w4 ⟨rfl, k4, o4⟩
        have S4 := Lib.hid k4
        have R4 := Lib.hid (R3.out.other o4 (Nat.le_refl _) (by have := HG.out; omega))
        have HR := Lib.hid (R4.out.read r2 hwf)
        rw [FR.out.1, FR.out.2] at HR
        try simp only at HR
        clear k4 o4 HP R3 FR R4 hk2
        go_wp2_with fail
        (with_reducible refine HR.out.mono ?_)
        rintro e5 w5 ⟨rfl, k5, o5⟩
        have R5 := Lib.hid k5
        have S5 := Lib.hid (S4.out.other o5 (by have := HG.out; omega) (by have := HG.out; omega))
        clear k5 o5 S4 HR
        have HZ := Lib.hid (S5.out.raise l2)
        rw [FS.out.1, FS.out.2] at HZ
        try simp only at HZ
        go_wp2_with fail
        (with_reducible refine HZ.out.mono ?_)
        rintro e6 w6 ⟨rfl, k6, o6⟩
        have S6 := Lib.hid k6
        have R6 := Lib.hid (R5.out.other o6 (Nat.le_refl _) (by have := HG.out; omega))
        clear k6 o6 S5 R5 HZ FS
        have hk4 : (k : Int) ≤ 3000 := by have := HKR.out; omega
        go_wp2_with fail
        go_roundw
        case rel => exact ⟨k + 1, l2, u, r2, by go_num, rfl, rfl, by have := HKR.out; omega, by omega, by omega, by omega, HF2, S6.out, R6.out⟩
        case measure => have := HKR.out; simp [intOf]; omega
      · have FR := Lib.hid (cread_no (s := ⟨win, lim, 0, rd⟩) (t := r2) (by simp only; omega) (by omega) (by simp only; omega))
        have HF2 : Hid (FlowOk win tot lim u r2) := ⟨hw1, by omega, by have := HA.out; omega, by omega, by omega, by omega, by omega⟩
        clear hm HN HA HF
        go_wp2_with fail
        (with_reducible refine HQ.out.mono ?_)
        rintro e3 w3 ⟨rfl, m3, rfl⟩
        have HP := Lib.hid ((KS.out.drewN m3).take n)
        rw [FT.out.1, FT.out.2] at HP
        try simp only at HP
        rw [hu] at HP
        have R3 := Lib.hid (KR.out.drewN m3)
        clear KS KR FT HQ
        go_wp2_with fail
        (with_reducible refine HP.out.mono ?_)
        rintro e4 w4 ⟨rfl, k4, o4⟩
        have S4 := Lib.hid k4
        have R4 := Lib.hid (R3.out.other o4 (Nat.le_refl _) (by have := HG.out; omega))
        have HR := Lib.hid (R4.out.read r2 hwf)
        rw [FR.out.1, FR.out.2] at HR
        try simp only at HR
        clear k4 o4 HP R3 FR R4 hk2
        go_wp2_with fail
        (with_reducible refine HR.out.mono ?_)
        rintro e5 w5 ⟨rfl, k5, o5⟩
        have R5 := Lib.hid k5
        have S5 := Lib.hid (S4.out.other o5 (by have := HG.out; omega) (by have := HG.out; omega))
        clear k5 o5 S4 HR
        have hk4 : (k : Int) ≤ 3000 := by have := HKR.out; omega
        go_wp2_with fail
        go_roundw
        case rel => exact ⟨k + 1, lim, u, r2, by go_num, rfl, rfl, by have := HKR.out; omega, by omega, by omega, by omega, HF2, S5.out, R5.out⟩
        case measure => have := HKR.out; simp [intOf]; omega
    · obtain rfl : rd = tot := by omega
      have hrr : (rd == rd) = true := by simp
      go_wp2_with fail
      (with_reducible refine (awake_any wr).mono ?_)
      rintro e2 w2 ⟨rfl, b2⟩
      go_wp2_with fail
      go_ret
      exact ⟨rfl, KR.out.b.trans (b2.mono KR.out.b.size)⟩
end Go.Proofs.Ytfkapjlindcdkaa
