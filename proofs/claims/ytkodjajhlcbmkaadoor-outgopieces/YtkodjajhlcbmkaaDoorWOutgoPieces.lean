/-
  The law OutgoPieces: what is sent in pieces is sent in its order, the end with the last one.
-/
import Derived.Test.YtkodjajhlcbmkaaDoorOuH
import Derived.Test.YtkodjajhlcbmkaaDoorLow
import Derived.LoopTactic
namespace Go.Proofs.YtkodjajhlcbmkaaDoor
open Go.RowKit Go.Lib
set_option linter.unusedVariables false

theorem pieces_long (A : Option Addr) (n c : Nat) (a1 a2 : Int) (w : World) (hG : Glob w) (hn : 200 < n) (hm : n ≤ maxLen) : Calls Tryd.prog 6 #[.slice A n c, .int .i64 a1, .int .i64 a2] w fun e w' => e = .returned (.bool true) ∧ Below w.heap.size w w' := by
  have AW := Lib.hid (awake_any w hG)
  have hlt : (200 : Int) < (n : Int) := by omega
  clear hG hm
  go_enter Tryd.func6, Tryd.ntmps6
  go_wp2_with fail
  (with_reducible refine AW.out.mono ?_)
  rintro e1 w1 ⟨rfl, b1⟩
  go_wp2_with fail
  go_ret
  exact ⟨rfl, b1⟩
set_option maxRecDepth 8000 in
set_option maxHeartbeats 4000000 in
theorem pieces_any {A : Option Addr} {n c B0 : Nat} {D : List UInt8} {w : World} (h : Sl w B0 A n D) (hB : B0 ≤ w.heap.size) (hnc : n ≤ c) (hcm : c ≤ maxLen) (hn : n ≤ 200) (a1 a2 : Int) (hG : Glob w) :
    Calls Tryd.prog 6 #[.slice A n c, .int .i64 a1, .int .i64 a2] w fun e w' => e = .returned (.bool true) ∧ Below w.heap.size w w' := by
  obtain ⟨z1, z10, z11, HA⟩ := low_int a1 50 (by omega) (by omega)
  obtain ⟨r, hr⟩ : ∃ r : Nat, 1 + z1 = (r : Int) := ⟨(1 + z1).toNat, by omega⟩
  obtain ⟨z2, z20, z21, HC⟩ := low_int a2 4 (by omega) (by omega)
  obtain ⟨T, hT⟩ : ∃ T : Nat, z2 = (T : Int) := ⟨z2.toNat, by omega⟩
  subst hT
  have WN := Lib.hid (show (Lit.int .i64 (n : Int)).wf = true from wf_i64 (by omega) (by omega))
  have WR := Lib.hid (show (Lit.int .i64 (r : Int)).wf = true from wf_i64 (by omega) (by omega))
  have HA := Lib.hid HA
  have HC := Lib.hid HC
  have HG := Lib.hid hG
  have DS := Lib.hid h
  have HB := Lib.hid hB
  have C2 : Hid (n ≤ c ∧ c ≤ maxLen) := ⟨hnc, hcm⟩
  have K1 : Hid (1 ≤ r ∧ r ≤ 50) := by show _ ∧ _; omega
  have b1 : (n : Int) ≤ 200 := by omega
  have b2 : (r : Int) ≤ 50 := by omega
  have b3 : (T : Int) < 4 := by omega
  clear h hB hnc hcm hG
  go_enter Tryd.func6, Tryd.ntmps6
  go_wp2_with fail
  (with_reducible refine (HA.out _).mono ?_)
  rintro e1 w1 ⟨rfl, rfl⟩
  go_wp2_with fail
  (with_reducible refine (HC.out _).mono ?_)
  rintro e2 w2 ⟨rfl, rfl⟩
  go_wp2_with (at_builtin; refine wpList_append_bytes rfl _ _ rfl w.heap.size (.slice none 0 0) 0 [] rfl (Own.nil _ _) B0 A n c D rfl DS.out (by omega) (Nat.le_refl _) w (Below.refl _ _) ?_; intro A1 c1 w1 ho hle hc hg hb)
  simp only [Nat.zero_add, List.nil_append] at ho hle hc hg hb ⊢
  have P := Lib.hid (rn_new (w0 := w) (c0 := c1) ho.sl (Nat.le_refl _) (by omega) (HG.out.below hb HG.out.pos) hb HG.out.pos)
  clear ho hle hc hg hb
  go_wp2_with fail
  (with_reducible refine P.out.mono ?_)
  rintro e3 w3 ⟨g, rfl, r3, b3', hg3⟩
  obtain ⟨B, hBe⟩ : ∃ B, w1.heap.size = B := ⟨_, rfl⟩
  rw [hBe] at r3
  have R3 := Lib.hid r3
  clear r3 b3' hg3 P hBe
  go_wp2_with fail
  go_loopw [8] (fun k wr => ∃ j cc : Nat, k = .int .i64 (j : Int) ∧ j ≤ T + 1 ∧ Hid ((j ≤ T ∧ (cc = 0 ∨ cc = 2)) ∨ (j = T + 1 ∧ cc = 1)) ∧ Hid (Rn w wr B g n D (fun _ => cc))) (fun k _ => T + 2 - (intOf k).toNat)
  case atStart => exact ⟨0, 0, rfl, by omega, .inl ⟨by omega, .inl rfl⟩, R3.out⟩
  case round =>
    clear R3
    obtain ⟨j, cc, rfl, hj, HJ, R⟩ := hrel
    obtain ⟨wo, hwo⟩ : ∃ wo, wo = wr := ⟨_, rfl⟩
    rw [← hwo] at R ⊢
    clear hwo
    by_cases hjT : j ≤ T
    · have hjl : ((j : Int) ≤ (T : Int)) := by omega
      have HCC : Hid (cc = 0 ∨ cc = 2) := by
        rcases HJ.out with h' | h'
        · exact h'.2
        · omega
      go_wp2_with fail
      go_loopw [9, 10] (fun at_ i wi => ∃ a v : Nat, at_ = .int .i64 (a : Int) ∧ i = .int .i64 (v : Int) ∧ v ≤ a ∧ a ≤ n ∧ Hid (a < n ∨ (n = 0 ∧ a = 0)) ∧ Hid (Rn w wi B g n D (fun i => if i < a then 1 else cc))) (fun _ i _ => n + 1 - (intOf i).toNat)
      case atStart => exact ⟨0, 0, rfl, rfl, Nat.le_refl _, Nat.zero_le _, by show _ ∨ _; omega, R.out.cong fun i _ => by simp⟩
      case round =>
        obtain ⟨a, v, rfl, rfl, hv, han, HAN, RI⟩ := hrel
        obtain ⟨t, ht⟩ : ∃ t, min (a + r) n = t := ⟨_, rfl⟩
        have k1 := K1.out
        have hat : a ≤ t ∧ t ≤ n := by omega
        obtain ⟨m, hm⟩ : ∃ m : Nat, min (r : Int) ((n : Int) - (a : Int)) = (m : Int) := ⟨min r (n - a), by omega⟩
        have hat2 : (a : Int) + (m : Int) = (t : Int) := by omega
        have hpn := pieces_next (s := fun i => if i < a then 1 else cc) HCC.out (fun _ _ => rfl) HAN.out k1.1
        rw [ht] at hpn
        obtain ⟨b, hb⟩ : ∃ b, decide (t = n) = b := ⟨_, rfl⟩
        have hland : ∀ i, i ≤ n → landV n (fun i => if i < a then 1 else cc) 1 (some (a, t, b)) i = (fun i => if i < t ∨ t = n then 1 else cc) i := by
          rw [← hb]
          exact pieces_land (fun _ _ => rfl) hat.1 hat.2
        rw [hb] at hpn
        have P4 := Lib.hid (rn_some (f := a) (t := t) (b := b) (room := (r : Int)) RI.out WR.out WN.out hpn hland)
        have htb : ((t : Int) == (n : Int)) = b := by
          rw [← hb, Bool.eq_iff_iff]; simp; omega
        have hvn : ((v : Int) ≤ (n : Int)) := by omega
        have hcut : ∀ u : World, (Instr.slice 22 (.slice A n c) (some (.int .i64 (a : Int))) (some (.int .i64 (t : Int))) none).run Tryd.prog u = .ok (.slice (if c = a then A else A.map (·.add a)) (t - a) (c - a)) u := fun u => run_cut2 u A n c a t hat.1 (by have := C2.out; omega)
        obtain ⟨A6, hA6⟩ : ∃ A6, (if c = a then A else A.map (·.add a)) = A6 := ⟨_, rfl⟩
        have SD : Hid (∀ u, Below w.heap.size w u → Sl u B0 A6 (t - a) ((D.drop a).take (t - a))) := fun u hu => by
          rw [← hA6]
          exact ((DS.out.below (hu.mono HB.out)).drop (k := a) (c := c) han C2.out.1).take (by omega)
        rw [hA6] at hcut
        have HAT := Lib.hid hat
        have HTB : Hid (b = decide (t = n)) := hb.symm
        have HM : Hid (a + m = t ∧ (a < n → a + 1 ≤ t)) := by show _ ∧ _; omega
        have bt : (t : Int) ≤ 200 := by omega
        have bm : (m : Int) ≤ 50 := by omega
        clear hpn hland hb ht hA6 hat k1
        go_wp2_with fail
        (with_reducible refine P4.out.mono ?_)
        rintro e5 w5 ⟨A4, c4, rfl, o5, q5, _, _, r5, m5⟩
        have S5 := Lib.hid (same_yes _ _ rfl A4 A6 (t - a) (t - a) c4 (c - a) _ _ w5 o5.sl (SD.out w5 r5.b) (by have := q5; omega))
        have R5 : Hid (∀ j, Rn w (w5.drewN j) B g n D (fun i => if i < t ∨ t = n then 1 else cc)) := fun j => r5.drewN j
        clear o5 q5 r5 m5 P4 SD RI
        cases b
        · go_wp2_with fail
          (with_reducible refine S5.out.mono ?_)
          rintro e6 w6 ⟨rfl, j6, rfl⟩
          go_wp2_with fail
          go_roundw
          case rel =>
            have htn : t ≠ n := by simpa using HTB.out.symm
            have h1 := HAT.out
            have h2 := HAN.out
            have h3 := HM.out
            exact ⟨t, v + 1, rfl, by go_num, by omega, by omega, by show _ ∨ _; omega, (R5.out j6).cong fun i _ => by simp [htn]⟩
          case measure => simp [intOf]; omega
        · have htn : t = n := by simpa using HTB.out.symm
          have R6 : Hid (∀ j, Rn w (w5.drewN j) B g n D (fun _ => 1)) := fun j => (R5.out j).cong fun i _ => by simp [htn]
          have P6 := Lib.hid (fun j => rn_none (R6.out j) WR.out WN.out (ones_next (fun _ _ => rfl) _ _))
          have HTN := Lib.hid htn
          clear htn R5
          go_wp2_with fail
          (with_reducible refine S5.out.mono ?_)
          rintro e6 w6 ⟨rfl, j6, rfl⟩
          go_wp2_with fail
          (with_reducible refine (P6.out _).mono ?_)
          rintro e7 w7 ⟨rfl, r7, m7⟩
          have ho := ones_sent (n := n) (s := fun _ => 1) fun _ _ => rfl
          have R7 := Lib.hid r7
          have S7 := Lib.hid (rn_sent r7 (n : Int) (by rw [ho.1]))
          have L7 := Lib.hid (rn_left r7 (n : Int) (by rw [ho.2.1]))
          have D7 := Lib.hid (rn_done r7 false ho.2.2)
          clear r7 m7 P6 R6 S5 ho
          go_wp2_with fail
          (with_reducible refine S7.out.mono ?_)
          rintro e8 w8 ⟨rfl, rfl⟩
          go_wp2_with fail
          (with_reducible refine L7.out.mono ?_)
          rintro e9 w9 ⟨rfl, rfl⟩
          go_wp2_with fail
          (with_reducible refine D7.out.mono ?_)
          rintro e10 w10 ⟨rfl, rfl⟩
          by_cases hjt : j < T
          · have hjl2 : ((j : Int) < (T : Int)) := by omega
            have P8 := Lib.hid (rn_lost (off := 0) (s' := fun _ => 2) R7.out true (by decide) WN.out (ones_lost fun _ _ => rfl))
            go_wp2_with fail
            (with_reducible refine P8.out.mono ?_)
            rintro e11 w11 ⟨rfl, r11, m11⟩
            go_wp2_with fail
            go_roundw
            case rel => exact ⟨j + 1, 2, by go_num, by omega, .inl ⟨by omega, .inr rfl⟩, r11⟩
            case measure => simp [intOf]; omega
          · have hjl2 : ¬ ((j : Int) < (T : Int)) := by omega
            go_wp2_with fail
            go_roundw
            case rel => exact ⟨j + 1, 1, by go_num, by omega, .inr ⟨by omega, rfl⟩, R7.out⟩
            case measure => simp [intOf]; omega
    · have hjl : ¬ ((j : Int) ≤ (T : Int)) := by omega
      have hcc : cc = 1 := by
        rcases HJ.out with h' | h'
        · omega
        · exact h'.2
      subst hcc
      have P8 := Lib.hid (rn_there (off := 0) (s' := fun _ => 3) R.out true (by decide) WN.out (ones_there fun _ _ => rfl))
      go_wp2_with fail
      (with_reducible refine P8.out.mono ?_)
      rintro e11 w11 ⟨rfl, r11, m11⟩
      have R11 := Lib.hid r11
      have D11 := Lib.hid (rn_done r11 true (done_of fun _ _ => rfl))
      have L11 : Hid (Calls Tryd.prog 22 #[.pointer (some ⟨g, 0, none⟩)] w11 fun e w' => e = .returned (.int .i64 0) ∧ w11 = w') := rn_left r11 0 (by
        rw [left_of (a := n) fun i hi => ⟨fun h => absurd rfl h, fun h => by omega⟩]
        omega)
      have AW := Lib.hid (awake_any w11 r11.G)
      clear r11 m11 P8
      go_wp2_with fail
      (with_reducible refine D11.out.mono ?_)
      rintro e12 w12 ⟨rfl, rfl⟩
      go_wp2_with fail
      (with_reducible refine L11.out.mono ?_)
      rintro e13 w13 ⟨rfl, rfl⟩
      go_wp2_with fail
      (with_reducible refine AW.out.mono ?_)
      rintro e14 w14 ⟨rfl, b14⟩
      go_wp2_with fail
      go_ret
      exact ⟨rfl, R11.out.b.trans (b14.mono R11.out.b.size)⟩
end Go.Proofs.YtkodjajhlcbmkaaDoor
