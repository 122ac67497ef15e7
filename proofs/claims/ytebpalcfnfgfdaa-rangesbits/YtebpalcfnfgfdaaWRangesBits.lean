/-
  The walk of RangesBits.
-/
import Derived.Test.YtebpalcfnfgfdaaRgK
import Derived.Test.YtebpalcfnfgfdaaLow
import Derived.Deep.RegionHeld3
import Derived.Laws.BitsAllLaws
import Derived.Test.YtebpalcfnfgfdaaInts
namespace Go.Proofs.Ytebpalcfnfgfdaa
open Go.RowKit Go.Lib
set_option linter.unusedVariables false

theorem bit_case (b n : Nat) (hb : b < 18446744073709551616) : (b.testBit n = true ∧ bits .and .u64 ((b : Int) / 2 ^ n) 1 = 1) ∨ (b.testBit n = false ∧ bits .and .u64 ((b : Int) / 2 ^ n) 1 = 0) := by
  have e : ((b : Int) / 2 ^ n) = ((b / 2 ^ n : Nat) : Int) := by rw [Int.natCast_ediv, Int.natCast_pow]; rfl
  have h := u64_and_nat (b / 2 ^ n) 1 (Nat.lt_of_le_of_lt (Nat.div_le_self _ _) hb) (by omega)
  rw [Nat.and_one_is_mod] at h
  have h2 : bits .and .u64 ((b : Int) / 2 ^ n) 1 = ((b / 2 ^ n % 2 : Nat) : Int) := by rw [e]; exact h
  rw [h2, Nat.testBit_eq_decide_div_mod_eq]
  rcases Nat.mod_two_eq_zero_or_one (b / 2 ^ n) with h3 | h3 <;> rw [h3] <;> simp
/-- which are there behind j of them, from f on, around -/
def RoundP (b f j m : Nat) : Prop := m < 64 ∧ b.testBit m = true ∧ ∃ t, t < j ∧ m = (f + t) % 64
theorem round_zero (b f m : Nat) : False ↔ RoundP b f 0 m := ⟨fun h => h.elim, fun ⟨_, _, t, h, _⟩ => absurd h (Nat.not_lt_zero _)⟩
theorem round_all {b f m : Nat} (hf : f < 64) : RoundP b f 64 m ↔ m < 64 ∧ b.testBit m = true :=
  ⟨fun h => ⟨h.1, h.2.1⟩, fun h => ⟨h.1, h.2, (m + 64 - f) % 64, by omega, by have := h.1; omega⟩⟩
theorem round_not {b f j n : Nat} (hj : j < 64) (hn : n = (f + j) % 64) : ¬ RoundP b f j n := fun ⟨_, _, t, h, e⟩ => by omega
theorem round_yes {b f j n m : Nat} (hn : n = (f + j) % 64) (hb : b.testBit n = true) : (m = n ∨ RoundP b f j m) ↔ RoundP b f (j + 1) m := by
  constructor
  · rintro (rfl | ⟨h1, h2, t, h3, h4⟩)
    · exact ⟨by omega, hb, j, by omega, hn⟩
    · exact ⟨h1, h2, t, by omega, h4⟩
  · rintro ⟨h1, h2, t, h3, h4⟩
    by_cases e : t = j
    · subst e; exact .inl (by omega)
    · exact .inr ⟨h1, h2, t, by omega, h4⟩
theorem round_no {b f j n m : Nat} (hn : n = (f + j) % 64) (hb : b.testBit n = false) : RoundP b f j m ↔ RoundP b f (j + 1) m := by
  constructor
  · rintro ⟨h1, h2, t, h3, h4⟩; exact ⟨h1, h2, t, by omega, h4⟩
  · rintro ⟨h1, h2, t, h3, h4⟩
    by_cases e : t = j
    · subst e
      rw [h4, ← hn, hb] at h2
      cases h2
    · exact ⟨h1, h2, t, by omega, h4⟩
/-- the numbers that the bits tell -/
def BitP (b m : Nat) : Prop := m < 64 ∧ b.testBit m = true
theorem down_zero {b : Nat} {l : RL} {s : RS} (h : Down 64 0 (BitP b) l) (hs : SetP s 33 (BitP b)) : l = s.l :=
  fall_ext h.fall hs.ok.fall fun m => by rw [h.mem, hs.mem]; simp

theorem undrew {u v : World} (h : Below u.heap.size u.drew v) : Below u.heap.size u v := ⟨h.os, h.tape, h.output, h.size, h.block⟩
theorem bits_none {b : Nat} (hb : b < 18446744073709551616) : b = 0 ↔ ∀ m, ¬ BitP b m := by
  constructor
  · rintro rfl m ⟨_, h⟩
    simp at h
  · intro h
    refine Nat.eq_of_testBit_eq fun i => ?_
    rw [Nat.zero_testBit]
    by_cases hi : i < 64
    · cases hh : b.testBit i with
      | false => rfl
      | true => exact absurd ⟨hi, hh⟩ (h i)
    · exact Nat.testBit_lt_two_pow (Nat.lt_of_lt_of_le hb (Nat.pow_le_pow_right (n := 2) (by omega) (show 64 ≤ i by omega)))
theorem bits_len {b : Nat} (hb : b < 18446744073709551616) {s : RS} (hs : SetP s 33 (BitP b)) : 0 < s.l.length ↔ b ≠ 0 := by
  constructor
  · intro h e
    obtain ⟨x, r, hx⟩ : ∃ x r, s.l = x :: r := by
      cases hl : s.l with
      | nil => rw [hl] at h; simp at h
      | cons x r => exact ⟨x, r, rfl⟩
    have h1 := (mem_of hs.ok.fall (x := x) (by rw [hx]; simp)).1
    exact (bits_none hb).1 e _ ((hs.mem _).1 h1)
  · intro h
    have h1 : ¬ ∀ m, ¬ BitP b m := fun hh => h ((bits_none hb).2 hh)
    obtain ⟨m, hm⟩ := Classical.not_forall.1 h1
    have hm := Classical.not_not.1 hm
    obtain ⟨x, hx, _⟩ := (hs.mem m).2 hm
    exact List.length_pos_of_mem hx

set_option maxHeartbeats 4000000 in
set_option maxRecDepth 8000 in
theorem bits_any (b : Nat) (hb : b < 18446744073709551616) (a1 : Int) (w : World) : Calls Try.prog 6 #[.int .u64 (b : Int), .int .i64 a1] w fun e w' => e = .returned (.bool true) ∧ Below w.heap.size w w' := by
  obtain ⟨f, hf, HL1⟩ := low_nat a1 64 (by omega) (by omega)
  have HN := Lib.hid (fun u hu => st_new 33 (by omega) (by omega) u w.heap.size hu 33 rfl)
  have L1 : Hid (∀ u : World, Calls Try.prog 20 #[.int .i64 a1, .int .i64 64] u fun e w' => e = .returned (.int .i64 (f : Int)) ∧ u = w') := HL1
  clear HL1
  go_enter Try.func6, Try.ntmps6
  go_wp2_with fail
  (with_reducible refine (HN.out _ (Nat.le_refl _)).mono ?_)
  rintro e1 w1 ⟨rfl, s1, b1⟩
  have S1 := Lib.hid s1
  have B1 := Lib.hid b1
  have P1 : Hid (SetP (RS.new 33) 33 (RoundP b f 0)) := (SetP.new (by omega) (by omega)).to fun m => round_zero b f m
  clear s1 b1 HN
  go_wp2_with fail
  (with_reducible refine (L1.out _).mono ?_)
  rintro e2 w2 ⟨rfl, rfl⟩
  clear L1
  go_wp2_with fail
  go_loopw [6] (fun i wr => ∃ (j : Nat) (s : RS), j ≤ 64 ∧ i = .int .i64 j ∧ Hid (SetP s 33 (RoundP b f j)) ∧ Hid (St wr w.heap.size w.heap.size s) ∧ Hid (Below w.heap.size w wr)) (fun i _ => 64 - (intOf i).toNat)
  case atStart => exact ⟨0, _, by omega, rfl, P1, S1, B1⟩
  case round =>
    obtain ⟨j, s, hj, rfl, P, S, B⟩ := hrel
    by_cases hlt : j < 64
    · obtain ⟨n, hn, hn64, HNM⟩ : ∃ n : Nat, ((f : Int) + (j : Int)).tmod 64 = (n : Int) ∧ n < 64 ∧ Hid (n = (f + j) % 64) := ⟨(f + j) % 64, rfl, by omega, rfl⟩
      rcases bit_case b n hb with ⟨hbit, hbv⟩ | ⟨hbit, hbv⟩
      · obtain ⟨hnew, hP⟩ := P.out.new_ (k := n) (N := 64) (fun m hm => hm.1) hn64 (by omega) (by omega) (round_not hlt HNM.out)
        have PN := Lib.hid (hP.to fun m => round_yes HNM.out hbit)
        have HA := Lib.hid (st_add S.out B.out.size (n : Int) (k := n) rfl)
        rw [hnew] at HA
        have hold := hP.old (.inl rfl)
        have HOLD := Lib.hid hold
        clear hnew hP hold hbit
        go_wp2_with fail
        (with_reducible refine HA.out.mono ?_)
        rintro e4 w4 ⟨rfl, s4, b4⟩
        have B4 := Lib.hid (B.out.trans b4)
        have HA2 := Lib.hid (st_add s4 B4.out.size (n : Int) (k := n) rfl)
        rw [HOLD.out, RS.add_old HOLD.out] at HA2
        clear s4 b4
        go_wp2_with fail
        (with_reducible refine HA2.out.mono ?_)
        rintro e5 w5 ⟨rfl, s5, b5⟩
        have S5 := Lib.hid s5
        have B5 := Lib.hid (B4.out.trans b5)
        clear s5 b5
        go_wp2_with fail
        go_roundw
        case rel => exact ⟨j + 1, _, by omega, by go_num, PN, S5, B5⟩
        case measure => first | (simp [intOf]; done) | (simp [intOf]; omega)
      · have PN := Lib.hid (P.out.to fun m => round_no HNM.out hbit)
        clear hbit
        go_wp2_with fail
        go_roundw
        case rel => exact ⟨j + 1, _, by omega, by go_num, PN, S, B⟩
        case measure => first | (simp [intOf]; done) | (simp [intOf]; omega)
    · obtain rfl : j = 64 := by omega
      have PB : Hid (SetP s 33 (BitP b)) := P.out.to fun m => round_all hf
      clear P
      go_wp2_with fail
      go_loopw [8, 9] (fun v i wr2 => ∃ (k : Nat) (z : Int) (L : RL) (A : Option Addr) (c : Nat), k ≤ 64 ∧ v = .slice A L.length c ∧ i = .int .i64 z ∧ z + 1 = (k : Int) ∧ Hid (Down 64 k (BitP b) L) ∧ Hid (OwnR wr2 wr.heap.size (.slice A L.length c) L.length L) ∧ Hid (Below wr.heap.size wr wr2)) (fun _ i _ => (intOf i + 1).toNat)
      case atStart => exact ⟨64, 63, [], none, 0, by omega, rfl, rfl, rfl, ⟨trivial, fun m => ⟨fun h => absurd h mem_nil, fun h => absurd h.2.1 (by omega)⟩⟩, OwnR.nil _ _, Below.refl _ _⟩
      case round =>
        obtain ⟨k, z, L, A, c, hk, rfl, rfl, hz, D, O, B2⟩ := hrel
        cases k with
        | zero =>
          obtain rfl : z = -1 := by omega
          obtain rfl : L = s.l := down_zero D.out PB.out
          have S2 := Lib.hid (S.out.below B2.out)
          have hcap := O.out.bnd
          have HLG := Lib.hid (st_largest S2.out)
          have HLS := Lib.hid (st_list S2.out)
          have hlen := bits_len hb PB.out
          have hl64 : s.l.length ≤ 64 := by have h1 := PB.out.ok.len; have h2 := PB.out.ok.most.2; omega
          have HBW := Lib.hid (B.out.trans (B2.out.mono B.out.size))
          clear D P1 S1 B1
          by_cases h0 : b = 0
          · have hl0 : s.l.length = 0 := by omega
            rw [hl0] at HLG HLS O ⊢
            have hd : decide (0 < 0) = false := rfl
            rw [hd] at HLG
            have hb0 : ((b : Int) != 0) = false := by subst h0; rfl
            clear hlen
            go_wp2_with fail
            (with_reducible refine HLG.out.mono ?_)
            rintro e6 w6 ⟨rfl, rfl⟩
            go_wp2_with fail
            (with_reducible refine HLS.out.mono ?_)
            rintro e7 w7 ⟨A7, c7, rfl, o7, b7⟩
            have HSM := Lib.hid (rsame_any s.l s.l A7 A 0 0 c7 c _ _ w7 o7.sl (O.out.below b7).sl (by simp [maxLen]) true (by simp))
            have B7 := Lib.hid (HBW.out.trans (b7.mono HBW.out.size))
            clear o7 b7
            go_wp2_with fail
            (with_reducible refine HSM.out.mono ?_)
            rintro e8 w8 ⟨rfl, b8⟩
            have B8 := Lib.hid (B7.out.trans (b8.mono B7.out.size))
            clear b8
            go_wp2_with fail
            (with_reducible refine (awake_any _).mono ?_)
            rintro e9 w9 ⟨rfl, b9⟩
            go_wp2
            go_ret
            exact ⟨rfl, B8.out.trans (b9.mono B8.out.size)⟩
          · have hl0 : 0 < s.l.length := hlen.2 h0
            have hd : decide (0 < s.l.length) = true := decide_eq_true hl0
            rw [hd] at HLG
            have hb0 : ((b : Int) != 0) = true := by simp; omega
            have hl0' : (0 : Int) < (s.l.length : Int) := by omega
            obtain ⟨gl, rfl⟩ : ∃ gl, A = some ⟨gl, 0, none⟩ := by
              obtain ⟨gl, off, e, _⟩ := O.out.sl.2 hl0
              subst e
              exact ⟨gl, by rw [O.out.spot _ rfl]⟩
            obtain ⟨q, hq⟩ : ∃ q, s.l.length = q := ⟨_, rfl⟩
            obtain ⟨x, hx⟩ : ∃ x, (s.l.getD 0 (0, 0)).2 = x := ⟨_, rfl⟩
            rw [hq] at HLS O hl0 hl0' hl64 ⊢
            rw [hx] at HLG
            have hcell := (O.out.cells 0 hl0).2
            rw [hx] at hcell
            simp only [Nat.zero_mul, Nat.zero_add] at hcell
            have HX := Lib.hid hx
            have HQ := Lib.hid hq
            clear hlen hd hq hx hcell
            go_wp2_with fail
            (with_reducible refine HLG.out.mono ?_)
            rintro e6 w6 ⟨rfl, rfl⟩
            go_wp2_with fail
            (with_reducible refine HLS.out.mono ?_)
            rintro e7 w7 ⟨A7, c7, rfl, o7, b7⟩
            have HSM := Lib.hid (rsame_any s.l s.l A7 (some ⟨gl, 0, none⟩) q q c7 c _ _ w7 o7.sl (O.out.below b7).sl (by simp [maxLen]; omega) true (by simp))
            have B7 := Lib.hid (HBW.out.trans (b7.mono HBW.out.size))
            have O7 := Lib.hid (O.out.below b7)
            clear o7 b7
            go_wp2_with fail
            (with_reducible refine HSM.out.mono ?_)
            rintro e8 w8 ⟨rfl, b8⟩
            have B8 := Lib.hid (B7.out.trans (b8.mono B7.out.size))
            have hc8 : w8.cell? ⟨gl, 1, none⟩ = some (.int .u64 (x : Int)) := by
              have h1 := ((O7.out.below b8).cells 0 hl0).2
              rw [HX.out] at h1
              simpa using h1
            clear b8
            go_wp2_with fail
            (with_reducible refine (awake_any _).mono ?_)
            rintro e9 w9 ⟨rfl, b9⟩
            go_wp2
            go_ret
            exact ⟨rfl, B8.out.trans (b9.mono B8.out.size)⟩
        | succ n =>
          obtain rfl : z = (n : Int) := by omega
          clear hz
          have S2 := Lib.hid (S.out.below B2.out)
          have hn64 : n < 64 := by omega
          have hl64 : L.length ≤ 65 := by have := fall_len D.out.fall; omega
          have hcap := O.out.bnd
          rcases bit_case b n hb with ⟨hbit, hbv⟩ | ⟨hbit, hbv⟩
          · have hyes : BitP b n := ⟨hn64, hbit⟩
            have HH := Lib.hid (st_has (S2.out.below (w' := wr.drew) ⟨rfl, rfl, rfl, Nat.le_refl _, fun _ _ => rfl⟩) (by omega) (n : Int) (k := n) rfl true (decide_eq_true ((PB.out.has n).2 hyes)))
            have hw : IntKind.u64.wrap (n : Int) = (n : Int) := by simp [IntKind.wrap, IntKind.bits, IntKind.signed]; omega
            have HY := Lib.hid hyes
            clear hyes hbit
            have HW0 : Hid (Below w.heap.size w wr) := B.out.trans (B2.out.mono B.out.size)
            rcases List.eq_nil_or_concat L with e | ⟨L1, ⟨xl, xh⟩, e⟩
            · subst e
              have DN := Lib.hid (down_push D.out (fun x r e => by cases r <;> cases e) HY.out hn64)
              have k0 : ¬ (0 : Int) < (0 : Int) := by omega
              go_wp2_with fail
              go_region_held3 (fun u => True) (first | go_keep | trivial) (first | (go_at_call 12; (with_reducible refine HH.out.mono ?_); rintro e6 w6 ⟨rfl, b6⟩))
              have O6 := Lib.hid (O.out.below (undrew b6))
              have B6 := Lib.hid (B2.out.trans ((undrew b6).mono B2.out.size))
              clear b6
              go_wp2_with (at_builtin; refine wpList_append_ranges rfl _ _ rfl _ (.slice A 0 c) 0 [] rfl (O6.out.alloc _) w6.heap.size 0 1 1 [(n, n)] rfl (slR_lit w6 n n) (by omega) (by omega) (Nat.le_trans B6.out.size (by simp)) _ (B6.out.alloc B6.out.size _) ?_; intro A7 c7 w7 O7 G7 B7)
              go_roundw
              case rel => first | exact ⟨n, (n : Int) - 1, [(n, n)], A7, c7, by omega, rfl, by go_num, by omega, DN, O7, B7⟩ | ((repeat apply Exists.intro); exact ⟨⟨n, (n : Int) - 1, [(n, n)], A7, c7, by omega, rfl, by go_num, by omega, DN, O7, B7⟩, rfl⟩)
              case measure => first | (simp [intOf]; done) | (simp [intOf]; omega)
            · obtain rfl : L = L1 ++ [(xl, xh)] := by simpa using e
              obtain ⟨q, hq⟩ : ∃ q, (L1 ++ [(xl, xh)]).length = q := ⟨_, rfl⟩
              have hq1 : q = L1.length + 1 := by rw [← hq]; simp
              have hlast : (L1 ++ [(xl, xh)]).getD L1.length (0, 0) = (xl, xh) := by simp
              obtain ⟨p, hp⟩ : ∃ p, L1.length = p := ⟨_, rfl⟩
              rw [hp] at hq1 hlast
              obtain ⟨gl, rfl⟩ : ∃ gl, A = some ⟨gl, 0, none⟩ := by
                obtain ⟨gl, off, e, _⟩ := O.out.sl.2 (by rw [hq]; omega)
                subst e
                exact ⟨gl, by rw [O.out.spot _ rfl]⟩
              have k0 : (0 : Int) < (q : Int) := by omega
              have k1 : (q : Int) - 1 = (p : Int) := by omega
              have k2 : p < q := by omega
              have hq65 : q ≤ 65 := by omega
              rw [hq] at O hcap ⊢
              have HQ := Lib.hid hq
              have HP := Lib.hid hp
              have HLA := Lib.hid hlast
              clear hq hq1 hp hlast hl64 e
              by_cases hj : xl = n + 1
              · have DN := Lib.hid (down_join D.out hj HY.out)
                have k3 : (xl : Int) = (n : Int) + 1 := by omega
                go_wp2_with fail
                go_region_held3 (fun u => True) (first | go_keep | trivial) (first | (go_at_call 12; (with_reducible refine HH.out.mono ?_); rintro e6 w6 ⟨rfl, b6⟩))
                have O6 := Lib.hid (O.out.below (undrew b6))
                have B6 := Lib.hid (B2.out.trans ((undrew b6).mono B2.out.size))
                clear b6 hw
                have hc := (O6.out.cells p k2).1
                rw [HLA.out] at hc
                simp only at hc
                have HLT := Lib.hid ((O6.out.blk _ rfl))
                go_wp2_with ((with_reducible refine wpList_put_own rfl 27 (.tmp 85) (.tmp 83) rfl gl (p * 2) (.int .u64 (n : Int)) ?hx ?hy ?hv ?h1 O6.out size_u64 ?hl ?_); (case hx => with_unfolding_all rfl); (case hy => with_unfolding_all rfl); (case hv => rfl); (case h1 => rfl); (case hl => omega); intro O7)
                have o8 := O6.out.put1 p n k2
                rw [HLA.out, show (L1 ++ [(xl, xh)]).set p (n, xh) = L1 ++ [(n, xh)] by rw [← HP.out, List.set_append, if_neg (by omega), Nat.sub_self]; rfl] at o8
                have O8 := Lib.hid o8
                have hq2 : (L1 ++ [(n, xh)]).length = q := by rw [← HQ.out]; simp
                have HQ2 := Lib.hid hq2
                have B8 := Lib.hid (B6.out.trans (O7.out.below B6.out.size HLT.out.1))
                clear o8 hq2
                go_roundw
                case rel =>
                  have O9 := O8
                  rw [← HQ2.out] at O9
                  exact ⟨_, .slice (some ⟨gl, 0, none⟩) q c, .int .i64 ((n : Int) - 1), ⟨n, by omega, (n : Int) - 1, L1 ++ [(n, xh)], some ⟨gl, 0, none⟩, c, by rw [HQ2.out], rfl, by omega, DN, O9, B8⟩, rfl, rfl, rfl⟩
                case measure => first | (simp [intOf]; done) | (simp [intOf]; omega)
              · have DN := Lib.hid (down_push D.out (fun y r e => by
                  obtain ⟨_, e2⟩ := List.append_inj' e rfl
                  have e3 : (xl, xh) = y := by simpa using e2
                  rw [← e3]
                  exact hj) HY.out hn64)
                have k3 : ¬ (xl : Int) = (n : Int) + 1 := by omega
                go_wp2_with fail
                go_region_held3 (fun u => True) (first | go_keep | trivial) (first | (go_at_call 12; (with_reducible refine HH.out.mono ?_); rintro e6 w6 ⟨rfl, b6⟩))
                have O6 := Lib.hid (O.out.below (undrew b6))
                have B6 := Lib.hid (B2.out.trans ((undrew b6).mono B2.out.size))
                clear b6 hw
                have hc := (O6.out.cells p k2).1
                rw [HLA.out] at hc
                simp only at hc
                go_wp2_with (at_builtin; refine wpList_append_ranges rfl _ _ rfl _ (.slice (some ⟨gl, 0, none⟩) q c) q (L1 ++ [(xl, xh)]) rfl (O6.out.alloc _) w6.heap.size 0 1 1 [(n, n)] rfl (slR_lit w6 n n) (by omega) (by omega) (Nat.le_trans B6.out.size (by simp)) _ (B6.out.alloc B6.out.size _) ?_; intro A7 c7 w7 O7 G7 B7)
                have hq2 : (L1 ++ [(xl, xh)] ++ [(n, n)]).length = q + 1 := by rw [List.length_append, HQ.out]; rfl
                have HQ2 := Lib.hid hq2
                clear hq2
                go_roundw
                case rel =>
                  have O9 := O7
                  rw [← HQ2.out] at O9
                  first | exact ⟨n, (n : Int) - 1, L1 ++ [(xl, xh)] ++ [(n, n)], A7, c7, by omega, by rw [HQ2.out], by go_num, by omega, DN, O9, B7⟩ | ((repeat apply Exists.intro); exact ⟨⟨n, (n : Int) - 1, L1 ++ [(xl, xh)] ++ [(n, n)], A7, c7, by omega, by rw [HQ2.out], by go_num, by omega, DN, O9, B7⟩, rfl⟩)
                case measure => first | (simp [intOf]; done) | (simp [intOf]; omega)
          · have hno : ¬ BitP b n := fun hh => by
              have h2 : b.testBit n = true := hh.2
              rw [hbit] at h2
              cases h2
            have HH := Lib.hid (st_has (S2.out.below (w' := wr.drew) ⟨rfl, rfl, rfl, Nat.le_refl _, fun _ _ => rfl⟩) (by omega) (n : Int) (k := n) rfl false (decide_eq_false fun hh => hno ((PB.out.has n).1 hh)))
            have DN := Lib.hid (down_skip D.out hno)
            have hw : IntKind.u64.wrap (n : Int) = (n : Int) := by simp [IntKind.wrap, IntKind.bits, IntKind.signed]; omega
            clear hno hbit
            go_wp2_with fail
            go_region_held3 (fun u => True) (first | go_keep | trivial) (first | (go_at_call 12; (with_reducible refine HH.out.mono ?_); rintro e6 w6 ⟨rfl, b6⟩))
            have O6 := Lib.hid (O.out.below (undrew b6))
            have B6 := Lib.hid (B2.out.trans ((undrew b6).mono B2.out.size))
            clear b6
            go_wp2_with fail
            go_roundw
            case rel => first | exact ⟨n, (n : Int) - 1, L, A, c, by omega, rfl, by go_num, by omega, DN, O6, B6⟩ | ((repeat apply Exists.intro); exact ⟨⟨n, (n : Int) - 1, L, A, c, by omega, rfl, by go_num, by omega, DN, O6, B6⟩, rfl⟩)
            case measure => first | (simp [intOf]; done) | (simp [intOf]; omega)
end Go.Proofs.Ytebpalcfnfgfdaa
