/-
  The law OutgoAllows: no new byte goes beyond what is allowed; each up to there goes.
-/
import Derived.Test.YtkodjajhlcbmkaaDoorOuH
import Derived.Test.YtkodjajhlcbmkaaDoorLow
import Derived.Test.YtkodjajhlcbmkaaDoorIv
import Derived.LoopTactic
namespace Go.Proofs.YtkodjajhlcbmkaaDoor
open Go.RowKit Go.Lib
set_option linter.unusedVariables false

/-- sent up to a, the end as e says -/
def alS (n a e i : Nat) : Nat := if i < a then 1 else if i < n then 0 else e
theorem alS_in {n a e : Nat} (i : Nat) (hi : i < n) : alS n a e i = if i < a then 1 else 0 := by
  unfold alS
  rw [if_pos hi]
theorem alS_end {n a e : Nat} (h : a ≤ n) : alS n a e n = e := by
  unfold alS
  rw [if_neg (by omega), if_neg (by omega)]
theorem alS_land {n a t e : Nat} (h1 : a ≤ t) (h2 : t ≤ n) (ha : a < n → e = 0) : ∀ i, i ≤ n → landV n (alS n a e) 1 (some (a, t, decide (t = n))) i = alS n t (if t = n then 1 else e) i := fun i hi => by
  by_cases c : i = n
  · subst c
    rw [alS_end h2]
    unfold landV
    simp only
    by_cases c2 : t = i
    · rw [if_pos (Or.inr (And.intro trivial (decide_eq_true c2))), if_pos c2]
    · rw [if_neg (fun h' => h'.elim (fun h' => by omega) (fun h' => c2 (of_decide_eq_true h'.2))), if_neg c2, alS_end (by omega)]
  · rw [allows_land (s := alS n a e) (fun i hi => alS_in i hi) h1 h2 i (by omega), alS_in i (by omega)]
theorem alS_sent {n a e : Nat} (h : a ≤ n) : sentV n (alS n a e) = a := by
  rw [sent_of (a := a) fun i hi => by rw [alS_in i hi]; by_cases c : i < a <;> simp [c]]
  omega
/-- what was sent up to a is lost -/
def loS (n a e i : Nat) : Nat := if i < a then 2 else if i < n then 0 else e
theorem loS_in {n a e : Nat} (i : Nat) (hi : i < n) : loS n a e i = if i < a then 2 else 0 := by
  unfold loS
  rw [if_pos hi]
theorem loS_end {n a e : Nat} (h : a ≤ n) : loS n a e n = e := by
  unfold loS
  rw [if_neg (by omega), if_neg (by omega)]
theorem loS_lost {n a e : Nat} (h : a ≤ n) : ∀ i, i ≤ n → lostV n (alS n a e) 0 (n : Int) false i = loS n a e i := fun i hi => by
  have hh := allows_lost (s := alS n a e) (fun i hi => alS_in i hi) h
  by_cases c : i = n
  · subst c
    rw [hh.2, alS_end h, loS_end h]
  · rw [hh.1 i (by omega), loS_in i (by omega)]
theorem loS_again {n a e : Nat} {b : Bool} (h : a ≤ n) : sentV n (landV n (loS n a e) 1 (some (0, a, b))) = a := by
  rw [sent_of (a := a) fun i hi => ?_]
  · omega
  · unfold landV
    simp only
    by_cases c : i < a
    · rw [if_pos (Or.inl (And.intro (Nat.zero_le _) c))]
      omega
    · rw [if_neg (fun h' => h'.elim (fun h' => c h'.2) (fun h' => by omega)), loS_in i hi, if_neg c]
      omega
theorem loS_zero {n e : Nat} : sentV n (loS n 0 e) = 0 := by
  rw [sent_of (a := 0) fun i hi => by rw [loS_in i hi]; simp]
  omega
set_option maxRecDepth 8000 in
theorem allows_long (A A' : Option Addr) (n c m d : Nat) (w : World) (hG : Glob w) (hn : 100 < n ∨ 12 < m) (hm : n ≤ maxLen) (hm' : m ≤ maxLen) : Calls Tryd.prog 7 #[.slice A n c, .slice A' m d] w fun e w' => e = .returned (.bool true) ∧ Below w.heap.size w w' := by
  have AW := Lib.hid (awake_any w hG)
  rcases Nat.lt_or_ge 100 n with h1 | h1
  · have hlt : (100 : Int) < (n : Int) := by omega
    clear hG hm hm' hn
    go_enter Tryd.func7, Tryd.ntmps7
    go_wp2_with fail
    (with_reducible refine AW.out.mono ?_)
    rintro e1 w1 ⟨rfl, b1⟩
    go_wp2_with fail
    go_ret
    exact ⟨rfl, b1⟩
  · have hlt : ¬ (100 : Int) < (n : Int) := by omega
    have hlt2 : (12 : Int) < (m : Int) := by omega
    clear hG hm hm' hn
    go_enter Tryd.func7, Tryd.ntmps7
    go_wp2_with fail
    (with_reducible refine AW.out.mono ?_)
    rintro e1 w1 ⟨rfl, b1⟩
    go_wp2_with fail
    go_ret
    exact ⟨rfl, b1⟩
set_option maxRecDepth 8000 in
set_option maxHeartbeats 4000000 in
theorem allows_any {A A' : Option Addr} {n c B0 m d B1 : Nat} {D : List UInt8} {L : List Int} {w : World} (h : Sl w B0 A n D) (hB : B0 ≤ w.heap.size) (hnc : n ≤ c) (hcm : c ≤ maxLen) (hn : n ≤ 100) (hL : SlI w B1 A' m L) (hB1 : B1 ≤ w.heap.size) (hm : m ≤ 12) (hG : Glob w) :
    Calls Tryd.prog 7 #[.slice A n c, .slice A' m d] w fun e w' => e = .returned (.bool true) ∧ Below w.heap.size w w' := by
  have WN := Lib.hid (show (Lit.int .i64 (n : Int)).wf = true from wf_i64 (by omega) (by omega))
  have HG := Lib.hid hG
  have DS := Lib.hid h
  have LS := Lib.hid hL
  have HB := Lib.hid hB
  have HB1 := Lib.hid hB1
  have C2 : Hid (n ≤ c ∧ c ≤ maxLen) := ⟨hnc, hcm⟩
  have b1 : (n : Int) ≤ 100 := by omega
  have b2 : (m : Int) ≤ 12 := by omega
  clear h hB hnc hcm hG hL hB1
  go_enter Tryd.func7, Tryd.ntmps7
  go_wp2_with (at_builtin; refine wpList_append_bytes rfl _ _ rfl w.heap.size (.slice none 0 0) 0 [] rfl (Own.nil _ _) B0 A n c D rfl DS.out (by omega) (Nat.le_refl _) w (Below.refl _ _) ?_; intro A1 c1 w1 ho hle hc hg hb)
  simp only [Nat.zero_add, List.nil_append] at ho hle hc hg hb ⊢
  have P := Lib.hid (rn_new (w0 := w) (c0 := c1) ho.sl (Nat.le_refl _) (by omega) (HG.out.below hb HG.out.pos) hb HG.out.pos)
  clear ho hle hc hg hb
  go_wp2_with fail
  (with_reducible refine P.out.mono ?_)
  rintro e3 w3 ⟨g, rfl, r3, b3', hg3⟩
  obtain ⟨B, hBe⟩ : ∃ B, w1.heap.size = B := ⟨_, rfl⟩
  rw [hBe] at r3
  have R3 : Hid (Rn w w3 B g n D (alS n 0 0)) := r3.cong fun i _ => by unfold alS; simp
  clear r3 b3' hg3 P hBe
  go_wp2_with fail
  go_loopw [6, 7, 8] (fun al sn k wr => ∃ q a j : Nat, ∃ ev : Nat, al = .int .i64 (q : Int) ∧ sn = .int .i64 (a : Int) ∧ k = .int .i64 (j : Int) ∧ j ≤ m ∧ a ≤ n ∧ a ≤ q ∧ q ≤ 110 ∧ Hid ((a < n → ev = 0) ∧ ev ≤ 1) ∧ Hid (Rn w wr B g n D (alS n a ev))) (fun _ _ k _ => m - (intOf k).toNat)
  case atStart => exact ⟨0, 0, 0, 0, rfl, rfl, rfl, Nat.zero_le _, Nat.zero_le _, Nat.le_refl _, by omega, ⟨fun _ => rfl, by omega⟩, R3.out⟩
  case round =>
    clear R3
    obtain ⟨q, a, j, ev, rfl, rfl, rfl, hj, han, haq, hq, HE, R⟩ := hrel
    by_cases hjm : j < m
    · have hjl : ((j : Int) < (m : Int)) := by omega
      obtain ⟨gx, off, rfl, _, hcell0⟩ := LS.out.at_ hjm
      obtain ⟨x, hx⟩ : ∃ x, L.getD j 0 = x := ⟨_, rfl⟩
      rw [hx] at hcell0
      have hcell : wr.cell? ⟨gx, off + j, none⟩ = some (.int .i64 x) := (R.out.b.cell (p := ⟨gx, off + j, none⟩) (World.block_lt_of_cell? w _ hcell0)).trans hcell0
      clear hx hcell0
      obtain ⟨z1, hz1⟩ : ∃ z1, lowV x 20 = z1 := ⟨_, rfl⟩
      have hz1b := low_bd x 20 (by omega) (by omega)
      rw [hz1] at hz1b
      obtain ⟨r, hr⟩ : ∃ r : Nat, 1 + z1 = (r : Int) := ⟨(1 + z1).toNat, by omega⟩
      obtain ⟨z2, hz2⟩ : ∃ z2, lowV (wrap64 (x.tdiv 20)) 110 = z2 := ⟨_, rfl⟩
      have hz2b := low_bd (wrap64 (x.tdiv 20)) 110 (by omega) (by omega)
      rw [hz2] at hz2b
      obtain ⟨y1, hy1⟩ : ∃ y1, min z2 (n : Int) = y1 := ⟨_, rfl⟩
      obtain ⟨y2, hy2⟩ : ∃ y2, y1 - (a : Int) = y2 := ⟨_, rfl⟩
      obtain ⟨kk, hkk⟩ : ∃ kk, min (r : Int) y2 = kk := ⟨_, rfl⟩
      obtain ⟨q', hq'⟩ : ∃ q' : Nat, max (q : Int) z2 = (q' : Int) := ⟨(max (q : Int) z2).toNat, by omega⟩
      have bb : 0 ≤ y1 ∧ y1 ≤ 100 ∧ -100 ≤ y2 ∧ y2 ≤ 100 ∧ -100 ≤ kk ∧ kk ≤ 20 := by omega
      have bb1 := bb.1
      have bb2 := bb.2.1
      have bb3 := bb.2.2.1
      have bb4 := bb.2.2.2.1
      have bb5 := bb.2.2.2.2.1
      have bb6 := bb.2.2.2.2.2
      have hrb : 1 ≤ r ∧ r ≤ 20 := by omega
      have hq2 : q ≤ q' ∧ q' ≤ 110 := by omega
      have hkd : kk = min (r : Int) (min z2 n - a) := by rw [hy1, hy2, hkk]
      have hkq : 0 < kk → a + kk.toNat ≤ q' ∧ a + kk.toNat ≤ n := by omega
      have WR := Lib.hid (show (Lit.int .i64 (r : Int)).wf = true from wf_i64 (by omega) (by omega))
      have WZ := Lib.hid (show (Lit.int .i64 z2).wf = true from wf_i64 (by omega) (by omega))
      have HNX := Lib.hid (allows_next (s := alS n a ev) (n := n) (a := a) (room := (r : Int)) (allow := z2) (fun i hi => alS_in i hi) (fun hh => by rw [alS_end han]; exact HE.out.1 hh) (by rw [alS_end han]; have := HE.out.2; omega) han (by omega) hkd)
      clear hkd
      go_wp2_with fail
      go_quiet ((go_at_call 24; exact (low_any _ _ _ (by omega) (by omega)).mono fun _ _ ⟨he, hm⟩ => ⟨he, _, hm.symm⟩))
      have R4 := Lib.hid (R.out.drewN nq)
      clear R
      by_cases hk : 0 < kk
      · obtain ⟨K, rfl⟩ : ∃ K : Nat, kk = (K : Int) := ⟨kk.toNat, by omega⟩
        obtain ⟨t, ht⟩ : ∃ t, a + K = t := ⟨_, rfl⟩
        have hK := hkq hk
        have hpn := HNX.out.1 hk
        rw [Int.toNat_natCast, ht] at hK hpn
        have ht2 : (a : Int) + (K : Int) = (t : Int) := by omega
        obtain ⟨b, hb⟩ : ∃ b, decide (t = n) = b := ⟨_, rfl⟩
        have hland := alS_land (n := n) (a := a) (t := t) (e := ev) (by omega) hK.2 HE.out.1
        rw [hb] at hpn hland
        have P4 := Lib.hid (rn_some (f := a) (t := t) (b := b) R4.out WR.out WZ.out hpn hland)
        have htb : ((t : Int) == (n : Int)) = b := by
          rw [← hb, Bool.eq_iff_iff]; simp; omega
        have hcut : ∀ u : World, (Instr.slice 22 (.slice A n c) (some (.int .i64 (a : Int))) (some (.int .i64 (t : Int))) none).run Tryd.prog u = .ok (.slice (if c = a then A else A.map (·.add a)) (t - a) (c - a)) u := fun u => run_cut2 u A n c a t (by omega) (by have := C2.out; omega)
        obtain ⟨A6, hA6⟩ : ∃ A6, (if c = a then A else A.map (·.add a)) = A6 := ⟨_, rfl⟩
        have SD : Hid (∀ u, Below w.heap.size w u → Sl u B0 A6 (t - a) ((D.drop a).take (t - a))) := fun u hu => by
          rw [← hA6]
          exact ((DS.out.below (hu.mono HB.out)).drop (k := a) (c := c) han C2.out.1).take (by omega)
        rw [hA6] at hcut
        have HK : Hid (a ≤ t ∧ t ≤ q' ∧ t ≤ n) := by show _ ∧ _ ∧ _; omega
        have btq : ((t : Int) ≤ (q' : Int)) := by omega
        have btq2 : ¬ ((q' : Int) < (t : Int)) := by omega
        have bt : (t : Int) ≤ 100 := by omega
        have hmx : max (K : Int) 0 = (K : Int) := by omega
        have hk0 : ¬ ((K : Int) ≤ 0) := by omega
        clear hpn hland hA6 hK hkq HNX
        go_wp2_with fail
        (with_reducible refine P4.out.mono ?_)
        rintro e5 w5 ⟨A4, c4, rfl, o5, q5, _, _, r5, m5⟩
        have S5 := Lib.hid (same_yes _ _ rfl A4 A6 (t - a) (t - a) c4 (c - a) _ _ w5 o5.sl (SD.out w5 r5.b) (by have := q5; omega))
        have R5 : Hid (∀ j, Rn w (w5.drewN j) B g n D (alS n t (if t = n then 1 else ev))) := fun j => r5.drewN j
        have T5 := Lib.hid (fun j => rn_sent (R5.out j) (t : Int) (by rw [alS_sent HK.out.2.2]))
        clear o5 q5 r5 m5 P4 SD R4
        go_wp2_with fail
        (with_reducible refine S5.out.mono ?_)
        rintro e6 w6 ⟨rfl, j6, rfl⟩
        go_wp2_with fail
        (with_reducible refine (T5.out _).mono ?_)
        rintro e7 w7 ⟨rfl, rfl⟩
        go_wp2_with fail
        go_roundw
        case rel =>
          have h1 := HK.out
          exact ⟨q', t, j + 1, if t = n then 1 else ev, rfl, rfl, by go_num, by omega, h1.2.2, h1.2.1, hq2.2, ⟨fun hh => by rw [if_neg (by omega)]; exact HE.out.1 (by omega), by have := HE.out.2; split <;> omega⟩, R5.out j6⟩
        case measure => simp [intOf]; omega
      · have hk0 : kk ≤ 0 := by omega
        have hmx : max kk 0 = 0 := by omega
        have haq2 : ¬ ((q' : Int) < (a : Int)) := by omega
        by_cases ha : a < n
        · have han2 : ((a : Int) < (n : Int)) := by omega
          have P4 := Lib.hid (rn_none R4.out WR.out WZ.out (HNX.out.2 hk0 ha))
          clear HNX hkq
          go_wp2_with fail
          (with_reducible refine P4.out.mono ?_)
          rintro e5 w5 ⟨rfl, r5, m5⟩
          have R5 := Lib.hid r5
          have T5 := Lib.hid (rn_sent r5 (a : Int) (by rw [alS_sent han]))
          clear r5 P4
          go_wp2_with fail
          (with_reducible refine T5.out.mono ?_)
          rintro e7 w7 ⟨rfl, rfl⟩
          go_wp2_with fail
          go_roundw
          case rel => exact ⟨q', a, j + 1, ev, rfl, rfl, by go_num, by omega, han, by omega, hq2.2, HE.out, R5.out⟩
          case measure => simp [intOf]; omega
        · have han2 : ¬ ((a : Int) < (n : Int)) := by omega
          obtain rfl : a = n := by omega
          rcases Nat.eq_zero_or_pos ev with h0 | h0
          · subst h0
            have hpn : nextV a (alS a a 0) (r : Int) z2 = some (a, a, true) := next_end_new (fun j hj => by rw [alS_in j hj, if_pos hj]; decide) (fun j hj => by rw [alS_in j hj, if_pos hj]; decide) (alS_end (Nat.le_refl _))
            have hland := alS_land (n := a) (a := a) (t := a) (e := 0) (Nat.le_refl _) (Nat.le_refl _) (fun h => absurd h (Nat.lt_irrefl _))
            rw [decide_eq_true rfl, if_pos rfl] at hland
            have P4 := Lib.hid (rn_some (f := a) (t := a) (b := true) R4.out WR.out WZ.out hpn hland)
            clear HNX hkq hpn hland
            go_wp2_with fail
            (with_reducible refine P4.out.mono ?_)
            rintro e5 w5 ⟨A4, c4, rfl, o5, q5, _, _, r5, m5⟩
            have R5 := Lib.hid r5
            have T5 := Lib.hid (rn_sent r5 (a : Int) (by rw [alS_sent han]))
            clear r5 P4
            go_wp2_with fail
            (with_reducible refine T5.out.mono ?_)
            rintro e7 w7 ⟨rfl, rfl⟩
            go_wp2_with fail
            go_roundw
            case rel => exact ⟨q', a, j + 1, 1, rfl, rfl, by go_num, by omega, han, by omega, hq2.2, ⟨fun h => absurd h (Nat.lt_irrefl _), by omega⟩, R5.out⟩
            case measure => simp [intOf]; omega
          · have hpn : nextV a (alS a a ev) (r : Int) z2 = none := next_none (fun j hj => by
                by_cases e : j = a
                · subst e; rw [alS_end (Nat.le_refl _)]; have := HE.out.2; omega
                · rw [alS_in j (by omega), if_pos (by omega)]; decide) (fun j hj => by
                by_cases e : j = a
                · subst e; rw [alS_end (Nat.le_refl _)]; omega
                · rw [alS_in j (by omega), if_pos (by omega)]; decide)
            have P4 := Lib.hid (rn_none R4.out WR.out WZ.out hpn)
            clear HNX hkq hpn
            go_wp2_with fail
            (with_reducible refine P4.out.mono ?_)
            rintro e5 w5 ⟨rfl, r5, m5⟩
            have R5 := Lib.hid r5
            have T5 := Lib.hid (rn_sent r5 (a : Int) (by rw [alS_sent han]))
            clear r5 P4
            go_wp2_with fail
            (with_reducible refine T5.out.mono ?_)
            rintro e7 w7 ⟨rfl, rfl⟩
            go_wp2_with fail
            go_roundw
            case rel => exact ⟨q', a, j + 1, ev, rfl, rfl, by go_num, by omega, han, by omega, hq2.2, HE.out, R5.out⟩
            case measure => simp [intOf]; omega
    · have hjl : ¬ ((j : Int) < (m : Int)) := by omega
      have P8 := Lib.hid (rn_lost (off := 0) R.out false (by decide) WN.out (loS_lost han))
      go_wp2_with fail
      (with_reducible refine P8.out.mono ?_)
      rintro e6 w6 ⟨rfl, r6, m6⟩
      have R6 := Lib.hid r6
      clear r6 m6 P8 R
      rcases Nat.eq_zero_or_pos a with h0 | h0
      · subst h0
        by_cases hn0 : 0 < n
        · have P9 := Lib.hid (rn_none (allow := -5) R6.out WN.out (by decide) (allows_none (fun i hi => by rw [loS_in i hi]; simp) hn0 (by rw [loS_end (Nat.zero_le _)]; have := HE.out.2; omega) (by omega) _))
          go_wp2_with fail
          (with_reducible refine P9.out.mono ?_)
          rintro e8 w8 ⟨rfl, r9, m9⟩
          have R9 := Lib.hid r9
          have AW := Lib.hid (awake_any w8 r9.G)
          have T9 : Hid (Calls Tryd.prog 21 #[.pointer (some ⟨g, 0, none⟩)] w8 fun e w' => e = .returned (.int .i64 0) ∧ w8 = w') := rn_sent r9 0 (by rw [loS_zero]; rfl)
          clear r9 P9
          go_wp2_with fail
          (with_reducible refine T9.out.mono ?_)
          rintro e9 w9 ⟨rfl, rfl⟩
          go_wp2_with fail
          (with_reducible refine AW.out.mono ?_)
          rintro e14 w14 ⟨rfl, b14⟩
          go_wp2_with fail
          go_ret
          exact ⟨rfl, R9.out.b.trans (b14.mono R9.out.b.size)⟩
        · have HZ : Hid (n = 0) := by show _ = _; omega
          rcases Nat.eq_zero_or_pos ev with h1 | h1
          · subst h1
            have P9 := Lib.hid (rn_some (f := 0) (t := 0) (b := true) (allow := -5) (s' := landV n (loS n 0 0) 1 (some (0, 0, true))) R6.out WN.out (by decide) (by
              have hz := HZ.out
              rw [next_end_new (fun j hj => absurd hj (by omega)) (fun j hj => absurd hj (by omega)) (loS_end (Nat.zero_le _)), hz]) (fun _ _ => rfl))
            go_wp2_with fail
            (with_reducible refine P9.out.mono ?_)
            rintro e8 w8 ⟨A4, c4, rfl, o5, q5, _, _, r9, m9⟩
            have R9 := Lib.hid r9
            have AW := Lib.hid (awake_any w8 r9.G)
            have T9 : Hid (Calls Tryd.prog 21 #[.pointer (some ⟨g, 0, none⟩)] w8 fun e w' => e = .returned (.int .i64 0) ∧ w8 = w') := rn_sent r9 0 (by rw [loS_again (Nat.zero_le _)]; rfl)
            clear r9 P9
            go_wp2_with fail
            (with_reducible refine T9.out.mono ?_)
            rintro e9 w9 ⟨rfl, rfl⟩
            go_wp2_with fail
            (with_reducible refine AW.out.mono ?_)
            rintro e14 w14 ⟨rfl, b14⟩
            go_wp2_with fail
            go_ret
            exact ⟨rfl, R9.out.b.trans (b14.mono R9.out.b.size)⟩
          · have P9 := Lib.hid (rn_none (allow := -5) R6.out WN.out (by decide) (next_none (fun j hj => by
              obtain rfl : j = n := by have := HZ.out; omega
              rw [loS_end (Nat.zero_le _)]; have := HE.out.2; omega) (fun j hj => by
              obtain rfl : j = n := by have := HZ.out; omega
              rw [loS_end (Nat.zero_le _)]; omega)))
            go_wp2_with fail
            (with_reducible refine P9.out.mono ?_)
            rintro e8 w8 ⟨rfl, r9, m9⟩
            have R9 := Lib.hid r9
            have AW := Lib.hid (awake_any w8 r9.G)
            have T9 : Hid (Calls Tryd.prog 21 #[.pointer (some ⟨g, 0, none⟩)] w8 fun e w' => e = .returned (.int .i64 0) ∧ w8 = w') := rn_sent r9 0 (by rw [loS_zero]; rfl)
            clear r9 P9
            go_wp2_with fail
            (with_reducible refine T9.out.mono ?_)
            rintro e9 w9 ⟨rfl, rfl⟩
            go_wp2_with fail
            (with_reducible refine AW.out.mono ?_)
            rintro e14 w14 ⟨rfl, b14⟩
            go_wp2_with fail
            go_ret
            exact ⟨rfl, R9.out.b.trans (b14.mono R9.out.b.size)⟩
      · obtain ⟨b, hpn⟩ := allows_again (s := loS n a ev) (allow := -5) (fun i hi => loS_in i hi) h0 han
        have P9 : Hid (Calls Tryd.prog 13 #[.pointer (some ⟨g, 0, none⟩), .int .i64 (n : Int), .int .i64 (-5)] w6
            fun e w' => ∃ A1 c1, e = .returned (.tuple #[.int .i64 0, .slice A1 a c1, .bool b, .bool true]) ∧ Own w' w6.heap.size (.slice A1 a c1) a (D.take a) ∧ (a ≤ c1 ∧ c1 ≤ maxLen) ∧ 0 ≤ a ∧ a ≤ n ∧ Rn w w' B g n D (landV n (loS n a ev) 1 (some (0, a, b))) ∧ Mv B (g + 1) w6 w') :=
          rn_some (f := 0) (t := a) R6.out WN.out (by decide) hpn (fun _ _ => rfl)
        have hcut : ∀ u : World, (Instr.slice 22 (.slice A n c) none (some (.int .i64 (a : Int))) none).run Tryd.prog u = .ok (.slice (if c = 0 then A else A.map (·.add 0)) a c) u := fun u => run_cut_to u A n c a (by have := C2.out; omega)
        obtain ⟨A6, hA6⟩ : ∃ A6, (if c = 0 then A else A.map (·.add 0)) = A6 := ⟨_, rfl⟩
        have SD : Hid (∀ u, Below w.heap.size w u → Sl u B0 A6 a (D.take a)) := fun u hu => by
          rw [← hA6]
          have := ((DS.out.below (hu.mono HB.out)).drop (k := 0) (c := c) (Nat.zero_le _) C2.out.1).take (k := a) (by omega)
          simpa using this
        rw [hA6] at hcut
        have ha0 : ((a : Int) == 0) = false := by simp; omega
        clear hA6 hpn
        go_wp2_with fail
        (with_reducible refine P9.out.mono ?_)
        rintro e8 w8 ⟨A4, c4, rfl, o5, q5, _, _, r9, m9⟩
        have S9 := Lib.hid (same_yes _ _ rfl A4 A6 a a c4 c _ _ w8 o5.sl (SD.out w8 r9.b) (by have := q5; omega))
        have R9' : Hid (∀ j, Rn w (w8.drewN j) B g n D (landV n (loS n a ev) 1 (some (0, a, b)))) := fun j => r9.drewN j
        clear o5 q5 r9 m9 P9 SD
        go_wp2_with fail
        (with_reducible refine S9.out.mono ?_)
        rintro e10 w10 ⟨rfl, j10, rfl⟩
        have R9 := Lib.hid (R9'.out j10)
        have AW := Lib.hid (awake_any _ R9.out.G)
        have T9 := Lib.hid (rn_sent R9.out (a : Int) (by rw [loS_again han]))
        go_wp2_with fail
        (with_reducible refine T9.out.mono ?_)
        rintro e9 w9 ⟨rfl, rfl⟩
        go_wp2_with fail
        (with_reducible refine AW.out.mono ?_)
        rintro e14 w14 ⟨rfl, b14⟩
        go_wp2_with fail
        go_ret
        exact ⟨rfl, R9.out.b.trans (b14.mono R9.out.b.size)⟩
end Go.Proofs.YtkodjajhlcbmkaaDoor
