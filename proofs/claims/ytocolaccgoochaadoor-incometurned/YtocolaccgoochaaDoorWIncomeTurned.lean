/-
  The law IncomeTurned: in whatever order pieces come, and however often, what is read is what they are of.
-/
import Derived.Test.YtocolaccgoochaaDoorInI
import Derived.Test.YtocolaccgoochaaDoorLow
import Derived.LoopTactic
namespace Go.Proofs.YtocolaccgoochaaDoor
open Go.RowKit Go.Lib
set_option linter.unusedVariables false

theorem turned_long (A : Option Addr) (n c : Nat) (a1 a2 a3 : Int) (w : World) (hG : Glob w) (hn : 120 < n) (hm : n ≤ maxLen) : Calls Tryd.prog 6 #[.slice A n c, .int .i64 a1, .int .i64 a2, .int .i64 a3] w fun e w' => e = .returned (.bool true) ∧ Below w.heap.size w w' := by
  have AW := Lib.hid (awake_any w hG)
  have d1 : (120 : Int) < (n : Int) := by omega
  clear hG hn hm
  go_enter Tryd.func6, Tryd.ntmps6
  go_wp2_with fail
  (with_reducible refine AW.out.mono ?_)
  rintro e1 w1 ⟨rfl, b1⟩
  go_wp2_with fail
  go_ret
  exact ⟨rfl, b1⟩
/-- pieces of D came; those from place x on did -/
structure Came (D : List UInt8) (x : Nat) (s : InS) : Prop where
  c : Cons D s
  rd : s.rd = 0
  all : ∀ i, i < D.length → x ≤ i → s.p i ≠ none
theorem Came.start {D : List UInt8} {x : Nat} (h : D.length ≤ x) : Came D x InS.new := ⟨cons_new D, rfl, fun i h1 h2 => absurd h1 (by omega)⟩
theorem Came.piece {D : List UInt8} {x y o t : Nat} {z : Bool} {s : InS} (h : Came D x s) (h1 : o ≤ t) (h2 : t ≤ D.length) (hz : z = true → t = D.length) (hy : ∀ i, i < D.length → y ≤ i → x ≤ i ∨ (o ≤ i ∧ i < t)) :
    ¬ clashV s o ((D.drop o).take (t - o)) z ∧ Came D y (putS s o ((D.drop o).take (t - o)) z) := by
  have hl : ((D.drop o).take (t - o)).length = t - o := by simp; omega
  obtain ⟨h3, h4⟩ := cons_put (d := (D.drop o).take (t - o)) (o := o) (e := z) h.c (fun k hk => by
    rw [hl] at hk
    have h1 : o + k < D.length := by omega
    simp [List.getD_eq_getElem?_getD, hk, h1]) (by omega) (fun e => by have := hz e; omega)
  refine ⟨h3, h4, h.rd, fun i hi hyi => put_has ?_⟩
  rcases hy i hi hyi with hh | hh
  · exact .inl (h.all i hi hh)
  · exact .inr ⟨hh.1, by omega⟩
theorem Came.full {D : List UInt8} {s : InS} (h : Came D 0 s) : ¬ clashV s D.length [] true ∧ Full D (putS s D.length [] true) ∧ (putS s D.length [] true).rd = 0 := by
  obtain ⟨h1, h2⟩ := cons_put (d := []) (o := D.length) (e := true) h.c (fun k hk => absurd hk (Nat.not_lt_zero k)) (by simp) (fun _ => by simp)
  exact ⟨h1, ⟨h2, fun i hi => put_has (.inl (h.all i hi (Nat.zero_le _))), by rw [put_en]; simp⟩, h.rd⟩
theorem came_none {K M mm lg n i : Nat} (h1 : K < M) (h2 : 2 * M = mm) (h3 : n ≤ M * lg) (hy : (mm - (K + 1)) * lg ≤ i) : ¬ i < n := by
  have h4 : M * lg ≤ (mm - (K + 1)) * lg := Nat.mul_le_mul_right _ (by omega)
  omega
theorem came_step {K mm lg n i p pl q1 t : Nat} (h1 : mm - K = p + 1) (h2 : p * lg = pl) (h3 : pl + lg = q1) (h4 : min q1 n = t) (hi : i < n) (hy : (mm - (K + 1)) * lg ≤ i) : (mm - K) * lg ≤ i ∨ (pl ≤ i ∧ i < t) := by
  have h5 : mm - (K + 1) = p := by omega
  rw [h5, h2] at hy
  rw [h1, Nat.add_mul, Nat.one_mul, h2]
  omega
set_option maxRecDepth 8000 in
set_option maxHeartbeats 4000000 in
theorem turned_any {A : Option Addr} {n c : Nat} {D : List UInt8} {w : World} (h : Sl w w.heap.size A n D) (hnc : n ≤ c) (hn : n ≤ 120) (a1 a2 a3 : Int) (hG : Glob w) :
    Calls Tryd.prog 6 #[.slice A n c, .int .i64 a1, .int .i64 a2, .int .i64 a3] w fun e w' => e = .returned (.bool true) ∧ Below w.heap.size w w' := by
  obtain ⟨yl0, hy0l0, hy1l0, HL1⟩ := low_int a1 30 (by omega) (by omega)
  obtain ⟨l0, rfl⟩ : ∃ x : Nat, yl0 = (x : Int) := ⟨yl0.toNat, by omega⟩
  obtain ⟨yr0, hy0r0, hy1r0, HL3⟩ := low_int a3 40 (by omega) (by omega)
  obtain ⟨r0, rfl⟩ : ∃ x : Nat, yr0 = (x : Int) := ⟨yr0.toNat, by omega⟩
  obtain ⟨yT, hy0T, hy1T, HL2⟩ := low_int a2 1000 (by omega) (by omega)
  obtain ⟨T, rfl⟩ : ∃ x : Nat, yT = (x : Int) := ⟨yT.toNat, by omega⟩
  obtain ⟨lg, hlg⟩ : ∃ lg, 1 + l0 = lg := ⟨_, rfl⟩
  obtain ⟨rr, hrr⟩ : ∃ rr, 1 + r0 = rr := ⟨_, rfl⟩
  have elg : (1 : Int) + (l0 : Int) = (lg : Int) := by omega
  have err : (1 : Int) + (r0 : Int) = (rr : Int) := by omega
  have hlgb : (lg : Int) ≤ 30 := by omega
  have hrrb : (rr : Int) ≤ 40 := by omega
  have hTb : (T : Int) < 1000 := by omega
  obtain ⟨x1, hx1⟩ : ∃ x, n + lg = x := ⟨_, rfl⟩
  have ex1 : (n : Int) + (lg : Int) = (x1 : Int) := by omega
  obtain ⟨x2, hx2⟩ : ∃ x, x1 - 1 = x := ⟨_, rfl⟩
  have ex2 : (x1 : Int) - 1 = (x2 : Int) := by omega
  have hx1b : (x1 : Int) ≤ 150 := by omega
  have hx2b : (x2 : Int) ≤ 150 := by omega
  obtain ⟨M, hM⟩ : ∃ M, x2 / lg = M := ⟨_, rfl⟩
  have eM1 : (x2 : Int) / (lg : Int) = (M : Int) := by rw [← hM]; simp
  have eM2 : Int.tdiv (x2 : Int) (lg : Int) = (M : Int) := by rw [← hM]; rfl
  have hlg0 : ¬ ((lg : Int) = 0) := by omega
  have hlg1 : ((lg : Int) == 0) = false := by simp; omega
  have hMb0 : M ≤ 150 := by rw [← hM]; exact Nat.le_trans (Nat.div_le_self _ _) (by omega)
  have hMb : (M : Int) ≤ 150 := by omega
  have hMn : n ≤ M * lg := by
    have h1 := Nat.div_add_mod x2 lg
    have h2 := Nat.mod_lt x2 (show 0 < lg by omega)
    rw [hM, Nat.mul_comm] at h1
    omega
  have hMl : ∀ p, p < M → p * lg < n ∨ n = 0 ∧ False := fun p hp => by
    have h1 : p + 1 ≤ x2 / lg := by omega
    have h2 : (p + 1) * lg ≤ x2 := (Nat.le_div_iff_mul_le (by omega)).1 h1
    rw [Nat.add_mul, Nat.one_mul] at h2
    exact .inl (by omega)
  have hMl' : ∀ p, p < M → p * lg < n := fun p hp => (hMl p hp).resolve_right (fun h => h.2)
  obtain ⟨mx, hmx⟩ : ∃ mx, max M 1 = mx := ⟨_, rfl⟩
  have emx : max (M : Int) 1 = (mx : Int) := by omega
  have hmxb : (mx : Int) ≤ 150 := by omega
  have hmx0 : ¬ ((mx : Int) = 0) := by omega
  have hmx1 : ((mx : Int) == 0) = false := by simp; omega
  obtain ⟨mm, hmm⟩ : ∃ mm, 2 * M = mm := ⟨_, rfl⟩
  have emm : (2 : Int) * (M : Int) = (mm : Int) := by omega
  have hmmb : (mm : Int) ≤ 300 := by omega
  have hl := h.len
  have HN := Lib.hid (rn_new hG (Below.refl w.heap.size w) hG.pos (z := (n : Int)) n rfl (by omega))
  have HL1 := Lib.hid HL1
  have HL2 := Lib.hid HL2
  have HL3 := Lib.hid HL3
  have DS := Lib.hid h
  have d1 : ¬ ((120 : Int) < (n : Int)) := by omega
  have b1 : (n : Int) ≤ 120 := by omega
  have hAo : Hid (0 < n → ∀ a, A = some a → a.block < w.heap.size) := fun h0 a ha => by
    obtain ⟨b, off, e, hb, _⟩ := h.2 h0
    rw [e] at ha
    cases ha
    exact hb
  have HLn := Lib.hid hl
  have HNC := Lib.hid hnc
  have HMn := Lib.hid hMn
  have HMl := Lib.hid hMl'
  have HMM := Lib.hid hmm
  have HMX := Lib.hid hmx
  have HLg : Hid (0 < lg ∧ lg ≤ 30) := by show _ ∧ _; omega
  have HRr : Hid (0 < rr ∧ rr ≤ 40) := by show _ ∧ _; omega
  have HMb := Lib.hid hMb0
  clear h hG hl hnc hMn hMl hMl' hmm hmx hM hx1 hx2 hlg hrr hMb0 hy0l0 hy1l0 hy0r0 hy1r0 hy0T hy1T
  go_enter Tryd.func6, Tryd.ntmps6
  go_wp2_with fail
  (with_reducible refine (HL1.out _).mono ?_)
  rintro e1 w1 ⟨rfl, rfl⟩
  go_wp2_with fail
  (with_reducible refine (HL3.out _).mono ?_)
  rintro e2 w2 ⟨rfl, rfl⟩
  go_wp2_with fail
  (with_reducible refine (HN.out).mono ?_)
  rintro e3 w3 ⟨F1, g, rfl, R1, hb1, hF1⟩
  have HR1 := Lib.hid R1
  clear R1 hb1 hF1
  go_wp2_with fail
  (with_reducible refine (HL2.out _).mono ?_)
  rintro e4 w4 ⟨rfl, rfl⟩
  go_wp2_with fail
  go_loopw [11] (fun k wr => ∃ (K N : Nat) (F : Nat → Prop) (s : InS), k = .int .i64 (K : Int) ∧ K ≤ mm ∧ Hid (N ≤ K * 30) ∧ Hid (Rn w wr F g n N s) ∧ Hid (Came D ((mm - K) * lg) s)) (fun k _ => mm - (intOf k).toNat)
  case atStart =>
    refine ⟨0, 0, F1, InS.new, rfl, by omega, by show _ ≤ _; omega, HR1, Came.start ?_⟩
    have h1 := HMn.out
    have h2 : M * lg ≤ (mm - 0) * lg := Nat.mul_le_mul_right _ (by have := HMM.out; omega)
    have h3 := HLn.out
    omega
  case round =>
    obtain ⟨K, N, F, s, rfl, hK, HNN, HRn, HCa⟩ := hrel
    by_cases hlt : K < mm
    · have hkl : (K : Int) < (mm : Int) := by omega
      obtain ⟨k7, hk7⟩ : ∃ k7, K * 7 = k7 := ⟨_, rfl⟩
      have ek7 : (K : Int) * 7 = (k7 : Int) := by omega
      have hk7b : (k7 : Int) ≤ 2100 := by omega
      obtain ⟨kt, hkt⟩ : ∃ kt, k7 + T = kt := ⟨_, rfl⟩
      have ekt : (k7 : Int) + (T : Int) = (kt : Int) := by omega
      have hktb : (kt : Int) ≤ 3100 := by omega
      obtain ⟨p0, hp0⟩ : ∃ p0, kt % mx = p0 := ⟨_, rfl⟩
      have ep1 : (kt : Int) % (mx : Int) = (p0 : Int) := by rw [← hp0]; simp
      have ep2 : Int.tmod (kt : Int) (mx : Int) = (p0 : Int) := by rw [← hp0]; rfl
      have hp0m : p0 < mx := by rw [← hp0]; exact Nat.mod_lt _ (by omega)
      clear hk7 hkt hp0
      have hMpos : 0 < M := by have := HMM.out; omega
      by_cases hKM : K < M
      · have hge : ¬ ((M : Int) ≤ (K : Int)) := by omega
        obtain ⟨p, hp⟩ : ∃ p, p0 = p := ⟨_, rfl⟩
        rw [hp] at ep1 ep2
        have hpM : p < M := by have := HMX.out; omega
        clear hp
        obtain ⟨pl, hpl⟩ : ∃ pl, p * lg = pl := ⟨_, rfl⟩
        have epl : (p : Int) * (lg : Int) = (pl : Int) := by rw [← hpl]; simp
        have hpln : pl < n := by rw [← hpl]; exact HMl.out p hpM
        have hplb : (pl : Int) < 120 := by omega
        obtain ⟨q1, hq1⟩ : ∃ q1, pl + lg = q1 := ⟨_, rfl⟩
        have eq1 : (pl : Int) + (lg : Int) = (q1 : Int) := by omega
        have hq1b : (q1 : Int) ≤ 150 := by omega
        obtain ⟨t, ht⟩ : ∃ t, min q1 n = t := ⟨_, rfl⟩
        have et : min (q1 : Int) (n : Int) = (t : Int) := by omega
        have htn : t ≤ n := by omega
        have hplt : pl ≤ t := by have := HLg.out; omega
        have htb : (t : Int) ≤ 120 := by omega
        have hbt : (pl : Int) ≤ (t : Int) := by omega
        obtain ⟨z, hz⟩ : ∃ z, decide (t = n) = z := ⟨_, rfl⟩
        have hz1 : ((t : Int) == (n : Int)) = z := by rw [← hz, Bool.eq_iff_iff]; simp; omega
        have hz2 : decide ((t : Int) = (n : Int)) = z := by rw [← hz, decide_eq_decide]; omega
        obtain ⟨A', hsl, hsx, hsy⟩ := sl_piece_at A (a := pl) (b := t) (n := n) (c := c) hplt htn HNC.out
        have hpc := HCa.out.piece (y := (mm - (K + 1)) * lg) (o := pl) (t := t) (z := z) hplt (by rw [HLn.out]; exact htn) (fun e => by rw [← hz] at e; rw [HLn.out]; exact of_decide_eq_true e) (by
          intro i hi hy
          rw [HLn.out] at hi
          exact absurd hi (came_none hKM (HMM.out) (HMn.out) hy))
        have HPC2 := Lib.hid hpc.2
        have hcl := Lib.hid hpc.1
        have HSX : Hid (Sl wr wr.heap.size A' (t - pl) ((D.drop pl).take (t - pl))) := hsx _ _ _ ((DS.out.below HRn.out.b).more HRn.out.size)
        have htl : Hid (t - pl ≤ 30) := by have := HLg.out; show _ ≤ _; omega
        clear hpl hq1 ht hz hsx hsy hpc hpM hp0m
        go_wp2_with ((with_reducible refine wpList_append_bytesG 79 rfl (.const (.slice none 0 0)) (.tmp 78) rfl ?hw wr.heap.size (.slice none 0 0) 0 [] ?hs (Own.nil _ _) wr.heap.size A' (t - pl) (c - pl) ((D.drop pl).take (t - pl)) ?hx HSX.out ?hl (Nat.le_refl _) ?_); (case hw => rfl); (case hs => with_unfolding_all rfl); (case hx => with_unfolding_all rfl); (case hl => omega); intro A2 c2 w2 ho2 hc2 hg2; simp only [Nat.zero_add, List.nil_append] at ho2 hc2)
        have hR2 := HRn.out.grown hg2.out (fun r e => (by cases e))
        have hA2 : 0 < t - pl → ∀ a, A2 = some a → ¬ F a.block := fun _ a ha => HRn.out.off (.inr (ho2.out.blk a ha).1)
        have HP2 := Lib.hid (rn_put_ok hR2 (off := (pl : Int)) (c := c2) (e := z) pl rfl ho2.out.sl hA2 hc2.out.1 (by have := HNN.out; omega) (by omega) (by simp; have := HLn.out; omega) hcl.out)
        clear hR2 hA2 ho2 hc2 hg2
        go_wp2_with fail
        (with_reducible refine (HP2.out).mono ?_)
        rintro e5 w5 ⟨F5, rfl, R5, A5⟩
        have HR5 := Lib.hid R5
        clear R5 A5 HP2
        go_wp2_with fail
        go_roundw
        case rel => exact ⟨K + 1, N + (t - pl), F5, _, by go_num, by omega, by have := HNN.out; have := htl.out; show _ ≤ _; omega, HR5.out, HPC2.out⟩
        case measure => simp [intOf]; omega
      · have hge : ((M : Int) ≤ (K : Int)) := by omega
        obtain ⟨m1, hm1⟩ : ∃ m1, mm - 1 = m1 := ⟨_, rfl⟩
        have em1 : (mm : Int) - 1 = (m1 : Int) := by omega
        have hm1b : (m1 : Int) ≤ 300 := by omega
        obtain ⟨p, hp⟩ : ∃ p, m1 - K = p := ⟨_, rfl⟩
        have ep3 : (m1 : Int) - (K : Int) = (p : Int) := by omega
        have hpM : p < M := by have := HMM.out; omega
        have hpK : mm - K = p + 1 := by omega
        clear hm1 hp
        obtain ⟨pl, hpl⟩ : ∃ pl, p * lg = pl := ⟨_, rfl⟩
        have epl : (p : Int) * (lg : Int) = (pl : Int) := by rw [← hpl]; simp
        have hpln : pl < n := by rw [← hpl]; exact HMl.out p hpM
        have hplb : (pl : Int) < 120 := by omega
        obtain ⟨q1, hq1⟩ : ∃ q1, pl + lg = q1 := ⟨_, rfl⟩
        have eq1 : (pl : Int) + (lg : Int) = (q1 : Int) := by omega
        have hq1b : (q1 : Int) ≤ 150 := by omega
        obtain ⟨t, ht⟩ : ∃ t, min q1 n = t := ⟨_, rfl⟩
        have et : min (q1 : Int) (n : Int) = (t : Int) := by omega
        have htn : t ≤ n := by omega
        have hplt : pl ≤ t := by have := HLg.out; omega
        have htb : (t : Int) ≤ 120 := by omega
        have hbt : (pl : Int) ≤ (t : Int) := by omega
        obtain ⟨z, hz⟩ : ∃ z, decide (t = n) = z := ⟨_, rfl⟩
        have hz1 : ((t : Int) == (n : Int)) = z := by rw [← hz, Bool.eq_iff_iff]; simp; omega
        have hz2 : decide ((t : Int) = (n : Int)) = z := by rw [← hz, decide_eq_decide]; omega
        obtain ⟨A', hsl, hsx, hsy⟩ := sl_piece_at A (a := pl) (b := t) (n := n) (c := c) hplt htn HNC.out
        have hpc := HCa.out.piece (y := (mm - (K + 1)) * lg) (o := pl) (t := t) (z := z) hplt (by rw [HLn.out]; exact htn) (fun e => by rw [← hz] at e; rw [HLn.out]; exact of_decide_eq_true e) (by
          intro i hi hy
          rw [HLn.out] at hi
          rcases came_step hpK hpl hq1 ht hi hy with h | h; exact .inl h; exact .inr h)
        have HPC2 := Lib.hid hpc.2
        have hcl := Lib.hid hpc.1
        have HSX : Hid (Sl wr wr.heap.size A' (t - pl) ((D.drop pl).take (t - pl))) := hsx _ _ _ ((DS.out.below HRn.out.b).more HRn.out.size)
        have htl : Hid (t - pl ≤ 30) := by have := HLg.out; show _ ≤ _; omega
        clear hpl hq1 ht hz hsx hsy hpc hpM hp0m hpK
        go_wp2_with ((with_reducible refine wpList_append_bytesG 79 rfl (.const (.slice none 0 0)) (.tmp 78) rfl ?hw wr.heap.size (.slice none 0 0) 0 [] ?hs (Own.nil _ _) wr.heap.size A' (t - pl) (c - pl) ((D.drop pl).take (t - pl)) ?hx HSX.out ?hl (Nat.le_refl _) ?_); (case hw => rfl); (case hs => with_unfolding_all rfl); (case hx => with_unfolding_all rfl); (case hl => omega); intro A2 c2 w2 ho2 hc2 hg2; simp only [Nat.zero_add, List.nil_append] at ho2 hc2)
        have hR2 := HRn.out.grown hg2.out (fun r e => (by cases e))
        have hA2 : 0 < t - pl → ∀ a, A2 = some a → ¬ F a.block := fun _ a ha => HRn.out.off (.inr (ho2.out.blk a ha).1)
        have HP2 := Lib.hid (rn_put_ok hR2 (off := (pl : Int)) (c := c2) (e := z) pl rfl ho2.out.sl hA2 hc2.out.1 (by have := HNN.out; omega) (by omega) (by simp; have := HLn.out; omega) hcl.out)
        clear hR2 hA2 ho2 hc2 hg2
        go_wp2_with fail
        (with_reducible refine (HP2.out).mono ?_)
        rintro e5 w5 ⟨F5, rfl, R5, A5⟩
        have HR5 := Lib.hid R5
        clear R5 A5 HP2
        go_wp2_with fail
        go_roundw
        case rel => exact ⟨K + 1, N + (t - pl), F5, _, by go_num, by omega, by have := HNN.out; have := htl.out; show _ ≤ _; omega, HR5.out, HPC2.out⟩
        case measure => simp [intOf]; omega
    · have hkl : ¬ ((K : Int) < (mm : Int)) := by omega
      have hc0 : Came D 0 s := by
        have h1 := HCa.out
        rw [show mm - K = 0 by omega, Nat.zero_mul] at h1
        exact h1
      have hful := hc0.full
      rw [HLn.out] at hful
      have HP := Lib.hid (rn_put_ok HRn.out (off := (n : Int)) (c := 0) (e := true) (A := none) (l := []) n rfl Sl.nil (fun _ a ha => by cases ha) (Nat.le_refl _) (by have := HNN.out; omega) (by omega) (by simp) hful.1)
      obtain ⟨s1, hs1⟩ : ∃ s1, putS s n [] true = s1 := ⟨_, rfl⟩
      rw [hs1] at HP hful
      have FL1 := Lib.hid hful.2.1
      have RD1 := Lib.hid hful.2.2
      clear hc0 hful hs1 HCa HRn HNN
      go_wp2_with fail
      (with_reducible refine (HP.out).mono ?_)
      rintro e5 w5 ⟨F5, rfl, R5, A5⟩
      have HR5 := Lib.hid R5
      have hw := whole_any R5.i
      rw [FL1.out.whole R5.ok] at hw
      have HW := Lib.hid hw
      clear R5 A5 hw HP
      go_wp2_with fail
      (with_reducible refine (HW.out).mono ?_)
      rintro e6 w6 ⟨rfl, k6, rfl⟩
      have hr := readable_any (HR5.out.drewN k6).i
      rw [FL1.out.readable HR5.out.ok, RD1.out, HLn.out, Nat.sub_zero] at hr
      have HRe := Lib.hid hr
      clear hr HW
      go_wp2_with fail
      (with_reducible refine (HRe.out).mono ?_)
      rintro e7 w7 ⟨rfl, k7, rfl⟩
      have hh := highest_any (HR5.out.drewN (k6 + k7)).i
      rw [FL1.out.high HR5.out.ok, HLn.out] at hh
      have HHi := Lib.hid hh
      clear hh HRe
      go_wp2_with fail
      (with_reducible refine (HHi.out).mono ?_)
      rintro e8 w8' ⟨rfl, k8, rfl⟩
      obtain ⟨w8, hw8⟩ : ∃ w8, (w5.drewN (k6 + k7)).drewN k8 = w8 := ⟨_, rfl⟩
      rw [hw8]
      have R8 : Rn w w8 F5 g n (N + 0) s1 := by rw [← hw8]; exact (HR5.out.drewN (k6 + k7)).drewN k8
      have HR8 := Lib.hid R8
      clear R8 hw8 HR5 HHi
      go_wp2_with fail
      go_loopw [15, 16] (fun got k wr' => ∃ (K2 x cc : Nat) (AA : Option Addr) (s2 : InS), got = .slice AA x cc ∧ k = .int .i64 (K2 : Int) ∧ K2 ≤ n + 1 ∧ x ≤ n ∧ Hid (Rn w wr' F5 g n (N + 0) s2) ∧ Hid (Full D s2) ∧ Hid (s2.rd = x) ∧ Hid (x = min n (K2 * rr)) ∧ Hid (Own wr' w8.heap.size (.slice AA x cc) x (D.take x)) ∧ Hid (w8.heap.size ≤ wr'.heap.size)) (fun _ k _ => n + 1 - (intOf k).toNat)
      case atStart => exact ⟨0, 0, 0, none, s1, rfl, rfl, by omega, by omega, HR8, FL1, RD1, by show _ = _; omega, Own.nil _ _, Nat.le_refl _⟩
      case round =>
        obtain ⟨K2, x, cc, AA, s2, rfl, rfl, hK2, hxn, HR2, FL2, RD2, HX2, HO2, HS2⟩ := hrel
        by_cases hk2 : K2 ≤ n
        · have hk2l : (K2 : Int) ≤ (n : Int) := by omega
          have hrd := rn_read HR2.out (rr : Int)
          obtain ⟨y, hy⟩ : ∃ y, min rr (n - x) = y := ⟨_, rfl⟩
          have hni : readN s2 (rr : Int) = y := by rw [FL2.out.readN HR2.out.ok rr rfl, RD2.out, HLn.out]; exact hy
          have hby : bytesV s2 y = (D.drop x).take y := by rw [FL2.out.bytes HR2.out.ok (m := y) (by rw [RD2.out, HLn.out]; omega), RD2.out]
          rw [hni, hby] at hrd
          have HRD := Lib.hid hrd
          have FL3 := Lib.hid (FL2.out.read (rr : Int))
          have RD3 : Hid ((readS s2 (rr : Int)).rd = x + y) := by show s2.rd + readN s2 (rr : Int) = x + y; rw [hni, RD2.out]
          have HX3 : Hid (x + y = min n ((K2 + 1) * rr)) := by
            have h1 := HX2.out
            show _ = _
            rw [Nat.add_mul, Nat.one_mul]
            omega
          have hyb : y ≤ 40 ∧ x + y ≤ n := by have := HRr.out; omega
          clear hrd hni hby hy
          have HYB := Lib.hid hyb
          clear hyb
          go_wp2_with fail
          (with_reducible refine (HRD.out).mono ?_)
          rintro e9 w9 ⟨A9, c9, rfl, ho9, hc9, hm9, R9, hO9⟩
          have hg8 : ∀ a, AA = some a → ¬ F5 a.block := fun a ha => HR8.out.off (.inr (HO2.out.blk a ha).1)
          have HO9 : Hid (Own w9 w8.heap.size (.slice AA x cc) x (D.take x)) := HO2.out.onlyA hO9 (fun a ha e => hg8 a ha (by rw [e]; exact HR2.out.fg))
          have HR9 := Lib.hid R9
          have HN9 := Lib.hid ho9
          have HS9 : Hid (w8.heap.size ≤ w9.heap.size) := Nat.le_trans HS2.out hO9.size
          have HG8 := Lib.hid hg8
          have hy40 := HYB.out.1
          have hxy := HYB.out.2
          clear ho9 hc9 hm9 R9 hO9 hg8
          go_wp2_with ((with_reducible refine wpList_append_bytesG 120 rfl (.tmp 116) (.tmp 119) rfl ?hw w8.heap.size (.slice AA x cc) x (D.take x) ?hs HO9.out w9.heap.size A9 y c9 ((D.drop x).take y) ?hx HN9.out.sl ?hl HS9.out ?_); (case hw => rfl); (case hs => with_unfolding_all rfl); (case hx => with_unfolding_all rfl); (case hl => omega); intro AC c10 w10 hoC hcC hgC)
          have hR10 := HR9.out.grown hgC.out (fun r e => by
            cases AA with
            | none => cases e
            | some a =>
              have e' : a.block = r := by injection e
              have h1 := HG8.out a rfl
              have h2 := (HO9.out.blk a rfl).1
              have h3 := HR8.out.size
              rw [← e']
              exact ⟨h1, by omega⟩)
          have HR10 := Lib.hid hR10
          have HOC : Hid (Own w10 w8.heap.size (.slice AC (x + y) c10) (x + y) (D.take (x + y))) := by
            have h1 := hoC.out
            rw [← List.take_add] at h1
            exact h1
          have HS10 : Hid (w8.heap.size ≤ w10.heap.size) := Nat.le_trans HS9.out hgC.out.size
          clear hR10 hoC hcC hgC
          go_roundw
          case rel => exact ⟨K2 + 1, x + y, c10, AC, _, rfl, by go_num, by omega, hxy, HR10.out, FL3.out, RD3.out, HX3.out, HOC.out, HS10.out⟩
          case measure => simp [intOf]; omega
        · have hk2l : ¬ ((K2 : Int) ≤ (n : Int)) := by omega
          have hxe : x = n := by
            have h1 := HX2.out
            have h2 := HRr.out.1
            have h3 : K2 * 1 ≤ K2 * rr := Nat.mul_le_mul_left _ h2
            omega
          have hE : D.take x = D := List.take_of_length_le (by rw [HLn.out]; omega)
          have HSM := Lib.hid (same_yes _ D hE AA A x n cc c _ _ _ HO2.out.sl (DS.out.below HR2.out.b) (by simp only [maxLen]; omega))
          have HXE := Lib.hid hxe
          clear hxe hE
          go_wp2_with fail
          (with_reducible refine (HSM.out).mono ?_)
          rintro e13 w13 ⟨rfl, k13, rfl⟩
          have hEn := ended_any (HR2.out.drewN k13).i
          rw [FL2.out.ended (by rw [RD2.out, HXE.out, HLn.out])] at hEn
          have HEn := Lib.hid hEn
          clear hEn
          go_wp2_with fail
          (with_reducible refine (HEn.out).mono ?_)
          rintro e14 w14 ⟨rfl, k14, rfl⟩
          have HAW := Lib.hid (awake_any _ (HR2.out.drewN (k13 + k14)).G)
          have HBB := Lib.hid (HR2.out.drewN (k13 + k14)).b
          go_wp2_with fail
          (with_reducible refine (HAW.out).mono ?_)
          rintro e15 w15 ⟨rfl, b15⟩
          have HB15 : Hid (Below w.heap.size w w15) := HBB.out.trans (b15.mono HBB.out.size)
          clear b15
          go_wp2_with fail
          go_ret
          exact ⟨rfl, HB15.out⟩
end Go.Proofs.YtocolaccgoochaaDoor
