/-
  The law IncomeAny: however bytes are parted, they are read as they are.
-/
import Derived.Test.YtocolaccgoochaaDoorInI
import Derived.Test.YtocolaccgoochaaDoorLow
import Derived.Test.YtocolaccgoochaaDoorIv
import Derived.LoopTactic
namespace Go.Proofs.YtocolaccgoochaaDoor
open Go.RowKit Go.Lib
set_option linter.unusedVariables false

theorem any_long (A : Option Addr) (n c : Nat) (A1 : Option Addr) (m c1 : Nat) (a2 : Int) (bk : Bool) (w : World) (hG : Glob w) (hn : 200 < n ∨ 12 < m) (hm : n ≤ maxLen) (hm1 : m ≤ maxLen) : Calls Tryd.prog 4 #[.slice A n c, .slice A1 m c1, .int .i64 a2, .bool bk] w fun e w' => e = .returned (.bool true) ∧ Below w.heap.size w w' := by
  have AW := Lib.hid (awake_any w hG)
  clear hG
  by_cases h1 : 200 < n
  · have d1 : (200 : Int) < (n : Int) := by omega
    clear hn hm hm1
    go_enter Tryd.func4, Tryd.ntmps4
    go_wp2_with fail
    (with_reducible refine AW.out.mono ?_)
    rintro e1 w1 ⟨rfl, b1⟩
    go_wp2_with fail
    go_ret
    exact ⟨rfl, b1⟩
  · have d1 : ¬ ((200 : Int) < (n : Int)) := by omega
    have d2 : (12 : Int) < (m : Int) := by omega
    clear hn hm hm1
    go_enter Tryd.func4, Tryd.ntmps4
    go_wp2_with fail
    (with_reducible refine AW.out.mono ?_)
    rintro e1 w1 ⟨rfl, b1⟩
    go_wp2_with fail
    go_ret
    exact ⟨rfl, b1⟩
/-- some of D came, nothing is read; the end, but at the very beginning -/
structure Part (D : List UInt8) (z : Bool) (s : InS) : Prop where
  c : Cons D s
  rd : s.rd = 0
  en : z = true → s.en = some D.length
theorem Part.start (D : List UInt8) : Part D false InS.new := ⟨cons_new D, rfl, fun h => by cases h⟩
theorem Part.weak {D : List UInt8} {z : Bool} {s : InS} (h : Part D z s) (y : Bool) (hy : y = true → z = true) : Part D y s := ⟨h.c, h.rd, fun e => h.en (hy e)⟩
theorem Part.tail {D : List UInt8} {z : Bool} {s : InS} (h : Part D z s) {f : Nat} (hf : f ≤ D.length) : ¬ clashV s f ((D.drop f).take (D.length - f)) true ∧ Part D true (putS s f ((D.drop f).take (D.length - f)) true) := by
  have hl : ((D.drop f).take (D.length - f)).length = D.length - f := by simp
  obtain ⟨h1, h2⟩ := cons_put (d := (D.drop f).take (D.length - f)) (o := f) (e := true) h.c (fun k hk => by
    rw [hl] at hk
    have h1 : f + k < D.length := by omega
    simp [List.getD_eq_getElem?_getD, hk, h1]) (by omega) (fun _ => by omega)
  exact ⟨h1, h2, h.rd, fun _ => by rw [put_en, if_pos rfl, hl]; congr 1; omega⟩
theorem Part.full {D : List UInt8} {s : InS} (h : Part D true s) : ¬ clashV s 0 D false ∧ Full D (putS s 0 D false) ∧ (putS s 0 D false).rd = 0 := by
  obtain ⟨h1, h2⟩ := cons_put (d := D) (o := 0) (e := false) h.c (fun k _ => by rw [Nat.zero_add]) (by omega) (fun h => by cases h)
  exact ⟨h1, ⟨h2, fun i hi => put_has (.inr ⟨by omega, by omega⟩), by rw [put_en]; simpa using h.en rfl⟩, h.rd⟩
set_option maxRecDepth 8000 in
set_option maxHeartbeats 8000000 in
theorem any_any {A A1 : Option Addr} {n c m c1 B1 : Nat} {D : List UInt8} {L : List Int} {w : World} (h : Sl w w.heap.size A n D) (hnc : n ≤ c) (hcm : c ≤ maxLen) (hn : n ≤ 200) (h1 : SlI w B1 A1 m L) (hB1 : B1 ≤ w.heap.size) (hm : m ≤ 12) (a2 : Int) (bk : Bool) (hG : Glob w) :
    Calls Tryd.prog 4 #[.slice A n c, .slice A1 m c1, .int .i64 a2, .bool bk] w fun e w' => e = .returned (.bool true) ∧ Below w.heap.size w w' := by
  obtain ⟨M, hM⟩ : ∃ M, m + 1 = M := ⟨_, rfl⟩
  have eM : (m : Int) + 1 = (M : Int) := by omega
  obtain ⟨tt, htt, HLw⟩ := low_nat a2 M (by omega) (by omega)
  have hl := h.len
  have HN := Lib.hid (rn_new hG (Below.refl w.heap.size w) hG.pos (z := 200) 200 rfl (by omega))
  have HL := Lib.hid HLw
  have DS := Lib.hid h
  have LS := Lib.hid h1
  have d1 : ¬ ((200 : Int) < (n : Int)) := by omega
  have d2 : ¬ ((12 : Int) < (m : Int)) := by omega
  have b1 : (n : Int) ≤ 200 := by omega
  have b2 : (M : Int) ≤ 13 := by omega
  have b3 : (tt : Int) ≤ 13 := by omega
  have hAo : Hid (0 < n → ∀ a, A = some a → a.block < w.heap.size) := fun h0 a ha => by
    obtain ⟨b, off, e, hb, _⟩ := h.2 h0
    rw [e] at ha
    cases ha
    exact hb
  have HLn := Lib.hid hl
  have HNC := Lib.hid hnc
  have HB1 := Lib.hid hB1
  have HTT := Lib.hid htt
  have HMm := Lib.hid hM
  clear h hG HLw hl hnc hcm h1 hB1 htt hM
  go_enter Tryd.func4, Tryd.ntmps4
  go_wp2_with fail
  (with_reducible refine (HN.out).mono ?_)
  rintro e1 w1 ⟨F1, g, rfl, R1, hb1, hF1⟩
  have HR1 := Lib.hid R1
  clear R1 hb1 hF1
  go_wp2_with fail
  go_loopw [11] (fun r wr => ∃ (R N : Nat) (F : Nat → Prop) (s : InS), r = .int .i64 (R : Int) ∧ R ≤ 2 ∧ Hid (N ≤ R * 2600) ∧ Hid (Rn w wr F g 200 N s) ∧ Hid (Part D (decide (0 < R)) s)) (fun r _ => 2 - (intOf r).toNat)
  case atStart => exact ⟨0, 0, F1, InS.new, rfl, by omega, by show _ ≤ _; omega, HR1, Part.start D⟩
  case round =>
    obtain ⟨R, N, F, s, rfl, hR, HNN, HRn, HPt⟩ := hrel
    by_cases hlt : R < 2
    · have hRl : (R : Int) < 2 := by omega
      go_wp2_with fail
      go_loopw [12] (fun k wr' => ∃ (K N : Nat) (F : Nat → Prop) (s : InS), k = .int .i64 (K : Int) ∧ K ≤ M ∧ Hid (N ≤ R * 2600 + K * 200) ∧ Hid (Rn w wr' F g 200 N s) ∧ Hid (Part D (decide (0 < R + K)) s)) (fun k _ => M - (intOf k).toNat)
      case atStart => exact ⟨0, N, F, s, rfl, by omega, by have := HNN.out; show _ ≤ _; omega, HRn, HPt⟩
      case round =>
        clear HNN HRn HPt
        obtain ⟨K, N', F', s', rfl, hK, HNN, HRn, HPt⟩ := hrel
        by_cases hk : K < M
        · have hkl : (K : Int) < (M : Int) := by omega
          obtain ⟨kt, hkt⟩ : ∃ kt, K + tt = kt := ⟨_, rfl⟩
          have ekt : (K : Int) + (tt : Int) = (kt : Int) := by omega
          obtain ⟨q, hq⟩ : ∃ q, kt % M = q := ⟨_, rfl⟩
          have hqM : q < M := by rw [← hq]; exact Nat.mod_lt _ (by omega)
          have eq1 : (kt : Int) % (M : Int) = (q : Int) := by rw [← hq]; simp
          have eq2 : Int.tmod (kt : Int) (M : Int) = (q : Int) := by rw [← hq]; rfl
          have hM0 : ¬ ((M : Int) = 0) := by omega
          have hM1 : ((M : Int) == 0) = false := by simp; omega
          have hktb : (kt : Int) ≤ 26 := by omega
          clear hkt hq
          go_wp2_with fail
          (with_reducible refine (HL.out _).mono ?_)
          rintro e3 w3 ⟨rfl, rfl⟩
          have hpz := HPt.out.tail (f := 0) (Nat.zero_le _)
          rw [List.drop_zero, Nat.sub_zero, List.take_length] at hpz
          have HPZ2 : Hid (Part D (decide (0 < R + (K + 1))) (putS s' 0 D true)) := hpz.2.weak _ (fun _ => rfl)
          have HPZ := Lib.hid (rn_put_ok HRn.out (off := 0) (c := c) (e := true) 0 rfl ((DS.out.below HRn.out.b).more HRn.out.size) (fun h0 a ha => HRn.out.off (.inl (hAo.out h0 a ha))) HNC.out (by have := HNN.out; omega) (by omega) (by have := HLn.out; omega) hpz.1)
          clear hpz
          cases bk with
          | false =>
            obtain ⟨jj, hjj⟩ : ∃ jj, q = jj := ⟨_, rfl⟩
            have hjM : jj < M := by omega
            rw [hjj] at eq1 eq2
            clear hjj hqM
            by_cases hj0 : jj = 0
            · have hjl : ¬ ((0 : Int) < (jj : Int)) := by omega
              clear hjM
              go_wp2_with fail
              (with_reducible refine (HPZ.out).mono ?_)
              rintro e4 w4 ⟨F4, rfl, R4, A4⟩
              have HR4 := Lib.hid R4
              clear R4 A4
              go_wp2_with fail
              go_roundw
              case rel => exact ⟨K + 1, N' + n, F4, _, by go_num, by omega, by have := HNN.out; show _ ≤ _; omega, HR4.out, HPZ2.out⟩
              case measure => simp [intOf]; omega
            · have hjl : (0 : Int) < (jj : Int) := by omega
              obtain ⟨j1, hj1⟩ : ∃ j1, jj - 1 = j1 := ⟨_, rfl⟩
              have ej1 : (jj : Int) - 1 = (j1 : Int) := by omega
              have hj1m : (j1 : Int) < (m : Int) := by have := HMm.out; omega
              obtain ⟨g1, off1, rfl, hg1, hcl⟩ := (LS.out.below (HRn.out.b.mono HB1.out) (Nat.le_refl _)).at_ (j := j1) (by omega)
              obtain ⟨zz, hzz⟩ : ∃ zz, L.getD j1 0 = zz := ⟨_, rfl⟩
              rw [hzz] at hcl
              obtain ⟨n1, hn1⟩ : ∃ n1, n + 1 = n1 := ⟨_, rfl⟩
              have en1 : (n : Int) + 1 = (n1 : Int) := by omega
              obtain ⟨f, hf, hlf⟩ := low_nat zz n1 (by omega) (by omega)
              have HLf := Lib.hid hlf
              have hfn : f ≤ n := by omega
              have hfb : (f : Int) ≤ (n : Int) := by omega
              obtain ⟨A', hsl, hsx, hsy⟩ := sl_piece_at A (a := f) (b := n) (n := n) (c := c) hfn (Nat.le_refl _) HNC.out
              have hpt := HPt.out.tail (f := f) (by rw [HLn.out]; exact hfn)
              rw [HLn.out] at hpt
              have HPT2 : Hid (Part D (decide (0 < R + (K + 1))) (putS s' f ((D.drop f).take (n - f)) true)) := hpt.2.weak _ (fun _ => rfl)
              have HPT := Lib.hid (rn_put_ok HRn.out (off := (f : Int)) (c := c - f) (e := true) f rfl (hsx _ _ _ ((DS.out.below HRn.out.b).more HRn.out.size)) (fun h0 x hx => by
                obtain ⟨y, hy, hxy⟩ := hsy x hx
                rw [hxy]
                exact HRn.out.off (.inl (hAo.out (by omega) y hy))) (by have := HNC.out; omega) (by have := HNN.out; omega) (by omega) (by simp; have := HLn.out; omega) hpt.1)
              clear hlf hsx hsy hpt hj1 hzz hn1 hf hjM hj0
              go_wp2_with fail
              (with_reducible refine (HLf.out _).mono ?_)
              rintro e4' w4' ⟨rfl, rfl⟩
              go_wp2_with fail
              (with_reducible refine (HPT.out).mono ?_)
              rintro e4 w4 ⟨F4, rfl, R4, A4⟩
              have HR4 := Lib.hid R4
              clear R4 A4
              go_wp2_with fail
              go_roundw
              case rel => exact ⟨K + 1, N' + (n - f), F4, _, by go_num, by omega, by have := HNN.out; show _ ≤ _; omega, HR4.out, HPT2.out⟩
              case measure => simp [intOf]; omega
          | true =>
            obtain ⟨jj, hjj⟩ : ∃ jj, M - 1 - q = jj := ⟨_, rfl⟩
            have hjM : jj < M := by omega
            have ejj : (M : Int) - 1 - (q : Int) = (jj : Int) := by omega
            clear hjj
            by_cases hj0 : jj = 0
            · have hjl : ¬ ((0 : Int) < (jj : Int)) := by omega
              clear hjM
              go_wp2_with fail
              (with_reducible refine (HPZ.out).mono ?_)
              rintro e4 w4 ⟨F4, rfl, R4, A4⟩
              have HR4 := Lib.hid R4
              clear R4 A4
              go_wp2_with fail
              go_roundw
              case rel => exact ⟨K + 1, N' + n, F4, _, by go_num, by omega, by have := HNN.out; show _ ≤ _; omega, HR4.out, HPZ2.out⟩
              case measure => simp [intOf]; omega
            · have hjl : (0 : Int) < (jj : Int) := by omega
              obtain ⟨j1, hj1⟩ : ∃ j1, jj - 1 = j1 := ⟨_, rfl⟩
              have ej1 : (jj : Int) - 1 = (j1 : Int) := by omega
              have hj1m : (j1 : Int) < (m : Int) := by have := HMm.out; omega
              obtain ⟨g1, off1, rfl, hg1, hcl⟩ := (LS.out.below (HRn.out.b.mono HB1.out) (Nat.le_refl _)).at_ (j := j1) (by omega)
              obtain ⟨zz, hzz⟩ : ∃ zz, L.getD j1 0 = zz := ⟨_, rfl⟩
              rw [hzz] at hcl
              obtain ⟨n1, hn1⟩ : ∃ n1, n + 1 = n1 := ⟨_, rfl⟩
              have en1 : (n : Int) + 1 = (n1 : Int) := by omega
              obtain ⟨f, hf, hlf⟩ := low_nat zz n1 (by omega) (by omega)
              have HLf := Lib.hid hlf
              have hfn : f ≤ n := by omega
              have hfb : (f : Int) ≤ (n : Int) := by omega
              obtain ⟨A', hsl, hsx, hsy⟩ := sl_piece_at A (a := f) (b := n) (n := n) (c := c) hfn (Nat.le_refl _) HNC.out
              have hpt := HPt.out.tail (f := f) (by rw [HLn.out]; exact hfn)
              rw [HLn.out] at hpt
              have HPT2 : Hid (Part D (decide (0 < R + (K + 1))) (putS s' f ((D.drop f).take (n - f)) true)) := hpt.2.weak _ (fun _ => rfl)
              have HPT := Lib.hid (rn_put_ok HRn.out (off := (f : Int)) (c := c - f) (e := true) f rfl (hsx _ _ _ ((DS.out.below HRn.out.b).more HRn.out.size)) (fun h0 x hx => by
                obtain ⟨y, hy, hxy⟩ := hsy x hx
                rw [hxy]
                exact HRn.out.off (.inl (hAo.out (by omega) y hy))) (by have := HNC.out; omega) (by have := HNN.out; omega) (by omega) (by simp; have := HLn.out; omega) hpt.1)
              clear hlf hsx hsy hpt hj1 hzz hn1 hf hjM hj0
              go_wp2_with fail
              (with_reducible refine (HLf.out _).mono ?_)
              rintro e4' w4' ⟨rfl, rfl⟩
              go_wp2_with fail
              (with_reducible refine (HPT.out).mono ?_)
              rintro e4 w4 ⟨F4, rfl, R4, A4⟩
              have HR4 := Lib.hid R4
              clear R4 A4
              go_wp2_with fail
              go_roundw
              case rel => exact ⟨K + 1, N' + (n - f), F4, _, by go_num, by omega, by have := HNN.out; show _ ≤ _; omega, HR4.out, HPT2.out⟩
              case measure => simp [intOf]; omega
        · have hkl : ¬ ((K : Int) < (M : Int)) := by omega
          have HPt3 : Hid (Part D (decide (0 < R + 1)) s') := HPt.out.weak _ (fun _ => by simp; omega)
          have HNN3 : Hid (N' ≤ (R + 1) * 2600) := by have := HNN.out; show _ ≤ _; omega
          clear HPt HNN
          go_wp2_with fail
          go_roundw
          case rel => exact ⟨R + 1, N', F', s', by go_num, by omega, HNN3, HRn, HPt3⟩
          case measure => simp [intOf]; omega
    · have hRl : ¬ ((R : Int) < 2) := by omega
      have hMp : (0 : Int) < (M : Int) := by omega
      obtain ⟨n1, hn1⟩ : ∃ n1, n + 1 = n1 := ⟨_, rfl⟩
      have en1 : (n : Int) + 1 = (n1 : Int) := by omega
      have HN1 := Lib.hid hn1
      have hp2 : Part D true s := HPt.out.weak true (fun _ => by simp; omega)
      obtain ⟨hno, hful, hrd0⟩ := hp2.full
      have HPZ := Lib.hid (rn_put_ok HRn.out (off := 0) (c := c) (e := false) 0 rfl ((DS.out.below HRn.out.b).more HRn.out.size) (fun h0 a ha => HRn.out.off (.inl (hAo.out h0 a ha))) HNC.out (by have := HNN.out; omega) (by omega) (by have := HLn.out; omega) hno)
      obtain ⟨s1, hs1⟩ : ∃ s1, putS s 0 D false = s1 := ⟨_, rfl⟩
      rw [hs1] at HPZ hful hrd0
      have FL1 := Lib.hid hful
      have RD1 := Lib.hid hrd0
      clear hp2 hno hful hrd0 hs1 hn1 HPt HNN HRn
      go_wp2_with fail
      (with_reducible refine (HPZ.out).mono ?_)
      rintro e4 w4 ⟨F4, rfl, R4, A4⟩
      have HR4 := Lib.hid R4
      have hw := whole_any R4.i
      rw [FL1.out.whole R4.ok] at hw
      have HW := Lib.hid hw
      clear R4 A4 hw HPZ
      go_wp2_with fail
      (with_reducible refine (HW.out).mono ?_)
      rintro e5 w5' ⟨rfl, k5, rfl⟩
      have R5 := HR4.out.drewN k5
      have hrd := rn_read R5 (n1 : Int)
      have hni : readN s1 (n1 : Int) = n := by rw [FL1.out.readN R5.ok n1 rfl, RD1.out, HLn.out]; have := HN1.out; omega
      have hby : bytesV s1 n = D := by
        rw [FL1.out.bytes R5.ok (m := n) (by rw [RD1.out, HLn.out]; omega), RD1.out, List.drop_zero, List.take_of_length_le (by rw [HLn.out]; exact Nat.le_refl _)]
      rw [hni, hby] at hrd
      have HRD := Lib.hid hrd
      have FL2 := Lib.hid (FL1.out.read (n1 : Int))
      have RD2 : Hid ((readS s1 (n1 : Int)).rd = n) := by show s1.rd + readN s1 (n1 : Int) = n; rw [hni, RD1.out]; omega
      obtain ⟨s2, hs2⟩ : ∃ s2, readS s1 (n1 : Int) = s2 := ⟨_, rfl⟩
      rw [hs2] at HRD FL2 RD2
      clear R5 hrd hni hby hs2
      go_wp2_with fail
      (with_reducible refine (HRD.out).mono ?_)
      rintro e6 w6 ⟨A6, c6, rfl, ho6, hc6, hm6, R6, hO6⟩
      have HSM := Lib.hid (same_yes D D rfl A6 A n n c6 c _ _ w6 ho6.sl (DS.out.below R6.b) (by simp only [maxLen]; omega))
      have HR6 := Lib.hid R6
      clear ho6 hc6 hm6 R6 hO6
      go_wp2_with fail
      (with_reducible refine (HSM.out).mono ?_)
      rintro e7 w7 ⟨rfl, k7, rfl⟩
      have hEn := ended_any (HR6.out.drewN k7).i
      rw [FL2.out.ended (by rw [RD2.out, HLn.out])] at hEn
      have HEn := Lib.hid hEn
      clear hEn
      go_wp2_with fail
      (with_reducible refine (HEn.out).mono ?_)
      rintro e8 w8 ⟨rfl, k8, rfl⟩
      have hHi := highest_any (HR6.out.drewN (k7 + k8)).i
      rw [FL2.out.high HR6.out.ok, HLn.out] at hHi
      have HHi := Lib.hid hHi
      clear hHi
      go_wp2_with fail
      (with_reducible refine (HHi.out).mono ?_)
      rintro e9 w9 ⟨rfl, k9, rfl⟩
      have HAW := Lib.hid (awake_any _ (HR6.out.drewN (k7 + k8 + k9)).G)
      have HBB := Lib.hid (HR6.out.drewN (k7 + k8 + k9)).b
      go_wp2_with fail
      (with_reducible refine (HAW.out).mono ?_)
      rintro e15 w15 ⟨rfl, b15⟩
      have HB15 : Hid (Below w.heap.size w w15) := HBB.out.trans (b15.mono HBB.out.size)
      clear b15
      go_wp2_with fail
      go_ret
      exact ⟨rfl, HB15.out⟩
end Go.Proofs.YtocolaccgoochaaDoor
