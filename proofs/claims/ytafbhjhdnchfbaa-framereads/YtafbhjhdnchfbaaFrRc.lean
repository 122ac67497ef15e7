/-
  What an Ack has, by the document: (*Reader).ack.
-/
import Derived.Test.YtafbhjhdnchfbaaFrRa
import Derived.Test.YtafbhjhdnchfbaaFrK
import Derived.Test.YtafbhjhdnchfbaaFrE
import Derived.Test.YtafbhjhdnchfbaaFrW
namespace Go.Proofs.Ytafbhjhdnchfbaa
open Go.RowKit
set_option linter.unusedVariables false

theorem Only.belowC {g C : Nat} {a b : World} (h : Only g a b) (hC : C ≤ g) (hg : g < a.heap.size) : Below C a b :=
  ⟨h.os, h.tape, h.output, h.size, fun k hk => h.block k (by omega) (by omega)⟩
/-- the document's reader and the frame that it fills: two blocks of the caller's, from C on -/
structure RdF (w0 w : World) (B C g gf : Nat) (b : List UInt8) (s : Nat × Nat) (vs : List Value) : Prop where
  r : RdW w B g b s
  f : Rw w gf 26 vs
  b : Below C w0 w
section
variable {w0 w w' : World} {B C g gf : Nat} {b : List UInt8} {s s' : Nat × Nat} {vs : List Value}
theorem RdF.num (h : RdF w0 w B C g gf b s vs) (hC : C ≤ g) (hne : g ≠ gf) (hr : RdW w' B g b s') (ho : Only g w w') : RdF w0 w' B C g gf b s' vs :=
  ⟨hr, h.f.only ho (Ne.symm hne), h.b.trans (ho.belowC hC h.r.lt)⟩
theorem RdF.put (h : RdF w0 w B C g gf b s vs) (hC : C ≤ gf) (hB : B ≤ gf) (hne : g ≠ gf) (i : Nat) (v : Value) : RdF w0 (w.setCell ⟨gf, i, none⟩ v) B C g gf b s (vs.set i v) :=
  ⟨h.r.only ((Only.refl gf w).setCell _ _) hne hB, h.f.put i v, h.b.trans (((Only.refl gf w).setCell _ _).belowC hC h.f.lt)⟩
theorem RdF.drewN (h : RdF w0 w B C g gf b s vs) (k : Nat) : RdF w0 (w.drewN k) B C g gf b s vs := by
  obtain ⟨⟨T, A, n, c, hr, hs, h1⟩, hf, hb⟩ := h
  exact ⟨⟨T, A, n, c, hr.drewN k, hs.drewN k, h1⟩, hf.drewN k, ⟨hb.os, hb.tape, hb.output, hb.size, hb.block⟩⟩
theorem RdF.code (h : RdF w0 w B C g gf b s vs) : w.cell? ⟨g, 2, none⟩ = some (.int .i64 (s.2 : Int)) := by
  obtain ⟨T, A, n, c, hr, _⟩ := h.r
  exact hr.cell 2 _ rfl
theorem RdF.codeF (h : RdF w0 w B C g gf b s vs) : w.frozen? ⟨g, 2, none⟩ = false := by
  obtain ⟨T, A, n, c, hr, _⟩ := h.r
  exact hr.frozen 2
theorem RdF.setE (h : RdF w0 w B C g gf b s vs) (hC : C ≤ g) (hne : g ≠ gf) (q : Nat) : RdF w0 (w.setCell ⟨g, 2, none⟩ (.int .i64 (q : Int))) B C g gf b (s.1, q) vs := by
  have hlt := h.r.lt
  obtain ⟨⟨T, A, n, c, hr, hs, h1, h2, h3, h4⟩, hf, hb⟩ := h
  have hw := (Only.refl g w).setCell 2 (.int .i64 (q : Int))
  refine ⟨⟨T, A, n, c, ?_, hs.only hw h3 hlt, h1, h2, h3, h4⟩, hf.only hw (Ne.symm hne), hb.trans (hw.belowC hC hlt)⟩
  simpa using hr.put 2 (.int .i64 (q : Int))
theorem RdF.alloc (h : RdF w0 w B C g gf b s vs) (hC : C ≤ w.heap.size) (o : Obj) : RdF w0 (w.alloc o) B C g gf b s vs :=
  ⟨h.r.below ((Below.refl _ _).alloc (Nat.le_refl _) o), h.f.alloc o, h.b.alloc hC o⟩
end
theorem RdW.belowB {w w' : World} {B g c : Nat} {b : List UInt8} {s : Nat × Nat} (h : RdW w B g b s) (hb : Below c w w') (hg : g < c) : RdW w' B g b s := by
  obtain ⟨T, A, n, c, hr, hs, h1, h2, h3, h4⟩ := h
  exact ⟨T, A, n, c, hr.belowB hb hg, hs.below ⟨hb.os, hb.tape, hb.output, hb.size, fun k hk => hb.block k (by omega)⟩, h1, h2, h3, h4⟩
set_option maxHeartbeats 4000000 in
set_option maxRecDepth 4000 in
theorem rack_any (b : List UInt8) (s : Nat × Nat) (B C g gf : Nat) (w : World) (hC : C ≤ g) (hCf : C ≤ gf) (hBf : B ≤ gf) (hne : g ≠ gf) (h : RdW w B g b s) (hf : Rw w gf 26 (ackV 0 none 0 0)) :
    Calls Try.prog 51 #[.pointer (some ⟨g, 0, none⟩), .pointer (some ⟨gf, 0, none⟩)] w fun e w' => e = .returned (.tuple #[]) ∧ RdW w' B g b (ackS b s).2 ∧ Below C w w' ∧
      ((ackS b s).2.2 = 0 → ∃ A n c, Rw w' gf 26 (ackV (ackS b s).1.1 A n c) ∧ OwnR w' w.heap.size (.slice A n c) n (ackS b s).1.2) := by
  have K0 : Hid (RdF w w B C g gf b s (ackV 0 none 0 0)) := ⟨h, hf, Below.refl _ _⟩
  have HX : Hid (C ≤ g ∧ C ≤ gf ∧ B ≤ gf ∧ g ≠ gf) := ⟨hC, hCf, hBf, hne⟩
  clear h hf hC hCf hBf hne
  generalize hV : ackS b s = V
  unfold ackS at hV
  have HN := fun (st : Nat × Nat) (K : Int) (m : Nat) (hK : K = (m : Int)) (hm : m < 18446744073709551616) (u : World) (hu : RdW u B g b st) => rnum_any b st K m hK hm B g u hu
  have HN := Lib.hid HN
  obtain ⟨⟨hi, s1⟩, h1⟩ : ∃ v, numS b s maxV = v := ⟨_, rfl⟩
  have hi62 := numS_lt b s maxV
  obtain ⟨⟨dl, s2⟩, h2⟩ : ∃ v, numS b s1 maxV = v := ⟨_, rfl⟩
  obtain ⟨⟨many, s3⟩, h3⟩ : ∃ v, numS b s2 7 = v := ⟨_, rfl⟩
  have hm7 := numS_le b s2 7
  obtain ⟨⟨lg, s4⟩, h4⟩ : ∃ v, numS b s3 hi = v := ⟨_, rfl⟩
  have hl := numS_le b s3 hi
  rw [h1] at hi62
  rw [h3] at hm7
  rw [h4] at hl
  simp only [h1, h2, h3, h4] at hV
  simp only at hi62 hm7 hl
  have HV := Lib.hid hV
  clear hV
  have H1 := Lib.hid h1
  have H2 := Lib.hid h2
  have H3 := Lib.hid h3
  have H4 := Lib.hid h4
  clear h1 h2 h3 h4
  go_enter Try.func51, Try.ntmps51
  go_wp2_with fail
  (with_reducible refine (HN.out s 4611686018427387903 maxV rfl (by unfold maxV; omega) w K0.out.r).mono ?_)
  rw [H1.out]
  rintro e1 w1 ⟨rfl, hr1, ho1⟩
  have K1 := Lib.hid (K0.out.num HX.out.1 HX.out.2.2.2 hr1 ho1)
  clear hr1 ho1
  go_wp2_with fail
  (with_reducible refine (HN.out s1 4611686018427387903 maxV rfl (by unfold maxV; omega) w1 K1.out.r).mono ?_)
  rw [H2.out]
  rintro e2 w2 ⟨rfl, hr2, ho2⟩
  have K2 := Lib.hid (K1.out.num HX.out.1 HX.out.2.2.2 hr2 ho2)
  clear hr2 ho2
  have f2 := K2.out.f.frozen 2
  have c2 : w2.cell? ⟨gf, 2, none⟩ = some (.int .u64 0) := K2.out.f.cell 2 _ rfl
  have K3 : Hid (RdF w (w2.setCell ⟨gf, 2, none⟩ (.int .u64 (dl : Int))) B C g gf b s2 (ackV dl none 0 0)) := K2.out.put HX.out.2.1 HX.out.2.2.1 HX.out.2.2.2 2 _
  go_wp2_with fail
  (with_reducible refine (HN.out s2 7 7 rfl (by omega) _ K3.out.r).mono ?_)
  rw [H3.out]
  rintro e3 w3 ⟨rfl, hr3, ho3⟩
  have K4 := Lib.hid (K3.out.num HX.out.1 HX.out.2.2.2 hr3 ho3)
  clear hr3 ho3 f2 c2
  go_wp2_with fail
  (with_reducible refine (HN.out s3 _ hi rfl (by omega) w3 K4.out.r).mono ?_)
  rw [H4.out]
  rintro e4 w4 ⟨rfl, hr4, ho4⟩
  have K5 := Lib.hid (K4.out.num HX.out.1 HX.out.2.2.2 hr4 ho4)
  clear hr4 ho4
  obtain ⟨p4, q4⟩ := s4
  have c4 : w4.cell? ⟨g, 2, none⟩ = some (.int .i64 (q4 : Int)) := by
    obtain ⟨T, A, n, c, hr, _⟩ := K5.out.r
    exact hr.cell 2 _ rfl
  by_cases hq : q4 = 0
  · subst hq
    have HV := Lib.hid ((if_neg (by simp)).symm.trans HV.out)
    have f3 := K5.out.f.frozen 3
    have c3 : w4.cell? ⟨gf, 3, none⟩ = some (.slice none 0 0) := K5.out.f.cell 3 _ rfl
    obtain ⟨lo, hlo⟩ : ∃ lo, hi - lg = lo := ⟨_, rfl⟩
    have wlo : IntKind.u64.wrap ((hi : Int) - (lg : Int)) = (lo : Int) := by rw [wrap_u64N]; omega
    rw [hlo] at HV
    have hlo62 : lo < 4611686018427387904 := by omega
    obtain ⟨R, hR⟩ : ∃ R, moreS b many lo (p4, 0) [(lo, hi)] = R := ⟨_, rfl⟩
    rw [hR] at HV
    have HR := Lib.hid hR
    have HCw : Hid (C ≤ w4.heap.size ∧ w.heap.size ≤ w4.heap.size) := ⟨by have := HX.out.1; have := K5.out.r.lt; omega, K5.out.b.size⟩
    have K6 := Lib.hid (fun o => K5.out.alloc HCw.out.1 o)
    have OW := Lib.hid (ownR_lit w4 w.heap.size HCw.out.2 lo hi)
    have k3 := (K6.out (.cells #[.int .u64 (lo : Int), .int .u64 (hi : Int)] 44)).f.cell 3 (.slice none 0 0) rfl
    have g3 := (K6.out (.cells #[.int .u64 (lo : Int), .int .u64 (hi : Int)] 44)).f.frozen 3
    have K7 : Hid (RdF w ((w4.alloc (.cells #[.int .u64 (lo : Int), .int .u64 (hi : Int)] 44)).setCell ⟨gf, 3, none⟩ (.slice (some ⟨w4.heap.size, 0, none⟩) 1 1)) B C g gf b (p4, 0) (ackV dl (some ⟨w4.heap.size, 0, none⟩) 1 1)) :=
      (K6.out _).put HX.out.2.1 HX.out.2.2.1 HX.out.2.2.2 3 _
    have OX : Hid (OwnR ((w4.alloc (.cells #[.int .u64 (lo : Int), .int .u64 (hi : Int)] 44)).setCell ⟨gf, 3, none⟩ (.slice (some ⟨w4.heap.size, 0, none⟩) 1 1)) w.heap.size (.slice (some ⟨w4.heap.size, 0, none⟩) 1 1) 1 [(lo, hi)]) :=
      OW.out.onlyA ((Only.refl gf _).setCell _ _) fun a ha => by injection ha with ha; subst ha; have := K5.out.f.lt; simp only; omega
    have HCL : Hid (C ≤ w.heap.size) := Nat.le_trans HX.out.1 (Nat.le_of_lt K0.out.r.lt)
    have HGL : Hid (g < w.heap.size ∧ gf < w.heap.size) := ⟨K0.out.r.lt, K0.out.f.lt⟩
    clear hR hlo H1 H2 H3 H4 K0 K1 K2 K3 K4
    go_wp2_with fail
    go_loopw [6, 7, 8, 9, 10] (fun _ i _ _ _ wr => ∃ (j lo' hh : Nat) (st : Nat × Nat) (pre : List (Nat × Nat)) (A : Option Addr) (n c : Nat), j ≤ many ∧ i = .int .u64 (j : Int) ∧ lo' < 4611686018427387904 ∧ n ≤ 8 ∧
      Hid (RdF w wr B C g gf b st (ackV dl A n c)) ∧ Hid (OwnR wr w.heap.size (.slice A n c) n (pre ++ [(lo', hh)])) ∧ Hid ((st.2 ≠ 0 ∧ (pre ++ [(lo', hh)], st) = R) ∨ (st.2 = 0 ∧ n = j + 1 ∧ moreS b (many - j) lo' st (pre ++ [(lo', hh)]) = R))) (fun _ i _ _ _ _ => many - (intOf i).toNat)
    case atStart => exact ⟨0, lo, hi, (p4, 0), [], _, 1, 1, by omega, rfl, hlo62, by omega, K7, OX, .inr ⟨rfl, rfl, HR.out⟩⟩
    case round =>
      obtain ⟨j, lo', hh, ⟨p, q⟩, pre, A, n, c, hj, rfl, hlo', hn8, KK, OO, HC⟩ := hrel
      have c2 : wr.cell? ⟨g, 2, none⟩ = some (.int .i64 (q : Int)) := by
        obtain ⟨T, A, n, c, hr, _⟩ := KK.out.r
        exact hr.cell 2 _ rfl
      by_cases hlt : j < many
      · by_cases hq : q = 0
        · subst hq
          obtain ⟨hn, HL⟩ : n = j + 1 ∧ Hid (moreS b (many - j) lo' (p, 0) (pre ++ [(lo', hh)]) = R) := by
            rcases HC.out with ⟨h, _⟩ | ⟨_, h1, h2⟩
            · exact absurd rfl h
            · exact ⟨h1, h2⟩
          subst hn
          obtain ⟨k, hk⟩ : ∃ k, many - j = k + 1 := ⟨many - j - 1, by omega⟩
          have hL := HL.out
          rw [hk] at hL
          unfold moreS at hL
          rw [if_neg (by simp)] at hL
          have HK : Hid (many - (j + 1) = k) := show _ = _ by omega
          obtain ⟨⟨gp, p5, q5⟩, h5⟩ : ∃ v, numS b (p, 0) maxV = v := ⟨_, rfl⟩
          have gp62 := numS_lt b (p, 0) maxV
          rw [h5] at gp62 hL
          simp only at gp62 hL
          have H5 := Lib.hid h5
          have HL := Lib.hid hL
          have hpl : pre.length = j := by have := OO.out.len; simp at this; omega
          obtain ⟨bk, off, rfl, hbk, _⟩ := OO.out.sl.2 (by omega)
          have cJ := slR_at OO.out.sl j (by omega)
          rw [show (pre ++ [(lo', hh)]).getD j (0, 0) = (lo', hh) by rw [← hpl]; simp] at cJ
          obtain ⟨cj, _⟩ := cJ
          simp only at cj
          have c3 : wr.cell? ⟨gf, 3, none⟩ = some (.slice (some ⟨bk, off, none⟩) (j + 1) c) := KK.out.f.cell 3 _ rfl
          have wi : IntKind.i64.wrap ((j : Int) + 1 - 1) = (j : Int) := by rw [show (j : Int) + 1 - 1 = (j : Int) by omega]; exact IntWalk.i64_in _ (by omega)
          have hin : j < j + 1 := by omega
          have hnc := OO.out.bnd
          have K8 := Lib.hid (fun k => KK.out.drewN k)
          clear hL h5 hk hpl HC
          go_wp2_with fail
          go_quiet (fail)
          go_wp2_with fail
          (with_reducible refine (HN.out (p, 0) 4611686018427387903 maxV rfl (by unfold maxV; omega) _ (K8.out _).r).mono ?_)
          rw [H5.out]
          rintro e5 w5 ⟨rfl, hr5, ho5⟩
          have K9 := Lib.hid ((K8.out _).num HX.out.1 HX.out.2.2.2 hr5 ho5)
          have O9 : Hid (OwnR w5 w.heap.size (.slice (some ⟨bk, off, none⟩) (j + 1) c) (j + 1) (pre ++ [(lo', hh)])) := by
            refine (OO.out.below ⟨rfl, rfl, rfl, Nat.le_refl _, fun _ _ => rfl⟩ : OwnR (wr.drewN nq) _ _ _ _).onlyA ho5 fun a ha => ?_
            have := (OO.out.blk a ha).1
            have := HGL.out.1
            omega
          have c5 : w5.cell? ⟨g, 2, none⟩ = some (.int .i64 (q5 : Int)) := K9.out.code
          have f5 := K9.out.codeF
          clear hr5 ho5 K8 c2 c3 cj OO KK
          by_cases hq5 : q5 = 0
          · subst hq5
            rw [if_neg (by simp)] at HL
            by_cases hbad : lo' < 2 ∨ lo' - 2 < gp
            · rw [if_pos hbad] at HL
              have KA : Hid (RdF w (w5.setCell ⟨g, 2, none⟩ (.int .i64 5)) B C g gf b (p5, 5) _) := K9.out.setE HX.out.1 HX.out.2.2.2 5
              by_cases hlo2 : lo' < 2
              · clear hbad
                go_wp2_with fail
                refine bodyPost_ret_by (results_none rfl _ _ _) rfl ?_
                rw [← HV.out, ← HL.out]
                exact ⟨rfl, KA.out.r, KA.out.b, fun h0 => absurd h0 (by simp)⟩
              · obtain ⟨d2, hd2⟩ : ∃ d, lo' - 2 = d := ⟨_, rfl⟩
                have wd2 : IntKind.u64.wrap ((lo' : Int) - 2) = (d2 : Int) := by rw [wrap_u64N]; omega
                have hdg : d2 < gp := by omega
                clear hbad hd2
                go_wp2_with fail
                refine bodyPost_ret_by (results_none rfl _ _ _) rfl ?_
                rw [← HV.out, ← HL.out]
                exact ⟨rfl, KA.out.r, KA.out.b, fun h0 => absurd h0 (by simp)⟩
            · rw [if_neg hbad] at HL
              have hlo2 : ¬ lo' < 2 := by omega
              obtain ⟨d2, hd2⟩ : ∃ d, lo' - 2 = d := ⟨_, rfl⟩
              rw [hd2] at HL
              have wd2 : IntKind.u64.wrap ((lo' : Int) - 2) = (d2 : Int) := by rw [wrap_u64N]; omega
              have hdg : ¬ d2 < gp := by omega
              obtain ⟨tp, htp⟩ : ∃ d, d2 - gp = d := ⟨_, rfl⟩
              rw [htp] at HL
              have wtp : IntKind.u64.wrap ((d2 : Int) - (gp : Int)) = (tp : Int) := by rw [wrap_u64N]; omega
              have htp2 : tp < 4611686018427387904 := by omega
              obtain ⟨⟨l6, p6, q6⟩, h6⟩ : ∃ v, numS b (p5, 0) tp = v := ⟨_, rfl⟩
              have hl6 := numS_le b (p5, 0) tp
              rw [h6] at hl6 HL
              simp only at hl6 HL
              have H6 := Lib.hid h6
              clear h6 hbad htp hd2
              go_wp2_with fail
              (with_reducible refine (HN.out (p5, 0) _ tp rfl (by omega) w5 K9.out.r).mono ?_)
              rw [H6.out]
              rintro e6 w6 ⟨rfl, hr6, ho6⟩
              have KA := Lib.hid (K9.out.num HX.out.1 HX.out.2.2.2 hr6 ho6)
              have OA : Hid (OwnR w6 w.heap.size (.slice (some ⟨bk, off, none⟩) (j + 1) c) (j + 1) (pre ++ [(lo', hh)])) := by
                refine O9.out.onlyA ho6 fun a ha => ?_
                have := (O9.out.blk a ha).1
                have := HGL.out.1
                omega
              have c6 : w6.cell? ⟨g, 2, none⟩ = some (.int .i64 (q6 : Int)) := KA.out.code
              clear hr6 ho6 c5 f5
              by_cases hq6 : q6 = 0
              · subst hq6
                rw [if_neg (by simp)] at HL
                obtain ⟨l7, hl7⟩ : ∃ d, tp - l6 = d := ⟨_, rfl⟩
                rw [hl7] at HL
                have wl7 : IntKind.u64.wrap ((tp : Int) - (l6 : Int)) = (l7 : Int) := by rw [wrap_u64N]; omega
                have hl7b : l7 < 4611686018427387904 := by omega
                have c36 : w6.cell? ⟨gf, 3, none⟩ = some (.slice (some ⟨bk, off, none⟩) (j + 1) c) := KA.out.f.cell 3 _ rfl
                have HSZ : Hid (w.heap.size ≤ w6.heap.size) := KA.out.b.size
                clear hl7 hl6
                go_wp2_with (at_builtin; refine wpList_append_ranges rfl _ _ rfl w.heap.size (.slice (some ⟨bk, off, none⟩) (j + 1) c) (j + 1) (pre ++ [(lo', hh)]) rfl (OA.out.alloc _) w6.heap.size 0 1 1 [(l7, tp)] rfl (slR_lit w6 l7 tp) (by omega) (by omega) (Nat.le_trans HSZ.out (by simp)) _ (Below.refl _ _) ?_; intro A7 c7 w7 O7 G7 B7; have KF : Hid (RdF w w7 B C g gf b (p6, 0) (ackV dl (some ⟨bk, off, none⟩) (j + 1) c)) := ⟨(KA.out.r.below ((Below.refl _ _).alloc (Nat.le_refl _) _)).belowB B7.out HGL.out.1, (KA.out.f.alloc _).belowB B7.out HGL.out.2, (KA.out.b.alloc (Nat.le_trans HCL.out HSZ.out) _).trans (B7.out.mono HCL.out)⟩; have c37 := KF.out.f.cell 3 _ rfl; have f37 := KF.out.f.frozen 3)
                go_roundw
                case rel =>
                  refine ⟨j + 1, l7, tp, (p6, 0), pre ++ [(lo', hh)], A7, j + 1 + 1, c7, by omega, by go_num, hl7b, by omega, KF.out.put HX.out.2.1 HX.out.2.2.1 HX.out.2.2.2 3 _, ?_, .inr ⟨rfl, rfl, ?_⟩⟩
                  · exact O7.out.onlyA ((Only.refl gf _).setCell _ _) fun a ha => by have := (O7.out.blk a ha).1; have := HGL.out.2; omega
                  · rw [HK.out]
                    exact HL.out
                case measure => simp [intOf]; omega
              · have t6 : ((q6 : Int) == 0) = false := by simp; omega
                rw [if_pos (by simpa using hq6)] at HL
                have HQ := Lib.hid hq6
                clear hq6
                go_wp2_with fail
                go_roundw
                case rel => exact ⟨j + 1, lo', hh, (p6, q6), pre, _, j + 1, c, by omega, by go_num, hlo', hn8, KA, OA, .inl ⟨HQ.out, HL.out⟩⟩
                case measure => simp [intOf]; omega
          · have t5 : ((q5 : Int) == 0) = false := by simp; omega
            rw [if_pos (by simpa using hq5)] at HL
            obtain ⟨tp, htp⟩ : ∃ tp : Nat, IntKind.u64.wrap (IntKind.u64.wrap ((lo' : Int) - 2) - (gp : Int)) = (tp : Int) := ⟨(IntKind.u64.wrap (IntKind.u64.wrap ((lo' : Int) - 2) - (gp : Int))).toNat, by rw [wrap_u64N]; omega⟩
            have htp2 : tp < 18446744073709551616 := by rw [wrap_u64N] at htp; omega
            obtain ⟨x2, hx2⟩ : ∃ x, IntKind.u64.wrap ((lo' : Int) - 2) = x := ⟨_, rfl⟩
            rw [hx2] at htp
            have H6 := Lib.hid (numS_bad b (p5, q5) tp (by simpa using hq5))
            have HQ := Lib.hid hq5
            clear hq5
            go_wp2_with fail
            (with_reducible refine (HN.out (p5, q5) _ tp rfl htp2 w5 K9.out.r).mono ?_)
            rw [H6.out]
            rintro e6 w6 ⟨rfl, hr6, ho6⟩
            have KA := Lib.hid (K9.out.num HX.out.1 HX.out.2.2.2 hr6 ho6)
            have OA : Hid (OwnR w6 w.heap.size (.slice (some ⟨bk, off, none⟩) (j + 1) c) (j + 1) (pre ++ [(lo', hh)])) := by
              refine O9.out.onlyA ho6 fun a ha => ?_
              have := (O9.out.blk a ha).1
              have := HGL.out.1
              omega
            have c6 : w6.cell? ⟨g, 2, none⟩ = some (.int .i64 (q5 : Int)) := KA.out.code
            clear hr6 ho6 c5 f5
            go_wp2_with fail
            go_roundw
            case rel => exact ⟨j + 1, lo', hh, (p5, q5), pre, _, j + 1, c, by omega, by go_num, hlo', hn8, KA, OA, .inl ⟨HQ.out, HL.out⟩⟩
            case measure => simp [intOf]; omega
        · have t1 : ((q : Int) == 0) = false := by simp; omega
          have HR2 : Hid ((pre ++ [(lo', hh)], (p, q)) = R) := by
            rcases HC.out with ⟨_, h⟩ | ⟨h, _⟩
            · exact h
            · exact absurd h hq
          have HQ := Lib.hid hq
          clear hq
          go_wp2_with fail
          refine bodyPost_end (results_none rfl _ _ _) rfl ?_
          rw [← HV.out, ← HR2.out]
          exact ⟨rfl, KK.out.r, KK.out.b, fun h0 => absurd h0 HQ.out⟩
      · have HR2 : Hid ((pre ++ [(lo', hh)], (p, q)) = R) := by
          rcases HC.out with ⟨_, h⟩ | ⟨_, _, h⟩
          · exact h
          · rw [show many - j = 0 by omega] at h
            exact h
        have hd : decide ((j : Int) < (many : Int)) = false := by simp; omega
        go_wp2_with fail
        refine bodyPost_end (results_none rfl _ _ _) (by exact rfl) ?_
        rw [← HV.out, ← HR2.out]
        exact ⟨rfl, KK.out.r, KK.out.b, fun h0 => ⟨A, n, c, KK.out.f, OO.out⟩⟩
  · have HV := Lib.hid ((if_pos (by simpa using hq)).symm.trans HV.out)
    have t1 : ((q4 : Int) != 0) = true := by simp; omega
    have HQ := Lib.hid hq
    clear hq
    go_wp2_with fail
    refine bodyPost_ret_by (results_none rfl _ _ _) rfl ?_
    rw [← HV.out]
    exact ⟨rfl, K5.out.r, K5.out.b, fun h0 => absurd h0 HQ.out⟩
end Go.Proofs.Ytafbhjhdnchfbaa
