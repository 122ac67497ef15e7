/-
  The law IncomeTurns2: another byte, an end elsewhere, what goes beyond: told, and nothing changes.
-/
import Derived.Test.YtocolaccgoochaaDoorInI
import Derived.Test.YtocolaccgoochaaDoorLow
namespace Go.Proofs.YtocolaccgoochaaDoor
open Go.RowKit Go.Lib
set_option linter.unusedVariables false

theorem turns2_out (A : Option Addr) (n c : Nat) (a1 : Int) (by_ : UInt8) (w : World) (hG : Glob w) (hn : n = 0 ∨ 100 < n) (hm : n ≤ maxLen) : Calls Tryd.prog 7 #[.slice A n c, .int .i64 a1, .int .u8 (bn by_)] w fun e w' => e = .returned (.bool true) ∧ Below w.heap.size w w' := by
  have AW := Lib.hid (awake_any w hG)
  clear hG
  rcases hn with hn | hn
  · subst hn
    go_enter Tryd.func7, Tryd.ntmps7
    go_wp2_with fail
    (with_reducible refine AW.out.mono ?_)
    rintro e1 w1 ⟨rfl, b1⟩
    go_wp2_with fail
    go_ret
    exact ⟨rfl, b1⟩
  · have d1 : ¬ ((n : Int) = 0) := by omega
    have d2 : (100 : Int) < (n : Int) := by omega
    clear hm
    go_enter Tryd.func7, Tryd.ntmps7
    go_wp2_with fail
    (with_reducible refine AW.out.mono ?_)
    rintro e1 w1 ⟨rfl, b1⟩
    go_wp2_with fail
    go_ret
    exact ⟨rfl, b1⟩
set_option maxRecDepth 8000 in
set_option maxHeartbeats 8000000 in
theorem turns2_any {A : Option Addr} {n c : Nat} {D : List UInt8} {w : World} (h : Sl w w.heap.size A n D) (hnc : n ≤ c) (hn0 : 0 < n) (hn : n ≤ 100) (a1 : Int) (by_ : UInt8) (hG : Glob w) :
    Calls Tryd.prog 7 #[.slice A n c, .int .i64 a1, .int .u8 (bn by_)] w fun e w' => e = .returned (.bool true) ∧ Below w.heap.size w w' := by
  obtain ⟨b0, off0, rfl, hb0, hcl⟩ := h.2 hn0
  clear hcl
  obtain ⟨i, hi, HLw⟩ := low_nat a1 n hn0 (by omega)
  have hl := h.len
  obtain ⟨z5, hz5⟩ : ∃ z, n + 5 = z := ⟨_, rfl⟩
  have e5 : (n : Int) + 5 = (z5 : Int) := by omega
  have HN := Lib.hid (rn_new hG (Below.refl w.heap.size w) hG.pos (z := (z5 : Int)) z5 rfl (by omega))
  have HL := Lib.hid HLw
  have DS := Lib.hid h
  have d1 : ¬ ((n : Int) = 0) := by omega
  have d2 : ¬ ((100 : Int) < (n : Int)) := by omega
  have b1 : (n : Int) ≤ 100 := by omega
  have HI := Lib.hid hi
  have HZ := Lib.hid hz5
  have HLn := Lib.hid hl
  have HNC := Lib.hid hnc
  clear h hG HLw hi hz5 hl hnc
  go_enter Tryd.func7, Tryd.ntmps7
  go_wp2_with fail
  (with_reducible refine (HN.out).mono ?_)
  rintro e1 w1 ⟨F1, g, rfl, R1, hb1, hF1⟩
  have DS1 : Hid (Sl w1 w.heap.size (some ⟨b0, off0, none⟩) n D) := DS.out.below hb1
  have HR1 := Lib.hid R1
  clear R1 hb1 hF1
  go_wp2_with ((with_reducible refine wpList_append_bytesG 35 rfl (.const (.slice none 0 0)) (.tmp 34) rfl ?hw w1.heap.size (.slice none 0 0) 0 [] ?hs (Own.nil _ _) w.heap.size (some ⟨b0, off0, none⟩) n c D ?hx DS1.out ?hl (Nat.le_refl _) ?_); (case hw => rfl); (case hs => with_unfolding_all rfl); (case hx => with_unfolding_all rfl); (case hl => omega); intro A2 c2 w2 ho2 hc2 hg2; simp only [Nat.zero_add, List.nil_append] at ho2 hc2)
  have hR2 := HR1.out.grown hg2.out (fun r e => (by cases e))
  have hA2 : ∀ a, A2 = some a → ¬ F1 a.block := fun a ha => HR1.out.off (.inr (ho2.out.blk a ha).1)
  have HP2 := Lib.hid (rn_put_ok hR2 (off := 0) (c := c2) (e := true) 0 rfl ho2.out.sl hA2 hc2.out.1 (by omega) (by omega) (by rw [HLn.out]; have := HZ.out; omega) (Full.start D).1)
  obtain ⟨s1, hs1⟩ : ∃ s1, putS InS.new 0 D true = s1 := ⟨_, rfl⟩
  have FL1 : Hid (Full D s1) := by rw [← hs1]; exact (Full.start D).2
  have RD1 : Hid (s1.rd = 0) := by rw [← hs1]; rfl
  rw [hs1] at HP2
  clear hR2 hA2 hs1 ho2 hc2 hg2
  go_wp2_with fail
  (with_reducible refine (HP2.out).mono ?_)
  rintro e3 w3 ⟨F3, rfl, R3, A3⟩
  have HR3 := Lib.hid R3
  clear R3 A3
  go_wp2_with fail
  (with_reducible refine (HL.out _).mono ?_)
  rintro e3' w3' ⟨rfl, rfl⟩
  have hDS3 := DS.out.below HR3.out.b
  have hcell := hDS3.cellD i (by rw [HLn.out]; exact HI.out)
  obtain ⟨x, hx⟩ : ∃ x, D.getD i 0 = x := ⟨_, rfl⟩
  rw [hx] at hcell
  have hib : (i : Int) < (n : Int) := by have := HI.out; omega
  have HX := Lib.hid hx
  clear hDS3 hx
  obtain ⟨n1, hn1⟩ : ∃ n1, n + 1 = n1 := ⟨_, rfl⟩
  have en1 : (n : Int) + 1 = (n1 : Int) := by omega
  have HN1 := Lib.hid hn1
  clear hn1
  obtain ⟨wt, hwt⟩ : ∃ wt : Int, (if x = by_ then 0 else 12) = wt := ⟨_, rfl⟩
  have HS3 : Hid (Sl (w3.alloc (.cells #[.int .u8 (bn by_)] 5)) (w3.alloc (.cells #[.int .u8 (bn by_)] 5)).heap.size (some ⟨w3.heap.size, 0, none⟩) 1 [by_]) := by
    have := sl_one w3 (.int .u8 (bn by_)) by_ rfl
    rw [World.size_alloc]
    exact this
  have hoff3 : ∀ a, (some ⟨w3.heap.size, 0, none⟩ : Option Addr) = some a → ¬ F3 a.block := fun a ha => by cases ha; exact HR3.out.off (.inr (Nat.le_refl _))
  have HPA : Hid (∃ s2, Full D s2 ∧ s2.rd = 0 ∧ Calls Tryd.prog 11 #[.pointer (some ⟨g, 0, none⟩), .int .i64 (i : Int), .slice (some ⟨w3.heap.size, 0, none⟩) 1 1, .bool false] (w3.alloc (.cells #[.int .u8 (bn by_)] 5))
      fun r w' => ∃ F', r = .returned (.int .i64 wt) ∧ Rn w w' F' g z5 (0 + n + 1) s2 ∧ After F3 F' (w3.alloc (.cells #[.int .u8 (bn by_)] 5)) w') := by
    have hi := HI.out
    have hz := HZ.out
    have hln := HLn.out
    by_cases hxy : x = by_
    · rw [if_pos hxy] at hwt
      subst hwt
      have hput := FL1.out.put (o := i) (d := [by_]) (e := false) (fun k hk => by
        have : k = 0 := by simp at hk; omega
        subst this
        rw [Nat.add_zero, HX.out, hxy]
        rfl) (by simp; omega) (fun h => by cases h)
      exact ⟨_, hput.2, RD1.out, rn_put_ok (HR3.out.alloc _) (off := (i : Int)) (c := 1) (e := false) i rfl HS3.out hoff3 (Nat.le_refl _) (by omega) (by omega) (by simp; omega) hput.1⟩
    · rw [if_neg hxy] at hwt
      subst hwt
      exact ⟨s1, FL1.out, RD1.out, rn_put_clash (HR3.out.alloc _) (off := (i : Int)) (c := 1) (e := false) i rfl HS3.out hoff3 (Nat.le_refl _) (by omega) (by omega) (by simp; omega) (FL1.out.another (by omega) (by rw [HX.out]; exact hxy))⟩
  obtain ⟨s2, hf2, hrd2, hpa⟩ := HPA.out
  have FL2 := Lib.hid hf2
  have RD2 := Lib.hid hrd2
  have HPA := Lib.hid hpa
  clear hf2 hrd2 hpa hoff3 FL1 RD1 HP2 HS3
  obtain ⟨v, hv⟩ : ∃ v, decide (x = by_) = v := ⟨_, rfl⟩
  have hv1 : (bn x == bn by_) = v := by
    rw [← hv, Bool.eq_iff_iff]
    simp only [beq_iff_eq, decide_eq_true_eq]
    constructor
    · intro e
      unfold bn at e
      exact UInt8.toNat_inj.1 (by omega)
    · intro e
      rw [e]
  have hv2 : decide (bn x = bn by_) = v := by
    rw [← hv1, Bool.eq_iff_iff]
    simp
  have hwt2 : wt = if v = true then 0 else 12 := by
    rw [← hwt, ← hv]
    simp
  clear hv hwt
  cases v
  all_goals
    first
      | (have hw' : wt = 12 := by simpa using hwt2)
      | (have hw' : wt = 0 := by simpa using hwt2)
    subst hw'
    clear hwt2
    go_wp2_with fail
    (with_reducible refine (HPA.out).mono ?_)
    rintro e4 w4 ⟨F4, rfl, R4, A4⟩
    have HR4 := Lib.hid R4
    have HPB := Lib.hid (rn_put_clash (R4.alloc _) (off := (n : Int)) (c := 1) (e := false) n rfl (one_sl w4 by_) (fun a ha => by cases ha; exact R4.off (.inr (Nat.le_refl _))) (Nat.le_refl _) (by omega) (by omega) (by simp; have := HZ.out; omega) (FL2.out.behind (by rw [HLn.out]; simp)))
    clear R4 A4 hcell
    go_wp2_with fail
    (with_reducible refine (HPB.out).mono ?_)
    rintro e5 w5 ⟨F5, rfl, R5, A5⟩
    have HPC := Lib.hid (rn_put_clash R5 (off := (i : Int)) (c := 0) (e := true) (A := none) (l := []) i rfl Sl.nil (fun a ha => by cases ha) (Nat.le_refl _) (by omega) (by omega) (by simp; have := HZ.out; have := HI.out; omega) (FL2.out.elsewhere (by rw [HLn.out]; simp; have := HI.out; omega)))
    clear R5 A5 HPB HR4
    go_wp2_with fail
    (with_reducible refine (HPC.out).mono ?_)
    rintro e6 w6 ⟨F6, rfl, R6, A6⟩
    have HPD := Lib.hid (rn_put_clash R6 (off := (n1 : Int)) (c := 0) (e := true) (A := none) (l := []) n1 rfl Sl.nil (fun a ha => by cases ha) (Nat.le_refl _) (by omega) (by omega) (by simp; have := HZ.out; have := HN1.out; omega) (FL2.out.elsewhere (by rw [HLn.out]; simp; have := HN1.out; omega)))
    clear R6 A6 HPC
    go_wp2_with fail
    (with_reducible refine (HPD.out).mono ?_)
    rintro e7 w7 ⟨F7, rfl, R7, A7⟩
    have hpe := FL2.out.put (o := n) (d := []) (e := true) (fun k hk => absurd hk (Nat.not_lt_zero k)) (by rw [HLn.out]; simp) (fun _ => by rw [HLn.out]; simp)
    have HPE := Lib.hid (rn_put_ok R7 (off := (n : Int)) (c := 0) (e := true) (A := none) (l := []) n rfl Sl.nil (fun a ha => by cases ha) (Nat.le_refl _) (by omega) (by omega) (by simp; have := HZ.out; omega) hpe.1)
    obtain ⟨s3, hs3⟩ : ∃ s3, putS s2 n [] true = s3 := ⟨_, rfl⟩
    have FL3 : Hid (Full D s3) := by rw [← hs3]; exact hpe.2
    have RD3 : Hid (s3.rd = 0) := by rw [← hs3]; exact RD2.out
    rw [hs3] at HPE
    clear R7 A7 HPD hpe hs3
    go_wp2_with fail
    (with_reducible refine (HPE.out).mono ?_)
    rintro e8 w8 ⟨F8, rfl, R8, A8⟩
    have HPF := Lib.hid (rn_put_bound (R8.alloc _) (off := (z5 : Int)) (c := 1) (e := false) z5 rfl (one_sl w8 by_) (fun a ha => by cases ha; exact R8.off (.inr (Nat.le_refl _))) (Nat.le_refl _) (by omega) (by omega) (by simp))
    clear R8 A8 HPE
    go_wp2_with fail
    (with_reducible refine (HPF.out).mono ?_)
    rintro e9 w9 ⟨F9, rfl, R9, A9⟩
    have HR9 := Lib.hid R9
    have hrd := rn_read R9 (i : Int)
    have hok3 := R9.ok
    have hni : readN s3 (i : Int) = i := by rw [FL3.out.readN hok3 i rfl, RD3.out, HLn.out]; have := HI.out; omega
    rw [hni, FL3.out.bytes hok3 (m := i) (by rw [RD3.out, HLn.out]; have := HI.out; omega), RD3.out, List.drop_zero] at hrd
    have HRD := Lib.hid hrd
    have FL4 := Lib.hid (FL3.out.read (i : Int))
    have RD4 : Hid ((readS s3 (i : Int)).rd = i) := by show s3.rd + readN s3 (i : Int) = i; rw [hni, RD3.out]; omega
    obtain ⟨s4, hs4⟩ : ∃ s4, readS s3 (i : Int) = s4 := ⟨_, rfl⟩
    rw [hs4] at HRD FL4 RD4
    clear R9 A9 HPF hrd hok3 hni hs4
    go_wp2_with fail
    (with_reducible refine (HRD.out).mono ?_)
    rintro e10 w10 ⟨AA, ca, rfl, hoA, hcA, hmA, R10, hO10⟩
    have hrd := rn_read R10 1000
    have hok4 := R10.ok
    have hni : readN s4 1000 = n - i := by rw [FL4.out.readN (z := 1000) hok4 1000 rfl, RD4.out, HLn.out]; omega
    rw [hni, FL4.out.bytes hok4 (m := n - i) (by rw [RD4.out, HLn.out]; have := HI.out; omega), RD4.out] at hrd
    have HRD2 := Lib.hid hrd
    have FL5 := Lib.hid (FL4.out.read 1000)
    have RD5 : Hid ((readS s4 1000).rd = n) := by show s4.rd + readN s4 1000 = n; rw [hni, RD4.out]; have := HI.out; omega
    obtain ⟨s5, hs5⟩ : ∃ s5, readS s4 1000 = s5 := ⟨_, rfl⟩
    rw [hs5] at HRD2 FL5 RD5
    have hnF : Hid (∀ a, AA = some a → ¬ F9 a.block) := fun a ha => HR9.out.off (.inr (hoA.blk a ha).1)
    have HOA := Lib.hid hoA
    have HSZ9 : Hid (w9.heap.size ≤ w10.heap.size) := hO10.size
    have HR10 := Lib.hid R10
    clear R10 hrd hok4 hni hs5 hoA hO10
    go_wp2_with fail
    (with_reducible refine (HRD2.out).mono ?_)
    rintro e11 w11 ⟨AB, cb, rfl, hoB, hcB, hmB, R11, hO11⟩
    have HOA2 : Hid (Own w11 w9.heap.size (.slice AA i ca) i (D.take i)) := HOA.out.onlyA hO11 (fun a ha e => hnF.out a ha (by rw [e]; exact HR9.out.fg))
    have HOB := Lib.hid hoB
    have HR11 := Lib.hid R11
    have hsz9 : Hid (w9.heap.size ≤ w11.heap.size) := by
      have h1 := HOA.out.blk
      have := R11.size
      have h2 := hO11.size
      exact Nat.le_trans HSZ9.out h2
    have HII := HI.out
    clear hoB hcB hmB R11 hO11 HOA HRD2 HRD
    go_wp2_with ((with_reducible refine wpList_append_bytesG 110 rfl (.tmp 108) (.tmp 109) rfl ?hw w9.heap.size (.slice AA i ca) i (D.take i) ?hs HOA2.out w11.heap.size AB (n - i) cb ((D.drop i).take (n - i)) ?hx HOB.out.sl ?hl hsz9.out ?_); (case hw => rfl); (case hs => with_unfolding_all rfl); (case hx => with_unfolding_all rfl); (case hl => omega); intro AC cc w12 hoC hcC hgC)
    have hR12 := HR11.out.grown hgC.out (fun r e => by
      cases AA with
      | none => cases e
      | some a =>
        have e' : a.block = r := by injection e
        have h1 := hnF.out a rfl
        have h2 := (HOA2.out.blk a rfl).1
        have h3 := HR9.out.size
        rw [← e']
        exact ⟨h1, by omega⟩)
    have hE : D.take i ++ (D.drop i).take (n - i) = D := by
      have h1 : (D.drop i).take (n - i) = D.drop i := List.take_of_length_le (by rw [List.length_drop, HLn.out]; omega)
      rw [h1, List.take_append_drop]
    have hn' : i + (n - i) = n := by omega
    have HSM := Lib.hid (same_yes _ D hE AC (some ⟨b0, off0, none⟩) (i + (n - i)) n cc c _ _ w12 hoC.out.sl (DS.out.below hR12.b) (by simp only [maxLen]; omega))
    have HR12 := Lib.hid hR12
    clear hoC hcC hgC hR12 hE
    go_wp2_with fail
    (with_reducible refine (HSM.out).mono ?_)
    rintro e13 w13 ⟨rfl, k13, rfl⟩
    have hEn := ended_any (HR12.out.drewN k13).i
    rw [FL5.out.ended (by rw [RD5.out, HLn.out])] at hEn
    have HEn := Lib.hid hEn
    clear hEn
    go_wp2_with fail
    (with_reducible refine (HEn.out).mono ?_)
    rintro e14 w14 ⟨rfl, k14, rfl⟩
    have HAW := Lib.hid (awake_any _ (HR12.out.drewN (k13 + k14)).G)
    have HBB := Lib.hid (HR12.out.drewN (k13 + k14)).b
    go_wp2_with fail
    (with_reducible refine (HAW.out).mono ?_)
    rintro e15 w15 ⟨rfl, b15⟩
    have HB15 : Hid (Below w.heap.size w w15) := HBB.out.trans (b15.mono HBB.out.size)
    clear b15
    go_wp2_with fail
    go_ret
    exact ⟨rfl, HB15.out⟩
end Go.Proofs.YtocolaccgoochaaDoor
