/-
  Whether a frame may be, by the document: May. (A way a kind, written out by a small program.)
-/
import Derived.Test.YtegoabbpjdcjeaaFrY
namespace Go.Proofs.Ytegoabbpjdcjeaa
open Go.RowKit
set_option linter.unusedVariables false

theorem bool_iff {b b2 : Bool} {P Q : Prop} (hb : b = true ↔ P ∧ Q) (hP : P) (hb2 : b2 = true ↔ Q) : b = b2 := by
  rw [← Bool.coe_iff_coe, hb, hb2]
  exact ⟨fun h => h.2, fun h => ⟨hP, h⟩⟩
theorem bool_no {b : Bool} {P Q : Prop} (hb : b = true ↔ P ∧ Q) (hP : ¬ P) : b = false := by
  cases b with
  | false => rfl
  | true => exact absurd (hb.1 rfl).1 hP
theorem bool_ex (P : Prop) : ∃ b : Bool, b = true ↔ P := ⟨@decide P (Classical.propDecidable _), by simp⟩
set_option maxHeartbeats 8000000 in
set_option maxRecDepth 4000 in
theorem rmay_any (f : Fr) (p : Fp) (B : Nat) (w : World) (hB : B ≤ w.heap.size) (hf : FrL w B f p) (hn : FrN f) (b : Bool) (hb : b = true ↔ MayF f) :
    Calls Try.prog 15 #[.agg (frV f p).toArray] w fun e w' => e = .returned (.bool b) ∧ Below w.heap.size w w' := by
  have HP : Hid (∀ u : World, Below w.heap.size w u → FrL u B f p) := fun u hu => hf.below (hu.mono hB)
  obtain ⟨k, n, d, rs, id, of, fi, da, ci, tk⟩ := f
  obtain ⟨ra, rn, rc, dA, dn, dc, ca, cn, cc, ta, tn, tc⟩ := p
  obtain ⟨nk, nn, nd, ni, no, nr⟩ := hn
  simp only at nk nn nd ni no
  have HNR := Lib.hid nr
  have lrn : rs.length = rn := hf.r.1
  have ldn : da.length = dn := hf.d.1
  have lcn : ci.length = cn := hf.c.1
  have ltn : tk.length = tn := hf.t.1
  have hrn : rn ≤ maxLen := by have := hf.rb; simp only at this; omega
  have hdn : dn ≤ 9223372036854775807 := by have := hf.db; simp only [maxLen] at this; omega
  have hcn : cn ≤ 9223372036854775807 := by have := hf.cb; simp only [maxLen] at this; omega
  have htn : tn ≤ 9223372036854775807 := by have := hf.tb; simp only [maxLen] at this; omega
  have wdn : IntKind.u64.wrap (dn : Int) = (dn : Int) := by rw [wrap_u64N]; omega
  have B0 : Hid (∀ o1 o2, Below w.heap.size w ((w.alloc o1).alloc o2)) := fun _ _ => ((Below.refl _ _).alloc (Nat.le_refl _) _).alloc (by simp) _
  have HRN := Lib.hid hrn
  simp only [MayF] at hb
  clear hf nr hrn
  have hways : k = 0 ∨ k = 1 ∨ k = 2 ∨ k = 6 ∨ k = 8 ∨ k = 16 ∨ k = 24 ∨ k = 25 ∨ k = 26 ∨ k = 27 ∨ k = 28 ∨ k = 30 ∨ (k ≠ 0 ∧ k ≠ 1 ∧ k ≠ 2 ∧ k ≠ 6 ∧ k ≠ 8 ∧ k ≠ 16 ∧ k ≠ 24 ∧ k ≠ 25 ∧ k ≠ 26 ∧ k ≠ 27 ∧ k ≠ 28 ∧ k ≠ 30) := by omega
  rcases hways with rfl | rfl | rfl | rfl | rfl | rfl | rfl | rfl | rfl | rfl | rfl | rfl | ⟨h0, h1, h2, h6, h8, h16, h24, h25, h26, h27, h28, h30⟩
  · simp at hb
    try unfold maxV at hb
    by_cases c1 : 1 ≤ n
    · have t1 : decide ((1 : Int) ≤ (n : Int)) = true := by simp; omega
      by_cases c2 : n ≤ 16384
      · have t2 : decide ((n : Int) ≤ 16384) = true := by simp; omega
        obtain ⟨b2, hb2⟩ := bool_ex (plainF ⟨0, 0, d, rs, id, of, fi, da, ci, tk⟩)
        obtain rfl := bool_iff hb ⟨c1, c2⟩ hb2
        have HPL : Hid (∀ u : World, Calls Try.prog 37 #[.agg #[.int .i64 0, .int .u64 0, .int .u64 (d : Int), .slice ra rn rc, .int .u64 (id : Int), .int .u64 (of : Int), .bool fi, .slice dA dn dc, .slice ca cn cc, .slice ta tn tc]] u fun e w' => e = .returned (.bool b) ∧ Below u.heap.size u w') := fun u => plain_any ⟨0, 0, d, rs, id, of, fi, da, ci, tk⟩ ⟨ra, rn, rc, dA, dn, dc, ca, cn, cc, ta, tn, tc⟩ u lrn ldn lcn ltn b hb2
        clear hb hb2
        unfold frV
        go_enter Try.func15, Try.ntmps15
        go_wp2_with fail
        (with_reducible refine (HPL.out _).mono ?_)
        rintro e1 w1 ⟨rfl, b1⟩
        go_wp2_with fail
        go_ret
        exact ⟨by first | rfl | simp, (B0.out _ _).trans (b1.mono (by simp; omega))⟩
      · have t2 : decide ((n : Int) ≤ 16384) = false := by simp; omega
        obtain rfl := bool_no hb (by omega)
        clear hb
        unfold frV
        go_enter Try.func15, Try.ntmps15
        go_wp2
        go_ret
        exact ⟨rfl, B0.out _ _⟩
    · have t1 : decide ((1 : Int) ≤ (n : Int)) = false := by simp; omega
      obtain rfl := bool_no hb (by omega)
      clear hb
      unfold frV
      go_enter Try.func15, Try.ntmps15
      go_wp2
      go_ret
      exact ⟨rfl, B0.out _ _⟩
  · simp at hb
    try unfold maxV at hb
    obtain ⟨b2, hb2⟩ := bool_ex (plainF ⟨1, n, d, rs, id, of, fi, da, ci, tk⟩)
    obtain rfl : b = b2 := by rw [← Bool.coe_iff_coe, hb, hb2]
    have HPL : Hid (∀ u : World, Calls Try.prog 37 #[.agg #[.int .i64 1, .int .u64 (n : Int), .int .u64 (d : Int), .slice ra rn rc, .int .u64 (id : Int), .int .u64 (of : Int), .bool fi, .slice dA dn dc, .slice ca cn cc, .slice ta tn tc]] u fun e w' => e = .returned (.bool b) ∧ Below u.heap.size u w') := fun u => plain_any ⟨1, n, d, rs, id, of, fi, da, ci, tk⟩ ⟨ra, rn, rc, dA, dn, dc, ca, cn, cc, ta, tn, tc⟩ u lrn ldn lcn ltn b hb2
    clear hb hb2
    unfold frV
    go_enter Try.func15, Try.ntmps15
    go_wp2_with fail
    (with_reducible refine (HPL.out _).mono ?_)
    rintro e1 w1 ⟨rfl, b1⟩
    go_wp2_with fail
    go_ret
    exact ⟨by first | rfl | simp, (B0.out _ _).trans (b1.mono (by simp; omega))⟩
  · simp at hb
    try unfold maxV at hb
    by_cases c1 : d ≤ 4611686018427387903
    · have t1 : decide ((d : Int) ≤ 4611686018427387903) = true := by simp; omega
      have HM := fun (c : Bool) (hc : c = true ↔ RangesP rs) => Lib.hid (fun u hu => rranges_any rs ra rn rc B u (HP.out u hu).r HNR.out HRN.out c hc)
      obtain ⟨c2, hc2⟩ := bool_ex (RangesP rs)
      replace HM := HM c2 hc2
      cases c2 with
      | true =>
        have hR : RangesP rs := hc2.1 rfl
        obtain ⟨b2, hb2⟩ := bool_ex (plainF ⟨2, n, 0, [], id, of, fi, da, ci, tk⟩)
        obtain rfl := bool_iff hb ⟨c1, hR⟩ hb2
        have HPL := Lib.hid (fun u => plain_any ⟨2, n, 0, [], id, of, fi, da, ci, tk⟩ ⟨none, 0, 0, dA, dn, dc, ca, cn, cc, ta, tn, tc⟩ u rfl ldn lcn ltn b hb2)
        obtain ⟨gs, hgs⟩ : ∃ gs, frV ⟨2, n, 0, [], id, of, fi, da, ci, tk⟩ ⟨none, 0, 0, dA, dn, dc, ca, cn, cc, ta, tn, tc⟩ = gs := ⟨_, rfl⟩
        have HGS : Hid (gs = [.int .i64 2, .int .u64 (n : Int), .int .u64 0, .slice none 0 0, .int .u64 (id : Int), .int .u64 (of : Int), .bool fi, .slice dA dn dc, .slice ca cn cc, .slice ta tn tc]) := show _ = _ by rw [← hgs]; rfl
        have HSZ : Hid ((Try.prog.info? 26).map (·.size) = some gs.length) := show _ = _ by rw [← hgs]; exact fr_size
        rw [hgs] at HPL
        clear hb hb2 hc2 hgs hR
        unfold frV
        go_enter Try.func15, Try.ntmps15
        go_wp2_with fail
        (with_reducible refine (HM.out _ ?hu).mono ?_)
        case hu => exact B0.out _ _
        rintro e1 w1 ⟨rfl, b1⟩
        have R1 : Hid (Rw w1 (w.heap.size + 1) 26 gs) := (show Rw _ _ _ gs by rw [HGS.out]; exact heap_allocs w [_, _] 1 _ rfl).below b1
        have B1 : Hid (Below w.heap.size w w1) := (B0.out _ _).trans (b1.mono (by simp; omega))
        clear b1
        go_wp2_with ((with_reducible refine wpList_load_rwG 101 rfl 26 (.tmp 3) rfl ?hw (w.heap.size + 1) ?hx 26 gs R1.out _ Try.underlying26 rfl HSZ.out ?_); (case hw => rfl); (case hx => with_unfolding_all rfl))
        (with_reducible refine (HPL.out w1).mono ?_)
        rintro e2 w2 ⟨rfl, b2⟩
        go_wp2_with fail
        go_ret
        exact ⟨by first | rfl | simp, B1.out.trans (b2.mono B1.out.size)⟩
      | false =>
        have hR : ¬ RangesP rs := fun h => by have := hc2.2 h; simp at this
        obtain rfl := bool_no hb (fun h => hR h.2)
        clear hb hc2 hR
        unfold frV
        go_enter Try.func15, Try.ntmps15
        go_wp2_with fail
        (with_reducible refine (HM.out _ ?hu).mono ?_)
        case hu => exact B0.out _ _
        rintro e1 w1 ⟨rfl, b1⟩
        go_wp2_with fail
        go_ret
        exact ⟨by first | rfl | simp, (B0.out _ _).trans (b1.mono (by simp; omega))⟩
    · have t1 : decide ((d : Int) ≤ 4611686018427387903) = false := by simp; omega
      obtain rfl := bool_no hb (by omega)
      clear hb
      unfold frV
      go_enter Try.func15, Try.ntmps15
      go_wp2
      go_ret
      exact ⟨rfl, B0.out _ _⟩
  · simp at hb
    rw [ldn] at hb
    try unfold maxV at hb
    by_cases c1 : dn < 16384
    · have t1 : decide ((dn : Int) < 16384) = true := by simp; omega
      by_cases c2 : id ≤ 4611686018427387903
      · have t2 : decide ((id : Int) ≤ 4611686018427387903) = true := by simp; omega
        obtain ⟨dd, hdd⟩ : ∃ dd : Nat, 4611686018427387903 - dn = dd := ⟨_, rfl⟩
        have wdd : (4611686018427387903 : Int) - (dn : Int) = (dd : Int) := by omega
        by_cases c3 : of ≤ dd
        · have t3 : decide ((of : Int) ≤ (dd : Int)) = true := by simp; omega
          obtain ⟨b2, hb2⟩ := bool_ex (plainF ⟨6, n, d, rs, id, 0, fi, [], ci, tk⟩)
          obtain rfl := bool_iff hb ⟨c1, c2, by omega⟩ hb2
          have HPL : Hid (∀ u : World, Calls Try.prog 37 #[.agg #[.int .i64 6, .int .u64 (n : Int), .int .u64 (d : Int), .slice ra rn rc, .int .u64 (id : Int), .int .u64 0, .bool fi, .slice none 0 0, .slice ca cn cc, .slice ta tn tc]] u fun e w' => e = .returned (.bool b) ∧ Below u.heap.size u w') := fun u => plain_any ⟨6, n, d, rs, id, 0, fi, [], ci, tk⟩ ⟨ra, rn, rc, none, 0, 0, ca, cn, cc, ta, tn, tc⟩ u lrn rfl lcn ltn b hb2
          clear hb hb2
          unfold frV
          go_enter Try.func15, Try.ntmps15
          go_wp2_with fail
          (with_reducible refine (HPL.out _).mono ?_)
          rintro e1 w1 ⟨rfl, b1⟩
          go_wp2_with fail
          go_ret
          exact ⟨by first | rfl | simp, (B0.out _ _).trans (b1.mono (by simp; omega))⟩
        · have t3 : decide ((of : Int) ≤ (dd : Int)) = false := by simp; omega
          obtain rfl := bool_no hb (by omega)
          clear hb
          unfold frV
          go_enter Try.func15, Try.ntmps15
          go_wp2
          go_ret
          exact ⟨rfl, B0.out _ _⟩
      · have t2 : decide ((id : Int) ≤ 4611686018427387903) = false := by simp; omega
        obtain rfl := bool_no hb (by omega)
        clear hb
        unfold frV
        go_enter Try.func15, Try.ntmps15
        go_wp2
        go_ret
        exact ⟨rfl, B0.out _ _⟩
    · have t1 : decide ((dn : Int) < 16384) = false := by simp; omega
      obtain rfl := bool_no hb (by omega)
      clear hb
      unfold frV
      go_enter Try.func15, Try.ntmps15
      go_wp2
      go_ret
      exact ⟨rfl, B0.out _ _⟩
  · simp at hb
    rw [ldn] at hb
    try unfold maxV at hb
    by_cases c1 : dn < 16384
    · have t1 : decide ((dn : Int) < 16384) = true := by simp; omega
      by_cases c2 : id ≤ 4611686018427387903
      · have t2 : decide ((id : Int) ≤ 4611686018427387903) = true := by simp; omega
        obtain ⟨dd, hdd⟩ : ∃ dd : Nat, 4611686018427387903 - dn = dd := ⟨_, rfl⟩
        have wdd : (4611686018427387903 : Int) - (dn : Int) = (dd : Int) := by omega
        by_cases c3 : of ≤ dd
        · have t3 : decide ((of : Int) ≤ (dd : Int)) = true := by simp; omega
          obtain ⟨b2, hb2⟩ := bool_ex (plainF ⟨8, n, d, rs, 0, 0, false, [], ci, tk⟩)
          obtain rfl := bool_iff hb ⟨c1, c2, by omega⟩ hb2
          have HPL : Hid (∀ u : World, Calls Try.prog 37 #[.agg #[.int .i64 8, .int .u64 (n : Int), .int .u64 (d : Int), .slice ra rn rc, .int .u64 0, .int .u64 0, .bool false, .slice none 0 0, .slice ca cn cc, .slice ta tn tc]] u fun e w' => e = .returned (.bool b) ∧ Below u.heap.size u w') := fun u => plain_any ⟨8, n, d, rs, 0, 0, false, [], ci, tk⟩ ⟨ra, rn, rc, none, 0, 0, ca, cn, cc, ta, tn, tc⟩ u lrn rfl lcn ltn b hb2
          clear hb hb2
          unfold frV
          go_enter Try.func15, Try.ntmps15
          go_wp2_with fail
          (with_reducible refine (HPL.out _).mono ?_)
          rintro e1 w1 ⟨rfl, b1⟩
          go_wp2_with fail
          go_ret
          exact ⟨by first | rfl | simp, (B0.out _ _).trans (b1.mono (by simp; omega))⟩
        · have t3 : decide ((of : Int) ≤ (dd : Int)) = false := by simp; omega
          obtain rfl := bool_no hb (by omega)
          clear hb
          unfold frV
          go_enter Try.func15, Try.ntmps15
          go_wp2
          go_ret
          exact ⟨rfl, B0.out _ _⟩
      · have t2 : decide ((id : Int) ≤ 4611686018427387903) = false := by simp; omega
        obtain rfl := bool_no hb (by omega)
        clear hb
        unfold frV
        go_enter Try.func15, Try.ntmps15
        go_wp2
        go_ret
        exact ⟨rfl, B0.out _ _⟩
    · have t1 : decide ((dn : Int) < 16384) = false := by simp; omega
      obtain rfl := bool_no hb (by omega)
      clear hb
      unfold frV
      go_enter Try.func15, Try.ntmps15
      go_wp2
      go_ret
      exact ⟨rfl, B0.out _ _⟩
  · simp at hb
    try unfold maxV at hb
    by_cases c1 : n ≤ 4611686018427387903
    · have t1 : decide ((n : Int) ≤ 4611686018427387903) = true := by simp; omega
      obtain ⟨b2, hb2⟩ := bool_ex (plainF ⟨16, 0, d, rs, id, of, fi, da, ci, tk⟩)
      obtain rfl := bool_iff hb c1 hb2
      have HPL : Hid (∀ u : World, Calls Try.prog 37 #[.agg #[.int .i64 16, .int .u64 0, .int .u64 (d : Int), .slice ra rn rc, .int .u64 (id : Int), .int .u64 (of : Int), .bool fi, .slice dA dn dc, .slice ca cn cc, .slice ta tn tc]] u fun e w' => e = .returned (.bool b) ∧ Below u.heap.size u w') := fun u => plain_any ⟨16, 0, d, rs, id, of, fi, da, ci, tk⟩ ⟨ra, rn, rc, dA, dn, dc, ca, cn, cc, ta, tn, tc⟩ u lrn ldn lcn ltn b hb2
      clear hb hb2
      unfold frV
      go_enter Try.func15, Try.ntmps15
      go_wp2_with fail
      (with_reducible refine (HPL.out _).mono ?_)
      rintro e1 w1 ⟨rfl, b1⟩
      go_wp2_with fail
      go_ret
      exact ⟨by first | rfl | simp, (B0.out _ _).trans (b1.mono (by simp; omega))⟩
    · have t1 : decide ((n : Int) ≤ 4611686018427387903) = false := by simp; omega
      obtain rfl := bool_no hb c1
      clear hb
      unfold frV
      go_enter Try.func15, Try.ntmps15
      go_wp2
      go_ret
      exact ⟨rfl, B0.out _ _⟩
  · simp at hb
    rw [lcn, ltn] at hb
    try unfold maxV at hb
    by_cases c1 : n ≤ 4611686018427387903
    · have t1 : decide ((n : Int) ≤ 4611686018427387903) = true := by simp; omega
      by_cases c2 : cn = 8
      · have t2 : ((cn : Int) == 8) = true := by simp; omega
        by_cases c3 : tn = 16
        · have t3 : ((tn : Int) == 16) = true := by simp; omega
          obtain ⟨b2, hb2⟩ := bool_ex (plainF ⟨24, 0, d, rs, id, of, fi, da, [], []⟩)
          obtain rfl := bool_iff hb ⟨c1, c2, c3⟩ hb2
          have HPL : Hid (∀ u : World, Calls Try.prog 37 #[.agg #[.int .i64 24, .int .u64 0, .int .u64 (d : Int), .slice ra rn rc, .int .u64 (id : Int), .int .u64 (of : Int), .bool fi, .slice dA dn dc, .slice none 0 0, .slice none 0 0]] u fun e w' => e = .returned (.bool b) ∧ Below u.heap.size u w') := fun u => plain_any ⟨24, 0, d, rs, id, of, fi, da, [], []⟩ ⟨ra, rn, rc, dA, dn, dc, none, 0, 0, none, 0, 0⟩ u lrn ldn rfl rfl b hb2
          clear hb hb2
          unfold frV
          go_enter Try.func15, Try.ntmps15
          go_wp2_with fail
          (with_reducible refine (HPL.out _).mono ?_)
          rintro e1 w1 ⟨rfl, b1⟩
          go_wp2_with fail
          go_ret
          exact ⟨by first | rfl | simp, (B0.out _ _).trans (b1.mono (by simp; omega))⟩
        · have t3 : ((tn : Int) == 16) = false := by simp; omega
          obtain rfl := bool_no hb (by omega)
          clear hb
          unfold frV
          go_enter Try.func15, Try.ntmps15
          go_wp2
          go_ret
          exact ⟨rfl, B0.out _ _⟩
      · have t2 : ((cn : Int) == 8) = false := by simp; omega
        obtain rfl := bool_no hb (by omega)
        clear hb
        unfold frV
        go_enter Try.func15, Try.ntmps15
        go_wp2
        go_ret
        exact ⟨rfl, B0.out _ _⟩
    · have t1 : decide ((n : Int) ≤ 4611686018427387903) = false := by simp; omega
      obtain rfl := bool_no hb (by omega)
      clear hb
      unfold frV
      go_enter Try.func15, Try.ntmps15
      go_wp2
      go_ret
      exact ⟨rfl, B0.out _ _⟩
  · simp at hb
    try unfold maxV at hb
    by_cases c1 : n ≤ 4611686018427387903
    · have t1 : decide ((n : Int) ≤ 4611686018427387903) = true := by simp; omega
      obtain ⟨b2, hb2⟩ := bool_ex (plainF ⟨25, 0, d, rs, id, of, fi, da, ci, tk⟩)
      obtain rfl := bool_iff hb c1 hb2
      have HPL : Hid (∀ u : World, Calls Try.prog 37 #[.agg #[.int .i64 25, .int .u64 0, .int .u64 (d : Int), .slice ra rn rc, .int .u64 (id : Int), .int .u64 (of : Int), .bool fi, .slice dA dn dc, .slice ca cn cc, .slice ta tn tc]] u fun e w' => e = .returned (.bool b) ∧ Below u.heap.size u w') := fun u => plain_any ⟨25, 0, d, rs, id, of, fi, da, ci, tk⟩ ⟨ra, rn, rc, dA, dn, dc, ca, cn, cc, ta, tn, tc⟩ u lrn ldn lcn ltn b hb2
      clear hb hb2
      unfold frV
      go_enter Try.func15, Try.ntmps15
      go_wp2_with fail
      (with_reducible refine (HPL.out _).mono ?_)
      rintro e1 w1 ⟨rfl, b1⟩
      go_wp2_with fail
      go_ret
      exact ⟨by first | rfl | simp, (B0.out _ _).trans (b1.mono (by simp; omega))⟩
    · have t1 : decide ((n : Int) ≤ 4611686018427387903) = false := by simp; omega
      obtain rfl := bool_no hb c1
      clear hb
      unfold frV
      go_enter Try.func15, Try.ntmps15
      go_wp2
      go_ret
      exact ⟨rfl, B0.out _ _⟩
  · simp at hb
    rw [ldn] at hb
    try unfold maxV at hb
    by_cases c1 : dn = 8
    · have t1 : ((dn : Int) == 8) = true := by simp; omega
      obtain ⟨b2, hb2⟩ := bool_ex (plainF ⟨26, n, d, rs, id, of, fi, [], ci, tk⟩)
      obtain rfl := bool_iff hb c1 hb2
      have HPL : Hid (∀ u : World, Calls Try.prog 37 #[.agg #[.int .i64 26, .int .u64 (n : Int), .int .u64 (d : Int), .slice ra rn rc, .int .u64 (id : Int), .int .u64 (of : Int), .bool fi, .slice none 0 0, .slice ca cn cc, .slice ta tn tc]] u fun e w' => e = .returned (.bool b) ∧ Below u.heap.size u w') := fun u => plain_any ⟨26, n, d, rs, id, of, fi, [], ci, tk⟩ ⟨ra, rn, rc, none, 0, 0, ca, cn, cc, ta, tn, tc⟩ u lrn rfl lcn ltn b hb2
      clear hb hb2
      unfold frV
      go_enter Try.func15, Try.ntmps15
      go_wp2_with fail
      (with_reducible refine (HPL.out _).mono ?_)
      rintro e1 w1 ⟨rfl, b1⟩
      go_wp2_with fail
      go_ret
      exact ⟨by first | rfl | simp, (B0.out _ _).trans (b1.mono (by simp; omega))⟩
    · have t1 : ((dn : Int) == 8) = false := by simp; omega
      obtain rfl := bool_no hb c1
      clear hb
      unfold frV
      go_enter Try.func15, Try.ntmps15
      go_wp2
      go_ret
      exact ⟨rfl, B0.out _ _⟩
  · simp at hb
    rw [ldn] at hb
    try unfold maxV at hb
    by_cases c1 : dn = 8
    · have t1 : ((dn : Int) == 8) = true := by simp; omega
      obtain ⟨b2, hb2⟩ := bool_ex (plainF ⟨27, n, d, rs, id, of, fi, [], ci, tk⟩)
      obtain rfl := bool_iff hb c1 hb2
      have HPL : Hid (∀ u : World, Calls Try.prog 37 #[.agg #[.int .i64 27, .int .u64 (n : Int), .int .u64 (d : Int), .slice ra rn rc, .int .u64 (id : Int), .int .u64 (of : Int), .bool fi, .slice none 0 0, .slice ca cn cc, .slice ta tn tc]] u fun e w' => e = .returned (.bool b) ∧ Below u.heap.size u w') := fun u => plain_any ⟨27, n, d, rs, id, of, fi, [], ci, tk⟩ ⟨ra, rn, rc, none, 0, 0, ca, cn, cc, ta, tn, tc⟩ u lrn rfl lcn ltn b hb2
      clear hb hb2
      unfold frV
      go_enter Try.func15, Try.ntmps15
      go_wp2_with fail
      (with_reducible refine (HPL.out _).mono ?_)
      rintro e1 w1 ⟨rfl, b1⟩
      go_wp2_with fail
      go_ret
      exact ⟨by first | rfl | simp, (B0.out _ _).trans (b1.mono (by simp; omega))⟩
    · have t1 : ((dn : Int) == 8) = false := by simp; omega
      obtain rfl := bool_no hb c1
      clear hb
      unfold frV
      go_enter Try.func15, Try.ntmps15
      go_wp2
      go_ret
      exact ⟨rfl, B0.out _ _⟩
  · simp at hb
    try unfold maxV at hb
    by_cases c1 : n ≤ 4611686018427387903
    · have t1 : decide ((n : Int) ≤ 4611686018427387903) = true := by simp; omega
      obtain ⟨b2, hb2⟩ := bool_ex (plainF ⟨28, 0, d, rs, id, of, fi, da, ci, tk⟩)
      obtain rfl := bool_iff hb c1 hb2
      have HPL : Hid (∀ u : World, Calls Try.prog 37 #[.agg #[.int .i64 28, .int .u64 0, .int .u64 (d : Int), .slice ra rn rc, .int .u64 (id : Int), .int .u64 (of : Int), .bool fi, .slice dA dn dc, .slice ca cn cc, .slice ta tn tc]] u fun e w' => e = .returned (.bool b) ∧ Below u.heap.size u w') := fun u => plain_any ⟨28, 0, d, rs, id, of, fi, da, ci, tk⟩ ⟨ra, rn, rc, dA, dn, dc, ca, cn, cc, ta, tn, tc⟩ u lrn ldn lcn ltn b hb2
      clear hb hb2
      unfold frV
      go_enter Try.func15, Try.ntmps15
      go_wp2_with fail
      (with_reducible refine (HPL.out _).mono ?_)
      rintro e1 w1 ⟨rfl, b1⟩
      go_wp2_with fail
      go_ret
      exact ⟨by first | rfl | simp, (B0.out _ _).trans (b1.mono (by simp; omega))⟩
    · have t1 : decide ((n : Int) ≤ 4611686018427387903) = false := by simp; omega
      obtain rfl := bool_no hb c1
      clear hb
      unfold frV
      go_enter Try.func15, Try.ntmps15
      go_wp2
      go_ret
      exact ⟨rfl, B0.out _ _⟩
  · simp at hb
    try unfold maxV at hb
    obtain ⟨b2, hb2⟩ := bool_ex (plainF ⟨30, n, d, rs, id, of, fi, da, ci, tk⟩)
    obtain rfl : b = b2 := by rw [← Bool.coe_iff_coe, hb, hb2]
    have HPL : Hid (∀ u : World, Calls Try.prog 37 #[.agg #[.int .i64 30, .int .u64 (n : Int), .int .u64 (d : Int), .slice ra rn rc, .int .u64 (id : Int), .int .u64 (of : Int), .bool fi, .slice dA dn dc, .slice ca cn cc, .slice ta tn tc]] u fun e w' => e = .returned (.bool b) ∧ Below u.heap.size u w') := fun u => plain_any ⟨30, n, d, rs, id, of, fi, da, ci, tk⟩ ⟨ra, rn, rc, dA, dn, dc, ca, cn, cc, ta, tn, tc⟩ u lrn ldn lcn ltn b hb2
    clear hb hb2
    unfold frV
    go_enter Try.func15, Try.ntmps15
    go_wp2_with fail
    (with_reducible refine (HPL.out _).mono ?_)
    rintro e1 w1 ⟨rfl, b1⟩
    go_wp2_with fail
    go_ret
    exact ⟨by first | rfl | simp, (B0.out _ _).trans (b1.mono (by simp; omega))⟩
  · have t0 : (k == 0) = false := by simp; omega
    have t1 : (k == 1) = false := by simp; omega
    have t2 : (k == 2) = false := by simp; omega
    have t6 : (k == 6) = false := by simp; omega
    have t8 : (k == 8) = false := by simp; omega
    have t16 : (k == 16) = false := by simp; omega
    have t24 : (k == 24) = false := by simp; omega
    have t25 : (k == 25) = false := by simp; omega
    have t26 : (k == 26) = false := by simp; omega
    have t27 : (k == 27) = false := by simp; omega
    have t28 : (k == 28) = false := by simp; omega
    have t30 : (k == 30) = false := by simp; omega
    simp only [h0, h1, h2, h6, h8, h16, h24, h25, h26, h27, h28, h30, or_self, if_false] at hb
    obtain rfl : b = false := by simpa using hb
    clear hb h0 h1 h2 h6 h8 h16 h24 h25 h26 h27 h28 h30
    unfold frV
    go_enter Try.func15, Try.ntmps15
    go_wp2
    go_ret
    exact ⟨rfl, B0.out _ _⟩
end Go.Proofs.Ytegoabbpjdcjeaa
