/-
  Whether a frame may be: frame.withinBounds, frame.May. (A way a kind, written out by a small program.)
-/
import Derived.Test.YtcipmfhacloegaaFrC
import Derived.Test.YtcipmfhacloegaaFrD
import Derived.Test.YtcipmfhacloegaaFrE
namespace Go.Proofs.Ytcipmfhacloegaa
open Go.RowKit
set_option linter.unusedVariables false

/-- what a frame has of its kind is as it may be -/
def wbF (f : Fr) : Prop :=
  if f.kind = 1 ∨ f.kind = 30 then True
  else if f.kind = 0 then 1 ≤ f.n ∧ f.n ≤ 16384
  else if f.kind = 2 then f.delay ≤ maxV ∧ RangesP f.rs
  else if f.kind = 6 then f.data.length < 16384 ∧ f.off + f.data.length ≤ maxV
  else if f.kind = 8 then f.id ≤ maxV ∧ f.data.length < 16384 ∧ f.off + f.data.length ≤ maxV
  else if f.kind = 16 ∨ f.kind = 25 ∨ f.kind = 28 then f.n ≤ maxV
  else if f.kind = 24 then f.n ≤ maxV ∧ f.cid.length = 8 ∧ f.tok.length = 16
  else if f.kind = 26 ∨ f.kind = 27 then f.data.length = 8
  else False
theorem may_iff (f : Fr) : MayF f ↔ wbF f ∧ f = ownF f := by
  obtain ⟨k, n, d, rs, id, of, fi, da, ci, tk⟩ := f
  have hways : k = 0 ∨ k = 1 ∨ k = 2 ∨ k = 6 ∨ k = 8 ∨ k = 16 ∨ k = 24 ∨ k = 25 ∨ k = 26 ∨ k = 27 ∨ k = 28 ∨ k = 30 ∨ (k ≠ 0 ∧ k ≠ 1 ∧ k ≠ 2 ∧ k ≠ 6 ∧ k ≠ 8 ∧ k ≠ 16 ∧ k ≠ 24 ∧ k ≠ 25 ∧ k ≠ 26 ∧ k ≠ 27 ∧ k ≠ 28 ∧ k ≠ 30) := by omega
  rcases hways with rfl | rfl | rfl | rfl | rfl | rfl | rfl | rfl | rfl | rfl | rfl | rfl | ⟨h0, h1, h2, h6, h8, h16, h24, h25, h26, h27, h28, h30⟩
  rotate_right
  · simp [MayF, wbF, *]
  all_goals simp only [MayF, wbF, ownF, plainF, Fr.of]
  all_goals simp
  all_goals first | (constructor <;> intro h <;> simp_all <;> omega) | (constructor <;> intro h <;> simp_all; done) | (intros; subst_vars; simp [maxV]; done) | (intros; constructor <;> intro h <;> omega)
set_option maxHeartbeats 4000000 in
theorem wb_any (f : Fr) (p : Fp) (B : Nat) (w : World) (hB : B ≤ w.heap.size) (hf : FrL w B f p) (hn : FrN f) (b : Bool) (hb : b = true ↔ wbF f) :
    Calls Try.prog 34 #[.agg (frV f p).toArray] w fun e w' => e = .returned (.bool b) ∧ Below w.heap.size w w' := by
  have HP : Hid (∀ u : World, Below w.heap.size w u → FrL u B f p) := fun u hu => hf.below (hu.mono hB)
  obtain ⟨k, n, d, rs, id, of, fi, da, ci, tk⟩ := f
  obtain ⟨ra, rn, rc, dA, dn, dc, ca, cn, cc, ta, tn, tc⟩ := p
  obtain ⟨nk, nn, nd, ni, no, nr⟩ := hn
  simp only at nk nn nd ni no
  have HNR := Lib.hid nr
  have ldn : da.length = dn := hf.d.1
  have lcn : ci.length = cn := hf.c.1
  have ltn : tk.length = tn := hf.t.1
  have hrn : rn ≤ maxLen := by have := hf.rb; simp only at this; omega
  have hdn : dn ≤ 9223372036854775807 := by have := hf.db; simp only [maxLen] at this; omega
  have hcn : cn ≤ 9223372036854775807 := by have := hf.cb; simp only [maxLen] at this; omega
  have htn : tn ≤ 9223372036854775807 := by have := hf.tb; simp only [maxLen] at this; omega
  have wdn : IntKind.u64.wrap (dn : Int) = (dn : Int) := by rw [wrap_u64N]; omega
  have B0 : Hid (∀ o1, Below w.heap.size w (w.alloc o1)) := fun _ => (Below.refl _ _).alloc (Nat.le_refl _) _
  simp only [wbF] at hb
  rw [ldn, lcn, ltn] at hb
  unfold maxV at hb
  have HRN := Lib.hid hrn
  clear hf nr ldn lcn ltn hrn
  have hways : k = 0 ∨ k = 1 ∨ k = 2 ∨ k = 6 ∨ k = 8 ∨ k = 16 ∨ k = 24 ∨ k = 25 ∨ k = 26 ∨ k = 27 ∨ k = 28 ∨ k = 30 ∨ (k ≠ 0 ∧ k ≠ 1 ∧ k ≠ 2 ∧ k ≠ 6 ∧ k ≠ 8 ∧ k ≠ 16 ∧ k ≠ 24 ∧ k ≠ 25 ∧ k ≠ 26 ∧ k ≠ 27 ∧ k ≠ 28 ∧ k ≠ 30) := by omega
  rcases hways with rfl | rfl | rfl | rfl | rfl | rfl | rfl | rfl | rfl | rfl | rfl | rfl | ⟨h0, h1, h2, h6, h8, h16, h24, h25, h26, h27, h28, h30⟩
  · simp at hb
    by_cases c1 : 1 ≤ n
    · have t1 : decide ((1 : Int) ≤ (n : Int)) = true := by simp; omega
      by_cases c2 : n ≤ 16384
      · have t2 : decide ((n : Int) ≤ 16384) = true := by simp; omega
        obtain rfl : b = true := hb.2 (by first | trivial | omega)
        clear hb
        unfold frV
        go_enter Try.func34, Try.ntmps34
        go_wp2
        go_ret
        exact ⟨rfl, B0.out _⟩
      · have t2 : decide ((n : Int) ≤ 16384) = false := by simp; omega
        obtain rfl : b = false := by
          cases b with
          | false => rfl
          | true => have := hb.1 rfl; omega
        clear hb
        unfold frV
        go_enter Try.func34, Try.ntmps34
        go_wp2
        go_ret
        exact ⟨rfl, B0.out _⟩
    · have t1 : decide ((1 : Int) ≤ (n : Int)) = false := by simp; omega
      obtain rfl : b = false := by
        cases b with
        | false => rfl
        | true => have := hb.1 rfl; omega
      clear hb
      unfold frV
      go_enter Try.func34, Try.ntmps34
      go_wp2
      go_ret
      exact ⟨rfl, B0.out _⟩
  · simp at hb
    subst hb
    unfold frV
    go_enter Try.func34, Try.ntmps34
    go_wp2
    go_ret
    exact ⟨rfl, B0.out _⟩
  · simp at hb
    by_cases c1 : d ≤ 4611686018427387903
    · have t1 : decide ((d : Int) ≤ 4611686018427387903) = true := by simp; omega
      simp only [c1, true_and] at hb
      have HM := Lib.hid (fun u hu => mayRanges_any rs ra rn rc B u (Nat.le_trans hB (Below.size hu)) (HP.out u hu).r HNR.out HRN.out b hb)
      clear hb
      unfold frV
      go_enter Try.func34, Try.ntmps34
      go_wp2_with fail
      (with_reducible refine (HM.out _ ?hu).mono ?_)
      case hu => exact B0.out _
      rintro e1 w1 ⟨rfl, b1⟩
      go_wp2_with fail
      go_ret
      exact ⟨by first | rfl | simp, (B0.out _).trans (b1.mono (by simp))⟩
    · have t1 : decide ((d : Int) ≤ 4611686018427387903) = false := by simp; omega
      obtain rfl : b = false := by
        cases b with
        | false => rfl
        | true => have := hb.1 rfl; omega
      clear hb
      unfold frV
      go_enter Try.func34, Try.ntmps34
      go_wp2
      go_ret
      exact ⟨rfl, B0.out _⟩
  · simp at hb
    have HM := Lib.hid (fun u => mayPiece_any of dn no (by omega) b (by unfold maxV; rw [← Bool.coe_iff_coe, hb]; simp) u)
    clear hb
    unfold frV
    go_enter Try.func34, Try.ntmps34
    go_wp2_with fail
    (with_reducible refine (HM.out _).mono ?_)
    rintro e1 w1 ⟨rfl, rfl⟩
    go_wp2_with fail
    go_ret
    exact ⟨by first | rfl | simp, B0.out _⟩
  · simp at hb
    by_cases c1 : id ≤ 4611686018427387903
    · have t1 : decide ((id : Int) ≤ 4611686018427387903) = true := by simp; omega
      simp only [c1, true_and] at hb
      have HM := Lib.hid (fun u => mayPiece_any of dn no (by omega) b (by unfold maxV; rw [← Bool.coe_iff_coe, hb]; simp) u)
      clear hb
      unfold frV
      go_enter Try.func34, Try.ntmps34
      go_wp2_with fail
      (with_reducible refine (HM.out _).mono ?_)
      rintro e1 w1 ⟨rfl, rfl⟩
      go_wp2_with fail
      go_ret
      exact ⟨by first | rfl | simp, B0.out _⟩
    · have t1 : decide ((id : Int) ≤ 4611686018427387903) = false := by simp; omega
      obtain rfl : b = false := by
        cases b with
        | false => rfl
        | true => have := hb.1 rfl; omega
      clear hb
      unfold frV
      go_enter Try.func34, Try.ntmps34
      go_wp2
      go_ret
      exact ⟨rfl, B0.out _⟩
  · simp at hb
    by_cases c1 : n ≤ 4611686018427387903
    · have t1 : decide ((n : Int) ≤ 4611686018427387903) = true := by simp; omega
      obtain rfl : b = true := hb.2 (by first | trivial | omega)
      clear hb
      unfold frV
      go_enter Try.func34, Try.ntmps34
      go_wp2
      go_ret
      exact ⟨rfl, B0.out _⟩
    · have t1 : decide ((n : Int) ≤ 4611686018427387903) = false := by simp; omega
      obtain rfl : b = false := by
        cases b with
        | false => rfl
        | true => have := hb.1 rfl; omega
      clear hb
      unfold frV
      go_enter Try.func34, Try.ntmps34
      go_wp2
      go_ret
      exact ⟨rfl, B0.out _⟩
  · simp at hb
    by_cases c1 : n ≤ 4611686018427387903
    · have t1 : decide ((n : Int) ≤ 4611686018427387903) = true := by simp; omega
      by_cases c2 : cn = 8
      · have t2 : ((cn : Int) == 8) = true := by simp; omega
        by_cases c3 : tn = 16
        · have t3 : ((tn : Int) == 16) = true := by simp; omega
          obtain rfl : b = true := hb.2 (by first | trivial | omega)
          clear hb
          unfold frV
          go_enter Try.func34, Try.ntmps34
          go_wp2
          go_ret
          exact ⟨rfl, B0.out _⟩
        · have t3 : ((tn : Int) == 16) = false := by simp; omega
          obtain rfl : b = false := by
            cases b with
            | false => rfl
            | true => have := hb.1 rfl; omega
          clear hb
          unfold frV
          go_enter Try.func34, Try.ntmps34
          go_wp2
          go_ret
          exact ⟨rfl, B0.out _⟩
      · have t2 : ((cn : Int) == 8) = false := by simp; omega
        obtain rfl : b = false := by
          cases b with
          | false => rfl
          | true => have := hb.1 rfl; omega
        clear hb
        unfold frV
        go_enter Try.func34, Try.ntmps34
        go_wp2
        go_ret
        exact ⟨rfl, B0.out _⟩
    · have t1 : decide ((n : Int) ≤ 4611686018427387903) = false := by simp; omega
      obtain rfl : b = false := by
        cases b with
        | false => rfl
        | true => have := hb.1 rfl; omega
      clear hb
      unfold frV
      go_enter Try.func34, Try.ntmps34
      go_wp2
      go_ret
      exact ⟨rfl, B0.out _⟩
  · simp at hb
    by_cases c1 : n ≤ 4611686018427387903
    · have t1 : decide ((n : Int) ≤ 4611686018427387903) = true := by simp; omega
      obtain rfl : b = true := hb.2 (by first | trivial | omega)
      clear hb
      unfold frV
      go_enter Try.func34, Try.ntmps34
      go_wp2
      go_ret
      exact ⟨rfl, B0.out _⟩
    · have t1 : decide ((n : Int) ≤ 4611686018427387903) = false := by simp; omega
      obtain rfl : b = false := by
        cases b with
        | false => rfl
        | true => have := hb.1 rfl; omega
      clear hb
      unfold frV
      go_enter Try.func34, Try.ntmps34
      go_wp2
      go_ret
      exact ⟨rfl, B0.out _⟩
  · simp at hb
    by_cases c1 : dn = 8
    · have t1 : ((dn : Int) == 8) = true := by simp; omega
      obtain rfl : b = true := hb.2 (by first | trivial | omega)
      clear hb
      unfold frV
      go_enter Try.func34, Try.ntmps34
      go_wp2
      go_ret
      exact ⟨rfl, B0.out _⟩
    · have t1 : ((dn : Int) == 8) = false := by simp; omega
      obtain rfl : b = false := by
        cases b with
        | false => rfl
        | true => have := hb.1 rfl; omega
      clear hb
      unfold frV
      go_enter Try.func34, Try.ntmps34
      go_wp2
      go_ret
      exact ⟨rfl, B0.out _⟩
  · simp at hb
    by_cases c1 : dn = 8
    · have t1 : ((dn : Int) == 8) = true := by simp; omega
      obtain rfl : b = true := hb.2 (by first | trivial | omega)
      clear hb
      unfold frV
      go_enter Try.func34, Try.ntmps34
      go_wp2
      go_ret
      exact ⟨rfl, B0.out _⟩
    · have t1 : ((dn : Int) == 8) = false := by simp; omega
      obtain rfl : b = false := by
        cases b with
        | false => rfl
        | true => have := hb.1 rfl; omega
      clear hb
      unfold frV
      go_enter Try.func34, Try.ntmps34
      go_wp2
      go_ret
      exact ⟨rfl, B0.out _⟩
  · simp at hb
    by_cases c1 : n ≤ 4611686018427387903
    · have t1 : decide ((n : Int) ≤ 4611686018427387903) = true := by simp; omega
      obtain rfl : b = true := hb.2 (by first | trivial | omega)
      clear hb
      unfold frV
      go_enter Try.func34, Try.ntmps34
      go_wp2
      go_ret
      exact ⟨rfl, B0.out _⟩
    · have t1 : decide ((n : Int) ≤ 4611686018427387903) = false := by simp; omega
      obtain rfl : b = false := by
        cases b with
        | false => rfl
        | true => have := hb.1 rfl; omega
      clear hb
      unfold frV
      go_enter Try.func34, Try.ntmps34
      go_wp2
      go_ret
      exact ⟨rfl, B0.out _⟩
  · simp at hb
    subst hb
    unfold frV
    go_enter Try.func34, Try.ntmps34
    go_wp2
    go_ret
    exact ⟨rfl, B0.out _⟩
  · have t0 : (k == 0) = false := by simp; omega
    have t1 : (k == 1) = false := by simp; omega
    have t2 : (k == 2) = false := by simp; omega
    have t6 : (k == 6) = false := by simp; omega
    have t8 : (k == 8) = false := by simp; omega
    have t16 : (k == 16) = false := by simp; omega
    have t24 : (k == 24) = false := by simp; omega
    have t25 : (k == 25) = false := by simp; omega
    have t26 : (k == 26) = false := by simp; omega
    have t27 : (k == 27) = false := by simp; omega
    have t28 : (k == 28) = false := by simp; omega
    have t30 : (k == 30) = false := by simp; omega
    simp only [h0, h1, h2, h6, h8, h16, h24, h25, h26, h27, h28, h30, or_self, if_false] at hb
    obtain rfl : b = false := by simpa using hb
    clear hb h0 h1 h2 h6 h8 h16 h24 h25 h26 h27 h28 h30
    unfold frV
    go_enter Try.func34, Try.ntmps34
    go_wp2
    go_ret
    exact ⟨rfl, B0.out _⟩
set_option maxHeartbeats 4000000 in
theorem may_any (f : Fr) (p : Fp) (B : Nat) (w : World) (hB : B ≤ w.heap.size) (hf : FrL w B f p) (hn : FrN f) (b : Bool) (hb : b = true ↔ MayF f) :
    Calls Try.prog 14 #[.agg (frV f p).toArray] w fun e w' => e = .returned (.bool b) ∧ Below w.heap.size w w' := by
  rw [may_iff] at hb
  have HSZ := Lib.hid (frV_size f p)
  have HP : Hid (∀ u : World, Below w.heap.size w u → FrL u B f p) := fun u hu => hf.below (hu.mono hB)
  have HWB : Hid (∀ (u : World) (c : Bool), Below w.heap.size w u → (c = true ↔ wbF f) → Calls Try.prog 34 #[.agg (frV f p).toArray] u fun e w' => e = .returned (.bool c) ∧ Below u.heap.size u w') := fun u c hu hc => wb_any f p B u (Nat.le_trans hB hu.size) (HP.out u hu) hn c hc
  have HOW : Hid (∀ u : World, Calls Try.prog 35 #[.agg (frV f p).toArray] u fun e w' => e = .returned (.agg (frV (ownF f) (ownP f.kind p)).toArray) ∧ Below u.heap.size u w') := fun u => own_any f p u
  have HSM : Hid (∀ (u : World) (c : Bool), Below w.heap.size w u → decide (f = ownF f) = c → Calls Try.prog 19 #[.agg (frV f p).toArray, .agg (frV (ownF f) (ownP f.kind p)).toArray] u fun e w' => e = .returned (.bool c) ∧ Below u.heap.size u w') := fun u c hu hc => fsame_any f (ownF f) p (ownP f.kind p) B u (Nat.le_trans hB hu.size) (HP.out u hu) (ownL (HP.out u hu)) c hc
  have B0 : Hid (∀ o1, Below w.heap.size w (w.alloc o1)) := fun _ => (Below.refl _ _).alloc (Nat.le_refl _) _
  clear hf hn
  obtain ⟨vs, hvs⟩ : ∃ vs, frV f p = vs := ⟨_, rfl⟩
  obtain ⟨us, hus⟩ : ∃ vs, frV (ownF f) (ownP f.kind p) = vs := ⟨_, rfl⟩
  rw [hvs] at HSZ HWB HOW HSM ⊢
  rw [hus] at HOW HSM
  clear hvs hus
  have HR : Hid (∀ u : World, Below (w.alloc (.cells vs.toArray 26)).heap.size (w.alloc (.cells vs.toArray 26)) u → u.rangeAt w.heap.size 0 vs ∧ Below w.heap.size w u) := fun u hu =>
    ⟨range_row (t := 26) (fr := (0, 0)) ((show Rw _ w.heap.size 26 vs from heap_allocs w [_] 0 _ rfl).below hu), (B0.out _).trans (hu.mono (by simp))⟩
  obtain ⟨c1, hc1⟩ : ∃ c : Bool, c = true ↔ wbF f := ⟨@decide (wbF f) (Classical.propDecidable _), by simp⟩
  obtain ⟨c2, hc2⟩ : ∃ c : Bool, decide (f = ownF f) = c := ⟨_, rfl⟩
  have hb2 : b = (c1 && c2) := by
    rw [← Bool.coe_iff_coe, hb, ← hc1]
    simp [← hc2]
  have HC1 := Lib.hid hc1
  have HC2 := Lib.hid hc2
  clear hb hc1 hc2
  obtain ⟨w1, hw1⟩ : ∃ w1, w.alloc (.cells vs.toArray 26) = w1 := ⟨_, rfl⟩
  have HW1 : Hid (Below w.heap.size w w1) := show Below _ _ _ by rw [← hw1]; exact B0.out _
  have hS : w1.rangeAt w.heap.size 0 vs := by rw [← hw1]; exact (HR.out _ (Below.refl _ _)).1
  rw [hw1] at HR
  have HWC := Lib.hid (fun u hu => HWB.out u c1 hu HC1.out)
  clear HC1 HWB
  cases c1 with
  | true =>
    go_enter Try.func14, Try.ntmps14
    go_wp2_with fail
    clear hw1
    refine wp_held (S := fun u => u.rangeAt w.heap.size 0 vs) (by kernel_rfl) ?_
    have hS : w1.drew.rangeAt w.heap.size 0 vs := hS
    have b0 : Below w1.heap.size w1 w1.drew := (Below.refl _ _).drew
    refine wpAnyH_pickG 0 (.agg vs.toArray) rfl (by kernel_rfl) (by kernel_rfl) (by kernel_rfl) (by rfl) (fun _ _ _ h => h) (fun u hu => exec_load_mid u 26 (.tmp 1) rfl w.heap.size 0 (by with_unfolding_all rfl) vs _ hu Try.underlying26 rfl HSZ.out) hS ?_
    go_simp
    refine wpAnyH_oneG 1 (by kernel_rfl) rfl (by rfl) ?_
    go_wp2_with fail
    (with_reducible refine (HWC.out _ (HR.out _ b0).2).mono ?_)
    rintro e1 w1 ⟨rfl, bb⟩
    have b1 := b0.trans (bb.mono b0.size)
    clear bb
    obtain ⟨hS1, _⟩ := HR.out _ b1
    refine ⟨hS1, ?_⟩
    clear hS
    have hS := hS1
    go_simp
    refine wpAnyH_take (i := 2) (v := ?_) rfl (by kernel_rfl) (by kernel_rfl) (by kernel_rfl) (fun _ _ _ h => h) (Or.inl ⟨by rfl, ?_⟩) hS ?_
    rotate_left 1
    · intro u hu
      go_simp
      first | done | with_reducible rfl
    go_simp
    refine wpAnyH_pickG 3 (.agg vs.toArray) rfl (by kernel_rfl) (by kernel_rfl) (by kernel_rfl) (by rfl) (fun _ _ _ h => h) (fun u hu => exec_load_mid u 26 (.tmp 1) rfl w.heap.size 0 (by with_unfolding_all rfl) vs _ hu Try.underlying26 rfl HSZ.out) hS ?_
    go_simp
    refine wpAnyH_pickG 4 (.agg vs.toArray) rfl (by kernel_rfl) (by kernel_rfl) (by kernel_rfl) (by rfl) (fun _ _ _ h => h) (fun u hu => exec_load_mid u 26 (.tmp 1) rfl w.heap.size 0 (by with_unfolding_all rfl) vs _ hu Try.underlying26 rfl HSZ.out) hS ?_
    go_simp
    refine wpAnyH_oneG 5 (by kernel_rfl) rfl (by rfl) ?_
    go_wp2_with fail
    (with_reducible refine (HOW.out _).mono ?_)
    rintro e2 w2 ⟨rfl, bb⟩
    have b2 := b1.trans (bb.mono b1.size)
    clear bb
    obtain ⟨hS2, _⟩ := HR.out _ b2
    refine ⟨hS2, ?_⟩
    clear hS
    have hS := hS2
    go_simp
    refine wpAnyH_oneG 6 (by kernel_rfl) rfl (by rfl) ?_
    go_wp2_with fail
    (with_reducible refine (HSM.out _ c2 (HR.out _ b2).2 HC2.out).mono ?_)
    rintro e3 w3 ⟨rfl, bb⟩
    have b3 := b2.trans (bb.mono b2.size)
    clear bb
    obtain ⟨hS3, _⟩ := HR.out _ b3
    refine ⟨hS3, ?_⟩
    clear hS
    have hS := hS3
    go_simp
    refine wpAnyH_take (i := 7) (v := ?_) rfl (by kernel_rfl) (by kernel_rfl) (by kernel_rfl) (fun _ _ _ h => h) (Or.inl ⟨by rfl, ?_⟩) hS ?_
    rotate_left 1
    · intro u hu
      go_simp
      first | done | with_reducible rfl
    go_simp
    refine wpAnyH_take (i := 8) (v := ?_) rfl (by kernel_rfl) (by kernel_rfl) (by kernel_rfl) (fun _ _ _ h => h) (Or.inl ⟨by rfl, ?_⟩) hS ?_
    rotate_left 1
    · intro u hu
      go_simp
      first | done | with_reducible rfl
    go_simp
    refine wpAnyH_done (by kernel_rfl) ?_ _
    go_wp2_with fail
    go_ret
    exact ⟨by rw [hb2]; first | rfl | simp, (HR.out _ b3).2⟩
  | false =>
    go_enter Try.func14, Try.ntmps14
    go_wp2_with fail
    clear hw1
    refine wp_held (S := fun u => u.rangeAt w.heap.size 0 vs) (by kernel_rfl) ?_
    have hS : w1.drew.rangeAt w.heap.size 0 vs := hS
    have b0 : Below w1.heap.size w1 w1.drew := (Below.refl _ _).drew
    refine wpAnyH_pickG 0 (.agg vs.toArray) rfl (by kernel_rfl) (by kernel_rfl) (by kernel_rfl) (by rfl) (fun _ _ _ h => h) (fun u hu => exec_load_mid u 26 (.tmp 1) rfl w.heap.size 0 (by with_unfolding_all rfl) vs _ hu Try.underlying26 rfl HSZ.out) hS ?_
    go_simp
    refine wpAnyH_oneG 1 (by kernel_rfl) rfl (by rfl) ?_
    go_wp2_with fail
    (with_reducible refine (HWC.out _ (HR.out _ b0).2).mono ?_)
    rintro e1 w1 ⟨rfl, bb⟩
    have b1 := b0.trans (bb.mono b0.size)
    clear bb
    obtain ⟨hS1, _⟩ := HR.out _ b1
    refine ⟨hS1, ?_⟩
    clear hS
    have hS := hS1
    go_simp
    refine wpAnyH_take (i := 2) (v := ?_) rfl (by kernel_rfl) (by kernel_rfl) (by kernel_rfl) (fun _ _ _ h => h) (Or.inl ⟨by rfl, ?_⟩) hS ?_
    rotate_left 1
    · intro u hu
      go_simp
      first | done | with_reducible rfl
    go_simp
    refine wpAnyH_take (i := 3) (v := undef) rfl (by kernel_rfl) (by kernel_rfl) (by kernel_rfl) (fun _ _ _ h => h) (Or.inr ⟨by rfl, rfl⟩) hS ?_
    go_simp
    refine wpAnyH_take (i := 4) (v := undef) rfl (by kernel_rfl) (by kernel_rfl) (by kernel_rfl) (fun _ _ _ h => h) (Or.inr ⟨by rfl, rfl⟩) hS ?_
    go_simp
    refine wpAnyH_take (i := 5) (v := undef) rfl (by kernel_rfl) (by kernel_rfl) (by kernel_rfl) (fun _ _ _ h => h) (Or.inr ⟨by rfl, rfl⟩) hS ?_
    go_simp
    refine wpAnyH_take (i := 6) (v := undef) rfl (by kernel_rfl) (by kernel_rfl) (by kernel_rfl) (fun _ _ _ h => h) (Or.inr ⟨by rfl, rfl⟩) hS ?_
    go_simp
    refine wpAnyH_take (i := 7) (v := ?_) rfl (by kernel_rfl) (by kernel_rfl) (by kernel_rfl) (fun _ _ _ h => h) (Or.inl ⟨by rfl, ?_⟩) hS ?_
    rotate_left 1
    · intro u hu
      go_simp
      first | done | with_reducible rfl
    go_simp
    refine wpAnyH_take (i := 8) (v := ?_) rfl (by kernel_rfl) (by kernel_rfl) (by kernel_rfl) (fun _ _ _ h => h) (Or.inl ⟨by rfl, ?_⟩) hS ?_
    rotate_left 1
    · intro u hu
      go_simp
      first | done | with_reducible rfl
    go_simp
    refine wpAnyH_done (by kernel_rfl) ?_ _
    go_wp2_with fail
    go_ret
    exact ⟨by rw [hb2]; first | rfl | simp, (HR.out _ b1).2⟩
end Go.Proofs.Ytcipmfhacloegaa
