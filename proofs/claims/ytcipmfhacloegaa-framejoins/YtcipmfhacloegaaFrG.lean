/-
  How ranges are laid: bytes put behind bytes, kindLaid, putAck.
-/
import Derived.Test.YtcipmfhacloegaaFrE
import Derived.Test.YtcipmfhacloegaaVarintC
import Derived.StillTailTactics
namespace Go.Proofs.Ytcipmfhacloegaa
open Go.RowKit
set_option linter.unusedVariables false

/-- what a call answers that makes bytes -/
def MakesB (w : World) (l : List UInt8) (e : Ending) (w' : World) : Prop :=
  ∃ A n c, e = .returned (.slice A n c) ∧ Own w' w.heap.size (.slice A n c) n l ∧ Below w.heap.size w w'
theorem vput (l : List UInt8) (A : Option Addr) (n c B v : Nat) (w : World) (h : Sl w B A n l) (hB : B ≤ w.heap.size) (hm : n ≤ 1000000) (hv : v < 18446744073709551616) :
    Calls Try.prog 30 #[.slice A n c, .int .u64 (v : Int)] w (MakesB w (l ++ enc v)) :=
  (put_any l A n c B v w h hB (by omega) hv).mono fun e w' ⟨A', c', he, ho, _, _, hb⟩ => ⟨A', _, c', he, ho, hb⟩
theorem enc_le (v : Nat) : (enc v).length ≤ 8 := by
  by_cases hv : v ≤ maxV
  · obtain ⟨k, hk, e, hl, _⟩ := enc_length v hv
    rw [hl]
    have := Nat.pow_le_pow_right (show 0 < 2 by omega) hk
    omega
  · have : enc v = [] := by unfold enc; rw [if_neg (by unfold maxV at hv; omega)]
    rw [this]
    simp
/-- what of ranges is laid behind how many there are -/
def bodyR : List (Nat × Nat) → List UInt8
  | [] => []
  | (lo, hi) :: t => enc (hi - lo) ++ putRs lo t
def lastLo : Nat → List (Nat × Nat) → Nat
  | p, [] => p
  | _, y :: t => lastLo y.1 t
theorem lastLo_snoc (p : Nat) (t : List (Nat × Nat)) (y : Nat × Nat) : lastLo p (t ++ [y]) = y.1 := by
  induction t generalizing p with
  | nil => rfl
  | cons z t ih => exact ih z.1
theorem putRs_snoc (p : Nat) (t : List (Nat × Nat)) (x : Nat × Nat) : putRs p (t ++ [x]) = putRs p t ++ (enc (lastLo p t - x.2 - 2) ++ enc (x.2 - x.1)) := by
  induction t generalizing p with
  | nil => simp [putRs, lastLo]
  | cons y t ih =>
    simp only [List.cons_append, putRs, lastLo]
    rw [ih]
    simp
theorem bodyR_zero (rs : List (Nat × Nat)) (h : 0 < rs.length) : bodyR (rs.take 1) = enc ((rs.getD 0 (0, 0)).2 - (rs.getD 0 (0, 0)).1) := by
  cases rs with
  | nil => simp at h
  | cons x t => simp [bodyR, putRs]
theorem bodyR_succ (rs : List (Nat × Nat)) (j : Nat) (h : j + 1 < rs.length) :
    bodyR (rs.take (j + 1 + 1)) = bodyR (rs.take (j + 1)) ++ (enc ((rs.getD j (0, 0)).1 - (rs.getD (j + 1) (0, 0)).2 - 2) ++ enc ((rs.getD (j + 1) (0, 0)).2 - (rs.getD (j + 1) (0, 0)).1)) := by
  cases rs with
  | nil => simp at h
  | cons x t =>
    have ht : j < t.length := by simpa using h
    have e : (x :: t).take (j + 1 + 1) = x :: (t.take j ++ [t[j]]) := by
      simp only [List.take_succ_cons]
      rw [List.take_succ_eq_append_getElem ht]
    rw [e]
    have e2 : (x :: t).take (j + 1) = x :: t.take j := by simp
    rw [e2]
    simp only [bodyR]
    rw [putRs_snoc, ← List.append_assoc]
    congr 1
    have e3 : (x :: t).getD (j + 1) (0, 0) = t[j] := by simp [ht]
    rw [e3]
    congr 1
    congr 2
    congr 1
    cases j with
    | zero => simp [lastLo]
    | succ j =>
      rw [List.take_succ_eq_append_getElem (by omega), lastLo_snoc]
      simp [show j < t.length by omega]
theorem kindLaid_any (f : Fr) (p : Fp) (k : Nat) (hk : f.kind = (k : Int)) (h63 : k < 64) (v : Nat) (hv : (if k = 8 then (if f.fin = true then 15 else 14) else k) = v) (w : World) :
    Calls Try.prog 31 #[.agg (frV f p).toArray] w fun e w' => e = .returned (.int .u64 (v : Int)) ∧ Below w.heap.size w w' := by
  obtain ⟨K, n, d, rs, id, of, fi, da, ci, tk⟩ := f
  simp only at hk hv
  subst hk
  unfold frV
  by_cases h8 : k = 8
  · subst h8
    rw [if_pos rfl] at hv
    cases fi with
    | true =>
      rw [if_pos rfl] at hv
      subst hv
      go_enter Try.func31, Try.ntmps31
      go_wp2
      go_ret
      exact ⟨rfl, (Below.refl _ _).alloc (Nat.le_refl _) _⟩
    | false =>
      rw [if_neg (by simp)] at hv
      subst hv
      go_enter Try.func31, Try.ntmps31
      go_wp2
      go_ret
      exact ⟨rfl, (Below.refl _ _).alloc (Nat.le_refl _) _⟩
  · rw [if_neg h8] at hv
    subst hv
    have t1 : ((k : Int) != 8) = true := by simp; omega
    have wk : IntKind.u64.wrap (k : Int) = (k : Int) := by rw [wrap_u64N]; omega
    go_enter Try.func31, Try.ntmps31
    go_wp2
    go_ret
    exact ⟨rfl, (Below.refl _ _).alloc (Nat.le_refl _) _⟩
set_option maxHeartbeats 4000000 in
set_option maxRecDepth 4000 in
theorem putAck_any (f : Fr) (p : Fp) (B : Nat) (l : List UInt8) (A : Option Addr) (n c B' : Nat) (w : World) (hB : B ≤ w.heap.size) (hf : FrL w B f p) (hn : FrN f) (hr : RangesP f.rs) (hd : f.delay ≤ maxV) (hs : Sl w B' A n l) (hB' : B' ≤ w.heap.size) (hnl : n ≤ 100) :
    Calls Try.prog 32 #[.slice A n c, .agg (frV f p).toArray] w (MakesB w (l ++ (enc (f.rs.getD 0 (0, 0)).2 ++ (enc f.delay ++ (enc (f.rs.length - 1) ++ bodyR f.rs))))) := by
  obtain ⟨hl1, hl8, hcond⟩ := (ranges_index _).1 hr
  have HCD : Hid (∀ i, i < f.rs.length → condR f.rs i) := hcond
  have HP : Hid (∀ u : World, Below w.heap.size w u → FrL u B f p ∧ Sl u B' A n l) := fun u hu => ⟨hf.below (hu.mono hB), hs.below (hu.mono hB')⟩
  obtain ⟨vs, hvs⟩ : ∃ vs, frV f p = vs := ⟨_, rfl⟩
  have HVS := Lib.hid hvs
  obtain ⟨K, N, d, rs, id, of, fi, da, ci, tk⟩ := f
  obtain ⟨ra, rn, rc, dA, dn, dc, ca, cn, cc, ta, tn, tc⟩ := p
  have hrn : rs.length = rn := hf.r.1
  simp only at hl1 hl8 hcond hd ⊢
  rw [hrn] at hl1 hl8 hcond
  obtain ⟨bk, off, rfl, hbk, _⟩ := hf.r.2 (by show 0 < rn; omega)
  have HRS : Hid (∀ u : World, Below w.heap.size w u → SlR u B (some ⟨bk, off, none⟩) rn rs) := fun u hu => (HP.out u hu).1.r
  have hdm : d ≤ 4611686018427387903 := hd
  have Hrn := Lib.hid hrn
  have B0 : Hid (∀ o1, Below w.heap.size w (w.alloc o1)) := fun _ => (Below.refl _ _).alloc (Nat.le_refl _) _
  obtain ⟨⟨lo0, hi0⟩, hx⟩ : ∃ x, rs.getD 0 (0, 0) = x := ⟨_, rfl⟩
  have c0 := slR_at (HRS.out _ (B0.out (.cells (frV ⟨K, N, d, rs, id, of, fi, da, ci, tk⟩ ⟨some ⟨bk, off, none⟩, rn, rc, dA, dn, dc, ca, cn, cc, ta, tn, tc⟩).toArray 26))) 0 (by omega)
  have hx0 := hcond 0 (by omega)
  unfold condR at hx0
  rw [hx] at c0 hx0 ⊢
  simp only [Nat.zero_mul, Nat.add_zero] at c0 hx0 ⊢
  obtain ⟨c01, c02⟩ := c0
  have hh0 : hi0 ≤ 4611686018427387903 := hx0.2.1
  have Hx := Lib.hid hx
  have wl : IntKind.u64.wrap ((rn : Int) - 1) = ((rn - 1 : Nat) : Int) := by rw [wrap_u64N]; omega
  have wl2 : IntKind.i64.wrap ((rn : Int) - 1) = (rn : Int) - 1 := IntWalk.i64_in _ (by omega)
  clear hf hn hr hd hs hvs hrn hcond hx hx0
  unfold frV at c01 c02 ⊢
  go_enter Try.func32, Try.ntmps32
  go_wp2_with fail
  (with_reducible refine (vput l A n c B' hi0 _ (HP.out _ ?hb).2 (Nat.le_trans hB' ?hz) (by omega) (by omega)).mono ?_)
  case hb => exact B0.out _
  case hz => simp
  rintro e1 w1 ⟨A1, n1, d1, rfl, o1, b1⟩
  have R1 : Hid (Rw w1 w.heap.size 26 vs) := (show Rw _ _ _ vs by rw [← HVS.out]; exact heap_allocs w [_] 0 _ rfl).below b1
  have B1 : Hid (Below w.heap.size w w1) := (B0.out _).trans (b1.mono (by simp))
  have hn1 : n1 ≤ n + 8 := by have := o1.len; have := enc_le hi0; have h3 := (HP.out _ (Below.refl _ w)).2.1; simp only [List.length_append] at *; omega
  have O1 := Lib.hid (o1.base (show w.heap.size ≤ _ by simp))
  clear o1 b1 c01 c02
  obtain ⟨k0, k1, k2, k3, k4, k5, k6, k7, k8, k9⟩ := fr_cells (HVS.out ▸ R1.out)
  simp only at k0 k1 k2 k3 k4 k5 k6 k7 k8 k9
  go_wp2_with fail
  (with_reducible refine (vput _ A1 n1 d1 w1.heap.size d w1 O1.out.sl (Nat.le_refl _) (by omega) (by omega)).mono ?_)
  rintro e2 w2 ⟨A2, n2, d2, rfl, o2, b2⟩
  have R2 := Lib.hid (R1.out.below b2)
  have B2 := Lib.hid (B1.out.trans (b2.mono B1.out.size))
  have hn2 : n2 ≤ n1 + 8 := by have := o2.len; have := enc_le d; have h3 := O1.out.len; simp only [List.length_append] at *; omega
  have O2 := Lib.hid (o2.base B1.out.size)
  clear o2 b2 k0 k1 k2 k3 k4 k5 k6 k7 k8 k9
  obtain ⟨k0, k1, k2, k3, k4, k5, k6, k7, k8, k9⟩ := fr_cells (HVS.out ▸ R2.out)
  simp only at k0 k1 k2 k3 k4 k5 k6 k7 k8 k9
  go_wp2_with fail
  (with_reducible refine (vput _ A2 n2 d2 w2.heap.size (rn - 1) w2 O2.out.sl (Nat.le_refl _) (by omega) (by omega)).mono ?_)
  rintro e3 w3 ⟨A3, n3, d3, rfl, o3, b3⟩
  have R3 := Lib.hid (R2.out.below b3)
  have B3 := Lib.hid (B2.out.trans (b3.mono B2.out.size))
  have hn3 : n3 ≤ n2 + 8 := by have := o3.len; have := enc_le (rn - 1); have h3 := O2.out.len; simp only [List.length_append] at *; omega
  have O3 := Lib.hid (o3.base B2.out.size)
  clear o3 b3 k0 k1 k2 k3 k4 k5 k6 k7 k8 k9
  obtain ⟨k0, k1, k2, k3, k4, k5, k6, k7, k8, k9⟩ := fr_cells (HVS.out ▸ R3.out)
  simp only at k0 k1 k2 k3 k4 k5 k6 k7 k8 k9
  go_wp2_with fail
  obtain ⟨pre, hpre⟩ : ∃ pre, l ++ enc hi0 ++ enc d ++ enc (rn - 1) = pre := ⟨_, rfl⟩
  rw [hpre] at O3
  have HPRE := Lib.hid hpre
  clear hpre k0 k1 k2 k3 k4 k5 k6 k7 k8 k9
  go_loopw [0, 5, 6, 28] (fun b _ _ i wr => ∃ (j : Nat) (A4 : Option Addr) (n4 c4 : Nat), j ≤ rn ∧ i = .int .i64 j ∧ b = .slice A4 n4 c4 ∧ n4 ≤ 200 + 16 * j ∧ Hid (Own wr w.heap.size (.slice A4 n4 c4) n4 (pre ++ bodyR (rs.take j))) ∧ Hid (Below w.heap.size w wr) ∧ Hid (Rw wr w.heap.size 26 vs)) (fun _ _ _ i _ => rn - (intOf i).toNat)
  case atStart => exact ⟨0, A3, n3, d3, by omega, rfl, rfl, by omega, by simpa [bodyR] using O3, B3, R3⟩
  case round =>
    obtain ⟨j, A4, n4, c4, hj, rfl, rfl, hn4, O4, B4, R4⟩ := hrel
    obtain ⟨k0, k1, k2, k3, k4, k5, k6, k7, k8, k9⟩ := fr_cells (HVS.out ▸ R4.out)
    simp only at k0 k1 k2 k3 k4 k5 k6 k7 k8 k9
    by_cases hlt : j < rn
    · obtain ⟨⟨lo, hi⟩, hx⟩ : ∃ x, rs.getD j (0, 0) = x := ⟨_, rfl⟩
      have cj := slR_at (HRS.out _ B4.out) j hlt
      have hcj := HCD.out j (by rw [Hrn.out]; exact hlt)
      unfold condR maxV at hcj
      rw [hx] at cj hcj
      simp only at cj hcj
      obtain ⟨cj1, cj2⟩ := cj
      obtain ⟨hlh, hhm, hpr⟩ := hcj
      have HXj := Lib.hid hx
      have B5 : Hid (∀ o, Below w.heap.size w (wr.alloc o)) := fun o => B4.out.alloc B4.out.size _
      have R5 : Hid (∀ o, Rw (wr.alloc o) w.heap.size 26 vs) := fun o => R4.out.alloc o
      have O5 : Hid (∀ o, Own (wr.alloc o) w.heap.size (.slice A4 n4 c4) n4 (pre ++ bodyR (rs.take j))) := fun o => O4.out.alloc o
      obtain ⟨dd, hdd⟩ : ∃ dd : Nat, hi - lo = dd := ⟨_, rfl⟩
      have wd : (hi : Int) - (lo : Int) = (dd : Int) := by omega
      have Hdd := Lib.hid hdd
      clear hx hdd
      by_cases hj0 : j = 0
      · subst hj0
        simp only [Nat.zero_mul, Nat.add_zero] at cj1 cj2
        clear hpr
        go_wp2_with fail
        (with_reducible refine (vput _ A4 n4 c4 (wr.alloc (.cells #[.int .u64 (lo : Int), .int .u64 (hi : Int)] 44)).heap.size dd _ (O5.out _).sl (Nat.le_refl _) (by omega) (by omega)).mono ?_)
        rintro e6 w6 ⟨A6, n6, d6, rfl, o6, b6⟩
        have hn6 : n6 ≤ n4 + 8 := by have := o6.len; have := enc_le dd; have h3 := O4.out.len; simp only [List.length_append] at *; omega
        go_wp2_with fail
        go_roundw
        case rel =>
          refine ⟨0 + 1, A6, n6, d6, by omega, by go_num, rfl, by omega, ?_, (B5.out _).trans (b6.mono (B5.out _).size), (R5.out _).below b6⟩
          show Own _ _ _ _ _
          rw [bodyR_zero rs (by rw [Hrn.out]; exact hlt), HXj.out]
          simp only
          rw [Hdd.out]
          have := o6.base (B5.out _).size
          simpa [bodyR] using this
        case measure => simp [intOf]; omega
      · obtain ⟨i, rfl⟩ : ∃ i, j = i + 1 := ⟨j - 1, by omega⟩
        obtain ⟨⟨plo, phi⟩, hp⟩ : ∃ x, rs.getD i (0, 0) = x := ⟨_, rfl⟩
        have cI := slR_at (HRS.out _ (B5.out (.cells #[.int .u64 (lo : Int), .int .u64 (hi : Int)] 44))) i (by omega)
        have hci := HCD.out i (by rw [Hrn.out]; omega)
        have hpp := hpr (by omega)
        unfold condR maxV at hci
        rw [show i + 1 - 1 = i by omega] at hpp
        rw [hp] at cI hci hpp
        simp only at cI hci hpp
        obtain ⟨ci1, ci2⟩ := cI
        have hpm : plo ≤ 4611686018427387903 := by omega
        have Hp := Lib.hid hp
        have wi : IntKind.i64.wrap ((i : Int) + 1 - 1) = (i : Int) := by rw [show (i : Int) + 1 - 1 = (i : Int) by omega]; exact IntWalk.i64_in _ (by omega)
        have hin : i < rn := by omega
        have wi2 : IntKind.i64.wrap (i : Int) = (i : Int) := IntWalk.i64_in _ (by omega)
        obtain ⟨g1, hg1⟩ : ∃ g : Nat, plo - hi = g := ⟨_, rfl⟩
        obtain ⟨g2, hg2⟩ : ∃ g : Nat, plo - hi - 2 = g := ⟨_, rfl⟩
        have w1' : IntKind.u64.wrap ((plo : Int) - (hi : Int)) = (g1 : Int) := by rw [wrap_u64N]; omega
        have w2' : IntKind.u64.wrap ((g1 : Int) - 2) = (g2 : Int) := by rw [wrap_u64N]; omega
        have Hg2 := Lib.hid hg2
        have q3 : (wr.alloc (.cells #[.int .u64 (lo : Int), .int .u64 (hi : Int)] 44)).cell? ⟨w.heap.size, 3, none⟩ = some (Value.slice (some { block := bk, off := off }) rn rc) := (fr_cells (HVS.out ▸ (R5.out _))).2.2.2.1
        have hg2m : g2 < 18446744073709551616 := by omega
        clear hpr hp hg1 hg2 hci hpp ci2
        go_wp2_with fail
        refine wp_tail 12 (by kernel_rfl) (by kernel_rfl) ?_
        simp only [List.take_succ_cons, List.take_zero, List.drop_succ_cons, List.drop_zero]
        repeat still_step
        refine wpStill_nil ?_
        go_wp2_with fail
        (with_reducible refine (vput _ A4 n4 c4 (wr.alloc (.cells #[.int .u64 (lo : Int), .int .u64 (hi : Int)] 44)).heap.size g2 _ (O5.out _).sl.drew (by simp) (by omega) hg2m).mono ?_)
        rintro e6 w6 ⟨A6, n6, d6, rfl, o6, b6⟩
        have hn6 : n6 ≤ n4 + 8 := by have := o6.len; have := enc_le g2; have h3 := O4.out.len; simp only [List.length_append] at *; omega
        have hb6 : Below (wr.alloc (.cells #[.int .u64 (lo : Int), .int .u64 (hi : Int)] 44)).heap.size (wr.alloc (.cells #[.int .u64 (lo : Int), .int .u64 (hi : Int)] 44)) w6 := ((Below.refl _ _).drew).trans b6
        have Q6 : Rw w6 wr.heap.size 44 [.int .u64 (lo : Int), .int .u64 (hi : Int)] := (show Rw _ _ _ _ from heap_alloc_new wr _).below hb6
        have q60 := Q6.cell 0 _ rfl
        have q61 := Q6.cell 1 _ rfl
        have O6 := Lib.hid o6
        have B6 := Lib.hid ((B5.out _).trans (hb6.mono (B5.out _).size))
        have R6 := Lib.hid ((R5.out _).below hb6)
        have HZ : Hid (w.heap.size ≤ (wr.alloc (.cells #[.int .u64 (lo : Int), .int .u64 (hi : Int)] 44)).drew.heap.size) := (B5.out _).size
        clear o6 b6 hb6 Q6 k0 k1 k2 k3 k4 k5 k6 k7 k8 k9
        go_wp2_with fail
        (with_reducible refine (vput _ A6 n6 d6 w6.heap.size dd _ O6.out.sl (Nat.le_refl _) (by omega) (by omega)).mono ?_)
        rintro e7 w7 ⟨A7, n7, d7, rfl, o7, b7⟩
        have hn7 : n7 ≤ n6 + 8 := by have := o7.len; have := enc_le dd; have h3 := O6.out.len; simp only [List.length_append] at *; omega
        go_wp2_with fail
        go_roundw
        case rel =>
          refine ⟨i + 1 + 1, A7, n7, d7, by omega, by go_num, rfl, by omega, ?_, B6.out.trans (b7.mono B6.out.size), R6.out.below b7⟩
          show Own _ _ _ _ _
          rw [bodyR_succ rs i (by rw [Hrn.out]; exact hlt), HXj.out, Hp.out]
          simp only
          rw [Hdd.out, Hg2.out]
          have := o7.base B6.out.size
          simpa [List.append_assoc] using this
        case measure => simp [intOf]; omega
    · go_wp2
      go_ret
      obtain rfl : j = rn := by omega
      refine ⟨A4, n4, c4, rfl, ?_, B4.out⟩
      have := O4.out
      rw [List.take_of_length_le (by rw [Hrn.out]; omega), ← HPRE.out] at this
      simpa [List.append_assoc, Hrn.out] using this
end Go.Proofs.Ytcipmfhacloegaa
