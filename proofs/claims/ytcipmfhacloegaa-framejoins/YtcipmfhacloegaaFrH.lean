/-
  How a frame is laid: frame.Put. (A theorem a kind, written out by a small program.)
-/
import Derived.Test.YtcipmfhacloegaaFrF
import Derived.Test.YtcipmfhacloegaaFrG
import Derived.Test.YtcipmfhacloegaaHkZU
import Derived.Test.YtcipmfhacloegaaVarintE
namespace Go.Proofs.Ytcipmfhacloegaa
open Go.RowKit
set_option linter.unusedVariables false

theorem sl_lit2 (w : World) (x y : UInt8) : Sl (w.alloc (.cells #[bv x, bv y] 5)) (w.heap.size + 1) (some ⟨w.heap.size, 0, none⟩) 2 [x, y] := by
  refine ⟨rfl, fun _ => ⟨w.heap.size, 0, rfl, by omega, fun j hj => ?_⟩⟩
  have : j = 0 ∨ j = 1 := by simp at hj; omega
  rcases this with rfl | rfl <;> simp
set_option maxHeartbeats 4000000 in
set_option maxRecDepth 4000 in
theorem fput_1 (f : Fr) (p : Fp) (B : Nat) (w : World) (hB : B ≤ w.heap.size) (hf : FrL w B f p) (hn : FrN f) (hm : MayF f) (hk : f.kind = 1) :
    Calls Try.prog 12 #[.agg (frV f p).toArray] w (MakesB w (putF f)) := by
  have hwb := ((may_iff f).1 hm).1
  have HP : Hid (∀ u : World, Below w.heap.size w u → FrL u B f p) := fun u hu => hf.below (hu.mono hB)
  have HSZ := Lib.hid (frV_size f p)
  have HMAY : Hid (∀ u : World, Below w.heap.size w u → Calls Try.prog 14 #[.agg (frV f p).toArray] u fun e w' => e = .returned (.bool true) ∧ Below u.heap.size u w') := fun u hu => may_any f p B u (Nat.le_trans hB hu.size) (HP.out u hu) hn true (by simp [hm])
  have HKL : Hid (∀ u : World, Calls Try.prog 31 #[.agg (frV f p).toArray] u fun e w' => e = .returned (.int .u64 ((1 : Nat) : Int)) ∧ Below u.heap.size u w') := fun u => kindLaid_any f p 1 hk (by omega) 1 (by simp) u
  obtain ⟨vs, hvs⟩ : ∃ vs, frV f p = vs := ⟨_, rfl⟩
  have HVS := Lib.hid hvs
  rw [hvs] at HSZ HMAY HKL ⊢
  obtain ⟨K, n, d, rs, id, of, fi, da, ci, tk⟩ := f
  obtain ⟨ra, rn, rc, dA, dn, dc, ca, cn, cc, ta, tn, tc⟩ := p
  obtain ⟨nk, nn, nd, ni, no, nr⟩ := hn
  simp only at hk nn nd ni no
  subst hk
  simp [wbF] at hwb
  try unfold maxV at hwb
  have ek : enc 1 = [1] := by decide
  have HPF : Hid (putF ⟨1, n, d, rs, id, of, fi, da, ci, tk⟩ = [] ++ enc 1) := show _ = _ by rw [ek]; simp [putF]
  clear hvs ek nk nr hm
  have HV3 : Hid (∀ u : World, Calls Try.prog 30 #[.slice none 0 0, .int .u64 1] u (MakesB u ([] ++ enc 1))) := fun u => vput [] none 0 0 0 1 u Sl.nil (Nat.zero_le _) (by omega) (by omega)
  have B0 : Hid (∀ o1, Below w.heap.size w (w.alloc o1)) := fun _ => (Below.refl _ _).alloc (Nat.le_refl _) _
  clear hf
  go_enter Try.func12, Try.ntmps12
  go_wp2_with ((with_reducible refine wpList_load_rw rfl 26 (.tmp 1) rfl w.heap.size ?hx 26 vs ?hB _ Try.underlying26 rfl HSZ.out ?_); (case hx => with_unfolding_all rfl); (case hB => exact heap_allocs w [_] 0 _ rfl))
  (with_reducible refine (HMAY.out _ ?hb).mono ?_)
  case hb => exact B0.out _
  rintro e1 w1 ⟨rfl, b1⟩
  have R1 : Hid (Rw w1 w.heap.size 26 vs) := (show Rw _ _ _ vs from heap_allocs w [_] 0 _ rfl).below b1
  have B1 : Hid (Below w.heap.size w w1) := (B0.out _).trans (b1.mono (by simp))
  have LT : Hid (w.heap.size < w1.heap.size) := R1.out.lt
  clear b1
  go_wp2_with ((with_reducible refine wpList_load_rw rfl 26 (.tmp 1) rfl w.heap.size ?hx 26 vs ?hB _ Try.underlying26 rfl HSZ.out ?_); (case hx => with_unfolding_all rfl); (case hB => exact R1.out))
  (with_reducible refine (HKL.out _).mono ?_)
  rintro e2 w2 ⟨rfl, b2⟩
  have R2 := Lib.hid (R1.out.below b2)
  have B2 := Lib.hid (B1.out.trans (b2.mono B1.out.size))
  have S2 : Hid (w1.heap.size ≤ w2.heap.size) := b2.size
  clear b2
  go_wp2_with fail
  (with_reducible refine (HV3.out w2).mono ?_)
  rintro e3 w3 ⟨A3, n3, d3, rfl, o, b⟩
  have R3 := Lib.hid (R2.out.below b)
  have B3 := Lib.hid (B2.out.trans (b.mono B2.out.size))
  have S3 : Hid (w1.heap.size ≤ w3.heap.size) := Nat.le_trans S2.out b.size
  have hn3 : n3 ≤ 8 := by have h1 := o.len; have h2 := enc_le 1; rw [List.length_append] at h1; simp only [List.length_nil] at h1; omega
  have O3 := Lib.hid (o.base S2.out)
  clear o b
  obtain ⟨k0, k1, k2, k3, k4, k5, k6, k7, k8, k9⟩ := fr_cells (HVS.out ▸ R3.out)
  simp only at k0 k1 k2 k3 k4 k5 k6 k7 k8 k9
  go_wp2_with fail
  go_ret
  refine ⟨A3, n3, d3, rfl, ?_, B3.out⟩
  rw [HPF.out]
  exact O3.out.base (Nat.le_of_lt LT.out)
set_option maxHeartbeats 4000000 in
set_option maxRecDepth 4000 in
theorem fput_30 (f : Fr) (p : Fp) (B : Nat) (w : World) (hB : B ≤ w.heap.size) (hf : FrL w B f p) (hn : FrN f) (hm : MayF f) (hk : f.kind = 30) :
    Calls Try.prog 12 #[.agg (frV f p).toArray] w (MakesB w (putF f)) := by
  have hwb := ((may_iff f).1 hm).1
  have HP : Hid (∀ u : World, Below w.heap.size w u → FrL u B f p) := fun u hu => hf.below (hu.mono hB)
  have HSZ := Lib.hid (frV_size f p)
  have HMAY : Hid (∀ u : World, Below w.heap.size w u → Calls Try.prog 14 #[.agg (frV f p).toArray] u fun e w' => e = .returned (.bool true) ∧ Below u.heap.size u w') := fun u hu => may_any f p B u (Nat.le_trans hB hu.size) (HP.out u hu) hn true (by simp [hm])
  have HKL : Hid (∀ u : World, Calls Try.prog 31 #[.agg (frV f p).toArray] u fun e w' => e = .returned (.int .u64 ((30 : Nat) : Int)) ∧ Below u.heap.size u w') := fun u => kindLaid_any f p 30 hk (by omega) 30 (by simp) u
  obtain ⟨vs, hvs⟩ : ∃ vs, frV f p = vs := ⟨_, rfl⟩
  have HVS := Lib.hid hvs
  rw [hvs] at HSZ HMAY HKL ⊢
  obtain ⟨K, n, d, rs, id, of, fi, da, ci, tk⟩ := f
  obtain ⟨ra, rn, rc, dA, dn, dc, ca, cn, cc, ta, tn, tc⟩ := p
  obtain ⟨nk, nn, nd, ni, no, nr⟩ := hn
  simp only at hk nn nd ni no
  subst hk
  simp [wbF] at hwb
  try unfold maxV at hwb
  have ek : enc 30 = [30] := by decide
  have HPF : Hid (putF ⟨30, n, d, rs, id, of, fi, da, ci, tk⟩ = [] ++ enc 30) := show _ = _ by rw [ek]; simp [putF]
  clear hvs ek nk nr hm
  have HV3 : Hid (∀ u : World, Calls Try.prog 30 #[.slice none 0 0, .int .u64 30] u (MakesB u ([] ++ enc 30))) := fun u => vput [] none 0 0 0 30 u Sl.nil (Nat.zero_le _) (by omega) (by omega)
  have B0 : Hid (∀ o1, Below w.heap.size w (w.alloc o1)) := fun _ => (Below.refl _ _).alloc (Nat.le_refl _) _
  clear hf
  go_enter Try.func12, Try.ntmps12
  go_wp2_with ((with_reducible refine wpList_load_rw rfl 26 (.tmp 1) rfl w.heap.size ?hx 26 vs ?hB _ Try.underlying26 rfl HSZ.out ?_); (case hx => with_unfolding_all rfl); (case hB => exact heap_allocs w [_] 0 _ rfl))
  (with_reducible refine (HMAY.out _ ?hb).mono ?_)
  case hb => exact B0.out _
  rintro e1 w1 ⟨rfl, b1⟩
  have R1 : Hid (Rw w1 w.heap.size 26 vs) := (show Rw _ _ _ vs from heap_allocs w [_] 0 _ rfl).below b1
  have B1 : Hid (Below w.heap.size w w1) := (B0.out _).trans (b1.mono (by simp))
  have LT : Hid (w.heap.size < w1.heap.size) := R1.out.lt
  clear b1
  go_wp2_with ((with_reducible refine wpList_load_rw rfl 26 (.tmp 1) rfl w.heap.size ?hx 26 vs ?hB _ Try.underlying26 rfl HSZ.out ?_); (case hx => with_unfolding_all rfl); (case hB => exact R1.out))
  (with_reducible refine (HKL.out _).mono ?_)
  rintro e2 w2 ⟨rfl, b2⟩
  have R2 := Lib.hid (R1.out.below b2)
  have B2 := Lib.hid (B1.out.trans (b2.mono B1.out.size))
  have S2 : Hid (w1.heap.size ≤ w2.heap.size) := b2.size
  clear b2
  go_wp2_with fail
  (with_reducible refine (HV3.out w2).mono ?_)
  rintro e3 w3 ⟨A3, n3, d3, rfl, o, b⟩
  have R3 := Lib.hid (R2.out.below b)
  have B3 := Lib.hid (B2.out.trans (b.mono B2.out.size))
  have S3 : Hid (w1.heap.size ≤ w3.heap.size) := Nat.le_trans S2.out b.size
  have hn3 : n3 ≤ 8 := by have h1 := o.len; have h2 := enc_le 30; rw [List.length_append] at h1; simp only [List.length_nil] at h1; omega
  have O3 := Lib.hid (o.base S2.out)
  clear o b
  obtain ⟨k0, k1, k2, k3, k4, k5, k6, k7, k8, k9⟩ := fr_cells (HVS.out ▸ R3.out)
  simp only at k0 k1 k2 k3 k4 k5 k6 k7 k8 k9
  go_wp2_with fail
  go_ret
  refine ⟨A3, n3, d3, rfl, ?_, B3.out⟩
  rw [HPF.out]
  exact O3.out.base (Nat.le_of_lt LT.out)
set_option maxHeartbeats 4000000 in
set_option maxRecDepth 4000 in
theorem fput_16 (f : Fr) (p : Fp) (B : Nat) (w : World) (hB : B ≤ w.heap.size) (hf : FrL w B f p) (hn : FrN f) (hm : MayF f) (hk : f.kind = 16) :
    Calls Try.prog 12 #[.agg (frV f p).toArray] w (MakesB w (putF f)) := by
  have hwb := ((may_iff f).1 hm).1
  have HP : Hid (∀ u : World, Below w.heap.size w u → FrL u B f p) := fun u hu => hf.below (hu.mono hB)
  have HSZ := Lib.hid (frV_size f p)
  have HMAY : Hid (∀ u : World, Below w.heap.size w u → Calls Try.prog 14 #[.agg (frV f p).toArray] u fun e w' => e = .returned (.bool true) ∧ Below u.heap.size u w') := fun u hu => may_any f p B u (Nat.le_trans hB hu.size) (HP.out u hu) hn true (by simp [hm])
  have HKL : Hid (∀ u : World, Calls Try.prog 31 #[.agg (frV f p).toArray] u fun e w' => e = .returned (.int .u64 ((16 : Nat) : Int)) ∧ Below u.heap.size u w') := fun u => kindLaid_any f p 16 hk (by omega) 16 (by simp) u
  obtain ⟨vs, hvs⟩ : ∃ vs, frV f p = vs := ⟨_, rfl⟩
  have HVS := Lib.hid hvs
  rw [hvs] at HSZ HMAY HKL ⊢
  obtain ⟨K, n, d, rs, id, of, fi, da, ci, tk⟩ := f
  obtain ⟨ra, rn, rc, dA, dn, dc, ca, cn, cc, ta, tn, tc⟩ := p
  obtain ⟨nk, nn, nd, ni, no, nr⟩ := hn
  simp only at hk nn nd ni no
  subst hk
  simp [wbF] at hwb
  try unfold maxV at hwb
  have ek : enc 16 = [16] := by decide
  have HPF : Hid (putF ⟨16, n, d, rs, id, of, fi, da, ci, tk⟩ = [] ++ enc 16 ++ enc n) := show _ = _ by rw [ek]; simp [putF]
  clear hvs ek nk nr hm
  have HV3 : Hid (∀ u : World, Calls Try.prog 30 #[.slice none 0 0, .int .u64 16] u (MakesB u ([] ++ enc 16))) := fun u => vput [] none 0 0 0 16 u Sl.nil (Nat.zero_le _) (by omega) (by omega)
  have B0 : Hid (∀ o1, Below w.heap.size w (w.alloc o1)) := fun _ => (Below.refl _ _).alloc (Nat.le_refl _) _
  clear hf
  go_enter Try.func12, Try.ntmps12
  go_wp2_with ((with_reducible refine wpList_load_rw rfl 26 (.tmp 1) rfl w.heap.size ?hx 26 vs ?hB _ Try.underlying26 rfl HSZ.out ?_); (case hx => with_unfolding_all rfl); (case hB => exact heap_allocs w [_] 0 _ rfl))
  (with_reducible refine (HMAY.out _ ?hb).mono ?_)
  case hb => exact B0.out _
  rintro e1 w1 ⟨rfl, b1⟩
  have R1 : Hid (Rw w1 w.heap.size 26 vs) := (show Rw _ _ _ vs from heap_allocs w [_] 0 _ rfl).below b1
  have B1 : Hid (Below w.heap.size w w1) := (B0.out _).trans (b1.mono (by simp))
  have LT : Hid (w.heap.size < w1.heap.size) := R1.out.lt
  clear b1
  go_wp2_with ((with_reducible refine wpList_load_rw rfl 26 (.tmp 1) rfl w.heap.size ?hx 26 vs ?hB _ Try.underlying26 rfl HSZ.out ?_); (case hx => with_unfolding_all rfl); (case hB => exact R1.out))
  (with_reducible refine (HKL.out _).mono ?_)
  rintro e2 w2 ⟨rfl, b2⟩
  have R2 := Lib.hid (R1.out.below b2)
  have B2 := Lib.hid (B1.out.trans (b2.mono B1.out.size))
  have S2 : Hid (w1.heap.size ≤ w2.heap.size) := b2.size
  clear b2
  go_wp2_with fail
  (with_reducible refine (HV3.out w2).mono ?_)
  rintro e3 w3 ⟨A3, n3, d3, rfl, o, b⟩
  have R3 := Lib.hid (R2.out.below b)
  have B3 := Lib.hid (B2.out.trans (b.mono B2.out.size))
  have S3 : Hid (w1.heap.size ≤ w3.heap.size) := Nat.le_trans S2.out b.size
  have hn3 : n3 ≤ 8 := by have h1 := o.len; have h2 := enc_le 16; rw [List.length_append] at h1; simp only [List.length_nil] at h1; omega
  have O3 := Lib.hid (o.base S2.out)
  clear o b
  obtain ⟨k0, k1, k2, k3, k4, k5, k6, k7, k8, k9⟩ := fr_cells (HVS.out ▸ R3.out)
  simp only at k0 k1 k2 k3 k4 k5 k6 k7 k8 k9
  go_wp2_with fail
  (with_reducible refine (vput ([] ++ enc 16) A3 n3 d3 w3.heap.size n w3 O3.out.sl (Nat.le_refl _) (by omega) nn).mono ?_)
  rintro e4 w4 ⟨A4, n4, d4, rfl, o, b⟩
  have R4 := Lib.hid (R3.out.below b)
  have B4 := Lib.hid (B3.out.trans (b.mono B3.out.size))
  have S4 : Hid (w1.heap.size ≤ w4.heap.size) := Nat.le_trans S3.out b.size
  have hn4 : n4 ≤ n3 + 8 := by have h1 := o.len; have h2 := enc_le (n); have h3 := O3.out.len; rw [List.length_append] at h1; omega
  have O4 := Lib.hid (o.base S3.out)
  clear o b k0 k1 k2 k3 k4 k5 k6 k7 k8 k9
  obtain ⟨k0, k1, k2, k3, k4, k5, k6, k7, k8, k9⟩ := fr_cells (HVS.out ▸ R4.out)
  simp only at k0 k1 k2 k3 k4 k5 k6 k7 k8 k9
  go_wp2_with fail
  go_ret
  refine ⟨A4, n4, d4, rfl, ?_, B4.out⟩
  rw [HPF.out]
  exact O4.out.base (Nat.le_of_lt LT.out)
set_option maxHeartbeats 4000000 in
set_option maxRecDepth 4000 in
theorem fput_25 (f : Fr) (p : Fp) (B : Nat) (w : World) (hB : B ≤ w.heap.size) (hf : FrL w B f p) (hn : FrN f) (hm : MayF f) (hk : f.kind = 25) :
    Calls Try.prog 12 #[.agg (frV f p).toArray] w (MakesB w (putF f)) := by
  have hwb := ((may_iff f).1 hm).1
  have HP : Hid (∀ u : World, Below w.heap.size w u → FrL u B f p) := fun u hu => hf.below (hu.mono hB)
  have HSZ := Lib.hid (frV_size f p)
  have HMAY : Hid (∀ u : World, Below w.heap.size w u → Calls Try.prog 14 #[.agg (frV f p).toArray] u fun e w' => e = .returned (.bool true) ∧ Below u.heap.size u w') := fun u hu => may_any f p B u (Nat.le_trans hB hu.size) (HP.out u hu) hn true (by simp [hm])
  have HKL : Hid (∀ u : World, Calls Try.prog 31 #[.agg (frV f p).toArray] u fun e w' => e = .returned (.int .u64 ((25 : Nat) : Int)) ∧ Below u.heap.size u w') := fun u => kindLaid_any f p 25 hk (by omega) 25 (by simp) u
  obtain ⟨vs, hvs⟩ : ∃ vs, frV f p = vs := ⟨_, rfl⟩
  have HVS := Lib.hid hvs
  rw [hvs] at HSZ HMAY HKL ⊢
  obtain ⟨K, n, d, rs, id, of, fi, da, ci, tk⟩ := f
  obtain ⟨ra, rn, rc, dA, dn, dc, ca, cn, cc, ta, tn, tc⟩ := p
  obtain ⟨nk, nn, nd, ni, no, nr⟩ := hn
  simp only at hk nn nd ni no
  subst hk
  simp [wbF] at hwb
  try unfold maxV at hwb
  have ek : enc 25 = [25] := by decide
  have HPF : Hid (putF ⟨25, n, d, rs, id, of, fi, da, ci, tk⟩ = [] ++ enc 25 ++ enc n) := show _ = _ by rw [ek]; simp [putF]
  clear hvs ek nk nr hm
  have HV3 : Hid (∀ u : World, Calls Try.prog 30 #[.slice none 0 0, .int .u64 25] u (MakesB u ([] ++ enc 25))) := fun u => vput [] none 0 0 0 25 u Sl.nil (Nat.zero_le _) (by omega) (by omega)
  have B0 : Hid (∀ o1, Below w.heap.size w (w.alloc o1)) := fun _ => (Below.refl _ _).alloc (Nat.le_refl _) _
  clear hf
  go_enter Try.func12, Try.ntmps12
  go_wp2_with ((with_reducible refine wpList_load_rw rfl 26 (.tmp 1) rfl w.heap.size ?hx 26 vs ?hB _ Try.underlying26 rfl HSZ.out ?_); (case hx => with_unfolding_all rfl); (case hB => exact heap_allocs w [_] 0 _ rfl))
  (with_reducible refine (HMAY.out _ ?hb).mono ?_)
  case hb => exact B0.out _
  rintro e1 w1 ⟨rfl, b1⟩
  have R1 : Hid (Rw w1 w.heap.size 26 vs) := (show Rw _ _ _ vs from heap_allocs w [_] 0 _ rfl).below b1
  have B1 : Hid (Below w.heap.size w w1) := (B0.out _).trans (b1.mono (by simp))
  have LT : Hid (w.heap.size < w1.heap.size) := R1.out.lt
  clear b1
  go_wp2_with ((with_reducible refine wpList_load_rw rfl 26 (.tmp 1) rfl w.heap.size ?hx 26 vs ?hB _ Try.underlying26 rfl HSZ.out ?_); (case hx => with_unfolding_all rfl); (case hB => exact R1.out))
  (with_reducible refine (HKL.out _).mono ?_)
  rintro e2 w2 ⟨rfl, b2⟩
  have R2 := Lib.hid (R1.out.below b2)
  have B2 := Lib.hid (B1.out.trans (b2.mono B1.out.size))
  have S2 : Hid (w1.heap.size ≤ w2.heap.size) := b2.size
  clear b2
  go_wp2_with fail
  (with_reducible refine (HV3.out w2).mono ?_)
  rintro e3 w3 ⟨A3, n3, d3, rfl, o, b⟩
  have R3 := Lib.hid (R2.out.below b)
  have B3 := Lib.hid (B2.out.trans (b.mono B2.out.size))
  have S3 : Hid (w1.heap.size ≤ w3.heap.size) := Nat.le_trans S2.out b.size
  have hn3 : n3 ≤ 8 := by have h1 := o.len; have h2 := enc_le 25; rw [List.length_append] at h1; simp only [List.length_nil] at h1; omega
  have O3 := Lib.hid (o.base S2.out)
  clear o b
  obtain ⟨k0, k1, k2, k3, k4, k5, k6, k7, k8, k9⟩ := fr_cells (HVS.out ▸ R3.out)
  simp only at k0 k1 k2 k3 k4 k5 k6 k7 k8 k9
  go_wp2_with fail
  (with_reducible refine (vput ([] ++ enc 25) A3 n3 d3 w3.heap.size n w3 O3.out.sl (Nat.le_refl _) (by omega) nn).mono ?_)
  rintro e4 w4 ⟨A4, n4, d4, rfl, o, b⟩
  have R4 := Lib.hid (R3.out.below b)
  have B4 := Lib.hid (B3.out.trans (b.mono B3.out.size))
  have S4 : Hid (w1.heap.size ≤ w4.heap.size) := Nat.le_trans S3.out b.size
  have hn4 : n4 ≤ n3 + 8 := by have h1 := o.len; have h2 := enc_le (n); have h3 := O3.out.len; rw [List.length_append] at h1; omega
  have O4 := Lib.hid (o.base S3.out)
  clear o b k0 k1 k2 k3 k4 k5 k6 k7 k8 k9
  obtain ⟨k0, k1, k2, k3, k4, k5, k6, k7, k8, k9⟩ := fr_cells (HVS.out ▸ R4.out)
  simp only at k0 k1 k2 k3 k4 k5 k6 k7 k8 k9
  go_wp2_with fail
  go_ret
  refine ⟨A4, n4, d4, rfl, ?_, B4.out⟩
  rw [HPF.out]
  exact O4.out.base (Nat.le_of_lt LT.out)
set_option maxHeartbeats 4000000 in
set_option maxRecDepth 4000 in
theorem fput_26 (f : Fr) (p : Fp) (B : Nat) (w : World) (hB : B ≤ w.heap.size) (hf : FrL w B f p) (hn : FrN f) (hm : MayF f) (hk : f.kind = 26) :
    Calls Try.prog 12 #[.agg (frV f p).toArray] w (MakesB w (putF f)) := by
  have hwb := ((may_iff f).1 hm).1
  have HP : Hid (∀ u : World, Below w.heap.size w u → FrL u B f p) := fun u hu => hf.below (hu.mono hB)
  have HSZ := Lib.hid (frV_size f p)
  have HMAY : Hid (∀ u : World, Below w.heap.size w u → Calls Try.prog 14 #[.agg (frV f p).toArray] u fun e w' => e = .returned (.bool true) ∧ Below u.heap.size u w') := fun u hu => may_any f p B u (Nat.le_trans hB hu.size) (HP.out u hu) hn true (by simp [hm])
  have HKL : Hid (∀ u : World, Calls Try.prog 31 #[.agg (frV f p).toArray] u fun e w' => e = .returned (.int .u64 ((26 : Nat) : Int)) ∧ Below u.heap.size u w') := fun u => kindLaid_any f p 26 hk (by omega) 26 (by simp) u
  obtain ⟨vs, hvs⟩ : ∃ vs, frV f p = vs := ⟨_, rfl⟩
  have HVS := Lib.hid hvs
  rw [hvs] at HSZ HMAY HKL ⊢
  obtain ⟨K, n, d, rs, id, of, fi, da, ci, tk⟩ := f
  obtain ⟨ra, rn, rc, dA, dn, dc, ca, cn, cc, ta, tn, tc⟩ := p
  obtain ⟨nk, nn, nd, ni, no, nr⟩ := hn
  simp only at hk nn nd ni no
  subst hk
  simp [wbF] at hwb
  try unfold maxV at hwb
  have ek : enc 26 = [26] := by decide
  have HPF : Hid (putF ⟨26, n, d, rs, id, of, fi, da, ci, tk⟩ = [] ++ enc 26 ++ da) := show _ = _ by rw [ek]; simp [putF]
  clear hvs ek nk nr hm
  have ldn : da.length = dn := hf.d.1
  have HV3 : Hid (∀ u : World, Calls Try.prog 30 #[.slice none 0 0, .int .u64 26] u (MakesB u ([] ++ enc 26))) := fun u => vput [] none 0 0 0 26 u Sl.nil (Nat.zero_le _) (by omega) (by omega)
  have B0 : Hid (∀ o1, Below w.heap.size w (w.alloc o1)) := fun _ => (Below.refl _ _).alloc (Nat.le_refl _) _
  clear hf
  go_enter Try.func12, Try.ntmps12
  go_wp2_with ((with_reducible refine wpList_load_rw rfl 26 (.tmp 1) rfl w.heap.size ?hx 26 vs ?hB _ Try.underlying26 rfl HSZ.out ?_); (case hx => with_unfolding_all rfl); (case hB => exact heap_allocs w [_] 0 _ rfl))
  (with_reducible refine (HMAY.out _ ?hb).mono ?_)
  case hb => exact B0.out _
  rintro e1 w1 ⟨rfl, b1⟩
  have R1 : Hid (Rw w1 w.heap.size 26 vs) := (show Rw _ _ _ vs from heap_allocs w [_] 0 _ rfl).below b1
  have B1 : Hid (Below w.heap.size w w1) := (B0.out _).trans (b1.mono (by simp))
  have LT : Hid (w.heap.size < w1.heap.size) := R1.out.lt
  clear b1
  go_wp2_with ((with_reducible refine wpList_load_rw rfl 26 (.tmp 1) rfl w.heap.size ?hx 26 vs ?hB _ Try.underlying26 rfl HSZ.out ?_); (case hx => with_unfolding_all rfl); (case hB => exact R1.out))
  (with_reducible refine (HKL.out _).mono ?_)
  rintro e2 w2 ⟨rfl, b2⟩
  have R2 := Lib.hid (R1.out.below b2)
  have B2 := Lib.hid (B1.out.trans (b2.mono B1.out.size))
  have S2 : Hid (w1.heap.size ≤ w2.heap.size) := b2.size
  clear b2
  go_wp2_with fail
  (with_reducible refine (HV3.out w2).mono ?_)
  rintro e3 w3 ⟨A3, n3, d3, rfl, o, b⟩
  have R3 := Lib.hid (R2.out.below b)
  have B3 := Lib.hid (B2.out.trans (b.mono B2.out.size))
  have S3 : Hid (w1.heap.size ≤ w3.heap.size) := Nat.le_trans S2.out b.size
  have hn3 : n3 ≤ 8 := by have h1 := o.len; have h2 := enc_le 26; rw [List.length_append] at h1; simp only [List.length_nil] at h1; omega
  have O3 := Lib.hid (o.base S2.out)
  clear o b
  obtain ⟨k0, k1, k2, k3, k4, k5, k6, k7, k8, k9⟩ := fr_cells (HVS.out ▸ R3.out)
  simp only at k0 k1 k2 k3 k4 k5 k6 k7 k8 k9
  go_wp2_with (at_builtin; refine wpList_append_bytes rfl _ _ rfl w1.heap.size (.slice A3 n3 d3) n3 ([] ++ enc 26) rfl O3.out B dA dn dc da rfl (HP.out _ B3.out).d (by omega) S3.out _ (Below.refl _ _) ?_; intro A4 d4 w4 o hle hc hg b; have R4 := Lib.hid (Rw.belowB R3.out b LT.out); have B4 := Lib.hid (Below.trans B3.out (b.mono (Nat.le_of_lt LT.out))); have S4 : Hid (w1.heap.size ≤ w4.heap.size) := Nat.le_trans S3.out b.size; have O4 := Lib.hid o; clear o hle hc hg b)
  obtain ⟨n4, hn4⟩ : ∃ n, n3 + dn = n := ⟨_, rfl⟩
  simp only [hn4] at O4 ⊢
  go_wp2_with fail
  go_ret
  refine ⟨A4, n4, d4, rfl, ?_, B4.out⟩
  rw [HPF.out]
  exact O4.out.base (Nat.le_of_lt LT.out)
set_option maxHeartbeats 4000000 in
set_option maxRecDepth 4000 in
theorem fput_27 (f : Fr) (p : Fp) (B : Nat) (w : World) (hB : B ≤ w.heap.size) (hf : FrL w B f p) (hn : FrN f) (hm : MayF f) (hk : f.kind = 27) :
    Calls Try.prog 12 #[.agg (frV f p).toArray] w (MakesB w (putF f)) := by
  have hwb := ((may_iff f).1 hm).1
  have HP : Hid (∀ u : World, Below w.heap.size w u → FrL u B f p) := fun u hu => hf.below (hu.mono hB)
  have HSZ := Lib.hid (frV_size f p)
  have HMAY : Hid (∀ u : World, Below w.heap.size w u → Calls Try.prog 14 #[.agg (frV f p).toArray] u fun e w' => e = .returned (.bool true) ∧ Below u.heap.size u w') := fun u hu => may_any f p B u (Nat.le_trans hB hu.size) (HP.out u hu) hn true (by simp [hm])
  have HKL : Hid (∀ u : World, Calls Try.prog 31 #[.agg (frV f p).toArray] u fun e w' => e = .returned (.int .u64 ((27 : Nat) : Int)) ∧ Below u.heap.size u w') := fun u => kindLaid_any f p 27 hk (by omega) 27 (by simp) u
  obtain ⟨vs, hvs⟩ : ∃ vs, frV f p = vs := ⟨_, rfl⟩
  have HVS := Lib.hid hvs
  rw [hvs] at HSZ HMAY HKL ⊢
  obtain ⟨K, n, d, rs, id, of, fi, da, ci, tk⟩ := f
  obtain ⟨ra, rn, rc, dA, dn, dc, ca, cn, cc, ta, tn, tc⟩ := p
  obtain ⟨nk, nn, nd, ni, no, nr⟩ := hn
  simp only at hk nn nd ni no
  subst hk
  simp [wbF] at hwb
  try unfold maxV at hwb
  have ek : enc 27 = [27] := by decide
  have HPF : Hid (putF ⟨27, n, d, rs, id, of, fi, da, ci, tk⟩ = [] ++ enc 27 ++ da) := show _ = _ by rw [ek]; simp [putF]
  clear hvs ek nk nr hm
  have ldn : da.length = dn := hf.d.1
  have HV3 : Hid (∀ u : World, Calls Try.prog 30 #[.slice none 0 0, .int .u64 27] u (MakesB u ([] ++ enc 27))) := fun u => vput [] none 0 0 0 27 u Sl.nil (Nat.zero_le _) (by omega) (by omega)
  have B0 : Hid (∀ o1, Below w.heap.size w (w.alloc o1)) := fun _ => (Below.refl _ _).alloc (Nat.le_refl _) _
  clear hf
  go_enter Try.func12, Try.ntmps12
  go_wp2_with ((with_reducible refine wpList_load_rw rfl 26 (.tmp 1) rfl w.heap.size ?hx 26 vs ?hB _ Try.underlying26 rfl HSZ.out ?_); (case hx => with_unfolding_all rfl); (case hB => exact heap_allocs w [_] 0 _ rfl))
  (with_reducible refine (HMAY.out _ ?hb).mono ?_)
  case hb => exact B0.out _
  rintro e1 w1 ⟨rfl, b1⟩
  have R1 : Hid (Rw w1 w.heap.size 26 vs) := (show Rw _ _ _ vs from heap_allocs w [_] 0 _ rfl).below b1
  have B1 : Hid (Below w.heap.size w w1) := (B0.out _).trans (b1.mono (by simp))
  have LT : Hid (w.heap.size < w1.heap.size) := R1.out.lt
  clear b1
  go_wp2_with ((with_reducible refine wpList_load_rw rfl 26 (.tmp 1) rfl w.heap.size ?hx 26 vs ?hB _ Try.underlying26 rfl HSZ.out ?_); (case hx => with_unfolding_all rfl); (case hB => exact R1.out))
  (with_reducible refine (HKL.out _).mono ?_)
  rintro e2 w2 ⟨rfl, b2⟩
  have R2 := Lib.hid (R1.out.below b2)
  have B2 := Lib.hid (B1.out.trans (b2.mono B1.out.size))
  have S2 : Hid (w1.heap.size ≤ w2.heap.size) := b2.size
  clear b2
  go_wp2_with fail
  (with_reducible refine (HV3.out w2).mono ?_)
  rintro e3 w3 ⟨A3, n3, d3, rfl, o, b⟩
  have R3 := Lib.hid (R2.out.below b)
  have B3 := Lib.hid (B2.out.trans (b.mono B2.out.size))
  have S3 : Hid (w1.heap.size ≤ w3.heap.size) := Nat.le_trans S2.out b.size
  have hn3 : n3 ≤ 8 := by have h1 := o.len; have h2 := enc_le 27; rw [List.length_append] at h1; simp only [List.length_nil] at h1; omega
  have O3 := Lib.hid (o.base S2.out)
  clear o b
  obtain ⟨k0, k1, k2, k3, k4, k5, k6, k7, k8, k9⟩ := fr_cells (HVS.out ▸ R3.out)
  simp only at k0 k1 k2 k3 k4 k5 k6 k7 k8 k9
  go_wp2_with (at_builtin; refine wpList_append_bytes rfl _ _ rfl w1.heap.size (.slice A3 n3 d3) n3 ([] ++ enc 27) rfl O3.out B dA dn dc da rfl (HP.out _ B3.out).d (by omega) S3.out _ (Below.refl _ _) ?_; intro A4 d4 w4 o hle hc hg b; have R4 := Lib.hid (Rw.belowB R3.out b LT.out); have B4 := Lib.hid (Below.trans B3.out (b.mono (Nat.le_of_lt LT.out))); have S4 : Hid (w1.heap.size ≤ w4.heap.size) := Nat.le_trans S3.out b.size; have O4 := Lib.hid o; clear o hle hc hg b)
  obtain ⟨n4, hn4⟩ : ∃ n, n3 + dn = n := ⟨_, rfl⟩
  simp only [hn4] at O4 ⊢
  go_wp2_with fail
  go_ret
  refine ⟨A4, n4, d4, rfl, ?_, B4.out⟩
  rw [HPF.out]
  exact O4.out.base (Nat.le_of_lt LT.out)
set_option maxHeartbeats 4000000 in
set_option maxRecDepth 4000 in
theorem fput_6 (f : Fr) (p : Fp) (B : Nat) (w : World) (hB : B ≤ w.heap.size) (hf : FrL w B f p) (hn : FrN f) (hm : MayF f) (hk : f.kind = 6) :
    Calls Try.prog 12 #[.agg (frV f p).toArray] w (MakesB w (putF f)) := by
  have hwb := ((may_iff f).1 hm).1
  have HP : Hid (∀ u : World, Below w.heap.size w u → FrL u B f p) := fun u hu => hf.below (hu.mono hB)
  have HSZ := Lib.hid (frV_size f p)
  have HMAY : Hid (∀ u : World, Below w.heap.size w u → Calls Try.prog 14 #[.agg (frV f p).toArray] u fun e w' => e = .returned (.bool true) ∧ Below u.heap.size u w') := fun u hu => may_any f p B u (Nat.le_trans hB hu.size) (HP.out u hu) hn true (by simp [hm])
  have HKL : Hid (∀ u : World, Calls Try.prog 31 #[.agg (frV f p).toArray] u fun e w' => e = .returned (.int .u64 ((6 : Nat) : Int)) ∧ Below u.heap.size u w') := fun u => kindLaid_any f p 6 hk (by omega) 6 (by simp) u
  obtain ⟨vs, hvs⟩ : ∃ vs, frV f p = vs := ⟨_, rfl⟩
  have HVS := Lib.hid hvs
  rw [hvs] at HSZ HMAY HKL ⊢
  obtain ⟨K, n, d, rs, id, of, fi, da, ci, tk⟩ := f
  obtain ⟨ra, rn, rc, dA, dn, dc, ca, cn, cc, ta, tn, tc⟩ := p
  obtain ⟨nk, nn, nd, ni, no, nr⟩ := hn
  simp only at hk nn nd ni no
  subst hk
  simp [wbF] at hwb
  try unfold maxV at hwb
  have ek : enc 6 = [6] := by decide
  have HPF : Hid (putF ⟨6, n, d, rs, id, of, fi, da, ci, tk⟩ = [] ++ enc 6 ++ enc of ++ enc da.length ++ da) := show _ = _ by rw [ek]; simp [putF]
  clear hvs ek nk nr hm
  have ldn : da.length = dn := hf.d.1
  have wdn : IntKind.u64.wrap (dn : Int) = (dn : Int) := by rw [wrap_u64N]; omega
  have HLD : Hid (da.length = dn) := ldn
  rw [ldn] at HPF
  have HV3 : Hid (∀ u : World, Calls Try.prog 30 #[.slice none 0 0, .int .u64 6] u (MakesB u ([] ++ enc 6))) := fun u => vput [] none 0 0 0 6 u Sl.nil (Nat.zero_le _) (by omega) (by omega)
  have B0 : Hid (∀ o1, Below w.heap.size w (w.alloc o1)) := fun _ => (Below.refl _ _).alloc (Nat.le_refl _) _
  clear hf
  go_enter Try.func12, Try.ntmps12
  go_wp2_with ((with_reducible refine wpList_load_rw rfl 26 (.tmp 1) rfl w.heap.size ?hx 26 vs ?hB _ Try.underlying26 rfl HSZ.out ?_); (case hx => with_unfolding_all rfl); (case hB => exact heap_allocs w [_] 0 _ rfl))
  (with_reducible refine (HMAY.out _ ?hb).mono ?_)
  case hb => exact B0.out _
  rintro e1 w1 ⟨rfl, b1⟩
  have R1 : Hid (Rw w1 w.heap.size 26 vs) := (show Rw _ _ _ vs from heap_allocs w [_] 0 _ rfl).below b1
  have B1 : Hid (Below w.heap.size w w1) := (B0.out _).trans (b1.mono (by simp))
  have LT : Hid (w.heap.size < w1.heap.size) := R1.out.lt
  clear b1
  go_wp2_with ((with_reducible refine wpList_load_rw rfl 26 (.tmp 1) rfl w.heap.size ?hx 26 vs ?hB _ Try.underlying26 rfl HSZ.out ?_); (case hx => with_unfolding_all rfl); (case hB => exact R1.out))
  (with_reducible refine (HKL.out _).mono ?_)
  rintro e2 w2 ⟨rfl, b2⟩
  have R2 := Lib.hid (R1.out.below b2)
  have B2 := Lib.hid (B1.out.trans (b2.mono B1.out.size))
  have S2 : Hid (w1.heap.size ≤ w2.heap.size) := b2.size
  clear b2
  go_wp2_with fail
  (with_reducible refine (HV3.out w2).mono ?_)
  rintro e3 w3 ⟨A3, n3, d3, rfl, o, b⟩
  have R3 := Lib.hid (R2.out.below b)
  have B3 := Lib.hid (B2.out.trans (b.mono B2.out.size))
  have S3 : Hid (w1.heap.size ≤ w3.heap.size) := Nat.le_trans S2.out b.size
  have hn3 : n3 ≤ 8 := by have h1 := o.len; have h2 := enc_le 6; rw [List.length_append] at h1; simp only [List.length_nil] at h1; omega
  have O3 := Lib.hid (o.base S2.out)
  clear o b
  obtain ⟨k0, k1, k2, k3, k4, k5, k6, k7, k8, k9⟩ := fr_cells (HVS.out ▸ R3.out)
  simp only at k0 k1 k2 k3 k4 k5 k6 k7 k8 k9
  go_wp2_with fail
  (with_reducible refine (vput ([] ++ enc 6) A3 n3 d3 w3.heap.size of w3 O3.out.sl (Nat.le_refl _) (by omega) no).mono ?_)
  rintro e4 w4 ⟨A4, n4, d4, rfl, o, b⟩
  have R4 := Lib.hid (R3.out.below b)
  have B4 := Lib.hid (B3.out.trans (b.mono B3.out.size))
  have S4 : Hid (w1.heap.size ≤ w4.heap.size) := Nat.le_trans S3.out b.size
  have hn4 : n4 ≤ n3 + 8 := by have h1 := o.len; have h2 := enc_le (of); have h3 := O3.out.len; rw [List.length_append] at h1; omega
  have O4 := Lib.hid (o.base S3.out)
  clear o b k0 k1 k2 k3 k4 k5 k6 k7 k8 k9
  obtain ⟨k0, k1, k2, k3, k4, k5, k6, k7, k8, k9⟩ := fr_cells (HVS.out ▸ R4.out)
  simp only at k0 k1 k2 k3 k4 k5 k6 k7 k8 k9
  go_wp2_with fail
  (with_reducible refine (vput ([] ++ enc 6 ++ enc of) A4 n4 d4 w4.heap.size dn w4 O4.out.sl (Nat.le_refl _) (by omega) (by omega)).mono ?_)
  rintro e5 w5 ⟨A5, n5, d5, rfl, o, b⟩
  have R5 := Lib.hid (R4.out.below b)
  have B5 := Lib.hid (B4.out.trans (b.mono B4.out.size))
  have S5 : Hid (w1.heap.size ≤ w5.heap.size) := Nat.le_trans S4.out b.size
  have hn5 : n5 ≤ n4 + 8 := by have h1 := o.len; have h2 := enc_le (dn); have h3 := O4.out.len; rw [List.length_append] at h1; omega
  have O5 := Lib.hid (o.base S4.out)
  clear o b k0 k1 k2 k3 k4 k5 k6 k7 k8 k9
  obtain ⟨k0, k1, k2, k3, k4, k5, k6, k7, k8, k9⟩ := fr_cells (HVS.out ▸ R5.out)
  simp only at k0 k1 k2 k3 k4 k5 k6 k7 k8 k9
  go_wp2_with (at_builtin; refine wpList_append_bytes rfl _ _ rfl w1.heap.size (.slice A5 n5 d5) n5 ([] ++ enc 6 ++ enc of ++ enc dn) rfl O5.out B dA dn dc da rfl (HP.out _ B5.out).d (by omega) S5.out _ (Below.refl _ _) ?_; intro A6 d6 w6 o hle hc hg b; have R6 := Lib.hid (Rw.belowB R5.out b LT.out); have B6 := Lib.hid (Below.trans B5.out (b.mono (Nat.le_of_lt LT.out))); have S6 : Hid (w1.heap.size ≤ w6.heap.size) := Nat.le_trans S5.out b.size; have O6 := Lib.hid o; clear o hle hc hg b)
  obtain ⟨n6, hn6⟩ : ∃ n, n5 + dn = n := ⟨_, rfl⟩
  simp only [hn6] at O6 ⊢
  go_wp2_with fail
  go_ret
  refine ⟨A6, n6, d6, rfl, ?_, B6.out⟩
  rw [HPF.out]
  exact O6.out.base (Nat.le_of_lt LT.out)
set_option maxHeartbeats 4000000 in
set_option maxRecDepth 4000 in
theorem fput_8t (f : Fr) (p : Fp) (B : Nat) (w : World) (hB : B ≤ w.heap.size) (hf : FrL w B f p) (hn : FrN f) (hm : MayF f) (hk : f.kind = 8) (hfi : f.fin = true) :
    Calls Try.prog 12 #[.agg (frV f p).toArray] w (MakesB w (putF f)) := by
  have hwb := ((may_iff f).1 hm).1
  have HP : Hid (∀ u : World, Below w.heap.size w u → FrL u B f p) := fun u hu => hf.below (hu.mono hB)
  have HSZ := Lib.hid (frV_size f p)
  have HMAY : Hid (∀ u : World, Below w.heap.size w u → Calls Try.prog 14 #[.agg (frV f p).toArray] u fun e w' => e = .returned (.bool true) ∧ Below u.heap.size u w') := fun u hu => may_any f p B u (Nat.le_trans hB hu.size) (HP.out u hu) hn true (by simp [hm])
  have HKL : Hid (∀ u : World, Calls Try.prog 31 #[.agg (frV f p).toArray] u fun e w' => e = .returned (.int .u64 ((15 : Nat) : Int)) ∧ Below u.heap.size u w') := fun u => kindLaid_any f p 8 hk (by omega) 15 (by simp [hfi]) u
  obtain ⟨vs, hvs⟩ : ∃ vs, frV f p = vs := ⟨_, rfl⟩
  have HVS := Lib.hid hvs
  rw [hvs] at HSZ HMAY HKL ⊢
  obtain ⟨K, n, d, rs, id, of, fi, da, ci, tk⟩ := f
  obtain ⟨ra, rn, rc, dA, dn, dc, ca, cn, cc, ta, tn, tc⟩ := p
  obtain ⟨nk, nn, nd, ni, no, nr⟩ := hn
  simp only at hk nn nd ni no
  subst hk
  simp only at hfi
  subst hfi
  simp [wbF] at hwb
  try unfold maxV at hwb
  have ek : enc 15 = [15] := by decide
  have HPF : Hid (putF ⟨8, n, d, rs, id, of, true, da, ci, tk⟩ = [] ++ enc 15 ++ enc id ++ enc of ++ enc da.length ++ da) := show _ = _ by rw [ek]; simp [putF]
  clear hvs ek nk nr hm
  have ldn : da.length = dn := hf.d.1
  have wdn : IntKind.u64.wrap (dn : Int) = (dn : Int) := by rw [wrap_u64N]; omega
  have HLD : Hid (da.length = dn) := ldn
  rw [ldn] at HPF
  have HV3 : Hid (∀ u : World, Calls Try.prog 30 #[.slice none 0 0, .int .u64 15] u (MakesB u ([] ++ enc 15))) := fun u => vput [] none 0 0 0 15 u Sl.nil (Nat.zero_le _) (by omega) (by omega)
  have B0 : Hid (∀ o1, Below w.heap.size w (w.alloc o1)) := fun _ => (Below.refl _ _).alloc (Nat.le_refl _) _
  clear hf
  go_enter Try.func12, Try.ntmps12
  go_wp2_with ((with_reducible refine wpList_load_rw rfl 26 (.tmp 1) rfl w.heap.size ?hx 26 vs ?hB _ Try.underlying26 rfl HSZ.out ?_); (case hx => with_unfolding_all rfl); (case hB => exact heap_allocs w [_] 0 _ rfl))
  (with_reducible refine (HMAY.out _ ?hb).mono ?_)
  case hb => exact B0.out _
  rintro e1 w1 ⟨rfl, b1⟩
  have R1 : Hid (Rw w1 w.heap.size 26 vs) := (show Rw _ _ _ vs from heap_allocs w [_] 0 _ rfl).below b1
  have B1 : Hid (Below w.heap.size w w1) := (B0.out _).trans (b1.mono (by simp))
  have LT : Hid (w.heap.size < w1.heap.size) := R1.out.lt
  clear b1
  go_wp2_with ((with_reducible refine wpList_load_rw rfl 26 (.tmp 1) rfl w.heap.size ?hx 26 vs ?hB _ Try.underlying26 rfl HSZ.out ?_); (case hx => with_unfolding_all rfl); (case hB => exact R1.out))
  (with_reducible refine (HKL.out _).mono ?_)
  rintro e2 w2 ⟨rfl, b2⟩
  have R2 := Lib.hid (R1.out.below b2)
  have B2 := Lib.hid (B1.out.trans (b2.mono B1.out.size))
  have S2 : Hid (w1.heap.size ≤ w2.heap.size) := b2.size
  clear b2
  go_wp2_with fail
  (with_reducible refine (HV3.out w2).mono ?_)
  rintro e3 w3 ⟨A3, n3, d3, rfl, o, b⟩
  have R3 := Lib.hid (R2.out.below b)
  have B3 := Lib.hid (B2.out.trans (b.mono B2.out.size))
  have S3 : Hid (w1.heap.size ≤ w3.heap.size) := Nat.le_trans S2.out b.size
  have hn3 : n3 ≤ 8 := by have h1 := o.len; have h2 := enc_le 15; rw [List.length_append] at h1; simp only [List.length_nil] at h1; omega
  have O3 := Lib.hid (o.base S2.out)
  clear o b
  obtain ⟨k0, k1, k2, k3, k4, k5, k6, k7, k8, k9⟩ := fr_cells (HVS.out ▸ R3.out)
  simp only at k0 k1 k2 k3 k4 k5 k6 k7 k8 k9
  go_wp2_with fail
  (with_reducible refine (vput ([] ++ enc 15) A3 n3 d3 w3.heap.size id w3 O3.out.sl (Nat.le_refl _) (by omega) ni).mono ?_)
  rintro e4 w4 ⟨A4, n4, d4, rfl, o, b⟩
  have R4 := Lib.hid (R3.out.below b)
  have B4 := Lib.hid (B3.out.trans (b.mono B3.out.size))
  have S4 : Hid (w1.heap.size ≤ w4.heap.size) := Nat.le_trans S3.out b.size
  have hn4 : n4 ≤ n3 + 8 := by have h1 := o.len; have h2 := enc_le (id); have h3 := O3.out.len; rw [List.length_append] at h1; omega
  have O4 := Lib.hid (o.base S3.out)
  clear o b k0 k1 k2 k3 k4 k5 k6 k7 k8 k9
  obtain ⟨k0, k1, k2, k3, k4, k5, k6, k7, k8, k9⟩ := fr_cells (HVS.out ▸ R4.out)
  simp only at k0 k1 k2 k3 k4 k5 k6 k7 k8 k9
  go_wp2_with fail
  (with_reducible refine (vput ([] ++ enc 15 ++ enc id) A4 n4 d4 w4.heap.size of w4 O4.out.sl (Nat.le_refl _) (by omega) no).mono ?_)
  rintro e5 w5 ⟨A5, n5, d5, rfl, o, b⟩
  have R5 := Lib.hid (R4.out.below b)
  have B5 := Lib.hid (B4.out.trans (b.mono B4.out.size))
  have S5 : Hid (w1.heap.size ≤ w5.heap.size) := Nat.le_trans S4.out b.size
  have hn5 : n5 ≤ n4 + 8 := by have h1 := o.len; have h2 := enc_le (of); have h3 := O4.out.len; rw [List.length_append] at h1; omega
  have O5 := Lib.hid (o.base S4.out)
  clear o b k0 k1 k2 k3 k4 k5 k6 k7 k8 k9
  obtain ⟨k0, k1, k2, k3, k4, k5, k6, k7, k8, k9⟩ := fr_cells (HVS.out ▸ R5.out)
  simp only at k0 k1 k2 k3 k4 k5 k6 k7 k8 k9
  go_wp2_with fail
  (with_reducible refine (vput ([] ++ enc 15 ++ enc id ++ enc of) A5 n5 d5 w5.heap.size dn w5 O5.out.sl (Nat.le_refl _) (by omega) (by omega)).mono ?_)
  rintro e6 w6 ⟨A6, n6, d6, rfl, o, b⟩
  have R6 := Lib.hid (R5.out.below b)
  have B6 := Lib.hid (B5.out.trans (b.mono B5.out.size))
  have S6 : Hid (w1.heap.size ≤ w6.heap.size) := Nat.le_trans S5.out b.size
  have hn6 : n6 ≤ n5 + 8 := by have h1 := o.len; have h2 := enc_le (dn); have h3 := O5.out.len; rw [List.length_append] at h1; omega
  have O6 := Lib.hid (o.base S5.out)
  clear o b k0 k1 k2 k3 k4 k5 k6 k7 k8 k9
  obtain ⟨k0, k1, k2, k3, k4, k5, k6, k7, k8, k9⟩ := fr_cells (HVS.out ▸ R6.out)
  simp only at k0 k1 k2 k3 k4 k5 k6 k7 k8 k9
  go_wp2_with (at_builtin; refine wpList_append_bytes rfl _ _ rfl w1.heap.size (.slice A6 n6 d6) n6 ([] ++ enc 15 ++ enc id ++ enc of ++ enc dn) rfl O6.out B dA dn dc da rfl (HP.out _ B6.out).d (by omega) S6.out _ (Below.refl _ _) ?_; intro A7 d7 w7 o hle hc hg b; have R7 := Lib.hid (Rw.belowB R6.out b LT.out); have B7 := Lib.hid (Below.trans B6.out (b.mono (Nat.le_of_lt LT.out))); have S7 : Hid (w1.heap.size ≤ w7.heap.size) := Nat.le_trans S6.out b.size; have O7 := Lib.hid o; clear o hle hc hg b)
  obtain ⟨n7, hn7⟩ : ∃ n, n6 + dn = n := ⟨_, rfl⟩
  simp only [hn7] at O7 ⊢
  go_wp2_with fail
  go_ret
  refine ⟨A7, n7, d7, rfl, ?_, B7.out⟩
  rw [HPF.out]
  exact O7.out.base (Nat.le_of_lt LT.out)
set_option maxHeartbeats 4000000 in
set_option maxRecDepth 4000 in
theorem fput_8f (f : Fr) (p : Fp) (B : Nat) (w : World) (hB : B ≤ w.heap.size) (hf : FrL w B f p) (hn : FrN f) (hm : MayF f) (hk : f.kind = 8) (hfi : f.fin = false) :
    Calls Try.prog 12 #[.agg (frV f p).toArray] w (MakesB w (putF f)) := by
  have hwb := ((may_iff f).1 hm).1
  have HP : Hid (∀ u : World, Below w.heap.size w u → FrL u B f p) := fun u hu => hf.below (hu.mono hB)
  have HSZ := Lib.hid (frV_size f p)
  have HMAY : Hid (∀ u : World, Below w.heap.size w u → Calls Try.prog 14 #[.agg (frV f p).toArray] u fun e w' => e = .returned (.bool true) ∧ Below u.heap.size u w') := fun u hu => may_any f p B u (Nat.le_trans hB hu.size) (HP.out u hu) hn true (by simp [hm])
  have HKL : Hid (∀ u : World, Calls Try.prog 31 #[.agg (frV f p).toArray] u fun e w' => e = .returned (.int .u64 ((14 : Nat) : Int)) ∧ Below u.heap.size u w') := fun u => kindLaid_any f p 8 hk (by omega) 14 (by simp [hfi]) u
  obtain ⟨vs, hvs⟩ : ∃ vs, frV f p = vs := ⟨_, rfl⟩
  have HVS := Lib.hid hvs
  rw [hvs] at HSZ HMAY HKL ⊢
  obtain ⟨K, n, d, rs, id, of, fi, da, ci, tk⟩ := f
  obtain ⟨ra, rn, rc, dA, dn, dc, ca, cn, cc, ta, tn, tc⟩ := p
  obtain ⟨nk, nn, nd, ni, no, nr⟩ := hn
  simp only at hk nn nd ni no
  subst hk
  simp only at hfi
  subst hfi
  simp [wbF] at hwb
  try unfold maxV at hwb
  have ek : enc 14 = [14] := by decide
  have HPF : Hid (putF ⟨8, n, d, rs, id, of, false, da, ci, tk⟩ = [] ++ enc 14 ++ enc id ++ enc of ++ enc da.length ++ da) := show _ = _ by rw [ek]; simp [putF]
  clear hvs ek nk nr hm
  have ldn : da.length = dn := hf.d.1
  have wdn : IntKind.u64.wrap (dn : Int) = (dn : Int) := by rw [wrap_u64N]; omega
  have HLD : Hid (da.length = dn) := ldn
  rw [ldn] at HPF
  have HV3 : Hid (∀ u : World, Calls Try.prog 30 #[.slice none 0 0, .int .u64 14] u (MakesB u ([] ++ enc 14))) := fun u => vput [] none 0 0 0 14 u Sl.nil (Nat.zero_le _) (by omega) (by omega)
  have B0 : Hid (∀ o1, Below w.heap.size w (w.alloc o1)) := fun _ => (Below.refl _ _).alloc (Nat.le_refl _) _
  clear hf
  go_enter Try.func12, Try.ntmps12
  go_wp2_with ((with_reducible refine wpList_load_rw rfl 26 (.tmp 1) rfl w.heap.size ?hx 26 vs ?hB _ Try.underlying26 rfl HSZ.out ?_); (case hx => with_unfolding_all rfl); (case hB => exact heap_allocs w [_] 0 _ rfl))
  (with_reducible refine (HMAY.out _ ?hb).mono ?_)
  case hb => exact B0.out _
  rintro e1 w1 ⟨rfl, b1⟩
  have R1 : Hid (Rw w1 w.heap.size 26 vs) := (show Rw _ _ _ vs from heap_allocs w [_] 0 _ rfl).below b1
  have B1 : Hid (Below w.heap.size w w1) := (B0.out _).trans (b1.mono (by simp))
  have LT : Hid (w.heap.size < w1.heap.size) := R1.out.lt
  clear b1
  go_wp2_with ((with_reducible refine wpList_load_rw rfl 26 (.tmp 1) rfl w.heap.size ?hx 26 vs ?hB _ Try.underlying26 rfl HSZ.out ?_); (case hx => with_unfolding_all rfl); (case hB => exact R1.out))
  (with_reducible refine (HKL.out _).mono ?_)
  rintro e2 w2 ⟨rfl, b2⟩
  have R2 := Lib.hid (R1.out.below b2)
  have B2 := Lib.hid (B1.out.trans (b2.mono B1.out.size))
  have S2 : Hid (w1.heap.size ≤ w2.heap.size) := b2.size
  clear b2
  go_wp2_with fail
  (with_reducible refine (HV3.out w2).mono ?_)
  rintro e3 w3 ⟨A3, n3, d3, rfl, o, b⟩
  have R3 := Lib.hid (R2.out.below b)
  have B3 := Lib.hid (B2.out.trans (b.mono B2.out.size))
  have S3 : Hid (w1.heap.size ≤ w3.heap.size) := Nat.le_trans S2.out b.size
  have hn3 : n3 ≤ 8 := by have h1 := o.len; have h2 := enc_le 14; rw [List.length_append] at h1; simp only [List.length_nil] at h1; omega
  have O3 := Lib.hid (o.base S2.out)
  clear o b
  obtain ⟨k0, k1, k2, k3, k4, k5, k6, k7, k8, k9⟩ := fr_cells (HVS.out ▸ R3.out)
  simp only at k0 k1 k2 k3 k4 k5 k6 k7 k8 k9
  go_wp2_with fail
  (with_reducible refine (vput ([] ++ enc 14) A3 n3 d3 w3.heap.size id w3 O3.out.sl (Nat.le_refl _) (by omega) ni).mono ?_)
  rintro e4 w4 ⟨A4, n4, d4, rfl, o, b⟩
  have R4 := Lib.hid (R3.out.below b)
  have B4 := Lib.hid (B3.out.trans (b.mono B3.out.size))
  have S4 : Hid (w1.heap.size ≤ w4.heap.size) := Nat.le_trans S3.out b.size
  have hn4 : n4 ≤ n3 + 8 := by have h1 := o.len; have h2 := enc_le (id); have h3 := O3.out.len; rw [List.length_append] at h1; omega
  have O4 := Lib.hid (o.base S3.out)
  clear o b k0 k1 k2 k3 k4 k5 k6 k7 k8 k9
  obtain ⟨k0, k1, k2, k3, k4, k5, k6, k7, k8, k9⟩ := fr_cells (HVS.out ▸ R4.out)
  simp only at k0 k1 k2 k3 k4 k5 k6 k7 k8 k9
  go_wp2_with fail
  (with_reducible refine (vput ([] ++ enc 14 ++ enc id) A4 n4 d4 w4.heap.size of w4 O4.out.sl (Nat.le_refl _) (by omega) no).mono ?_)
  rintro e5 w5 ⟨A5, n5, d5, rfl, o, b⟩
  have R5 := Lib.hid (R4.out.below b)
  have B5 := Lib.hid (B4.out.trans (b.mono B4.out.size))
  have S5 : Hid (w1.heap.size ≤ w5.heap.size) := Nat.le_trans S4.out b.size
  have hn5 : n5 ≤ n4 + 8 := by have h1 := o.len; have h2 := enc_le (of); have h3 := O4.out.len; rw [List.length_append] at h1; omega
  have O5 := Lib.hid (o.base S4.out)
  clear o b k0 k1 k2 k3 k4 k5 k6 k7 k8 k9
  obtain ⟨k0, k1, k2, k3, k4, k5, k6, k7, k8, k9⟩ := fr_cells (HVS.out ▸ R5.out)
  simp only at k0 k1 k2 k3 k4 k5 k6 k7 k8 k9
  go_wp2_with fail
  (with_reducible refine (vput ([] ++ enc 14 ++ enc id ++ enc of) A5 n5 d5 w5.heap.size dn w5 O5.out.sl (Nat.le_refl _) (by omega) (by omega)).mono ?_)
  rintro e6 w6 ⟨A6, n6, d6, rfl, o, b⟩
  have R6 := Lib.hid (R5.out.below b)
  have B6 := Lib.hid (B5.out.trans (b.mono B5.out.size))
  have S6 : Hid (w1.heap.size ≤ w6.heap.size) := Nat.le_trans S5.out b.size
  have hn6 : n6 ≤ n5 + 8 := by have h1 := o.len; have h2 := enc_le (dn); have h3 := O5.out.len; rw [List.length_append] at h1; omega
  have O6 := Lib.hid (o.base S5.out)
  clear o b k0 k1 k2 k3 k4 k5 k6 k7 k8 k9
  obtain ⟨k0, k1, k2, k3, k4, k5, k6, k7, k8, k9⟩ := fr_cells (HVS.out ▸ R6.out)
  simp only at k0 k1 k2 k3 k4 k5 k6 k7 k8 k9
  go_wp2_with (at_builtin; refine wpList_append_bytes rfl _ _ rfl w1.heap.size (.slice A6 n6 d6) n6 ([] ++ enc 14 ++ enc id ++ enc of ++ enc dn) rfl O6.out B dA dn dc da rfl (HP.out _ B6.out).d (by omega) S6.out _ (Below.refl _ _) ?_; intro A7 d7 w7 o hle hc hg b; have R7 := Lib.hid (Rw.belowB R6.out b LT.out); have B7 := Lib.hid (Below.trans B6.out (b.mono (Nat.le_of_lt LT.out))); have S7 : Hid (w1.heap.size ≤ w7.heap.size) := Nat.le_trans S6.out b.size; have O7 := Lib.hid o; clear o hle hc hg b)
  obtain ⟨n7, hn7⟩ : ∃ n, n6 + dn = n := ⟨_, rfl⟩
  simp only [hn7] at O7 ⊢
  go_wp2_with fail
  go_ret
  refine ⟨A7, n7, d7, rfl, ?_, B7.out⟩
  rw [HPF.out]
  exact O7.out.base (Nat.le_of_lt LT.out)
set_option maxHeartbeats 4000000 in
set_option maxRecDepth 4000 in
theorem fput_28 (f : Fr) (p : Fp) (B : Nat) (w : World) (hB : B ≤ w.heap.size) (hf : FrL w B f p) (hn : FrN f) (hm : MayF f) (hk : f.kind = 28) :
    Calls Try.prog 12 #[.agg (frV f p).toArray] w (MakesB w (putF f)) := by
  have hwb := ((may_iff f).1 hm).1
  have HP : Hid (∀ u : World, Below w.heap.size w u → FrL u B f p) := fun u hu => hf.below (hu.mono hB)
  have HSZ := Lib.hid (frV_size f p)
  have HMAY : Hid (∀ u : World, Below w.heap.size w u → Calls Try.prog 14 #[.agg (frV f p).toArray] u fun e w' => e = .returned (.bool true) ∧ Below u.heap.size u w') := fun u hu => may_any f p B u (Nat.le_trans hB hu.size) (HP.out u hu) hn true (by simp [hm])
  have HKL : Hid (∀ u : World, Calls Try.prog 31 #[.agg (frV f p).toArray] u fun e w' => e = .returned (.int .u64 ((28 : Nat) : Int)) ∧ Below u.heap.size u w') := fun u => kindLaid_any f p 28 hk (by omega) 28 (by simp) u
  obtain ⟨vs, hvs⟩ : ∃ vs, frV f p = vs := ⟨_, rfl⟩
  have HVS := Lib.hid hvs
  rw [hvs] at HSZ HMAY HKL ⊢
  obtain ⟨K, n, d, rs, id, of, fi, da, ci, tk⟩ := f
  obtain ⟨ra, rn, rc, dA, dn, dc, ca, cn, cc, ta, tn, tc⟩ := p
  obtain ⟨nk, nn, nd, ni, no, nr⟩ := hn
  simp only at hk nn nd ni no
  subst hk
  simp [wbF] at hwb
  try unfold maxV at hwb
  have ek : enc 28 = [28] := by decide
  have HPF : Hid (putF ⟨28, n, d, rs, id, of, fi, da, ci, tk⟩ = [] ++ enc 28 ++ enc n ++ [0, 0]) := show _ = _ by rw [ek]; simp [putF]
  clear hvs ek nk nr hm
  have HV3 : Hid (∀ u : World, Calls Try.prog 30 #[.slice none 0 0, .int .u64 28] u (MakesB u ([] ++ enc 28))) := fun u => vput [] none 0 0 0 28 u Sl.nil (Nat.zero_le _) (by omega) (by omega)
  have B0 : Hid (∀ o1, Below w.heap.size w (w.alloc o1)) := fun _ => (Below.refl _ _).alloc (Nat.le_refl _) _
  clear hf
  go_enter Try.func12, Try.ntmps12
  go_wp2_with ((with_reducible refine wpList_load_rw rfl 26 (.tmp 1) rfl w.heap.size ?hx 26 vs ?hB _ Try.underlying26 rfl HSZ.out ?_); (case hx => with_unfolding_all rfl); (case hB => exact heap_allocs w [_] 0 _ rfl))
  (with_reducible refine (HMAY.out _ ?hb).mono ?_)
  case hb => exact B0.out _
  rintro e1 w1 ⟨rfl, b1⟩
  have R1 : Hid (Rw w1 w.heap.size 26 vs) := (show Rw _ _ _ vs from heap_allocs w [_] 0 _ rfl).below b1
  have B1 : Hid (Below w.heap.size w w1) := (B0.out _).trans (b1.mono (by simp))
  have LT : Hid (w.heap.size < w1.heap.size) := R1.out.lt
  clear b1
  go_wp2_with ((with_reducible refine wpList_load_rw rfl 26 (.tmp 1) rfl w.heap.size ?hx 26 vs ?hB _ Try.underlying26 rfl HSZ.out ?_); (case hx => with_unfolding_all rfl); (case hB => exact R1.out))
  (with_reducible refine (HKL.out _).mono ?_)
  rintro e2 w2 ⟨rfl, b2⟩
  have R2 := Lib.hid (R1.out.below b2)
  have B2 := Lib.hid (B1.out.trans (b2.mono B1.out.size))
  have S2 : Hid (w1.heap.size ≤ w2.heap.size) := b2.size
  clear b2
  go_wp2_with fail
  (with_reducible refine (HV3.out w2).mono ?_)
  rintro e3 w3 ⟨A3, n3, d3, rfl, o, b⟩
  have R3 := Lib.hid (R2.out.below b)
  have B3 := Lib.hid (B2.out.trans (b.mono B2.out.size))
  have S3 : Hid (w1.heap.size ≤ w3.heap.size) := Nat.le_trans S2.out b.size
  have hn3 : n3 ≤ 8 := by have h1 := o.len; have h2 := enc_le 28; rw [List.length_append] at h1; simp only [List.length_nil] at h1; omega
  have O3 := Lib.hid (o.base S2.out)
  clear o b
  obtain ⟨k0, k1, k2, k3, k4, k5, k6, k7, k8, k9⟩ := fr_cells (HVS.out ▸ R3.out)
  simp only at k0 k1 k2 k3 k4 k5 k6 k7 k8 k9
  go_wp2_with fail
  (with_reducible refine (vput ([] ++ enc 28) A3 n3 d3 w3.heap.size n w3 O3.out.sl (Nat.le_refl _) (by omega) nn).mono ?_)
  rintro e4 w4 ⟨A4, n4, d4, rfl, o, b⟩
  have R4 := Lib.hid (R3.out.below b)
  have B4 := Lib.hid (B3.out.trans (b.mono B3.out.size))
  have S4 : Hid (w1.heap.size ≤ w4.heap.size) := Nat.le_trans S3.out b.size
  have hn4 : n4 ≤ n3 + 8 := by have h1 := o.len; have h2 := enc_le (n); have h3 := O3.out.len; rw [List.length_append] at h1; omega
  have O4 := Lib.hid (o.base S3.out)
  clear o b k0 k1 k2 k3 k4 k5 k6 k7 k8 k9
  obtain ⟨k0, k1, k2, k3, k4, k5, k6, k7, k8, k9⟩ := fr_cells (HVS.out ▸ R4.out)
  simp only at k0 k1 k2 k3 k4 k5 k6 k7 k8 k9
  go_wp2_with (at_builtin; refine wpList_append_bytes rfl _ _ rfl w1.heap.size (.slice A4 n4 d4) n4 ([] ++ enc 28 ++ enc n) rfl (O4.out.alloc _) (w4.heap.size + 1) (some ⟨w4.heap.size, 0, none⟩) 2 2 [0, 0] rfl (sl_lit2 w4 0 0) (by omega) (Nat.le_trans S4.out (by simp)) _ (Below.refl _ _) ?_; intro A5 d5 w5 o hle hc hg b; have R5 := Lib.hid (Rw.belowB (R4.out.alloc _) b LT.out); have B5 := Lib.hid (Below.trans (B4.out.alloc B4.out.size _) (b.mono (Nat.le_of_lt LT.out))); have S5 : Hid (w1.heap.size ≤ w5.heap.size) := Nat.le_trans (Nat.le_trans S4.out (by simp)) b.size; have O5 := Lib.hid o; clear o hle hc hg b)
  obtain ⟨n5, hn5⟩ : ∃ n, n4 + 2 = n := ⟨_, rfl⟩
  simp only [hn5] at O5 ⊢
  go_wp2_with fail
  go_ret
  refine ⟨A5, n5, d5, rfl, ?_, B5.out⟩
  rw [HPF.out]
  exact O5.out.base (Nat.le_of_lt LT.out)
set_option maxHeartbeats 4000000 in
set_option maxRecDepth 4000 in
theorem fput_24 (f : Fr) (p : Fp) (B : Nat) (w : World) (hB : B ≤ w.heap.size) (hf : FrL w B f p) (hn : FrN f) (hm : MayF f) (hk : f.kind = 24) :
    Calls Try.prog 12 #[.agg (frV f p).toArray] w (MakesB w (putF f)) := by
  have hwb := ((may_iff f).1 hm).1
  have HP : Hid (∀ u : World, Below w.heap.size w u → FrL u B f p) := fun u hu => hf.below (hu.mono hB)
  have HSZ := Lib.hid (frV_size f p)
  have HMAY : Hid (∀ u : World, Below w.heap.size w u → Calls Try.prog 14 #[.agg (frV f p).toArray] u fun e w' => e = .returned (.bool true) ∧ Below u.heap.size u w') := fun u hu => may_any f p B u (Nat.le_trans hB hu.size) (HP.out u hu) hn true (by simp [hm])
  have HKL : Hid (∀ u : World, Calls Try.prog 31 #[.agg (frV f p).toArray] u fun e w' => e = .returned (.int .u64 ((24 : Nat) : Int)) ∧ Below u.heap.size u w') := fun u => kindLaid_any f p 24 hk (by omega) 24 (by simp) u
  obtain ⟨vs, hvs⟩ : ∃ vs, frV f p = vs := ⟨_, rfl⟩
  have HVS := Lib.hid hvs
  rw [hvs] at HSZ HMAY HKL ⊢
  obtain ⟨K, n, d, rs, id, of, fi, da, ci, tk⟩ := f
  obtain ⟨ra, rn, rc, dA, dn, dc, ca, cn, cc, ta, tn, tc⟩ := p
  obtain ⟨nk, nn, nd, ni, no, nr⟩ := hn
  simp only at hk nn nd ni no
  subst hk
  simp [wbF] at hwb
  try unfold maxV at hwb
  have ek : enc 24 = [24] := by decide
  have HPF : Hid (putF ⟨24, n, d, rs, id, of, fi, da, ci, tk⟩ = [] ++ enc 24 ++ enc n ++ [0, 8] ++ ci ++ tk) := show _ = _ by rw [ek]; simp [putF]
  clear hvs ek nk nr hm
  have lcn : ci.length = cn := hf.c.1
  have ltn : tk.length = tn := hf.t.1
  have HV3 : Hid (∀ u : World, Calls Try.prog 30 #[.slice none 0 0, .int .u64 24] u (MakesB u ([] ++ enc 24))) := fun u => vput [] none 0 0 0 24 u Sl.nil (Nat.zero_le _) (by omega) (by omega)
  have B0 : Hid (∀ o1, Below w.heap.size w (w.alloc o1)) := fun _ => (Below.refl _ _).alloc (Nat.le_refl _) _
  clear hf
  go_enter Try.func12, Try.ntmps12
  go_wp2_with ((with_reducible refine wpList_load_rw rfl 26 (.tmp 1) rfl w.heap.size ?hx 26 vs ?hB _ Try.underlying26 rfl HSZ.out ?_); (case hx => with_unfolding_all rfl); (case hB => exact heap_allocs w [_] 0 _ rfl))
  (with_reducible refine (HMAY.out _ ?hb).mono ?_)
  case hb => exact B0.out _
  rintro e1 w1 ⟨rfl, b1⟩
  have R1 : Hid (Rw w1 w.heap.size 26 vs) := (show Rw _ _ _ vs from heap_allocs w [_] 0 _ rfl).below b1
  have B1 : Hid (Below w.heap.size w w1) := (B0.out _).trans (b1.mono (by simp))
  have LT : Hid (w.heap.size < w1.heap.size) := R1.out.lt
  clear b1
  go_wp2_with ((with_reducible refine wpList_load_rw rfl 26 (.tmp 1) rfl w.heap.size ?hx 26 vs ?hB _ Try.underlying26 rfl HSZ.out ?_); (case hx => with_unfolding_all rfl); (case hB => exact R1.out))
  (with_reducible refine (HKL.out _).mono ?_)
  rintro e2 w2 ⟨rfl, b2⟩
  have R2 := Lib.hid (R1.out.below b2)
  have B2 := Lib.hid (B1.out.trans (b2.mono B1.out.size))
  have S2 : Hid (w1.heap.size ≤ w2.heap.size) := b2.size
  clear b2
  go_wp2_with fail
  (with_reducible refine (HV3.out w2).mono ?_)
  rintro e3 w3 ⟨A3, n3, d3, rfl, o, b⟩
  have R3 := Lib.hid (R2.out.below b)
  have B3 := Lib.hid (B2.out.trans (b.mono B2.out.size))
  have S3 : Hid (w1.heap.size ≤ w3.heap.size) := Nat.le_trans S2.out b.size
  have hn3 : n3 ≤ 8 := by have h1 := o.len; have h2 := enc_le 24; rw [List.length_append] at h1; simp only [List.length_nil] at h1; omega
  have O3 := Lib.hid (o.base S2.out)
  clear o b
  obtain ⟨k0, k1, k2, k3, k4, k5, k6, k7, k8, k9⟩ := fr_cells (HVS.out ▸ R3.out)
  simp only at k0 k1 k2 k3 k4 k5 k6 k7 k8 k9
  go_wp2_with fail
  (with_reducible refine (vput ([] ++ enc 24) A3 n3 d3 w3.heap.size n w3 O3.out.sl (Nat.le_refl _) (by omega) nn).mono ?_)
  rintro e4 w4 ⟨A4, n4, d4, rfl, o, b⟩
  have R4 := Lib.hid (R3.out.below b)
  have B4 := Lib.hid (B3.out.trans (b.mono B3.out.size))
  have S4 : Hid (w1.heap.size ≤ w4.heap.size) := Nat.le_trans S3.out b.size
  have hn4 : n4 ≤ n3 + 8 := by have h1 := o.len; have h2 := enc_le (n); have h3 := O3.out.len; rw [List.length_append] at h1; omega
  have O4 := Lib.hid (o.base S3.out)
  clear o b k0 k1 k2 k3 k4 k5 k6 k7 k8 k9
  obtain ⟨k0, k1, k2, k3, k4, k5, k6, k7, k8, k9⟩ := fr_cells (HVS.out ▸ R4.out)
  simp only at k0 k1 k2 k3 k4 k5 k6 k7 k8 k9
  go_wp2_with (first | (at_builtin; refine wpList_append_bytes rfl _ _ rfl w1.heap.size (.slice A6 (n4 + 2 + cn) d6) (n4 + 2 + cn) ([] ++ enc 24 ++ enc n ++ [0, 8] ++ ci) rfl O6.out B ta tn tc tk rfl (HP.out _ B6.out).t (by omega) S6.out _ (Below.refl _ _) ?_; intro A7 d7 w7 o hle hc hg b; have R7 := Lib.hid (Rw.belowB R6.out b LT.out); have B7 := Lib.hid (Below.trans B6.out (b.mono (Nat.le_of_lt LT.out))); have S7 : Hid (w1.heap.size ≤ w7.heap.size) := Nat.le_trans S6.out b.size; have O7 := Lib.hid o; have c8_7 : w7.cell? ⟨w.heap.size, 8, none⟩ = some (.slice ca cn cc) := (fr_cells (HVS.out ▸ R7.out)).2.2.2.2.2.2.2.2.1; have c9_7 : w7.cell? ⟨w.heap.size, 9, none⟩ = some (.slice ta tn tc) := (fr_cells (HVS.out ▸ R7.out)).2.2.2.2.2.2.2.2.2; clear o hle hc hg b) | (at_builtin; refine wpList_append_bytes rfl _ _ rfl w1.heap.size (.slice A5 (n4 + 2) d5) (n4 + 2) ([] ++ enc 24 ++ enc n ++ [0, 8]) rfl O5.out B ca cn cc ci rfl (HP.out _ B5.out).c (by omega) S5.out _ (Below.refl _ _) ?_; intro A6 d6 w6 o hle hc hg b; have R6 := Lib.hid (Rw.belowB R5.out b LT.out); have B6 := Lib.hid (Below.trans B5.out (b.mono (Nat.le_of_lt LT.out))); have S6 : Hid (w1.heap.size ≤ w6.heap.size) := Nat.le_trans S5.out b.size; have O6 := Lib.hid o; have c8_6 : w6.cell? ⟨w.heap.size, 8, none⟩ = some (.slice ca cn cc) := (fr_cells (HVS.out ▸ R6.out)).2.2.2.2.2.2.2.2.1; have c9_6 : w6.cell? ⟨w.heap.size, 9, none⟩ = some (.slice ta tn tc) := (fr_cells (HVS.out ▸ R6.out)).2.2.2.2.2.2.2.2.2; clear o hle hc hg b) | (at_builtin; refine wpList_append_bytes rfl _ _ rfl w1.heap.size (.slice A4 (n4) d4) (n4) ([] ++ enc 24 ++ enc n) rfl (O4.out.alloc _) (w4.heap.size + 1) (some ⟨w4.heap.size, 0, none⟩) 2 2 [0, 8] rfl (sl_lit2 w4 0 8) (by omega) (Nat.le_trans S4.out (by simp)) _ (Below.refl _ _) ?_; intro A5 d5 w5 o hle hc hg b; have R5 := Lib.hid (Rw.belowB (R4.out.alloc _) b LT.out); have B5 := Lib.hid (Below.trans (B4.out.alloc B4.out.size _) (b.mono (Nat.le_of_lt LT.out))); have S5 : Hid (w1.heap.size ≤ w5.heap.size) := Nat.le_trans (Nat.le_trans S4.out (by simp)) b.size; have O5 := Lib.hid o; have c8_5 : w5.cell? ⟨w.heap.size, 8, none⟩ = some (.slice ca cn cc) := (fr_cells (HVS.out ▸ R5.out)).2.2.2.2.2.2.2.2.1; have c9_5 : w5.cell? ⟨w.heap.size, 9, none⟩ = some (.slice ta tn tc) := (fr_cells (HVS.out ▸ R5.out)).2.2.2.2.2.2.2.2.2; clear o hle hc hg b))
  obtain ⟨n7, hn7⟩ : ∃ n, n4 + 2 + cn + tn = n := ⟨_, rfl⟩
  simp only [hn7] at O7 ⊢
  go_wp2_with fail
  go_ret
  refine ⟨A7, n7, d7, rfl, ?_, B7.out⟩
  rw [HPF.out]
  exact O7.out.base (Nat.le_of_lt LT.out)
set_option maxHeartbeats 4000000 in
set_option maxRecDepth 4000 in
theorem fput_0 (f : Fr) (p : Fp) (B : Nat) (w : World) (hB : B ≤ w.heap.size) (hf : FrL w B f p) (hn : FrN f) (hm : MayF f) (hk : f.kind = 0) :
    Calls Try.prog 12 #[.agg (frV f p).toArray] w (MakesB w (putF f)) := by
  have hwb := ((may_iff f).1 hm).1
  have HP : Hid (∀ u : World, Below w.heap.size w u → FrL u B f p) := fun u hu => hf.below (hu.mono hB)
  have HSZ := Lib.hid (frV_size f p)
  have HMAY : Hid (∀ u : World, Below w.heap.size w u → Calls Try.prog 14 #[.agg (frV f p).toArray] u fun e w' => e = .returned (.bool true) ∧ Below u.heap.size u w') := fun u hu => may_any f p B u (Nat.le_trans hB hu.size) (HP.out u hu) hn true (by simp [hm])
  have HKL : Hid (∀ u : World, Calls Try.prog 31 #[.agg (frV f p).toArray] u fun e w' => e = .returned (.int .u64 ((0 : Nat) : Int)) ∧ Below u.heap.size u w') := fun u => kindLaid_any f p 0 hk (by omega) 0 (by simp) u
  obtain ⟨vs, hvs⟩ : ∃ vs, frV f p = vs := ⟨_, rfl⟩
  have HVS := Lib.hid hvs
  rw [hvs] at HSZ HMAY HKL ⊢
  obtain ⟨K, n, d, rs, id, of, fi, da, ci, tk⟩ := f
  obtain ⟨ra, rn, rc, dA, dn, dc, ca, cn, cc, ta, tn, tc⟩ := p
  obtain ⟨nk, nn, nd, ni, no, nr⟩ := hn
  simp only at hk nn nd ni no
  subst hk
  simp [wbF] at hwb
  try unfold maxV at hwb
  have ek : enc 0 = [0] := by decide
  have HPF : Hid True := trivial
  clear hvs ek nk nr hm
  obtain ⟨m, hm⟩ : ∃ m : Nat, n - 1 = m := ⟨_, rfl⟩
  have wm : (n : Int) - 1 = (m : Int) := by omega
  have HM : Hid (n = m + 1) := show n = m + 1 by omega
  have HV3 : Hid (∀ u : World, Calls Try.prog 30 #[.slice none 0 0, .int .u64 0] u (MakesB u ([] ++ enc 0))) := fun u => vput [] none 0 0 0 0 u Sl.nil (Nat.zero_le _) (by omega) (by omega)
  have B0 : Hid (∀ o1, Below w.heap.size w (w.alloc o1)) := fun _ => (Below.refl _ _).alloc (Nat.le_refl _) _
  clear hf
  go_enter Try.func12, Try.ntmps12
  go_wp2_with ((with_reducible refine wpList_load_rw rfl 26 (.tmp 1) rfl w.heap.size ?hx 26 vs ?hB _ Try.underlying26 rfl HSZ.out ?_); (case hx => with_unfolding_all rfl); (case hB => exact heap_allocs w [_] 0 _ rfl))
  (with_reducible refine (HMAY.out _ ?hb).mono ?_)
  case hb => exact B0.out _
  rintro e1 w1 ⟨rfl, b1⟩
  have R1 : Hid (Rw w1 w.heap.size 26 vs) := (show Rw _ _ _ vs from heap_allocs w [_] 0 _ rfl).below b1
  have B1 : Hid (Below w.heap.size w w1) := (B0.out _).trans (b1.mono (by simp))
  have LT : Hid (w.heap.size < w1.heap.size) := R1.out.lt
  clear b1
  go_wp2_with ((with_reducible refine wpList_load_rw rfl 26 (.tmp 1) rfl w.heap.size ?hx 26 vs ?hB _ Try.underlying26 rfl HSZ.out ?_); (case hx => with_unfolding_all rfl); (case hB => exact R1.out))
  (with_reducible refine (HKL.out _).mono ?_)
  rintro e2 w2 ⟨rfl, b2⟩
  have R2 := Lib.hid (R1.out.below b2)
  have B2 := Lib.hid (B1.out.trans (b2.mono B1.out.size))
  have S2 : Hid (w1.heap.size ≤ w2.heap.size) := b2.size
  clear b2
  go_wp2_with fail
  (with_reducible refine (HV3.out w2).mono ?_)
  rintro e3 w3 ⟨A3, n3, d3, rfl, o, b⟩
  have R3 := Lib.hid (R2.out.below b)
  have B3 := Lib.hid (B2.out.trans (b.mono B2.out.size))
  have S3 : Hid (w1.heap.size ≤ w3.heap.size) := Nat.le_trans S2.out b.size
  have hn3 : n3 ≤ 8 := by have h1 := o.len; have h2 := enc_le 0; rw [List.length_append] at h1; simp only [List.length_nil] at h1; omega
  have O3 := Lib.hid (o.base S2.out)
  clear o b
  obtain ⟨k0, k1, k2, k3, k4, k5, k6, k7, k8, k9⟩ := fr_cells (HVS.out ▸ R3.out)
  simp only at k0 k1 k2 k3 k4 k5 k6 k7 k8 k9
  obtain ⟨N4, hN4⟩ : ∃ N4, n3 + m = N4 := ⟨_, rfl⟩
  have HN4 := Lib.hid hN4
  have hm4 : m ≤ 16384 := by have := HM.out; omega
  have hN4b : N4 ≤ 20000 := by omega
  clear hN4
  go_wp2_with (at_builtin; refine wpList_append_zerosU rfl (.tmp 30) (.tmp 33) rfl w1.heap.size (.slice A3 n3 d3) n3 m N4 ([] ++ enc 0) rfl O3.out rfl HN4.out (by omega) S3.out w3 (Below.refl _ _) ?_; intro A4 d4 w4 O4 hle hc b; have B4 := Lib.hid (B3.out.trans (b.out.mono (Nat.le_of_lt LT.out))); clear hle hc b)
  obtain ⟨n4, hn4⟩ : ∃ n, N4 = n := ⟨_, rfl⟩
  simp only [hn4] at O4 ⊢
  go_wp2_with fail
  go_ret
  refine ⟨A4, n4, d4, rfl, ?_, B4.out⟩
  have e : putF ⟨0, n, d, rs, id, of, fi, da, ci, tk⟩ = [] ++ enc 0 ++ List.replicate m 0 := by have ek : enc 0 = [0] := by decide
                                                                                                rw [ek, HM.out]; simp [putF, List.replicate_succ]
  rw [e]
  exact O4.out.base (Nat.le_of_lt LT.out)
set_option maxHeartbeats 4000000 in
set_option maxRecDepth 4000 in
theorem fput_2 (f : Fr) (p : Fp) (B : Nat) (w : World) (hB : B ≤ w.heap.size) (hf : FrL w B f p) (hn : FrN f) (hm : MayF f) (hk : f.kind = 2) :
    Calls Try.prog 12 #[.agg (frV f p).toArray] w (MakesB w (putF f)) := by
  have hwb := ((may_iff f).1 hm).1
  have HP : Hid (∀ u : World, Below w.heap.size w u → FrL u B f p) := fun u hu => hf.below (hu.mono hB)
  have HSZ := Lib.hid (frV_size f p)
  have HMAY : Hid (∀ u : World, Below w.heap.size w u → Calls Try.prog 14 #[.agg (frV f p).toArray] u fun e w' => e = .returned (.bool true) ∧ Below u.heap.size u w') := fun u hu => may_any f p B u (Nat.le_trans hB hu.size) (HP.out u hu) hn true (by simp [hm])
  have HKL : Hid (∀ u : World, Calls Try.prog 31 #[.agg (frV f p).toArray] u fun e w' => e = .returned (.int .u64 ((2 : Nat) : Int)) ∧ Below u.heap.size u w') := fun u => kindLaid_any f p 2 hk (by omega) 2 (by simp) u
  have hwb2 : f.delay ≤ maxV ∧ RangesP f.rs := by simp [wbF, hk] at hwb; exact hwb
  have HPA : Hid (∀ (l : List UInt8) (A : Option Addr) (n c : Nat) (u : World), Below w.heap.size w u → Sl u u.heap.size A n l → u.heap.size ≤ u.heap.size → n ≤ 100 → Calls Try.prog 32 #[.slice A n c, .agg (frV f p).toArray] u (MakesB u (l ++ (enc (f.rs.getD 0 (0, 0)).2 ++ (enc f.delay ++ (enc (f.rs.length - 1) ++ bodyR f.rs)))))) := fun l A n c u hu hs hl h1 => putAck_any f p B l A n c u.heap.size u (Nat.le_trans hB hu.size) (HP.out u hu) hn hwb2.2 hwb2.1 hs hl h1
  have HAK : putAck f.delay f.rs = 2 :: (enc (f.rs.getD 0 (0, 0)).2 ++ (enc f.delay ++ (enc (f.rs.length - 1) ++ bodyR f.rs))) := by
    have h1 := hwb2.2.1
    cases hrs : f.rs with
    | nil => rw [hrs] at h1; simp at h1
    | cons x t => obtain ⟨lo, hi⟩ := x; simp [putAck, bodyR]
  clear hwb2
  obtain ⟨vs, hvs⟩ : ∃ vs, frV f p = vs := ⟨_, rfl⟩
  have HVS := Lib.hid hvs
  rw [hvs] at HSZ HMAY HKL HPA ⊢
  obtain ⟨K, n, d, rs, id, of, fi, da, ci, tk⟩ := f
  obtain ⟨ra, rn, rc, dA, dn, dc, ca, cn, cc, ta, tn, tc⟩ := p
  obtain ⟨nk, nn, nd, ni, no, nr⟩ := hn
  simp only at hk nn nd ni no
  subst hk
  simp [wbF] at hwb
  try unfold maxV at hwb
  have ek : enc 2 = [2] := by decide
  have HPF : Hid (putF ⟨2, n, d, rs, id, of, fi, da, ci, tk⟩ = [] ++ enc 2 ++ (enc (rs.getD 0 (0, 0)).2 ++ (enc d ++ (enc (rs.length - 1) ++ bodyR rs)))) := show _ = _ by rw [ek]; simp [putF, HAK]
  clear hvs ek nk nr hm
  have HV3 : Hid (∀ u : World, Calls Try.prog 30 #[.slice none 0 0, .int .u64 2] u (MakesB u ([] ++ enc 2))) := fun u => vput [] none 0 0 0 2 u Sl.nil (Nat.zero_le _) (by omega) (by omega)
  have B0 : Hid (∀ o1, Below w.heap.size w (w.alloc o1)) := fun _ => (Below.refl _ _).alloc (Nat.le_refl _) _
  clear hf
  go_enter Try.func12, Try.ntmps12
  go_wp2_with ((with_reducible refine wpList_load_rw rfl 26 (.tmp 1) rfl w.heap.size ?hx 26 vs ?hB _ Try.underlying26 rfl HSZ.out ?_); (case hx => with_unfolding_all rfl); (case hB => exact heap_allocs w [_] 0 _ rfl))
  (with_reducible refine (HMAY.out _ ?hb).mono ?_)
  case hb => exact B0.out _
  rintro e1 w1 ⟨rfl, b1⟩
  have R1 : Hid (Rw w1 w.heap.size 26 vs) := (show Rw _ _ _ vs from heap_allocs w [_] 0 _ rfl).below b1
  have B1 : Hid (Below w.heap.size w w1) := (B0.out _).trans (b1.mono (by simp))
  have LT : Hid (w.heap.size < w1.heap.size) := R1.out.lt
  clear b1
  go_wp2_with ((with_reducible refine wpList_load_rw rfl 26 (.tmp 1) rfl w.heap.size ?hx 26 vs ?hB _ Try.underlying26 rfl HSZ.out ?_); (case hx => with_unfolding_all rfl); (case hB => exact R1.out))
  (with_reducible refine (HKL.out _).mono ?_)
  rintro e2 w2 ⟨rfl, b2⟩
  have R2 := Lib.hid (R1.out.below b2)
  have B2 := Lib.hid (B1.out.trans (b2.mono B1.out.size))
  have S2 : Hid (w1.heap.size ≤ w2.heap.size) := b2.size
  clear b2
  go_wp2_with fail
  (with_reducible refine (HV3.out w2).mono ?_)
  rintro e3 w3 ⟨A3, n3, d3, rfl, o, b⟩
  have R3 := Lib.hid (R2.out.below b)
  have B3 := Lib.hid (B2.out.trans (b.mono B2.out.size))
  have S3 : Hid (w1.heap.size ≤ w3.heap.size) := Nat.le_trans S2.out b.size
  have hn3 : n3 ≤ 8 := by have h1 := o.len; have h2 := enc_le 2; rw [List.length_append] at h1; simp only [List.length_nil] at h1; omega
  have O3 := Lib.hid (o.base S2.out)
  clear o b
  obtain ⟨k0, k1, k2, k3, k4, k5, k6, k7, k8, k9⟩ := fr_cells (HVS.out ▸ R3.out)
  simp only at k0 k1 k2 k3 k4 k5 k6 k7 k8 k9
  go_wp2_with ((with_reducible refine wpList_load_rw rfl 26 (.tmp 1) rfl w.heap.size ?hx 26 vs ?hB _ Try.underlying26 rfl HSZ.out ?_); (case hx => with_unfolding_all rfl); (case hB => exact R3.out))
  (with_reducible refine (HPA.out _ A3 n3 d3 w3 B3.out O3.out.sl (Nat.le_refl _) (by omega)).mono ?_)
  rintro e4 w4 ⟨A4, n4, d4, rfl, o, b⟩
  have R4 := Lib.hid (R3.out.below b)
  have B4 := Lib.hid (B3.out.trans (b.mono B3.out.size))
  have O4 := Lib.hid (o.base S3.out)
  clear o b
  go_wp2_with fail
  go_ret
  refine ⟨A4, n4, d4, rfl, ?_, B4.out⟩
  rw [HPF.out]
  exact O4.out.base (Nat.le_of_lt LT.out)
set_option maxHeartbeats 4000000 in
theorem fput_no (f : Fr) (p : Fp) (B : Nat) (w : World) (hB : B ≤ w.heap.size) (hf : FrL w B f p) (hn : FrN f) (hm : ¬ MayF f) :
    Calls Try.prog 12 #[.agg (frV f p).toArray] w (MakesB w []) := by
  have HP : Hid (∀ u : World, Below w.heap.size w u → FrL u B f p) := fun u hu => hf.below (hu.mono hB)
  have HSZ := Lib.hid (frV_size f p)
  have HMAY : Hid (∀ u : World, Below w.heap.size w u → Calls Try.prog 14 #[.agg (frV f p).toArray] u fun e w' => e = .returned (.bool false) ∧ Below u.heap.size u w') := fun u hu => may_any f p B u (Nat.le_trans hB hu.size) (HP.out u hu) hn false (by simp [hm])
  obtain ⟨vs, hvs⟩ : ∃ vs, frV f p = vs := ⟨_, rfl⟩
  rw [hvs] at HSZ HMAY ⊢
  have B0 : Hid (∀ o1, Below w.heap.size w (w.alloc o1)) := fun _ => (Below.refl _ _).alloc (Nat.le_refl _) _
  clear hvs hf hm
  go_enter Try.func12, Try.ntmps12
  go_wp2_with ((with_reducible refine wpList_load_rw rfl 26 (.tmp 1) rfl w.heap.size ?hx 26 vs ?hB _ Try.underlying26 rfl HSZ.out ?_); (case hx => with_unfolding_all rfl); (case hB => exact heap_allocs w [_] 0 _ rfl))
  (with_reducible refine (HMAY.out _ ?hb).mono ?_)
  case hb => exact B0.out _
  rintro e1 w1 ⟨rfl, b1⟩
  go_wp2_with fail
  go_ret
  exact ⟨none, 0, 0, rfl, Own.nil _ _, (B0.out _).trans (b1.mono (by simp))⟩
theorem fput_yes (f : Fr) (p : Fp) (B : Nat) (w : World) (hB : B ≤ w.heap.size) (hf : FrL w B f p) (hn : FrN f) (hm : MayF f) :
    Calls Try.prog 12 #[.agg (frV f p).toArray] w (MakesB w (putF f)) := by
  have hk := hm
  unfold MayF at hk
  split at hk
  · next h => exact fput_0 f p B w hB hf hn hm h
  split at hk
  · next h => exact h.elim (fput_1 f p B w hB hf hn hm) (fput_30 f p B w hB hf hn hm)
  split at hk
  · next h => exact fput_2 f p B w hB hf hn hm h
  split at hk
  · next h => exact fput_6 f p B w hB hf hn hm h
  split at hk
  · next h =>
    cases hfi : f.fin with
    | true => exact fput_8t f p B w hB hf hn hm h hfi
    | false => exact fput_8f f p B w hB hf hn hm h hfi
  split at hk
  · next h =>
    rcases h with h | h | h
    · exact fput_16 f p B w hB hf hn hm h
    · exact fput_25 f p B w hB hf hn hm h
    · exact fput_28 f p B w hB hf hn hm h
  split at hk
  · next h => exact fput_24 f p B w hB hf hn hm h
  split at hk
  · next h => exact h.elim (fput_26 f p B w hB hf hn hm) (fput_27 f p B w hB hf hn hm)
  · exact hk.elim
end Go.Proofs.Ytcipmfhacloegaa
