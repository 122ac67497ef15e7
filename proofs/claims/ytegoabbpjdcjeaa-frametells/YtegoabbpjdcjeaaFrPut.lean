/-
  How a frame is laid, by the document: Put. (A theorem a kind, written out by a small program.)
-/
import Derived.Test.YtegoabbpjdcjeaaFrZ
import Derived.Test.YtegoabbpjdcjeaaFrF
import Derived.Test.YtegoabbpjdcjeaaFrH
import Derived.Test.YtegoabbpjdcjeaaMakeF
namespace Go.Proofs.Ytegoabbpjdcjeaa
open Go.RowKit
set_option linter.unusedVariables false

theorem rvput (l : List UInt8) (A : Option Addr) (n c B v : Nat) (w : World) (h : Sl w B A n l) (hB : B ≤ w.heap.size) (hm : n ≤ 1000000) (hv : v < 18446744073709551616) :
    Calls Try.prog 33 #[.slice A n c, .int .u64 (v : Int)] w (MakesB w (l ++ enc v)) :=
  (rput_any l A n c B v w h hB (by omega) hv).mono fun e w' ⟨A', c', he, ho, _, _, hb⟩ => ⟨A', _, c', he, ho, hb⟩
theorem run_make_fullU (S : Nat) (hS : S ≤ 70368744177664) (u : World) : (Instr.makeSlice 24 (.int .u64 (S : Int)) (.int .u64 (S : Int))).run Try.prog u =
      .ok (.slice (some ⟨u.heap.size, 0, none⟩) S S) (u.alloc (.cells (bvs (List.replicate S 0)).toArray 5)) := by
  obtain ⟨i, hi, hz0, hz1, hz2⟩ := info_parts byte_info
  have h := run_make (P := Try.prog) u 24 5 i (.int .u8 0) Try.underlying24 hi hz0 .u64 .u64 (S : Int) (S : Int) (by omega) (Int.le_refl _) (by rw [hz2]; omega) (by omega)
  rw [← made_zeros]
  simpa [hz1, Value.cells] using h
set_option maxHeartbeats 4000000 in
set_option maxRecDepth 4000 in
theorem rfput_0 (f : Fr) (p : Fp) (B : Nat) (w : World) (hB : B ≤ w.heap.size) (hf : FrL w B f p) (hn : FrN f) (hm : MayF f) (hk : f.kind = 0) :
    Calls Try.prog 13 #[.agg (frV f p).toArray] w (MakesB w (putF f)) := by
  have hwb := ((may_iff f).1 hm).1
  have HP : Hid (∀ u : World, Below w.heap.size w u → FrL u B f p) := fun u hu => hf.below (hu.mono hB)
  have HSZ := Lib.hid (frV_size f p)
  have HMAY : Hid (∀ u : World, Below w.heap.size w u → Calls Try.prog 15 #[.agg (frV f p).toArray] u fun e w' => e = .returned (.bool true) ∧ Below u.heap.size u w') := fun u hu => rmay_any f p B u (Nat.le_trans hB hu.size) (HP.out u hu) hn true (by simp [hm])
  obtain ⟨vs, hvs⟩ : ∃ vs, frV f p = vs := ⟨_, rfl⟩
  have HVS := Lib.hid hvs
  rw [hvs] at HSZ HMAY ⊢
  obtain ⟨K, n, d, rs, id, of, fi, da, ci, tk⟩ := f
  obtain ⟨ra, rn, rc, dA, dn, dc, ca, cn, cc, ta, tn, tc⟩ := p
  obtain ⟨nk, nn, nd, ni, no, nr⟩ := hn
  simp only at hk nn nd ni no
  subst hk
  simp [wbF] at hwb
  try unfold maxV at hwb
  clear hvs nk nr hm
  have B0 : Hid (∀ o1, Below w.heap.size w (w.alloc o1)) := fun _ => (Below.refl _ _).alloc (Nat.le_refl _) _
  clear hf
  go_enter Try.func13, Try.ntmps13
  go_wp2_with ((with_reducible refine wpList_load_rw rfl 26 (.tmp 1) rfl w.heap.size ?hx 26 vs ?hB _ Try.underlying26 rfl HSZ.out ?_); (case hx => with_unfolding_all rfl); (case hB => exact heap_allocs w [_] 0 _ rfl))
  (with_reducible refine (HMAY.out _ ?hb).mono ?_)
  case hb => exact B0.out _
  rintro e1 w1 ⟨rfl, b1⟩
  have R1 : Hid (Rw w1 w.heap.size 26 vs) := (show Rw _ _ _ vs from heap_allocs w [_] 0 _ rfl).below b1
  have B1 : Hid (Below w.heap.size w w1) := (B0.out _).trans (b1.mono (by simp))
  have LT : Hid (w.heap.size < w1.heap.size) := R1.out.lt
  clear b1
  obtain ⟨k0, k1, k2, k3, k4, k5, k6, k7, k8, k9⟩ := fr_cells (HVS.out ▸ R1.out)
  simp only at k0 k1 k2 k3 k4 k5 k6 k7 k8 k9
  have hmk := run_make_fullU n (by omega)
  go_wp2_with fail
  go_ret
  have hB1 : Blk (w1.alloc (.cells (bvs (List.replicate n 0)).toArray 5)) w1.heap.size 5 (List.replicate n 0) := heap_alloc_new w1 _
  exact ⟨_, n, n, rfl, hB1.own (by simp) (Nat.le_of_lt LT.out) (by simp only [maxLen]; omega), B1.out.alloc B1.out.size _⟩
set_option maxHeartbeats 4000000 in
set_option maxRecDepth 4000 in
theorem rfput_1 (f : Fr) (p : Fp) (B : Nat) (w : World) (hB : B ≤ w.heap.size) (hf : FrL w B f p) (hn : FrN f) (hm : MayF f) (hk : f.kind = 1) :
    Calls Try.prog 13 #[.agg (frV f p).toArray] w (MakesB w (putF f)) := by
  have hwb := ((may_iff f).1 hm).1
  have HP : Hid (∀ u : World, Below w.heap.size w u → FrL u B f p) := fun u hu => hf.below (hu.mono hB)
  have HSZ := Lib.hid (frV_size f p)
  have HMAY : Hid (∀ u : World, Below w.heap.size w u → Calls Try.prog 15 #[.agg (frV f p).toArray] u fun e w' => e = .returned (.bool true) ∧ Below u.heap.size u w') := fun u hu => rmay_any f p B u (Nat.le_trans hB hu.size) (HP.out u hu) hn true (by simp [hm])
  obtain ⟨vs, hvs⟩ : ∃ vs, frV f p = vs := ⟨_, rfl⟩
  have HVS := Lib.hid hvs
  rw [hvs] at HSZ HMAY ⊢
  obtain ⟨K, n, d, rs, id, of, fi, da, ci, tk⟩ := f
  obtain ⟨ra, rn, rc, dA, dn, dc, ca, cn, cc, ta, tn, tc⟩ := p
  obtain ⟨nk, nn, nd, ni, no, nr⟩ := hn
  simp only at hk nn nd ni no
  subst hk
  simp [wbF] at hwb
  try unfold maxV at hwb
  have HPF : Hid (putF ⟨1, n, d, rs, id, of, fi, da, ci, tk⟩ = [1]) := show _ = _ by simp [putF]
  clear hvs nk nr hm
  have B0 : Hid (∀ o1, Below w.heap.size w (w.alloc o1)) := fun _ => (Below.refl _ _).alloc (Nat.le_refl _) _
  clear hf
  go_enter Try.func13, Try.ntmps13
  go_wp2_with ((with_reducible refine wpList_load_rw rfl 26 (.tmp 1) rfl w.heap.size ?hx 26 vs ?hB _ Try.underlying26 rfl HSZ.out ?_); (case hx => with_unfolding_all rfl); (case hB => exact heap_allocs w [_] 0 _ rfl))
  (with_reducible refine (HMAY.out _ ?hb).mono ?_)
  case hb => exact B0.out _
  rintro e1 w1 ⟨rfl, b1⟩
  have R1 : Hid (Rw w1 w.heap.size 26 vs) := (show Rw _ _ _ vs from heap_allocs w [_] 0 _ rfl).below b1
  have B1 : Hid (Below w.heap.size w w1) := (B0.out _).trans (b1.mono (by simp))
  have LT : Hid (w.heap.size < w1.heap.size) := R1.out.lt
  clear b1
  obtain ⟨k0, k1, k2, k3, k4, k5, k6, k7, k8, k9⟩ := fr_cells (HVS.out ▸ R1.out)
  simp only at k0 k1 k2 k3 k4 k5 k6 k7 k8 k9
  have R2 : Hid (Rw (w1.alloc (.cells #[.int .u8 1] 5)) w.heap.size 26 vs) := R1.out.alloc _
  have B2 : Hid (Below w.heap.size w (w1.alloc (.cells #[.int .u8 1] 5))) := B1.out.alloc B1.out.size _
  have S2 : Hid (w1.heap.size ≤ (w1.alloc (.cells #[.int .u8 1] 5)).heap.size) := show _ ≤ _ by simp
  have Z2 : Hid (Blk (w1.alloc (.cells #[.int .u8 1] 5)) w1.heap.size 5 [1]) := heap_alloc_new w1 _
  have O2 : Hid (Own (w1.alloc (.cells #[.int .u8 1] 5)) w1.heap.size (.slice (some ⟨w1.heap.size, 0, none⟩) 1 1) 1 [1]) := Z2.out.own rfl (Nat.le_refl _) (by simp [maxLen])
  have kk0 : (w1.alloc (.cells #[.int .u8 1] 5)).cell? ⟨w.heap.size, 0, none⟩ = some (.int .i64 1) := (fr_cells (HVS.out ▸ R2.out)).1
  go_wp2_with fail
  go_ret
  refine ⟨_, 1, 1, rfl, ?_, B2.out⟩
  rw [HPF.out]
  exact O2.out.base (Nat.le_of_lt LT.out)
set_option maxHeartbeats 4000000 in
set_option maxRecDepth 4000 in
theorem rfput_30 (f : Fr) (p : Fp) (B : Nat) (w : World) (hB : B ≤ w.heap.size) (hf : FrL w B f p) (hn : FrN f) (hm : MayF f) (hk : f.kind = 30) :
    Calls Try.prog 13 #[.agg (frV f p).toArray] w (MakesB w (putF f)) := by
  have hwb := ((may_iff f).1 hm).1
  have HP : Hid (∀ u : World, Below w.heap.size w u → FrL u B f p) := fun u hu => hf.below (hu.mono hB)
  have HSZ := Lib.hid (frV_size f p)
  have HMAY : Hid (∀ u : World, Below w.heap.size w u → Calls Try.prog 15 #[.agg (frV f p).toArray] u fun e w' => e = .returned (.bool true) ∧ Below u.heap.size u w') := fun u hu => rmay_any f p B u (Nat.le_trans hB hu.size) (HP.out u hu) hn true (by simp [hm])
  obtain ⟨vs, hvs⟩ : ∃ vs, frV f p = vs := ⟨_, rfl⟩
  have HVS := Lib.hid hvs
  rw [hvs] at HSZ HMAY ⊢
  obtain ⟨K, n, d, rs, id, of, fi, da, ci, tk⟩ := f
  obtain ⟨ra, rn, rc, dA, dn, dc, ca, cn, cc, ta, tn, tc⟩ := p
  obtain ⟨nk, nn, nd, ni, no, nr⟩ := hn
  simp only at hk nn nd ni no
  subst hk
  simp [wbF] at hwb
  try unfold maxV at hwb
  have HPF : Hid (putF ⟨30, n, d, rs, id, of, fi, da, ci, tk⟩ = [30]) := show _ = _ by simp [putF]
  clear hvs nk nr hm
  have B0 : Hid (∀ o1, Below w.heap.size w (w.alloc o1)) := fun _ => (Below.refl _ _).alloc (Nat.le_refl _) _
  clear hf
  go_enter Try.func13, Try.ntmps13
  go_wp2_with ((with_reducible refine wpList_load_rw rfl 26 (.tmp 1) rfl w.heap.size ?hx 26 vs ?hB _ Try.underlying26 rfl HSZ.out ?_); (case hx => with_unfolding_all rfl); (case hB => exact heap_allocs w [_] 0 _ rfl))
  (with_reducible refine (HMAY.out _ ?hb).mono ?_)
  case hb => exact B0.out _
  rintro e1 w1 ⟨rfl, b1⟩
  have R1 : Hid (Rw w1 w.heap.size 26 vs) := (show Rw _ _ _ vs from heap_allocs w [_] 0 _ rfl).below b1
  have B1 : Hid (Below w.heap.size w w1) := (B0.out _).trans (b1.mono (by simp))
  have LT : Hid (w.heap.size < w1.heap.size) := R1.out.lt
  clear b1
  obtain ⟨k0, k1, k2, k3, k4, k5, k6, k7, k8, k9⟩ := fr_cells (HVS.out ▸ R1.out)
  simp only at k0 k1 k2 k3 k4 k5 k6 k7 k8 k9
  have R2 : Hid (Rw (w1.alloc (.cells #[.int .u8 30] 5)) w.heap.size 26 vs) := R1.out.alloc _
  have B2 : Hid (Below w.heap.size w (w1.alloc (.cells #[.int .u8 30] 5))) := B1.out.alloc B1.out.size _
  have S2 : Hid (w1.heap.size ≤ (w1.alloc (.cells #[.int .u8 30] 5)).heap.size) := show _ ≤ _ by simp
  have Z2 : Hid (Blk (w1.alloc (.cells #[.int .u8 30] 5)) w1.heap.size 5 [30]) := heap_alloc_new w1 _
  have O2 : Hid (Own (w1.alloc (.cells #[.int .u8 30] 5)) w1.heap.size (.slice (some ⟨w1.heap.size, 0, none⟩) 1 1) 1 [30]) := Z2.out.own rfl (Nat.le_refl _) (by simp [maxLen])
  have kk0 : (w1.alloc (.cells #[.int .u8 30] 5)).cell? ⟨w.heap.size, 0, none⟩ = some (.int .i64 30) := (fr_cells (HVS.out ▸ R2.out)).1
  go_wp2_with fail
  go_ret
  refine ⟨_, 1, 1, rfl, ?_, B2.out⟩
  rw [HPF.out]
  exact O2.out.base (Nat.le_of_lt LT.out)
set_option maxHeartbeats 4000000 in
set_option maxRecDepth 4000 in
theorem rfput_16 (f : Fr) (p : Fp) (B : Nat) (w : World) (hB : B ≤ w.heap.size) (hf : FrL w B f p) (hn : FrN f) (hm : MayF f) (hk : f.kind = 16) :
    Calls Try.prog 13 #[.agg (frV f p).toArray] w (MakesB w (putF f)) := by
  have hwb := ((may_iff f).1 hm).1
  have HP : Hid (∀ u : World, Below w.heap.size w u → FrL u B f p) := fun u hu => hf.below (hu.mono hB)
  have HSZ := Lib.hid (frV_size f p)
  have HMAY : Hid (∀ u : World, Below w.heap.size w u → Calls Try.prog 15 #[.agg (frV f p).toArray] u fun e w' => e = .returned (.bool true) ∧ Below u.heap.size u w') := fun u hu => rmay_any f p B u (Nat.le_trans hB hu.size) (HP.out u hu) hn true (by simp [hm])
  obtain ⟨vs, hvs⟩ : ∃ vs, frV f p = vs := ⟨_, rfl⟩
  have HVS := Lib.hid hvs
  rw [hvs] at HSZ HMAY ⊢
  obtain ⟨K, n, d, rs, id, of, fi, da, ci, tk⟩ := f
  obtain ⟨ra, rn, rc, dA, dn, dc, ca, cn, cc, ta, tn, tc⟩ := p
  obtain ⟨nk, nn, nd, ni, no, nr⟩ := hn
  simp only at hk nn nd ni no
  subst hk
  simp [wbF] at hwb
  try unfold maxV at hwb
  have HPF : Hid (putF ⟨16, n, d, rs, id, of, fi, da, ci, tk⟩ = [16] ++ enc n) := show _ = _ by simp [putF]
  clear hvs nk nr hm
  have B0 : Hid (∀ o1, Below w.heap.size w (w.alloc o1)) := fun _ => (Below.refl _ _).alloc (Nat.le_refl _) _
  clear hf
  go_enter Try.func13, Try.ntmps13
  go_wp2_with ((with_reducible refine wpList_load_rw rfl 26 (.tmp 1) rfl w.heap.size ?hx 26 vs ?hB _ Try.underlying26 rfl HSZ.out ?_); (case hx => with_unfolding_all rfl); (case hB => exact heap_allocs w [_] 0 _ rfl))
  (with_reducible refine (HMAY.out _ ?hb).mono ?_)
  case hb => exact B0.out _
  rintro e1 w1 ⟨rfl, b1⟩
  have R1 : Hid (Rw w1 w.heap.size 26 vs) := (show Rw _ _ _ vs from heap_allocs w [_] 0 _ rfl).below b1
  have B1 : Hid (Below w.heap.size w w1) := (B0.out _).trans (b1.mono (by simp))
  have LT : Hid (w.heap.size < w1.heap.size) := R1.out.lt
  clear b1
  obtain ⟨k0, k1, k2, k3, k4, k5, k6, k7, k8, k9⟩ := fr_cells (HVS.out ▸ R1.out)
  simp only at k0 k1 k2 k3 k4 k5 k6 k7 k8 k9
  have R2 : Hid (Rw (w1.alloc (.cells #[.int .u8 16] 5)) w.heap.size 26 vs) := R1.out.alloc _
  have B2 : Hid (Below w.heap.size w (w1.alloc (.cells #[.int .u8 16] 5))) := B1.out.alloc B1.out.size _
  have S2 : Hid (w1.heap.size ≤ (w1.alloc (.cells #[.int .u8 16] 5)).heap.size) := show _ ≤ _ by simp
  have Z2 : Hid (Blk (w1.alloc (.cells #[.int .u8 16] 5)) w1.heap.size 5 [16]) := heap_alloc_new w1 _
  have O2 : Hid (Own (w1.alloc (.cells #[.int .u8 16] 5)) w1.heap.size (.slice (some ⟨w1.heap.size, 0, none⟩) 1 1) 1 [16]) := Z2.out.own rfl (Nat.le_refl _) (by simp [maxLen])
  have kk0 : (w1.alloc (.cells #[.int .u8 16] 5)).cell? ⟨w.heap.size, 0, none⟩ = some (.int .i64 16) := (fr_cells (HVS.out ▸ R2.out)).1
  go_upto_region 30 with fail
  clear kk0
  generalize w1.alloc (.cells #[.int .u8 16] 5) = w2 at R2 B2 S2 Z2 O2 ⊢
  obtain ⟨A2, hA2⟩ : ∃ A, A = some (⟨w1.heap.size, 0, none⟩ : Addr) := ⟨_, rfl⟩
  obtain ⟨n2, hn2⟩ : ∃ n : Nat, n = 1 := ⟨_, rfl⟩
  obtain ⟨d2, hd2⟩ : ∃ n : Nat, n = 1 := ⟨_, rfl⟩
  clear k0 k1 k2 k3 k4 k5 k6 k7 k8 k9
  obtain ⟨k0, k1, k2, k3, k4, k5, k6, k7, k8, k9⟩ := fr_cells (HVS.out ▸ R2.out)
  simp only at k0 k1 k2 k3 k4 k5 k6 k7 k8 k9
  go_wp2_with fail
  (with_reducible refine (rvput ([16]) (some ⟨w1.heap.size, 0, none⟩) 1 1 w2.heap.size n w2 O2.out.sl (Nat.le_refl _) (by omega) nn).mono ?_)
  rintro e3 w3 ⟨A3, n3, d3, rfl, o, b⟩
  have R3 := Lib.hid (R2.out.below b)
  have B3 := Lib.hid (B2.out.trans (b.mono B2.out.size))
  have S3 : Hid (w1.heap.size ≤ w3.heap.size) := Nat.le_trans S2.out b.size
  have hn3 : n3 ≤ n2 + 8 := by have h1 := o.len; have h2 := enc_le (n); have h3 := O2.out.len; rw [List.length_append] at h1; omega
  have O3 := Lib.hid (o.base S2.out)
  clear o b
  clear k0 k1 k2 k3 k4 k5 k6 k7 k8 k9
  obtain ⟨k0, k1, k2, k3, k4, k5, k6, k7, k8, k9⟩ := fr_cells (HVS.out ▸ R3.out)
  simp only at k0 k1 k2 k3 k4 k5 k6 k7 k8 k9
  go_wp2_with fail
  go_ret
  refine ⟨A3, n3, d3, rfl, ?_, B3.out⟩
  rw [HPF.out]
  exact O3.out.base (Nat.le_of_lt LT.out)
set_option maxHeartbeats 4000000 in
set_option maxRecDepth 4000 in
theorem rfput_25 (f : Fr) (p : Fp) (B : Nat) (w : World) (hB : B ≤ w.heap.size) (hf : FrL w B f p) (hn : FrN f) (hm : MayF f) (hk : f.kind = 25) :
    Calls Try.prog 13 #[.agg (frV f p).toArray] w (MakesB w (putF f)) := by
  have hwb := ((may_iff f).1 hm).1
  have HP : Hid (∀ u : World, Below w.heap.size w u → FrL u B f p) := fun u hu => hf.below (hu.mono hB)
  have HSZ := Lib.hid (frV_size f p)
  have HMAY : Hid (∀ u : World, Below w.heap.size w u → Calls Try.prog 15 #[.agg (frV f p).toArray] u fun e w' => e = .returned (.bool true) ∧ Below u.heap.size u w') := fun u hu => rmay_any f p B u (Nat.le_trans hB hu.size) (HP.out u hu) hn true (by simp [hm])
  obtain ⟨vs, hvs⟩ : ∃ vs, frV f p = vs := ⟨_, rfl⟩
  have HVS := Lib.hid hvs
  rw [hvs] at HSZ HMAY ⊢
  obtain ⟨K, n, d, rs, id, of, fi, da, ci, tk⟩ := f
  obtain ⟨ra, rn, rc, dA, dn, dc, ca, cn, cc, ta, tn, tc⟩ := p
  obtain ⟨nk, nn, nd, ni, no, nr⟩ := hn
  simp only at hk nn nd ni no
  subst hk
  simp [wbF] at hwb
  try unfold maxV at hwb
  have HPF : Hid (putF ⟨25, n, d, rs, id, of, fi, da, ci, tk⟩ = [25] ++ enc n) := show _ = _ by simp [putF]
  clear hvs nk nr hm
  have B0 : Hid (∀ o1, Below w.heap.size w (w.alloc o1)) := fun _ => (Below.refl _ _).alloc (Nat.le_refl _) _
  clear hf
  go_enter Try.func13, Try.ntmps13
  go_wp2_with ((with_reducible refine wpList_load_rw rfl 26 (.tmp 1) rfl w.heap.size ?hx 26 vs ?hB _ Try.underlying26 rfl HSZ.out ?_); (case hx => with_unfolding_all rfl); (case hB => exact heap_allocs w [_] 0 _ rfl))
  (with_reducible refine (HMAY.out _ ?hb).mono ?_)
  case hb => exact B0.out _
  rintro e1 w1 ⟨rfl, b1⟩
  have R1 : Hid (Rw w1 w.heap.size 26 vs) := (show Rw _ _ _ vs from heap_allocs w [_] 0 _ rfl).below b1
  have B1 : Hid (Below w.heap.size w w1) := (B0.out _).trans (b1.mono (by simp))
  have LT : Hid (w.heap.size < w1.heap.size) := R1.out.lt
  clear b1
  obtain ⟨k0, k1, k2, k3, k4, k5, k6, k7, k8, k9⟩ := fr_cells (HVS.out ▸ R1.out)
  simp only at k0 k1 k2 k3 k4 k5 k6 k7 k8 k9
  have R2 : Hid (Rw (w1.alloc (.cells #[.int .u8 25] 5)) w.heap.size 26 vs) := R1.out.alloc _
  have B2 : Hid (Below w.heap.size w (w1.alloc (.cells #[.int .u8 25] 5))) := B1.out.alloc B1.out.size _
  have S2 : Hid (w1.heap.size ≤ (w1.alloc (.cells #[.int .u8 25] 5)).heap.size) := show _ ≤ _ by simp
  have Z2 : Hid (Blk (w1.alloc (.cells #[.int .u8 25] 5)) w1.heap.size 5 [25]) := heap_alloc_new w1 _
  have O2 : Hid (Own (w1.alloc (.cells #[.int .u8 25] 5)) w1.heap.size (.slice (some ⟨w1.heap.size, 0, none⟩) 1 1) 1 [25]) := Z2.out.own rfl (Nat.le_refl _) (by simp [maxLen])
  have kk0 : (w1.alloc (.cells #[.int .u8 25] 5)).cell? ⟨w.heap.size, 0, none⟩ = some (.int .i64 25) := (fr_cells (HVS.out ▸ R2.out)).1
  go_upto_region 30 with fail
  clear kk0
  generalize w1.alloc (.cells #[.int .u8 25] 5) = w2 at R2 B2 S2 Z2 O2 ⊢
  obtain ⟨A2, hA2⟩ : ∃ A, A = some (⟨w1.heap.size, 0, none⟩ : Addr) := ⟨_, rfl⟩
  obtain ⟨n2, hn2⟩ : ∃ n : Nat, n = 1 := ⟨_, rfl⟩
  obtain ⟨d2, hd2⟩ : ∃ n : Nat, n = 1 := ⟨_, rfl⟩
  clear k0 k1 k2 k3 k4 k5 k6 k7 k8 k9
  obtain ⟨k0, k1, k2, k3, k4, k5, k6, k7, k8, k9⟩ := fr_cells (HVS.out ▸ R2.out)
  simp only at k0 k1 k2 k3 k4 k5 k6 k7 k8 k9
  go_wp2_with fail
  (with_reducible refine (rvput ([25]) (some ⟨w1.heap.size, 0, none⟩) 1 1 w2.heap.size n w2 O2.out.sl (Nat.le_refl _) (by omega) nn).mono ?_)
  rintro e3 w3 ⟨A3, n3, d3, rfl, o, b⟩
  have R3 := Lib.hid (R2.out.below b)
  have B3 := Lib.hid (B2.out.trans (b.mono B2.out.size))
  have S3 : Hid (w1.heap.size ≤ w3.heap.size) := Nat.le_trans S2.out b.size
  have hn3 : n3 ≤ n2 + 8 := by have h1 := o.len; have h2 := enc_le (n); have h3 := O2.out.len; rw [List.length_append] at h1; omega
  have O3 := Lib.hid (o.base S2.out)
  clear o b
  clear k0 k1 k2 k3 k4 k5 k6 k7 k8 k9
  obtain ⟨k0, k1, k2, k3, k4, k5, k6, k7, k8, k9⟩ := fr_cells (HVS.out ▸ R3.out)
  simp only at k0 k1 k2 k3 k4 k5 k6 k7 k8 k9
  go_wp2_with fail
  go_ret
  refine ⟨A3, n3, d3, rfl, ?_, B3.out⟩
  rw [HPF.out]
  exact O3.out.base (Nat.le_of_lt LT.out)
set_option maxHeartbeats 4000000 in
set_option maxRecDepth 4000 in
theorem rfput_28 (f : Fr) (p : Fp) (B : Nat) (w : World) (hB : B ≤ w.heap.size) (hf : FrL w B f p) (hn : FrN f) (hm : MayF f) (hk : f.kind = 28) :
    Calls Try.prog 13 #[.agg (frV f p).toArray] w (MakesB w (putF f)) := by
  have hwb := ((may_iff f).1 hm).1
  have HP : Hid (∀ u : World, Below w.heap.size w u → FrL u B f p) := fun u hu => hf.below (hu.mono hB)
  have HSZ := Lib.hid (frV_size f p)
  have HMAY : Hid (∀ u : World, Below w.heap.size w u → Calls Try.prog 15 #[.agg (frV f p).toArray] u fun e w' => e = .returned (.bool true) ∧ Below u.heap.size u w') := fun u hu => rmay_any f p B u (Nat.le_trans hB hu.size) (HP.out u hu) hn true (by simp [hm])
  obtain ⟨vs, hvs⟩ : ∃ vs, frV f p = vs := ⟨_, rfl⟩
  have HVS := Lib.hid hvs
  rw [hvs] at HSZ HMAY ⊢
  obtain ⟨K, n, d, rs, id, of, fi, da, ci, tk⟩ := f
  obtain ⟨ra, rn, rc, dA, dn, dc, ca, cn, cc, ta, tn, tc⟩ := p
  obtain ⟨nk, nn, nd, ni, no, nr⟩ := hn
  simp only at hk nn nd ni no
  subst hk
  simp [wbF] at hwb
  try unfold maxV at hwb
  have HPF : Hid (putF ⟨28, n, d, rs, id, of, fi, da, ci, tk⟩ = [28] ++ enc n ++ [0, 0]) := show _ = _ by simp [putF]
  clear hvs nk nr hm
  have B0 : Hid (∀ o1, Below w.heap.size w (w.alloc o1)) := fun _ => (Below.refl _ _).alloc (Nat.le_refl _) _
  clear hf
  go_enter Try.func13, Try.ntmps13
  go_wp2_with ((with_reducible refine wpList_load_rw rfl 26 (.tmp 1) rfl w.heap.size ?hx 26 vs ?hB _ Try.underlying26 rfl HSZ.out ?_); (case hx => with_unfolding_all rfl); (case hB => exact heap_allocs w [_] 0 _ rfl))
  (with_reducible refine (HMAY.out _ ?hb).mono ?_)
  case hb => exact B0.out _
  rintro e1 w1 ⟨rfl, b1⟩
  have R1 : Hid (Rw w1 w.heap.size 26 vs) := (show Rw _ _ _ vs from heap_allocs w [_] 0 _ rfl).below b1
  have B1 : Hid (Below w.heap.size w w1) := (B0.out _).trans (b1.mono (by simp))
  have LT : Hid (w.heap.size < w1.heap.size) := R1.out.lt
  clear b1
  obtain ⟨k0, k1, k2, k3, k4, k5, k6, k7, k8, k9⟩ := fr_cells (HVS.out ▸ R1.out)
  simp only at k0 k1 k2 k3 k4 k5 k6 k7 k8 k9
  have R2 : Hid (Rw (w1.alloc (.cells #[.int .u8 28] 5)) w.heap.size 26 vs) := R1.out.alloc _
  have B2 : Hid (Below w.heap.size w (w1.alloc (.cells #[.int .u8 28] 5))) := B1.out.alloc B1.out.size _
  have S2 : Hid (w1.heap.size ≤ (w1.alloc (.cells #[.int .u8 28] 5)).heap.size) := show _ ≤ _ by simp
  have Z2 : Hid (Blk (w1.alloc (.cells #[.int .u8 28] 5)) w1.heap.size 5 [28]) := heap_alloc_new w1 _
  have O2 : Hid (Own (w1.alloc (.cells #[.int .u8 28] 5)) w1.heap.size (.slice (some ⟨w1.heap.size, 0, none⟩) 1 1) 1 [28]) := Z2.out.own rfl (Nat.le_refl _) (by simp [maxLen])
  have kk0 : (w1.alloc (.cells #[.int .u8 28] 5)).cell? ⟨w.heap.size, 0, none⟩ = some (.int .i64 28) := (fr_cells (HVS.out ▸ R2.out)).1
  go_upto_region 32 with fail
  clear kk0
  generalize w1.alloc (.cells #[.int .u8 28] 5) = w2 at R2 B2 S2 Z2 O2 ⊢
  obtain ⟨A2, hA2⟩ : ∃ A, A = some (⟨w1.heap.size, 0, none⟩ : Addr) := ⟨_, rfl⟩
  obtain ⟨n2, hn2⟩ : ∃ n : Nat, n = 1 := ⟨_, rfl⟩
  obtain ⟨d2, hd2⟩ : ∃ n : Nat, n = 1 := ⟨_, rfl⟩
  clear k0 k1 k2 k3 k4 k5 k6 k7 k8 k9
  obtain ⟨k0, k1, k2, k3, k4, k5, k6, k7, k8, k9⟩ := fr_cells (HVS.out ▸ R2.out)
  simp only at k0 k1 k2 k3 k4 k5 k6 k7 k8 k9
  go_wp2_with fail
  (with_reducible refine (rvput ([28]) (some ⟨w1.heap.size, 0, none⟩) 1 1 w2.heap.size n w2 O2.out.sl (Nat.le_refl _) (by omega) nn).mono ?_)
  rintro e3 w3 ⟨A3, n3, d3, rfl, o, b⟩
  have R3 := Lib.hid (R2.out.below b)
  have B3 := Lib.hid (B2.out.trans (b.mono B2.out.size))
  have S3 : Hid (w1.heap.size ≤ w3.heap.size) := Nat.le_trans S2.out b.size
  have hn3 : n3 ≤ n2 + 8 := by have h1 := o.len; have h2 := enc_le (n); have h3 := O2.out.len; rw [List.length_append] at h1; omega
  have O3 := Lib.hid (o.base S2.out)
  clear o b
  clear k0 k1 k2 k3 k4 k5 k6 k7 k8 k9
  obtain ⟨k0, k1, k2, k3, k4, k5, k6, k7, k8, k9⟩ := fr_cells (HVS.out ▸ R3.out)
  simp only at k0 k1 k2 k3 k4 k5 k6 k7 k8 k9
  go_wp2_with (at_builtin; refine wpList_append_bytes rfl _ _ rfl w1.heap.size (.slice A3 (n3) d3) (n3) ([28] ++ enc n) rfl (O3.out.alloc _) (w3.heap.size + 1) (some ⟨w3.heap.size, 0, none⟩) 2 2 [0, 0] rfl (sl_lit2 w3 0 0) (by omega) (Nat.le_trans S3.out (by simp)) _ (Below.refl _ _) ?_; intro A4 d4 w4 o hle hc hg b; have R4 := Lib.hid (Rw.belowB (R3.out.alloc _) b LT.out); have B4 := Lib.hid (Below.trans (B3.out.alloc B3.out.size _) (b.mono (Nat.le_of_lt LT.out))); have S4 : Hid (w1.heap.size ≤ w4.heap.size) := Nat.le_trans (Nat.le_trans S3.out (by simp)) b.size; have O4 := Lib.hid o; clear o hle hc hg b)
  obtain ⟨n4, hn4⟩ : ∃ n, n3 + 2 = n := ⟨_, rfl⟩
  simp only [hn4] at O4 ⊢
  go_wp2_with fail
  go_ret
  refine ⟨A4, n4, d4, rfl, ?_, B4.out⟩
  rw [HPF.out]
  exact O4.out.base (Nat.le_of_lt LT.out)
set_option maxHeartbeats 4000000 in
set_option maxRecDepth 4000 in
theorem rfput_26 (f : Fr) (p : Fp) (B : Nat) (w : World) (hB : B ≤ w.heap.size) (hf : FrL w B f p) (hn : FrN f) (hm : MayF f) (hk : f.kind = 26) :
    Calls Try.prog 13 #[.agg (frV f p).toArray] w (MakesB w (putF f)) := by
  have hwb := ((may_iff f).1 hm).1
  have HP : Hid (∀ u : World, Below w.heap.size w u → FrL u B f p) := fun u hu => hf.below (hu.mono hB)
  have HSZ := Lib.hid (frV_size f p)
  have HMAY : Hid (∀ u : World, Below w.heap.size w u → Calls Try.prog 15 #[.agg (frV f p).toArray] u fun e w' => e = .returned (.bool true) ∧ Below u.heap.size u w') := fun u hu => rmay_any f p B u (Nat.le_trans hB hu.size) (HP.out u hu) hn true (by simp [hm])
  obtain ⟨vs, hvs⟩ : ∃ vs, frV f p = vs := ⟨_, rfl⟩
  have HVS := Lib.hid hvs
  rw [hvs] at HSZ HMAY ⊢
  obtain ⟨K, n, d, rs, id, of, fi, da, ci, tk⟩ := f
  obtain ⟨ra, rn, rc, dA, dn, dc, ca, cn, cc, ta, tn, tc⟩ := p
  obtain ⟨nk, nn, nd, ni, no, nr⟩ := hn
  simp only at hk nn nd ni no
  subst hk
  simp [wbF] at hwb
  try unfold maxV at hwb
  have HPF : Hid (putF ⟨26, n, d, rs, id, of, fi, da, ci, tk⟩ = [26] ++ da) := show _ = _ by simp [putF]
  clear hvs nk nr hm
  have ldn : da.length = dn := hf.d.1
  have B0 : Hid (∀ o1, Below w.heap.size w (w.alloc o1)) := fun _ => (Below.refl _ _).alloc (Nat.le_refl _) _
  clear hf
  go_enter Try.func13, Try.ntmps13
  go_wp2_with ((with_reducible refine wpList_load_rw rfl 26 (.tmp 1) rfl w.heap.size ?hx 26 vs ?hB _ Try.underlying26 rfl HSZ.out ?_); (case hx => with_unfolding_all rfl); (case hB => exact heap_allocs w [_] 0 _ rfl))
  (with_reducible refine (HMAY.out _ ?hb).mono ?_)
  case hb => exact B0.out _
  rintro e1 w1 ⟨rfl, b1⟩
  have R1 : Hid (Rw w1 w.heap.size 26 vs) := (show Rw _ _ _ vs from heap_allocs w [_] 0 _ rfl).below b1
  have B1 : Hid (Below w.heap.size w w1) := (B0.out _).trans (b1.mono (by simp))
  have LT : Hid (w.heap.size < w1.heap.size) := R1.out.lt
  clear b1
  obtain ⟨k0, k1, k2, k3, k4, k5, k6, k7, k8, k9⟩ := fr_cells (HVS.out ▸ R1.out)
  simp only at k0 k1 k2 k3 k4 k5 k6 k7 k8 k9
  have R2 : Hid (Rw (w1.alloc (.cells #[.int .u8 26] 5)) w.heap.size 26 vs) := R1.out.alloc _
  have B2 : Hid (Below w.heap.size w (w1.alloc (.cells #[.int .u8 26] 5))) := B1.out.alloc B1.out.size _
  have S2 : Hid (w1.heap.size ≤ (w1.alloc (.cells #[.int .u8 26] 5)).heap.size) := show _ ≤ _ by simp
  have Z2 : Hid (Blk (w1.alloc (.cells #[.int .u8 26] 5)) w1.heap.size 5 [26]) := heap_alloc_new w1 _
  have O2 : Hid (Own (w1.alloc (.cells #[.int .u8 26] 5)) w1.heap.size (.slice (some ⟨w1.heap.size, 0, none⟩) 1 1) 1 [26]) := Z2.out.own rfl (Nat.le_refl _) (by simp [maxLen])
  have kk0 : (w1.alloc (.cells #[.int .u8 26] 5)).cell? ⟨w.heap.size, 0, none⟩ = some (.int .i64 26) := (fr_cells (HVS.out ▸ R2.out)).1
  go_upto_region 38 with fail
  clear kk0
  generalize w1.alloc (.cells #[.int .u8 26] 5) = w2 at R2 B2 S2 Z2 O2 ⊢
  obtain ⟨A2, hA2⟩ : ∃ A, A = some (⟨w1.heap.size, 0, none⟩ : Addr) := ⟨_, rfl⟩
  obtain ⟨n2, hn2⟩ : ∃ n : Nat, n = 1 := ⟨_, rfl⟩
  obtain ⟨d2, hd2⟩ : ∃ n : Nat, n = 1 := ⟨_, rfl⟩
  clear k0 k1 k2 k3 k4 k5 k6 k7 k8 k9
  obtain ⟨k0, k1, k2, k3, k4, k5, k6, k7, k8, k9⟩ := fr_cells (HVS.out ▸ R2.out)
  simp only at k0 k1 k2 k3 k4 k5 k6 k7 k8 k9
  go_wp2_with (at_builtin; refine wpList_append_bytes rfl _ _ rfl w1.heap.size (.slice (some ⟨w1.heap.size, 0, none⟩) 1 1) 1 ([26]) rfl O2.out B dA dn dc da rfl (HP.out _ B2.out).d (by omega) S2.out _ (Below.refl _ _) ?_; intro A3 d3 w3 o hle hc hg b; have R3 := Lib.hid (Rw.belowB R2.out b LT.out); have B3 := Lib.hid (Below.trans B2.out (b.mono (Nat.le_of_lt LT.out))); have S3 : Hid (w1.heap.size ≤ w3.heap.size) := Nat.le_trans S2.out b.size; have O3 := Lib.hid o; clear o hle hc hg b)
  obtain ⟨n3, hn3⟩ : ∃ n, 1 + dn = n := ⟨_, rfl⟩
  simp only [hn3] at O3 ⊢
  go_wp2_with fail
  go_ret
  refine ⟨A3, n3, d3, rfl, ?_, B3.out⟩
  rw [HPF.out]
  exact O3.out.base (Nat.le_of_lt LT.out)
set_option maxHeartbeats 4000000 in
set_option maxRecDepth 4000 in
theorem rfput_27 (f : Fr) (p : Fp) (B : Nat) (w : World) (hB : B ≤ w.heap.size) (hf : FrL w B f p) (hn : FrN f) (hm : MayF f) (hk : f.kind = 27) :
    Calls Try.prog 13 #[.agg (frV f p).toArray] w (MakesB w (putF f)) := by
  have hwb := ((may_iff f).1 hm).1
  have HP : Hid (∀ u : World, Below w.heap.size w u → FrL u B f p) := fun u hu => hf.below (hu.mono hB)
  have HSZ := Lib.hid (frV_size f p)
  have HMAY : Hid (∀ u : World, Below w.heap.size w u → Calls Try.prog 15 #[.agg (frV f p).toArray] u fun e w' => e = .returned (.bool true) ∧ Below u.heap.size u w') := fun u hu => rmay_any f p B u (Nat.le_trans hB hu.size) (HP.out u hu) hn true (by simp [hm])
  obtain ⟨vs, hvs⟩ : ∃ vs, frV f p = vs := ⟨_, rfl⟩
  have HVS := Lib.hid hvs
  rw [hvs] at HSZ HMAY ⊢
  obtain ⟨K, n, d, rs, id, of, fi, da, ci, tk⟩ := f
  obtain ⟨ra, rn, rc, dA, dn, dc, ca, cn, cc, ta, tn, tc⟩ := p
  obtain ⟨nk, nn, nd, ni, no, nr⟩ := hn
  simp only at hk nn nd ni no
  subst hk
  simp [wbF] at hwb
  try unfold maxV at hwb
  have HPF : Hid (putF ⟨27, n, d, rs, id, of, fi, da, ci, tk⟩ = [27] ++ da) := show _ = _ by simp [putF]
  clear hvs nk nr hm
  have ldn : da.length = dn := hf.d.1
  have B0 : Hid (∀ o1, Below w.heap.size w (w.alloc o1)) := fun _ => (Below.refl _ _).alloc (Nat.le_refl _) _
  clear hf
  go_enter Try.func13, Try.ntmps13
  go_wp2_with ((with_reducible refine wpList_load_rw rfl 26 (.tmp 1) rfl w.heap.size ?hx 26 vs ?hB _ Try.underlying26 rfl HSZ.out ?_); (case hx => with_unfolding_all rfl); (case hB => exact heap_allocs w [_] 0 _ rfl))
  (with_reducible refine (HMAY.out _ ?hb).mono ?_)
  case hb => exact B0.out _
  rintro e1 w1 ⟨rfl, b1⟩
  have R1 : Hid (Rw w1 w.heap.size 26 vs) := (show Rw _ _ _ vs from heap_allocs w [_] 0 _ rfl).below b1
  have B1 : Hid (Below w.heap.size w w1) := (B0.out _).trans (b1.mono (by simp))
  have LT : Hid (w.heap.size < w1.heap.size) := R1.out.lt
  clear b1
  obtain ⟨k0, k1, k2, k3, k4, k5, k6, k7, k8, k9⟩ := fr_cells (HVS.out ▸ R1.out)
  simp only at k0 k1 k2 k3 k4 k5 k6 k7 k8 k9
  have R2 : Hid (Rw (w1.alloc (.cells #[.int .u8 27] 5)) w.heap.size 26 vs) := R1.out.alloc _
  have B2 : Hid (Below w.heap.size w (w1.alloc (.cells #[.int .u8 27] 5))) := B1.out.alloc B1.out.size _
  have S2 : Hid (w1.heap.size ≤ (w1.alloc (.cells #[.int .u8 27] 5)).heap.size) := show _ ≤ _ by simp
  have Z2 : Hid (Blk (w1.alloc (.cells #[.int .u8 27] 5)) w1.heap.size 5 [27]) := heap_alloc_new w1 _
  have O2 : Hid (Own (w1.alloc (.cells #[.int .u8 27] 5)) w1.heap.size (.slice (some ⟨w1.heap.size, 0, none⟩) 1 1) 1 [27]) := Z2.out.own rfl (Nat.le_refl _) (by simp [maxLen])
  have kk0 : (w1.alloc (.cells #[.int .u8 27] 5)).cell? ⟨w.heap.size, 0, none⟩ = some (.int .i64 27) := (fr_cells (HVS.out ▸ R2.out)).1
  go_upto_region 38 with fail
  clear kk0
  generalize w1.alloc (.cells #[.int .u8 27] 5) = w2 at R2 B2 S2 Z2 O2 ⊢
  obtain ⟨A2, hA2⟩ : ∃ A, A = some (⟨w1.heap.size, 0, none⟩ : Addr) := ⟨_, rfl⟩
  obtain ⟨n2, hn2⟩ : ∃ n : Nat, n = 1 := ⟨_, rfl⟩
  obtain ⟨d2, hd2⟩ : ∃ n : Nat, n = 1 := ⟨_, rfl⟩
  clear k0 k1 k2 k3 k4 k5 k6 k7 k8 k9
  obtain ⟨k0, k1, k2, k3, k4, k5, k6, k7, k8, k9⟩ := fr_cells (HVS.out ▸ R2.out)
  simp only at k0 k1 k2 k3 k4 k5 k6 k7 k8 k9
  go_wp2_with (at_builtin; refine wpList_append_bytes rfl _ _ rfl w1.heap.size (.slice (some ⟨w1.heap.size, 0, none⟩) 1 1) 1 ([27]) rfl O2.out B dA dn dc da rfl (HP.out _ B2.out).d (by omega) S2.out _ (Below.refl _ _) ?_; intro A3 d3 w3 o hle hc hg b; have R3 := Lib.hid (Rw.belowB R2.out b LT.out); have B3 := Lib.hid (Below.trans B2.out (b.mono (Nat.le_of_lt LT.out))); have S3 : Hid (w1.heap.size ≤ w3.heap.size) := Nat.le_trans S2.out b.size; have O3 := Lib.hid o; clear o hle hc hg b)
  obtain ⟨n3, hn3⟩ : ∃ n, 1 + dn = n := ⟨_, rfl⟩
  simp only [hn3] at O3 ⊢
  go_wp2_with fail
  go_ret
  refine ⟨A3, n3, d3, rfl, ?_, B3.out⟩
  rw [HPF.out]
  exact O3.out.base (Nat.le_of_lt LT.out)
set_option maxHeartbeats 4000000 in
set_option maxRecDepth 4000 in
theorem rfput_6 (f : Fr) (p : Fp) (B : Nat) (w : World) (hB : B ≤ w.heap.size) (hf : FrL w B f p) (hn : FrN f) (hm : MayF f) (hk : f.kind = 6) :
    Calls Try.prog 13 #[.agg (frV f p).toArray] w (MakesB w (putF f)) := by
  have hwb := ((may_iff f).1 hm).1
  have HP : Hid (∀ u : World, Below w.heap.size w u → FrL u B f p) := fun u hu => hf.below (hu.mono hB)
  have HSZ := Lib.hid (frV_size f p)
  have HMAY : Hid (∀ u : World, Below w.heap.size w u → Calls Try.prog 15 #[.agg (frV f p).toArray] u fun e w' => e = .returned (.bool true) ∧ Below u.heap.size u w') := fun u hu => rmay_any f p B u (Nat.le_trans hB hu.size) (HP.out u hu) hn true (by simp [hm])
  obtain ⟨vs, hvs⟩ : ∃ vs, frV f p = vs := ⟨_, rfl⟩
  have HVS := Lib.hid hvs
  rw [hvs] at HSZ HMAY ⊢
  obtain ⟨K, n, d, rs, id, of, fi, da, ci, tk⟩ := f
  obtain ⟨ra, rn, rc, dA, dn, dc, ca, cn, cc, ta, tn, tc⟩ := p
  obtain ⟨nk, nn, nd, ni, no, nr⟩ := hn
  simp only at hk nn nd ni no
  subst hk
  simp [wbF] at hwb
  try unfold maxV at hwb
  have HPF : Hid (putF ⟨6, n, d, rs, id, of, fi, da, ci, tk⟩ = [6] ++ enc of ++ enc da.length ++ da) := show _ = _ by simp [putF]
  clear hvs nk nr hm
  have ldn : da.length = dn := hf.d.1
  have wdn : IntKind.u64.wrap (dn : Int) = (dn : Int) := by rw [wrap_u64N]; omega
  rw [ldn] at HPF
  have B0 : Hid (∀ o1, Below w.heap.size w (w.alloc o1)) := fun _ => (Below.refl _ _).alloc (Nat.le_refl _) _
  clear hf
  go_enter Try.func13, Try.ntmps13
  go_wp2_with ((with_reducible refine wpList_load_rw rfl 26 (.tmp 1) rfl w.heap.size ?hx 26 vs ?hB _ Try.underlying26 rfl HSZ.out ?_); (case hx => with_unfolding_all rfl); (case hB => exact heap_allocs w [_] 0 _ rfl))
  (with_reducible refine (HMAY.out _ ?hb).mono ?_)
  case hb => exact B0.out _
  rintro e1 w1 ⟨rfl, b1⟩
  have R1 : Hid (Rw w1 w.heap.size 26 vs) := (show Rw _ _ _ vs from heap_allocs w [_] 0 _ rfl).below b1
  have B1 : Hid (Below w.heap.size w w1) := (B0.out _).trans (b1.mono (by simp))
  have LT : Hid (w.heap.size < w1.heap.size) := R1.out.lt
  clear b1
  obtain ⟨k0, k1, k2, k3, k4, k5, k6, k7, k8, k9⟩ := fr_cells (HVS.out ▸ R1.out)
  simp only at k0 k1 k2 k3 k4 k5 k6 k7 k8 k9
  have R2 : Hid (Rw (w1.alloc (.cells #[.int .u8 6] 5)) w.heap.size 26 vs) := R1.out.alloc _
  have B2 : Hid (Below w.heap.size w (w1.alloc (.cells #[.int .u8 6] 5))) := B1.out.alloc B1.out.size _
  have S2 : Hid (w1.heap.size ≤ (w1.alloc (.cells #[.int .u8 6] 5)).heap.size) := show _ ≤ _ by simp
  have Z2 : Hid (Blk (w1.alloc (.cells #[.int .u8 6] 5)) w1.heap.size 5 [6]) := heap_alloc_new w1 _
  have O2 : Hid (Own (w1.alloc (.cells #[.int .u8 6] 5)) w1.heap.size (.slice (some ⟨w1.heap.size, 0, none⟩) 1 1) 1 [6]) := Z2.out.own rfl (Nat.le_refl _) (by simp [maxLen])
  have kk0 : (w1.alloc (.cells #[.int .u8 6] 5)).cell? ⟨w.heap.size, 0, none⟩ = some (.int .i64 6) := (fr_cells (HVS.out ▸ R2.out)).1
  go_upto_region 20 with fail
  clear kk0
  generalize w1.alloc (.cells #[.int .u8 6] 5) = w2 at R2 B2 S2 Z2 O2 ⊢
  obtain ⟨A2, hA2⟩ : ∃ A, A = some (⟨w1.heap.size, 0, none⟩ : Addr) := ⟨_, rfl⟩
  obtain ⟨n2, hn2⟩ : ∃ n : Nat, n = 1 := ⟨_, rfl⟩
  obtain ⟨d2, hd2⟩ : ∃ n : Nat, n = 1 := ⟨_, rfl⟩
  clear k0 k1 k2 k3 k4 k5 k6 k7 k8 k9
  obtain ⟨k0, k1, k2, k3, k4, k5, k6, k7, k8, k9⟩ := fr_cells (HVS.out ▸ R2.out)
  simp only at k0 k1 k2 k3 k4 k5 k6 k7 k8 k9
  go_wp2_with fail
  (with_reducible refine (rvput ([6]) (some ⟨w1.heap.size, 0, none⟩) 1 1 w2.heap.size of w2 O2.out.sl (Nat.le_refl _) (by omega) no).mono ?_)
  rintro e3 w3 ⟨A3, n3, d3, rfl, o, b⟩
  have R3 := Lib.hid (R2.out.below b)
  have B3 := Lib.hid (B2.out.trans (b.mono B2.out.size))
  have S3 : Hid (w1.heap.size ≤ w3.heap.size) := Nat.le_trans S2.out b.size
  have hn3 : n3 ≤ n2 + 8 := by have h1 := o.len; have h2 := enc_le (of); have h3 := O2.out.len; rw [List.length_append] at h1; omega
  have O3 := Lib.hid (o.base S2.out)
  clear o b
  clear k0 k1 k2 k3 k4 k5 k6 k7 k8 k9
  obtain ⟨k0, k1, k2, k3, k4, k5, k6, k7, k8, k9⟩ := fr_cells (HVS.out ▸ R3.out)
  simp only at k0 k1 k2 k3 k4 k5 k6 k7 k8 k9
  go_wp2_with fail
  (with_reducible refine (rvput ([6] ++ enc of) A3 n3 d3 w3.heap.size dn w3 O3.out.sl (Nat.le_refl _) (by omega) (by omega)).mono ?_)
  rintro e4 w4 ⟨A4, n4, d4, rfl, o, b⟩
  have R4 := Lib.hid (R3.out.below b)
  have B4 := Lib.hid (B3.out.trans (b.mono B3.out.size))
  have S4 : Hid (w1.heap.size ≤ w4.heap.size) := Nat.le_trans S3.out b.size
  have hn4 : n4 ≤ n3 + 8 := by have h1 := o.len; have h2 := enc_le (dn); have h3 := O3.out.len; rw [List.length_append] at h1; omega
  have O4 := Lib.hid (o.base S3.out)
  clear o b
  clear k0 k1 k2 k3 k4 k5 k6 k7 k8 k9
  obtain ⟨k0, k1, k2, k3, k4, k5, k6, k7, k8, k9⟩ := fr_cells (HVS.out ▸ R4.out)
  simp only at k0 k1 k2 k3 k4 k5 k6 k7 k8 k9
  go_wp2_with (at_builtin; refine wpList_append_bytes rfl _ _ rfl w1.heap.size (.slice A4 (n4) d4) (n4) ([6] ++ enc of ++ enc dn) rfl O4.out B dA dn dc da rfl (HP.out _ B4.out).d (by omega) S4.out _ (Below.refl _ _) ?_; intro A5 d5 w5 o hle hc hg b; have R5 := Lib.hid (Rw.belowB R4.out b LT.out); have B5 := Lib.hid (Below.trans B4.out (b.mono (Nat.le_of_lt LT.out))); have S5 : Hid (w1.heap.size ≤ w5.heap.size) := Nat.le_trans S4.out b.size; have O5 := Lib.hid o; clear o hle hc hg b)
  obtain ⟨n5, hn5⟩ : ∃ n, n4 + dn = n := ⟨_, rfl⟩
  simp only [hn5] at O5 ⊢
  go_wp2_with fail
  go_ret
  refine ⟨A5, n5, d5, rfl, ?_, B5.out⟩
  rw [HPF.out]
  exact O5.out.base (Nat.le_of_lt LT.out)
set_option maxHeartbeats 4000000 in
set_option maxRecDepth 4000 in
theorem rfput_8t (f : Fr) (p : Fp) (B : Nat) (w : World) (hB : B ≤ w.heap.size) (hf : FrL w B f p) (hn : FrN f) (hm : MayF f) (hk : f.kind = 8) (hfi : f.fin = true) :
    Calls Try.prog 13 #[.agg (frV f p).toArray] w (MakesB w (putF f)) := by
  have hwb := ((may_iff f).1 hm).1
  have HP : Hid (∀ u : World, Below w.heap.size w u → FrL u B f p) := fun u hu => hf.below (hu.mono hB)
  have HSZ := Lib.hid (frV_size f p)
  have HMAY : Hid (∀ u : World, Below w.heap.size w u → Calls Try.prog 15 #[.agg (frV f p).toArray] u fun e w' => e = .returned (.bool true) ∧ Below u.heap.size u w') := fun u hu => rmay_any f p B u (Nat.le_trans hB hu.size) (HP.out u hu) hn true (by simp [hm])
  obtain ⟨vs, hvs⟩ : ∃ vs, frV f p = vs := ⟨_, rfl⟩
  have HVS := Lib.hid hvs
  rw [hvs] at HSZ HMAY ⊢
  obtain ⟨K, n, d, rs, id, of, fi, da, ci, tk⟩ := f
  obtain ⟨ra, rn, rc, dA, dn, dc, ca, cn, cc, ta, tn, tc⟩ := p
  obtain ⟨nk, nn, nd, ni, no, nr⟩ := hn
  simp only at hk nn nd ni no
  subst hk
  simp only at hfi
  subst hfi
  simp [wbF] at hwb
  try unfold maxV at hwb
  have HPF : Hid (putF ⟨8, n, d, rs, id, of, true, da, ci, tk⟩ = [15] ++ enc id ++ enc of ++ enc da.length ++ da) := show _ = _ by simp [putF]
  clear hvs nk nr hm
  have ldn : da.length = dn := hf.d.1
  have wdn : IntKind.u64.wrap (dn : Int) = (dn : Int) := by rw [wrap_u64N]; omega
  rw [ldn] at HPF
  have B0 : Hid (∀ o1, Below w.heap.size w (w.alloc o1)) := fun _ => (Below.refl _ _).alloc (Nat.le_refl _) _
  clear hf
  go_enter Try.func13, Try.ntmps13
  go_wp2_with ((with_reducible refine wpList_load_rw rfl 26 (.tmp 1) rfl w.heap.size ?hx 26 vs ?hB _ Try.underlying26 rfl HSZ.out ?_); (case hx => with_unfolding_all rfl); (case hB => exact heap_allocs w [_] 0 _ rfl))
  (with_reducible refine (HMAY.out _ ?hb).mono ?_)
  case hb => exact B0.out _
  rintro e1 w1 ⟨rfl, b1⟩
  have R1 : Hid (Rw w1 w.heap.size 26 vs) := (show Rw _ _ _ vs from heap_allocs w [_] 0 _ rfl).below b1
  have B1 : Hid (Below w.heap.size w w1) := (B0.out _).trans (b1.mono (by simp))
  have LT : Hid (w.heap.size < w1.heap.size) := R1.out.lt
  clear b1
  obtain ⟨k0, k1, k2, k3, k4, k5, k6, k7, k8, k9⟩ := fr_cells (HVS.out ▸ R1.out)
  simp only at k0 k1 k2 k3 k4 k5 k6 k7 k8 k9
  have R2 : Hid (Rw (w1.alloc (.cells #[.int .u8 8] 5)) w.heap.size 26 vs) := R1.out.alloc _
  have B2 : Hid (Below w.heap.size w (w1.alloc (.cells #[.int .u8 8] 5))) := B1.out.alloc B1.out.size _
  have S2 : Hid (w1.heap.size ≤ (w1.alloc (.cells #[.int .u8 8] 5)).heap.size) := show _ ≤ _ by simp
  have Z2 : Hid (Blk (w1.alloc (.cells #[.int .u8 8] 5)) w1.heap.size 5 [8]) := heap_alloc_new w1 _
  have O2 : Hid (Own (w1.alloc (.cells #[.int .u8 8] 5)) w1.heap.size (.slice (some ⟨w1.heap.size, 0, none⟩) 1 1) 1 [8]) := Z2.out.own rfl (Nat.le_refl _) (by simp [maxLen])
  have kk0 : (w1.alloc (.cells #[.int .u8 8] 5)).cell? ⟨w.heap.size, 0, none⟩ = some (.int .i64 8) := (fr_cells (HVS.out ▸ R2.out)).1
  go_upto_region 20 with fail
  clear kk0
  generalize w1.alloc (.cells #[.int .u8 8] 5) = w2 at R2 B2 S2 Z2 O2 ⊢
  obtain ⟨A2, hA2⟩ : ∃ A, A = some (⟨w1.heap.size, 0, none⟩ : Addr) := ⟨_, rfl⟩
  obtain ⟨n2, hn2⟩ : ∃ n : Nat, n = 1 := ⟨_, rfl⟩
  obtain ⟨d2, hd2⟩ : ∃ n : Nat, n = 1 := ⟨_, rfl⟩
  clear k0 k1 k2 k3 k4 k5 k6 k7 k8 k9
  obtain ⟨k0, k1, k2, k3, k4, k5, k6, k7, k8, k9⟩ := fr_cells (HVS.out ▸ R2.out)
  simp only at k0 k1 k2 k3 k4 k5 k6 k7 k8 k9
  go_wp2_with (first | ((with_reducible refine wpList_put_blk rfl 5 (.tmp 97) (.const (.int .u8 15)) rfl w1.heap.size 0 15 ?hx ?hy 5 [14] Y3.out size1 ?hl ?_); (case hx => with_unfolding_all rfl); (case hy => with_unfolding_all rfl); (case hl => simp); intro w4 Z4 N4; have R4 := Lib.hid (R3.out.only N4.out (by have := LT.out; omega)); have B4 := Lib.hid (B3.out.trans (N4.out.below B3.out.size (Nat.le_of_lt LT.out))); have S4 : Hid (w1.heap.size ≤ w4.heap.size) := Nat.le_trans S3.out N4.out.size; have O4 : Hid (Own w4 w1.heap.size (.slice (some ⟨w1.heap.size, 0, none⟩) 1 1) 1 [15]) := Z4.out.own rfl (Nat.le_refl _) (by simp [maxLen]); have r4 : w4.cell? ⟨w.heap.size, 4, none⟩ = some (.int .u64 (id : Int)) := (fr_cells (HVS.out ▸ R4.out)).2.2.2.2.1) | ((with_reducible refine wpList_put_blk rfl 5 (.tmp 93) (.const (.int .u8 14)) rfl w1.heap.size 0 14 ?hx ?hy 5 [8] Z2.out size1 ?hl ?_); (case hx => with_unfolding_all rfl); (case hy => with_unfolding_all rfl); (case hl => simp); intro w3 Z3 N3; have Y3 : Hid (Blk w3 w1.heap.size 5 [14]) := Z3.out; have R3 := Lib.hid (R2.out.only N3.out (by have := LT.out; omega)); have B3 := Lib.hid (B2.out.trans (N3.out.below B2.out.size (Nat.le_of_lt LT.out))); have S3 : Hid (w1.heap.size ≤ w3.heap.size) := Nat.le_trans S2.out N3.out.size; have O3 : Hid (Own w3 w1.heap.size (.slice (some ⟨w1.heap.size, 0, none⟩) 1 1) 1 [14]) := Z3.out.own rfl (Nat.le_refl _) (by simp [maxLen]); have q6 : w3.cell? ⟨w.heap.size, 6, none⟩ = some (.bool true) := (fr_cells (HVS.out ▸ R3.out)).2.2.2.2.2.2.1; have q4 : w3.cell? ⟨w.heap.size, 4, none⟩ = some (.int .u64 (id : Int)) := (fr_cells (HVS.out ▸ R3.out)).2.2.2.2.1))
  (with_reducible refine (rvput [15] (some ⟨w1.heap.size, 0, none⟩) 1 1 w4.heap.size id w4 O4.out.sl (Nat.le_refl _) (by omega) ni).mono ?_)
  have n4E : ∃ n : Nat, n = 1 := ⟨_, rfl⟩
  obtain ⟨n4, hn4⟩ := n4E
  rintro e5 w5 ⟨A5, n5, d5, rfl, o, b⟩
  have R5 := Lib.hid (R4.out.below b)
  have B5 := Lib.hid (B4.out.trans (b.mono B4.out.size))
  have S5 : Hid (w1.heap.size ≤ w5.heap.size) := Nat.le_trans S4.out b.size
  have hn5 : n5 ≤ 9 := by have h1 := o.len; have h2 := enc_le (id); have h3 := O4.out.len; rw [List.length_append] at h1; omega
  have O5 := Lib.hid (o.base S4.out)
  clear o b
  clear k0 k1 k2 k3 k4 k5 k6 k7 k8 k9
  obtain ⟨k0, k1, k2, k3, k4, k5, k6, k7, k8, k9⟩ := fr_cells (HVS.out ▸ R5.out)
  simp only at k0 k1 k2 k3 k4 k5 k6 k7 k8 k9
  go_wp2_with fail
  (with_reducible refine (rvput ([15] ++ enc id) A5 n5 d5 w5.heap.size of w5 O5.out.sl (Nat.le_refl _) (by omega) no).mono ?_)
  rintro e6 w6 ⟨A6, n6, d6, rfl, o, b⟩
  have R6 := Lib.hid (R5.out.below b)
  have B6 := Lib.hid (B5.out.trans (b.mono B5.out.size))
  have S6 : Hid (w1.heap.size ≤ w6.heap.size) := Nat.le_trans S5.out b.size
  have hn6 : n6 ≤ n5 + 8 := by have h1 := o.len; have h2 := enc_le (of); have h3 := O5.out.len; rw [List.length_append] at h1; omega
  have O6 := Lib.hid (o.base S5.out)
  clear o b
  clear k0 k1 k2 k3 k4 k5 k6 k7 k8 k9
  obtain ⟨k0, k1, k2, k3, k4, k5, k6, k7, k8, k9⟩ := fr_cells (HVS.out ▸ R6.out)
  simp only at k0 k1 k2 k3 k4 k5 k6 k7 k8 k9
  go_wp2_with fail
  (with_reducible refine (rvput ([15] ++ enc id ++ enc of) A6 n6 d6 w6.heap.size dn w6 O6.out.sl (Nat.le_refl _) (by omega) (by omega)).mono ?_)
  rintro e7 w7 ⟨A7, n7, d7, rfl, o, b⟩
  have R7 := Lib.hid (R6.out.below b)
  have B7 := Lib.hid (B6.out.trans (b.mono B6.out.size))
  have S7 : Hid (w1.heap.size ≤ w7.heap.size) := Nat.le_trans S6.out b.size
  have hn7 : n7 ≤ n6 + 8 := by have h1 := o.len; have h2 := enc_le (dn); have h3 := O6.out.len; rw [List.length_append] at h1; omega
  have O7 := Lib.hid (o.base S6.out)
  clear o b
  clear k0 k1 k2 k3 k4 k5 k6 k7 k8 k9
  obtain ⟨k0, k1, k2, k3, k4, k5, k6, k7, k8, k9⟩ := fr_cells (HVS.out ▸ R7.out)
  simp only at k0 k1 k2 k3 k4 k5 k6 k7 k8 k9
  go_wp2_with (at_builtin; refine wpList_append_bytes rfl _ _ rfl w1.heap.size (.slice A7 (n7) d7) (n7) ([15] ++ enc id ++ enc of ++ enc dn) rfl O7.out B dA dn dc da rfl (HP.out _ B7.out).d (by omega) S7.out _ (Below.refl _ _) ?_; intro A8 d8 w8 o hle hc hg b; have R8 := Lib.hid (Rw.belowB R7.out b LT.out); have B8 := Lib.hid (Below.trans B7.out (b.mono (Nat.le_of_lt LT.out))); have S8 : Hid (w1.heap.size ≤ w8.heap.size) := Nat.le_trans S7.out b.size; have O8 := Lib.hid o; clear o hle hc hg b)
  obtain ⟨n8, hn8⟩ : ∃ n, n7 + dn = n := ⟨_, rfl⟩
  simp only [hn8] at O8 ⊢
  go_wp2_with fail
  go_ret
  refine ⟨A8, n8, d8, rfl, ?_, B8.out⟩
  rw [HPF.out]
  exact O8.out.base (Nat.le_of_lt LT.out)
set_option maxHeartbeats 4000000 in
set_option maxRecDepth 4000 in
theorem rfput_8f (f : Fr) (p : Fp) (B : Nat) (w : World) (hB : B ≤ w.heap.size) (hf : FrL w B f p) (hn : FrN f) (hm : MayF f) (hk : f.kind = 8) (hfi : f.fin = false) :
    Calls Try.prog 13 #[.agg (frV f p).toArray] w (MakesB w (putF f)) := by
  have hwb := ((may_iff f).1 hm).1
  have HP : Hid (∀ u : World, Below w.heap.size w u → FrL u B f p) := fun u hu => hf.below (hu.mono hB)
  have HSZ := Lib.hid (frV_size f p)
  have HMAY : Hid (∀ u : World, Below w.heap.size w u → Calls Try.prog 15 #[.agg (frV f p).toArray] u fun e w' => e = .returned (.bool true) ∧ Below u.heap.size u w') := fun u hu => rmay_any f p B u (Nat.le_trans hB hu.size) (HP.out u hu) hn true (by simp [hm])
  obtain ⟨vs, hvs⟩ : ∃ vs, frV f p = vs := ⟨_, rfl⟩
  have HVS := Lib.hid hvs
  rw [hvs] at HSZ HMAY ⊢
  obtain ⟨K, n, d, rs, id, of, fi, da, ci, tk⟩ := f
  obtain ⟨ra, rn, rc, dA, dn, dc, ca, cn, cc, ta, tn, tc⟩ := p
  obtain ⟨nk, nn, nd, ni, no, nr⟩ := hn
  simp only at hk nn nd ni no
  subst hk
  simp only at hfi
  subst hfi
  simp [wbF] at hwb
  try unfold maxV at hwb
  have HPF : Hid (putF ⟨8, n, d, rs, id, of, false, da, ci, tk⟩ = [14] ++ enc id ++ enc of ++ enc da.length ++ da) := show _ = _ by simp [putF]
  clear hvs nk nr hm
  have ldn : da.length = dn := hf.d.1
  have wdn : IntKind.u64.wrap (dn : Int) = (dn : Int) := by rw [wrap_u64N]; omega
  rw [ldn] at HPF
  have B0 : Hid (∀ o1, Below w.heap.size w (w.alloc o1)) := fun _ => (Below.refl _ _).alloc (Nat.le_refl _) _
  clear hf
  go_enter Try.func13, Try.ntmps13
  go_wp2_with ((with_reducible refine wpList_load_rw rfl 26 (.tmp 1) rfl w.heap.size ?hx 26 vs ?hB _ Try.underlying26 rfl HSZ.out ?_); (case hx => with_unfolding_all rfl); (case hB => exact heap_allocs w [_] 0 _ rfl))
  (with_reducible refine (HMAY.out _ ?hb).mono ?_)
  case hb => exact B0.out _
  rintro e1 w1 ⟨rfl, b1⟩
  have R1 : Hid (Rw w1 w.heap.size 26 vs) := (show Rw _ _ _ vs from heap_allocs w [_] 0 _ rfl).below b1
  have B1 : Hid (Below w.heap.size w w1) := (B0.out _).trans (b1.mono (by simp))
  have LT : Hid (w.heap.size < w1.heap.size) := R1.out.lt
  clear b1
  obtain ⟨k0, k1, k2, k3, k4, k5, k6, k7, k8, k9⟩ := fr_cells (HVS.out ▸ R1.out)
  simp only at k0 k1 k2 k3 k4 k5 k6 k7 k8 k9
  have R2 : Hid (Rw (w1.alloc (.cells #[.int .u8 8] 5)) w.heap.size 26 vs) := R1.out.alloc _
  have B2 : Hid (Below w.heap.size w (w1.alloc (.cells #[.int .u8 8] 5))) := B1.out.alloc B1.out.size _
  have S2 : Hid (w1.heap.size ≤ (w1.alloc (.cells #[.int .u8 8] 5)).heap.size) := show _ ≤ _ by simp
  have Z2 : Hid (Blk (w1.alloc (.cells #[.int .u8 8] 5)) w1.heap.size 5 [8]) := heap_alloc_new w1 _
  have O2 : Hid (Own (w1.alloc (.cells #[.int .u8 8] 5)) w1.heap.size (.slice (some ⟨w1.heap.size, 0, none⟩) 1 1) 1 [8]) := Z2.out.own rfl (Nat.le_refl _) (by simp [maxLen])
  have kk0 : (w1.alloc (.cells #[.int .u8 8] 5)).cell? ⟨w.heap.size, 0, none⟩ = some (.int .i64 8) := (fr_cells (HVS.out ▸ R2.out)).1
  go_upto_region 20 with fail
  clear kk0
  generalize w1.alloc (.cells #[.int .u8 8] 5) = w2 at R2 B2 S2 Z2 O2 ⊢
  obtain ⟨A2, hA2⟩ : ∃ A, A = some (⟨w1.heap.size, 0, none⟩ : Addr) := ⟨_, rfl⟩
  obtain ⟨n2, hn2⟩ : ∃ n : Nat, n = 1 := ⟨_, rfl⟩
  obtain ⟨d2, hd2⟩ : ∃ n : Nat, n = 1 := ⟨_, rfl⟩
  clear k0 k1 k2 k3 k4 k5 k6 k7 k8 k9
  obtain ⟨k0, k1, k2, k3, k4, k5, k6, k7, k8, k9⟩ := fr_cells (HVS.out ▸ R2.out)
  simp only at k0 k1 k2 k3 k4 k5 k6 k7 k8 k9
  go_wp2_with ((with_reducible refine wpList_put_blk rfl 5 (.tmp 93) (.const (.int .u8 14)) rfl w1.heap.size 0 14 ?hx ?hy 5 [8] Z2.out size1 ?hl ?_); (case hx => with_unfolding_all rfl); (case hy => with_unfolding_all rfl); (case hl => simp); intro w3 Z3 N3; have Y3 : Hid (Blk w3 w1.heap.size 5 [14]) := Z3.out; have R3 := Lib.hid (R2.out.only N3.out (by have := LT.out; omega)); have B3 := Lib.hid (B2.out.trans (N3.out.below B2.out.size (Nat.le_of_lt LT.out))); have S3 : Hid (w1.heap.size ≤ w3.heap.size) := Nat.le_trans S2.out N3.out.size; have O3 : Hid (Own w3 w1.heap.size (.slice (some ⟨w1.heap.size, 0, none⟩) 1 1) 1 [14]) := Z3.out.own rfl (Nat.le_refl _) (by simp [maxLen]); have q6 : w3.cell? ⟨w.heap.size, 6, none⟩ = some (.bool false) := (fr_cells (HVS.out ▸ R3.out)).2.2.2.2.2.2.1; have q4 : w3.cell? ⟨w.heap.size, 4, none⟩ = some (.int .u64 (id : Int)) := (fr_cells (HVS.out ▸ R3.out)).2.2.2.2.1)
  (with_reducible refine (rvput [14] (some ⟨w1.heap.size, 0, none⟩) 1 1 w3.heap.size id w3 O3.out.sl (Nat.le_refl _) (by omega) ni).mono ?_)
  have n3E : ∃ n : Nat, n = 1 := ⟨_, rfl⟩
  obtain ⟨n3, hn3⟩ := n3E
  rintro e4 w4 ⟨A4, n4, d4, rfl, o, b⟩
  have R4 := Lib.hid (R3.out.below b)
  have B4 := Lib.hid (B3.out.trans (b.mono B3.out.size))
  have S4 : Hid (w1.heap.size ≤ w4.heap.size) := Nat.le_trans S3.out b.size
  have hn4 : n4 ≤ 9 := by have h1 := o.len; have h2 := enc_le (id); have h3 := O3.out.len; rw [List.length_append] at h1; omega
  have O4 := Lib.hid (o.base S3.out)
  clear o b
  clear k0 k1 k2 k3 k4 k5 k6 k7 k8 k9
  obtain ⟨k0, k1, k2, k3, k4, k5, k6, k7, k8, k9⟩ := fr_cells (HVS.out ▸ R4.out)
  simp only at k0 k1 k2 k3 k4 k5 k6 k7 k8 k9
  go_wp2_with fail
  (with_reducible refine (rvput ([14] ++ enc id) A4 n4 d4 w4.heap.size of w4 O4.out.sl (Nat.le_refl _) (by omega) no).mono ?_)
  rintro e5 w5 ⟨A5, n5, d5, rfl, o, b⟩
  have R5 := Lib.hid (R4.out.below b)
  have B5 := Lib.hid (B4.out.trans (b.mono B4.out.size))
  have S5 : Hid (w1.heap.size ≤ w5.heap.size) := Nat.le_trans S4.out b.size
  have hn5 : n5 ≤ n4 + 8 := by have h1 := o.len; have h2 := enc_le (of); have h3 := O4.out.len; rw [List.length_append] at h1; omega
  have O5 := Lib.hid (o.base S4.out)
  clear o b
  clear k0 k1 k2 k3 k4 k5 k6 k7 k8 k9
  obtain ⟨k0, k1, k2, k3, k4, k5, k6, k7, k8, k9⟩ := fr_cells (HVS.out ▸ R5.out)
  simp only at k0 k1 k2 k3 k4 k5 k6 k7 k8 k9
  go_wp2_with fail
  (with_reducible refine (rvput ([14] ++ enc id ++ enc of) A5 n5 d5 w5.heap.size dn w5 O5.out.sl (Nat.le_refl _) (by omega) (by omega)).mono ?_)
  rintro e6 w6 ⟨A6, n6, d6, rfl, o, b⟩
  have R6 := Lib.hid (R5.out.below b)
  have B6 := Lib.hid (B5.out.trans (b.mono B5.out.size))
  have S6 : Hid (w1.heap.size ≤ w6.heap.size) := Nat.le_trans S5.out b.size
  have hn6 : n6 ≤ n5 + 8 := by have h1 := o.len; have h2 := enc_le (dn); have h3 := O5.out.len; rw [List.length_append] at h1; omega
  have O6 := Lib.hid (o.base S5.out)
  clear o b
  clear k0 k1 k2 k3 k4 k5 k6 k7 k8 k9
  obtain ⟨k0, k1, k2, k3, k4, k5, k6, k7, k8, k9⟩ := fr_cells (HVS.out ▸ R6.out)
  simp only at k0 k1 k2 k3 k4 k5 k6 k7 k8 k9
  go_wp2_with (at_builtin; refine wpList_append_bytes rfl _ _ rfl w1.heap.size (.slice A6 (n6) d6) (n6) ([14] ++ enc id ++ enc of ++ enc dn) rfl O6.out B dA dn dc da rfl (HP.out _ B6.out).d (by omega) S6.out _ (Below.refl _ _) ?_; intro A7 d7 w7 o hle hc hg b; have R7 := Lib.hid (Rw.belowB R6.out b LT.out); have B7 := Lib.hid (Below.trans B6.out (b.mono (Nat.le_of_lt LT.out))); have S7 : Hid (w1.heap.size ≤ w7.heap.size) := Nat.le_trans S6.out b.size; have O7 := Lib.hid o; clear o hle hc hg b)
  obtain ⟨n7, hn7⟩ : ∃ n, n6 + dn = n := ⟨_, rfl⟩
  simp only [hn7] at O7 ⊢
  go_wp2_with fail
  go_ret
  refine ⟨A7, n7, d7, rfl, ?_, B7.out⟩
  rw [HPF.out]
  exact O7.out.base (Nat.le_of_lt LT.out)
theorem wp_append_own {w : World} {o : Oper} {a : Act} {K : Act → World → Prop} {Q : Exit → Act → World → Prop} (s x : Operand)
    (ho : o.op = .call { callee := .builtin .append, args := #[s, x], argTypes := #[24, 24] })
    (base : Nat) (v : Value) (n : Nat) (l : List UInt8) (hs : a.eval s = v) (hown : Own w base v n l)
    (B : Nat) (A : Option Addr) (m c : Nat) (r : List UInt8) (hx : a.eval x = .slice A m c) (hr : Sl w B A m r)
    (hlen : n + m ≤ 70368744177664) (hbase : base ≤ w.heap.size)
    (h : ∀ A' c' w', Hid (Own w' base (.slice A' (n + m) c') (n + m) (l ++ r)) → Hid (Below base w w') → K (a.put o.dst (.slice A' (n + m) c')) w') : o.wp Try.prog a w K Q := by
  obtain ⟨v', w', hrun, h2, h3, _⟩ := run_append_bytes w base o.type v n l hown B A m c r hr hlen hbase
  obtain ⟨A', c', rfl, hle, hcm⟩ := h2.form
  unfold Oper.wp execOp
  simp only [ho, resolve, invoke, builtin, Sem.run_bind, Sem.run_pure, Result.andThen_ok, List.map_toArray, List.map_cons, List.map_nil, hs, hx, hrun]
  exact h A' c' w' h2 ((Below.refl base w).grown h3 hbase fun k hk => (World.ownsRow.lt hown k hk).1)
set_option maxHeartbeats 4000000 in
set_option maxRecDepth 4000 in
theorem rfput_24 (f : Fr) (p : Fp) (B : Nat) (w : World) (hB : B ≤ w.heap.size) (hf : FrL w B f p) (hn : FrN f) (hm : MayF f) (hk : f.kind = 24) :
    Calls Try.prog 13 #[.agg (frV f p).toArray] w (MakesB w (putF f)) := by
  have hwb := ((may_iff f).1 hm).1
  have HP : Hid (∀ u : World, Below w.heap.size w u → FrL u B f p) := fun u hu => hf.below (hu.mono hB)
  have HSZ := Lib.hid (frV_size f p)
  have HMAY : Hid (∀ u : World, Below w.heap.size w u → Calls Try.prog 15 #[.agg (frV f p).toArray] u fun e w' => e = .returned (.bool true) ∧ Below u.heap.size u w') := fun u hu => rmay_any f p B u (Nat.le_trans hB hu.size) (HP.out u hu) hn true (by simp [hm])
  obtain ⟨vs, hvs⟩ : ∃ vs, frV f p = vs := ⟨_, rfl⟩
  have HVS := Lib.hid hvs
  rw [hvs] at HSZ HMAY ⊢
  obtain ⟨K, n, d, rs, id, of, fi, da, ci, tk⟩ := f
  obtain ⟨ra, rn, rc, dA, dn, dc, ca, cn, cc, ta, tn, tc⟩ := p
  obtain ⟨nk, nn, nd, ni, no, nr⟩ := hn
  simp only at hk nn nd ni no
  subst hk
  simp [wbF] at hwb
  try unfold maxV at hwb
  have HPF : Hid (putF ⟨24, n, d, rs, id, of, fi, da, ci, tk⟩ = [24] ++ enc n ++ [0, 8] ++ ci ++ tk) := show _ = _ by simp [putF]
  clear hvs nk nr hm
  have lcn : ci.length = cn := hf.c.1
  have ltn : tk.length = tn := hf.t.1
  have B0 : Hid (∀ o1, Below w.heap.size w (w.alloc o1)) := fun _ => (Below.refl _ _).alloc (Nat.le_refl _) _
  clear hf
  go_enter Try.func13, Try.ntmps13
  go_wp2_with ((with_reducible refine wpList_load_rw rfl 26 (.tmp 1) rfl w.heap.size ?hx 26 vs ?hB _ Try.underlying26 rfl HSZ.out ?_); (case hx => with_unfolding_all rfl); (case hB => exact heap_allocs w [_] 0 _ rfl))
  (with_reducible refine (HMAY.out _ ?hb).mono ?_)
  case hb => exact B0.out _
  rintro e1 w1 ⟨rfl, b1⟩
  have R1 : Hid (Rw w1 w.heap.size 26 vs) := (show Rw _ _ _ vs from heap_allocs w [_] 0 _ rfl).below b1
  have B1 : Hid (Below w.heap.size w w1) := (B0.out _).trans (b1.mono (by simp))
  have LT : Hid (w.heap.size < w1.heap.size) := R1.out.lt
  clear b1
  obtain ⟨k0, k1, k2, k3, k4, k5, k6, k7, k8, k9⟩ := fr_cells (HVS.out ▸ R1.out)
  simp only at k0 k1 k2 k3 k4 k5 k6 k7 k8 k9
  have R2 : Hid (Rw (w1.alloc (.cells #[.int .u8 24] 5)) w.heap.size 26 vs) := R1.out.alloc _
  have B2 : Hid (Below w.heap.size w (w1.alloc (.cells #[.int .u8 24] 5))) := B1.out.alloc B1.out.size _
  have S2 : Hid (w1.heap.size ≤ (w1.alloc (.cells #[.int .u8 24] 5)).heap.size) := show _ ≤ _ by simp
  have Z2 : Hid (Blk (w1.alloc (.cells #[.int .u8 24] 5)) w1.heap.size 5 [24]) := heap_alloc_new w1 _
  have O2 : Hid (Own (w1.alloc (.cells #[.int .u8 24] 5)) w1.heap.size (.slice (some ⟨w1.heap.size, 0, none⟩) 1 1) 1 [24]) := Z2.out.own rfl (Nat.le_refl _) (by simp [maxLen])
  have kk0 : (w1.alloc (.cells #[.int .u8 24] 5)).cell? ⟨w.heap.size, 0, none⟩ = some (.int .i64 24) := (fr_cells (HVS.out ▸ R2.out)).1
  go_upto_region 34 with fail
  clear kk0
  generalize w1.alloc (.cells #[.int .u8 24] 5) = w2 at R2 B2 S2 Z2 O2 ⊢
  obtain ⟨A2, hA2⟩ : ∃ A, A = some (⟨w1.heap.size, 0, none⟩ : Addr) := ⟨_, rfl⟩
  obtain ⟨n2, hn2⟩ : ∃ n : Nat, n = 1 := ⟨_, rfl⟩
  obtain ⟨d2, hd2⟩ : ∃ n : Nat, n = 1 := ⟨_, rfl⟩
  clear k0 k1 k2 k3 k4 k5 k6 k7 k8 k9
  obtain ⟨k0, k1, k2, k3, k4, k5, k6, k7, k8, k9⟩ := fr_cells (HVS.out ▸ R2.out)
  simp only at k0 k1 k2 k3 k4 k5 k6 k7 k8 k9
  go_wp2_with fail
  (with_reducible refine (rvput ([24]) (some ⟨w1.heap.size, 0, none⟩) 1 1 w2.heap.size n w2 O2.out.sl (Nat.le_refl _) (by omega) nn).mono ?_)
  rintro e3 w3 ⟨A3, n3, d3, rfl, o, b⟩
  have R3 := Lib.hid (R2.out.below b)
  have B3 := Lib.hid (B2.out.trans (b.mono B2.out.size))
  have S3 : Hid (w1.heap.size ≤ w3.heap.size) := Nat.le_trans S2.out b.size
  have hn3 : n3 ≤ n2 + 8 := by have h1 := o.len; have h2 := enc_le (n); have h3 := O2.out.len; rw [List.length_append] at h1; omega
  have O3 := Lib.hid (o.base S2.out)
  clear o b
  clear k0 k1 k2 k3 k4 k5 k6 k7 k8 k9
  obtain ⟨k0, k1, k2, k3, k4, k5, k6, k7, k8, k9⟩ := fr_cells (HVS.out ▸ R3.out)
  simp only at k0 k1 k2 k3 k4 k5 k6 k7 k8 k9
  go_wp2_with (at_builtin; refine wpList_append_bytes rfl _ _ rfl w1.heap.size (.slice A3 (n3) d3) (n3) ([24] ++ enc n) rfl (O3.out.alloc _) (w3.heap.size + 1) (some ⟨w3.heap.size, 0, none⟩) 2 2 [0, 8] rfl (sl_lit2 w3 0 8) (by omega) (Nat.le_trans S3.out (by simp)) _ (Below.refl _ _) ?_; intro A4 d4 w4 o hle hc hg b; have R4 := Lib.hid (Rw.belowB (R3.out.alloc _) b LT.out); have B4 := Lib.hid (Below.trans (B3.out.alloc B3.out.size _) (b.mono (Nat.le_of_lt LT.out))); have S4 : Hid (w1.heap.size ≤ w4.heap.size) := Nat.le_trans (Nat.le_trans S3.out (by simp)) b.size; have O4 := Lib.hid o; clear o hle hc hg b)
  obtain ⟨n4, hn4⟩ : ∃ n, n3 + 2 = n := ⟨_, rfl⟩
  simp only [hn4] at O4 ⊢
  obtain ⟨k0, k1, k2, k3, k4, k5, k6, k7, k8, k9⟩ := fr_cells (HVS.out ▸ R4.out)
  simp only at k0 k1 k2 k3 k4 k5 k6 k7 k8 k9
  have HK : Hid (∀ u, Rw u w.heap.size 26 vs → u.cell? ⟨w.heap.size, 8, none⟩ = some (.slice ca cn cc) ∧ u.cell? ⟨w.heap.size, 9, none⟩ = some (.slice ta tn tc)) := fun u hu => ⟨(fr_cells (HVS.out ▸ hu)).2.2.2.2.2.2.2.2.1, (fr_cells (HVS.out ▸ hu)).2.2.2.2.2.2.2.2.2⟩
  refine wp_held (S := fun u => Rw u w.heap.size 26 vs) (by kernel_rfl) ?_
  have hS : Rw w4.drew w.heap.size 26 vs := R4.out.drew
  refine wpAnyH_take (i := 0) (v := ?_) rfl (by kernel_rfl) (by kernel_rfl) (by kernel_rfl) (fun _ _ _ h => h) (Or.inl ⟨by rfl, ?_⟩) hS ?_
  rotate_left 1
  · intro u hu
    go_simp
    first | done | with_reducible rfl
  go_simp
  refine wpAnyH_take (i := 1) (v := ?_) rfl (by kernel_rfl) (by kernel_rfl) (by kernel_rfl) (fun _ _ _ h => h) (Or.inl ⟨by rfl, ?_⟩) hS ?_
  rotate_left 1
  · intro u hu
    go_simp
    first | done | with_reducible rfl
  go_simp
  refine wpAnyH_take (i := 2) (v := ?_) rfl (by kernel_rfl) (by kernel_rfl) (by kernel_rfl) (fun _ _ _ h => h) (Or.inl ⟨by rfl, ?_⟩) hS ?_
  rotate_left 1
  · intro u hu
    have hc := (HK.out u hu).1
    go_simp
    first | done | with_reducible rfl
  go_simp
  refine wpAnyH_take (i := 4) (v := ?_) rfl (by kernel_rfl) (by kernel_rfl) (by kernel_rfl) (fun _ _ _ h => h) (Or.inl ⟨by rfl, ?_⟩) hS ?_
  rotate_left 1
  · intro u hu
    go_simp
    first | done | with_reducible rfl
  go_simp
  refine wpAnyH_take (i := 5) (v := ?_) rfl (by kernel_rfl) (by kernel_rfl) (by kernel_rfl) (fun _ _ _ h => h) (Or.inl ⟨by rfl, ?_⟩) hS ?_
  rotate_left 1
  · intro u hu
    have hc := (HK.out u hu).2
    go_simp
    first | done | with_reducible rfl
  go_simp
  refine wpAnyH_oneG 3 (by kernel_rfl) rfl (by rfl) ?_
  refine wp_append_own (.tmp 139) (.tmp 141) rfl w1.heap.size (.slice A4 (n4) d4) (n4) ([24] ++ enc n ++ [0, 8]) (by with_unfolding_all rfl) O4.out.drew B ca cn cc ci (by with_unfolding_all rfl) ((HP.out _ B4.out).c).drew (by omega) S4.out ?_
  intro A5 d5 w5 O5 b
  have R5 := Lib.hid (Rw.belowB R4.out.drew b.out LT.out)
  have B5 := Lib.hid (Below.trans B4.out.drew (b.out.mono (Nat.le_of_lt LT.out)))
  have S5 : Hid (w1.heap.size ≤ w5.heap.size) := Nat.le_trans S4.out b.out.size
  clear hS b
  have hS := R5.out
  refine ⟨hS, ?_⟩
  go_simp
  refine wpAnyH_oneG 6 (by kernel_rfl) rfl (by rfl) ?_
  refine wp_append_own (.tmp 142) (.tmp 144) rfl w1.heap.size (.slice A5 (n4 + cn) d5) (n4 + cn) ([24] ++ enc n ++ [0, 8] ++ ci) (by with_unfolding_all rfl) O5.out B ta tn tc tk (by with_unfolding_all rfl) (HP.out _ B5.out).t (by omega) S5.out ?_
  intro A6 d6 w6 O6 b
  have R6 := Lib.hid (Rw.belowB R5.out b.out LT.out)
  have B6 := Lib.hid (Below.trans B5.out (b.out.mono (Nat.le_of_lt LT.out)))
  have S6 : Hid (w1.heap.size ≤ w6.heap.size) := Nat.le_trans S5.out b.out.size
  clear hS b
  have hS := R6.out
  refine ⟨hS, ?_⟩
  go_simp
  refine wpAnyH_take (i := 7) (v := ?_) rfl (by kernel_rfl) (by kernel_rfl) (by kernel_rfl) (fun _ _ _ h => h) (Or.inl ⟨by rfl, ?_⟩) hS ?_
  rotate_left 1
  · intro u hu
    go_simp
    first | done | with_reducible rfl
  go_simp
  refine wpAnyH_done (by kernel_rfl) ?_ _
  obtain ⟨n6, hn6⟩ : ∃ n, n4 + cn + tn = n := ⟨_, rfl⟩
  simp only [hn6] at O6 ⊢
  go_wp2_with fail
  go_ret
  refine ⟨A6, n6, d6, rfl, ?_, B6.out⟩
  rw [HPF.out]
  exact O6.out.base (Nat.le_of_lt LT.out)
set_option maxHeartbeats 4000000 in
set_option maxRecDepth 4000 in
theorem rfput_2 (f : Fr) (p : Fp) (B : Nat) (w : World) (hB : B ≤ w.heap.size) (hf : FrL w B f p) (hn : FrN f) (hm : MayF f) (hk : f.kind = 2) :
    Calls Try.prog 13 #[.agg (frV f p).toArray] w (MakesB w (putF f)) := by
  have hwb := ((may_iff f).1 hm).1
  have HP : Hid (∀ u : World, Below w.heap.size w u → FrL u B f p) := fun u hu => hf.below (hu.mono hB)
  have HSZ := Lib.hid (frV_size f p)
  have HMAY : Hid (∀ u : World, Below w.heap.size w u → Calls Try.prog 15 #[.agg (frV f p).toArray] u fun e w' => e = .returned (.bool true) ∧ Below u.heap.size u w') := fun u hu => rmay_any f p B u (Nat.le_trans hB hu.size) (HP.out u hu) hn true (by simp [hm])
  have hwb2 : f.delay ≤ maxV ∧ RangesP f.rs := by simp [wbF, hk] at hwb; exact hwb
  have HAK : putAck f.delay f.rs = 2 :: (enc (f.rs.getD 0 (0, 0)).2 ++ (enc f.delay ++ (enc (f.rs.length - 1) ++ bodyR f.rs))) := by
    have h1 := hwb2.2.1
    cases hrs : f.rs with
    | nil => rw [hrs] at h1; simp at h1
    | cons x t => obtain ⟨lo, hi⟩ := x; simp [putAck, bodyR]
  clear hwb2
  obtain ⟨vs, hvs⟩ : ∃ vs, frV f p = vs := ⟨_, rfl⟩
  have HVS := Lib.hid hvs
  rw [hvs] at HSZ HMAY ⊢
  obtain ⟨K, n, d, rs, id, of, fi, da, ci, tk⟩ := f
  obtain ⟨ra, rn, rc, dA, dn, dc, ca, cn, cc, ta, tn, tc⟩ := p
  obtain ⟨nk, nn, nd, ni, no, nr⟩ := hn
  simp only at hk nn nd ni no
  subst hk
  simp [wbF] at hwb
  try unfold maxV at hwb
  have HPF : Hid (putF ⟨2, n, d, rs, id, of, fi, da, ci, tk⟩ = 2 :: (enc (rs.getD 0 (0, 0)).2 ++ (enc d ++ (enc (rs.length - 1) ++ bodyR rs)))) := show _ = _ by simp [putF, HAK]
  clear hvs nk nr hm
  obtain ⟨hl1, hl8, hcond⟩ := (ranges_index rs).1 hwb.2
  have HCD : Hid (∀ i, i < rs.length → condR rs i) := hcond
  have hrn : rs.length = rn := hf.r.1
  rw [hrn] at hl1 hl8 hcond
  have Hrn := Lib.hid hrn
  obtain ⟨bk, off, rfl, hbk, _⟩ := hf.r.2 (by show 0 < rn; omega)
  have HRS : Hid (∀ u : World, Below w.heap.size w u → SlR u B (some ⟨bk, off, none⟩) rn rs) := fun u hu => (HP.out u hu).r
  obtain ⟨⟨lo0, hi0⟩, hx⟩ : ∃ x, rs.getD 0 (0, 0) = x := ⟨_, rfl⟩
  have hx0 := hcond 0 (by omega)
  unfold condR maxV at hx0
  rw [hx] at hx0 HPF
  simp only at hx0 HPF
  rw [hrn] at HPF
  have hh0 : hi0 ≤ 4611686018427387903 := hx0.2.1
  have hl0 : lo0 ≤ hi0 := hx0.1
  have Hx := Lib.hid hx
  obtain ⟨dd0, hdd0⟩ : ∃ dd : Nat, hi0 - lo0 = dd := ⟨_, rfl⟩
  have wd0 : IntKind.u64.wrap ((hi0 : Int) - (lo0 : Int)) = (dd0 : Int) := by rw [wrap_u64N]; omega
  have Hdd0 := Lib.hid hdd0
  have hdd0m : dd0 ≤ 4611686018427387903 := by omega
  have wl : IntKind.u64.wrap ((rn : Int) - 1) = ((rn - 1 : Nat) : Int) := by rw [wrap_u64N]; omega
  have hdm : d ≤ 4611686018427387903 := hwb.1
  clear hcond hx hx0 hdd0 hrn hwb
  have B0 : Hid (∀ o1, Below w.heap.size w (w.alloc o1)) := fun _ => (Below.refl _ _).alloc (Nat.le_refl _) _
  clear hf
  go_enter Try.func13, Try.ntmps13
  go_wp2_with ((with_reducible refine wpList_load_rw rfl 26 (.tmp 1) rfl w.heap.size ?hx 26 vs ?hB _ Try.underlying26 rfl HSZ.out ?_); (case hx => with_unfolding_all rfl); (case hB => exact heap_allocs w [_] 0 _ rfl))
  (with_reducible refine (HMAY.out _ ?hb).mono ?_)
  case hb => exact B0.out _
  rintro e1 w1 ⟨rfl, b1⟩
  have R1 : Hid (Rw w1 w.heap.size 26 vs) := (show Rw _ _ _ vs from heap_allocs w [_] 0 _ rfl).below b1
  have B1 : Hid (Below w.heap.size w w1) := (B0.out _).trans (b1.mono (by simp))
  have LT : Hid (w.heap.size < w1.heap.size) := R1.out.lt
  clear b1
  obtain ⟨k0, k1, k2, k3, k4, k5, k6, k7, k8, k9⟩ := fr_cells (HVS.out ▸ R1.out)
  simp only at k0 k1 k2 k3 k4 k5 k6 k7 k8 k9
  have R2 : Hid (Rw (w1.alloc (.cells #[.int .u8 2] 5)) w.heap.size 26 vs) := R1.out.alloc _
  have B2 : Hid (Below w.heap.size w (w1.alloc (.cells #[.int .u8 2] 5))) := B1.out.alloc B1.out.size _
  have S2 : Hid (w1.heap.size ≤ (w1.alloc (.cells #[.int .u8 2] 5)).heap.size) := show _ ≤ _ by simp
  have Z2 : Hid (Blk (w1.alloc (.cells #[.int .u8 2] 5)) w1.heap.size 5 [2]) := heap_alloc_new w1 _
  have O2 : Hid (Own (w1.alloc (.cells #[.int .u8 2] 5)) w1.heap.size (.slice (some ⟨w1.heap.size, 0, none⟩) 1 1) 1 [2]) := Z2.out.own rfl (Nat.le_refl _) (by simp [maxLen])
  have kk0 : (w1.alloc (.cells #[.int .u8 2] 5)).cell? ⟨w.heap.size, 0, none⟩ = some (.int .i64 2) := (fr_cells (HVS.out ▸ R2.out)).1
  go_upto_region 8 with fail
  clear kk0
  generalize w1.alloc (.cells #[.int .u8 2] 5) = w2 at R2 B2 S2 Z2 O2 ⊢
  obtain ⟨A2, hA2⟩ : ∃ A, A = some (⟨w1.heap.size, 0, none⟩ : Addr) := ⟨_, rfl⟩
  obtain ⟨n2, hn2⟩ : ∃ n : Nat, n = 1 := ⟨_, rfl⟩
  obtain ⟨d2, hd2⟩ : ∃ n : Nat, n = 1 := ⟨_, rfl⟩
  clear k0 k1 k2 k3 k4 k5 k6 k7 k8 k9
  obtain ⟨k0, k1, k2, k3, k4, k5, k6, k7, k8, k9⟩ := fr_cells (HVS.out ▸ R2.out)
  simp only at k0 k1 k2 k3 k4 k5 k6 k7 k8 k9
  have h0 := slR_at (HRS.out _ B2.out) 0 (by omega)
  have HC0 := Lib.hid (HRS.out)
  rw [Hx.out] at h0
  simp only [Nat.zero_mul, Nat.add_zero] at h0
  obtain ⟨c01, c02⟩ := h0
  go_wp2_with fail
  (with_reducible refine (rvput ([2]) (some ⟨w1.heap.size, 0, none⟩) 1 1 w2.heap.size hi0 w2 O2.out.sl (Nat.le_refl _) (by omega) (by omega)).mono ?_)
  rintro e3 w3 ⟨A3, n3, d3, rfl, o, b⟩
  have R3 := Lib.hid (R2.out.below b)
  have B3 := Lib.hid (B2.out.trans (b.mono B2.out.size))
  have S3 : Hid (w1.heap.size ≤ w3.heap.size) := Nat.le_trans S2.out b.size
  have hn3 : n3 ≤ n2 + 8 := by have h1 := o.len; have h2 := enc_le (hi0); have h3 := O2.out.len; rw [List.length_append] at h1; omega
  have O3 := Lib.hid (o.base S2.out)
  clear o b
  clear k0 k1 k2 k3 k4 k5 k6 k7 k8 k9
  obtain ⟨k0, k1, k2, k3, k4, k5, k6, k7, k8, k9⟩ := fr_cells (HVS.out ▸ R3.out)
  simp only at k0 k1 k2 k3 k4 k5 k6 k7 k8 k9
  clear c01 c02
  go_wp2_with fail
  (with_reducible refine (rvput ([2] ++ enc hi0) A3 n3 d3 w3.heap.size d w3 O3.out.sl (Nat.le_refl _) (by omega) (by omega)).mono ?_)
  rintro e4 w4 ⟨A4, n4, d4, rfl, o, b⟩
  have R4 := Lib.hid (R3.out.below b)
  have B4 := Lib.hid (B3.out.trans (b.mono B3.out.size))
  have S4 : Hid (w1.heap.size ≤ w4.heap.size) := Nat.le_trans S3.out b.size
  have hn4 : n4 ≤ n3 + 8 := by have h1 := o.len; have h2 := enc_le (d); have h3 := O3.out.len; rw [List.length_append] at h1; omega
  have O4 := Lib.hid (o.base S3.out)
  clear o b
  clear k0 k1 k2 k3 k4 k5 k6 k7 k8 k9
  obtain ⟨k0, k1, k2, k3, k4, k5, k6, k7, k8, k9⟩ := fr_cells (HVS.out ▸ R4.out)
  simp only at k0 k1 k2 k3 k4 k5 k6 k7 k8 k9
  go_wp2_with fail
  (with_reducible refine (rvput ([2] ++ enc hi0 ++ enc d) A4 n4 d4 w4.heap.size (rn - 1) w4 O4.out.sl (Nat.le_refl _) (by omega) (by omega)).mono ?_)
  rintro e5 w5 ⟨A5, n5, d5, rfl, o, b⟩
  have R5 := Lib.hid (R4.out.below b)
  have B5 := Lib.hid (B4.out.trans (b.mono B4.out.size))
  have S5 : Hid (w1.heap.size ≤ w5.heap.size) := Nat.le_trans S4.out b.size
  have hn5 : n5 ≤ n4 + 8 := by have h1 := o.len; have h2 := enc_le (rn - 1); have h3 := O4.out.len; rw [List.length_append] at h1; omega
  have O5 := Lib.hid (o.base S4.out)
  clear o b
  clear k0 k1 k2 k3 k4 k5 k6 k7 k8 k9
  obtain ⟨k0, k1, k2, k3, k4, k5, k6, k7, k8, k9⟩ := fr_cells (HVS.out ▸ R5.out)
  simp only at k0 k1 k2 k3 k4 k5 k6 k7 k8 k9
  have h0 := slR_at (HRS.out _ B5.out) 0 (by omega)
  rw [Hx.out] at h0
  simp only [Nat.zero_mul, Nat.add_zero] at h0
  obtain ⟨c01, c02⟩ := h0
  have hin0 : 0 < rn := by omega
  go_wp2_with fail
  refine wp_tail 10 (by kernel_rfl) (by kernel_rfl) ?_
  simp only [List.take_succ_cons, List.take_zero, List.drop_succ_cons, List.drop_zero]
  repeat still_step
  refine wpStill_nil ?_
  go_wp2_with fail
  (with_reducible refine (rvput ([2] ++ enc hi0 ++ enc d ++ enc (rn - 1)) A5 n5 d5 w5.heap.size dd0 w5.drew O5.out.sl.drew (by simp) (by omega) (by omega)).mono ?_)
  rintro e6 w6 ⟨A6, n6, d6, rfl, o, b⟩
  have R6 := Lib.hid (R5.out.drew.below b)
  have B6 := Lib.hid (B5.out.drew.trans (b.mono B5.out.size))
  have S6 : Hid (w1.heap.size ≤ w6.heap.size) := Nat.le_trans S5.out b.size
  have hn6 : n6 ≤ n5 + 8 := by have h1 := o.len; have h2 := enc_le dd0; have h3 := O5.out.len; rw [List.length_append] at h1; omega
  have O6 := Lib.hid (o.base S5.out)
  clear o b c01 c02
  clear k0 k1 k2 k3 k4 k5 k6 k7 k8 k9
  obtain ⟨pre, hpre⟩ : ∃ pre, [2] ++ enc hi0 ++ enc d ++ enc (rn - 1) = pre := ⟨_, rfl⟩
  rw [hpre] at O6
  have HPRE := Lib.hid hpre
  clear hpre
  go_wp2_with fail
  go_loopw [3, 5] (fun bv_ i wr => ∃ (j : Nat) (A4 : Option Addr) (n4 c4 : Nat), 1 ≤ j ∧ j ≤ rn ∧ i = .int .i64 j ∧ bv_ = .slice A4 n4 c4 ∧ n4 ≤ 200 + 16 * j ∧ Hid (Own wr w1.heap.size (.slice A4 n4 c4) n4 (pre ++ bodyR (rs.take j))) ∧ Hid (Below w.heap.size w wr) ∧ Hid (w1.heap.size ≤ wr.heap.size)) (fun _ i _ => rn - (intOf i).toNat)
  case atStart =>
    refine ⟨1, A6, n6, d6, by omega, by omega, rfl, rfl, by omega, ?_, B6, S6⟩
    show Own _ _ _ _ _
    rw [bodyR_zero rs (by rw [Hrn.out]; omega), Hx.out]
    simp only
    rw [Hdd0.out]
    exact O6.out
  case round =>
    obtain ⟨j, A4, n4, c4, hj1, hj, rfl, rfl, hn4, O4, B4, S4⟩ := hrel
    by_cases hlt : j < rn
    · obtain ⟨i, rfl⟩ : ∃ i, j = i + 1 := ⟨j - 1, by omega⟩
      obtain ⟨⟨lo, hi⟩, hx⟩ : ∃ x, rs.getD (i + 1) (0, 0) = x := ⟨_, rfl⟩
      obtain ⟨⟨plo, phi⟩, hp⟩ : ∃ x, rs.getD i (0, 0) = x := ⟨_, rfl⟩
      have cj := slR_at (HRS.out _ B4.out) (i + 1) hlt
      have cI := slR_at (HRS.out _ B4.out) i (by omega)
      have hcj := HCD.out (i + 1) (by rw [Hrn.out]; exact hlt)
      have hci := HCD.out i (by rw [Hrn.out]; omega)
      unfold condR maxV at hcj hci
      rw [show i + 1 - 1 = i by omega] at hcj
      rw [hx, hp] at hcj
      rw [hp] at hci cI
      rw [hx] at cj
      simp only at cj cI hcj hci
      obtain ⟨cj1, cj2⟩ := cj
      obtain ⟨ci1, ci2⟩ := cI
      obtain ⟨hlh, hhm, hpr⟩ := hcj
      have hpp := hpr (by omega)
      have Hx1 := Lib.hid hx
      have Hp1 := Lib.hid hp
      have wi : IntKind.i64.wrap ((i : Int) + 1 - 1) = (i : Int) := by rw [show (i : Int) + 1 - 1 = (i : Int) by omega]; exact IntWalk.i64_in _ (by omega)
      have wi2 : IntKind.i64.wrap (i : Int) = (i : Int) := IntWalk.i64_in _ (by omega)
      have hin : i < rn := by omega
      have z1 : (i : Int) + 1 < (rn : Int) := by omega
      have z2 : (0 : Int) ≤ (i : Int) + 1 := by omega
      obtain ⟨g1, hg1⟩ : ∃ g : Nat, plo - hi = g := ⟨_, rfl⟩
      obtain ⟨g2, hg2⟩ : ∃ g : Nat, plo - hi - 2 = g := ⟨_, rfl⟩
      obtain ⟨dd, hdd⟩ : ∃ dd : Nat, hi - lo = dd := ⟨_, rfl⟩
      have x1 : IntKind.u64.wrap ((plo : Int) - (hi : Int)) = (g1 : Int) := by rw [wrap_u64N]; omega
      have x2 : IntKind.u64.wrap ((g1 : Int) - 2) = (g2 : Int) := by rw [wrap_u64N]; omega
      have x3 : IntKind.u64.wrap ((hi : Int) - (lo : Int)) = (dd : Int) := by rw [wrap_u64N]; omega
      have Hg2 := Lib.hid hg2
      have Hdd := Lib.hid hdd
      have hg2m : g2 < 18446744073709551616 := by omega
      have hddm : dd < 18446744073709551616 := by omega
      have HCJ : Hid (∀ u, Below wr.heap.size wr u → u.cell? ⟨bk, off + (i + 1) * 2, none⟩ = some (.int .u64 (lo : Int)) ∧ u.cell? ⟨bk, off + (i + 1) * 2 + 1, none⟩ = some (.int .u64 (hi : Int))) := fun u hu => ⟨(Below.cell hu (p := ⟨bk, off + (i + 1) * 2, none⟩) (Nat.lt_of_lt_of_le hbk (Nat.le_trans hB B4.out.size))).trans cj1, (Below.cell hu (p := ⟨bk, off + (i + 1) * 2 + 1, none⟩) (Nat.lt_of_lt_of_le hbk (Nat.le_trans hB B4.out.size))).trans cj2⟩
      clear hpr hp hx hg1 hg2 hdd hci hpp ci2
      go_wp2_with fail
      refine wp_tail 14 (by kernel_rfl) (by kernel_rfl) ?_
      simp only [List.take_succ_cons, List.take_zero, List.drop_succ_cons, List.drop_zero]
      repeat still_step
      refine wpStill_nil ?_
      go_wp2_with fail
      (with_reducible refine (rvput _ A4 n4 c4 wr.heap.size g2 wr.drew O4.out.sl.drew (by simp) (by omega) hg2m).mono ?_)
      rintro e6 w6 ⟨A6, n6, d6, rfl, o6, b6⟩
      have hn6 : n6 ≤ n4 + 8 := by have := o6.len; have := enc_le g2; have h3 := O4.out.len; simp only [List.length_append] at *; omega
      have b6 : Below wr.heap.size wr w6 := ((Below.refl _ _).drew).trans b6
      obtain ⟨q1, q2⟩ := HCJ.out w6 b6
      have O6 := Lib.hid (o6.base S4.out)
      have B6 := Lib.hid (B4.out.trans (b6.mono B4.out.size))
      have S6 : Hid (w1.heap.size ≤ w6.heap.size) := Nat.le_trans S4.out b6.size
      clear o6 b6 cj1 cj2 ci1
      go_wp2_with fail
      refine wp_tail 12 (by kernel_rfl) (by kernel_rfl) ?_
      simp only [List.take_succ_cons, List.take_zero, List.drop_succ_cons, List.drop_zero]
      repeat still_step
      refine wpStill_nil ?_
      go_wp2_with fail
      (with_reducible refine (rvput _ A6 n6 d6 w6.heap.size dd w6.drew O6.out.sl.drew (by simp) (by omega) hddm).mono ?_)
      rintro e7 w7 ⟨A7, n7, d7, rfl, o7, b7⟩
      have hn7 : n7 ≤ n6 + 8 := by have := o7.len; have := enc_le dd; have h3 := O6.out.len; simp only [List.length_append] at *; omega
      have b7 : Below w6.heap.size w6 w7 := ((Below.refl _ _).drew).trans b7
      go_wp2_with fail
      go_roundw
      case rel =>
        refine ⟨i + 1 + 1, A7, n7, d7, by omega, by omega, by go_num, rfl, by omega, ?_, B6.out.trans (b7.mono B6.out.size), Nat.le_trans S6.out b7.size⟩
        show Own _ _ _ _ _
        rw [bodyR_succ rs i (by rw [Hrn.out]; exact hlt), Hx1.out, Hp1.out]
        simp only
        rw [Hdd.out, Hg2.out]
        have := o7.base S6.out
        simpa [List.append_assoc] using this
      case measure => simp [intOf]; omega
    · go_wp2
      go_ret
      obtain rfl : j = rn := by omega
      refine ⟨A4, n4, c4, rfl, ?_, B4.out⟩
      have := O4.out.base (Nat.le_of_lt LT.out)
      rw [List.take_of_length_le (by rw [Hrn.out]; omega), ← HPRE.out] at this
      rw [HPF.out]
      simpa [List.append_assoc, Hrn.out] using this
set_option maxHeartbeats 4000000 in
set_option maxRecDepth 4000 in
theorem rfput_no (f : Fr) (p : Fp) (B : Nat) (w : World) (hB : B ≤ w.heap.size) (hf : FrL w B f p) (hn : FrN f) (hm : ¬ MayF f) :
    Calls Try.prog 13 #[.agg (frV f p).toArray] w (MakesB w []) := by
  have HP : Hid (∀ u : World, Below w.heap.size w u → FrL u B f p) := fun u hu => hf.below (hu.mono hB)
  have HSZ := Lib.hid (frV_size f p)
  have HMAY : Hid (∀ u : World, Below w.heap.size w u → Calls Try.prog 15 #[.agg (frV f p).toArray] u fun e w' => e = .returned (.bool false) ∧ Below u.heap.size u w') := fun u hu => rmay_any f p B u (Nat.le_trans hB hu.size) (HP.out u hu) hn false (by simp [hm])
  obtain ⟨vs, hvs⟩ : ∃ vs, frV f p = vs := ⟨_, rfl⟩
  rw [hvs] at HSZ HMAY ⊢
  have B0 : Hid (∀ o1, Below w.heap.size w (w.alloc o1)) := fun _ => (Below.refl _ _).alloc (Nat.le_refl _) _
  clear hvs hf hm
  go_enter Try.func13, Try.ntmps13
  go_wp2_with ((with_reducible refine wpList_load_rw rfl 26 (.tmp 1) rfl w.heap.size ?hx 26 vs ?hB _ Try.underlying26 rfl HSZ.out ?_); (case hx => with_unfolding_all rfl); (case hB => exact heap_allocs w [_] 0 _ rfl))
  (with_reducible refine (HMAY.out _ ?hb).mono ?_)
  case hb => exact B0.out _
  rintro e1 w1 ⟨rfl, b1⟩
  go_wp2_with fail
  go_ret
  exact ⟨none, 0, 0, rfl, Own.nil _ _, (B0.out _).trans (b1.mono (by simp))⟩
theorem rfput_yes (f : Fr) (p : Fp) (B : Nat) (w : World) (hB : B ≤ w.heap.size) (hf : FrL w B f p) (hn : FrN f) (hm : MayF f) :
    Calls Try.prog 13 #[.agg (frV f p).toArray] w (MakesB w (putF f)) := by
  have hk := hm
  unfold MayF at hk
  split at hk
  · next h => exact rfput_0 f p B w hB hf hn hm h
  split at hk
  · next h => exact h.elim (rfput_1 f p B w hB hf hn hm) (rfput_30 f p B w hB hf hn hm)
  split at hk
  · next h => exact rfput_2 f p B w hB hf hn hm h
  split at hk
  · next h => exact rfput_6 f p B w hB hf hn hm h
  split at hk
  · next h =>
    cases hfi : f.fin with
    | true => exact rfput_8t f p B w hB hf hn hm h hfi
    | false => exact rfput_8f f p B w hB hf hn hm h hfi
  split at hk
  · next h =>
    rcases h with h | h | h
    · exact rfput_16 f p B w hB hf hn hm h
    · exact rfput_25 f p B w hB hf hn hm h
    · exact rfput_28 f p B w hB hf hn hm h
  split at hk
  · next h => exact rfput_24 f p B w hB hf hn hm h
  split at hk
  · next h => exact h.elim (rfput_26 f p B w hB hf hn hm) (rfput_27 f p B w hB hf hn hm)
  · exact hk.elim
theorem rfput_any (f : Fr) (p : Fp) (B : Nat) (w : World) (hB : B ≤ w.heap.size) (hf : FrL w B f p) (hn : FrN f) (l : List UInt8) (hl : (MayF f → l = putF f) ∧ (¬ MayF f → l = [])) :
    Calls Try.prog 13 #[.agg (frV f p).toArray] w (MakesB w l) := by
  by_cases hm : MayF f
  · rw [hl.1 hm]; exact rfput_yes f p B w hB hf hn hm
  · rw [hl.2 hm]; exact rfput_no f p B w hB hf hn hm
end Go.Proofs.Ytegoabbpjdcjeaa
