/-
  FrameTells: the law's walk.
-/
import Derived.Test.YtegoabbpjdcjeaaFrPut
import Derived.Test.YtegoabbpjdcjeaaFrX
import Derived.Test.YtegoabbpjdcjeaaFrArg
import Derived.Test.YtegoabbpjdcjeaaFrU
import Derived.Test.YtegoabbpjdcjeaaOverB
import Derived.Test.YtegoabbpjdcjeaaWFrameAcks
namespace Go.Proofs.Ytegoabbpjdcjeaa
open Go.RowKit
set_option linter.unusedVariables false

theorem putRs_len (p0 : Nat) (rs : List (Nat × Nat)) : (putRs p0 rs).length ≤ 16 * rs.length := by
  induction rs generalizing p0 with
  | nil => simp [putRs]
  | cons x t ih =>
    obtain ⟨lo, hi⟩ := x
    have h1 := enc_le (p0 - hi - 2)
    have h2 := enc_le (hi - lo)
    have h3 := ih lo
    simp only [putRs, List.length_append, List.length_cons]
    omega
/-- a frame that is gone through has not so many bytes -/
theorem put_short (f : Fr) (h : MayF f) (hg : ¬ GreatP f) : (putF f).length ≤ 100000 := by
  obtain ⟨k, n, d, rs, id, of, fi, da, ci, tk⟩ := f
  unfold GreatP at hg
  simp only at hg
  have e1 := enc_le n
  have e2 := enc_le id
  have e3 := enc_le of
  have e4 := enc_le da.length
  unfold putF
  simp only
  split
  · next h0 =>
    simp only [List.length_replicate]
    omega
  split
  · cases rs with
    | nil => simp [putAck]
    | cons x t =>
      obtain ⟨lo, hi⟩ := x
      have h1 := enc_le hi
      have h2 := enc_le d
      have h3 := enc_le t.length
      have h4 := enc_le (hi - lo)
      have h5 := putRs_len lo t
      simp only [List.length_cons] at hg
      simp only [putAck, List.length_cons, List.length_append]
      omega
  split
  · simp only [List.length_cons, List.length_append]; omega
  split
  · simp only [List.length_cons, List.length_append]; omega
  split
  · simp only [List.length_cons]; omega
  split
  · simp only [List.length_cons, List.length_append, List.length_nil]; omega
  split
  · simp only [List.length_cons, List.length_append]; omega
  split
  · simp only [List.length_cons]; omega
  · simp
/-- a slice of the call's own written over: one block from B on -/
theorem over_some (l : List UInt8) (A : Option Addr) (n c B : Nat) (w : World) (h : Own w B (.slice A n c) n l) (hB : B ≤ w.heap.size) (hn : n ≤ 1000000) :
    Calls Try.prog 22 #[.slice A n c] w fun e w' => e = .returned (.tuple #[]) ∧ ∃ g, (A = none ∧ g = w.heap.size ∨ ∃ a, A = some a ∧ a.block = g) ∧ B ≤ g ∧ Only g w w' := by
  rcases h.2 with hno | ⟨g, cap, row, e, hg, _⟩
  · have e : (A = none ∧ n = 0 ∧ c = 0) ∧ n = 0 := by simpa using hno
    obtain ⟨⟨rfl, rfl, rfl⟩, _⟩ := e
    exact (over_nil w).mono fun e w' ⟨he, hb⟩ => ⟨he, w.heap.size, .inl ⟨rfl, rfl⟩, hB, Only.of_below hb⟩
  · have e : A = some ⟨g, 0, none⟩ ∧ c = cap := by simpa using e
    obtain ⟨rfl, rfl⟩ := e
    exact (over_blk l g n c B w h hB hn).mono fun e w' ⟨he, ho⟩ => ⟨he, g, .inr ⟨_, rfl, rfl⟩, hg, ho⟩
set_option maxHeartbeats 4000000 in
set_option maxRecDepth 4000 in
theorem tells_great (f g : Fr) (p q : Fp) (w : World) (hf : FrL w w.heap.size f p) (hg : FrL w w.heap.size g q) (hnf : FrN f) (hng : FrN g) (h : GreatP f ∨ GreatP g) :
    Calls Try.prog 3 #[.agg (frV f p).toArray, .agg (frV g q).toArray] w fun e w' => e = .returned (.bool true) ∧ Below w.heap.size w w' := by
  have HAW := Lib.hid awake_any
  have HP : Hid (∀ u : World, Below w.heap.size w u → FrL u w.heap.size f p ∧ FrL u w.heap.size g q) := fun u hu => ⟨hf.below hu, hg.below hu⟩
  have HSF := Lib.hid (frV_size f p)
  have HSG := Lib.hid (frV_size g q)
  have HGF := Lib.hid (fun u hu b hb => great_any f p w.heap.size u (HP.out u hu).1 hnf b hb)
  have HGG := Lib.hid (fun u hu b hb => great_any g q w.heap.size u (HP.out u hu).2 hng b hb)
  have B0 : Hid (∀ o1 o2, Below w.heap.size w ((w.alloc o1).alloc o2)) := fun _ _ => ((Below.refl _ _).alloc (Nat.le_refl _) _).alloc (by simp) _
  obtain ⟨vs, hvs⟩ : ∃ vs, frV f p = vs := ⟨_, rfl⟩
  obtain ⟨us, hus⟩ : ∃ vs, frV g q = vs := ⟨_, rfl⟩
  rw [hvs] at HSF HGF ⊢
  rw [hus] at HSG HGG ⊢
  clear hvs hus hf hg
  by_cases h1 : GreatP f
  · replace HGF := Lib.hid (fun u hu => HGF.out u hu true (by simp [h1]))
    clear h
    go_enter Try.func3, Try.ntmps3
    go_wp2_with ((with_reducible refine wpList_load_rw rfl 26 (.tmp 2) rfl w.heap.size ?hx 26 vs ?hB _ Try.underlying26 rfl HSF.out ?_); (case hx => with_unfolding_all rfl); (case hB => exact heap_allocs w [_, _] 0 _ rfl))
    (with_reducible refine (HGF.out _ ?hu).mono ?_)
    case hu => exact B0.out _ _
    rintro e1 w1 ⟨rfl, b1⟩
    go_wp2_with fail
    (with_reducible refine (HAW.out _).mono ?_)
    rintro e2 w2 ⟨rfl, b2⟩
    go_wp2_with fail
    go_ret
    exact ⟨rfl, ((B0.out _ _).trans (b1.mono (by simp; omega))).trans (b2.mono (Nat.le_trans (by simp; omega) b1.size))⟩
  · replace HGF := Lib.hid (fun u hu => HGF.out u hu false (by simp [h1]))
    replace HGG := Lib.hid (fun u hu => HGG.out u hu true (by simp [h.resolve_left h1]))
    clear h h1
    go_enter Try.func3, Try.ntmps3
    go_wp2_with ((with_reducible refine wpList_load_rw rfl 26 (.tmp 2) rfl w.heap.size ?hx 26 vs ?hB _ Try.underlying26 rfl HSF.out ?_); (case hx => with_unfolding_all rfl); (case hB => exact heap_allocs w [_, _] 0 _ rfl))
    (with_reducible refine (HGF.out _ ?hu).mono ?_)
    case hu => exact B0.out _ _
    rintro e1 w1 ⟨rfl, b1⟩
    have Q1 : Hid (Rw w1 (w.heap.size + 1) 26 us) := (show Rw _ _ _ us from heap_allocs w [_, _] 1 _ rfl).below b1
    have B1 : Hid (Below w.heap.size w w1) := (B0.out _ _).trans (b1.mono (by simp; omega))
    clear b1
    go_wp2_with ((with_reducible refine wpList_load_rwG 15 rfl 26 (.tmp 3) rfl ?hw (w.heap.size + 1) ?hx 26 us Q1.out _ Try.underlying26 rfl HSG.out ?_); (case hw => rfl); (case hx => with_unfolding_all rfl))
    (with_reducible refine (HGG.out w1 B1.out).mono ?_)
    rintro e2 w2 ⟨rfl, b2⟩
    have B2 : Hid (Below w.heap.size w w2) := B1.out.trans (b2.mono B1.out.size)
    clear b2
    go_wp2_with fail
    (with_reducible refine (HAW.out _).mono ?_)
    rintro e3 w3 ⟨rfl, b3⟩
    go_wp2_with fail
    go_ret
    exact ⟨rfl, B2.out.trans (b3.mono B2.out.size)⟩
set_option maxHeartbeats 16000000 in
set_option maxRecDepth 8000 in
theorem tells_walk (f g : Fr) (p q : Fp) (w : World) (hf : FrL w w.heap.size f p) (hg : FrL w w.heap.size g q) (hnf : FrN f) (hng : FrN g) :
    Calls Try.prog 3 #[.agg (frV f p).toArray, .agg (frV g q).toArray] w fun e w' => e = .returned (.bool true) ∧ Below w.heap.size w w' := by
  by_cases hgr : GreatP f ∨ GreatP g
  · exact tells_great f g p q w hf hg hnf hng hgr
  have hgf : ¬ GreatP f := fun h => hgr (.inl h)
  have hgg : ¬ GreatP g := fun h => hgr (.inr h)
  have HAW := Lib.hid awake_any
  have HP : Hid (∀ u : World, Below w.heap.size w u → FrL u w.heap.size f p ∧ FrL u w.heap.size g q) := fun u hu => ⟨hf.below hu, hg.below hu⟩
  have HSF := Lib.hid (frV_size f p)
  have HSG := Lib.hid (frV_size g q)
  have HGF := Lib.hid (fun u hu => great_any f p w.heap.size u (HP.out u hu).1 hnf false (by simp [hgf]))
  have HGG := Lib.hid (fun u hu => great_any g q w.heap.size u (HP.out u hu).2 hng false (by simp [hgg]))
  obtain ⟨l, hl⟩ : ∃ l : List UInt8, (MayF f → l = putF f) ∧ (¬ MayF f → l = []) := by
    by_cases h : MayF f
    · exact ⟨putF f, fun _ => rfl, fun h2 => absurd h h2⟩
    · exact ⟨[], fun h2 => absurd h2 h, fun _ => rfl⟩
  obtain ⟨b, hb⟩ : ∃ b : Bool, b = true ↔ MayF f := bool_ex _
  obtain ⟨el, hel⟩ : ∃ b : Bool, decide (f.kind ≠ 0 ∧ f.kind ≠ 2 ∧ f.kind ≠ 28) = b := ⟨_, rfl⟩
  obtain ⟨sm, hsm⟩ : ∃ b : Bool, decide (f = g) = b := ⟨_, rfl⟩
  have HPUT := Lib.hid (fun u hu => fput_any f p w.heap.size u (Below.size hu) (HP.out u hu).1 hnf l hl)
  have HRPUT := Lib.hid (fun u hu => rfput_any f p w.heap.size u (Below.size hu) (HP.out u hu).1 hnf l hl)
  have HLEN := Lib.hid (fun u hu => flen_any f p w.heap.size u (Below.size hu) (HP.out u hu).1 hnf l hl)
  have HMAY := Lib.hid (fun u hu => may_any f p w.heap.size u (Below.size hu) (HP.out u hu).1 hnf b hb)
  have HRMAY := Lib.hid (fun u hu => rmay_any f p w.heap.size u (Below.size hu) (HP.out u hu).1 hnf b hb)
  have HELI := Lib.hid (fun u => elic_any f p u el hel)
  have HSAM := Lib.hid (fun u hu => fsame_any f g p q w.heap.size u (Below.size hu) (HP.out u hu).1 (HP.out u hu).2 sm hsm)
  have HRSAM := Lib.hid (fun u hu => rsam_any f g p q w.heap.size u (Below.size hu) (HP.out u hu).1 (HP.out u hu).2 sm hsm)
  have HSELF := Lib.hid (fun u hu => fsame_any f f p p w.heap.size u (Below.size hu) (HP.out u hu).1 (HP.out u hu).1 true (by simp))
  have HRX : Hid (∀ (u : World) (x : Fp), Below w.heap.size w u → FrL u u.heap.size f x → Calls Try.prog 20 #[.agg (frV f x).toArray, .agg (frV f p).toArray] u fun e w' => e = .returned (.bool true) ∧ Below u.heap.size u w') := fun u x hu hx => rsam_any f f x p u.heap.size u (Nat.le_refl _) hx ((HP.out u hu).1.more hu.size) true (by simp)
  have HGET : Hid (l ≠ [] → ∀ (A : Option Addr) (n c : Nat) (u : World), Sl u u.heap.size A n l → n ≤ c → c ≤ maxLen → Calls Try.prog 21 #[.slice A n c] u (GetsF u ((f, l.length), 0))) := fun hne A n c u h h1 h2 => by
    have hm : MayF f := by
      by_cases hm : MayF f
      · exact hm
      · exact absurd (hl.2 hm) hne
    have h3 := fget_any l A n c u.heap.size u h (Nat.le_refl _) h1 h2
    have h4 := getR_put f hm
    rw [← hl.1 hm] at h4
    rw [h4] at h3
    exact h3
  have hll : l.length ≤ 100000 := by
    by_cases hm : MayF f
    · rw [hl.1 hm]
      exact put_short f hm hgf
    · rw [hl.2 hm]; simp
  have HDL : Hid (f.data.length ≤ 300) := by unfold GreatP at hgf; show _ ≤ _; omega
  have HKEL : Hid ((f.kind = 0 → el = false) ∧ (f.kind = 2 → el = false) ∧ (f.kind = 28 → el = false) ∧ (f.kind ≠ 0 → f.kind ≠ 2 → f.kind ≠ 28 → el = true)) := by
    refine ⟨fun h => ?_, fun h => ?_, fun h => ?_, fun h1 h2 h3 => ?_⟩ <;> rw [← hel] <;> simp [*]
  have B0 : Hid (∀ o1 o2, Below w.heap.size w ((w.alloc o1).alloc o2)) := fun _ _ => ((Below.refl _ _).alloc (Nat.le_refl _) _).alloc (by simp) _
  obtain ⟨vs, hvs⟩ : ∃ vs, frV f p = vs := ⟨_, rfl⟩
  obtain ⟨us, hus⟩ : ∃ vs, frV g q = vs := ⟨_, rfl⟩
  have VK : Hid (∀ u, Rw u w.heap.size 26 vs → u.cell? ⟨w.heap.size, 0, none⟩ = some (.int .i64 f.kind)) := fun u hu => by rw [← hvs] at hu; exact hu.cell 0 _ rfl
  rw [hvs] at HSF HGF HPUT HRPUT HLEN HMAY HRMAY HELI HSAM HRSAM HSELF HRX ⊢
  rw [hus] at HSG HGG HSAM HRSAM ⊢
  have tb : (b == b) = true := by simp
  have te : (el == el) = true := by simp
  have ts : (sm == sm) = true := by simp
  clear hvs hus hf hg hgr hgf hgg hl hb hel hsm
  go_enter Try.func3, Try.ntmps3
  go_wp2_with ((with_reducible refine wpList_load_rw rfl 26 (.tmp 2) rfl w.heap.size ?hx 26 vs ?hB _ Try.underlying26 rfl HSF.out ?_); (case hx => with_unfolding_all rfl); (case hB => exact heap_allocs w [_, _] 0 _ rfl))
  (with_reducible refine (HGF.out _ ?hu).mono ?_)
  case hu => exact B0.out _ _
  rintro e1 w1 ⟨rfl, b1⟩
  have R1 : Hid (Rw w1 w.heap.size 26 vs) := (show Rw _ _ _ vs from heap_allocs w [_, _] 0 _ rfl).below b1
  have Q1 : Hid (Rw w1 (w.heap.size + 1) 26 us) := (show Rw _ _ _ us from heap_allocs w [_, _] 1 _ rfl).below b1
  have B1 : Hid (Below w.heap.size w w1) := (B0.out _ _).trans (b1.mono (by simp; omega))
  clear b1
  go_wp2_with ((with_reducible refine wpList_load_rwG 15 rfl 26 (.tmp 3) rfl ?hw (w.heap.size + 1) ?hx 26 us Q1.out _ Try.underlying26 rfl HSG.out ?_); (case hw => rfl); (case hx => with_unfolding_all rfl))
  (with_reducible refine (HGG.out w1 B1.out).mono ?_)
  rintro e2 w2 ⟨rfl, b2⟩
  have R2 := Lib.hid (R1.out.below b2)
  have Q2 := Lib.hid (Q1.out.below b2)
  have B2 := Lib.hid (B1.out.trans (b2.mono B1.out.size))
  clear b2
  go_wp2_with ((with_reducible refine wpList_load_rw rfl 26 (.tmp 2) rfl w.heap.size ?hx 26 vs ?hB _ Try.underlying26 rfl HSF.out ?_); (case hx => with_unfolding_all rfl); (case hB => exact R2.out))
  (with_reducible refine (HPUT.out w2 B2.out).mono ?_)
  rintro e3 w3 ⟨A5, n5, c5, rfl, o, b3⟩
  obtain rfl : n5 = l.length := o.len.symm
  have O3 := Lib.hid o
  clear o
  have R3 := Lib.hid (R2.out.below b3)
  have Q3 := Lib.hid (Q2.out.below b3)
  have B3 := Lib.hid (B2.out.trans (b3.mono B2.out.size))
  clear b3
  go_wp2_with ((with_reducible refine wpList_load_rw rfl 26 (.tmp 2) rfl w.heap.size ?hx 26 vs ?hB _ Try.underlying26 rfl HSF.out ?_); (case hx => with_unfolding_all rfl); (case hB => exact R3.out))
  (with_reducible refine (HRPUT.out w3 B3.out).mono ?_)
  rintro e4 w4 ⟨A6, n6, c6, rfl, o, b4⟩
  obtain rfl : n6 = l.length := o.len.symm
  have P4 := Lib.hid o
  clear o
  have R4 := Lib.hid (R3.out.below b4)
  have Q4 := Lib.hid (Q3.out.below b4)
  have O4 := Lib.hid (O3.out.below b4)
  have B4 := Lib.hid (B3.out.trans (b4.mono B3.out.size))
  clear b4
  have k0 := VK.out w4 R4.out
  go_upto_region 5 with fail
  go_cut [7] from 23 to 35 (fun v wx => v = .bool el ∧ wx = w4)
  · have hw : f.kind = 0 ∨ (f.kind ≠ 0 ∧ f.kind = 2) ∨ (f.kind ≠ 0 ∧ f.kind ≠ 2 ∧ f.kind = 28) ∨ (f.kind ≠ 0 ∧ f.kind ≠ 2 ∧ f.kind ≠ 28) := by omega
    generalize f.kind = k at hw k0 HKEL
    rcases hw with h0 | ⟨h0, h2⟩ | ⟨h0, h2, h28⟩ | ⟨h0, h2, h28⟩
    · have t0 : (k != 0) = false := by simp; omega
      have hel := HKEL.out.1 h0
      go_wp2_with fail
      go_meet
      exact ⟨by rw [hel], rfl⟩
    · have t0 : (k != 0) = true := by simp; omega
      have t2 : (k != 2) = false := by simp; omega
      have hel := HKEL.out.2.1 h2
      go_wp2_with fail
      go_meet
      exact ⟨by rw [hel], rfl⟩
    · have t0 : (k != 0) = true := by simp; omega
      have t2 : (k != 2) = true := by simp; omega
      have t28 : (k != 28) = false := by simp; omega
      have hel := HKEL.out.2.2.1 h28
      go_wp2_with fail
      go_meet
      exact ⟨by rw [hel], rfl⟩
    · have t0 : (k != 0) = true := by simp; omega
      have t2 : (k != 2) = true := by simp; omega
      have t28 : (k != 28) = true := by simp; omega
      have hel := HKEL.out.2.2.2 h0 h2 h28
      go_wp2_with fail
      go_meet
      exact ⟨by rw [hel], rfl⟩
  case rest =>
    obtain ⟨rfl, hwx⟩ := hcut
    replace hwx := hwx.symm
    subst hwx
    clear k0
    go_wp2_with fail
    refine wp_held (S := fun u => Rw u w.heap.size 26 vs ∧ Rw u (w.heap.size + 1) 26 us) (by kernel_rfl) ?_
    have b0 : Below w4.heap.size w4 w4.drew := (Below.refl _ _).drew
    have HB4 : Hid (∀ u, Below w4.heap.size w4 u → (Rw u w.heap.size 26 vs ∧ Rw u (w.heap.size + 1) 26 us) ∧ Below w.heap.size w u) := fun u hu => ⟨⟨R4.out.below hu, Q4.out.below hu⟩, B4.out.trans (hu.mono B4.out.size)⟩
    have hS := (HB4.out _ b0).1
    refine wpAnyH_pickG 0 (.agg vs.toArray) rfl (by kernel_rfl) (by kernel_rfl) (by kernel_rfl) (by rfl) (fun _ _ _ h => h) (fun u hu => exec_load_mid u 26 (.tmp 2) rfl w.heap.size 0 (by with_unfolding_all rfl) vs _ (range_row hu.1) Try.underlying26 rfl HSF.out) hS ?_
    go_simp
    refine wpAnyH_pickG 2 (.agg vs.toArray) rfl (by kernel_rfl) (by kernel_rfl) (by kernel_rfl) (by rfl) (fun _ _ _ h => h) (fun u hu => exec_load_mid u 26 (.tmp 2) rfl w.heap.size 0 (by with_unfolding_all rfl) vs _ (range_row hu.1) Try.underlying26 rfl HSF.out) hS ?_
    go_simp
    refine wpAnyH_oneG 1 (by kernel_rfl) rfl (by rfl) ?_
    go_wp2_with fail
    (with_reducible refine (HMAY.out _ (HB4.out _ b0).2).mono ?_)
    rintro e20 w20 ⟨rfl, bb⟩
    have b1 := b0.trans (bb.mono b0.size)
    clear bb hS
    have hS := (HB4.out _ b1).1
    refine ⟨hS, ?_⟩
    go_simp
    refine wpAnyH_oneG 3 (by kernel_rfl) rfl (by rfl) ?_
    go_wp2_with fail
    (with_reducible refine (HRMAY.out _ (HB4.out _ b1).2).mono ?_)
    rintro e21 w21 ⟨rfl, bb⟩
    have b2 := b1.trans (bb.mono b1.size)
    clear bb hS
    have hS := (HB4.out _ b2).1
    refine ⟨hS, ?_⟩
    go_simp
    refine wpAnyH_take (i := 4) (v := ?_) rfl (by kernel_rfl) (by kernel_rfl) (by kernel_rfl) (fun _ _ _ h => h) (Or.inl ⟨by rfl, ?_⟩) hS ?_
    rotate_left 1
    · intro u hu
      go_simp
      first | done | with_reducible rfl
    go_simp
    refine wpAnyH_take (i := 5) (v := ?_) rfl (by kernel_rfl) (by kernel_rfl) (by kernel_rfl) (fun _ _ _ h => h) (Or.inl ⟨by rfl, ?_⟩) hS ?_
    rotate_left 1
    · intro u hu
      go_simp
      first | done | with_reducible rfl
    go_simp
    refine wpAnyH_take (i := 6) (v := ?_) rfl (by kernel_rfl) (by kernel_rfl) (by kernel_rfl) (fun _ _ _ h => h) (Or.inl ⟨by rfl, ?_⟩) hS ?_
    rotate_left 1
    · intro u hu
      go_simp
      first | done | with_reducible rfl
    go_simp
    refine wpAnyH_take (i := 7) (v := ?_) rfl (by kernel_rfl) (by kernel_rfl) (by kernel_rfl) (fun _ _ _ h => h) (Or.inl ⟨by rfl, ?_⟩) hS ?_
    rotate_left 1
    · intro u hu
      go_simp
      first | done | with_reducible rfl
    go_simp
    have HSB : Hid (∀ u, Below w4.heap.size w4 u → Calls Try.prog 16 #[.slice A5 l.length c5, .slice A6 l.length c6] u fun e w' => e = .returned (.bool true) ∧ Below u.heap.size u w') := fun u hu => (same_yes l l rfl A5 A6 l.length l.length c5 c6 u.heap.size u.heap.size u ((O4.out.below hu).sl) ((P4.out.below hu).sl) (by simp only [maxLen]; omega)).mono fun _ _ => Quiet.below
    refine wpAnyH_oneG 8 (by kernel_rfl) rfl (by rfl) ?_
    go_wp2_with fail
    (with_reducible refine (HSB.out _ b2).mono ?_)
    rintro e22 w22 ⟨rfl, bb⟩
    have b3 := b2.trans (bb.mono b2.size)
    clear bb hS
    have hS := (HB4.out _ b3).1
    refine ⟨hS, ?_⟩
    go_simp
    refine wpAnyH_take (i := 9) (v := ?_) rfl (by kernel_rfl) (by kernel_rfl) (by kernel_rfl) (fun _ _ _ h => h) (Or.inl ⟨by rfl, ?_⟩) hS ?_
    rotate_left 1
    · intro u hu
      go_simp
      first | done | with_reducible rfl
    go_simp
    refine wpAnyH_take (i := 10) (v := ?_) rfl (by kernel_rfl) (by kernel_rfl) (by kernel_rfl) (fun _ _ _ h => h) (Or.inl ⟨by rfl, ?_⟩) hS ?_
    rotate_left 1
    · intro u hu
      go_simp
      first | done | with_reducible rfl
    go_simp
    refine wpAnyH_take (i := 11) (v := ?_) rfl (by kernel_rfl) (by kernel_rfl) (by kernel_rfl) (fun _ _ _ h => h) (Or.inl ⟨by rfl, ?_⟩) hS ?_
    rotate_left 1
    · intro u hu
      go_simp
      first | done | with_reducible rfl
    go_simp
    refine wpAnyH_pickG 12 (.agg vs.toArray) rfl (by kernel_rfl) (by kernel_rfl) (by kernel_rfl) (by rfl) (fun _ _ _ h => h) (fun u hu => exec_load_mid u 26 (.tmp 2) rfl w.heap.size 0 (by with_unfolding_all rfl) vs _ (range_row hu.1) Try.underlying26 rfl HSF.out) hS ?_
    go_simp
    refine wpAnyH_take (i := 14) (v := ?_) rfl (by kernel_rfl) (by kernel_rfl) (by kernel_rfl) (fun _ _ _ h => h) (Or.inl ⟨by rfl, ?_⟩) hS ?_
    rotate_left 1
    · intro u hu
      go_simp
      first | done | with_reducible rfl
    go_simp
    refine wpAnyH_take (i := 15) (v := ?_) rfl (by kernel_rfl) (by kernel_rfl) (by kernel_rfl) (fun _ _ _ h => h) (Or.inl ⟨by rfl, ?_⟩) hS ?_
    rotate_left 1
    · intro u hu
      go_simp
      first | done | with_reducible rfl
    go_simp
    refine wpAnyH_oneG 13 (by kernel_rfl) rfl (by rfl) ?_
    go_wp2_with fail
    (with_reducible refine (HLEN.out _ (HB4.out _ b3).2).mono ?_)
    rintro e23 w23 ⟨rfl, bb⟩
    have b4 := b3.trans (bb.mono b3.size)
    clear bb hS
    have hS := (HB4.out _ b4).1
    refine ⟨hS, ?_⟩
    go_simp
    refine wpAnyH_take (i := 16) (v := ?_) rfl (by kernel_rfl) (by kernel_rfl) (by kernel_rfl) (fun _ _ _ h => h) (Or.inl ⟨by rfl, ?_⟩) hS ?_
    rotate_left 1
    · intro u hu
      go_simp
      first | done | with_reducible rfl
    go_simp
    refine wpAnyH_take (i := 17) (v := ?_) rfl (by kernel_rfl) (by kernel_rfl) (by kernel_rfl) (fun _ _ _ h => h) (Or.inl ⟨by rfl, ?_⟩) hS ?_
    rotate_left 1
    · intro u hu
      go_simp
      first | done | with_reducible rfl
    go_simp
    refine wpAnyH_take (i := 18) (v := ?_) rfl (by kernel_rfl) (by kernel_rfl) (by kernel_rfl) (fun _ _ _ h => h) (Or.inl ⟨by rfl, ?_⟩) hS ?_
    rotate_left 1
    · intro u hu
      go_simp
      first | done | with_reducible rfl
    go_simp
    refine wpAnyH_pickG 19 (.agg vs.toArray) rfl (by kernel_rfl) (by kernel_rfl) (by kernel_rfl) (by rfl) (fun _ _ _ h => h) (fun u hu => exec_load_mid u 26 (.tmp 2) rfl w.heap.size 0 (by with_unfolding_all rfl) vs _ (range_row hu.1) Try.underlying26 rfl HSF.out) hS ?_
    go_simp
    refine wpAnyH_take (i := 21) (v := ?_) rfl (by kernel_rfl) (by kernel_rfl) (by kernel_rfl) (fun _ _ _ h => h) (Or.inl ⟨by rfl, ?_⟩) hS ?_
    rotate_left 1
    · intro u hu
      go_simp
      first | done | with_reducible rfl
    go_simp
    refine wpAnyH_oneG 20 (by kernel_rfl) rfl (by rfl) ?_
    go_wp2_with fail
    (with_reducible refine (HELI.out _).mono ?_)
    rintro e24 w24 ⟨rfl, bb⟩
    have b5 := b4.trans (bb.mono b4.size)
    clear bb hS
    have hS := (HB4.out _ b5).1
    refine ⟨hS, ?_⟩
    go_simp
    refine wpAnyH_take (i := 22) (v := ?_) rfl (by kernel_rfl) (by kernel_rfl) (by kernel_rfl) (fun _ _ _ h => h) (Or.inl ⟨by rfl, ?_⟩) hS ?_
    rotate_left 1
    · intro u hu
      go_simp
      first | done | with_reducible rfl
    go_simp
    refine wpAnyH_take (i := 23) (v := ?_) rfl (by kernel_rfl) (by kernel_rfl) (by kernel_rfl) (fun _ _ _ h => h) (Or.inl ⟨by rfl, ?_⟩) hS ?_
    rotate_left 1
    · intro u hu
      go_simp
      first | done | with_reducible rfl
    go_simp
    refine wpAnyH_take (i := 24) (v := ?_) rfl (by kernel_rfl) (by kernel_rfl) (by kernel_rfl) (fun _ _ _ h => h) (Or.inl ⟨by rfl, ?_⟩) hS ?_
    rotate_left 1
    · intro u hu
      go_simp
      first | done | with_reducible rfl
    go_simp
    refine wpAnyH_pickG 25 (.agg vs.toArray) rfl (by kernel_rfl) (by kernel_rfl) (by kernel_rfl) (by rfl) (fun _ _ _ h => h) (fun u hu => exec_load_mid u 26 (.tmp 2) rfl w.heap.size 0 (by with_unfolding_all rfl) vs _ (range_row hu.1) Try.underlying26 rfl HSF.out) hS ?_
    go_simp
    refine wpAnyH_pickG 26 (.agg us.toArray) rfl (by kernel_rfl) (by kernel_rfl) (by kernel_rfl) (by rfl) (fun _ _ _ h => h) (fun u hu => exec_load_mid u 26 (.tmp 3) rfl (w.heap.size + 1) 0 (by with_unfolding_all rfl) us _ (range_row hu.2) Try.underlying26 rfl HSG.out) hS ?_
    go_simp
    refine wpAnyH_pickG 28 (.agg vs.toArray) rfl (by kernel_rfl) (by kernel_rfl) (by kernel_rfl) (by rfl) (fun _ _ _ h => h) (fun u hu => exec_load_mid u 26 (.tmp 2) rfl w.heap.size 0 (by with_unfolding_all rfl) vs _ (range_row hu.1) Try.underlying26 rfl HSF.out) hS ?_
    go_simp
    refine wpAnyH_pickG 29 (.agg us.toArray) rfl (by kernel_rfl) (by kernel_rfl) (by kernel_rfl) (by rfl) (fun _ _ _ h => h) (fun u hu => exec_load_mid u 26 (.tmp 3) rfl (w.heap.size + 1) 0 (by with_unfolding_all rfl) us _ (range_row hu.2) Try.underlying26 rfl HSG.out) hS ?_
    go_simp
    refine wpAnyH_oneG 27 (by kernel_rfl) rfl (by rfl) ?_
    go_wp2_with fail
    (with_reducible refine (HSAM.out _ (HB4.out _ b5).2).mono ?_)
    rintro e25 w25 ⟨rfl, bb⟩
    have b6 := b5.trans (bb.mono b5.size)
    clear bb hS
    have hS := (HB4.out _ b6).1
    refine ⟨hS, ?_⟩
    go_simp
    refine wpAnyH_oneG 30 (by kernel_rfl) rfl (by rfl) ?_
    go_wp2_with fail
    (with_reducible refine (HRSAM.out _ (HB4.out _ b6).2).mono ?_)
    rintro e26 w26 ⟨rfl, bb⟩
    have b7 := b6.trans (bb.mono b6.size)
    clear bb hS
    have hS := (HB4.out _ b7).1
    refine ⟨hS, ?_⟩
    go_simp
    refine wpAnyH_take (i := 31) (v := ?_) rfl (by kernel_rfl) (by kernel_rfl) (by kernel_rfl) (fun _ _ _ h => h) (Or.inl ⟨by rfl, ?_⟩) hS ?_
    rotate_left 1
    · intro u hu
      go_simp
      first | done | with_reducible rfl
    go_simp
    refine wpAnyH_take (i := 32) (v := ?_) rfl (by kernel_rfl) (by kernel_rfl) (by kernel_rfl) (fun _ _ _ h => h) (Or.inl ⟨by rfl, ?_⟩) hS ?_
    rotate_left 1
    · intro u hu
      go_simp
      first | done | with_reducible rfl
    go_simp
    refine wpAnyH_take (i := 33) (v := ?_) rfl (by kernel_rfl) (by kernel_rfl) (by kernel_rfl) (fun _ _ _ h => h) (Or.inl ⟨by rfl, ?_⟩) hS ?_
    rotate_left 1
    · intro u hu
      go_simp
      first | done | with_reducible rfl
    go_simp
    refine wpAnyH_pickG 34 (.agg vs.toArray) rfl (by kernel_rfl) (by kernel_rfl) (by kernel_rfl) (by rfl) (fun _ _ _ h => h) (fun u hu => exec_load_mid u 26 (.tmp 2) rfl w.heap.size 0 (by with_unfolding_all rfl) vs _ (range_row hu.1) Try.underlying26 rfl HSF.out) hS ?_
    go_simp
    refine wpAnyH_pickG 35 (.agg vs.toArray) rfl (by kernel_rfl) (by kernel_rfl) (by kernel_rfl) (by rfl) (fun _ _ _ h => h) (fun u hu => exec_load_mid u 26 (.tmp 2) rfl w.heap.size 0 (by with_unfolding_all rfl) vs _ (range_row hu.1) Try.underlying26 rfl HSF.out) hS ?_
    go_simp
    refine wpAnyH_oneG 36 (by kernel_rfl) rfl (by rfl) ?_
    go_wp2_with fail
    (with_reducible refine (HSELF.out _ (HB4.out _ b7).2).mono ?_)
    rintro e27 w27 ⟨rfl, bb⟩
    have b8 := b7.trans (bb.mono b7.size)
    clear bb hS
    have hS := (HB4.out _ b8).1
    refine ⟨hS, ?_⟩
    go_simp
    refine wpAnyH_take (i := 37) (v := ?_) rfl (by kernel_rfl) (by kernel_rfl) (by kernel_rfl) (fun _ _ _ h => h) (Or.inl ⟨by rfl, ?_⟩) hS ?_
    rotate_left 1
    · intro u hu
      go_simp
      first | done | with_reducible rfl
    go_simp
    refine wpAnyH_take (i := 38) (v := ?_) rfl (by kernel_rfl) (by kernel_rfl) (by kernel_rfl) (fun _ _ _ h => h) (Or.inl ⟨by rfl, ?_⟩) hS ?_
    rotate_left 1
    · intro u hu
      go_simp
      first | done | with_reducible rfl
    go_simp
    refine wpAnyH_done (by kernel_rfl) ?_ _
    have R5 := Lib.hid hS.1
    have B5 := Lib.hid (HB4.out _ b8).2
    have O5 := Lib.hid (O4.out.below b8)
    have P5 := Lib.hid (P4.out.below b8)
    have HS45 : Hid (w4.heap.size ≤ w27.heap.size) := b8.size
    clear hS b0 b1 b2 b3 b4 b5 b6 b7 b8
    generalize w27 = w5 at *
    by_cases hne : l = []
    · have hl0 : l.length = 0 := by rw [hne]; rfl
      have t0 : ((l.length : Int) == 0) = true := by simp [hl0]
      go_wp2_with fail
      (with_reducible refine (HAW.out _).mono ?_)
      rintro e6 w6 ⟨rfl, b6⟩
      go_wp2_with fail
      go_ret
      exact ⟨rfl, B5.out.trans (b6.mono B5.out.size)⟩
    · have hl0 : l.length ≠ 0 := fun h => hne (List.eq_nil_of_length_eq_zero h)
      have t0 : ((l.length : Int) == 0) = false := by simp; omega
      replace HGET := Lib.hid (HGET.out hne)
      clear hne
      go_wp2_with fail
      (with_reducible refine (HGET.out A5 l.length c5 w5 O5.out.sl O5.out.bnd.1 O5.out.bnd.2).mono ?_)
      rintro e6 w6 ⟨x, rfl, hfo, b6⟩
      simp only at hfo
      simp only
      have R6 := Lib.hid (R5.out.below b6)
      have O6 := Lib.hid (O5.out.below b6)
      have P6 := Lib.hid (P5.out.below b6)
      have B6 := Lib.hid (B5.out.trans (b6.mono B5.out.size))
      have F6 := Lib.hid hfo
      have HS56 : Hid (w5.heap.size ≤ w6.heap.size) := b6.size
      have HSX := Lib.hid (frV_size f x)
      have HONE := Lib.hid (frV_one f x)
      have HL0 : Hid (fr0.length = (frV f x).length) := rfl
      have HRX2 := Lib.hid (fun u hu => HRX.out u x hu)
      obtain ⟨xs, hxs⟩ : ∃ xs, frV f x = xs := ⟨_, rfl⟩
      have XK : Hid (∀ (u : World) (g : Nat), Rw u g 26 xs → u.cell? ⟨g, 7, none⟩ = some (.slice x.da x.dn x.dc)) := fun u g hu => by rw [← hxs] at hu; exact hu.cell 7 _ rfl
      rw [hxs] at HSX HONE HL0 HRX2 ⊢
      clear hfo b6 hxs
      go_wp2_with (first | ((with_reducible refine wpList_store_rw rfl 26 (.tmp 8) (.tmp 82) rfl w6.heap.size xs ?hx ?hy 26 fr0 ?hB HSX.out HL0.out HONE.out ?_); (case hx => with_unfolding_all rfl); (case hy => with_unfolding_all rfl); (case hB => exact heap_alloc_new w6 _); intro w7 X7 N7; have b7 : Below w6.heap.size w6 w7 := ((Below.refl _ _).alloc (Nat.le_refl _) _).trans (N7.out.below (by simp) (Nat.le_refl _)); have R7 := Lib.hid (R6.out.below b7); have O7 := Lib.hid (O6.out.below b7); have P7 := Lib.hid (P6.out.below b7); have B7 := Lib.hid (B6.out.trans (b7.mono B6.out.size)); have F7 := Lib.hid (F6.out.below b7); have HS67 : Hid (w6.heap.size ≤ w7.heap.size) := b7.size; clear b7) | ((with_reducible refine wpList_load_rwG 94 rfl 26 (.tmp 8) rfl ?hw w6.heap.size ?hx 26 xs X7.out _ Try.underlying26 rfl HSX.out ?_); (case hw => rfl); (case hx => with_unfolding_all rfl)) | ((with_reducible refine wpList_load_rwG 95 rfl 26 (.tmp 2) rfl ?hw w.heap.size ?hx 26 vs R7.out _ Try.underlying26 rfl HSF.out ?_); (case hw => rfl); (case hx => with_unfolding_all rfl)))
      (with_reducible refine (HRX2.out w7 B7.out F7.out.l).mono ?_)
      rintro e8 w8 ⟨rfl, b8⟩
      have R8 := Lib.hid (R7.out.below b8)
      have X8 := Lib.hid (X7.out.below b8)
      have O8 := Lib.hid (O7.out.below b8)
      have P8 := Lib.hid (P7.out.below b8)
      have B8 := Lib.hid (B7.out.trans (b8.mono B7.out.size))
      have F8 := Lib.hid (F7.out.below b8)
      have HS78 : Hid (w7.heap.size ≤ w8.heap.size) := b8.size
      have cx := XK.out w8 w6.heap.size X8.out
      clear b8
      go_wp2_with fail
      (with_reducible refine (over_some f.data x.da x.dn x.dc w5.heap.size w8 F8.out.d ?hz ?hn).mono ?_)
      case hz => exact Nat.le_trans HS56.out (Nat.le_trans HS67.out HS78.out)
      case hn => have := F8.out.d.len; have := HDL.out; omega
      rintro e9 w9 ⟨rfl, gx, _, hgx, N9⟩
      have R9 := Lib.hid (R8.out.only N9 (by have := R5.out.lt; omega))
      have O9 : Hid (Own w9 w2.heap.size (.slice A5 l.length c5) l.length l) := O8.out.onlyA N9 fun a ha => by have := (O5.out.blk a ha).2; omega
      have P9 : Hid (Own w9 w3.heap.size (.slice A6 l.length c6) l.length l) := P8.out.onlyA N9 fun a ha => by have := (P5.out.blk a ha).2; omega
      have B9 := Lib.hid (B8.out.trans (N9.below B8.out.size (Nat.le_trans B5.out.size hgx)))
      clear N9 hgx cx
      go_wp2_with fail
      (with_reducible refine (over_some l A5 l.length c5 w2.heap.size w9 O9.out ?hz ?hn).mono ?_)
      case hz => exact Nat.le_trans (O9.out.blk _ (O9.out.at_ (by omega)).choose_spec.1).1 (Nat.le_of_lt (O9.out.blk _ (O9.out.at_ (by omega)).choose_spec.1).2)
      case hn => omega
      rintro e10 w10 ⟨rfl, gb, hgb, hgb2, N10⟩
      have hg3 : gb < w3.heap.size := by
        rcases hgb with ⟨h1, _⟩ | ⟨a, ha, rfl⟩
        · obtain ⟨g5, h5, _⟩ := O3.out.at_ (by omega)
          rw [h1] at h5; cases h5
        · exact (O3.out.blk a ha).2
      have R10 := Lib.hid (R9.out.only N10 (by have := R2.out.lt; omega))
      have P10 := Lib.hid (P9.out.onlyA N10 fun a ha => by have := (P9.out.blk a ha).1; omega)
      have B10 := Lib.hid (B9.out.trans (N10.below B9.out.size (Nat.le_trans B2.out.size hgb2)))
      clear N10 hgb hgb2 hg3
      go_wp2_with ((with_reducible refine wpList_load_rwG 105 rfl 26 (.tmp 2) rfl ?hw w.heap.size ?hx 26 vs R10.out _ Try.underlying26 rfl HSF.out ?_); (case hw => rfl); (case hx => with_unfolding_all rfl))
      (with_reducible refine (HPUT.out w10 B10.out).mono ?_)
      rintro e11 w11 ⟨A11, n11, c11, rfl, o11, b11⟩
      obtain rfl : n11 = l.length := o11.len.symm
      have P11 := Lib.hid (P10.out.below b11)
      have O11 := Lib.hid o11
      have B11 := Lib.hid (B10.out.trans (b11.mono B10.out.size))
      clear o11 b11
      go_wp2_with fail
      (with_reducible refine ((same_yes l l rfl A11 A6 l.length l.length c11 c6 w11.heap.size w11.heap.size w11 O11.out.sl P11.out.sl (by simp only [maxLen]; omega)).mono fun _ _ => Quiet.below).mono ?_)
      rintro e12 w12 ⟨rfl, b12⟩
      have B12 := Lib.hid (B11.out.trans (b12.mono B11.out.size))
      clear b12
      go_wp2_with fail
      (with_reducible refine (HAW.out _).mono ?_)
      rintro e13 w13 ⟨rfl, b13⟩
      go_wp2_with fail
      go_ret
      exact ⟨by first | rfl | simp, B12.out.trans (b13.mono B12.out.size)⟩
end Go.Proofs.Ytegoabbpjdcjeaa
