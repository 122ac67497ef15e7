/-
  The walk through GcmParts.
-/
import Derived.Test.YtjnclcehnpkncaaGcmL
import Derived.Test.YtjnclcehnpkncaaWGcmStreams
import Derived.Test.YtjnclcehnpkncaaAppW
namespace Go.Proofs.Ytjnclcehnpkncaa
open Go.RowKit
set_option linter.unusedVariables false

theorem parts_long (key nonce : List UInt8) (A1 A2 : Option Addr) (n1 c1 n2 c2 : Nat) (m : UInt8) (w : World) (h : 60 < n1 ∨ 60 < n2) :
    Calls Try.prog 8 #[.agg (bvs key).toArray, .agg (bvs nonce).toArray, .slice A1 n1 c1, .slice A2 n2 c2, .int .u8 (bn m)] w fun e w' => e = .returned (.bool true) ∧ Below w.heap.size w w' := by
  by_cases h1 : 60 < n1
  · have t1 : decide ((60 : Int) < (n1 : Int)) = true := by simp; omega
    clear h
    go_enter Try.func8, Try.ntmps8
    go_wp2_with (go_at_call 9; (with_reducible refine (awake_any _).mono ?_); rintro e1 w1 ⟨rfl, b1⟩)
    go_ret
    exact ⟨rfl, (((Below.refl _ _).alloc (Nat.le_refl _) _).alloc (by simp) _).trans (b1.mono (by simp; omega))⟩
  · have t1 : decide ((60 : Int) < (n1 : Int)) = false := by simp; omega
    have t2 : decide ((60 : Int) < (n2 : Int)) = true := by simp; omega
    clear h
    go_enter Try.func8, Try.ntmps8
    go_wp2_with (go_at_call 9; (with_reducible refine (awake_any _).mono ?_); rintro e1 w1 ⟨rfl, b1⟩)
    go_ret
    exact ⟨rfl, (((Below.refl _ _).alloc (Nat.le_refl _) _).alloc (by simp) _).trans (b1.mono (by simp; omega))⟩
/-- what is opened of bytes: not, or as much less -/
theorem open_less (key nonce s data : List UInt8) : ((openG key nonce s data 3 7).2 = 3 ∨ (openG key nonce s data 3 7).2 = 7) ∨ ((openG key nonce s data 3 7).2 = 0 ∧ 16 ≤ s.length ∧ (openG key nonce s data 3 7).1.length = s.length - 16) := by
  unfold openG
  by_cases h : s.length < 16
  · rw [if_pos h]; exact .inl (.inl rfl)
  · rw [if_neg h]
    split
    · exact .inr ⟨rfl, by omega, by rw [turnG_length, List.length_take]; omega⟩
    · exact .inl (.inr rfl)
theorem open_short (key nonce s data : List UInt8) (h : s.length < 16) : openG key nonce s data 3 7 = ([], 3) := by
  unfold openG
  rw [if_pos h]

set_option maxRecDepth 8000 in
set_option maxHeartbeats 4000000 in
theorem parts_walk (key nonce text data : List UInt8) (hk : key.length = 16) (hno : nonce.length = 12) (A1 A2 : Option Addr) (n1 c1 n2 c2 : Nat) (more : UInt8) (w : World) (hs1 : Sl w w.heap.size A1 n1 text) (hs2 : Sl w w.heap.size A2 n2 data) (hnc1 : n1 ≤ c1) (hcm1 : c1 ≤ maxLen) (hnc2 : n2 ≤ c2) (hcm2 : c2 ≤ maxLen) (hn1 : n1 ≤ 60) (hn2 : n2 ≤ 60) :
    Calls Try.prog 8 #[.agg (bvs key).toArray, .agg (bvs nonce).toArray, .slice A1 n1 c1, .slice A2 n2 c2, .int .u8 (bn more)] w fun e w' => e = .returned (.bool true) ∧ Below w.heap.size w w' := by
  have Hk := Lib.hid hk
  have Hno := Lib.hid hno
  have HN1 : Hid (n1 ≤ c1 ∧ c1 ≤ maxLen) := ⟨hnc1, hcm1⟩
  have HN2 : Hid (n2 ≤ c2 ∧ c2 ≤ maxLen) := ⟨hnc2, hcm2⟩
  have HL1 := Lib.hid hs1.1
  have HP : Hid (∀ u : World, Below w.heap.size w u → Sl u w.heap.size A1 n1 text ∧ Sl u w.heap.size A2 n2 data) := fun u hu => ⟨hs1.below hu, hs2.below hu⟩
  obtain ⟨X, hX⟩ : ∃ x, sealG key nonce text data = x := ⟨_, rfl⟩
  have HX := Lib.hid hX
  have HXL : Hid (X.length = n1 + 16) := show _ = _ by rw [← hX, sealG_length _ _ _ _ hk hno, hs1.1]
  have HO : Hid (openG key nonce X data 3 7 = (text, 0)) := show _ = _ by rw [← hX]; exact open_seal _ _ _ _ _ _ hk hno
  obtain ⟨⟨l7, e7⟩, hr7⟩ : ∃ r, openG key nonce (X.take n1) [] 3 7 = r := ⟨_, rfl⟩
  have HR7 := Lib.hid hr7
  have HE7 : Hid ((e7 = 3 ∨ e7 = 7) ∨ (e7 = 0 ∧ 16 ≤ n1 ∧ l7.length = n1 - 16)) := by
    have h := open_less key nonce (X.take n1) []
    have hl : (X.take n1).length = n1 := by rw [List.length_take, HXL.out]; omega
    rw [hr7, hl] at h
    exact h
  have t1 : decide ((60 : Int) < (n1 : Int)) = false := by simp; omega
  have t2 : decide ((60 : Int) < (n2 : Int)) = false := by simp; omega
  clear hk hno hs1 hs2 hnc1 hcm1 hnc2 hcm2 hX hr7
  go_enter Try.func8, Try.ntmps8
  go_upto_region 3 with fail
  refine wp_forget (fun w1 => Blk w1 w.heap.size 22 key ∧ Blk w1 (w.heap.size + 1) 23 nonce ∧ Below w.heap.size w w1) ⟨heap_allocs w [_, _] 0 _ rfl, heap_allocs w [_, _] 1 _ rfl, ((Below.refl _ _).alloc (Nat.le_refl _) _).alloc (by simp) _⟩ ?_
  intro wr ⟨h1, h2, h3⟩
  have K := Lib.hid h1
  have N := Lib.hid h2
  have BW := Lib.hid h3
  clear h1 h2 h3
  refine wp_held (S := fun u => Below wr.drew.heap.size wr.drew u) (by kernel_rfl) ?_
  replace K := Lib.hid K.out.drew
  replace N := Lib.hid N.out.drew
  replace BW := Lib.hid BW.out.drew
  obtain ⟨w0, hw0⟩ : ∃ x, wr.drew = x := ⟨_, rfl⟩
  rw [hw0] at K N BW ⊢
  clear hw0
  have b0 : Below w0.heap.size w0 w0 := Below.refl _ _
  refine wpAnyH_pickG 0 (.agg (bvs key).toArray) rfl (by kernel_rfl) (by kernel_rfl) (by kernel_rfl) (by rfl) (fun _ _ _ h => h) (fun u hu => exec_load_blk u 22 (.tmp 5) rfl w.heap.size (by with_unfolding_all rfl) 22 key (K.out.below hu) 16 5 Try.underlying22 16 sizeRow Hk.out) b0 ?_
  go_simp
  refine wpAnyH_pickG 1 (.agg (bvs nonce).toArray) rfl (by kernel_rfl) (by kernel_rfl) (by kernel_rfl) (by rfl) (fun _ _ _ h => h) (fun u hu => exec_load_blk u 23 (.tmp 6) rfl (w.heap.size + 1) (by with_unfolding_all rfl) 23 nonce (N.out.below hu) 12 5 Try.underlying23 12 size12 Hno.out) b0 ?_
  go_simp
  refine wpAnyH_take (i := 2) (v := ?_) rfl (by kernel_rfl) (by kernel_rfl) (by kernel_rfl) (fun _ _ _ h => h) (Or.inl ⟨by rfl, ?_⟩) b0 ?_
  rotate_left 1
  · intro u hu
    go_simp
    first | done | with_reducible rfl
  go_simp
  refine wpAnyH_take (i := 4) (v := ?_) rfl (by kernel_rfl) (by kernel_rfl) (by kernel_rfl) (fun _ _ _ h => h) (Or.inl ⟨by rfl, ?_⟩) b0 ?_
  rotate_left 1
  · intro u hu
    go_simp
    first | done | with_reducible rfl
  go_simp
  refine wpAnyH_oneG 3 (by kernel_rfl) rfl (by rfl) ?_
  refine wp_append_copy (.const (.slice none 0 0)) (.tmp 29) rfl rfl w.heap.size (A1) (n1) (c1) (text) (by with_unfolding_all rfl) ((HP.out _ BW.out).1) (by omega) ?_
  intro Ap cp w1 Op Lp d1
  have b1 := b0.trans (d1.out.mono b0.size)
  refine ⟨b1, ?_⟩
  go_simp
  refine wpAnyH_oneG 5 (by kernel_rfl) rfl (by rfl) ?_
  refine wp_append_copy (.const (.slice none 0 0)) (.tmp 31) rfl rfl w.heap.size (A2) (n2) (c2) (data) (by with_unfolding_all rfl) ((HP.out _ (BW.out.trans (b1.mono BW.out.size))).2) (by omega) ?_
  intro Aq cq w2 Oq Lq d2
  have b2 := b1.trans (d2.out.mono b1.size)
  refine ⟨b2, ?_⟩
  go_simp
  refine wpAnyH_oneG 6 (by kernel_rfl) rfl (by rfl) ?_
  go_wp2_with fail
  (with_reducible refine (seal_any key nonce text data Hk.out Hno.out Ap Aq n1 cp n2 cq w2.heap.size _ (Op.out.below d2.out).sl Oq.out.sl (Nat.le_refl _) Lp.out.1 Lp.out.2 (by omega) Lq.out.1 Lq.out.2 (by omega)).mono ?_)
  rintro e3 w3 ⟨Ax, cx, rfl, o3, lx, mx, d3⟩
  rw [HX.out] at o3
  have b3 := b2.trans (d3.mono b2.size)
  refine ⟨b3, ?_⟩
  have B3 := Lib.hid (BW.out.trans (b3.mono BW.out.size))
  have OX := Lib.hid (o3.base (Nat.le_trans BW.out.size b2.size))
  have LX : Hid (n1 + 16 ≤ cx ∧ cx ≤ maxLen) := ⟨lx, mx⟩
  replace K := Lib.hid (K.out.below b3)
  replace N := Lib.hid (N.out.below b3)
  go_simp
  refine wpAnyH_take (i := 7) (v := ?_) rfl (by kernel_rfl) (by kernel_rfl) (by kernel_rfl) (fun _ _ _ h => h) (Or.inl ⟨by rfl, ?_⟩) b3 ?_
  rotate_left 1
  · intro u hu
    go_simp
    first | done | with_reducible rfl
  go_simp
  refine wpAnyH_done (by kernel_rfl) ?_ _
  clear o3 lx mx d1 d2 d3 b0 b1 b2 b3 Op Oq Lp Lq BW
  obtain ⟨gx, ex, _, _⟩ := OX.out.at_ (by omega)
  subst ex
  have t3 : (((n1 + 16 : Nat) : Int) != (n1 : Int) + 16) = false := by simp
  go_wp2_with fail
  have BW := B3
  clear B3
  obtain ⟨wr, hwr⟩ : ∃ x, w3 = x := ⟨_, rfl⟩
  rw [hwr] at BW OX K N ⊢
  refine wp_held (S := fun u => Below wr.drew.heap.size wr.drew u) (by kernel_rfl) ?_
  replace K := Lib.hid K.out.drew
  replace N := Lib.hid N.out.drew
  replace BW := Lib.hid BW.out.drew
  replace OX := Lib.hid OX.out.drew
  obtain ⟨w6, hw6⟩ : ∃ x, wr.drew = x := ⟨_, rfl⟩
  rw [hw6] at K N BW OX ⊢
  clear hw6
  have b0 : Below w6.heap.size w6 w6 := Below.refl _ _
  refine wpAnyH_pickG 0 (.agg (bvs key).toArray) rfl (by kernel_rfl) (by kernel_rfl) (by kernel_rfl) (by rfl) (fun _ _ _ h => h) (fun u hu => exec_load_blk u 22 (.tmp 5) rfl w.heap.size (by with_unfolding_all rfl) 22 key (K.out.below hu) 16 5 Try.underlying22 16 sizeRow Hk.out) b0 ?_
  go_simp
  refine wpAnyH_pickG 1 (.agg (bvs nonce).toArray) rfl (by kernel_rfl) (by kernel_rfl) (by kernel_rfl) (by rfl) (fun _ _ _ h => h) (fun u hu => exec_load_blk u 23 (.tmp 6) rfl (w.heap.size + 1) (by with_unfolding_all rfl) 23 nonce (N.out.below hu) 12 5 Try.underlying23 12 size12 Hno.out) b0 ?_
  go_simp
  refine wpAnyH_take (i := 2) (v := ?_) rfl (by kernel_rfl) (by kernel_rfl) (by kernel_rfl) (fun _ _ _ h => h) (Or.inl ⟨by rfl, ?_⟩) b0 ?_
  rotate_left 1
  · intro u hu
    go_simp
    first | done | with_reducible rfl
  go_simp
  refine wpAnyH_take (i := 4) (v := ?_) rfl (by kernel_rfl) (by kernel_rfl) (by kernel_rfl) (fun _ _ _ h => h) (Or.inl ⟨by rfl, ?_⟩) b0 ?_
  rotate_left 1
  · intro u hu
    go_simp
    first | done | with_reducible rfl
  go_simp
  refine wpAnyH_oneG 3 (by kernel_rfl) rfl (by rfl) ?_
  refine wp_append_copy (.const (.slice none 0 0)) (.tmp 43) rfl rfl w6.heap.size (some ⟨gx, 0, none⟩) (n1 + 16) (cx) (X) (by with_unfolding_all rfl) (OX.out.sl) (by omega) ?_
  intro Ap cp w1 Op Lp d1
  have b1 := b0.trans (d1.out.mono b0.size)
  refine ⟨b1, ?_⟩
  go_simp
  refine wpAnyH_oneG 5 (by kernel_rfl) rfl (by rfl) ?_
  refine wp_append_copy (.const (.slice none 0 0)) (.tmp 45) rfl rfl w.heap.size (A2) (n2) (c2) (data) (by with_unfolding_all rfl) ((HP.out _ (BW.out.trans (b1.mono BW.out.size))).2) (by omega) ?_
  intro Aq cq w2 Oq Lq d2
  have b2 := b1.trans (d2.out.mono b1.size)
  refine ⟨b2, ?_⟩
  go_simp
  refine wpAnyH_oneG 6 (by kernel_rfl) rfl (by rfl) ?_
  go_wp2_with fail
  (with_reducible refine (open_any key nonce X data Hk.out Hno.out Ap Aq (n1 + 16) cp n2 cq w2.heap.size _ (Op.out.below d2.out).sl Oq.out.sl (Nat.le_refl _) Lp.out.1 Lp.out.2 (by omega) Lq.out.1 Lq.out.2 (by omega)).mono ?_)
  rw [HO.out]
  rintro e3 w7 ⟨Ab, nb, cb, rfl, o3, lb, mb, d3⟩
  have b3 := b2.trans (d3.mono b2.size)
  refine ⟨b3, ?_⟩
  have B7 := Lib.hid (BW.out.trans (b3.mono BW.out.size))
  have OB := Lib.hid (o3.base (Nat.le_trans BW.out.size b2.size))
  have LB : Hid (nb ≤ cb ∧ cb ≤ maxLen) := ⟨lb, mb⟩
  replace K := Lib.hid (K.out.below b3)
  replace N := Lib.hid (N.out.below b3)
  replace OX := Lib.hid (OX.out.below b3)
  obtain rfl : nb = n1 := by have h1 : text.length = nb := OB.out.len; have h2 := HL1.out; omega
  go_simp
  refine wpAnyH_take (i := 7) (v := ?_) rfl (by kernel_rfl) (by kernel_rfl) (by kernel_rfl) (fun _ _ _ h => h) (Or.inl ⟨by rfl, ?_⟩) b3 ?_
  rotate_left 1
  · intro u hu
    go_simp
    first | done | with_reducible rfl
  go_simp
  refine wpAnyH_take (i := 8) (v := ?_) rfl (by kernel_rfl) (by kernel_rfl) (by kernel_rfl) (fun _ _ _ h => h) (Or.inl ⟨by rfl, ?_⟩) b3 ?_
  rotate_left 1
  · intro u hu
    go_simp
    first | done | with_reducible rfl
  go_simp
  refine wpAnyH_take (i := 9) (v := ?_) rfl (by kernel_rfl) (by kernel_rfl) (by kernel_rfl) (fun _ _ _ h => h) (Or.inl ⟨by rfl, ?_⟩) b3 ?_
  rotate_left 1
  · intro u hu
    go_simp
    first | done | with_reducible rfl
  go_simp
  refine wpAnyH_take (i := 10) (v := ?_) rfl (by kernel_rfl) (by kernel_rfl) (by kernel_rfl) (fun _ _ _ h => h) (Or.inl ⟨by rfl, ?_⟩) b3 ?_
  rotate_left 1
  · intro u hu
    go_simp
    first | done | with_reducible rfl
  go_simp
  refine wpAnyH_take (i := 11) (v := ?_) rfl (by kernel_rfl) (by kernel_rfl) (by kernel_rfl) (fun _ _ _ h => h) (Or.inl ⟨by rfl, ?_⟩) b3 ?_
  rotate_left 1
  · intro u hu
    go_simp
    first | done | with_reducible rfl
  go_simp
  refine wpAnyH_done (by kernel_rfl) ?_ _
  clear o3 lb mb d1 d2 d3 b0 b1 b2 b3 Op Oq Lp Lq BW
  have BW := B7
  clear B7
  have hcx := fun u : World => cut_own u gx (nb + 16) cx nb (by have := LX.out.1; omega) (by have := LX.out.1; omega)
  go_wp2_with fail
  refine wp_held (S := fun u => Below w7.drew.heap.size w7.drew u) (by kernel_rfl) ?_
  replace K := Lib.hid K.out.drew
  replace N := Lib.hid N.out.drew
  replace BW := Lib.hid BW.out.drew
  replace OX := Lib.hid OX.out.drew
  replace OB := Lib.hid OB.out.drew
  obtain ⟨w8, hw8⟩ : ∃ x, w7.drew = x := ⟨_, rfl⟩
  rw [hw8] at K N BW OX OB ⊢
  clear hw8
  have b0 : Below w8.heap.size w8 w8 := Below.refl _ _
  refine wpAnyH_pickG 0 (.agg (bvs key).toArray) rfl (by kernel_rfl) (by kernel_rfl) (by kernel_rfl) (by rfl) (fun _ _ _ h => h) (fun u hu => exec_load_blk u 22 (.tmp 5) rfl w.heap.size (by with_unfolding_all rfl) 22 key (K.out.below hu) 16 5 Try.underlying22 16 sizeRow Hk.out) b0 ?_
  go_simp
  refine wpAnyH_pickG 1 (.agg (bvs nonce).toArray) rfl (by kernel_rfl) (by kernel_rfl) (by kernel_rfl) (by rfl) (fun _ _ _ h => h) (fun u hu => exec_load_blk u 23 (.tmp 6) rfl (w.heap.size + 1) (by with_unfolding_all rfl) 23 nonce (N.out.below hu) 12 5 Try.underlying23 12 size12 Hno.out) b0 ?_
  go_simp
  refine wpAnyH_take (i := 2) (v := ?_) rfl (by kernel_rfl) (by kernel_rfl) (by kernel_rfl) (fun _ _ _ h => h) (Or.inl ⟨by rfl, ?_⟩) b0 ?_
  rotate_left 1
  · intro u hu
    go_simp
    first | done | with_reducible rfl
  go_simp
  refine wpAnyH_take (i := 3) (v := ?_) rfl (by kernel_rfl) (by kernel_rfl) (by kernel_rfl) (fun _ _ _ h => h) (Or.inl ⟨by rfl, ?_⟩) b0 ?_
  rotate_left 1
  · intro u hu
    go_simp
    first | done | with_reducible rfl
  go_simp
  refine wpAnyH_take (i := 4) (v := ?_) rfl (by kernel_rfl) (by kernel_rfl) (by kernel_rfl) (fun _ _ _ h => h) (Or.inl ⟨by rfl, ?_⟩) b0 ?_
  rotate_left 1
  · intro u hu
    go_simp
    first | done | with_reducible rfl
  go_simp
  refine wpAnyH_take (i := 5) (v := ?_) rfl (by kernel_rfl) (by kernel_rfl) (by kernel_rfl) (fun _ _ _ h => h) (Or.inl ⟨by rfl, ?_⟩) b0 ?_
  rotate_left 1
  · intro u hu
    go_simp
    first | done | with_reducible rfl
  go_simp
  refine wpAnyH_oneG 6 (by kernel_rfl) rfl (by rfl) ?_
  refine wp_append_copy (.const (.slice none 0 0)) (.tmp 56) rfl rfl w8.heap.size (some ⟨gx, 0, none⟩) (nb) (cx) (X.take nb) (by with_unfolding_all rfl) (OX.out.sl.take (by omega)) (by omega) ?_
  intro Ap cp w1 Op Lp d1
  have b1 := b0.trans (d1.out.mono b0.size)
  refine ⟨b1, ?_⟩
  go_simp
  refine wpAnyH_oneG 7 (by kernel_rfl) rfl (by rfl) ?_
  go_wp2_with fail
  (with_reducible refine (open_any key nonce (X.take nb) [] Hk.out Hno.out Ap none nb cp 0 0 w1.heap.size _ Op.out.sl Sl.nil (Nat.le_refl _) Lp.out.1 Lp.out.2 (by omega) (Nat.le_refl _) (by simp [maxLen]) (by omega)).mono ?_)
  rw [HR7.out]
  rintro e3 w9 ⟨Al, nl, cl, rfl, o3, ll, ml, d3⟩
  have b3 := b1.trans (d3.mono b1.size)
  refine ⟨b3, ?_⟩
  have B9 := Lib.hid (BW.out.trans (b3.mono BW.out.size))
  have hnl : Hid (nl = l7.length) := o3.len.symm
  replace K := Lib.hid (K.out.below b3)
  replace N := Lib.hid (N.out.below b3)
  replace OX := Lib.hid (OX.out.below b3)
  replace OB := Lib.hid (OB.out.below b3)
  go_simp
  refine wpAnyH_take (i := 8) (v := ?_) rfl (by kernel_rfl) (by kernel_rfl) (by kernel_rfl) (fun _ _ _ h => h) (Or.inl ⟨by rfl, ?_⟩) b3 ?_
  rotate_left 1
  · intro u hu
    go_simp
    first | done | with_reducible rfl
  go_simp
  refine wpAnyH_take (i := 9) (v := ?_) rfl (by kernel_rfl) (by kernel_rfl) (by kernel_rfl) (fun _ _ _ h => h) (Or.inl ⟨by rfl, ?_⟩) b3 ?_
  rotate_left 1
  · intro u hu
    go_simp
    first | done | with_reducible rfl
  go_simp
  refine wpAnyH_take (i := 10) (v := ?_) rfl (by kernel_rfl) (by kernel_rfl) (by kernel_rfl) (fun _ _ _ h => h) (Or.inl ⟨by rfl, ?_⟩) b3 ?_
  rotate_left 1
  · intro u hu
    go_simp
    first | done | with_reducible rfl
  go_simp
  refine wpAnyH_take (i := 11) (v := ?_) rfl (by kernel_rfl) (by kernel_rfl) (by kernel_rfl) (fun _ _ _ h => h) (Or.inl ⟨by rfl, ?_⟩) b3 ?_
  rotate_left 1
  · intro u hu
    go_simp
    first | done | with_reducible rfl
  go_simp
  refine wpAnyH_take (i := 12) (v := ?_) rfl (by kernel_rfl) (by kernel_rfl) (by kernel_rfl) (fun _ _ _ h => h) (Or.inl ⟨by rfl, ?_⟩) b3 ?_
  rotate_left 1
  · intro u hu
    go_simp
    first | done | with_reducible rfl
  go_simp
  refine wpAnyH_done (by kernel_rfl) ?_ _
  clear o3 ll ml d1 d3 b0 b1 b3 Op Lp BW hcx
  have BW := B9
  clear B9
  have hmin : min (15 : Int) ((nb : Int) + 16) = 15 := by omega
  go_upto_region 8 with fail
  obtain ⟨wr', hwr'⟩ : ∃ x, w9 = x := ⟨_, rfl⟩
  rw [hwr'] at BW OX OB K N ⊢
  go_cut [16, 17] from 18 to 101 (fun v16 v17 wx => v17 = .int .i64 3 ∧ Hid (Below wr'.heap.size wr' wx))
  case first =>
    have HU : Hid (∀ u, Below wr'.drew.heap.size wr'.drew u → Below wr'.heap.size wr' u) := fun u hu => ⟨hu.os, hu.tape, hu.output, hu.size, hu.block⟩
    refine wp_held (S := fun u => Below wr'.drew.heap.size wr'.drew u) (by kernel_rfl) ?_
    replace K := Lib.hid K.out.drew
    replace N := Lib.hid N.out.drew
    replace BW := Lib.hid BW.out.drew
    replace OX := Lib.hid OX.out.drew
    obtain ⟨wa, hwa⟩ : ∃ x, wr'.drew = x := ⟨_, rfl⟩
    rw [hwa] at K N BW OX HU ⊢
    clear hwa
    have b0 : Below wa.heap.size wa wa := Below.refl _ _
    refine wpAnyH_pickG 0 (.agg (bvs key).toArray) rfl (by kernel_rfl) (by kernel_rfl) (by kernel_rfl) (by rfl) (fun _ _ _ h => h) (fun u hu => exec_load_blk u 22 (.tmp 5) rfl w.heap.size (by with_unfolding_all rfl) 22 key (K.out.below hu) 16 5 Try.underlying22 16 sizeRow Hk.out) b0 ?_
    go_simp
    refine wpAnyH_pickG 1 (.agg (bvs nonce).toArray) rfl (by kernel_rfl) (by kernel_rfl) (by kernel_rfl) (by rfl) (fun _ _ _ h => h) (fun u hu => exec_load_blk u 23 (.tmp 6) rfl (w.heap.size + 1) (by with_unfolding_all rfl) 23 nonce (N.out.below hu) 12 5 Try.underlying23 12 size12 Hno.out) b0 ?_
    go_simp
    refine wpAnyH_take (i := 2) (v := ?_) rfl (by kernel_rfl) (by kernel_rfl) (by kernel_rfl) (fun _ _ _ h => h) (Or.inl ⟨by rfl, ?_⟩) b0 ?_
    rotate_left 1
    · intro u hu
      go_simp
      first | done | with_reducible rfl
    go_simp
    refine wpAnyH_take (i := 4) (v := ?_) rfl (by kernel_rfl) (by kernel_rfl) (by kernel_rfl) (fun _ _ _ h => h) (Or.inl ⟨by rfl, ?_⟩) b0 ?_
    rotate_left 1
    · intro u hu
      go_simp
      first | done | with_reducible rfl
    go_simp
    refine wpAnyH_take (i := 7) (v := ?_) rfl (by kernel_rfl) (by kernel_rfl) (by kernel_rfl) (fun _ _ _ h => h) (Or.inl ⟨by rfl, ?_⟩) b0 ?_
    rotate_left 1
    · intro u hu
      go_simp
      first | done | with_reducible rfl
    go_simp
    refine wpAnyH_take (i := 8) (v := ?_) rfl (by kernel_rfl) (by kernel_rfl) (by kernel_rfl) (fun _ _ _ h => h) (Or.inl ⟨by rfl, ?_⟩) b0 ?_
    rotate_left 1
    · intro u hu
      go_simp
      first | done | with_reducible rfl
    go_simp
    refine wpAnyH_take (i := 9) (v := ?_) rfl (by kernel_rfl) (by kernel_rfl) (by kernel_rfl) (fun _ _ _ h => h) (Or.inl ⟨by rfl, ?_⟩) b0 ?_
    rotate_left 1
    · intro u hu
      go_simp
      first | done | with_reducible rfl
    go_simp
    refine wpAnyH_twoG 3 5 (by kernel_rfl) rfl (by rfl) rfl (by rfl) ?_ ?_
    · refine wp_append_copy (.const (.slice none 0 0)) (.tmp 64) rfl rfl wa.heap.size (some ⟨gx, 0, none⟩) (nb + 16) (cx) (X) (by with_unfolding_all rfl) ((OX.out.below b0).sl) (by omega) ?_
      intro Ap cp w1 Op Lp d1
      have b1 := b0.trans (d1.out.mono b0.size)
      refine ⟨b1, ?_⟩
      go_simp
      refine wpAnyH_oneG 5 (by kernel_rfl) rfl (by rfl) ?_
      refine wp_byte (.tmp 66) rfl more (by with_unfolding_all rfl) ?_
      intro gb w2 eb Sb d2
      have b2 := b1.trans (d2.out.mono b1.size)
      refine ⟨b2, ?_⟩
      have HGb : Hid (gb + 1 ≤ w2.heap.size) := show _ ≤ _ by obtain ⟨b', off', e, _, hc'⟩ := Sb.out.2 (by omega); injection e with e; injection e with e1 e2; subst e1; exact World.block_lt_of_cell? _ _ (hc' 0 (by simp))
      replace Op := Lib.hid (Op.out.below d2.out)
      go_simp
      refine wpAnyH_oneG 6 (by kernel_rfl) rfl (by rfl) ?_
      refine wp_append_bytes (.tmp 65) (.tmp 67) rfl wa.heap.size (.slice Ap (nb + 16) cp) (nb + 16) X (by with_unfolding_all rfl) (Op.out.base (by have := b1.size; omega)) (gb + 1) (some ⟨gb, 0, none⟩) 1 1 [more] (by with_unfolding_all rfl) Sb.out (by omega) b2.size ?_
      intro Ar cr w3 Ov Lr d3
      have b3 := b2.trans d3.out
      refine ⟨b3, ?_⟩
      obtain ⟨gr, er, _, _⟩ := Ov.out.at_ (by omega)
      subst er
      have hcr : (15 : Int) ≤ (cr : Int) := by have := Lr.out.1; omega
      go_simp
      refine wpAnyH_take (i := 10) (v := ?_) rfl (by kernel_rfl) (by kernel_rfl) (by kernel_rfl) (fun _ _ _ h => h) (Or.inl ⟨by rfl, ?_⟩) b3 ?_
      rotate_left 1
      · intro u hu
        go_simp
        first | done | with_reducible rfl
      go_simp
      refine wpAnyH_oneG 11 (by kernel_rfl) rfl (by rfl) ?_
      go_wp2_with fail
      (with_reducible refine (open_any key nonce ((X ++ [more]).take 15) [] Hk.out Hno.out (some ⟨gr, 0, none⟩) none 15 cr 0 0 w3.heap.size _ (Ov.out.sl.take (by omega)) Sl.nil (Nat.le_refl _) (by have := Lr.out.1; omega) Lr.out.2 (by omega) (Nat.le_refl _) (by simp [maxLen]) (by omega)).mono ?_)
      rw [open_short _ _ _ _ (by rw [List.length_take]; omega)]
      rintro e3 w9' ⟨Al', nl', cl', rfl, o3, ll, ml, d9⟩
      have b9 := b3.trans (d9.mono b3.size)
      refine ⟨b9, ?_⟩
      go_simp
      refine wpAnyH_take (i := 12) (v := ?_) rfl (by kernel_rfl) (by kernel_rfl) (by kernel_rfl) (fun _ _ _ h => h) (Or.inl ⟨by rfl, ?_⟩) b9 ?_
      rotate_left 1
      · intro u hu
        go_simp
        first | done | with_reducible rfl
      go_simp
      refine wpAnyH_take (i := 13) (v := ?_) rfl (by kernel_rfl) (by kernel_rfl) (by kernel_rfl) (fun _ _ _ h => h) (Or.inl ⟨by rfl, ?_⟩) b9 ?_
      rotate_left 1
      · intro u hu
        go_simp
        first | done | with_reducible rfl
      go_simp
      refine wpAnyH_take (i := 14) (v := ?_) rfl (by kernel_rfl) (by kernel_rfl) (by kernel_rfl) (fun _ _ _ h => h) (Or.inl ⟨by rfl, ?_⟩) b9 ?_
      rotate_left 1
      · intro u hu
        go_simp
        first | done | with_reducible rfl
      go_simp
      refine wpAnyH_take (i := 15) (v := ?_) rfl (by kernel_rfl) (by kernel_rfl) (by kernel_rfl) (fun _ _ _ h => h) (Or.inl ⟨by rfl, ?_⟩) b9 ?_
      rotate_left 1
      · intro u hu
        go_simp
        first | done | with_reducible rfl
      go_simp
      refine wpAnyH_take (i := 16) (v := ?_) rfl (by kernel_rfl) (by kernel_rfl) (by kernel_rfl) (fun _ _ _ h => h) (Or.inl ⟨by rfl, ?_⟩) b9 ?_
      rotate_left 1
      · intro u hu
        go_simp
        first | done | with_reducible rfl
      go_simp
      refine wpAnyH_done (by kernel_rfl) ?_ _
      go_wp2_with fail
      go_meet
      exact ⟨rfl, HU.out _ b9⟩
    · refine wp_byte (.tmp 66) rfl more (by with_unfolding_all rfl) ?_
      intro gb w1 eb Sb d1
      have b1 := b0.trans (d1.out.mono b0.size)
      refine ⟨b1, ?_⟩
      have HGb : Hid (gb + 1 ≤ w1.heap.size) := show _ ≤ _ by obtain ⟨b', off', e, _, hc'⟩ := Sb.out.2 (by omega); injection e with e; injection e with e1 e2; subst e1; exact World.block_lt_of_cell? _ _ (hc' 0 (by simp))
      go_simp
      refine wpAnyH_oneG 3 (by kernel_rfl) rfl (by rfl) ?_
      refine wp_append_copy (.const (.slice none 0 0)) (.tmp 64) rfl rfl w1.heap.size (some ⟨gx, 0, none⟩) (nb + 16) (cx) (X) (by with_unfolding_all rfl) ((OX.out.below b1).sl) (by omega) ?_
      intro Ap cp w2 Op Lp d2
      have b2 := b1.trans (d2.out.mono b1.size)
      refine ⟨b2, ?_⟩
      replace Sb := Lib.hid (Sb.out.below (d2.out.mono HGb.out))
      go_simp
      refine wpAnyH_oneG 6 (by kernel_rfl) rfl (by rfl) ?_
      refine wp_append_bytes (.tmp 65) (.tmp 67) rfl wa.heap.size (.slice Ap (nb + 16) cp) (nb + 16) X (by with_unfolding_all rfl) (Op.out.base (by have := b1.size; omega)) (gb + 1) (some ⟨gb, 0, none⟩) 1 1 [more] (by with_unfolding_all rfl) Sb.out (by omega) b2.size ?_
      intro Ar cr w3 Ov Lr d3
      have b3 := b2.trans d3.out
      refine ⟨b3, ?_⟩
      obtain ⟨gr, er, _, _⟩ := Ov.out.at_ (by omega)
      subst er
      have hcr : (15 : Int) ≤ (cr : Int) := by have := Lr.out.1; omega
      go_simp
      refine wpAnyH_take (i := 10) (v := ?_) rfl (by kernel_rfl) (by kernel_rfl) (by kernel_rfl) (fun _ _ _ h => h) (Or.inl ⟨by rfl, ?_⟩) b3 ?_
      rotate_left 1
      · intro u hu
        go_simp
        first | done | with_reducible rfl
      go_simp
      refine wpAnyH_oneG 11 (by kernel_rfl) rfl (by rfl) ?_
      go_wp2_with fail
      (with_reducible refine (open_any key nonce ((X ++ [more]).take 15) [] Hk.out Hno.out (some ⟨gr, 0, none⟩) none 15 cr 0 0 w3.heap.size _ (Ov.out.sl.take (by omega)) Sl.nil (Nat.le_refl _) (by have := Lr.out.1; omega) Lr.out.2 (by omega) (Nat.le_refl _) (by simp [maxLen]) (by omega)).mono ?_)
      rw [open_short _ _ _ _ (by rw [List.length_take]; omega)]
      rintro e3 w9' ⟨Al', nl', cl', rfl, o3, ll, ml, d9⟩
      have b9 := b3.trans (d9.mono b3.size)
      refine ⟨b9, ?_⟩
      go_simp
      refine wpAnyH_take (i := 12) (v := ?_) rfl (by kernel_rfl) (by kernel_rfl) (by kernel_rfl) (fun _ _ _ h => h) (Or.inl ⟨by rfl, ?_⟩) b9 ?_
      rotate_left 1
      · intro u hu
        go_simp
        first | done | with_reducible rfl
      go_simp
      refine wpAnyH_take (i := 13) (v := ?_) rfl (by kernel_rfl) (by kernel_rfl) (by kernel_rfl) (fun _ _ _ h => h) (Or.inl ⟨by rfl, ?_⟩) b9 ?_
      rotate_left 1
      · intro u hu
        go_simp
        first | done | with_reducible rfl
      go_simp
      refine wpAnyH_take (i := 14) (v := ?_) rfl (by kernel_rfl) (by kernel_rfl) (by kernel_rfl) (fun _ _ _ h => h) (Or.inl ⟨by rfl, ?_⟩) b9 ?_
      rotate_left 1
      · intro u hu
        go_simp
        first | done | with_reducible rfl
      go_simp
      refine wpAnyH_take (i := 15) (v := ?_) rfl (by kernel_rfl) (by kernel_rfl) (by kernel_rfl) (fun _ _ _ h => h) (Or.inl ⟨by rfl, ?_⟩) b9 ?_
      rotate_left 1
      · intro u hu
        go_simp
        first | done | with_reducible rfl
      go_simp
      refine wpAnyH_take (i := 16) (v := ?_) rfl (by kernel_rfl) (by kernel_rfl) (by kernel_rfl) (fun _ _ _ h => h) (Or.inl ⟨by rfl, ?_⟩) b9 ?_
      rotate_left 1
      · intro u hu
        go_simp
        first | done | with_reducible rfl
      go_simp
      refine wpAnyH_done (by kernel_rfl) ?_ _
      go_wp2_with fail
      go_meet
      exact ⟨rfl, HU.out _ b9⟩
  case rest =>
    obtain ⟨rfl, HBc⟩ := hcut
    replace OB := Lib.hid (OB.out.below HBc.out)
    have BC := Lib.hid (BW.out.trans (HBc.out.mono BW.out.size))
    clear K N OX BW HBc hmin
    have HSM : Hid (∀ u : World, u = wc → Calls Try.prog 11 #[.slice Ab nb cb, .slice A1 nb c1] u (Quiet (.bool true) u)) := fun u hu => by
      subst hu
      exact same_yes text text rfl _ _ nb nb cb c1 _ _ _ OB.out.sl (HP.out _ BC.out).1 (by simp [maxLen]; omega)
    rcases HE7.out with he7 | ⟨rfl, hn16, hl7⟩
    · have t5 : (e7 != 0) = true := by rcases he7 with rfl | rfl <;> rfl
      have HE := Lib.hid he7
      clear he7
      go_wp2_with (first
        | (go_at_call 11; (with_reducible refine (HSM.out _ rfl).mono ?_); rintro e5 w5 ⟨rfl, k5, rfl⟩)
        | (go_at_call 9; (with_reducible refine (awake_any _).mono ?_); rintro e6 w6' ⟨rfl, b6⟩))
      go_ret
      exact ⟨rfl, (below_drewN BC.out k5).trans (b6.mono BC.out.size)⟩
    · have t6 : ((nl : Int) == (nb : Int) - 16) = true := by have := hnl.out; simp; omega
      have vw : IntKind.i64.wrap ((nb : Int) - 16) = (nb : Int) - 16 := IntWalk.i64_in _ (by omega)
      have HE := Lib.hid hl7
      clear hl7
      go_wp2_with (first
        | (go_at_call 11; (with_reducible refine (HSM.out _ rfl).mono ?_); rintro e5 w5 ⟨rfl, k5, rfl⟩)
        | (go_at_call 9; (with_reducible refine (awake_any _).mono ?_); rintro e6 w6' ⟨rfl, b6⟩))
      go_ret
      exact ⟨rfl, (below_drewN BC.out k5).trans (b6.mono BC.out.size)⟩
theorem parts_all (key nonce a b : List UInt8) (hk : key.length = 16) (hno : nonce.length = 12) (A1 A2 : Option Addr) (n1 c1 n2 c2 : Nat) (m : UInt8) (w : World) (hs1 : Sl w w.heap.size A1 n1 a) (hs2 : Sl w w.heap.size A2 n2 b) (hnc1 : n1 ≤ c1) (hcm1 : c1 ≤ maxLen) (hnc2 : n2 ≤ c2) (hcm2 : c2 ≤ maxLen) :
    Calls Try.prog 8 #[.agg (bvs key).toArray, .agg (bvs nonce).toArray, .slice A1 n1 c1, .slice A2 n2 c2, .int .u8 (bn m)] w fun e w' => e = .returned (.bool true) ∧ Below w.heap.size w w' := by
  by_cases h : 60 < n1 ∨ 60 < n2
  · exact parts_long key nonce A1 A2 n1 c1 n2 c2 m w h
  · exact parts_walk key nonce a b hk hno A1 A2 n1 c1 n2 c2 m w hs1 hs2 hnc1 hcm1 hnc2 hcm2 (by omega) (by omega)
end Go.Proofs.Ytjnclcehnpkncaa
