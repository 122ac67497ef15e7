/-
  The document's own Open.
-/
import Derived.Test.YtjnclcehnpkncaaGcmX
import Derived.Test.YtjnclcehnpkncaaConv
namespace Go.Proofs.Ytjnclcehnpkncaa
open Go.RowKit
set_option linter.unusedVariables false

set_option maxRecDepth 4000 in
set_option maxHeartbeats 4000000 in
theorem ropen_any (key nonce sld data : List UInt8) (hk : key.length = 16) (hno : nonce.length = 12) (A1 A2 : Option Addr) (n1 c1 n2 c2 B : Nat) (w : World) (hs1 : Sl w B A1 n1 sld) (hs2 : Sl w B A2 n2 data) (hB : B ≤ w.heap.size) (hnc1 : n1 ≤ c1) (hcm1 : c1 ≤ maxLen) (hn1 : n1 ≤ 1000000) (hnc2 : n2 ≤ c2) (hcm2 : c2 ≤ maxLen) (hn2 : n2 ≤ 1000000) :
    Calls Try.prog 14 #[.agg (bvs key).toArray, .agg (bvs nonce).toArray, .slice A1 n1 c1, .slice A2 n2 c2] w (Opens w (openG key nonce sld data 3 7)) := by
  by_cases hsh : n1 < 16
  · have e : openG key nonce sld data 3 7 = ([], 3) := by unfold openG; rw [if_pos (by rw [hs1.1]; exact hsh)]
    rw [e]
    have t1 : decide ((n1 : Int) - 16 < 0) = true := by simp; omega
    clear hs1 hs2 e
    go_enter Try.func14, Try.ntmps14
    go_wp2_with fail
    go_ret2
    exact ⟨none, 0, 0, rfl, Own.nil _ _, Nat.le_refl _, by simp [maxLen], ((Below.refl _ _).alloc (Nat.le_refl _) _).alloc (by simp) _⟩
  · obtain ⟨m, hm⟩ : ∃ m, n1 - 16 = m := ⟨_, rfl⟩
    have hmi : (n1 : Int) - 16 = (m : Int) := by omega
    have t1 : decide ((m : Int) < 0) = false := by simp
    obtain ⟨b, off, rfl, hbB, hcell⟩ := hs1.2 (by omega)
    obtain ⟨hid, hhid⟩ : ∃ x, sld.take m = x := ⟨_, rfl⟩
    obtain ⟨told, htold⟩ : ∃ x, sld.drop m = x := ⟨_, rfl⟩
    obtain ⟨tg, htg⟩ : ∃ x, tagG key nonce hid data = x := ⟨_, rfl⟩
    have hl1 := hs1.1
    have HTL : Hid (told.length = 16) := show _ = _ by rw [← htold, List.length_drop]; omega
    have HGL : Hid (tg.length = 16) := show _ = _ by rw [← htg]; exact tagG_length _ _ _ _ hk hno
    have hS1 : Sl w B (some ⟨b, off, none⟩) m hid := by rw [← hhid]; exact hs1.take (by omega)
    have hS3 : Sl w B (some ⟨b, off + m, none⟩) 16 told := by
      have h := hs1.drop (k := m) (c := c1) (by omega) hnc1
      rw [if_neg (by omega), htold] at h
      have e : n1 - m = 16 := by omega
      rw [e] at h
      simpa [addr_add] using h
    have HP : Hid (∀ u : World, Below w.heap.size w u → Sl u B (some ⟨b, off, none⟩) m hid ∧ Sl u B A2 n2 data ∧ Sl u B (some ⟨b, off + m, none⟩) 16 told) := fun u hu => ⟨hS1.below (hu.mono hB), hs2.below (hu.mono hB), hS3.below (hu.mono hB)⟩
    have HO : Hid (openG key nonce sld data 3 7 = if tg = told then (turnG key nonce hid, 0) else ([], 7)) := show _ = _ by
      unfold openG
      rw [if_neg (by omega), hl1, hm, hhid, htold, htg]
    obtain ⟨r, hr⟩ : ∃ r, openG key nonce sld data 3 7 = r := ⟨_, rfl⟩
    rw [hr] at HO ⊢
    have Hk := Lib.hid hk
    have Hno := Lib.hid hno
    have HB := Lib.hid hB
    have HN2 : Hid (n2 ≤ c2 ∧ c2 ≤ maxLen) := ⟨hnc2, hcm2⟩
    have HTG := Lib.hid htg
    have HCM := Lib.hid hcm1
    have cu1 : ∀ u : World, (Instr.slice 24 (.slice (some ⟨b, off, none⟩) n1 c1) none (some (.int .i64 (m : Int))) none).run Try.prog u = .ok (.slice (some ⟨b, off, none⟩) m c1) u := fun u => by
      rw [run_cut_to u _ n1 c1 m (by omega), if_neg (by omega)]
      simp [addr_add]
    have cu2 : ∀ u : World, (Instr.slice 24 (.slice (some ⟨b, off, none⟩) n1 c1) (some (.int .i64 (m : Int))) none none).run Try.prog u = .ok (.slice (some ⟨b, off + m, none⟩) 16 (c1 - m)) u := fun u => by
      rw [run_cut_bytes u _ n1 c1 m (by omega) (by omega), if_neg (by omega), show n1 - m = 16 by omega]
      simp [addr_add]
    have HM : Hid (m ≤ c1 ∧ m ≤ 1000000) := ⟨by omega, by omega⟩
    clear hs1 hs2 hk hno hcell hcm2 hnc2 hcm1 htold hhid htg hl1 hS1 hS3 hm hB hr
    go_enter Try.func14, Try.ntmps14
    go_upto_region 4 with fail
    refine wp_forget (fun w1 => Blk w1 w.heap.size 22 key ∧ Blk w1 (w.heap.size + 1) 23 nonce ∧ Below w.heap.size w w1) ⟨heap_allocs w [_, _] 0 _ rfl, heap_allocs w [_, _] 1 _ rfl, ((Below.refl _ _).alloc (Nat.le_refl _) _).alloc (by simp) _⟩ ?_
    intro w1 ⟨h1, h2, h3⟩
    have K1 := Lib.hid h1
    have N1 := Lib.hid h2
    have B1 := Lib.hid h3
    clear h1 h2 h3
    go_wp2_with (first
      | ((with_reducible refine wpList_load_blk rfl 22 (.tmp 4) rfl w.heap.size ?hx 22 key ?hg 16 5 Try.underlying22 16 sizeRow Hk.out ?_); (case hx => with_unfolding_all rfl); (case hg => with_reducible exact K1.out))
      | (go_at_call 24; (with_reducible refine (new_any key Hk.out _).mono ?_); rintro e2 wr ⟨gc, rfl, hgc2, c2', hb2⟩;
          have N := Lib.hid (N1.out.below hb2); have BW := Lib.hid (B1.out.trans (hb2.mono B1.out.size)); have C := Lib.hid c2'; clear c2' hb2))
    go_simp
    go_cut [12] from 13 to 39 (fun v wx => ∃ gA : Nat, v = .pointer (some ⟨gA, 0, none⟩) ∧ Hid (wr.heap.size ≤ gA) ∧ Hid (Blk wx gA 22 tg) ∧ Hid (Below wr.heap.size wr wx))
    case first =>
      have HU : Hid (∀ u, Below wr.drew.heap.size wr.drew u → Below wr.heap.size wr u) := fun u hu => ⟨hu.os, hu.tape, hu.output, hu.size, hu.block⟩
      have HZ : Hid (wr.drew.heap.size = wr.heap.size) := rfl
      refine wp_held (S := fun u => Below wr.drew.heap.size wr.drew u) (by kernel_rfl) ?_
      replace N := Lib.hid N.out.drew
      replace BW := Lib.hid BW.out.drew
      replace C := Lib.hid C.out.drew
      obtain ⟨w0, hw0⟩ : ∃ x, wr.drew = x := ⟨_, rfl⟩
      rw [hw0] at N BW C HU HZ ⊢
      clear hw0
      have b0 : Below w0.heap.size w0 w0 := Below.refl _ _
      refine wpAnyH_take (i := 0) (v := ?_) rfl (by kernel_rfl) (by kernel_rfl) (by kernel_rfl) (fun _ _ _ h => h) (Or.inl ⟨by rfl, ?_⟩) b0 ?_
      rotate_left 1
      · intro u hu
        go_simp
        first | done | with_reducible rfl
      go_simp
      refine wpAnyH_pickG 1 (.agg (bvs nonce).toArray) rfl (by kernel_rfl) (by kernel_rfl) (by kernel_rfl) (by rfl) (fun _ _ _ h => h) (fun u hu => exec_load_blk u 23 (.tmp 5) rfl (w.heap.size + 1) (by with_unfolding_all rfl) 23 nonce (N.out.below hu) 12 5 Try.underlying23 12 size12 Hno.out) b0 ?_
      go_simp
      refine wpAnyH_take (i := 2) (v := ?_) rfl (by kernel_rfl) (by kernel_rfl) (by kernel_rfl) (fun _ _ _ h => h) (Or.inl ⟨by rfl, ?_⟩) b0 ?_
      rotate_left 1
      · intro u hu
        go_simp
        first | done | with_reducible rfl
      go_simp
      refine wpAnyH_take (i := 3) (v := ?_) rfl (by kernel_rfl) (by kernel_rfl) (by kernel_rfl) (fun _ _ _ h => h) (Or.inl ⟨by rfl, ?_⟩) b0 ?_
      rotate_left 1
      · intro u hu
        go_simp
        first | done | with_reducible rfl
      go_simp
      refine wpAnyH_take (i := 4) (v := ?_) rfl (by kernel_rfl) (by kernel_rfl) (by kernel_rfl) (fun _ _ _ h => h) (Or.inl ⟨by rfl, ?_⟩) b0 ?_
      rotate_left 1
      · intro u hu
        go_simp
        first | done | with_reducible rfl
      go_simp
      refine wpAnyH_take (i := 5) (v := ?_) rfl (by kernel_rfl) (by kernel_rfl) (by kernel_rfl) (fun _ _ _ h => h) (Or.inl ⟨by rfl, ?_⟩) b0 ?_
      rotate_left 1
      · intro u hu
        go_simp
        first | done | with_reducible rfl
      go_simp
      refine wpAnyH_twoG 6 7 (by kernel_rfl) rfl (by rfl) rfl (by rfl) ?_ ?_
      · go_wp2_with fail
        (with_reducible refine (rtag_any key nonce hid data Hk.out Hno.out gc _ A2 m c1 n2 c2 B _ (C.out.below b0) (HP.out _ (BW.out.trans (b0.mono BW.out.size))).1 (HP.out _ (BW.out.trans (b0.mono BW.out.size))).2.1 (Nat.le_trans HB.out (Nat.le_trans BW.out.size b0.size)) HM.out.1 HCM.out HM.out.2 HN2.out.1 HN2.out.2 hn2).mono ?_)
        rintro e1 w1 ⟨rfl, c1⟩
        have b1 := b0.trans (c1.mono b0.size)
        refine ⟨b1, ?_⟩
        clear c1
        rw [HTG.out]
        refine wpAnyH_oneG 7 (by kernel_rfl) rfl (by rfl) ?_
        refine wp_alloc_blk 22 rfl (List.replicate 16 0) zero16v ?_
        intro gA w2 eA Z2 c2
        have b2 := b1.trans (c2.out.mono b1.size)
        have HG : Hid (w0.heap.size ≤ gA) := show _ ≤ _ by rw [eA.out]; exact b1.size
        refine ⟨b2, ?_⟩
        clear c2 eA
        refine wpAnyH_oneG 8 (by kernel_rfl) rfl (by rfl) ?_
        refine wp_store_blk 22 (.tmp 12) (.tmp 26) rfl gA (tg) (by with_unfolding_all rfl) (by with_unfolding_all rfl) 22 (List.replicate 16 0) Z2.out 16 sizeRow HGL.out rfl ?_
        intro w3 M3 O3
        have b3 := b2.trans (O3.out.below b2.size HG.out)
        refine ⟨b3, ?_⟩
        refine wpAnyH_done (by kernel_rfl) ?_ _
        go_wp2_with fail
        go_meet
        exact ⟨gA, rfl, show _ ≤ _ by rw [← HZ.out]; exact HG.out, M3, HU.out _ b3⟩
      · refine wp_alloc_blk 22 rfl (List.replicate 16 0) zero16v ?_
        intro gA w1 eA Z1 c1
        have b1 := b0.trans (c1.out.mono b0.size)
        have HG : Hid (w0.heap.size ≤ gA) := show _ ≤ _ by rw [eA.out]; exact b0.size
        refine ⟨b1, ?_⟩
        clear c1 eA
        refine wpAnyH_oneG 6 (by kernel_rfl) rfl (by rfl) ?_
        go_wp2_with fail
        (with_reducible refine (rtag_any key nonce hid data Hk.out Hno.out gc _ A2 m c1 n2 c2 B _ (C.out.below b1) (HP.out _ (BW.out.trans (b1.mono BW.out.size))).1 (HP.out _ (BW.out.trans (b1.mono BW.out.size))).2.1 (Nat.le_trans HB.out (Nat.le_trans BW.out.size b1.size)) HM.out.1 HCM.out HM.out.2 HN2.out.1 HN2.out.2 hn2).mono ?_)
        rintro e2 w2 ⟨rfl, c2⟩
        have b2 := b1.trans (c2.mono b1.size)
        have Z2 := Lib.hid (Z1.out.below c2)
        refine ⟨b2, ?_⟩
        clear c2
        rw [HTG.out]
        refine wpAnyH_oneG 8 (by kernel_rfl) rfl (by rfl) ?_
        refine wp_store_blk 22 (.tmp 12) (.tmp 26) rfl gA (tg) (by with_unfolding_all rfl) (by with_unfolding_all rfl) 22 (List.replicate 16 0) Z2.out 16 sizeRow HGL.out rfl ?_
        intro w3 M3 O3
        have b3 := b2.trans (O3.out.below b2.size HG.out)
        refine ⟨b3, ?_⟩
        refine wpAnyH_done (by kernel_rfl) ?_ _
        go_wp2_with fail
        go_meet
        exact ⟨gA, rfl, show _ ≤ _ by rw [← HZ.out]; exact HG.out, M3, HU.out _ b3⟩
    case rest =>
      obtain ⟨g12, rfl, HG12, T2, HB2⟩ := hcut
      replace N := Lib.hid (N.out.below HB2.out)
      replace C := Lib.hid (C.out.below HB2.out)
      replace BW := Lib.hid (BW.out.trans (HB2.out.mono BW.out.size))
      have hwh := whole16 g12
      have HV1 : Hid (∀ k, (convert 24 9 (.slice (some ⟨g12, 0, none⟩) 16 16)).run Try.prog (wc.drewN k) = .ok (.string ⟨tg.toArray⟩) (wc.drewN k)) := fun k => conv_bytes tg _ 16 16 (wc.heap.size) _ (Sl.drewN (T2.out.sl _ 16 T2.out.lt HGL.out) k)
      have HV2 : Hid (∀ k, (convert 24 9 (.slice (some ⟨b, off + m, none⟩) 16 (c1 - m))).run Try.prog (wc.drewN k) = .ok (.string ⟨told.toArray⟩) (wc.drewN k)) := fun k => conv_bytes told _ 16 (c1 - m) B _ (Sl.drewN (HP.out _ BW.out).2.2 k)
      have v1 := HV1.out
      have v2 := HV2.out
      clear HG12 HB2
      by_cases hq : tg = told
      · have t2 : (tg == told) = true := by simp [hq]
        have hr : r = (turnG key nonce hid, 0) := by rw [HO.out, if_pos hq]
        subst hr
        clear hq
        go_wp2_with fail
        go_quiet (fail)
        clear v1 v2 HV1 HV2 hwh cu2
        go_wp2_with fail
        replace N : Hid (Blk (wc.drewN nq) (w.heap.size + 1) 23 nonce) := N.out
        replace C : Hid (Blk (wc.drewN nq) gc 65 (cipV key)) := C.out
        replace BW : Hid (Below w.heap.size w (wc.drewN nq)) := below_drewN BW.out nq
        obtain ⟨wd, hwd⟩ : ∃ x, wc.drewN nq = x := ⟨_, rfl⟩
        rw [hwd] at N C BW ⊢
        clear hwd
        refine wp_held (S := fun u => Below wd.drew.heap.size wd.drew u) (by kernel_rfl) ?_
        replace N := Lib.hid N.out.drew
        replace BW := Lib.hid BW.out.drew
        replace C := Lib.hid C.out.drew
        obtain ⟨we, hwe⟩ : ∃ x, wd.drew = x := ⟨_, rfl⟩
        rw [hwe] at N BW C ⊢
        clear hwe
        have b0 : Below we.heap.size we we := Below.refl _ _
        refine wpAnyH_take (i := 0) (v := ?_) rfl (by kernel_rfl) (by kernel_rfl) (by kernel_rfl) (fun _ _ _ h => h) (Or.inl ⟨by rfl, ?_⟩) b0 ?_
        rotate_left 1
        · intro u hu
          go_simp
          first | done | with_reducible rfl
        go_simp
        refine wpAnyH_pickG 1 (.agg (bvs nonce).toArray) rfl (by kernel_rfl) (by kernel_rfl) (by kernel_rfl) (by rfl) (fun _ _ _ h => h) (fun u hu => exec_load_blk u 23 (.tmp 5) rfl (w.heap.size + 1) (by with_unfolding_all rfl) 23 nonce (N.out.below hu) 12 5 Try.underlying23 12 size12 Hno.out) b0 ?_
        go_simp
        refine wpAnyH_take (i := 2) (v := ?_) rfl (by kernel_rfl) (by kernel_rfl) (by kernel_rfl) (fun _ _ _ h => h) (Or.inl ⟨by rfl, ?_⟩) b0 ?_
        rotate_left 1
        · intro u hu
          go_simp
          first | done | with_reducible rfl
        go_simp
        refine wpAnyH_take (i := 3) (v := ?_) rfl (by kernel_rfl) (by kernel_rfl) (by kernel_rfl) (fun _ _ _ h => h) (Or.inl ⟨by rfl, ?_⟩) b0 ?_
        rotate_left 1
        · intro u hu
          go_simp
          first | done | with_reducible rfl
        go_simp
        refine wpAnyH_take (i := 4) (v := ?_) rfl (by kernel_rfl) (by kernel_rfl) (by kernel_rfl) (fun _ _ _ h => h) (Or.inl ⟨by rfl, ?_⟩) b0 ?_
        rotate_left 1
        · intro u hu
          go_simp
          first | done | with_reducible rfl
        go_simp
        refine wpAnyH_oneG 5 (by kernel_rfl) rfl (by rfl) ?_
        go_wp2_with fail
        (with_reducible refine (rturn_any key nonce hid Hk.out Hno.out gc _ m c1 B _ C.out (HP.out _ BW.out).1 (Nat.le_trans HB.out BW.out.size) HM.out.2).mono ?_)
        rintro e6 w6 ⟨A', c', rfl, ho6, hle6, hc6, hb6⟩
        refine ⟨hb6, ?_⟩
        go_simp
        refine wpAnyH_take (i := 6) (v := ?_) rfl (by kernel_rfl) (by kernel_rfl) (by kernel_rfl) (fun _ _ _ h => h) (Or.inl ⟨by rfl, ?_⟩) hb6 ?_
        rotate_left 1
        · intro u hu
          go_simp
          first | done | with_reducible rfl
        go_simp
        refine wpAnyH_take (i := 7) (v := ?_) rfl (by kernel_rfl) (by kernel_rfl) (by kernel_rfl) (fun _ _ _ h => h) (Or.inl ⟨by rfl, ?_⟩) hb6 ?_
        rotate_left 1
        · intro u hu
          go_simp
          first | done | with_reducible rfl
        go_simp
        refine wpAnyH_done (by kernel_rfl) ?_ _
        go_wp2_with fail
        go_ret2
        exact ⟨A', m, c', rfl, ho6.base BW.out.size, hle6, hc6, BW.out.trans (hb6.mono BW.out.size)⟩
      · have t2 : (tg == told) = false := by simp [hq]
        have hr : r = ([], 7) := by rw [HO.out, if_neg hq]
        subst hr
        clear hq
        go_wp2_with fail
        go_quiet (fail)
        go_wp2_with fail
        go_ret2
        exact ⟨none, 0, 0, rfl, Own.nil _ _, Nat.le_refl _, by simp [maxLen], below_drewN BW.out nq⟩
end Go.Proofs.Ytjnclcehnpkncaa
