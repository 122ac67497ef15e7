/-
  The contract of tagOf.
-/
import Derived.Test.YtkeleehkjllgeaaGcmE
import Derived.Test.YtkeleehkjllgeaaGcmF
import Derived.Test.YtkeleehkjllgeaaThree
namespace Go.Proofs.Ytkeleehkjllgeaa
open Go.RowKit
set_option linter.unusedVariables false

/-- what stands in memory while a tag is made -/
structure TgW (w wr : World) (key nonce hk ln : List UInt8) (g9 g10 : Nat) : Prop where
  k : Blk wr w.heap.size 22 key
  n : Blk wr (w.heap.size + 1) 23 nonce
  r : Blk wr (w.heap.size + 1 + 1) 22 (List.replicate 16 0)
  h : Blk wr g9 22 hk
  l : Blk wr g10 22 ln
  b : Below w.heap.size w wr
theorem TgW.drew {w wr : World} {key nonce hk ln : List UInt8} {g9 g10 : Nat} (h : TgW w wr key nonce hk ln g9 g10) : TgW w wr.drew key nonce hk ln g9 g10 := ⟨h.k, h.n, h.r, h.h, h.l, h.b.drew⟩
theorem TgW.below {w wr wx : World} {key nonce hk ln : List UInt8} {g9 g10 : Nat} (h : TgW w wr key nonce hk ln g9 g10) (hb : Below wr.heap.size wr wx) : TgW w wx key nonce hk ln g9 g10 :=
  ⟨h.k.below hb, h.n.below hb, h.r.below hb, h.h.below hb, h.l.below hb, h.b.trans (hb.mono h.b.size)⟩
theorem cross_halves (x y : List UInt8) (hx : x.length = 16) (hy : y.length = 16) : pairB (hiQ x ^^^ hiQ y) (loQ x ^^^ loQ y) = crossV x y := by rw [pairB_xor, pair_halves x hx, pair_halves y hy]

theorem counted_one (nonce : List UInt8) (hn : nonce.length = 12) (w : World) :
    Calls Try.prog 33 #[.agg (bvs nonce).toArray, .int .u32 1] w fun e w' => e = .returned (.agg (bvs (cntV nonce 1)).toArray) ∧ Below w.heap.size w w' := counted_any nonce hn 1 (by omega) w
set_option maxHeartbeats 4000000 in
theorem tagOf_any (key nonce hid data : List UInt8) (hk : key.length = 16) (hno : nonce.length = 12) (A1 A2 : Option Addr) (n1 c1 n2 c2 B : Nat) (w : World) (hs1 : Sl w B A1 n1 hid) (hs2 : Sl w B A2 n2 data) (hB : B ≤ w.heap.size) (hnc1 : n1 ≤ c1) (hcm1 : c1 ≤ maxLen) (hn1 : n1 ≤ 1000000) (hnc2 : n2 ≤ c2) (hcm2 : c2 ≤ maxLen) (hn2 : n2 ≤ 1000000) :
    Calls Try.prog 23 #[.agg (bvs key).toArray, .agg (bvs nonce).toArray, .slice A1 n1 c1, .slice A2 n2 c2] w fun e w' => e = .returned (.agg (bvs (tagG key nonce hid data)).toArray) ∧ Below w.heap.size w w' := by
  have Hk := Lib.hid hk
  have Hno := Lib.hid hno
  have HS1 := Lib.hid hs1
  have HS2 := Lib.hid hs2
  have HB := Lib.hid hB
  have HN1 : Hid (n1 ≤ c1 ∧ c1 ≤ maxLen ∧ n1 ≤ 1000000) := ⟨hnc1, hcm1, hn1⟩
  have HN2 : Hid (n2 ≤ c2 ∧ c2 ≤ maxLen ∧ n2 ≤ 1000000) := ⟨hnc2, hcm2, hn2⟩
  obtain ⟨hv, hhv⟩ : ∃ x, blockV key zG = x := ⟨_, rfl⟩
  have HHV := Lib.hid hhv
  have HHL : Hid (hv.length = 16) := show _ = _ by rw [← hhv]; exact blockV_length _ _ hk zG_length
  obtain ⟨ln, hln⟩ : ∃ x, lensG n2 n1 = x := ⟨_, rfl⟩
  have HLN : Hid (pairB (lenQ n2) (lenQ n1) = ln) := show _ = _ by rw [← hln]; exact lens_pair n2 n1 (by omega) (by omega)
  have HLL : Hid (ln.length = 16) := show _ = _ by rw [← HLN.out]; exact pairB_length _ _
  obtain ⟨hs, hhs⟩ : ∃ x, hashG hv [data, hid, ln] = x := ⟨_, rfl⟩
  have HHS := Lib.hid hhs
  have HSL : Hid (hs.length = 16) := show _ = _ by rw [← hhs]; exact hashG_length _ _ HHL.out
  obtain ⟨mk, hmk⟩ : ∃ x, blockV key (cntV nonce 1) = x := ⟨_, rfl⟩
  have HMk := Lib.hid hmk
  have HML : Hid (mk.length = 16) := show _ = _ by rw [← hmk]; exact blockV_length _ _ hk (cntV_length _ _ hno)
  have HTG : tagG key nonce hid data = crossV hs mk := by
    unfold tagG
    rw [hs1.1, hs2.1, hhv, hln, hhs, hmk]
  rw [HTG]
  have HCL : Hid ((crossV hs mk).length = 16) := crossV_length _ _ HSL.out HML.out
  have HBZ : Hid (Try.prog.built 22 [] = some (bvs zG).toArray) := show _ = _ by kernel_rfl
  have HBP := Lib.hid (built_pair (lenQ n2) (lenQ n1))
  clear hk hno hs1 hs2 hB hnc1 hcm1 hnc2 hcm2 hhv hln hhs hmk HTG
  go_enter Try.func23, Try.ntmps23
  go_wp2_with (first
    | ((with_reducible refine wpList_load_blk rfl 22 (.tmp 4) rfl w.heap.size ?hx 22 key ?hg 16 5 Try.underlying22 16 sizeRow Hk.out ?_); (case hx => with_unfolding_all rfl); (case hg => exact heap_allocs w [_, _, _] 0 _ rfl))
    | ((with_reducible refine wpList_build_to 14 rfl rfl 22 _ rfl (bvs zG).toArray ?hf ?_); (case hf => exact HBZ.out))
    | (go_at_call 32; (refine (block_any key zG Hk.out zG_length _).mono ?_); rintro e1 w1 ⟨rfl, hb1⟩; rw [HHV.out];
        have K1 : Hid (Blk w1 w.heap.size 22 key) := Blk.below (heap_allocs w [_, _, _] 0 _ rfl) hb1;
        have N1 : Hid (Blk w1 (w.heap.size + 1) 23 nonce) := Blk.below (heap_allocs w [_, _, _] 1 _ rfl) hb1;
        have R1 : Hid (Blk w1 (w.heap.size + 1 + 1) 22 (List.replicate 16 0)) := Blk.below (heap_allocs w [_, _, _] 2 _ (by rw [← zeros_bvs]; rfl)) hb1;
        have B1 : Hid (Below w.heap.size w w1) := ((((Below.refl _ _).alloc (Nat.le_refl _) _).alloc (by simp) _).alloc (by simp; omega) _).trans (hb1.mono (by simp; omega));
        clear hb1)
    | ((with_reducible refine wpList_store_blk rfl 22 (.tmp 9) (.tmp 15) rfl w1.heap.size hv ?hx ?hy 22 (List.replicate 16 0) ?hg 16 sizeRow HHL.out ?ho ?_); (case hx => with_unfolding_all rfl); (case hy => with_unfolding_all rfl); (case hg => exact heap_alloc_new _ _); (case ho => rfl); intro w2 H2 O2)
    | (go_at_call 34; (first | (with_reducible refine (bitsOf_any A2 n2 c2 (by omega) _).mono ?_) | (with_reducible refine (bitsOf_any A1 n1 c1 (by omega) _).mono ?_)); rintro e3 w3 ⟨rfl, rfl⟩)
    | ((with_reducible refine wpList_build_to 20 rfl rfl 51 _ rfl (qvs [lenQ n2, lenQ n1]).toArray ?hf ?_); (case hf => exact HBP.out))
    | (go_at_call 30; (refine (pbytes_any (lenQ n2) (lenQ n1) _).mono ?_); rintro e3 w3 ⟨rfl, hb3⟩; rw [HLN.out])
    | ((with_reducible refine wpList_store_blk rfl 22 (.tmp 10) (.tmp 21) rfl w3.heap.size ln ?hx ?hy 22 (List.replicate 16 0) ?hg 16 sizeRow HLL.out ?ho ?_); (case hx => with_unfolding_all rfl); (case hy => with_unfolding_all rfl); (case hg => exact heap_alloc_new _ _); (case ho => rfl); intro w4 H4 O4))
  obtain ⟨g9, eg9⟩ : ∃ g, w1.heap.size = g := ⟨_, rfl⟩
  obtain ⟨g10, eg10⟩ : ∃ g, w3.heap.size = g := ⟨_, rfl⟩
  have HW : Hid (TgW w w4 key nonce hv ln g9 g10) := by
    have r9 := R1.out.lt
    have hb2 : Below w.heap.size w w2 := (B1.out.alloc B1.out.size _).trans (O2.out.below (by have := B1.out.size; simp; omega) (by omega))
    have hb3' := hb2.trans (hb3.mono hb2.size)
    have s3 := hb3.size
    have s2 := H2.out.lt
    rw [eg9] at H2 s2
    rw [eg10] at H4 O4
    have r10 : g9 < g10 := by omega
    refine ⟨?_, ?_, ?_, ?_, H4.out, (hb3'.alloc hb3'.size _).trans (O4.out.below (by have := hb3'.size; simp; omega) (by omega))⟩
    · exact (((((K1.out.alloc _).only O2.out (by omega))).below hb3).alloc _).only O4.out (by omega)
    · exact (((((N1.out.alloc _).only O2.out (by omega))).below hb3).alloc _).only O4.out (by omega)
    · exact (((((R1.out.alloc _).only O2.out (by omega))).below hb3).alloc _).only O4.out (by omega)
    · exact ((H2.out.below hb3).alloc _).only O4.out (by omega)
  rw [eg9, eg10]
  clear K1 N1 R1 B1 H2 O2 hb3 H4 O4 eg9 eg10
  have hwh := whole16 g10
  go_upto_region 3 with fail
  obtain ⟨wr, hwr⟩ : ∃ x, w4 = x := ⟨_, rfl⟩
  rw [hwr] at HW ⊢
  clear hwr
  go_simp
  go_cut [11] from 13 to 37 (fun v wx => ∃ gA : Nat, v = .pointer (some ⟨gA, 0, none⟩) ∧ Hid (wr.heap.size ≤ gA) ∧ Hid (Blk wx gA 22 hs) ∧ Hid (Below wr.heap.size wr wx))
  case first =>
    refine wp_held (S := fun u => Below wr.drew.heap.size wr.drew u) (by kernel_rfl) ?_
    have HW0 := Lib.hid HW.out.drew
    obtain ⟨w0, hw0⟩ : ∃ x, wr.drew = x := ⟨_, rfl⟩
    have HU : Hid (∀ u, Below w0.heap.size w0 u → Below wr.heap.size wr u) := fun u hu => by rw [← hw0] at hu; exact ⟨hu.os, hu.tape, hu.output, hu.size, hu.block⟩
    have HZ : Hid (w0.heap.size = wr.heap.size) := show _ = _ by rw [← hw0]; rfl
    rw [hw0] at HW0 ⊢
    clear hw0
    have b0 : Below w0.heap.size w0 w0 := Below.refl _ _
    refine wpAnyH_pickG 0 (.agg (bvs hv).toArray) rfl (by kernel_rfl) (by kernel_rfl) (by kernel_rfl) (by rfl) (fun _ _ _ h => h) (fun u hu => exec_load_blk u 22 (.tmp 9) rfl g9 (by with_unfolding_all rfl) 22 hv (HW0.out.h.below hu) 16 5 Try.underlying22 16 sizeRow HHL.out) b0 ?_
    go_simp
    refine wpAnyH_take (i := 1) (v := ?_) rfl (by kernel_rfl) (by kernel_rfl) (by kernel_rfl) (fun _ _ _ h => h) (Or.inl ⟨by rfl, ?_⟩) b0 ?_
    rotate_left 1
    · intro u hu
      go_simp
      first | done | with_reducible rfl
    go_simp
    refine wpAnyH_take (i := 2) (v := ?_) rfl (by kernel_rfl) (by kernel_rfl) (by kernel_rfl) (fun _ _ _ h => h) (Or.inl ⟨by rfl, ?_⟩) b0 ?_
    rotate_left 1
    · intro u hu
      go_simp
      first | done | with_reducible rfl
    go_simp
    refine wpAnyH_take (i := 3) (v := ?_) rfl (by kernel_rfl) (by kernel_rfl) (by kernel_rfl) (fun _ _ _ h => h) (Or.inl ⟨by rfl, ?_⟩) b0 ?_
    rotate_left 1
    · intro u hu
      go_simp
      first | done | with_reducible rfl
    go_simp
    refine wpAnyH_twoG 4 6 (by kernel_rfl) rfl (by rfl) rfl (by rfl) ?_ ?_
    · refine wp_three (.tmp 23) (.tmp 24) (.tmp 25) rfl ⟨A2, n2, c2, data⟩ ⟨A1, n1, c1, hid⟩ ⟨some ⟨g10, 0, none⟩, 16, 16, ln⟩ (by with_unfolding_all rfl) (by with_unfolding_all rfl) (by with_unfolding_all rfl) ?_
      intro gT w1 eT T1 c1
      have b1 := b0.trans (c1.out.mono b0.size)
      refine ⟨b1, ?_⟩
      clear c1 eT
      refine wpAnyH_twoG 5 6 (by kernel_rfl) rfl (by rfl) rfl (by rfl) ?_ ?_
      · go_wp2_with fail
        (with_reducible refine (hash_any hv HHL.out [⟨A2, n2, c2, data⟩, ⟨A1, n1, c1, hid⟩, ⟨some ⟨g10, 0, none⟩, 16, 16, ln⟩] _ 3 3 w1.heap.size _ ?hsl (Nat.le_refl _) (by unfold maxLen; omega) ?hle).mono ?_)
        case hsl =>
          have hb := HW0.out.b.trans (b1.mono HW0.out.b.size)
          have hB := HB.out
          have hz := hb.size
          refine slw_row T1.out ((Array.getElem?_eq_some_iff.1 T1.out).1) ?_ 3 rfl
          intro p hp
          simp only [List.mem_cons, List.not_mem_nil, or_false] at hp
          rcases hp with rfl | rfl | rfl
          · exact ⟨(HS2.out.below (hb.mono hB)).more (by omega), HN2.out.1, HN2.out.2.1⟩
          · exact ⟨(HS1.out.below (hb.mono hB)).more (by omega), HN1.out.1, HN1.out.2.1⟩
          · exact ⟨(HW0.out.l.below b1).sl _ 16 (HW0.out.l.below b1).lt HLL.out, Nat.le_refl _, by simp [maxLen]⟩
        case hle =>
          intro p hp
          have h1 := HN1.out.2.2
          have h2 := HN2.out.2.2
          simp only [List.mem_cons, List.not_mem_nil, or_false] at hp
          rcases hp with rfl | rfl | rfl <;> simp only <;> omega
        rintro e2 w2 ⟨rfl, c2⟩
        simp only [List.map_cons, List.map_nil]
        rw [HHS.out]
        have b2 := b1.trans (c2.mono b1.size)
        refine ⟨b2, ?_⟩
        clear c2
        refine wpAnyH_oneG 6 (by kernel_rfl) rfl (by rfl) ?_
        refine wp_alloc_blk 22 rfl (List.replicate 16 0) zero16v ?_
        intro gA w3 eA Z3 c3
        have b3 := b2.trans (c3.out.mono b2.size)
        have HG : Hid (w0.heap.size ≤ gA) := show _ ≤ _ by rw [eA.out]; exact b2.size
        refine ⟨b3, ?_⟩
        clear c3 eA
        refine wpAnyH_oneG 7 (by kernel_rfl) rfl (by rfl) ?_
        refine wp_store_blk 22 (.tmp 11) (.tmp 27) rfl gA (hs) (by with_unfolding_all rfl) (by with_unfolding_all rfl) 22 (List.replicate 16 0) Z3.out 16 sizeRow HSL.out rfl ?_
        intro w4 M4 O4
        have b4 := b3.trans (O4.out.below b3.size HG.out)
        refine ⟨b4, ?_⟩
        refine wpAnyH_done (by kernel_rfl) ?_ _
        go_wp2_with fail
        go_meet
        exact ⟨gA, rfl, show _ ≤ _ by rw [← HZ.out]; exact HG.out, M4, HU.out _ b4⟩
      · refine wp_alloc_blk 22 rfl (List.replicate 16 0) zero16v ?_
        intro gA w2 eA Z2 c2
        have T2 : Hid (w2.heap[gT]? = _) := (c2.out.block gT (Array.getElem?_eq_some_iff.1 T1.out).1).trans T1.out
        have b2 := b1.trans (c2.out.mono b1.size)
        have HG : Hid (w0.heap.size ≤ gA) := show _ ≤ _ by rw [eA.out]; exact b1.size
        refine ⟨b2, ?_⟩
        clear c2 eA
        refine wpAnyH_oneG 5 (by kernel_rfl) rfl (by rfl) ?_
        go_wp2_with fail
        (with_reducible refine (hash_any hv HHL.out [⟨A2, n2, c2, data⟩, ⟨A1, n1, c1, hid⟩, ⟨some ⟨g10, 0, none⟩, 16, 16, ln⟩] _ 3 3 w2.heap.size _ ?hsl (Nat.le_refl _) (by unfold maxLen; omega) ?hle).mono ?_)
        case hsl =>
          have hb := HW0.out.b.trans (b2.mono HW0.out.b.size)
          have hB := HB.out
          have hz := hb.size
          refine slw_row T2.out ((Array.getElem?_eq_some_iff.1 T2.out).1) ?_ 3 rfl
          intro p hp
          simp only [List.mem_cons, List.not_mem_nil, or_false] at hp
          rcases hp with rfl | rfl | rfl
          · exact ⟨(HS2.out.below (hb.mono hB)).more (by omega), HN2.out.1, HN2.out.2.1⟩
          · exact ⟨(HS1.out.below (hb.mono hB)).more (by omega), HN1.out.1, HN1.out.2.1⟩
          · exact ⟨(HW0.out.l.below b2).sl _ 16 (HW0.out.l.below b2).lt HLL.out, Nat.le_refl _, by simp [maxLen]⟩
        case hle =>
          intro p hp
          have h1 := HN1.out.2.2
          have h2 := HN2.out.2.2
          simp only [List.mem_cons, List.not_mem_nil, or_false] at hp
          rcases hp with rfl | rfl | rfl <;> simp only <;> omega
        rintro e3 w3 ⟨rfl, c3⟩
        simp only [List.map_cons, List.map_nil]
        rw [HHS.out]
        have b3 := b2.trans (c3.mono b2.size)
        have Z3 := Lib.hid (Z2.out.below c3)
        refine ⟨b3, ?_⟩
        clear c3
        refine wpAnyH_oneG 7 (by kernel_rfl) rfl (by rfl) ?_
        refine wp_store_blk 22 (.tmp 11) (.tmp 27) rfl gA (hs) (by with_unfolding_all rfl) (by with_unfolding_all rfl) 22 (List.replicate 16 0) Z3.out 16 sizeRow HSL.out rfl ?_
        intro w4 M4 O4
        have b4 := b3.trans (O4.out.below b3.size HG.out)
        refine ⟨b4, ?_⟩
        refine wpAnyH_done (by kernel_rfl) ?_ _
        go_wp2_with fail
        go_meet
        exact ⟨gA, rfl, show _ ≤ _ by rw [← HZ.out]; exact HG.out, M4, HU.out _ b4⟩
    · refine wp_alloc_blk 22 rfl (List.replicate 16 0) zero16v ?_
      intro gA w1 eA Z1 c1
      have b1 := b0.trans (c1.out.mono b0.size)
      have HG : Hid (w0.heap.size ≤ gA) := show _ ≤ _ by rw [eA.out]; exact b0.size
      refine ⟨b1, ?_⟩
      clear c1 eA
      refine wpAnyH_oneG 4 (by kernel_rfl) rfl (by rfl) ?_
      refine wp_three (.tmp 23) (.tmp 24) (.tmp 25) rfl ⟨A2, n2, c2, data⟩ ⟨A1, n1, c1, hid⟩ ⟨some ⟨g10, 0, none⟩, 16, 16, ln⟩ (by with_unfolding_all rfl) (by with_unfolding_all rfl) (by with_unfolding_all rfl) ?_
      intro gT w2 eT T2 c2
      have b2 := b1.trans (c2.out.mono b1.size)
      have Z2 := Lib.hid (Z1.out.below c2.out)
      refine ⟨b2, ?_⟩
      clear c2 eT
      refine wpAnyH_oneG 5 (by kernel_rfl) rfl (by rfl) ?_
      go_wp2_with fail
      (with_reducible refine (hash_any hv HHL.out [⟨A2, n2, c2, data⟩, ⟨A1, n1, c1, hid⟩, ⟨some ⟨g10, 0, none⟩, 16, 16, ln⟩] _ 3 3 w2.heap.size _ ?hsl (Nat.le_refl _) (by unfold maxLen; omega) ?hle).mono ?_)
      case hsl =>
        have hb := HW0.out.b.trans (b2.mono HW0.out.b.size)
        have hB := HB.out
        have hz := hb.size
        refine slw_row T2.out ((Array.getElem?_eq_some_iff.1 T2.out).1) ?_ 3 rfl
        intro p hp
        simp only [List.mem_cons, List.not_mem_nil, or_false] at hp
        rcases hp with rfl | rfl | rfl
        · exact ⟨(HS2.out.below (hb.mono hB)).more (by omega), HN2.out.1, HN2.out.2.1⟩
        · exact ⟨(HS1.out.below (hb.mono hB)).more (by omega), HN1.out.1, HN1.out.2.1⟩
        · exact ⟨(HW0.out.l.below b2).sl _ 16 (HW0.out.l.below b2).lt HLL.out, Nat.le_refl _, by simp [maxLen]⟩
      case hle =>
        intro p hp
        have h1 := HN1.out.2.2
        have h2 := HN2.out.2.2
        simp only [List.mem_cons, List.not_mem_nil, or_false] at hp
        rcases hp with rfl | rfl | rfl <;> simp only <;> omega
      rintro e3 w3 ⟨rfl, c3⟩
      simp only [List.map_cons, List.map_nil]
      rw [HHS.out]
      have b3 := b2.trans (c3.mono b2.size)
      have Z3 := Lib.hid (Z2.out.below c3)
      refine ⟨b3, ?_⟩
      clear c3
      refine wpAnyH_oneG 7 (by kernel_rfl) rfl (by rfl) ?_
      refine wp_store_blk 22 (.tmp 11) (.tmp 27) rfl gA (hs) (by with_unfolding_all rfl) (by with_unfolding_all rfl) 22 (List.replicate 16 0) Z3.out 16 sizeRow HSL.out rfl ?_
      intro w4 M4 O4
      have b4 := b3.trans (O4.out.below b3.size HG.out)
      refine ⟨b4, ?_⟩
      refine wpAnyH_done (by kernel_rfl) ?_ _
      go_wp2_with fail
      go_meet
      exact ⟨gA, rfl, show _ ≤ _ by rw [← HZ.out]; exact HG.out, M4, HU.out _ b4⟩
  case rest =>
    obtain ⟨g11, rfl, HG11, H11, HB11⟩ := hcut
    have HW1 := Lib.hid (HW.out.below HB11.out)
    have hg11 : w.heap.size + 1 + 1 < g11 := Nat.lt_of_lt_of_le HW.out.r.lt HG11.out
    clear HW HG11 HB11
    clear hwh
    have HW := HW1
    clear HW1
    clear wr
    obtain ⟨wr, hwr⟩ : ∃ x, wc = x := ⟨_, rfl⟩
    rw [hwr] at HW H11 ⊢
    clear hwr
    go_upto_region 4 with fail
    go_cut [12] from 13 to 37 (fun v wx => ∃ gA : Nat, v = .pointer (some ⟨gA, 0, none⟩) ∧ Hid (wr.heap.size ≤ gA) ∧ Hid (Blk wx gA 22 mk) ∧ Hid (Below wr.heap.size wr wx))
    case first =>
      refine wp_held (S := fun u => Below wr.drew.heap.size wr.drew u) (by kernel_rfl) ?_
      have HW0 := Lib.hid HW.out.drew
      obtain ⟨w0, hw0⟩ : ∃ x, wr.drew = x := ⟨_, rfl⟩
      have HU : Hid (∀ u, Below w0.heap.size w0 u → Below wr.heap.size wr u) := fun u hu => by rw [← hw0] at hu; exact ⟨hu.os, hu.tape, hu.output, hu.size, hu.block⟩
      have HZ : Hid (w0.heap.size = wr.heap.size) := show _ = _ by rw [← hw0]; rfl
      rw [hw0] at HW0 ⊢
      clear hw0
      have b0 : Below w0.heap.size w0 w0 := Below.refl _ _
      refine wpAnyH_pickG 0 (.agg (bvs key).toArray) rfl (by kernel_rfl) (by kernel_rfl) (by kernel_rfl) (by rfl) (fun _ _ _ h => h) (fun u hu => exec_load_blk u 22 (.tmp 4) rfl w.heap.size (by with_unfolding_all rfl) 22 key (HW0.out.k.below hu) 16 5 Try.underlying22 16 sizeRow Hk.out) b0 ?_
      go_simp
      refine wpAnyH_pickG 1 (.agg (bvs nonce).toArray) rfl (by kernel_rfl) (by kernel_rfl) (by kernel_rfl) (by rfl) (fun _ _ _ h => h) (fun u hu => exec_load_blk u 23 (.tmp 5) rfl (w.heap.size + 1) (by with_unfolding_all rfl) 23 nonce (HW0.out.n.below hu) 12 5 Try.underlying23 12 size12 Hno.out) b0 ?_
      go_simp
      refine wpAnyH_twoG 2 4 (by kernel_rfl) rfl (by rfl) rfl (by rfl) ?_ ?_
      · go_wp2_with fail
        (with_reducible refine (counted_one nonce Hno.out _).mono ?_)
        rintro e1 w1 ⟨rfl, c1⟩
        have b1 := b0.trans (c1.mono b0.size)
        refine ⟨b1, ?_⟩
        clear c1
        refine wpAnyH_twoG 3 4 (by kernel_rfl) rfl (by rfl) rfl (by rfl) ?_ ?_
        · go_wp2_with fail
          (with_reducible refine (block_any key _ Hk.out (cntV_length _ _ Hno.out) _).mono ?_)
          rintro e2 w2 ⟨rfl, c2⟩
          have b2 := b1.trans (c2.mono b1.size)
          refine ⟨b2, ?_⟩
          clear c2
          rw [HMk.out]
          refine wpAnyH_oneG 4 (by kernel_rfl) rfl (by rfl) ?_
          refine wp_alloc_blk 22 rfl (List.replicate 16 0) zero16v ?_
          intro gA w3 eA Z3 c3
          have b3 := b2.trans (c3.out.mono b2.size)
          have HG : Hid (w0.heap.size ≤ gA) := show _ ≤ _ by rw [eA.out]; exact b2.size
          refine ⟨b3, ?_⟩
          clear c3 eA
          refine wpAnyH_oneG 5 (by kernel_rfl) rfl (by rfl) ?_
          refine wp_store_blk 22 (.tmp 12) (.tmp 31) rfl gA (mk) (by with_unfolding_all rfl) (by with_unfolding_all rfl) 22 (List.replicate 16 0) Z3.out 16 sizeRow HML.out rfl ?_
          intro w4 M4 O4
          have b4 := b3.trans (O4.out.below b3.size HG.out)
          refine ⟨b4, ?_⟩
          refine wpAnyH_done (by kernel_rfl) ?_ _
          go_wp2_with fail
          go_meet
          exact ⟨gA, rfl, show _ ≤ _ by rw [← HZ.out]; exact HG.out, M4, HU.out _ b4⟩
        · refine wp_alloc_blk 22 rfl (List.replicate 16 0) zero16v ?_
          intro gA w2 eA Z2 c2
          have b2 := b1.trans (c2.out.mono b1.size)
          have HG : Hid (w0.heap.size ≤ gA) := show _ ≤ _ by rw [eA.out]; exact b1.size
          refine ⟨b2, ?_⟩
          clear c2 eA
          refine wpAnyH_oneG 3 (by kernel_rfl) rfl (by rfl) ?_
          go_wp2_with fail
          (with_reducible refine (block_any key _ Hk.out (cntV_length _ _ Hno.out) _).mono ?_)
          rintro e3 w3 ⟨rfl, c3⟩
          have b3 := b2.trans (c3.mono b2.size)
          have Z3 := Lib.hid (Z2.out.below c3)
          refine ⟨b3, ?_⟩
          clear c3
          rw [HMk.out]
          refine wpAnyH_oneG 5 (by kernel_rfl) rfl (by rfl) ?_
          refine wp_store_blk 22 (.tmp 12) (.tmp 31) rfl gA (mk) (by with_unfolding_all rfl) (by with_unfolding_all rfl) 22 (List.replicate 16 0) Z3.out 16 sizeRow HML.out rfl ?_
          intro w4 M4 O4
          have b4 := b3.trans (O4.out.below b3.size HG.out)
          refine ⟨b4, ?_⟩
          refine wpAnyH_done (by kernel_rfl) ?_ _
          go_wp2_with fail
          go_meet
          exact ⟨gA, rfl, show _ ≤ _ by rw [← HZ.out]; exact HG.out, M4, HU.out _ b4⟩
      · refine wp_alloc_blk 22 rfl (List.replicate 16 0) zero16v ?_
        intro gA w1 eA Z1 c1
        have b1 := b0.trans (c1.out.mono b0.size)
        have HG : Hid (w0.heap.size ≤ gA) := show _ ≤ _ by rw [eA.out]; exact b0.size
        refine ⟨b1, ?_⟩
        clear c1 eA
        refine wpAnyH_oneG 2 (by kernel_rfl) rfl (by rfl) ?_
        go_wp2_with fail
        (with_reducible refine (counted_one nonce Hno.out _).mono ?_)
        rintro e2 w2 ⟨rfl, c2⟩
        have b2 := b1.trans (c2.mono b1.size)
        have Z2 := Lib.hid (Z1.out.below c2)
        refine ⟨b2, ?_⟩
        clear c2
        refine wpAnyH_oneG 3 (by kernel_rfl) rfl (by rfl) ?_
        go_wp2_with fail
        (with_reducible refine (block_any key _ Hk.out (cntV_length _ _ Hno.out) _).mono ?_)
        rintro e3 w3 ⟨rfl, c3⟩
        have b3 := b2.trans (c3.mono b2.size)
        have Z3 := Lib.hid (Z2.out.below c3)
        refine ⟨b3, ?_⟩
        clear c3
        rw [HMk.out]
        refine wpAnyH_oneG 5 (by kernel_rfl) rfl (by rfl) ?_
        refine wp_store_blk 22 (.tmp 12) (.tmp 31) rfl gA (mk) (by with_unfolding_all rfl) (by with_unfolding_all rfl) 22 (List.replicate 16 0) Z3.out 16 sizeRow HML.out rfl ?_
        intro w4 M4 O4
        have b4 := b3.trans (O4.out.below b3.size HG.out)
        refine ⟨b4, ?_⟩
        refine wpAnyH_done (by kernel_rfl) ?_ _
        go_wp2_with fail
        go_meet
        exact ⟨gA, rfl, show _ ≤ _ by rw [← HZ.out]; exact HG.out, M4, HU.out _ b4⟩
    case rest =>
      obtain ⟨g12, rfl, HG12, H12, HB12⟩ := hcut
      have HR := Lib.hid (HW.out.r.below HB12.out)
      have H11 := Lib.hid (H11.out.below HB12.out)
      have hg12 : w.heap.size + 1 + 1 < g12 := Nat.lt_of_lt_of_le HW.out.r.lt HG12.out
      have HBc := Lib.hid (HW.out.b.trans (HB12.out.mono HW.out.b.size))
      clear HW HG12 HB12
      go_wp2_with fail
      refine wp_held (S := fun u => Only (w.heap.size + 1 + 1) wc.drew u) (by kernel_rfl) ?_
      have HR := Lib.hid HR.out.drew
      have H11 := Lib.hid H11.out.drew
      have H12 := Lib.hid H12.out.drew
      have HBc := Lib.hid HBc.out.drew
      obtain ⟨w0, hw0⟩ : ∃ x, wc.drew = x := ⟨_, rfl⟩
      rw [hw0] at HR H11 H12 HBc ⊢
      clear hw0
      have hS : Only (w.heap.size + 1 + 1) w0 w0 := Only.refl _ _
      refine wpAnyH_pickG 0 (.agg (bvs hs).toArray) rfl (by kernel_rfl) (by kernel_rfl) (by kernel_rfl) (by rfl) (fun _ _ _ h => h) (fun u hu => exec_load_blk u 22 (.tmp 11) rfl g11 (by with_unfolding_all rfl) 22 hs (H11.out.only hu (by omega)) 16 5 Try.underlying22 16 sizeRow HSL.out) hS ?_
      go_simp
      refine wpAnyH_pickG 2 (.agg (bvs mk).toArray) rfl (by kernel_rfl) (by kernel_rfl) (by kernel_rfl) (by rfl) (fun _ _ _ h => h) (fun u hu => exec_load_blk u 22 (.tmp 12) rfl g12 (by with_unfolding_all rfl) 22 mk (H12.out.only hu (by omega)) 16 5 Try.underlying22 16 sizeRow HML.out) hS ?_
      go_simp
      refine wpAnyH_oneG 1 (by kernel_rfl) rfl (by rfl) ?_
      go_wp2_with fail
      (with_reducible refine (halves_any hs HSL.out _).mono ?_)
      rintro e2 w2 ⟨rfl, b2⟩
      refine ⟨Only.of_below b2, ?_⟩
      refine wpAnyH_oneG 3 (by kernel_rfl) rfl (by rfl) ?_
      go_wp2_with fail
      (with_reducible refine (halves_any mk HML.out _).mono ?_)
      rintro e3 w3 ⟨rfl, b3⟩
      have b3' := b2.trans (b3.mono b2.size)
      refine ⟨Only.of_below b3', ?_⟩
      refine wpAnyH_oneG 4 (by kernel_rfl) rfl (by rfl) ?_
      go_wp2_with fail
      (with_reducible refine (pcross_any _ _ _ _ _).mono ?_)
      rintro e4 w4 ⟨rfl, b4⟩
      have b4' := b3'.trans (b4.mono b3'.size)
      refine ⟨Only.of_below b4', ?_⟩
      refine wpAnyH_oneG 5 (by kernel_rfl) rfl (by rfl) ?_
      go_wp2_with fail
      (with_reducible refine (pbytes_any _ _ _).mono ?_)
      rintro e5 w5 ⟨rfl, b5⟩
      have b5' := b4'.trans (b5.mono b4'.size)
      refine ⟨Only.of_below b5', ?_⟩
      rw [cross_halves hs mk HSL.out HML.out]
      refine wpAnyH_oneG 6 (by kernel_rfl) rfl (by rfl) ?_
      refine wp_store_blk 22 (.tmp 8) (.tmp 37) rfl (w.heap.size + 1 + 1) (crossV hs mk) (by with_unfolding_all rfl) (by with_unfolding_all rfl) 22 (List.replicate 16 0) (HR.out.below b5') 16 sizeRow HCL.out rfl ?_
      intro w6 H6 O6
      refine ⟨(Only.of_below b5').trans O6.out, ?_⟩
      refine wpAnyH_done (by kernel_rfl) ?_ _
      go_wp2_with fail
      refine ret_blk Try.results23 (w.heap.size + 1 + 1) 22 _ 16 5 rfl H6.out Try.underlying22 16 sizeRow HCL.out rfl ⟨rfl, ?_⟩
      exact (HBc.out.trans (b5'.mono HBc.out.size)).trans (O6.out.below (by have := HBc.out.size; have := b5'.size; omega) (by omega))
end Go.Proofs.Ytkeleehkjllgeaa
