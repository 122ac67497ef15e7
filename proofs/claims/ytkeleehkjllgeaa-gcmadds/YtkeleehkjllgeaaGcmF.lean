/-
  The contract of turned.
-/
import Derived.Test.YtkeleehkjllgeaaRoom
import Derived.Test.YtkeleehkjllgeaaGcmD
import Derived.Test.YtkeleehkjllgeaaAesF
import Derived.Lib.MinMax
import Derived.Deep.CutRange
namespace Go.Proofs.Ytkeleehkjllgeaa
open Go.RowKit
set_option linter.unusedVariables false

/-- what stands in memory while a text is turned: the key's and the nonce's boxes, and the first m bytes of what is made -/
structure TuW (w wr : World) (key nonce : List UInt8) (cap m : Nat) (l : List UInt8) : Prop where
  k : Blk wr w.heap.size 22 key
  n : Blk wr (w.heap.size + 1) 23 nonce
  o : Own wr w.heap.size (.slice (some ⟨w.heap.size + 1 + 1, 0, none⟩) m cap) m l
  b : Below w.heap.size w wr
theorem TuW.drew {w wr : World} {key nonce : List UInt8} {cap m : Nat} {l : List UInt8} (h : TuW w wr key nonce cap m l) : TuW w wr.drew key nonce cap m l := ⟨h.k, h.n, h.o, h.b.drew⟩
theorem TuW.below {w wr wx : World} {key nonce : List UInt8} {cap m : Nat} {l : List UInt8} (h : TuW w wr key nonce cap m l) (hb : Below wr.heap.size wr wx) : TuW w wx key nonce cap m l :=
  ⟨h.k.below hb, h.n.below hb, h.o.below hb, h.b.trans (hb.mono h.b.size)⟩
theorem TuW.only {w wr wx : World} {key nonce : List UInt8} {cap m m' : Nat} {l l' : List UInt8} (h : TuW w wr key nonce cap m l) (ho : Only (w.heap.size + 1 + 1) wr wx) (hx : Own wx w.heap.size (.slice (some ⟨w.heap.size + 1 + 1, 0, none⟩) m' cap) m' l') : TuW w wx key nonce cap m' l' :=
  ⟨h.k.only ho (by omega), h.n.only ho (by omega), hx, h.b.trans (ho.below h.b.size (by omega))⟩
theorem ks_at (key nonce : List UInt8) (k i : Nat) (hi : i < 16) : ksG key nonce (16 * k + i) = (blockV key (cntV nonce (2 + k))).getD i 0 := by
  unfold ksG
  rw [show (16 * k + i) / 16 = k by omega, show (16 * k + i) % 16 = i by omega]

theorem zero16v (u : World) : (zeroValue 22).run Try.prog u = .ok (.agg (bvs (List.replicate 16 0)).toArray) u := (zero_of_info (n := 16) (by kernel_rfl)).1 u
attribute [local go_sem] u8_xor'
set_option maxHeartbeats 4000000 in
theorem turned_any (key nonce text : List UInt8) (hk : key.length = 16) (hno : nonce.length = 12) (A : Option Addr) (n c B : Nat) (w : World) (hs : Sl w B A n text) (hB : B ≤ w.heap.size) (hnc : n ≤ c) (hcm : c ≤ maxLen) (hn : n ≤ 1000000) :
    Calls Try.prog 22 #[.agg (bvs key).toArray, .agg (bvs nonce).toArray, .slice A n c] w (MakesBytes w n (turnG key nonce text)) := by
  have Hk := Lib.hid hk
  have Hno := Lib.hid hno
  have HS := Lib.hid hs
  have HB := Lib.hid hB
  have Hn := Lib.hid hs.1
  have HC := Lib.hid hcm
  obtain ⟨cap, hcap⟩ : ∃ cap, n + 16 = cap := ⟨_, rfl⟩
  have hci : (n : Int) + 16 = (cap : Int) := by omega
  have hmk : ∀ u : World, (Instr.makeSlice 24 (.int .i64 0) (.int .i64 (cap : Int))).run Try.prog u = .ok (.slice (some ⟨u.heap.size, 0, none⟩) 0 cap) (u.alloc (.cells (madeCells #[.int .u8 0] cap) 5)) := run_make_room cap (by omega)
  have HCap := Lib.hid hcap
  have vcap : IntKind.i64.wrap (cap : Int) = (cap : Int) := IntWalk.i64_in _ (by omega)
  obtain ⟨T, hT⟩ : ∃ T, turnG key nonce text = T := ⟨_, rfl⟩
  have HT : Hid (∀ k i, i < 16 → 16 * k + i < n → T.take (16 * k + i + 1) = T.take (16 * k + i) ++ [text.getD (16 * k + i) 0 ^^^ (blockV key (cntV nonce (2 + k))).getD i 0]) := fun k i hi hlt => by
    have hl : (turnG key nonce text).length = n := by rw [turnG_length]; exact hs.1
    rw [← hT, take_snoc _ _ (by omega), turnG_getD _ _ _ _ (by rw [hs.1]; exact hlt), ks_at _ _ _ _ hi]
  have HTL : Hid (T.length = n) := show _ = _ by rw [← hT, turnG_length]; exact hs.1
  rw [hT]
  clear hk hno hs hB hcm hcap hT
  go_enter Try.func22, Try.ntmps22
  go_wp2_with fail
  clear hmk
  go_loopw [7, 8, 9] (fun v7 v8 v9 wr => ∃ k m : Nat, 16 * k < n + 16 ∧ Hid (m = min (16 * k) n) ∧ v9 = .int .i64 (16 * k : Nat) ∧ v8 = .int .u32 (2 + k : Nat) ∧ v7 = .slice (some ⟨w.heap.size + 1 + 1, 0, none⟩) m cap ∧ Hid (TuW w wr key nonce cap m (T.take m))) (fun _ _ v9 _ => n + 16 - (intOf v9).toNat)
  case atStart =>
    refine ⟨0, 0, by omega, show _ = _ by omega, rfl, rfl, rfl, ?_⟩
    have hc := HCap.out
    refine ⟨heap_allocs w [_, _, _] 0 _ rfl, heap_allocs w [_, _, _] 1 _ rfl, ?_, (((Below.refl _ _).alloc (Nat.le_refl _) _).alloc (by simp) _).alloc (by simp; omega) _⟩
    have ho := own_room ((w.alloc (.cells (bvs key).toArray 22)).alloc (.cells (bvs nonce).toArray 23)) cap w.heap.size (by omega) (by simp; omega)
    simpa using ho
  case round =>
    obtain ⟨k, m, hk, Hm, rfl, rfl, rfl, HW⟩ := hrel
    obtain ⟨at_, hat⟩ : ∃ a, 16 * k = a := ⟨_, rfl⟩
    rw [hat] at hk Hm ⊢
    have HAt := Lib.hid hat
    obtain ⟨cn, hcn⟩ : ∃ x, 2 + k = x := ⟨_, rfl⟩
    have hcn2 : cn < 100000 := by omega
    rw [hcn]
    have HCn := Lib.hid hcn
    by_cases hlt : at_ < n
    · obtain ⟨b, off, rfl, hbB, hcell⟩ := HS.out.2 (by omega)
      have HCell := Lib.hid hcell
      obtain ⟨mk, hmkv⟩ : ∃ x, blockV key (cntV nonce cn) = x := ⟨_, rfl⟩
      have HMk := Lib.hid hmkv
      have HML : Hid (mk.length = 16) := show _ = _ by rw [← hmkv]; exact blockV_length _ _ Hk.out (cntV_length _ _ Hno.out)
      have lm : (at_ : Int) < (n : Int) := by omega
      have hme : m = at_ := by have := Hm.out; omega
      subst hme
      clear hat hcn hcell hmkv
      go_upto_region 6 with fail
      go_cut [10] from 18 to 54 (fun v10 wx => ∃ g10 : Nat, v10 = .pointer (some ⟨g10, 0, none⟩) ∧ Hid (wr.heap.size ≤ g10) ∧ Hid (Blk wx g10 22 mk) ∧ Hid (Below wr.heap.size wr wx))
      case first =>
        refine wp_held (S := fun u => Below wr.drew.heap.size wr.drew u) (by kernel_rfl) ?_
        have HW0 := Lib.hid HW.out.drew
        obtain ⟨w0, hw0⟩ : ∃ x, wr.drew = x := ⟨_, rfl⟩
        have HU : Hid (∀ u, Below w0.heap.size w0 u → Below wr.heap.size wr u) := fun u hu => by rw [← hw0] at hu; exact ⟨hu.os, hu.tape, hu.output, hu.size, hu.block⟩
        have HZ : Hid (w0.heap.size = wr.heap.size) := show _ = _ by rw [← hw0]; rfl
        rw [hw0] at HW0 ⊢
        clear hw0
        have b0 : Below w0.heap.size w0 w0 := Below.refl _ _
        refine wpAnyH_pickG 0 (.agg (bvs key).toArray) rfl (by kernel_rfl) (by kernel_rfl) (by kernel_rfl) (by rfl) (fun _ _ _ h => h) (fun u hu => exec_load_blk u 22 (.tmp 3) rfl w.heap.size (by with_unfolding_all rfl) 22 key (HW0.out.k.below hu) 16 5 Try.underlying22 16 sizeRow Hk.out) b0 ?_
        go_simp
        refine wpAnyH_pickG 1 (.agg (bvs nonce).toArray) rfl (by kernel_rfl) (by kernel_rfl) (by kernel_rfl) (by rfl) (fun _ _ _ h => h) (fun u hu => exec_load_blk u 23 (.tmp 4) rfl (w.heap.size + 1) (by with_unfolding_all rfl) 23 nonce (HW0.out.n.below hu) 12 5 Try.underlying23 12 size12 Hno.out) b0 ?_
        go_simp
        refine wpAnyH_take (i := 2) (v := ?_) rfl (by kernel_rfl) (by kernel_rfl) (by kernel_rfl) (fun _ _ _ h => h) (Or.inl ⟨by rfl, ?_⟩) b0 ?_
        rotate_left 1
        · intro u hu
          go_simp
          first | done | with_reducible rfl
        go_simp
        refine wpAnyH_twoG 3 5 (by kernel_rfl) rfl (by rfl) rfl (by rfl) ?_ ?_
        · go_wp2_with fail
          (with_reducible refine (counted_any nonce Hno.out cn (by omega) _).mono ?_)
          rintro e1 w1 ⟨rfl, c1⟩
          have b1 := b0.trans (c1.mono b0.size)
          refine ⟨b1, ?_⟩
          clear c1
          refine wpAnyH_twoG 4 5 (by kernel_rfl) rfl (by rfl) rfl (by rfl) ?_ ?_
          · go_wp2_with fail
            (with_reducible refine (block_any key _ Hk.out (cntV_length _ _ Hno.out) _).mono ?_)
            rintro e2 w2 ⟨rfl, c2⟩
            have b2 := b1.trans (c2.mono b1.size)
            refine ⟨b2, ?_⟩
            clear c2
            rw [HMk.out]
            refine wpAnyH_oneG 5 (by kernel_rfl) rfl (by rfl) ?_
            refine wp_alloc_blk 22 rfl (List.replicate 16 0) zero16v ?_
            intro gA w3 eA Z3 c3
            have b3 := b2.trans (c3.out.mono b2.size)
            have HG : Hid (w0.heap.size ≤ gA) := show _ ≤ _ by rw [eA.out]; exact b2.size
            refine ⟨b3, ?_⟩
            clear c3 eA
            refine wpAnyH_oneG 6 (by kernel_rfl) rfl (by rfl) ?_
            refine wp_store_blk 22 (.tmp 10) (.tmp 28) rfl gA (mk) (by with_unfolding_all rfl) (by with_unfolding_all rfl) 22 (List.replicate 16 0) Z3.out 16 sizeRow HML.out rfl ?_
            intro w4 M4 O4
            have b4 := b3.trans (O4.out.below b3.size HG.out)
            refine ⟨b4, ?_⟩
            refine wpAnyH_done (by kernel_rfl) ?_ _
            go_wp2_with fail
            go_meet
            exact ⟨gA, rfl, show _ ≤ _ by rw [← HZ.out]; exact HG.out, M4, HU.out _ b4⟩
          · refine wp_alloc_blk 22 rfl (List.replicate 16 0) zero16v ?_
            intro gA w2 eA Z2 c2
            have b2 := b1.trans (c2.out.mono b1.size)
            have HG : Hid (w0.heap.size ≤ gA) := show _ ≤ _ by rw [eA.out]; exact b1.size
            refine ⟨b2, ?_⟩
            clear c2 eA
            refine wpAnyH_oneG 4 (by kernel_rfl) rfl (by rfl) ?_
            go_wp2_with fail
            (with_reducible refine (block_any key _ Hk.out (cntV_length _ _ Hno.out) _).mono ?_)
            rintro e3 w3 ⟨rfl, c3⟩
            have b3 := b2.trans (c3.mono b2.size)
            have Z3 := Lib.hid (Z2.out.below c3)
            refine ⟨b3, ?_⟩
            clear c3
            rw [HMk.out]
            refine wpAnyH_oneG 6 (by kernel_rfl) rfl (by rfl) ?_
            refine wp_store_blk 22 (.tmp 10) (.tmp 28) rfl gA (mk) (by with_unfolding_all rfl) (by with_unfolding_all rfl) 22 (List.replicate 16 0) Z3.out 16 sizeRow HML.out rfl ?_
            intro w4 M4 O4
            have b4 := b3.trans (O4.out.below b3.size HG.out)
            refine ⟨b4, ?_⟩
            refine wpAnyH_done (by kernel_rfl) ?_ _
            go_wp2_with fail
            go_meet
            exact ⟨gA, rfl, show _ ≤ _ by rw [← HZ.out]; exact HG.out, M4, HU.out _ b4⟩
        · refine wp_alloc_blk 22 rfl (List.replicate 16 0) zero16v ?_
          intro gA w1 eA Z1 c1
          have b1 := b0.trans (c1.out.mono b0.size)
          have HG : Hid (w0.heap.size ≤ gA) := show _ ≤ _ by rw [eA.out]; exact b0.size
          refine ⟨b1, ?_⟩
          clear c1 eA
          refine wpAnyH_oneG 3 (by kernel_rfl) rfl (by rfl) ?_
          go_wp2_with fail
          (with_reducible refine (counted_any nonce Hno.out cn (by omega) _).mono ?_)
          rintro e2 w2 ⟨rfl, c2⟩
          have b2 := b1.trans (c2.mono b1.size)
          have Z2 := Lib.hid (Z1.out.below c2)
          refine ⟨b2, ?_⟩
          clear c2
          refine wpAnyH_oneG 4 (by kernel_rfl) rfl (by rfl) ?_
          go_wp2_with fail
          (with_reducible refine (block_any key _ Hk.out (cntV_length _ _ Hno.out) _).mono ?_)
          rintro e3 w3 ⟨rfl, c3⟩
          have b3 := b2.trans (c3.mono b2.size)
          have Z3 := Lib.hid (Z2.out.below c3)
          refine ⟨b3, ?_⟩
          clear c3
          rw [HMk.out]
          refine wpAnyH_oneG 6 (by kernel_rfl) rfl (by rfl) ?_
          refine wp_store_blk 22 (.tmp 10) (.tmp 28) rfl gA (mk) (by with_unfolding_all rfl) (by with_unfolding_all rfl) 22 (List.replicate 16 0) Z3.out 16 sizeRow HML.out rfl ?_
          intro w4 M4 O4
          have b4 := b3.trans (O4.out.below b3.size HG.out)
          refine ⟨b4, ?_⟩
          refine wpAnyH_done (by kernel_rfl) ?_ _
          go_wp2_with fail
          go_meet
          exact ⟨gA, rfl, show _ ≤ _ by rw [← HZ.out]; exact HG.out, M4, HU.out _ b4⟩
      case rest =>
        obtain ⟨g10, rfl, HG, HK, HBw⟩ := hcut
        have HW1 := Lib.hid (HW.out.below HBw.out)
        have hg10 : w.heap.size + 1 + 1 < g10 := by have := HG.out; have := (HW.out.o.blk _ rfl).2; simp at this; omega
        clear HW HG HBw
        obtain ⟨e, he⟩ : ∃ e, min (m + 16) n = e := ⟨_, rfl⟩
        have hem : min ((m : Int) + 16) (n : Int) = (e : Int) := by omega
        have he1 : m < e := by omega
        have he2 : e ≤ n := by omega
        have he3 : e ≤ m + 16 := by omega
        have he4 : Hid (e = min (m + 16) n) := he.symm
        obtain ⟨q, hq⟩ : ∃ q, e - m = q := ⟨_, rfl⟩
        have hcu : ∀ u : World, (Instr.slice 24 (.slice (some ⟨b, off, none⟩) n c) (some (.int .i64 (m : Int))) (some (.int .i64 (e : Int))) none).run Try.prog u = .ok (.slice (some ⟨b, off + m, none⟩) q (c - m)) u := fun u => by
          rw [run_cut2 u _ n c m e (by omega) (by omega), if_neg (by omega), hq]
          simp [addr_add]
        have hq16 : q ≤ 16 := by omega
        have hqe : m + q = e := by omega
        clear he
        go_wp2_with fail
        clear hcu hem
        go_loopw [7, 39] (fun v7 v39 wi => ∃ i : Nat, i ≤ q ∧ v39 = .int .i64 i ∧ v7 = .slice (some ⟨w.heap.size + 1 + 1, 0, none⟩) (m + i) cap ∧ Hid (TuW w wi key nonce cap (m + i) (T.take (m + i))) ∧ Hid (Blk wi g10 22 mk)) (fun _ v39 _ => q - (intOf v39).toNat)
        case atStart => exact ⟨0, by omega, rfl, rfl, HW1, HK⟩
        case round =>
          clear HW1 HK
          obtain ⟨i, hi, rfl, rfl, HW2, HK2⟩ := hrel
          by_cases hlq : i < q
          · obtain ⟨x, hx⟩ : ∃ x, text.getD (m + i) 0 = x := ⟨_, rfl⟩
            obtain ⟨y, hy⟩ : ∃ y, mk.getD i 0 = y := ⟨_, rfl⟩
            have hB := HB.out
            have htl := Hn.out
            have cd : wr.cell? ⟨b, off + m + i, none⟩ = some (.int .u8 (bn x)) := by
              rw [HW2.out.b.cell (p := ⟨b, off + m + i, none⟩) (by show b < _; omega), show off + m + i = off + (m + i) by omega, HCell.out (m + i) (by omega), ← hx, List.getD_eq_getElem?_getD, List.getElem?_eq_getElem (by omega)]
              rfl
            have ce : wr.cell? ⟨g10, i, none⟩ = some (.int .u8 (bn y)) := by rw [HK2.out.cell i (by have := HML.out; omega), hy]
            have HN : Hid (T.take (m + i) ++ [x ^^^ y] = T.take (m + (i + 1))) := show _ = _ by
              have e1 := HAt.out
              have e2 := HCn.out
              rw [← hx, ← hy, ← HMk.out, ← e2, ← Nat.add_assoc, ← e1, HT.out k i (by omega) (by omega)]
            have li : (i : Int) < (q : Int) := by omega
            have hi16 : (i : Int) < 16 := by omega
            have hroom : m + i + 1 ≤ cap := by have := HCap.out; omega
            clear hx hy htl
            go_wp2_with ((with_reducible refine wpList_append_room rfl (.tmp 44) (.tmp 50) rfl w.heap.size (w.heap.size + 1 + 1) (m + i) cap (T.take (m + i)) ?hs ?ho _ _ 1 1 [x ^^^ y] ?hx (sl_one _ _ _ rfl) hroom ?_); (case hs => with_unfolding_all rfl); (case ho => exact HW2.out.o.alloc _); (case hx => with_unfolding_all rfl); intro w3 H3 O3)
            have HW3 : Hid (TuW w w3 key nonce cap (m + (i + 1)) (T.take (m + (i + 1)))) := show TuW _ _ _ _ _ _ _ by
              rw [← HN.out]
              exact (HW2.out.below ((Below.refl _ _).alloc (Nat.le_refl _) _)).only O3.out H3.out
            have HK3 : Hid (Blk w3 g10 22 mk) := (HK2.out.alloc _).only O3.out (by omega)
            clear H3 O3 HN
            go_roundw
            case rel =>
              first
                | exact ⟨i + 1, by omega, by go_num, rfl, HW3, HK3⟩
                | ((repeat apply Exists.intro); exact ⟨⟨i + 1, by omega, by go_num, rfl, HW3, HK3⟩, rfl⟩)
            case measure => simp [intOf]; omega
          · obtain rfl : i = q := by omega
            have vcn : (cn : Int) + 1 < 4294967296 := by omega
            have HE2 : Hid (m + i = min (16 * (k + 1)) n) := show _ = _ by have := HAt.out; have := he4.out; omega
            go_wp2_with fail
            go_roundw
            case rel =>
              have e1 := HAt.out
              have e2 := HCn.out
              first
                | exact ⟨k + 1, m + i, by omega, HE2, by rw [← e1]; go_num, by rw [← e2]; go_num, rfl, HW2⟩
                | ((repeat apply Exists.intro); exact ⟨⟨k + 1, m + i, by omega, HE2, by rw [← e1]; go_num, by rw [← e2]; go_num, rfl, HW2⟩, rfl⟩)
            case measure => simp [intOf]; omega
    · have hmn : m = n := by have := Hm.out; omega
      subst hmn
      have HE : Hid (T.take m = T) := show _ = _ by rw [List.take_of_length_le (by have := HTL.out; omega)]
      have HO := Lib.hid HW.out.o
      rw [HE.out] at HO
      have HBw := Lib.hid HW.out.b
      have hc := HCap.out
      clear HW hat hcn
      go_wp2_with fail
      go_ret
      exact ⟨_, cap, rfl, HO.out, by omega, by unfold maxLen; omega, HBw.out⟩
end Go.Proofs.Ytkeleehkjllgeaa
