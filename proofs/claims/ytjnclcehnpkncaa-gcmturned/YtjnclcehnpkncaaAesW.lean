/-
  The document's own block.
-/
import Derived.Test.YtjnclcehnpkncaaAesV
namespace Go.Proofs.Ytjnclcehnpkncaa
open Go.RowKit
set_option linter.unusedVariables false

structure CB (w wr : World) (gc g5 : Nat) (key s : List UInt8) : Prop where
  c : Blk wr gc 65 (cipV key)
  s : Blk wr g5 22 s
  r : Blk wr (w.heap.size + 1) 22 (List.replicate 16 0)
  b : Below w.heap.size w wr
  oc : gc < w.heap.size
  o5 : w.heap.size + 1 < g5
section
variable {w wr wx : World} {gc g5 : Nat} {key s : List UInt8}
theorem CB.drew (h : CB w wr gc g5 key s) : CB w wr.drew gc g5 key s := ⟨h.c, h.s, h.r, h.b.drew, h.oc, h.o5⟩
theorem CB.below (h : CB w wr gc g5 key s) (hb : Below wr.heap.size wr wx) : CB w wx gc g5 key s := ⟨h.c.below hb, h.s.below hb, h.r.below hb, h.b.trans (hb.mono h.b.size), h.oc, h.o5⟩
theorem CB.only {g : Nat} (h : CB w wr gc g5 key s) (ho : Only g wr wx) (hg : g5 < g) : CB w wx gc g5 key s := by
  have h1 := h.oc
  have h2 := h.o5
  exact ⟨h.c.only ho (by omega), h.s.only ho (by omega), h.r.only ho (by omega), h.b.trans (ho.below h.b.size (by omega)), h1, h2⟩
theorem CB.other (h : CB w wr gc g5 key s) (g i : Nat) (v : Value) (hg : g5 < g) : CB w (wr.setCell ⟨g, i, none⟩ v) gc g5 key s := by
  have h1 := h.oc
  have h2 := h.o5
  exact ⟨h.c.other _ _ _ (by omega), h.s.other _ _ _ (by omega), h.r.other _ _ _ (by omega), h.b.setCell (by show _ ≤ g; omega) _, h1, h2⟩
theorem CB.next {s' : List UInt8} (h : CB w wr gc g5 key s) (hs : Blk wx g5 22 s') (ho : Only g5 wr wx) : CB w wx gc g5 key s' := by
  have h1 := h.oc
  have h2 := h.o5
  exact ⟨h.c.only ho (by omega), hs, h.r.only ho (by omega), h.b.trans (ho.below h.b.size (by omega)), h1, h2⟩
end
theorem cip_part (key : List UInt8) (hk : key.length = 16) (k : Nat) (h : k < 11) (u : World) (g : Nat) (hB : Blk u g 65 (cipV key)) : u.rangeAt g (k * 16) (bvs (rkV key k)) := by
  have e := hB.rangeMid (k * 16) 16
  unfold cipV at e
  rw [List.drop_append_of_le_length (by rw [keysV_length key hk]; omega), List.take_append_of_le_length (by rw [List.length_drop, keysV_length key hk]; omega), keysV_part key hk k h] at e
  exact e
theorem cip_box (key : List UInt8) (hk : key.length = 16) (x : UInt8) (u : World) (g : Nat) (hB : Blk u g 65 (cipV key)) : u.cell? ⟨g, 176 + (bn x).toNat, none⟩ = some (.int .u8 (bn (boxV x))) := by
  have hx : (bn x).toNat < 256 := by rw [bn_toNat]; exact x.toNat_lt
  rw [hB.cell _ (by rw [cipV_length key hk]; omega)]
  unfold cipV
  rw [List.getD_eq_getElem?_getD, List.getElem?_append_right (by rw [keysV_length key hk]; omega), keysV_length key hk, Nat.add_sub_cancel_left]
  rfl
theorem zeroRow0 (u : World) : (zeroValue 22).run Try.prog u = .ok (.agg (bvs (List.replicate 16 0)).toArray) u := (zero_of_info (n := 16) (by kernel_rfl)).1 u
theorem sub_ref (s : List UInt8) (i : Nat) (h : i < 16) : (subV s).getD i 0 = boxV (s.getD ((i + 4 * (i % 4)) % 16) 0) := by
  unfold subV
  rw [List.getD_eq_getElem?_getD, List.getElem?_map, List.getElem?_range h]
  rfl

attribute [local go_sem] u8_xor'
set_option maxRecDepth 4000 in
set_option maxHeartbeats 4000000 in
theorem cblock_any (key inp : List UInt8) (hk : key.length = 16) (hs : inp.length = 16) (gc : Nat) (w : World) (hc : Blk w gc 65 (cipV key)) :
    Calls Try.prog 37 #[.pointer (some ⟨gc, 0, none⟩), .agg (bvs inp).toArray] w fun e w' => e = .returned (.agg (bvs (blockV key inp)).toArray) ∧ Below w.heap.size w w' := by
  have Hk := Lib.hid hk
  have Hs := Lib.hid hs
  have Hc := Lib.hid hc
  have HR : Hid (∀ k, (roundsV key inp k).length = 16) := roundsV_length key inp hk hs
  have HRK : Hid (∀ k, (rkV key k).length = 16) := rkV_length key hk
  obtain ⟨bl, hbl⟩ : ∃ b, blockV key inp = b := ⟨_, rfl⟩
  have HBL0 : Hid (bl.length = 16) := show _ = _ by rw [← hbl]; exact HR.out 10
  have Hbl := Lib.hid hbl
  rw [hbl]
  clear hk hs hbl hc
  go_enter Try.func37, Try.ntmps37
  go_wp2_with fail
  have I0 : Hid (Blk ((w.alloc (.cells (bvs inp).toArray 22)).alloc (.cells (bvs (List.replicate 16 0)).toArray 22)) w.heap.size 22 inp) := heap_allocs w [_, _] 0 _ rfl
  have R0 : Hid (Blk ((w.alloc (.cells (bvs inp).toArray 22)).alloc (.cells (bvs (List.replicate 16 0)).toArray 22)) (w.heap.size + 1) 22 (List.replicate 16 0)) := heap_allocs w [_, _] 1 _ rfl
  have C0 : Hid (Blk ((w.alloc (.cells (bvs inp).toArray 22)).alloc (.cells (bvs (List.replicate 16 0)).toArray 22)) gc 65 (cipV key)) := (Hc.out.alloc _).alloc _
  have B0 : Hid (Below w.heap.size w ((w.alloc (.cells (bvs inp).toArray 22)).alloc (.cells (bvs (List.replicate 16 0)).toArray 22))) := ((Below.refl _ _).alloc (Nat.le_refl _) _).alloc (by simp) _
  have HGC : Hid (gc < w.heap.size) := Hc.out.lt
  show Code.wp _ _ _ _ ((w.alloc (.cells (bvs inp).toArray 22)).alloc (.cells (bvs (List.replicate 16 0)).toArray 22))
  generalize (w.alloc (.cells (bvs inp).toArray 22)).alloc (.cells (bvs (List.replicate 16 0)).toArray 22) = W0 at I0 R0 C0 B0 ⊢
  rename_i Q0 K0 HK0
  have HF : ∀ (g5 : Nat) (w5 : World), Hid (CB w w5 gc g5 key (roundsV key inp 0)) → K0 ⟨#[.pointer (some ⟨gc, 0, none⟩), .agg (bvs inp).toArray, undef, .pointer (some ⟨w.heap.size, 0, none⟩), .pointer (some ⟨w.heap.size + 1, 0, none⟩), .pointer (some ⟨g5, 0, none⟩), undef, undef, undef, undef, undef, undef, undef, undef, .agg (bvs inp).toArray, .pointer (some ⟨gc, 0, none⟩), .pointer (some ⟨gc, 0, none⟩), .pointer (some ⟨gc, 0, none⟩), .pointer (some ⟨gc, 0, none⟩), .agg (bvs (rkV key 0)).toArray, .agg (bvs (crossV inp (rkV key 0))).toArray, undef, undef, undef, undef, undef, undef, undef, undef, undef, undef, undef, undef, undef, undef, undef, undef, undef, undef, undef, undef, undef, undef, undef, undef, undef, undef, undef, undef, undef, undef, undef, undef, undef, undef, undef, undef, undef, undef, undef, undef, undef, undef, undef, undef, undef, undef, undef, undef, undef, undef, undef, undef, undef, undef, undef, undef, undef, undef, undef, undef, undef, undef, undef, undef, undef, undef, undef, undef, undef, undef, undef, undef, undef, undef, undef, undef, undef, undef, undef, undef, undef, undef, undef, undef, undef, undef, undef, undef, undef, undef, undef, undef, undef, undef, undef, undef, undef, undef, undef, undef, undef, undef, undef, undef, undef, undef, undef, undef], []⟩ w5 := by
    intro g5 w5 HS
    apply HK0
    clear HK0 K0 I0 R0 C0 B0
    go_wp2_with fail
    go_loopw [6] (fun v wr => ∃ k : Nat, 1 ≤ k ∧ k ≤ 11 ∧ v = .int .i64 k ∧ Hid (CB w wr gc g5 key (roundsV key inp (k - 1)))) (fun v _ => 11 - (intOf v).toNat)
    case atStart => exact ⟨1, by omega, by omega, rfl, HS⟩
    case round =>
      clear HS
      obtain ⟨k, hk1, hk, rfl, HS⟩ := hrel
      obtain ⟨s, es⟩ : ∃ s, roundsV key inp (k - 1) = s := ⟨_, rfl⟩
      have HES := Lib.hid es
      rw [es] at HS
      have HSl : Hid (s.length = 16) := show _ = _ by rw [← es]; exact HR.out _
      clear es
      by_cases hkt : k < 11
      · have lk : (k : Int) < 11 := by omega
        obtain ⟨gt, egt⟩ : ∃ g, wr.heap.size = g := ⟨_, rfl⟩
        have HGT : Hid (g5 < gt) := show _ < _ by rw [← egt]; exact HS.out.s.lt
        have SA : Hid (CB w (wr.alloc (.cells (bvs (List.replicate 16 0)).toArray 22)) gc g5 key s) := HS.out.below ((Below.refl _ _).alloc (Nat.le_refl _) _)
        have TA : Hid (Blk (wr.alloc (.cells (bvs (List.replicate 16 0)).toArray 22)) gt 22 (mixr (subV s) (List.replicate 16 0) 0)) := by
          rw [mixr_zero, ← egt]
          exact blk_new _ _ _
        have Hegt := Lib.hid egt
        clear HS egt
        go_wp2_with fail
        rw [Hegt.out]
        go_loopw [8] (fun v wx => ∃ i : Nat, i ≤ 16 ∧ v = .int .i64 i ∧ Hid (CB w wx gc g5 key s) ∧ Hid (Blk wx gt 22 (mixr (subV s) (List.replicate 16 0) i))) (fun v _ => 16 - (intOf v).toNat)
        case atStart => exact ⟨0, by omega, rfl, SA, TA⟩
        case round =>
          clear SA TA
          obtain ⟨i, hi, rfl, HS, HT⟩ := hrel
          by_cases hit : i < 16
          · have li : (i : Int) < 16 := by omega
            obtain ⟨a4, ea4, ha4⟩ : ∃ n : Nat, (i : Int).tmod 4 = (n : Int) ∧ Hid (i % 4 = n) := ⟨i % 4, rfl, rfl⟩
            have la4 : (a4 : Int) < 4 := by have := ha4.out; omega
            have va4 : IntKind.i64.wrap (4 * (a4 : Int)) = 4 * (a4 : Int) := IntWalk.i64_in _ (by omega)
            have vb4 : IntKind.i64.wrap ((i : Int) + 4 * (a4 : Int)) = (i : Int) + 4 * (a4 : Int) := IntWalk.i64_in _ (by omega)
            obtain ⟨q, eq, hq⟩ : ∃ n : Nat, ((i : Int) + 4 * (a4 : Int)).tmod 16 = (n : Int) ∧ Hid ((i + 4 * (i % 4)) % 16 = n) := ⟨(i + 4 * (i % 4)) % 16, by rw [ha4.out, show (i : Int) + 4 * (a4 : Int) = ((i + 4 * a4 : Nat) : Int) by omega]; rfl, rfl⟩
            have lq : (q : Int) < 16 := by have := hq.out; omega
            obtain ⟨x, hx⟩ : ∃ x, s.getD q 0 = x := ⟨_, rfl⟩
            have hxb := bn_bd x
            have ca : wr.cell? ⟨g5, q, none⟩ = some (.int .u8 (bn x)) := by rw [HS.out.s.cell q (by rw [HSl.out]; omega), hx]
            have cb := cip_box key Hk.out x wr gc HS.out.c
            obtain ⟨old, cd⟩ : ∃ old, wr.cell? ⟨gt, i, none⟩ = some old := ⟨_, HT.out.cell i (by rw [mixr_length _ _ _ (by simp [subV_length])]; simp; omega)⟩
            have cf := HT.out.frozen i
            have HN : Hid ((mixr (subV s) (List.replicate 16 0) i).set i (boxV x) = mixr (subV s) (List.replicate 16 0) (i + 1)) := by
              show _ = _
              rw [← mixr_set _ _ _ (by simp [subV_length]) (by simp; omega), sub_ref s i hit, hq.out, hx]
            clear hx
            go_wp2_with fail
            refine wp_tail 15 (by kernel_rfl) (by kernel_rfl) ?_
            simp only [List.take_succ_cons, List.take_zero, List.drop_succ_cons, List.drop_zero]
            repeat still_step
            refine wpStill_nil ?_
            go_wp2
            go_roundw
            case rel =>
              have T2 := HT.out.put i (boxV x)
              rw [HN.out] at T2
              first
                | exact ⟨i + 1, by omega, by go_num, (HS.out.other _ _ _ HGT.out).drew, T2.drew⟩
                | ((repeat apply Exists.intro); exact ⟨⟨i + 1, by omega, by go_num, (HS.out.other _ _ _ HGT.out).drew, T2.drew⟩, rfl⟩)
            case measure => simp [intOf]; omega
          · obtain rfl : i = 16 := by omega
            rw [mixr_full _ _ _ (by simp [subV_length]) (by simp)] at HT
            obtain ⟨ub, hu⟩ : ∃ u, subV s = u := ⟨_, rfl⟩
            have Hu := Lib.hid hu
            rw [hu] at HT
            have Hul : Hid (ub.length = 16) := show _ = _ by rw [← hu, subV_length]
            clear hu
            by_cases hk10 : k < 10
            · have tk : decide ((k : Int) < 10) = true := by simp; omega
              have HNR : Hid (crossV (mixV16 ub) (rkV key k) = roundsV key inp k) := by
                show _ = _
                obtain ⟨m, rfl⟩ : ∃ m, k = m + 1 := ⟨k - 1, by omega⟩
                have h := HES.out
                rw [Nat.add_sub_cancel] at h
                rw [roundsV, if_pos (by omega), h, Hu.out]
              have HXl := Lib.hid (mixV16_length ub)
              have HT0 : Hid (Blk wr gt 22 (mixr (mixV16 ub) ub 0)) := by rw [mixr_zero]; exact HT
              clear HT
              go_wp2_with fail
              go_loopw [9] (fun v wx => ∃ c d : Nat, 4 * c = d ∧ c ≤ 4 ∧ v = .int .i64 d ∧ Hid (CB w wx gc g5 key s) ∧ Hid (Blk wx gt 22 (mixr (mixV16 ub) ub d))) (fun v _ => 16 - (intOf v).toNat)
              case atStart => exact ⟨0, 0, rfl, by omega, rfl, HS, HT0⟩
              case round =>
                clear HS HT0
                obtain ⟨c, d, hcd, hc, rfl, HS, HT⟩ := hrel
                have HCD := Lib.hid hcd
                by_cases hct : c < 4
                · have hd16 : d < 16 := by omega
                  have td : decide ((d : Int) < 16) = true := by simp; omega
                  have HML : Hid (∀ i, (mixr (mixV16 ub) ub i).length = 16) := fun i => by rw [mixr_length _ _ _ (by rw [mixV16_length, Hul.out]), Hul.out]
                  have HMO : Hid (∀ i j, j ≤ i → i < 16 → (mixr (mixV16 ub) ub j).getD i 0 = ub.getD i 0) := fun i j hj hi => mixr_old _ _ _ _ (by rw [mixV16_length, Hul.out]) (by rw [Hul.out]; omega) hj
                  obtain ⟨d1, ed1, hd1⟩ : ∃ n : Nat, (d : Int) + 1 = (n : Int) ∧ Hid (d + 1 = n) := ⟨d + 1, by omega, rfl⟩
                  obtain ⟨d2, ed2, hd2⟩ : ∃ n : Nat, (d : Int) + 2 = (n : Int) ∧ Hid (d + 2 = n) := ⟨d + 2, by omega, rfl⟩
                  obtain ⟨d3, ed3, hd3⟩ : ∃ n : Nat, (d : Int) + 3 = (n : Int) ∧ Hid (d + 3 = n) := ⟨d + 3, by omega, rfl⟩
                  obtain ⟨x0, E0⟩ : ∃ x, Hid (ub.getD d 0 = x) := ⟨_, rfl⟩
                  obtain ⟨x1, E1⟩ : ∃ x, Hid (ub.getD (d + 1) 0 = x) := ⟨_, rfl⟩
                  obtain ⟨x2, E2⟩ : ∃ x, Hid (ub.getD (d + 2) 0 = x) := ⟨_, rfl⟩
                  obtain ⟨x3, E3⟩ : ∃ x, Hid (ub.getD (d + 3) 0 = x) := ⟨_, rfl⟩
                  have c0 : wr.cell? ⟨gt, d, none⟩ = some (.int .u8 (bn x0)) := by rw [HT.out.cell d (by rw [HML.out]; omega), HMO.out _ _ (by omega) (by omega), E0.out]
                  have c1 : wr.cell? ⟨gt, d1, none⟩ = some (.int .u8 (bn x1)) := by rw [HT.out.cell d1 (by rw [HML.out]; omega), HMO.out _ _ (by omega) (by omega), ← hd1.out, E1.out]
                  have c2 : wr.cell? ⟨gt, d2, none⟩ = some (.int .u8 (bn x2)) := by rw [HT.out.cell d2 (by rw [HML.out]; omega), HMO.out _ _ (by omega) (by omega), ← hd2.out, E2.out]
                  have c3 : wr.cell? ⟨gt, d3, none⟩ = some (.int .u8 (bn x3)) := by rw [HT.out.cell d3 (by rw [HML.out]; omega), HMO.out _ _ (by omega) (by omega), ← hd3.out, E3.out]
                  have l0 : (d : Int) < 16 := by omega
                  have l1 : (d1 : Int) < 16 := by omega
                  have l2 : (d2 : Int) < 16 := by omega
                  have l3 : (d3 : Int) < 16 := by omega
                  have v1 : IntKind.i64.wrap (d1 : Int) = (d1 : Int) := IntWalk.i64_in _ (by omega)
                  have v2 : IntKind.i64.wrap (d2 : Int) = (d2 : Int) := IntWalk.i64_in _ (by omega)
                  have v3 : IntKind.i64.wrap (d3 : Int) = (d3 : Int) := IntWalk.i64_in _ (by omega)
                  have HPS : Hid (∀ j y, j < 4 → (mixV16 ub).getD (d + j) 0 = y → (mixr (mixV16 ub) ub (d + j)).set (d + j) y = mixr (mixV16 ub) ub (d + j + 1)) := fun j y hj hy => by
                    rw [← hy]
                    exact mixr_set _ _ _ (by rw [mixV16_length, Hul.out]) (by rw [Hul.out]; omega)
                  have HMG : Hid (∀ j, j < 4 → (mixV16 ub).getD (d + j) 0 = (colV x0 x1 x2 x3).getD j 0) := fun j hj => by
                    have e0 := E0.out
                    have e1 := E1.out
                    have e2 := E2.out
                    have e3 := E3.out
                    rw [← hcd, Nat.mul_comm 4 c] at e0 e1 e2 e3
                    rw [← hcd, Nat.mul_comm 4 c, mix_at ub c j hct hj, e0, e1, e2, e3]
                  have P0 : Hid ((mixr (mixV16 ub) ub d).set d (dblV x0 ^^^ dblV x1 ^^^ x1 ^^^ x2 ^^^ x3) = mixr (mixV16 ub) ub d1) := show _ = _ by rw [← hd1.out]; exact HPS.out 0 _ (by omega) (HMG.out 0 (by omega))
                  have P1 : Hid ((mixr (mixV16 ub) ub d1).set d1 (x0 ^^^ dblV x1 ^^^ dblV x2 ^^^ x2 ^^^ x3) = mixr (mixV16 ub) ub d2) := show _ = _ by rw [← hd1.out, ← hd2.out]; exact HPS.out 1 _ (by omega) (HMG.out 1 (by omega))
                  have P2 : Hid ((mixr (mixV16 ub) ub d2).set d2 (x0 ^^^ x1 ^^^ dblV x2 ^^^ dblV x3 ^^^ x3) = mixr (mixV16 ub) ub d3) := show _ = _ by rw [← hd2.out, ← hd3.out]; exact HPS.out 2 _ (by omega) (HMG.out 2 (by omega))
                  have P3 : Hid ((mixr (mixV16 ub) ub d3).set d3 (dblV x0 ^^^ x0 ^^^ x1 ^^^ x2 ^^^ dblV x3) = mixr (mixV16 ub) ub (d + 4)) := show _ = _ by rw [← hd3.out]; exact HPS.out 3 _ (by omega) (HMG.out 3 (by omega))
                  clear hcd
                  go_wp2_with fail
                  refine wp_tail 18 (by kernel_rfl) (by kernel_rfl) ?_
                  simp only [List.take_succ_cons, List.take_zero, List.drop_succ_cons, List.drop_zero]
                  repeat still_step
                  refine wpStill_nil ?_
                  go_wp2
                  have HS1 : Hid (CB w wr.drew gc g5 key s) := HS.out.drew
                  have HT1 : Hid (Blk wr.drew gt 22 (mixr (mixV16 ub) ub d)) := HT
                  clear c0 c1 c2 c3 HS HT
                  refine wp_held (S := fun _ => True) (by kernel_rfl) ?_
                  refine wpAnyH_take (i := 0) (v := ?_) rfl (by kernel_rfl) (by kernel_rfl) (by kernel_rfl) (fun _ _ _ h => h) (Or.inl ⟨by rfl, ?_⟩) trivial ?_
                  rotate_left 1
                  · intro _ _
                    go_simp
                    first | done | with_reducible rfl
                  go_simp
                  refine wpAnyH_take (i := 1) (v := ?_) rfl (by kernel_rfl) (by kernel_rfl) (by kernel_rfl) (fun _ _ _ h => h) (Or.inl ⟨by rfl, ?_⟩) trivial ?_
                  rotate_left 1
                  · intro _ _
                    go_simp
                    first | done | with_reducible rfl
                  go_simp
                  refine wpAnyH_take (i := 2) (v := ?_) rfl (by kernel_rfl) (by kernel_rfl) (by kernel_rfl) (fun _ _ _ h => h) (Or.inl ⟨by rfl, ?_⟩) trivial ?_
                  rotate_left 1
                  · intro _ _
                    go_simp
                    first | done | with_reducible rfl
                  go_simp
                  refine wpAnyH_take (i := 3) (v := ?_) rfl (by kernel_rfl) (by kernel_rfl) (by kernel_rfl) (fun _ _ _ h => h) (Or.inl ⟨by rfl, ?_⟩) trivial ?_
                  rotate_left 1
                  · intro _ _
                    go_simp
                    first | done | with_reducible rfl
                  go_simp
                  refine wpAnyH_take (i := 4) (v := ?_) rfl (by kernel_rfl) (by kernel_rfl) (by kernel_rfl) (fun _ _ _ h => h) (Or.inl ⟨by rfl, ?_⟩) trivial ?_
                  rotate_left 1
                  · intro _ _
                    go_simp
                    first | done | with_reducible rfl
                  go_simp
                  refine wpAnyH_take (i := 5) (v := ?_) rfl (by kernel_rfl) (by kernel_rfl) (by kernel_rfl) (fun _ _ _ h => h) (Or.inl ⟨by rfl, ?_⟩) trivial ?_
                  rotate_left 1
                  · intro _ _
                    go_simp
                    first | done | with_reducible rfl
                  go_simp
                  refine wpAnyH_take (i := 6) (v := ?_) rfl (by kernel_rfl) (by kernel_rfl) (by kernel_rfl) (fun _ _ _ h => h) (Or.inl ⟨by rfl, ?_⟩) trivial ?_
                  rotate_left 1
                  · intro _ _
                    go_simp
                    first | done | with_reducible rfl
                  go_simp
                  refine wpAnyH_take (i := 7) (v := ?_) rfl (by kernel_rfl) (by kernel_rfl) (by kernel_rfl) (fun _ _ _ h => h) (Or.inl ⟨by rfl, ?_⟩) trivial ?_
                  rotate_left 1
                  · intro _ _
                    go_simp
                    first | done | with_reducible rfl
                  go_simp
                  refine wpAnyH_take (i := 9) (v := ?_) rfl (by kernel_rfl) (by kernel_rfl) (by kernel_rfl) (fun _ _ _ h => h) (Or.inl ⟨by rfl, ?_⟩) trivial ?_
                  rotate_left 1
                  · intro _ _
                    go_simp
                    first | done | with_reducible rfl
                  go_simp
                  refine wpAnyH_take (i := 12) (v := ?_) rfl (by kernel_rfl) (by kernel_rfl) (by kernel_rfl) (fun _ _ _ h => h) (Or.inl ⟨by rfl, ?_⟩) trivial ?_
                  rotate_left 1
                  · intro _ _
                    go_simp
                    first | done | with_reducible rfl
                  go_simp
                  refine wpAnyH_take (i := 14) (v := ?_) rfl (by kernel_rfl) (by kernel_rfl) (by kernel_rfl) (fun _ _ _ h => h) (Or.inl ⟨by rfl, ?_⟩) trivial ?_
                  rotate_left 1
                  · intro _ _
                    go_simp
                    first | done | with_reducible rfl
                  go_simp
                  refine wpAnyH_take (i := 16) (v := ?_) rfl (by kernel_rfl) (by kernel_rfl) (by kernel_rfl) (fun _ _ _ h => h) (Or.inl ⟨by rfl, ?_⟩) trivial ?_
                  rotate_left 1
                  · intro _ _
                    go_simp
                    first | done | with_reducible rfl
                  go_simp
                  refine wpAnyH_take (i := 18) (v := ?_) rfl (by kernel_rfl) (by kernel_rfl) (by kernel_rfl) (fun _ _ _ h => h) (Or.inl ⟨by rfl, ?_⟩) trivial ?_
                  rotate_left 1
                  · intro _ _
                    go_simp
                    first | done | with_reducible rfl
                  go_simp
                  refine wpAnyH_take (i := 19) (v := ?_) rfl (by kernel_rfl) (by kernel_rfl) (by kernel_rfl) (fun _ _ _ h => h) (Or.inl ⟨by rfl, ?_⟩) trivial ?_
                  rotate_left 1
                  · intro _ _
                    go_simp
                    first | done | with_reducible rfl
                  go_simp
                  refine wpAnyH_take (i := 22) (v := ?_) rfl (by kernel_rfl) (by kernel_rfl) (by kernel_rfl) (fun _ _ _ h => h) (Or.inl ⟨by rfl, ?_⟩) trivial ?_
                  rotate_left 1
                  · intro _ _
                    go_simp
                    first | done | with_reducible rfl
                  go_simp
                  refine wpAnyH_take (i := 25) (v := ?_) rfl (by kernel_rfl) (by kernel_rfl) (by kernel_rfl) (fun _ _ _ h => h) (Or.inl ⟨by rfl, ?_⟩) trivial ?_
                  rotate_left 1
                  · intro _ _
                    go_simp
                    first | done | with_reducible rfl
                  go_simp
                  refine wpAnyH_take (i := 27) (v := ?_) rfl (by kernel_rfl) (by kernel_rfl) (by kernel_rfl) (fun _ _ _ h => h) (Or.inl ⟨by rfl, ?_⟩) trivial ?_
                  rotate_left 1
                  · intro _ _
                    go_simp
                    first | done | with_reducible rfl
                  go_simp
                  refine wpAnyH_take (i := 29) (v := ?_) rfl (by kernel_rfl) (by kernel_rfl) (by kernel_rfl) (fun _ _ _ h => h) (Or.inl ⟨by rfl, ?_⟩) trivial ?_
                  rotate_left 1
                  · intro _ _
                    go_simp
                    first | done | with_reducible rfl
                  go_simp
                  refine wpAnyH_take (i := 30) (v := ?_) rfl (by kernel_rfl) (by kernel_rfl) (by kernel_rfl) (fun _ _ _ h => h) (Or.inl ⟨by rfl, ?_⟩) trivial ?_
                  rotate_left 1
                  · intro _ _
                    go_simp
                    first | done | with_reducible rfl
                  go_simp
                  refine wpAnyH_take (i := 31) (v := ?_) rfl (by kernel_rfl) (by kernel_rfl) (by kernel_rfl) (fun _ _ _ h => h) (Or.inl ⟨by rfl, ?_⟩) trivial ?_
                  rotate_left 1
                  · intro _ _
                    go_simp
                    first | done | with_reducible rfl
                  go_simp
                  refine wpAnyH_take (i := 32) (v := ?_) rfl (by kernel_rfl) (by kernel_rfl) (by kernel_rfl) (fun _ _ _ h => h) (Or.inl ⟨by rfl, ?_⟩) trivial ?_
                  rotate_left 1
                  · intro _ _
                    go_simp
                    first | done | with_reducible rfl
                  go_simp
                  refine wpAnyH_take (i := 35) (v := ?_) rfl (by kernel_rfl) (by kernel_rfl) (by kernel_rfl) (fun _ _ _ h => h) (Or.inl ⟨by rfl, ?_⟩) trivial ?_
                  rotate_left 1
                  · intro _ _
                    go_simp
                    first | done | with_reducible rfl
                  go_simp
                  refine wpAnyH_take (i := 38) (v := ?_) rfl (by kernel_rfl) (by kernel_rfl) (by kernel_rfl) (fun _ _ _ h => h) (Or.inl ⟨by rfl, ?_⟩) trivial ?_
                  rotate_left 1
                  · intro _ _
                    go_simp
                    first | done | with_reducible rfl
                  go_simp
                  refine wpAnyH_take (i := 40) (v := ?_) rfl (by kernel_rfl) (by kernel_rfl) (by kernel_rfl) (fun _ _ _ h => h) (Or.inl ⟨by rfl, ?_⟩) trivial ?_
                  rotate_left 1
                  · intro _ _
                    go_simp
                    first | done | with_reducible rfl
                  go_simp
                  refine wpAnyH_take (i := 42) (v := ?_) rfl (by kernel_rfl) (by kernel_rfl) (by kernel_rfl) (fun _ _ _ h => h) (Or.inl ⟨by rfl, ?_⟩) trivial ?_
                  rotate_left 1
                  · intro _ _
                    go_simp
                    first | done | with_reducible rfl
                  go_simp
                  refine wpAnyH_take (i := 44) (v := ?_) rfl (by kernel_rfl) (by kernel_rfl) (by kernel_rfl) (fun _ _ _ h => h) (Or.inl ⟨by rfl, ?_⟩) trivial ?_
                  rotate_left 1
                  · intro _ _
                    go_simp
                    first | done | with_reducible rfl
                  go_simp
                  refine wpAnyH_take (i := 46) (v := ?_) rfl (by kernel_rfl) (by kernel_rfl) (by kernel_rfl) (fun _ _ _ h => h) (Or.inl ⟨by rfl, ?_⟩) trivial ?_
                  rotate_left 1
                  · intro _ _
                    go_simp
                    first | done | with_reducible rfl
                  go_simp
                  refine wpAnyH_take (i := 48) (v := ?_) rfl (by kernel_rfl) (by kernel_rfl) (by kernel_rfl) (fun _ _ _ h => h) (Or.inl ⟨by rfl, ?_⟩) trivial ?_
                  rotate_left 1
                  · intro _ _
                    go_simp
                    first | done | with_reducible rfl
                  go_simp
                  refine wpAnyH_oneG 8 (by kernel_rfl) rfl (by rfl) ?_
                  go_wp2_with fail
                  (with_reducible refine (rdbl_any _ _).mono ?_)
                  rintro _ _ ⟨rfl, rfl⟩
                  refine wpAnyH_oneG 10 (by kernel_rfl) rfl (by rfl) ?_
                  go_wp2_with fail
                  (with_reducible refine (rdbl_any _ _).mono ?_)
                  rintro _ _ ⟨rfl, rfl⟩
                  refine wpAnyH_take (i := 11) (v := ?_) rfl (by kernel_rfl) (by kernel_rfl) (by kernel_rfl) (fun _ _ _ h => h) (Or.inl ⟨by rfl, ?_⟩) trivial ?_
                  rotate_left 1
                  · intro _ _
                    go_simp
                    first | done | with_reducible rfl
                  go_simp
                  refine wpAnyH_take (i := 13) (v := ?_) rfl (by kernel_rfl) (by kernel_rfl) (by kernel_rfl) (fun _ _ _ h => h) (Or.inl ⟨by rfl, ?_⟩) trivial ?_
                  rotate_left 1
                  · intro _ _
                    go_simp
                    first | done | with_reducible rfl
                  go_simp
                  refine wpAnyH_take (i := 15) (v := ?_) rfl (by kernel_rfl) (by kernel_rfl) (by kernel_rfl) (fun _ _ _ h => h) (Or.inl ⟨by rfl, ?_⟩) trivial ?_
                  rotate_left 1
                  · intro _ _
                    go_simp
                    first | done | with_reducible rfl
                  go_simp
                  refine wpAnyH_take (i := 17) (v := ?_) rfl (by kernel_rfl) (by kernel_rfl) (by kernel_rfl) (fun _ _ _ h => h) (Or.inl ⟨by rfl, ?_⟩) trivial ?_
                  rotate_left 1
                  · intro _ _
                    go_simp
                    first | done | with_reducible rfl
                  go_simp
                  refine wpAnyH_take (i := 51) (v := ?_) rfl (by kernel_rfl) (by kernel_rfl) (by kernel_rfl) (fun _ _ _ h => h) (Or.inl ⟨by rfl, ?_⟩) trivial ?_
                  rotate_left 1
                  · intro _ _
                    go_simp
                    first | done | with_reducible rfl
                  go_simp
                  refine wpAnyH_oneG 20 (by kernel_rfl) rfl (by rfl) ?_
                  go_wp2_with fail
                  (with_reducible refine (rdbl_any _ _).mono ?_)
                  rintro _ _ ⟨rfl, rfl⟩
                  refine wpAnyH_take (i := 21) (v := ?_) rfl (by kernel_rfl) (by kernel_rfl) (by kernel_rfl) (fun _ _ _ h => h) (Or.inl ⟨by rfl, ?_⟩) trivial ?_
                  rotate_left 1
                  · intro _ _
                    go_simp
                    first | done | with_reducible rfl
                  go_simp
                  refine wpAnyH_oneG 23 (by kernel_rfl) rfl (by rfl) ?_
                  go_wp2_with fail
                  (with_reducible refine (rdbl_any _ _).mono ?_)
                  rintro _ _ ⟨rfl, rfl⟩
                  refine wpAnyH_take (i := 24) (v := ?_) rfl (by kernel_rfl) (by kernel_rfl) (by kernel_rfl) (fun _ _ _ h => h) (Or.inl ⟨by rfl, ?_⟩) trivial ?_
                  rotate_left 1
                  · intro _ _
                    go_simp
                    first | done | with_reducible rfl
                  go_simp
                  refine wpAnyH_take (i := 26) (v := ?_) rfl (by kernel_rfl) (by kernel_rfl) (by kernel_rfl) (fun _ _ _ h => h) (Or.inl ⟨by rfl, ?_⟩) trivial ?_
                  rotate_left 1
                  · intro _ _
                    go_simp
                    first | done | with_reducible rfl
                  go_simp
                  refine wpAnyH_take (i := 28) (v := ?_) rfl (by kernel_rfl) (by kernel_rfl) (by kernel_rfl) (fun _ _ _ h => h) (Or.inl ⟨by rfl, ?_⟩) trivial ?_
                  rotate_left 1
                  · intro _ _
                    go_simp
                    first | done | with_reducible rfl
                  go_simp
                  refine wpAnyH_oneG 33 (by kernel_rfl) rfl (by rfl) ?_
                  go_wp2_with fail
                  (with_reducible refine (rdbl_any _ _).mono ?_)
                  rintro _ _ ⟨rfl, rfl⟩
                  refine wpAnyH_take (i := 34) (v := ?_) rfl (by kernel_rfl) (by kernel_rfl) (by kernel_rfl) (fun _ _ _ h => h) (Or.inl ⟨by rfl, ?_⟩) trivial ?_
                  rotate_left 1
                  · intro _ _
                    go_simp
                    first | done | with_reducible rfl
                  go_simp
                  refine wpAnyH_oneG 36 (by kernel_rfl) rfl (by rfl) ?_
                  go_wp2_with fail
                  (with_reducible refine (rdbl_any _ _).mono ?_)
                  rintro _ _ ⟨rfl, rfl⟩
                  refine wpAnyH_take (i := 37) (v := ?_) rfl (by kernel_rfl) (by kernel_rfl) (by kernel_rfl) (fun _ _ _ h => h) (Or.inl ⟨by rfl, ?_⟩) trivial ?_
                  rotate_left 1
                  · intro _ _
                    go_simp
                    first | done | with_reducible rfl
                  go_simp
                  refine wpAnyH_take (i := 39) (v := ?_) rfl (by kernel_rfl) (by kernel_rfl) (by kernel_rfl) (fun _ _ _ h => h) (Or.inl ⟨by rfl, ?_⟩) trivial ?_
                  rotate_left 1
                  · intro _ _
                    go_simp
                    first | done | with_reducible rfl
                  go_simp
                  refine wpAnyH_oneG 41 (by kernel_rfl) rfl (by rfl) ?_
                  go_wp2_with fail
                  (with_reducible refine (rdbl_any _ _).mono ?_)
                  rintro _ _ ⟨rfl, rfl⟩
                  refine wpAnyH_take (i := 43) (v := ?_) rfl (by kernel_rfl) (by kernel_rfl) (by kernel_rfl) (fun _ _ _ h => h) (Or.inl ⟨by rfl, ?_⟩) trivial ?_
                  rotate_left 1
                  · intro _ _
                    go_simp
                    first | done | with_reducible rfl
                  go_simp
                  refine wpAnyH_take (i := 45) (v := ?_) rfl (by kernel_rfl) (by kernel_rfl) (by kernel_rfl) (fun _ _ _ h => h) (Or.inl ⟨by rfl, ?_⟩) trivial ?_
                  rotate_left 1
                  · intro _ _
                    go_simp
                    first | done | with_reducible rfl
                  go_simp
                  refine wpAnyH_take (i := 47) (v := ?_) rfl (by kernel_rfl) (by kernel_rfl) (by kernel_rfl) (fun _ _ _ h => h) (Or.inl ⟨by rfl, ?_⟩) trivial ?_
                  rotate_left 1
                  · intro _ _
                    go_simp
                    first | done | with_reducible rfl
                  go_simp
                  refine wpAnyH_oneG 49 (by kernel_rfl) rfl (by rfl) ?_
                  go_wp2_with fail
                  (with_reducible refine (rdbl_any _ _).mono ?_)
                  rintro _ _ ⟨rfl, rfl⟩
                  refine wpAnyH_take (i := 50) (v := ?_) rfl (by kernel_rfl) (by kernel_rfl) (by kernel_rfl) (fun _ _ _ h => h) (Or.inl ⟨by rfl, ?_⟩) trivial ?_
                  rotate_left 1
                  · intro _ _
                    go_simp
                    first | done | with_reducible rfl
                  go_simp
                  refine wpAnyH_oneG 52 (by kernel_rfl) rfl (by rfl) ?_
                  refine wp_put_blk 5 (.tmp 116) (.tmp 82) rfl gt d (dblV x0 ^^^ dblV x1 ^^^ x1 ^^^ x2 ^^^ x3) (by with_unfolding_all rfl) (by with_unfolding_all rfl) 22 _ HT1.out.drew size1 (by rw [HML.out]; omega) ?_
                  rw [P0.out]
                  intro m0 M0 N0
                  refine ⟨trivial, ?_⟩
                  refine wpAnyH_take (i := 53) (v := ?_) rfl (by kernel_rfl) (by kernel_rfl) (by kernel_rfl) (fun _ _ _ h => h) (Or.inl ⟨by rfl, ?_⟩) trivial ?_
                  rotate_left 1
                  · intro _ _
                    go_simp
                    first | done | with_reducible rfl
                  go_simp
                  refine wpAnyH_oneG 54 (by kernel_rfl) rfl (by rfl) ?_
                  refine wp_put_blk 5 (.tmp 117) (.tmp 93) rfl gt d1 (x0 ^^^ dblV x1 ^^^ dblV x2 ^^^ x2 ^^^ x3) (by with_unfolding_all rfl) (by with_unfolding_all rfl) 22 _ M0.out size1 (by rw [HML.out]; omega) ?_
                  rw [P1.out]
                  intro m1 M1 N1
                  refine ⟨trivial, ?_⟩
                  refine wpAnyH_take (i := 55) (v := ?_) rfl (by kernel_rfl) (by kernel_rfl) (by kernel_rfl) (fun _ _ _ h => h) (Or.inl ⟨by rfl, ?_⟩) trivial ?_
                  rotate_left 1
                  · intro _ _
                    go_simp
                    first | done | with_reducible rfl
                  go_simp
                  refine wpAnyH_oneG 56 (by kernel_rfl) rfl (by rfl) ?_
                  refine wp_put_blk 5 (.tmp 118) (.tmp 104) rfl gt d2 (x0 ^^^ x1 ^^^ dblV x2 ^^^ dblV x3 ^^^ x3) (by with_unfolding_all rfl) (by with_unfolding_all rfl) 22 _ M1.out size1 (by rw [HML.out]; omega) ?_
                  rw [P2.out]
                  intro m2 M2 N2
                  refine ⟨trivial, ?_⟩
                  refine wpAnyH_take (i := 57) (v := ?_) rfl (by kernel_rfl) (by kernel_rfl) (by kernel_rfl) (fun _ _ _ h => h) (Or.inl ⟨by rfl, ?_⟩) trivial ?_
                  rotate_left 1
                  · intro _ _
                    go_simp
                    first | done | with_reducible rfl
                  go_simp
                  refine wpAnyH_oneG 58 (by kernel_rfl) rfl (by rfl) ?_
                  refine wp_put_blk 5 (.tmp 119) (.tmp 115) rfl gt d3 (dblV x0 ^^^ x0 ^^^ x1 ^^^ x2 ^^^ dblV x3) (by with_unfolding_all rfl) (by with_unfolding_all rfl) 22 _ M2.out size1 (by rw [HML.out]; omega) ?_
                  rw [P3.out]
                  intro m3 M3 N3
                  refine ⟨trivial, ?_⟩
                  refine wpAnyH_done (by kernel_rfl) ?_ _
                  go_wp2_with fail
                  go_roundw
                  case rel =>
                    have hgt := HGT.out
                    have S4 : Hid (CB w m3 gc g5 key s) := (((HS1.out.drew.only N0.out hgt).only N1.out hgt).only N2.out hgt).only N3.out hgt
                    first
                      | exact ⟨c + 1, d + 4, by have := HCD.out; omega, by omega, by go_num, S4, M3⟩
                      | ((repeat apply Exists.intro); exact ⟨⟨c + 1, d + 4, by have := HCD.out; omega, by omega, by go_num, S4, M3⟩, rfl⟩)
                  case measure => simp [intOf]; omega
                · obtain rfl : c = 4 := by omega
                  obtain rfl : d = 16 := by omega
                  rw [mixr_full _ _ _ (by rw [mixV16_length, Hul.out]) (by rw [Hul.out]; exact Nat.le_refl _)] at HT
                  clear hcd HCD
                  go_wp2_with fail
                  have hS : Blk wr.drew gt 22 (mixV16 ub) ∧ Blk wr.drew gc 65 (cipV key) := ⟨HT.out, HS.out.c⟩
                  have HS0 : Hid (CB w wr.drew gc g5 key s) := HS.out.drew
                  clear HS HT
                  refine wp_held (S := fun u => Blk u gt 22 (mixV16 ub) ∧ Blk u gc 65 (cipV key)) (by kernel_rfl) ?_
                  refine wpAnyH_pickG 0 (.agg (bvs (mixV16 ub)).toArray) rfl (by kernel_rfl) (by kernel_rfl) (by kernel_rfl) (by rfl) (fun _ _ _ h => h) (fun u hu => exec_load_part u 22 (.tmp 7) rfl gt 0 (by with_unfolding_all rfl) (mixV16 ub) hu.1.range 16 5 Try.underlying22 16 sizeRow HXl.out) hS ?_
                  go_simp
                  refine wpAnyH_take (i := 1) (v := ?_) rfl (by kernel_rfl) (by kernel_rfl) (by kernel_rfl) (fun _ _ _ h => h) (Or.inl ⟨by rfl, ?_⟩) hS ?_
                  rotate_left 1
                  · intro u hu
                    go_simp
                    first | done | with_reducible rfl
                  go_simp
                  refine wpAnyH_take (i := 2) (v := ?_) rfl (by kernel_rfl) (by kernel_rfl) (by kernel_rfl) (fun _ _ _ h => h) (Or.inl ⟨by rfl, ?_⟩) hS ?_
                  rotate_left 1
                  · intro u hu
                    go_simp
                    first | done | with_reducible rfl
                  go_simp
                  refine wpAnyH_take (i := 3) (v := ?_) rfl (by kernel_rfl) (by kernel_rfl) (by kernel_rfl) (fun _ _ _ h => h) (Or.inl ⟨by rfl, ?_⟩) hS ?_
                  rotate_left 1
                  · intro u hu
                    go_simp
                    first | done | with_reducible rfl
                  go_simp
                  refine wpAnyH_take (i := 4) (v := ?_) rfl (by kernel_rfl) (by kernel_rfl) (by kernel_rfl) (fun _ _ _ h => h) (Or.inl ⟨by rfl, ?_⟩) hS ?_
                  rotate_left 1
                  · intro u hu
                    go_simp
                    first | done | with_reducible rfl
                  go_simp
                  refine wpAnyH_take (i := 5) (v := ?_) rfl (by kernel_rfl) (by kernel_rfl) (by kernel_rfl) (fun _ _ _ h => h) (Or.inl ⟨by rfl, ?_⟩) hS ?_
                  rotate_left 1
                  · intro u hu
                    go_simp
                    first | done | with_reducible rfl
                  go_simp
                  refine wpAnyH_pickG 6 (.agg (bvs (rkV key k)).toArray) rfl (by kernel_rfl) (by kernel_rfl) (by kernel_rfl) (by rfl) (fun _ _ _ h => h) (fun u hu => exec_load_part u 22 (.tmp 125) rfl gc (k * 16) (by with_unfolding_all rfl) (rkV key k) (cip_part key Hk.out k (by omega) u gc hu.2) 16 5 Try.underlying22 16 sizeRow (HRK.out k)) hS ?_
                  go_simp
                  refine wpAnyH_oneG 7 (by kernel_rfl) rfl (by rfl) ?_
                  go_wp2_with fail
                  (with_reducible refine (rcross_any (mixV16 ub) (rkV key k) HXl.out (HRK.out k) _).mono ?_)
                  rintro e8 w8 ⟨rfl, hb8⟩
                  have S8 : Hid (CB w w8 gc g5 key s) := HS0.out.below hb8
                  have T8 : Hid (Blk w8 gt 22 (mixV16 ub)) := hS.1.below hb8
                  refine ⟨⟨T8.out, S8.out.c⟩, ?_⟩
                  clear hS hb8 HS0
                  rw [HNR.out]
                  refine wpAnyH_oneG 8 (by kernel_rfl) rfl (by rfl) ?_
                  refine wp_store_blk 22 (.tmp 5) (.tmp 127) rfl g5 (roundsV key inp k) (by with_unfolding_all rfl) (by with_unfolding_all rfl) 22 s S8.out.s 16 sizeRow (HR.out k) HSl.out ?_
                  intro w9 S9 O9
                  have hgt := HGT.out
                  have C9 : Hid (CB w w9 gc g5 key (roundsV key inp k)) := S8.out.next S9.out O9.out
                  refine ⟨⟨T8.out.only O9.out (by omega), C9.out.c⟩, ?_⟩
                  refine wpAnyH_done (by kernel_rfl) ?_ _
                  clear S8 T8 S9 O9 hgt
                  go_wp2_with fail
                  go_roundw
                  case rel =>
                    first
                      | exact ⟨k + 1, by omega, by omega, by go_num, C9⟩
                      | ((repeat apply Exists.intro); exact ⟨⟨k + 1, by omega, by omega, by go_num, C9⟩, rfl⟩)
                  case measure => simp [intOf]; omega
            · have tk : decide ((k : Int) < 10) = false := by simp; omega
              have HNR : Hid (crossV ub (rkV key k) = roundsV key inp k) := by
                show _ = _
                obtain ⟨m, rfl⟩ : ∃ m, k = m + 1 := ⟨k - 1, by omega⟩
                have h := HES.out
                rw [Nat.add_sub_cancel] at h
                rw [roundsV, if_neg (by omega), h, Hu.out]
              go_wp2_with fail
              have hS : Blk wr.drew gt 22 ub ∧ Blk wr.drew gc 65 (cipV key) := ⟨HT.out, HS.out.c⟩
              have HS0 : Hid (CB w wr.drew gc g5 key s) := HS.out.drew
              clear HS HT
              refine wp_held (S := fun u => Blk u gt 22 ub ∧ Blk u gc 65 (cipV key)) (by kernel_rfl) ?_
              refine wpAnyH_pickG 0 (.agg (bvs ub).toArray) rfl (by kernel_rfl) (by kernel_rfl) (by kernel_rfl) (by rfl) (fun _ _ _ h => h) (fun u hu => exec_load_part u 22 (.tmp 7) rfl gt 0 (by with_unfolding_all rfl) ub hu.1.range 16 5 Try.underlying22 16 sizeRow Hul.out) hS ?_
              go_simp
              refine wpAnyH_take (i := 1) (v := ?_) rfl (by kernel_rfl) (by kernel_rfl) (by kernel_rfl) (fun _ _ _ h => h) (Or.inl ⟨by rfl, ?_⟩) hS ?_
              rotate_left 1
              · intro u hu
                go_simp
                first | done | with_reducible rfl
              go_simp
              refine wpAnyH_take (i := 2) (v := ?_) rfl (by kernel_rfl) (by kernel_rfl) (by kernel_rfl) (fun _ _ _ h => h) (Or.inl ⟨by rfl, ?_⟩) hS ?_
              rotate_left 1
              · intro u hu
                go_simp
                first | done | with_reducible rfl
              go_simp
              refine wpAnyH_take (i := 3) (v := ?_) rfl (by kernel_rfl) (by kernel_rfl) (by kernel_rfl) (fun _ _ _ h => h) (Or.inl ⟨by rfl, ?_⟩) hS ?_
              rotate_left 1
              · intro u hu
                go_simp
                first | done | with_reducible rfl
              go_simp
              refine wpAnyH_take (i := 4) (v := ?_) rfl (by kernel_rfl) (by kernel_rfl) (by kernel_rfl) (fun _ _ _ h => h) (Or.inl ⟨by rfl, ?_⟩) hS ?_
              rotate_left 1
              · intro u hu
                go_simp
                first | done | with_reducible rfl
              go_simp
              refine wpAnyH_take (i := 5) (v := ?_) rfl (by kernel_rfl) (by kernel_rfl) (by kernel_rfl) (fun _ _ _ h => h) (Or.inl ⟨by rfl, ?_⟩) hS ?_
              rotate_left 1
              · intro u hu
                go_simp
                first | done | with_reducible rfl
              go_simp
              refine wpAnyH_pickG 6 (.agg (bvs (rkV key k)).toArray) rfl (by kernel_rfl) (by kernel_rfl) (by kernel_rfl) (by rfl) (fun _ _ _ h => h) (fun u hu => exec_load_part u 22 (.tmp 125) rfl gc (k * 16) (by with_unfolding_all rfl) (rkV key k) (cip_part key Hk.out k (by omega) u gc hu.2) 16 5 Try.underlying22 16 sizeRow (HRK.out k)) hS ?_
              go_simp
              refine wpAnyH_oneG 7 (by kernel_rfl) rfl (by rfl) ?_
              go_wp2_with fail
              (with_reducible refine (rcross_any ub (rkV key k) Hul.out (HRK.out k) _).mono ?_)
              rintro e8 w8 ⟨rfl, hb8⟩
              have S8 : Hid (CB w w8 gc g5 key s) := HS0.out.below hb8
              have T8 : Hid (Blk w8 gt 22 ub) := hS.1.below hb8
              refine ⟨⟨T8.out, S8.out.c⟩, ?_⟩
              clear hS hb8 HS0
              rw [HNR.out]
              refine wpAnyH_oneG 8 (by kernel_rfl) rfl (by rfl) ?_
              refine wp_store_blk 22 (.tmp 5) (.tmp 127) rfl g5 (roundsV key inp k) (by with_unfolding_all rfl) (by with_unfolding_all rfl) 22 s S8.out.s 16 sizeRow (HR.out k) HSl.out ?_
              intro w9 S9 O9
              have hgt := HGT.out
              have C9 : Hid (CB w w9 gc g5 key (roundsV key inp k)) := S8.out.next S9.out O9.out
              refine ⟨⟨T8.out.only O9.out (by omega), C9.out.c⟩, ?_⟩
              refine wpAnyH_done (by kernel_rfl) ?_ _
              clear S8 T8 S9 O9 hgt
              go_wp2_with fail
              go_roundw
              case rel =>
                first
                  | exact ⟨k + 1, by omega, by omega, by go_num, C9⟩
                  | ((repeat apply Exists.intro); exact ⟨⟨k + 1, by omega, by omega, by go_num, C9⟩, rfl⟩)
              case measure => simp [intOf]; omega
      · obtain rfl : k = 11 := by omega
        have HE : Hid (s = bl) := show _ = _ by rw [← HES.out, ← Hbl.out]; rfl
        rw [HE.out] at HS
        clear HE HES HSl
        have G5 : Hid (Blk wr g5 22 bl) := HS.out.s
        have R5 : Hid (Blk wr (w.heap.size + 1) 22 (List.replicate 16 0)) := HS.out.r
        have B5 : Hid (Below w.heap.size w wr) := HS.out.b
        clear HS
        go_wp2_with (first
          | ((with_reducible refine wpList_load_blk rfl 22 (.tmp 5) rfl g5 ?hx 22 bl G5.out 16 5 Try.underlying22 16 sizeRow HBL0.out ?_); (case hx => with_unfolding_all rfl))
          | ((with_reducible refine wpList_store_blk rfl 22 (.tmp 4) (.tmp 128) rfl (w.heap.size + 1) bl ?hx ?hy 22 (List.replicate 16 0) R5.out 16 sizeRow HBL0.out rfl ?_); (case hx => with_unfolding_all rfl); (case hy => with_unfolding_all rfl); intro w2 H2 HO2))
        refine ret_blk Try.results37 (w.heap.size + 1) 22 bl 16 5 rfl H2.out Try.underlying22 16 sizeRow HBL0.out rfl ⟨rfl, ?_⟩
        exact B5.out.trans (HO2.out.below B5.out.size (by omega))
  have hS : Blk W0.drew w.heap.size 22 inp ∧ Blk W0.drew gc 65 (cipV key) := ⟨I0.out, C0.out⟩
  refine wp_held (S := fun u => Blk u w.heap.size 22 inp ∧ Blk u gc 65 (cipV key)) (by kernel_rfl) ?_
  refine wpAnyH_pickG 0 (.agg (bvs inp).toArray) rfl (by kernel_rfl) (by kernel_rfl) (by kernel_rfl) (by rfl) (fun _ _ _ h => h) (fun u hu => exec_load_part u 22 (.tmp 3) rfl w.heap.size 0 (by with_unfolding_all rfl) inp hu.1.range 16 5 Try.underlying22 16 sizeRow Hs.out) hS ?_
  go_simp
  refine wpAnyH_take (i := 1) (v := ?_) rfl (by kernel_rfl) (by kernel_rfl) (by kernel_rfl) (fun _ _ _ h => h) (Or.inl ⟨by rfl, ?_⟩) hS ?_
  rotate_left 1
  · intro u hu
    go_simp
    first | done | with_reducible rfl
  go_simp
  refine wpAnyH_take (i := 2) (v := ?_) rfl (by kernel_rfl) (by kernel_rfl) (by kernel_rfl) (fun _ _ _ h => h) (Or.inl ⟨by rfl, ?_⟩) hS ?_
  rotate_left 1
  · intro u hu
    go_simp
    first | done | with_reducible rfl
  go_simp
  refine wpAnyH_take (i := 3) (v := ?_) rfl (by kernel_rfl) (by kernel_rfl) (by kernel_rfl) (fun _ _ _ h => h) (Or.inl ⟨by rfl, ?_⟩) hS ?_
  rotate_left 1
  · intro u hu
    go_simp
    first | done | with_reducible rfl
  go_simp
  refine wpAnyH_take (i := 4) (v := ?_) rfl (by kernel_rfl) (by kernel_rfl) (by kernel_rfl) (fun _ _ _ h => h) (Or.inl ⟨by rfl, ?_⟩) hS ?_
  rotate_left 1
  · intro u hu
    go_simp
    first | done | with_reducible rfl
  go_simp
  refine wpAnyH_pickG 5 (.agg (bvs (rkV key 0)).toArray) rfl (by kernel_rfl) (by kernel_rfl) (by kernel_rfl) (by rfl) (fun _ _ _ h => h) (fun u hu => exec_load_part u 22 (.tmp 18) rfl gc 0 (by with_unfolding_all rfl) (rkV key 0) (cip_part key Hk.out 0 (by omega) u gc hu.2) 16 5 Try.underlying22 16 sizeRow (HRK.out 0)) hS ?_
  go_simp
  have I0 : Hid (Blk W0.drew w.heap.size 22 inp) := I0
  have C0 : Hid (Blk W0.drew gc 65 (cipV key)) := C0
  have R0 : Hid (Blk W0.drew (w.heap.size + 1) 22 (List.replicate 16 0)) := R0
  have B0 : Hid (Below w.heap.size w W0.drew) := B0.out.drew
  clear hS
  refine wpAnyH_twoG 6 7 (by kernel_rfl) rfl (by rfl) rfl (by rfl) ?_ ?_
  · go_wp2_with fail
    (with_reducible refine (rcross_any inp (rkV key 0) Hs.out (HRK.out 0) _).mono ?_)
    rintro e1 w1 ⟨rfl, hb⟩
    have I1 : Hid (Blk w1 w.heap.size 22 inp) := I0.out.below hb
    have C1 : Hid (Blk w1 gc 65 (cipV key)) := C0.out.below hb
    have R1 : Hid (Blk w1 (w.heap.size + 1) 22 (List.replicate 16 0)) := R0.out.below hb
    have B1 : Hid (Below w.heap.size w w1) := B0.out.trans (hb.mono B0.out.size)
    refine ⟨⟨I1.out, C1.out⟩, ?_⟩
    clear hb
    refine wpAnyH_oneG 7 (by kernel_rfl) rfl (by rfl) ?_
    refine wp_alloc_blk 22 rfl (List.replicate 16 0) zeroRow0 ?_
    intro g5 w2 hg5e Z2 hbh
    have HG5 : Hid (w.heap.size + 1 < g5) := show _ < _ by rw [hg5e.out]; exact R1.out.lt
    have hb := hbh.out
    have I2 : Hid (Blk w2 w.heap.size 22 inp) := I1.out.below hb
    have C2 : Hid (Blk w2 gc 65 (cipV key)) := C1.out.below hb
    have R2 : Hid (Blk w2 (w.heap.size + 1) 22 (List.replicate 16 0)) := R1.out.below hb
    have B2 : Hid (Below w.heap.size w w2) := B1.out.trans (hb.mono B1.out.size)
    refine ⟨⟨I2.out, C2.out⟩, ?_⟩
    clear hb
    refine wpAnyH_oneG 8 (by kernel_rfl) rfl (by rfl) ?_
    refine wp_store_blk 22 (.tmp 5) (.tmp 20) rfl g5 (crossV inp (rkV key 0)) (by with_unfolding_all rfl) (by with_unfolding_all rfl) 22 (List.replicate 16 0) Z2.out 16 sizeRow (crossV_length _ _ Hs.out (HRK.out 0)) rfl ?_
    intro w3 G3 O3
    have hgc := HGC.out
    have hg5 := HG5.out
    refine ⟨⟨I2.out.only O3.out (by omega), C2.out.only O3.out (by omega)⟩, ?_⟩
    refine wpAnyH_done (by kernel_rfl) ?_ _
    exact HF g5 w3 ⟨C2.out.only O3.out (by omega), G3.out, R2.out.only O3.out (by omega), B2.out.trans (O3.out.below B2.out.size (by omega)), hgc, hg5⟩
  · refine wp_alloc_blk 22 rfl (List.replicate 16 0) zeroRow0 ?_
    intro g5 w4 hg5e Z4 hbh
    have HG5 : Hid (w.heap.size + 1 < g5) := show _ < _ by rw [hg5e.out]; exact R0.out.lt
    have hb := hbh.out
    have I4 : Hid (Blk w4 w.heap.size 22 inp) := I0.out.below hb
    have C4 : Hid (Blk w4 gc 65 (cipV key)) := C0.out.below hb
    have R4 : Hid (Blk w4 (w.heap.size + 1) 22 (List.replicate 16 0)) := R0.out.below hb
    have B4 : Hid (Below w.heap.size w w4) := B0.out.trans (hb.mono B0.out.size)
    refine ⟨⟨I4.out, C4.out⟩, ?_⟩
    clear hb
    refine wpAnyH_oneG 6 (by kernel_rfl) rfl (by rfl) ?_
    go_wp2_with fail
    (with_reducible refine (rcross_any inp (rkV key 0) Hs.out (HRK.out 0) _).mono ?_)
    rintro e5 w5 ⟨rfl, hb⟩
    have I5 : Hid (Blk w5 w.heap.size 22 inp) := I4.out.below hb
    have C5 : Hid (Blk w5 gc 65 (cipV key)) := C4.out.below hb
    have R5 : Hid (Blk w5 (w.heap.size + 1) 22 (List.replicate 16 0)) := R4.out.below hb
    have B5 : Hid (Below w.heap.size w w5) := B4.out.trans (hb.mono B4.out.size)
    have Z5 : Hid (Blk w5 g5 22 (List.replicate 16 0)) := Z4.out.below hb
    refine ⟨⟨I5.out, C5.out⟩, ?_⟩
    clear hb
    refine wpAnyH_oneG 8 (by kernel_rfl) rfl (by rfl) ?_
    refine wp_store_blk 22 (.tmp 5) (.tmp 20) rfl g5 (crossV inp (rkV key 0)) (by with_unfolding_all rfl) (by with_unfolding_all rfl) 22 (List.replicate 16 0) Z5.out 16 sizeRow (crossV_length _ _ Hs.out (HRK.out 0)) rfl ?_
    intro w6 G6 O6
    have hgc := HGC.out
    have hg5 := HG5.out
    refine ⟨⟨I5.out.only O6.out (by omega), C5.out.only O6.out (by omega)⟩, ?_⟩
    refine wpAnyH_done (by kernel_rfl) ?_ _
    exact HF g5 w6 ⟨C5.out.only O6.out (by omega), G6.out, R5.out.only O6.out (by omega), B5.out.trans (O6.out.below B5.out.size (by omega)), hgc, hg5⟩
end Go.Proofs.Ytjnclcehnpkncaa
