/-
  AesByHand walked.
-/
import Derived.Test.YtgoigbclloackaaAesG
import Derived.Test.YtgoigbclloackaaArrEqB
namespace Go.Proofs.Ytgoigbclloackaa
open Go.RowKit
set_option linter.unusedVariables false

structure Hand (w wr : World) (g5 g6 : Nat) (key inp s : List UInt8) : Prop where
  k : Blk wr w.heap.size 22 key
  i : Blk wr (w.heap.size + 1) 22 inp
  ks : Blk wr g5 24 (keysV key)
  s : Blk wr g6 22 s
  b : Below w.heap.size w wr
  o5 : w.heap.size + 1 < g5
  o6 : g5 < g6
section
variable {w wr wx : World} {g5 g6 : Nat} {key inp s : List UInt8}
theorem Hand.drew (h : Hand w wr g5 g6 key inp s) : Hand w wr.drew g5 g6 key inp s := ⟨h.k, h.i, h.ks, h.s, h.b.drew, h.o5, h.o6⟩
theorem Hand.below (h : Hand w wr g5 g6 key inp s) (hb : Below wr.heap.size wr wx) : Hand w wx g5 g6 key inp s :=
  ⟨h.k.below hb, h.i.below hb, h.ks.below hb, h.s.below hb, h.b.trans (hb.mono h.b.size), h.o5, h.o6⟩
theorem Hand.other (h : Hand w wr g5 g6 key inp s) (g i : Nat) (v : Value) (hg : g6 < g) : Hand w (wr.setCell ⟨g, i, none⟩ v) g5 g6 key inp s := by
  have h5 := h.o5
  have h6 := h.o6
  exact ⟨h.k.other _ _ _ (by omega), h.i.other _ _ _ (by omega), h.ks.other _ _ _ (by omega), h.s.other _ _ _ (by omega), h.b.setCell (by show _ ≤ g; omega) _, h5, h6⟩
theorem Hand.put (h : Hand w wr g5 g6 key inp s) (i : Nat) (x : UInt8) : Hand w (wr.setCell ⟨g6, i, none⟩ (.int .u8 (bn x))) g5 g6 key inp (s.set i x) := by
  have h5 := h.o5
  have h6 := h.o6
  exact ⟨h.k.other _ _ _ (by omega), h.i.other _ _ _ (by omega), h.ks.other _ _ _ (by omega), h.s.put _ _, h.b.setCell (by show _ ≤ g6; omega) _, h5, h6⟩
end
theorem sub_hand (s : List UInt8) (c k : Nat) (hc : c < 4) (hk : k < 4) : (subV s).getD (4 * c + k) 0 = boxV (s.getD ((4 * c + 5 * k) % 16) 0) := by
  have h : 4 * c + k < 16 := by omega
  unfold subV
  rw [List.getD_eq_getElem?_getD, List.getElem?_map, List.getElem?_range h]
  show boxV (s.getD ((4 * c + k + 4 * ((4 * c + k) % 4)) % 16) 0) = _
  rw [sub_index c k hc hk]
/-- what the law lays at one place of a column -/
theorem mix_hand (u : List UInt8) (c k : Nat) (hc : c < 4) (hk : k < 4) (x n x0 x1 x2 x3 : UInt8) (hx : u.getD (4 * c + k) 0 = x) (e0 : u.getD (4 * c) 0 = x0) (e1 : u.getD (4 * c + 1) 0 = x1) (e2 : u.getD (4 * c + 2) 0 = x2) (e3 : u.getD (4 * c + 3) 0 = x3)
    (hn : n = if k < 3 then u.getD (4 * c + k + 1) 0 else x0) : (mixV16 u).getD (4 * c + k) 0 = x ^^^ (x0 ^^^ x1 ^^^ x2 ^^^ x3) ^^^ dblV (x ^^^ n) := by
  have h := mix_get u c k hc hk
  rw [Nat.mul_comm c 4, hx, e0, e1, e2, e3] at h
  rw [h]
  congr 3
  rw [hn]
  by_cases h3 : k < 3
  · rw [if_pos h3, Nat.mod_eq_of_lt (by omega), Nat.add_assoc]
  · obtain rfl : k = 3 := by omega
    rw [if_neg h3]
    exact e0

attribute [local go_sem] u8_xor'
set_option maxRecDepth 4000 in
set_option maxHeartbeats 4000000 in
theorem hand_walk (key inp : List UInt8) (hk : key.length = 16) (hs : inp.length = 16) (w : World) : Calls Try.prog 6 #[.agg (bvs key).toArray, .agg (bvs inp).toArray] w fun e w' => e = .returned (.bool true) ∧ Below w.heap.size w w' := by
  have Hk := Lib.hid hk
  have Hs := Lib.hid hs
  have HL := Lib.hid (keysV_length key hk)
  have HR : Hid (∀ k, (roundsV key inp k).length = 16) := roundsV_length key inp hk hs
  have HRK : Hid (∀ k, (rkV key k).length = 16) := rkV_length key hk
  have HZ := zero176v
  have HKC : Hid (∀ (u : World) (g a i : Nat), Blk u g 24 (keysV key) → a < 11 → i < 16 → u.cell? ⟨g, a * 16 + i, none⟩ = some (.int .u8 (bn ((rkV key a).getD i 0)))) := fun u g a i hB ha hi => by
    rw [hB.cell (a * 16 + i) (by rw [HL.out]; omega), keysV_get key Hk.out a i ha hi]
  obtain ⟨bl, hbl⟩ : ∃ b, blockV key inp = b := ⟨_, rfl⟩
  have HBL0 : Hid (bl.length = 16) := show _ = _ by rw [← hbl]; exact HR.out 10
  have Hbl := Lib.hid hbl
  clear hk hs hbl
  go_enter Try.func6, Try.ntmps6
  go_wp2_with (first
    | ((with_reducible refine wpList_load_blk rfl 22 (.tmp 2) rfl w.heap.size ?hx 22 key ?hg 16 5 Try.underlying22 16 sizeRow Hk.out ?_); (case hx => with_unfolding_all rfl); (case hg => exact heap_allocs w [_, _] 0 _ rfl))
    | (go_at_call 9; (with_reducible refine (keys_any _ Hk.out _).mono ?_); rintro e1 w1 ⟨rfl, hb1⟩;
        have I1 : Hid (Blk w1 w.heap.size 22 key) := Blk.below (heap_allocs w [_, _] 0 _ rfl) hb1;
        have J1 : Hid (Blk w1 (w.heap.size + 1) 22 inp) := Blk.below (heap_allocs w [_, _] 1 _ rfl) hb1;
        have B1 : Hid (Below w.heap.size w w1) := (((Below.refl _ _).alloc (Nat.le_refl _) _).alloc (by simp) _).trans (hb1.mono (by simp; omega));
        clear hb1)
    | ((with_reducible refine wpList_store_blk rfl 24 (.tmp 5) (.tmp 19) rfl w1.heap.size (keysV key) ?hx ?hy 24 z176 ?hg 176 size176 HL.out z176_length ?_); (case hx => with_unfolding_all rfl); (case hy => with_unfolding_all rfl); (case hg => exact heap_alloc_new _ _); intro w2 K2 O2;
        have hg5 : w.heap.size + 1 < w1.heap.size := J1.out.lt;
        have J2 : Hid (Blk w2 (w.heap.size + 1) 22 inp) := (J1.out.alloc _).only O2.out (by omega))
    | ((with_reducible refine wpList_load_blk rfl 22 (.tmp 3) rfl (w.heap.size + 1) ?hx 22 inp J2.out 16 5 Try.underlying22 16 sizeRow Hs.out ?_); (case hx => with_unfolding_all rfl))
    | ((with_reducible refine wpList_store_blk rfl 22 (.tmp 6) (.tmp 20) rfl w2.heap.size inp ?hx ?hy 22 (List.replicate 16 0) ?hg 16 sizeRow Hs.out rfl ?_); (case hx => with_unfolding_all rfl); (case hy => with_unfolding_all rfl); (case hg => exact heap_alloc_new _ _); intro w3 S3 O3))
  have I2 : Hid (Blk w2 w.heap.size 22 key) := (I1.out.alloc _).only O2.out (by omega)
  have B2 : Hid (Below w.heap.size w w2) := (B1.out.alloc B1.out.size _).trans (O2.out.below (by simp; omega) (by omega))
  have hg6 : w1.heap.size < w2.heap.size := K2.out.lt
  have HH : Hid (Hand w w3 w1.heap.size w2.heap.size key inp inp) := by
    refine ⟨(I2.out.alloc _).only O3.out (by omega), (J2.out.alloc _).only O3.out (by omega), (K2.out.alloc _).only O3.out (by omega), S3.out, (B2.out.alloc B2.out.size _).trans (O3.out.below (by simp; omega) (by omega)), hg5, hg6⟩
  obtain ⟨g5, eg5⟩ : ∃ g, w1.heap.size = g := ⟨_, rfl⟩
  obtain ⟨g6, eg6⟩ : ∃ g, w2.heap.size = g := ⟨_, rfl⟩
  rw [eg5, eg6] at HH ⊢
  clear I1 J1 B1 K2 O2 hg5 J2 S3 O3 I2 B2 hg6 eg5 eg6
  have HC0 := Lib.hid (crossV_length inp (rkV key 0) Hs.out (HRK.out 0))
  go_loopw [7] (fun v wr => ∃ i : Nat, i ≤ 16 ∧ v = .int .i64 i ∧ Hid (Hand w wr g5 g6 key inp (mixr (crossV inp (rkV key 0)) inp i))) (fun v _ => 16 - (intOf v).toNat)
  case atStart => exact ⟨0, by omega, rfl, by rw [mixr_zero]; exact HH⟩
  case round =>
    clear HH
    obtain ⟨i, hi, rfl, HH⟩ := hrel
    have hC := HC0.out
    have hs := Hs.out
    by_cases hlt : i < 16
    · have li : (i : Int) < 16 := by omega
      obtain ⟨x, hx⟩ : ∃ x, inp.getD i 0 = x := ⟨_, rfl⟩
      obtain ⟨y, hy⟩ : ∃ x, (rkV key 0).getD i 0 = x := ⟨_, rfl⟩
      have ca : wr.cell? ⟨g6, i, none⟩ = some (.int .u8 (bn x)) := by
        rw [HH.out.s.cell i (by rw [mixr_length _ _ _ (by omega)]; omega), mixr_old _ _ _ _ (by omega) (by omega) (Nat.le_refl _), hx]
      have cf := HH.out.s.frozen i
      have cb : wr.cell? ⟨g5, i, none⟩ = some (.int .u8 (bn y)) := by
        have e := HKC.out wr g5 0 i HH.out.ks (by omega) hlt
        rw [Nat.zero_mul, Nat.zero_add, hy] at e
        exact e
      have HN : Hid ((mixr (crossV inp (rkV key 0)) inp i).set i (x ^^^ y) = mixr (crossV inp (rkV key 0)) inp (i + 1)) := by
        show _ = _
        rw [← mixr_set _ _ _ (by omega) (by omega), ← hx, ← hy]
        congr 1
        exact (cross_get inp (rkV key 0) i (by omega) (by rw [HRK.out]; omega)).symm
      clear hx hy hC hs
      go_wp2_with fail
      refine wp_tail 10 (by kernel_rfl) (by kernel_rfl) ?_
      simp only [List.take_succ_cons, List.take_zero, List.drop_succ_cons, List.drop_zero]
      repeat still_step
      refine wpStill_nil ?_
      go_wp2
      go_roundw
      case rel =>
        first | refine ⟨i + 1, by omega, by go_num, ?_⟩ | ((repeat apply Exists.intro); refine ⟨⟨i + 1, by omega, by go_num, ?_⟩, rfl⟩)
        rw [← HN.out]
        exact (HH.out.put _ _).drew
      case measure => simp [intOf]; omega
    · obtain rfl : i = 16 := by omega
      rw [mixr_full _ _ _ (by omega) (by omega)] at HH
      have HH0 : Hid (Hand w wr g5 g6 key inp (roundsV key inp 0)) := HH
      clear hC hs HH
      go_wp2_with fail
      go_loopw [8] (fun v wr => ∃ r : Nat, 1 ≤ r ∧ r ≤ 11 ∧ v = .int .i64 r ∧ Hid (Hand w wr g5 g6 key inp (roundsV key inp (r - 1)))) (fun v _ => 11 - (intOf v).toNat)
      case atStart => exact ⟨1, by omega, by omega, rfl, HH0⟩
      case round =>
        clear HH0
        obtain ⟨r, hr1, hr, rfl, HH⟩ := hrel
        obtain ⟨s, es⟩ : ∃ s, roundsV key inp (r - 1) = s := ⟨_, rfl⟩
        have HES := Lib.hid es
        rw [es] at HH
        have hsl : s.length = 16 := by rw [← es]; exact HR.out _
        have HSl := Lib.hid hsl
        clear es hsl
        by_cases hrt : r < 11
        · have tr : decide ((r : Int) ≤ 10) = true := by simp; omega
          have lr : (r : Int) < 11 := by omega
          obtain ⟨gt, egt⟩ : ∃ g, wr.heap.size = g := ⟨_, rfl⟩
          have hgt : g6 < gt := by rw [← egt]; exact HH.out.s.lt
          have HGT := Lib.hid hgt
          have HA : Hid (Hand w (wr.alloc (.cells (bvs (List.replicate 16 0)).toArray 22)) g5 g6 key inp s) := HH.out.below ((Below.refl _ _).alloc (Nat.le_refl _) _)
          have HT : Hid (Blk (wr.alloc (.cells (bvs (List.replicate 16 0)).toArray 22)) gt 22 (mixr (subV s) (List.replicate 16 0) (4 * 0))) := by
            rw [Nat.mul_zero, mixr_zero, ← egt]
            exact blk_new _ _ _
          have Hegt := Lib.hid egt
          clear hgt HH egt
          go_wp2_with fail
          rw [Hegt.out]
          go_loopw [10] (fun v wx => ∃ c : Nat, c ≤ 4 ∧ v = .int .i64 c ∧ Hid (Hand w wx g5 g6 key inp s) ∧ Hid (Blk wx gt 22 (mixr (subV s) (List.replicate 16 0) (4 * c)))) (fun v _ => 4 - (intOf v).toNat)
          case atStart => exact ⟨0, by omega, rfl, HA, HT⟩
          case round =>
            clear HA HT
            obtain ⟨c, hc, rfl, HH, HT⟩ := hrel
            by_cases hct : c < 4
            · have lc : (c : Int) < 4 := by omega
              go_wp2_with fail
              go_loopw [11] (fun v wx => ∃ k : Nat, k ≤ 4 ∧ v = .int .i64 k ∧ Hid (Hand w wx g5 g6 key inp s) ∧ Hid (Blk wx gt 22 (mixr (subV s) (List.replicate 16 0) (4 * c + k)))) (fun v _ => 4 - (intOf v).toNat)
              case atStart => exact ⟨0, by omega, rfl, HH, HT⟩
              case round =>
                clear HH HT
                obtain ⟨k, hk, rfl, HH, HT⟩ := hrel
                by_cases hkt : k < 4
                · have lk : (k : Int) < 4 := by omega
                  obtain ⟨p, ep, hp⟩ : ∃ p : Nat, 4 * (c : Int) + (k : Int) = (p : Int) ∧ Hid (4 * c + k = p) := ⟨4 * c + k, by omega, rfl⟩
                  obtain ⟨q, eq, hq⟩ : ∃ q : Nat, (4 * (c : Int) + 5 * (k : Int)).tmod 16 = (q : Int) ∧ Hid ((4 * c + 5 * k) % 16 = q) := ⟨(4 * c + 5 * k) % 16, by rw [show 4 * (c : Int) + 5 * (k : Int) = ((4 * c + 5 * k : Nat) : Int) by omega]; rfl, rfl⟩
                  have lp : (p : Int) < 16 := by omega
                  have lq : (q : Int) < 16 := by have := hq.out; omega
                  rw [hp.out] at HT
                  obtain ⟨x, hx⟩ : ∃ x, s.getD q 0 = x := ⟨_, rfl⟩
                  have ca : wr.cell? ⟨g6, q, none⟩ = some (.int .u8 (bn x)) := by rw [HH.out.s.cell q (by rw [HSl.out]; omega), hx]
                  have cb := HT.out.cell p (by rw [mixr_length _ _ _ (by simp [subV_length])]; simp; omega)
                  have cf := HT.out.frozen p
                  have HN : Hid ((mixr (subV s) (List.replicate 16 0) p).set p (boxV x) = mixr (subV s) (List.replicate 16 0) (4 * c + (k + 1))) := by
                    show _ = _
                    rw [show 4 * c + (k + 1) = p + 1 by have := hp.out; omega, ← mixr_set _ _ _ (by simp [subV_length]) (by simp; omega), ← hp.out, sub_hand s c k hct hkt, hq.out, hx]
                  clear hx
                  go_wp2_with (go_at_call 11; (with_reducible refine (box_any _ _).mono ?_); rintro e1 w1 ⟨rfl, rfl⟩)
                  go_roundw
                  case rel =>
                    first | refine ⟨k + 1, by omega, by go_num, HH.out.other _ _ _ HGT.out, ?_⟩ | ((repeat apply Exists.intro); refine ⟨⟨k + 1, by omega, by go_num, HH.out.other _ _ _ HGT.out, ?_⟩, rfl⟩)
                    rw [← HN.out]
                    exact HT.out.put _ _
                  case measure => simp [intOf]; omega
                · obtain rfl : k = 4 := by omega
                  go_wp2_with fail
                  go_roundw
                  case rel =>
                    first | exact ⟨c + 1, by omega, by go_num, HH, HT⟩ | ((repeat apply Exists.intro); exact ⟨⟨c + 1, by omega, by go_num, HH, HT⟩, rfl⟩)
                  case measure => simp [intOf]; omega
            · obtain rfl : c = 4 := by omega
              rw [mixr_full _ _ _ (by simp [subV_length]) (by simp)] at HT
              obtain ⟨u, hu⟩ : ∃ u, subV s = u := ⟨_, rfl⟩
              have Hu := Lib.hid hu
              rw [hu] at HT
              have Hul : Hid (u.length = 16) := show _ = _ by rw [← hu, subV_length]
              clear hu
              have HT0 : Hid (Blk wr gt 22 (mixr (mixV16 u) u (4 * 0))) := by rw [Nat.mul_zero, mixr_zero]; exact HT
              clear HT
              go_wp2_with fail
              go_loopw [12] (fun v wx => ∃ c d : Nat, 4 * c = d ∧ c ≤ 4 ∧ (r = 10 → c = 0) ∧ v = .int .i64 d ∧ Hid (Hand w wx g5 g6 key inp s) ∧ Hid (Blk wx gt 22 (mixr (mixV16 u) u d))) (fun v _ => 16 - (intOf v).toNat)
              case atStart => exact ⟨0, 0, rfl, by omega, fun _ => rfl, rfl, HH, HT0⟩
              case round =>
                clear HH HT0
                obtain ⟨c, d, hcd, hc, hc0, rfl, HH, HT⟩ := hrel
                have HCD := Lib.hid hcd
                by_cases hgo : c < 4 ∧ r < 10
                · obtain ⟨hct, hrt2⟩ := hgo
                  have hd16 : d < 16 := by omega
                  have ld : (d : Int) < 13 := by omega
                  have td : decide ((d : Int) < 16) = true := by simp; omega
                  have tr2 : decide ((r : Int) < 10) = true := by simp; omega
                  have HML : Hid (∀ i, (mixr (mixV16 u) u i).length = 16) := fun i => by rw [mixr_length _ _ _ (by rw [mixV16_length, Hul.out]), Hul.out]
                  have HMO : Hid (∀ i j, j ≤ i → i < 16 → (mixr (mixV16 u) u j).getD i 0 = u.getD i 0) := fun i j hj hi => mixr_old _ _ _ _ (by rw [mixV16_length, Hul.out]) (by rw [Hul.out]; omega) hj
                  obtain ⟨d1, ed1, hd1⟩ : ∃ n : Nat, (d : Int) + 1 = (n : Int) ∧ Hid (d + 1 = n) := ⟨d + 1, by omega, rfl⟩
                  obtain ⟨d2, ed2, hd2⟩ : ∃ n : Nat, (d : Int) + 2 = (n : Int) ∧ Hid (d + 2 = n) := ⟨d + 2, by omega, rfl⟩
                  obtain ⟨d3, ed3, hd3⟩ : ∃ n : Nat, (d : Int) + 3 = (n : Int) ∧ Hid (d + 3 = n) := ⟨d + 3, by omega, rfl⟩
                  obtain ⟨x0, E0⟩ : ∃ x, Hid (u.getD d 0 = x) := ⟨_, rfl⟩
                  obtain ⟨x1, E1⟩ : ∃ x, Hid (u.getD (d + 1) 0 = x) := ⟨_, rfl⟩
                  obtain ⟨x2, E2⟩ : ∃ x, Hid (u.getD (d + 2) 0 = x) := ⟨_, rfl⟩
                  obtain ⟨x3, E3⟩ : ∃ x, Hid (u.getD (d + 3) 0 = x) := ⟨_, rfl⟩
                  have c0 : wr.cell? ⟨gt, d, none⟩ = some (.int .u8 (bn x0)) := by rw [HT.out.cell d (by rw [HML.out]; omega), HMO.out _ _ (by omega) (by omega), E0.out]
                  have c1 : wr.cell? ⟨gt, d1, none⟩ = some (.int .u8 (bn x1)) := by rw [HT.out.cell d1 (by rw [HML.out]; omega), HMO.out _ _ (by omega) (by omega), ← hd1.out, E1.out]
                  have c2 : wr.cell? ⟨gt, d2, none⟩ = some (.int .u8 (bn x2)) := by rw [HT.out.cell d2 (by rw [HML.out]; omega), HMO.out _ _ (by omega) (by omega), ← hd2.out, E2.out]
                  have c3 : wr.cell? ⟨gt, d3, none⟩ = some (.int .u8 (bn x3)) := by rw [HT.out.cell d3 (by rw [HML.out]; omega), HMO.out _ _ (by omega) (by omega), ← hd3.out, E3.out]
                  have l0 : (d : Int) < 16 := by omega
                  have l1 : (d1 : Int) < 16 := by omega
                  have l2 : (d2 : Int) < 16 := by omega
                  have l3 : (d3 : Int) < 16 := by omega
                  have v1 : IntKind.i64.wrap (d1 : Int) = (d1 : Int) := IntWalk.i64_in _ (by omega)
                  have v2 : IntKind.i64.wrap (d2 : Int) = (d2 : Int) := IntWalk.i64_in _ (by omega)
                  have v3 : IntKind.i64.wrap (d3 : Int) = (d3 : Int) := IntWalk.i64_in _ (by omega)
                  clear hcd
                  go_wp2_with fail
                  refine wp_tail 18 (by kernel_rfl) (by kernel_rfl) ?_
                  simp only [List.take_succ_cons, List.take_zero, List.drop_succ_cons, List.drop_zero]
                  repeat still_step
                  refine wpStill_nil ?_
                  go_wp2
                  have HH1 : Hid (Hand w wr.drew g5 g6 key inp s) := HH.out.drew
                  have HT1 : Hid (Blk wr.drew gt 22 (mixr (mixV16 u) u d)) := HT
                  clear c0 c1 c2 c3 HH HT
                  go_loopw [15] (fun v wx => ∃ k : Nat, k ≤ 4 ∧ v = .int .i64 k ∧ Hid (Hand w wx g5 g6 key inp s) ∧ Hid (Blk wx gt 22 (mixr (mixV16 u) u (d + k)))) (fun v _ => 4 - (intOf v).toNat)
                  case atStart => exact ⟨0, by omega, rfl, HH1, HT1⟩
                  case round =>
                    clear HH1 HT1
                    obtain ⟨k, hk, rfl, HH, HT⟩ := hrel
                    by_cases hkt : k < 4
                    · have lk : (k : Int) < 4 := by omega
                      obtain ⟨p, ep, hp⟩ : ∃ p : Nat, (d : Int) + (k : Int) = (p : Int) ∧ Hid (d + k = p) := ⟨d + k, by omega, rfl⟩
                      have lp : (p : Int) < 16 := by omega
                      rw [hp.out] at HT
                      obtain ⟨x, hx⟩ : ∃ x, u.getD p 0 = x := ⟨_, rfl⟩
                      obtain ⟨n, hn⟩ : ∃ n, (if k < 3 then u.getD (4 * c + k + 1) 0 else x0) = n := ⟨_, rfl⟩
                      have ca : wr.cell? ⟨gt, p, none⟩ = some (.int .u8 (bn x)) := by rw [HT.out.cell p (by rw [HML.out]; omega), HMO.out _ _ (by omega) (by omega), hx]
                      have cf := HT.out.frozen p
                      have vp : IntKind.i64.wrap (p : Int) = (p : Int) := IntWalk.i64_in _ (by omega)
                      have HN : Hid ((mixr (mixV16 u) u p).set p (x ^^^ (x0 ^^^ x1 ^^^ x2 ^^^ x3) ^^^ dblV (x ^^^ n)) = mixr (mixV16 u) u (d + (k + 1))) := by
                        have hcd := HCD.out
                        have hp' := hp.out
                        have e0 := E0.out
                        have e1 := E1.out
                        have e2 := E2.out
                        have e3 := E3.out
                        rw [← hcd] at e0 e1 e2 e3
                        show _ = _
                        rw [show d + (k + 1) = p + 1 by omega, ← mixr_set _ _ _ (by rw [mixV16_length, Hul.out]) (by rw [Hul.out]; omega), ← mix_hand u c k hct hkt x n x0 x1 x2 x3 (by rw [hcd, hp', hx]) e0 e1 e2 e3 hn.symm, hcd, hp']
                      have hk3 : (k < 3 ∧ decide ((k : Int) < 3) = true ∧ wr.cell? ⟨gt, p + 1, none⟩ = some (.int .u8 (bn n))) ∨ (decide ((k : Int) < 3) = false ∧ x0 = n) := by
                        have hcd := HCD.out
                        have hp' := hp.out
                        by_cases h3 : k < 3
                        · rw [if_pos h3, hcd, hp'] at hn
                          exact .inl ⟨h3, by simp; omega, by rw [HT.out.cell (p + 1) (by rw [HML.out]; omega), HMO.out _ _ (by omega) (by omega), hn]⟩
                        · rw [if_neg h3] at hn
                          exact .inr ⟨by simp; omega, hn⟩
                      clear hx hn
                      rcases hk3 with ⟨h3, t3, cn⟩ | ⟨t3, rfl⟩
                      all_goals
                        go_wp2_with fail
                        refine wp_tail 20 (by kernel_rfl) (by kernel_rfl) ?_
                        simp only [List.take_succ_cons, List.take_zero, List.drop_succ_cons, List.drop_zero]
                        repeat still_step
                        still_call (still_of (dbl_any _ _))
                        repeat still_step
                        refine wpStill_nil ?_
                        go_wp2
                        go_roundw
                        case rel =>
                          first | refine ⟨k + 1, by omega, by go_num, (HH.out.other _ _ _ HGT.out).drew, ?_⟩ | ((repeat apply Exists.intro); refine ⟨⟨k + 1, by omega, by go_num, (HH.out.other _ _ _ HGT.out).drew, ?_⟩, rfl⟩)
                          rw [← HN.out]
                          exact (HT.out.put _ _).drew
                        case measure => simp [intOf]; omega
                    · obtain rfl : k = 4 := by omega
                      go_wp2_with fail
                      go_roundw
                      case rel =>
                        first | exact ⟨c + 1, d + 4, by have := HCD.out; omega, by omega, fun h => by omega, by go_num, HH, HT⟩ | ((repeat apply Exists.intro); exact ⟨⟨c + 1, d + 4, by have := HCD.out; omega, by omega, fun h => by omega, by go_num, HH, HT⟩, rfl⟩)
                      case measure => simp [intOf]; omega
                · obtain ⟨T, eT⟩ : ∃ T, (if r < 10 then mixV16 u else u) = T := ⟨_, rfl⟩
                  have hTT : mixr (mixV16 u) u d = T := by
                    rw [← eT]
                    by_cases h10 : r < 10
                    · rw [if_pos h10, mixr_full _ _ _ (by rw [mixV16_length, Hul.out]) (by rw [Hul.out]; omega)]
                    · rw [if_neg h10, ← hcd, hc0 (by omega), Nat.mul_zero, mixr_zero]
                  rw [hTT] at HT
                  have HTl : Hid (T.length = 16) := by
                    show _ = _
                    rw [← eT]
                    split
                    · exact mixV16_length u
                    · exact Hul.out
                  have HCl := Lib.hid (crossV_length T (rkV key r) HTl.out (HRK.out r))
                  have HNR : Hid (crossV T (rkV key r) = roundsV key inp r) := by
                    show _ = _
                    obtain ⟨k, rfl⟩ : ∃ k, r = k + 1 := ⟨r - 1, by omega⟩
                    have h := HES.out
                    rw [Nat.add_sub_cancel] at h
                    rw [roundsV, h, Hu.out, eT]
                  have hx : decide ((d : Int) < 16) = false ∨ (decide ((d : Int) < 16) = true ∧ decide ((r : Int) < 10) = false) := by
                    by_cases h : c < 4
                    · exact .inr ⟨by simp; omega, by simp; omega⟩
                    · exact .inl (by simp; omega)
                  clear hcd hTT eT hgo
                  rcases hx with td | ⟨td, tr2⟩
                  all_goals
                    go_wp2_with fail
                    go_loopw [17] (fun v wx => ∃ i : Nat, i ≤ 16 ∧ v = .int .i64 i ∧ Hid (Hand w wx g5 g6 key inp (mixr (crossV T (rkV key r)) s i)) ∧ Hid (Blk wx gt 22 T)) (fun v _ => 16 - (intOf v).toNat)
                    case atStart => exact ⟨0, by omega, rfl, by rw [mixr_zero]; exact HH, HT⟩
                    case round =>
                      clear HH HT
                      obtain ⟨i, hi, rfl, HH, HT⟩ := hrel
                      by_cases hit : i < 16
                      · have li : (i : Int) < 16 := by omega
                        obtain ⟨x, hx⟩ : ∃ x, T.getD i 0 = x := ⟨_, rfl⟩
                        obtain ⟨y, hy⟩ : ∃ x, (rkV key r).getD i 0 = x := ⟨_, rfl⟩
                        have ca : wr.cell? ⟨gt, i, none⟩ = some (.int .u8 (bn x)) := by rw [HT.out.cell i (by rw [HTl.out]; omega), hx]
                        have cb : wr.cell? ⟨g5, r * 16 + i, none⟩ = some (.int .u8 (bn y)) := by rw [HKC.out wr g5 r i HH.out.ks (by omega) hit, hy]
                        have cd := HH.out.s.cell i (by rw [mixr_length _ _ _ (by rw [HCl.out, HSl.out]), HSl.out]; omega)
                        have cf := HH.out.s.frozen i
                        have HN : Hid ((mixr (crossV T (rkV key r)) s i).set i (x ^^^ y) = mixr (crossV T (rkV key r)) s (i + 1)) := by
                          show _ = _
                          rw [← mixr_set _ _ _ (by rw [HCl.out, HSl.out]) (by rw [HSl.out]; omega), ← hx, ← hy]
                          congr 1
                          exact (cross_get T (rkV key r) i (by rw [HTl.out]; omega) (by rw [HRK.out]; omega)).symm
                        have hgt := HGT.out
                        clear hx hy
                        go_wp2_with fail
                        refine wp_tail 11 (by kernel_rfl) (by kernel_rfl) ?_
                        simp only [List.take_succ_cons, List.take_zero, List.drop_succ_cons, List.drop_zero]
                        repeat still_step
                        refine wpStill_nil ?_
                        go_wp2
                        go_roundw
                        case rel =>
                          first | refine ⟨i + 1, by omega, by go_num, ?_, (HT.out.other _ _ _ (by omega)).drew⟩ | ((repeat apply Exists.intro); refine ⟨⟨i + 1, by omega, by go_num, ?_, (HT.out.other _ _ _ (by omega)).drew⟩, rfl⟩)
                          rw [← HN.out]
                          exact (HH.out.put _ _).drew
                        case measure => simp [intOf]; omega
                      · obtain rfl : i = 16 := by omega
                        rw [mixr_full _ _ _ (by rw [HCl.out, HSl.out]) (by rw [HSl.out]; omega), HNR.out] at HH
                        go_wp2_with fail
                        go_roundw
                        case rel =>
                          first | exact ⟨r + 1, by omega, by omega, by go_num, HH⟩ | ((repeat apply Exists.intro); exact ⟨⟨r + 1, by omega, by omega, by go_num, HH⟩, rfl⟩)
                        case measure => simp [intOf]; omega
        · obtain rfl : r = 11 := by omega
          have tr : decide ((11 : Int) ≤ 10) = false := by decide
          have HE : Hid (s = bl) := show _ = _ by rw [← HES.out, ← Hbl.out]; rfl
          rw [HE.out] at HH
          clear HE HES HSl
          have hS : Hand w wr.drew g5 g6 key inp bl := HH.out.drew
          have heq1 : ∀ u : World, (binOp .eql 22 (.agg (bvs bl).toArray) (.agg (bvs bl).toArray)).run Try.prog u = .ok (.bool true) u := fun u => by
            rw [run_eql_bytes u 22 5 16 Try.underlying22 Try.underlying5 size1 bl bl HBL0.out HBL0.out]
            simp
          have heq2 : ∀ u : World, (binOp .eql 22 (.agg (bvs key).toArray) (.agg (bvs key).toArray)).run Try.prog u = .ok (.bool true) u := fun u => by
            rw [run_eql_bytes u 22 5 16 Try.underlying22 Try.underlying5 size1 key key Hk.out Hk.out]
            simp
          have HRG : Hid (∀ u : World, Hand w u g5 g6 key inp bl → u.rangeAt g5 0 (bvs key)) := fun u hu => by
            have e := hu.ks.rangeMid 0 16
            have e2 := keysV_part key Hk.out 0 (by omega)
            rw [Nat.zero_mul] at e2
            rw [e2, rkV] at e
            exact e
          go_wp2_with fail
          refine wp_held (S := fun u => Hand w u g5 g6 key inp bl) (by kernel_rfl) ?_
          refine wpAnyH_pickG 0 (.agg (bvs key).toArray) rfl (by kernel_rfl) (by kernel_rfl) (by kernel_rfl) (by rfl) (fun _ _ _ h => h) (fun u hu => exec_load_part u 22 (.tmp 2) rfl w.heap.size 0 (by with_unfolding_all rfl) key hu.k.range 16 5 Try.underlying22 16 sizeRow Hk.out) hS ?_
          go_simp
          refine wpAnyH_pickG 1 (.agg (bvs inp).toArray) rfl (by kernel_rfl) (by kernel_rfl) (by kernel_rfl) (by rfl) (fun _ _ _ h => h) (fun u hu => exec_load_part u 22 (.tmp 3) rfl (w.heap.size + 1) 0 (by with_unfolding_all rfl) inp hu.i.range 16 5 Try.underlying22 16 sizeRow Hs.out) hS ?_
          go_simp
          refine wpAnyH_pickG 3 (.agg (bvs bl).toArray) rfl (by kernel_rfl) (by kernel_rfl) (by kernel_rfl) (by rfl) (fun _ _ _ h => h) (fun u hu => exec_load_part u 22 (.tmp 6) rfl g6 0 (by with_unfolding_all rfl) bl hu.s.range 16 5 Try.underlying22 16 sizeRow HBL0.out) hS ?_
          go_simp
          refine wpAnyH_oneG 2 (by kernel_rfl) rfl (by rfl) ?_
          go_wp2_with fail
          (with_reducible refine (block_any key inp Hk.out Hs.out _).mono ?_)
          rintro e5 w5 ⟨rfl, hb5⟩
          have hS5 : Hand w w5 g5 g6 key inp bl := hS.below hb5
          refine ⟨hS5, ?_⟩
          rw [Hbl.out]
          clear hS hb5
          have hS := hS5
          clear hS5
          refine wpAnyH_take (i := 4) (v := ?_) rfl (by kernel_rfl) (by kernel_rfl) (by kernel_rfl) (fun _ _ _ h => h) (Or.inl ⟨by rfl, ?_⟩) hS ?_
          rotate_left 1
          · intro u hu
            go_simp
            first | done | with_reducible rfl
          go_simp
          refine wpAnyH_take (i := 5) (v := ?_) rfl (by kernel_rfl) (by kernel_rfl) (by kernel_rfl) (fun _ _ _ h => h) (Or.inl ⟨by rfl, ?_⟩) hS ?_
          rotate_left 1
          · intro u hu
            go_simp
            first | done | with_reducible rfl
          go_simp
          refine wpAnyH_take (i := 6) (v := ?_) rfl (by kernel_rfl) (by kernel_rfl) (by kernel_rfl) (fun _ _ _ h => h) (Or.inl ⟨by rfl, ?_⟩) hS ?_
          rotate_left 1
          · intro u hu
            go_simp
            first | done | with_reducible rfl
          go_simp
          refine wpAnyH_pickG 7 (.agg (bvs key).toArray) rfl (by kernel_rfl) (by kernel_rfl) (by kernel_rfl) (by rfl) (fun _ _ _ h => h) (fun u hu => exec_load_part u 22 (.tmp 144) rfl g5 0 (by with_unfolding_all rfl) key (HRG.out u hu) 16 5 Try.underlying22 16 sizeRow Hk.out) hS ?_
          go_simp
          refine wpAnyH_pickG 8 (.agg (bvs key).toArray) rfl (by kernel_rfl) (by kernel_rfl) (by kernel_rfl) (by rfl) (fun _ _ _ h => h) (fun u hu => exec_load_part u 22 (.tmp 2) rfl w.heap.size 0 (by with_unfolding_all rfl) key hu.k.range 16 5 Try.underlying22 16 sizeRow Hk.out) hS ?_
          go_simp
          refine wpAnyH_take (i := 9) (v := ?_) rfl (by kernel_rfl) (by kernel_rfl) (by kernel_rfl) (fun _ _ _ h => h) (Or.inl ⟨by rfl, ?_⟩) hS ?_
          rotate_left 1
          · intro u hu
            go_simp
            first | done | with_reducible rfl
          go_simp
          refine wpAnyH_take (i := 10) (v := ?_) rfl (by kernel_rfl) (by kernel_rfl) (by kernel_rfl) (fun _ _ _ h => h) (Or.inl ⟨by rfl, ?_⟩) hS ?_
          rotate_left 1
          · intro u hu
            go_simp
            first | done | with_reducible rfl
          go_simp
          refine wpAnyH_take (i := 11) (v := ?_) rfl (by kernel_rfl) (by kernel_rfl) (by kernel_rfl) (fun _ _ _ h => h) (Or.inl ⟨by rfl, ?_⟩) hS ?_
          rotate_left 1
          · intro u hu
            go_simp
            first | done | with_reducible rfl
          go_simp
          refine wpAnyH_oneG 12 (by kernel_rfl) rfl (by rfl) ?_
          go_wp2_with fail
          (with_reducible refine (awake_any _).mono ?_)
          rintro e6 w6 ⟨rfl, hb6⟩
          have hS6 : Hand w w6 g5 g6 key inp bl := hS.below hb6
          refine ⟨hS6, ?_⟩
          clear hS hb6
          have hS := hS6
          clear hS6
          refine wpAnyH_take (i := 13) (v := ?_) rfl (by kernel_rfl) (by kernel_rfl) (by kernel_rfl) (fun _ _ _ h => h) (Or.inl ⟨by rfl, ?_⟩) hS ?_
          rotate_left 1
          · intro u hu
            go_simp
            first | done | with_reducible rfl
          go_simp
          refine wpAnyH_take (i := 14) (v := ?_) rfl (by kernel_rfl) (by kernel_rfl) (by kernel_rfl) (fun _ _ _ h => h) (Or.inl ⟨by rfl, ?_⟩) hS ?_
          rotate_left 1
          · intro u hu
            go_simp
            first | done | with_reducible rfl
          go_simp
          refine wpAnyH_done (by kernel_rfl) ?_ _
          go_wp2_with fail
          go_ret
          exact ⟨rfl, hS.b⟩
end Go.Proofs.Ytgoigbclloackaa
