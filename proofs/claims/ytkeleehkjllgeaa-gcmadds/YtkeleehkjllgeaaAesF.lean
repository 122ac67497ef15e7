/-
  The contract of Block.
-/
import Derived.Test.YtkeleehkjllgeaaAesE
namespace Go.Proofs.Ytkeleehkjllgeaa
open Go.RowKit
set_option linter.unusedVariables false

theorem zeroGrid (u : World) : (zeroValue 71).run Try.prog u = .ok (.agg (bvs (List.replicate 16 0)).toArray) u := (zero_of_info (n := 16) (by kernel_rfl)).1 u
set_option maxHeartbeats 2000000 in
theorem block_any (key inp : List UInt8) (hk : key.length = 16) (hs : inp.length = 16) (w : World) :
    Calls Try.prog 32 #[.agg (bvs key).toArray, .agg (bvs inp).toArray] w fun e w' => e = .returned (.agg (bvs (blockV key inp)).toArray) ∧ Below w.heap.size w w' := by
  have Hk := Lib.hid hk
  have Hs := Lib.hid hs
  have HL := Lib.hid (keysV_length key hk)
  have HR : Hid (∀ k, (roundsV key inp k).length = 16) := roundsV_length key inp hk hs
  have HRK : Hid (∀ k, (rkV key k).length = 16) := rkV_length key hk
  have HPT : Hid (∀ k, k < 11 → ∀ (u : World) (g : Nat), Blk u g 60 (keysV key) → u.rangeAt g (k * 16) (bvs (rkV key k))) := fun k hk11 u g hB => by
    have e := hB.rangeMid (k * 16) 16
    rw [keysV_part key hk k hk11] at e
    exact e
  have HZ := zero176v
  obtain ⟨bl, hbl⟩ : ∃ b, blockV key inp = b := ⟨_, rfl⟩
  have HBL0 : Hid (bl.length = 16) := show _ = _ by rw [← hbl]; exact HR.out 10
  have Hbl := Lib.hid hbl
  rw [hbl]
  clear hk hs hbl
  go_enter Try.func32, Try.ntmps32
  go_wp2_with (first
    | ((with_reducible refine wpList_load_blk rfl 22 (.tmp 2) rfl w.heap.size ?hx 22 key ?hg 16 5 Try.underlying22 16 sizeRow Hk.out ?_); (case hx => with_unfolding_all rfl); (case hg => exact heap_allocs w [_, _, _] 0 _ rfl))
    | (go_at_call 40; (with_reducible refine (keys_any _ Hk.out _).mono ?_); rintro e1 w1 ⟨rfl, hb1⟩;
        have I1 : Hid (Blk w1 (w.heap.size + 1) 22 inp) := Blk.below (heap_allocs w [_, _, _] 1 _ rfl) hb1;
        have R1 : Hid (Blk w1 (w.heap.size + 1 + 1) 22 (List.replicate 16 0)) := Blk.below (heap_allocs w [_, _, _] 2 _ (by rw [← zeros_bvs]; rfl)) hb1;
        have B1 : Hid (Below w.heap.size w w1) := ((((Below.refl _ _).alloc (Nat.le_refl _) _).alloc (by simp) _).alloc (by simp; omega) _).trans (hb1.mono (by simp; omega));
        clear hb1)
    | ((with_reducible refine wpList_store_blk rfl 60 (.tmp 5) (.tmp 10) rfl w1.heap.size (keysV key) ?hx ?hy 60 z176 ?hg 176 size176 HL.out z176_length ?_); (case hx => with_unfolding_all rfl); (case hy => with_unfolding_all rfl); (case hg => exact heap_alloc_new _ _); intro w2 K2 O2))
  obtain ⟨g5, eg5⟩ : ∃ g, w1.heap.size = g := ⟨_, rfl⟩
  have hg5 : w.heap.size + 1 + 1 < g5 := by rw [← eg5]; exact R1.out.lt
  have I2 : Hid (Blk w2 (w.heap.size + 1) 22 inp) := (I1.out.alloc _).only O2.out (by omega)
  have R2 : Hid (Blk w2 (w.heap.size + 1 + 1) 22 (List.replicate 16 0)) := (R1.out.alloc _).only O2.out (by omega)
  have B2 : Hid (Below w.heap.size w w2) := (B1.out.alloc B1.out.size _).trans (O2.out.below (by simp; omega) (by omega))
  rw [eg5] at K2 ⊢
  have HG5 := Lib.hid hg5
  clear I1 R1 B1 O2 hg5 eg5
  rename_i Q0 K0 HK0
  have HF : ∀ (g7 : Nat) (w5 : World), Hid (g5 < g7) → Hid (Blk w5 g7 71 (roundsV key inp 0)) → Hid (Blk w5 g5 60 (keysV key)) → Hid (Blk w5 (w.heap.size + 1 + 1) 22 (List.replicate 16 0)) → Hid (Below w.heap.size w w5) →
      K0 ⟨#[.agg (bvs key).toArray, .agg (bvs inp).toArray, .pointer (some ⟨w.heap.size, 0, none⟩), .pointer (some ⟨w.heap.size + 1, 0, none⟩), .pointer (some ⟨w.heap.size + 1 + 1, 0, none⟩), .pointer (some ⟨g5, 0, none⟩), .int .i64 10, .pointer (some ⟨g7, 0, none⟩), undef, .agg (bvs key).toArray, .agg (bvs (keysV key)).toArray, .agg (bvs inp).toArray, .agg (bvs inp).toArray, .pointer (some ⟨g5, 0, none⟩), .agg (bvs (rkV key 0)).toArray, .agg (bvs (crossV inp (rkV key 0))).toArray, undef, undef, undef, undef, undef, undef, undef, undef, undef, undef, undef, undef, undef, undef, undef, undef, undef, undef, undef], []⟩ w5 := by
    intro g7 w5 HG7 G5' K5 R5 B5
    apply HK0
    clear HK0 K0 I2 K2 R2 B2
    go_wp2_with fail
    go_loopw [8] (fun v wr => ∃ k : Nat, 1 ≤ k ∧ k ≤ 10 ∧ v = .int .i64 k ∧ Hid (Blk wr g7 71 (roundsV key inp (k - 1))) ∧ Hid (Blk wr g5 60 (keysV key)) ∧ Hid (Blk wr (w.heap.size + 1 + 1) 22 (List.replicate 16 0)) ∧ Hid (Below w.heap.size w wr)) (fun v _ => 10 - (intOf v).toNat)
    case atStart => exact ⟨1, by omega, by omega, rfl, G5', K5, R5, B5⟩
    case round =>
      clear G5' K5 R5 B5
      obtain ⟨k, hk1, hk, rfl, G0', K0', R0', B0'⟩ := hrel
      obtain ⟨m, hm⟩ : ∃ m : Nat, k - 1 = m := ⟨_, rfl⟩
      rw [hm] at G0'
      have Hm : Hid (k = m + 1) := show _ = _ by omega
      have HS1 := Lib.hid (subV_length (roundsV key inp m))
      have HX1 := Lib.hid (mixV16_length (subV (roundsV key inp m)))
      clear hm
      by_cases hlt : k < 10
      · have lk : (k : Int) < 11 := by omega
        have tk : decide ((k : Int) < 10) = true := by simp; omega
        have HN : Hid (crossV (mixV16 (subV (roundsV key inp m))) (rkV key k) = roundsV key inp k) := by
          show _ = _
          rw [Hm.out, roundsV, if_pos (by have := Hm.out; omega)]
        have hS : Blk wr.drew g5 60 (keysV key) := K0'.out
        have G0 : Hid (Blk wr.drew g7 71 (roundsV key inp m)) := G0'
        have K0 : Hid (Blk wr.drew g5 60 (keysV key)) := K0'
        have R0 : Hid (Blk wr.drew (w.heap.size + 1 + 1) 22 (List.replicate 16 0)) := R0'
        have B0 : Hid (Below w.heap.size w wr.drew) := B0'.out.drew
        clear G0' K0' R0' B0'
        go_wp2_with fail
        refine wp_held (S := fun u => Blk u g5 60 (keysV key)) (by kernel_rfl) ?_
        refine wpAnyH_take (i := 3) (v := ?_) rfl (by kernel_rfl) (by kernel_rfl) (by kernel_rfl) (fun _ _ _ h => h) (Or.inl ⟨by rfl, ?_⟩) hS ?_
        rotate_left 1
        · intro u hu
          go_simp
          first | done | with_reducible rfl
        go_simp
        refine wpAnyH_take (i := 4) (v := ?_) rfl (by kernel_rfl) (by kernel_rfl) (by kernel_rfl) (fun _ _ _ h => h) (Or.inl ⟨by rfl, ?_⟩) hS ?_
        rotate_left 1
        · intro u hu
          go_simp
          first | done | with_reducible rfl
        go_simp
        refine wpAnyH_pickG 5 (.agg (bvs (rkV key k)).toArray) rfl (by kernel_rfl) (by kernel_rfl) (by kernel_rfl) (by rfl) (fun _ _ _ h => h) (fun u hu => exec_load_part u 22 (.tmp 25) rfl g5 (k * 16) (by with_unfolding_all rfl) (rkV key k) (HPT.out k (by omega) u g5 hu) 16 5 Try.underlying22 16 sizeRow (HRK.out k)) hS ?_
        go_simp
        refine wpAnyH_oneG 0 (by kernel_rfl) rfl (by rfl) ?_
        refine wp_load_blk 71 (.tmp 7) rfl g7 (by with_unfolding_all rfl) 71 _ G0.out 4 69 Try.underlying71 16 sizeGrid (HR.out _) ?_
        refine ⟨hS, ?_⟩
        clear hS
        go_simp
        refine wpAnyH_oneG 1 (by kernel_rfl) rfl (by rfl) ?_
        go_wp2_with fail
        (with_reducible refine (boxed_any (roundsV key inp m) (HR.out m) _).mono ?_)
        rintro e1 w1 ⟨rfl, hb⟩
        have K1 : Hid (Blk w1 g5 60 (keysV key)) := K0.out.below hb
        have G1 : Hid (Blk w1 g7 71 (roundsV key inp m)) := G0.out.below hb
        have R1 : Hid (Blk w1 (w.heap.size + 1 + 1) 22 (List.replicate 16 0)) := R0.out.below hb
        have B1 : Hid (Below w.heap.size w w1) := B0.out.trans (hb.mono B0.out.size)
        refine ⟨K1.out, ?_⟩
        clear K0 G0 R0 B0 hb
        refine wpAnyH_oneG 2 (by kernel_rfl) rfl (by rfl) ?_
        go_wp2_with fail
        (with_reducible refine (mixed_any (subV (roundsV key inp m)) HS1.out _).mono ?_)
        rintro e2 w2 ⟨rfl, hb⟩
        have K2 : Hid (Blk w2 g5 60 (keysV key)) := K1.out.below hb
        have G2 : Hid (Blk w2 g7 71 (roundsV key inp m)) := G1.out.below hb
        have R2 : Hid (Blk w2 (w.heap.size + 1 + 1) 22 (List.replicate 16 0)) := R1.out.below hb
        have B2 : Hid (Below w.heap.size w w2) := B1.out.trans (hb.mono B1.out.size)
        refine ⟨K2.out, ?_⟩
        clear K1 G1 R1 B1 hb
        refine wpAnyH_oneG 6 (by kernel_rfl) rfl (by rfl) ?_
        go_wp2_with fail
        (with_reducible refine (gridx_any (mixV16 (subV (roundsV key inp m))) (rkV key k) HX1.out (HRK.out k) _).mono ?_)
        rintro e3 w3 ⟨rfl, hb⟩
        have K3 : Hid (Blk w3 g5 60 (keysV key)) := K2.out.below hb
        have G3 : Hid (Blk w3 g7 71 (roundsV key inp m)) := G2.out.below hb
        have R3 : Hid (Blk w3 (w.heap.size + 1 + 1) 22 (List.replicate 16 0)) := R2.out.below hb
        have B3 : Hid (Below w.heap.size w w3) := B2.out.trans (hb.mono B2.out.size)
        refine ⟨K3.out, ?_⟩
        clear K2 G2 R2 B2 hb
        rw [HN.out]
        refine wpAnyH_oneG 7 (by kernel_rfl) rfl (by rfl) ?_
        refine wp_store_blk 71 (.tmp 7) (.tmp 27) rfl g7 (roundsV key inp k) (by with_unfolding_all rfl) (by with_unfolding_all rfl) 71 _ G3.out 16 sizeGrid (HR.out k) (HR.out m) ?_
        intro w4 G4 O4
        have hg5 := HG5.out
        have hg7 := HG7.out
        have K4 : Hid (Blk w4 g5 60 (keysV key)) := K3.out.only O4.out (by omega)
        have R4 : Hid (Blk w4 (w.heap.size + 1 + 1) 22 (List.replicate 16 0)) := R3.out.only O4.out (by omega)
        have B4 : Hid (Below w.heap.size w w4) := B3.out.trans (O4.out.below B3.out.size (by omega))
        refine ⟨K4.out, ?_⟩
        refine wpAnyH_done (by kernel_rfl) ?_ _
        clear K3 R3 B3 G3 O4 hg5 hg7
        go_wp2_with fail
        go_roundw
        case rel =>
          exact ⟨k + 1, by omega, by omega, by go_num, G4, K4, R4, B4⟩
        case measure => simp [intOf]; omega
      · obtain rfl : k = 10 := by omega
        have HN : Hid (crossV (subV (roundsV key inp m)) (rkV key 10) = bl) := by
          show _ = _
          obtain rfl : m = 9 := by have := Hm.out; omega
          rw [← Hbl.out]
          show _ = crossV (if 9 + 1 < 10 then mixV16 (subV (roundsV key inp 9)) else subV (roundsV key inp 9)) (rkV key 10)
          rw [if_neg (by omega)]
        have hS : Blk wr.drew g5 60 (keysV key) := K0'.out
        have G0 : Hid (Blk wr.drew g7 71 (roundsV key inp m)) := G0'
        have K0 : Hid (Blk wr.drew g5 60 (keysV key)) := K0'
        have R0 : Hid (Blk wr.drew (w.heap.size + 1 + 1) 22 (List.replicate 16 0)) := R0'
        have B0 : Hid (Below w.heap.size w wr.drew) := B0'.out.drew
        have HBL := HBL0
        clear G0' K0' R0' B0'
        go_wp2_with fail
        refine wp_held (S := fun u => Blk u g5 60 (keysV key)) (by kernel_rfl) ?_
        refine wpAnyH_take (i := 2) (v := ?_) rfl (by kernel_rfl) (by kernel_rfl) (by kernel_rfl) (fun _ _ _ h => h) (Or.inl ⟨by rfl, ?_⟩) hS ?_
        rotate_left 1
        · intro u hu
          go_simp
          first | done | with_reducible rfl
        go_simp
        refine wpAnyH_take (i := 3) (v := ?_) rfl (by kernel_rfl) (by kernel_rfl) (by kernel_rfl) (fun _ _ _ h => h) (Or.inl ⟨by rfl, ?_⟩) hS ?_
        rotate_left 1
        · intro u hu
          go_simp
          first | done | with_reducible rfl
        go_simp
        refine wpAnyH_pickG 4 (.agg (bvs (rkV key 10)).toArray) rfl (by kernel_rfl) (by kernel_rfl) (by kernel_rfl) (by rfl) (fun _ _ _ h => h) (fun u hu => exec_load_part u 22 (.tmp 31) rfl g5 (10 * 16) (by with_unfolding_all rfl) (rkV key 10) (HPT.out 10 (by omega) u g5 hu) 16 5 Try.underlying22 16 sizeRow (HRK.out 10)) hS ?_
        go_simp
        refine wpAnyH_oneG 0 (by kernel_rfl) rfl (by rfl) ?_
        refine wp_load_blk 71 (.tmp 7) rfl g7 (by with_unfolding_all rfl) 71 _ G0.out 4 69 Try.underlying71 16 sizeGrid (HR.out _) ?_
        refine ⟨hS, ?_⟩
        clear hS
        go_simp
        refine wpAnyH_oneG 1 (by kernel_rfl) rfl (by rfl) ?_
        go_wp2_with fail
        (with_reducible refine (boxed_any (roundsV key inp m) (HR.out m) _).mono ?_)
        rintro e1 w1 ⟨rfl, hb⟩
        have K1 : Hid (Blk w1 g5 60 (keysV key)) := K0.out.below hb
        have G1 : Hid (Blk w1 g7 71 (roundsV key inp m)) := G0.out.below hb
        have R1 : Hid (Blk w1 (w.heap.size + 1 + 1) 22 (List.replicate 16 0)) := R0.out.below hb
        have B1 : Hid (Below w.heap.size w w1) := B0.out.trans (hb.mono B0.out.size)
        refine ⟨K1.out, ?_⟩
        clear K0 G0 R0 B0 hb
        refine wpAnyH_oneG 5 (by kernel_rfl) rfl (by rfl) ?_
        go_wp2_with fail
        (with_reducible refine (gridx_any (subV (roundsV key inp m)) (rkV key 10) HS1.out (HRK.out 10) _).mono ?_)
        rintro e2 w2 ⟨rfl, hb⟩
        have K2 : Hid (Blk w2 g5 60 (keysV key)) := K1.out.below hb
        have G2 : Hid (Blk w2 g7 71 (roundsV key inp m)) := G1.out.below hb
        have R2 : Hid (Blk w2 (w.heap.size + 1 + 1) 22 (List.replicate 16 0)) := R1.out.below hb
        have B2 : Hid (Below w.heap.size w w2) := B1.out.trans (hb.mono B1.out.size)
        refine ⟨K2.out, ?_⟩
        clear K1 G1 R1 B1 hb
        rw [HN.out]
        refine wpAnyH_oneG 6 (by kernel_rfl) rfl (by rfl) ?_
        go_wp2_with fail
        (with_reducible refine (bytes_any bl HBL.out _).mono ?_)
        rintro e3 w3 ⟨rfl, hb⟩
        have K3 : Hid (Blk w3 g5 60 (keysV key)) := K2.out.below hb
        have G3 : Hid (Blk w3 g7 71 (roundsV key inp m)) := G2.out.below hb
        have R3 : Hid (Blk w3 (w.heap.size + 1 + 1) 22 (List.replicate 16 0)) := R2.out.below hb
        have B3 : Hid (Below w.heap.size w w3) := B2.out.trans (hb.mono B2.out.size)
        refine ⟨K3.out, ?_⟩
        clear K2 G2 R2 B2 hb
        refine wpAnyH_oneG 7 (by kernel_rfl) rfl (by rfl) ?_
        refine wp_store_blk 22 (.tmp 4) (.tmp 34) rfl (w.heap.size + 1 + 1) bl (by with_unfolding_all rfl) (by with_unfolding_all rfl) 22 (List.replicate 16 0) R3.out 16 sizeRow HBL.out rfl ?_
        intro w4 R4 O4
        have hg5 := HG5.out
        have K4 : Hid (Blk w4 g5 60 (keysV key)) := K3.out.only O4.out (by omega)
        have B4 : Hid (Below w.heap.size w w4) := B3.out.trans (O4.out.below B3.out.size (by omega))
        refine ⟨K4.out, ?_⟩
        refine wpAnyH_done (by kernel_rfl) ?_ _
        clear K3 R3 B3 G3 O4 hg5
        go_wp2_with fail
        refine ret_blk Try.results32 (w.heap.size + 1 + 1) 22 _ 16 5 rfl R4.out Try.underlying22 16 sizeRow HBL.out rfl ⟨rfl, ?_⟩
        exact B4.out
  have hS : Blk w2.drew (w.heap.size + 1) 22 inp ∧ Blk w2.drew g5 60 (keysV key) := ⟨I2.out, K2.out⟩
  refine wp_held (S := fun u => Blk u (w.heap.size + 1) 22 inp ∧ Blk u g5 60 (keysV key)) (by kernel_rfl) ?_
  refine wpAnyH_pickG 0 (.agg (bvs inp).toArray) rfl (by kernel_rfl) (by kernel_rfl) (by kernel_rfl) (by rfl) (fun _ _ _ h => h) (fun u hu => exec_load_part u 22 (.tmp 3) rfl (w.heap.size + 1) 0 (by with_unfolding_all rfl) inp hu.1.range 16 5 Try.underlying22 16 sizeRow Hs.out) hS ?_
  go_simp
  refine wpAnyH_take (i := 2) (v := ?_) rfl (by kernel_rfl) (by kernel_rfl) (by kernel_rfl) (fun _ _ _ h => h) (Or.inl ⟨by rfl, ?_⟩) hS ?_
  rotate_left 1
  · intro u hu
    go_simp
    first | done | with_reducible rfl
  go_simp
  refine wpAnyH_pickG 3 (.agg (bvs (rkV key 0)).toArray) rfl (by kernel_rfl) (by kernel_rfl) (by kernel_rfl) (by rfl) (fun _ _ _ h => h) (fun u hu => exec_load_part u 22 (.tmp 13) rfl g5 0 (by with_unfolding_all rfl) (rkV key 0) (HPT.out 0 (by omega) u g5 hu.2) 16 5 Try.underlying22 16 sizeRow (HRK.out 0)) hS ?_
  go_simp
  have I2 : Hid (Blk w2.drew (w.heap.size + 1) 22 inp) := I2
  have K2 : Hid (Blk w2.drew g5 60 (keysV key)) := K2
  have R2 : Hid (Blk w2.drew (w.heap.size + 1 + 1) 22 (List.replicate 16 0)) := R2
  have B2 : Hid (Below w.heap.size w w2.drew) := B2.out.drew
  clear hS
  refine wpAnyH_twoG 1 5 (by kernel_rfl) rfl (by rfl) rfl (by rfl) ?_ ?_
  · go_wp2_with fail
    (with_reducible refine (columns_any inp Hs.out _).mono ?_)
    rintro e3 w3 ⟨rfl, hb⟩
    have I3 : Hid (Blk w3 (w.heap.size + 1) 22 inp) := I2.out.below hb
    have K3 : Hid (Blk w3 g5 60 (keysV key)) := K2.out.below hb
    have R3 : Hid (Blk w3 (w.heap.size + 1 + 1) 22 (List.replicate 16 0)) := R2.out.below hb
    have B3 : Hid (Below w.heap.size w w3) := B2.out.trans (hb.mono B2.out.size)
    refine ⟨⟨I3.out, K3.out⟩, ?_⟩
    clear hb
    refine wpAnyH_twoG 4 5 (by kernel_rfl) rfl (by rfl) rfl (by rfl) ?_ ?_
    · go_wp2_with fail
      (with_reducible refine (gridx_any inp (rkV key 0) Hs.out (HRK.out 0) _).mono ?_)
      rintro e4 w4 ⟨rfl, hb⟩
      have I4 : Hid (Blk w4 (w.heap.size + 1) 22 inp) := I3.out.below hb
      have K4 : Hid (Blk w4 g5 60 (keysV key)) := K3.out.below hb
      have R4 : Hid (Blk w4 (w.heap.size + 1 + 1) 22 (List.replicate 16 0)) := R3.out.below hb
      have B4 : Hid (Below w.heap.size w w4) := B3.out.trans (hb.mono B3.out.size)
      refine ⟨⟨I4.out, K4.out⟩, ?_⟩
      clear hb
      refine wpAnyH_oneG 5 (by kernel_rfl) rfl (by rfl) ?_
      refine wp_alloc_blk 71 rfl (List.replicate 16 0) zeroGrid ?_
      intro g7 w5 hg7e Z5 hbh
      have HG7 : Hid (g5 < g7) := show _ < _ by rw [hg7e.out]; exact K4.out.lt
      have hb := hbh.out
      have I5 : Hid (Blk w5 (w.heap.size + 1) 22 inp) := I4.out.below hb
      have K5 : Hid (Blk w5 g5 60 (keysV key)) := K4.out.below hb
      have R5 : Hid (Blk w5 (w.heap.size + 1 + 1) 22 (List.replicate 16 0)) := R4.out.below hb
      have B5 : Hid (Below w.heap.size w w5) := B4.out.trans (hb.mono B4.out.size)
      refine ⟨⟨I5.out, K5.out⟩, ?_⟩
      clear hb
      refine wpAnyH_oneG 6 (by kernel_rfl) rfl (by rfl) ?_
      refine wp_store_blk 71 (.tmp 7) (.tmp 15) rfl g7 (crossV inp (rkV key 0)) (by with_unfolding_all rfl) (by with_unfolding_all rfl) 71 (List.replicate 16 0) Z5.out 16 sizeGrid (crossV_length _ _ Hs.out (HRK.out 0)) rfl ?_
      intro w6 G6 O6
      have hg5 := HG5.out
      have hg7 := HG7.out
      refine ⟨⟨I5.out.only O6.out (by omega), K5.out.only O6.out (by omega)⟩, ?_⟩
      refine wpAnyH_done (by kernel_rfl) ?_ _
      exact HF g7 w6 HG7 G6 (K5.out.only O6.out (by omega)) (R5.out.only O6.out (by omega)) (B5.out.trans (O6.out.below B5.out.size (by omega)))
    · refine wp_alloc_blk 71 rfl (List.replicate 16 0) zeroGrid ?_
      intro g7 w7 hg7e Z7 hbh
      have HG7 : Hid (g5 < g7) := show _ < _ by rw [hg7e.out]; exact K3.out.lt
      have hb := hbh.out
      have I7 : Hid (Blk w7 (w.heap.size + 1) 22 inp) := I3.out.below hb
      have K7 : Hid (Blk w7 g5 60 (keysV key)) := K3.out.below hb
      have R7 : Hid (Blk w7 (w.heap.size + 1 + 1) 22 (List.replicate 16 0)) := R3.out.below hb
      have B7 : Hid (Below w.heap.size w w7) := B3.out.trans (hb.mono B3.out.size)
      refine ⟨⟨I7.out, K7.out⟩, ?_⟩
      clear hb
      refine wpAnyH_oneG 4 (by kernel_rfl) rfl (by rfl) ?_
      go_wp2_with fail
      (with_reducible refine (gridx_any inp (rkV key 0) Hs.out (HRK.out 0) _).mono ?_)
      rintro e8 w8 ⟨rfl, hb⟩
      have I8 : Hid (Blk w8 (w.heap.size + 1) 22 inp) := I7.out.below hb
      have K8 : Hid (Blk w8 g5 60 (keysV key)) := K7.out.below hb
      have R8 : Hid (Blk w8 (w.heap.size + 1 + 1) 22 (List.replicate 16 0)) := R7.out.below hb
      have B8 : Hid (Below w.heap.size w w8) := B7.out.trans (hb.mono B7.out.size)
      have Z8 : Hid (Blk w8 g7 71 (List.replicate 16 0)) := Z7.out.below hb
      refine ⟨⟨I8.out, K8.out⟩, ?_⟩
      clear hb
      refine wpAnyH_oneG 6 (by kernel_rfl) rfl (by rfl) ?_
      refine wp_store_blk 71 (.tmp 7) (.tmp 15) rfl g7 (crossV inp (rkV key 0)) (by with_unfolding_all rfl) (by with_unfolding_all rfl) 71 (List.replicate 16 0) Z8.out 16 sizeGrid (crossV_length _ _ Hs.out (HRK.out 0)) rfl ?_
      intro w9 G9 O9
      have hg5 := HG5.out
      have hg7 := HG7.out
      refine ⟨⟨I8.out.only O9.out (by omega), K8.out.only O9.out (by omega)⟩, ?_⟩
      refine wpAnyH_done (by kernel_rfl) ?_ _
      exact HF g7 w9 HG7 G9 (K8.out.only O9.out (by omega)) (R8.out.only O9.out (by omega)) (B8.out.trans (O9.out.below B8.out.size (by omega)))
  · refine wp_alloc_blk 71 rfl (List.replicate 16 0) zeroGrid ?_
    intro g7 w10 hg7e Z10 hbh
    have HG7 : Hid (g5 < g7) := show _ < _ by rw [hg7e.out]; exact K2.out.lt
    have hb := hbh.out
    have I10 : Hid (Blk w10 (w.heap.size + 1) 22 inp) := I2.out.below hb
    have K10 : Hid (Blk w10 g5 60 (keysV key)) := K2.out.below hb
    have R10 : Hid (Blk w10 (w.heap.size + 1 + 1) 22 (List.replicate 16 0)) := R2.out.below hb
    have B10 : Hid (Below w.heap.size w w10) := B2.out.trans (hb.mono B2.out.size)
    refine ⟨⟨I10.out, K10.out⟩, ?_⟩
    clear hb
    refine wpAnyH_oneG 1 (by kernel_rfl) rfl (by rfl) ?_
    go_wp2_with fail
    (with_reducible refine (columns_any inp Hs.out _).mono ?_)
    rintro e11 w11 ⟨rfl, hb⟩
    have I11 : Hid (Blk w11 (w.heap.size + 1) 22 inp) := I10.out.below hb
    have K11 : Hid (Blk w11 g5 60 (keysV key)) := K10.out.below hb
    have R11 : Hid (Blk w11 (w.heap.size + 1 + 1) 22 (List.replicate 16 0)) := R10.out.below hb
    have B11 : Hid (Below w.heap.size w w11) := B10.out.trans (hb.mono B10.out.size)
    have Z11 : Hid (Blk w11 g7 71 (List.replicate 16 0)) := Z10.out.below hb
    refine ⟨⟨I11.out, K11.out⟩, ?_⟩
    clear hb
    refine wpAnyH_oneG 4 (by kernel_rfl) rfl (by rfl) ?_
    go_wp2_with fail
    (with_reducible refine (gridx_any inp (rkV key 0) Hs.out (HRK.out 0) _).mono ?_)
    rintro e12 w12 ⟨rfl, hb⟩
    have I12 : Hid (Blk w12 (w.heap.size + 1) 22 inp) := I11.out.below hb
    have K12 : Hid (Blk w12 g5 60 (keysV key)) := K11.out.below hb
    have R12 : Hid (Blk w12 (w.heap.size + 1 + 1) 22 (List.replicate 16 0)) := R11.out.below hb
    have B12 : Hid (Below w.heap.size w w12) := B11.out.trans (hb.mono B11.out.size)
    have Z12 : Hid (Blk w12 g7 71 (List.replicate 16 0)) := Z11.out.below hb
    refine ⟨⟨I12.out, K12.out⟩, ?_⟩
    clear hb
    refine wpAnyH_oneG 6 (by kernel_rfl) rfl (by rfl) ?_
    refine wp_store_blk 71 (.tmp 7) (.tmp 15) rfl g7 (crossV inp (rkV key 0)) (by with_unfolding_all rfl) (by with_unfolding_all rfl) 71 (List.replicate 16 0) Z12.out 16 sizeGrid (crossV_length _ _ Hs.out (HRK.out 0)) rfl ?_
    intro w13 G13 O13
    have hg5 := HG5.out
    have hg7 := HG7.out
    refine ⟨⟨I12.out.only O13.out (by omega), K12.out.only O13.out (by omega)⟩, ?_⟩
    refine wpAnyH_done (by kernel_rfl) ?_ _
    exact HF g7 w13 HG7 G13 (K12.out.only O13.out (by omega)) (R12.out.only O13.out (by omega)) (B12.out.trans (O13.out.below B12.out.size (by omega)))
end Go.Proofs.Ytkeleehkjllgeaa
