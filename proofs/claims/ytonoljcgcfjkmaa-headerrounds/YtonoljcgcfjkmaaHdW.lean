/-
  The contract of the document's Lead, of a header with a token, and of any.
-/
import Derived.Test.YtonoljcgcfjkmaaHdU
namespace Go.Proofs.Ytonoljcgcfjkmaa
open Go.RowKit
set_option linter.unusedVariables false

set_option maxHeartbeats 8000000 in
set_option maxRecDepth 8000 in
theorem lead_long0 (l : List UInt8) (A : Option Addr) (n c B b : Nat) (w : World) (hs : Sl w B A n l) (hB : B ≤ w.heap.size) (hnc : n ≤ c) (hcm : c ≤ maxLen) (hn : n ≤ 1000000) (h1 : 0 < n) (hb0 : (l.getD 0 0).toNat = b) (h64 : b / 64 % 2 ≠ 0) (hL : 128 ≤ b) (hk : b / 16 % 4 = 0) (hbits : b / 4 % 4 = 0) :
    Calls Try.prog 40 #[.slice A n c, .bool false] w (Leads w (leadR l)) := by
  have hbb : b < 256 := by rw [← hb0]; exact (l.getD 0 0).toNat_lt
  have hln := hs.1
  obtain ⟨blk, off, rfl, hblt, _⟩ := hs.2 h1
  have HX0 : Hid (∀ u : World, Below w.heap.size w u → u.cell? ⟨blk, off, none⟩ = some (.int .u8 (b : Int))) := fun u hu => by have h := byte_later hs hB hblt 0 (by omega) u hu; rw [hb0] at h; exact h
  have HS : Hid (∀ u : World, Below w.heap.size w u → Sl u B (some ⟨blk, off, none⟩) n l) := fun u hu => hs.below (hu.mono hB)
  have HC : Hid (n ≤ c ∧ c ≤ maxLen) := ⟨hnc, hcm⟩
  obtain ⟨a128, a64, a32, a4, a3, a24, a12, a16⟩ := ands_at b hbb
  obtain ⟨q, hq⟩ : ∃ q, b % 4 = q := ⟨_, rfl⟩
  have hq4 : q < 4 := by omega
  have e3 := and_u8 b 3 hbb (by omega) 3 rfl q (by omega)
  obtain ⟨nl, hnl⟩ : ∃ m, q + 1 = m := ⟨_, rfl⟩
  have e3n : (q : Int) + 1 = (nl : Int) := by omega
  have HNL : Hid (nlB b = nl) := show _ = _ by unfold nlB; omega
  have hnlb : nl ≤ 4 := by omega
  have t0 : leadR l = longL l b := by unfold leadR; rw [if_neg (by omega), hb0, if_neg (by omega), if_pos (by omega)]
  have HR := Lib.hid t0
  have e128 := and_u8 b 128 hbb (by omega) 128 rfl 128 (by omega)
  have e64 := and_u8 b 64 hbb (by omega) 64 rfl 64 (by omega)
  have e16 : bits .and .u8 ((b : Int) / 16) 3 = 0 := by
    rw [show (b : Int) / 16 = ((b / 16 : Nat) : Int) by omega]
    exact and_u8 (b / 16) 3 (by omega) (by omega) 3 rfl 0 (by omega)
  have e12 := and_u8 b 12 hbb (by omega) 12 rfl 0 (by omega)
  have HKB : Hid (longB b = true ∧ kindB b = 0 ∧ spinB b = false ∧ phaseB b = false) := ⟨by unfold longB; simp; omega, by unfold kindB; rw [if_pos hL]; exact hk, by unfold spinB; simp; omega, by unfold phaseB; simp; omega⟩
  have HBL : Hid (¬ (b / 16 % 2 = 1 ∨ b / 4 % 4 ≠ 0)) := show ¬ _ by omega
  have HX5 : Hid (5 < n → ∀ u : World, Below w.heap.size w u → u.cell? ⟨blk, off + 5, none⟩ = some (.int .u8 ((l.getD 5 0).toNat : Int))) := fun h u hu => byte_later hs hB hblt 5 (by omega) u hu
  have HX14 : Hid (14 < n → ∀ u : World, Below w.heap.size w u → u.cell? ⟨blk, off + 14, none⟩ = some (.int .u8 ((l.getD 14 0).toNat : Int))) := fun h u hu => byte_later hs hB hblt 14 (by omega) u hu
  have HLEN := Lib.hid hln
  clear t0 hL h64 hk hbits a128 a64 a32 a4 a3 a24 a12 a16 hq hnl hs hB hnc hcm hb0 hblt hln
  go_enter Try.func40, Try.ntmps40
  go_wp2_with (first | ((with_reducible refine wpList_store_rw rfl 26 (.tmp 8) (.tmp 26) rfl (w.heap.size + 1) hdr0 ?hx ?hy 26 hdr0 ?hB hdr0_size rfl hdr0_one ?_); (case hx => with_unfolding_all rfl); (case hy => with_unfolding_all rfl); (case hB => exact heap_allocs w [_, _] 1 _ rfl); intro w1 R1 O1; have K1 : Hid (LS w w1 [.bool false, .int .i64 0, .int .u32 0, .slice none 0 0, .slice none 0 0, .slice none 0 0, .bool false, .bool false, .int .u64 0, .int .i64 0]) := ⟨R1.out, (show Rw _ _ _ _ from heap_allocs w [_, _] 0 _ rfl).only O1.out (by omega), (((Below.refl _ w).alloc (Nat.le_refl _) _).alloc (by simp) _).trans (O1.out.below (by simp; omega) (by omega))⟩; have x01 := HX0.out _ K1.out.b) | ((with_reducible refine wpList_put_rw rfl 4 (.tmp 36) (.tmp 35) rfl (w.heap.size + 1) 0 (.bool true) ?hx ?hy rfl rfl 26 [.bool false, .int .i64 0, .int .u32 0, .slice none 0 0, .slice none 0 0, .slice none 0 0, .bool false, .bool false, .int .u64 0, .int .i64 0] K1.out.h sz_bool (by simp) ?_); (case hx => with_unfolding_all rfl); (case hy => with_unfolding_all rfl); intro w2 R2 O2; have K2 : Hid (LS w w2 [.bool true, .int .i64 0, .int .u32 0, .slice none 0 0, .slice none 0 0, .slice none 0 0, .bool false, .bool false, .int .u64 0, .int .i64 0]) := K1.out.put R2.out O2.out; have x02 := HX0.out _ K2.out.b; have l2 := K2.out.h.cell 0 (.bool true) rfl) | ((with_reducible refine wpList_put_rw rfl 3 (.tmp 43) (.tmp 42) rfl (w.heap.size + 1) 9 (.int .i64 (nl : Int)) ?hx ?hy rfl rfl 26 [.bool true, .int .i64 0, .int .u32 0, .slice none 0 0, .slice none 0 0, .slice none 0 0, .bool false, .bool false, .int .u64 0, .int .i64 0] K2.out.h sz_int (by simp) ?_); (case hx => with_unfolding_all rfl); (case hy => with_unfolding_all rfl); intro w3 R3 O3; have K3 : Hid (LS w w3 [.bool true, .int .i64 0, .int .u32 0, .slice none 0 0, .slice none 0 0, .slice none 0 0, .bool false, .bool false, .int .u64 0, .int .i64 (nl : Int)]) := K2.out.put R3.out O3.out; have x03 := HX0.out _ K3.out.b; have l3 := K3.out.h.cell 0 (.bool true) rfl) | ((with_reducible refine wpList_put_rw rfl 3 (.tmp 95) (.tmp 94) rfl (w.heap.size + 1) 1 (.int .i64 0) ?hx ?hy rfl rfl 26 [.bool true, .int .i64 0, .int .u32 0, .slice none 0 0, .slice none 0 0, .slice none 0 0, .bool false, .bool false, .int .u64 0, .int .i64 (nl : Int)] K3.out.h sz_int (by simp) ?_); (case hx => with_unfolding_all rfl); (case hy => with_unfolding_all rfl); intro w4 R4 O4; have K4 : Hid (LS w w4 [.bool true, .int .i64 0, .int .u32 0, .slice none 0 0, .slice none 0 0, .slice none 0 0, .bool false, .bool false, .int .u64 0, .int .i64 (nl : Int)]) := K3.out.put R4.out O4.out; have x04 := HX0.out _ K4.out.b; have k4 := K4.out.h.cell 1 (.int .i64 0) rfl))
  by_cases h5 : n < 5
  · have HR : Hid (leadR l = errR 3) := show _ = _ by rw [HR.out]; unfold longL; rw [if_neg HBL.out, if_pos (by rw [HLEN.out]; omega)]
    (with_reducible refine (part_no 1 4 1 4 rfl rfl (some ⟨blk, off, none⟩) n c _ (by omega) (by omega) (by omega) (by omega)).mono ?_)
    rintro e w' ⟨rfl, rfl⟩
    obtain ⟨hv, ehv⟩ : ∃ x : List Value, [.bool true, .int .i64 0, .int .u32 0, .slice none 0 0, .slice none 0 0, .slice none 0 0, .bool false, .bool false, .int .u64 0, .int .i64 (nl : Int)] = x := ⟨_, rfl⟩
    have HONE : Hid (∀ v ∈ hv, v.oneCell' = true) := by rw [← ehv]; simp [Value.oneCell', Hid]
    have HLN : Hid (hv.length = 10) := show _ = _ by rw [← ehv]; simp
    have HL2 : Hid (hdr0.length = hv.length) := show _ = _ by rw [HLN.out]; rfl
    rw [ehv] at K4
    clear ehv
    go_wp2_with (first | ((with_reducible refine wpList_load_rw rfl 26 (.tmp 8) rfl (w.heap.size + 1) ?hx 26 hv K4.out.h _ Try.underlying26 rfl (hdr_sizeL hv HLN.out) ?_); (case hx => with_unfolding_all rfl)) | ((with_reducible refine wpList_store_rw rfl 26 (.tmp 4) (.tmp 119) rfl w.heap.size hv ?hx ?hy 26 hdr0 K4.out.z (hdr_sizeL hv HLN.out) HL2.out HONE.out ?_); (case hx => with_unfolding_all rfl); (case hy => with_unfolding_all rfl); intro w99 R99 O99))
    refine ret_rw3 rfl w.heap.size 26 hv _ rfl R99.out Try.underlying26 rfl (hdr_sizeL hv HLN.out) rfl ?_
    exact leads_err 3 (HR.out) (by omega) K4.out HLN.out HONE.out O99.out
  have HR : Hid (leadR l = dstL l b (beN 0 ((l.drop 1).take 4))) := show _ = _ by rw [HR.out]; unfold longL; rw [if_neg HBL.out, if_neg (by rw [HLEN.out]; omega)]
  (with_reducible refine (part_yes 1 4 1 4 rfl rfl l (some ⟨blk, off, none⟩) n c B _ (HS.out _ K4.out.b) HC.out.1 HC.out.2 (by omega) (by omega)).mono ?_)
  rintro e5 w5 ⟨Av, cv, rfl, ho, hle, hc, hb⟩
  have K5 := Lib.hid (K4.out.call hb)
  have Dv5 : Hid (OwnS (w.heap.size + 1) w5 Av 4 cv ((l.drop 1).take 4)) := ⟨ho.base K4.out.h.lt, hle, hc⟩
  clear ho hle hc hb
  have x05 := HX0.out _ K5.out.b
  obtain ⟨y0, y1, y2, y3, z1, z2, V, hy0, hy1, hy2, hy3, hVb, ey0, ey1, ey2, ey3, hz1, hz2, o1, o2, o3, eV⟩ := four_bytes ((l.drop 1).take 4) (by rw [List.length_take, List.length_drop, HLEN.out]; omega)
  rw [eV] at HR
  obtain ⟨gv, rfl, _, _⟩ := Dv5.out.o.at_ (by omega)
  have HYL : Hid (((l.drop 1).take 4).length = 4) := show _ = _ by rw [List.length_take, List.length_drop, HLEN.out]; omega
  have HY : Hid (∀ u : World, Own u (w.heap.size + 1 + 1) (.slice (some ⟨gv, 0, none⟩) 4 cv) 4 ((l.drop 1).take 4) → u.cell? ⟨gv, 0, none⟩ = some (.int .u8 (y0 : Int)) ∧ u.cell? ⟨gv, 1, none⟩ = some (.int .u8 (y1 : Int)) ∧ u.cell? ⟨gv, 2, none⟩ = some (.int .u8 (y2 : Int)) ∧ u.cell? ⟨gv, 3, none⟩ = some (.int .u8 (y3 : Int))) := fun u ho => by
    have hx : ∀ j, j < 4 → u.cell? ⟨gv, j, none⟩ = some (.int .u8 ((((l.drop 1).take 4).getD j 0).toNat : Int)) := fun j hj => by have h := ho.sl.cellD j (by rw [HYL.out]; exact hj); rw [Nat.zero_add] at h; exact h
    exact ⟨by rw [← ey0]; exact hx 0 (by omega), by rw [← ey1]; exact hx 1 (by omega), by rw [← ey2]; exact hx 2 (by omega), by rw [← ey3]; exact hx 3 (by omega)⟩
  clear ey0 ey1 ey2 ey3 eV
  have wy0 : IntKind.u32.wrap (y0 : Int) = (y0 : Int) := IntWalk.u32_in _ (by omega)
  have ws0 : IntKind.u32.wrap ((y0 : Int) * 16777216) = (y0 : Int) * 16777216 := IntWalk.u32_in _ (by omega)
  have wy1 : IntKind.u32.wrap (y1 : Int) = (y1 : Int) := IntWalk.u32_in _ (by omega)
  have ws1 : IntKind.u32.wrap ((y1 : Int) * 65536) = (y1 : Int) * 65536 := IntWalk.u32_in _ (by omega)
  have wy2 : IntKind.u32.wrap (y2 : Int) = (y2 : Int) := IntWalk.u32_in _ (by omega)
  have ws2 : IntKind.u32.wrap ((y2 : Int) * 256) = (y2 : Int) * 256 := IntWalk.u32_in _ (by omega)
  have wy3 : IntKind.u32.wrap (y3 : Int) = (y3 : Int) := IntWalk.u32_in _ (by omega)
  go_upto_region 23 with fail
  refine wp_held (S := fun u => u.cell? ⟨gv, 0, none⟩ = some (.int .u8 (y0 : Int)) ∧ u.cell? ⟨gv, 1, none⟩ = some (.int .u8 (y1 : Int)) ∧ u.cell? ⟨gv, 2, none⟩ = some (.int .u8 (y2 : Int)) ∧ u.cell? ⟨gv, 3, none⟩ = some (.int .u8 (y3 : Int))) (by kernel_rfl) ?_
  replace K5 := Lib.hid K5.out.drew
  replace Dv5 := Lib.hid Dv5.out.drew
  obtain ⟨w0, hw0⟩ : ∃ x, w5.drew = x := ⟨_, rfl⟩
  rw [hw0] at K5 Dv5 ⊢
  clear hw0
  have hS0 := HY.out _ Dv5.out.o
  refine wpAnyH_take (i := 0) (v := ?_) rfl (by kernel_rfl) (by kernel_rfl) (by kernel_rfl) (fun _ _ _ h => h) (Or.inl ⟨by rfl, ?_⟩) hS0 ?_
  rotate_left 1
  · rintro u ⟨hu0, hu1, hu2, hu3⟩
    go_simp
    first | done | with_reducible rfl
  go_simp
  refine wpAnyH_take (i := 1) (v := ?_) rfl (by kernel_rfl) (by kernel_rfl) (by kernel_rfl) (fun _ _ _ h => h) (Or.inl ⟨by rfl, ?_⟩) hS0 ?_
  rotate_left 1
  · rintro u ⟨hu0, hu1, hu2, hu3⟩
    go_simp
    first | done | with_reducible rfl
  go_simp
  refine wpAnyH_take (i := 2) (v := ?_) rfl (by kernel_rfl) (by kernel_rfl) (by kernel_rfl) (fun _ _ _ h => h) (Or.inl ⟨by rfl, ?_⟩) hS0 ?_
  rotate_left 1
  · rintro u ⟨hu0, hu1, hu2, hu3⟩
    go_simp
    first | done | with_reducible rfl
  go_simp
  refine wpAnyH_take (i := 3) (v := ?_) rfl (by kernel_rfl) (by kernel_rfl) (by kernel_rfl) (fun _ _ _ h => h) (Or.inl ⟨by rfl, ?_⟩) hS0 ?_
  rotate_left 1
  · rintro u ⟨hu0, hu1, hu2, hu3⟩
    go_simp
    first | done | with_reducible rfl
  go_simp
  refine wpAnyH_take (i := 4) (v := .int .u32 ((y0 : Int) * 16777216)) rfl (by kernel_rfl) (by kernel_rfl) (by kernel_rfl) (fun _ _ _ h => h) (Or.inl ⟨by rfl, ?_⟩) hS0 ?_
  · rintro u ⟨hu0, hu1, hu2, hu3⟩
    go_simp
  go_simp
  refine wpAnyH_take (i := 5) (v := ?_) rfl (by kernel_rfl) (by kernel_rfl) (by kernel_rfl) (fun _ _ _ h => h) (Or.inl ⟨by rfl, ?_⟩) hS0 ?_
  rotate_left 1
  · rintro u ⟨hu0, hu1, hu2, hu3⟩
    go_simp
    first | done | with_reducible rfl
  go_simp
  refine wpAnyH_take (i := 6) (v := ?_) rfl (by kernel_rfl) (by kernel_rfl) (by kernel_rfl) (fun _ _ _ h => h) (Or.inl ⟨by rfl, ?_⟩) hS0 ?_
  rotate_left 1
  · rintro u ⟨hu0, hu1, hu2, hu3⟩
    go_simp
    first | done | with_reducible rfl
  go_simp
  refine wpAnyH_take (i := 7) (v := ?_) rfl (by kernel_rfl) (by kernel_rfl) (by kernel_rfl) (fun _ _ _ h => h) (Or.inl ⟨by rfl, ?_⟩) hS0 ?_
  rotate_left 1
  · rintro u ⟨hu0, hu1, hu2, hu3⟩
    go_simp
    first | done | with_reducible rfl
  go_simp
  refine wpAnyH_take (i := 8) (v := ?_) rfl (by kernel_rfl) (by kernel_rfl) (by kernel_rfl) (fun _ _ _ h => h) (Or.inl ⟨by rfl, ?_⟩) hS0 ?_
  rotate_left 1
  · rintro u ⟨hu0, hu1, hu2, hu3⟩
    go_simp
    first | done | with_reducible rfl
  go_simp
  refine wpAnyH_take (i := 9) (v := .int .u32 ((y1 : Int) * 65536)) rfl (by kernel_rfl) (by kernel_rfl) (by kernel_rfl) (fun _ _ _ h => h) (Or.inl ⟨by rfl, ?_⟩) hS0 ?_
  · rintro u ⟨hu0, hu1, hu2, hu3⟩
    go_simp
  go_simp
  refine wpAnyH_take (i := 10) (v := .int .u32 (z1 : Int)) rfl (by kernel_rfl) (by kernel_rfl) (by kernel_rfl) (fun _ _ _ h => h) (Or.inl ⟨by rfl, ?_⟩) hS0 ?_
  · rintro u ⟨hu0, hu1, hu2, hu3⟩
    go_simp
  go_simp
  refine wpAnyH_take (i := 11) (v := ?_) rfl (by kernel_rfl) (by kernel_rfl) (by kernel_rfl) (fun _ _ _ h => h) (Or.inl ⟨by rfl, ?_⟩) hS0 ?_
  rotate_left 1
  · rintro u ⟨hu0, hu1, hu2, hu3⟩
    go_simp
    first | done | with_reducible rfl
  go_simp
  refine wpAnyH_take (i := 12) (v := ?_) rfl (by kernel_rfl) (by kernel_rfl) (by kernel_rfl) (fun _ _ _ h => h) (Or.inl ⟨by rfl, ?_⟩) hS0 ?_
  rotate_left 1
  · rintro u ⟨hu0, hu1, hu2, hu3⟩
    go_simp
    first | done | with_reducible rfl
  go_simp
  refine wpAnyH_take (i := 13) (v := ?_) rfl (by kernel_rfl) (by kernel_rfl) (by kernel_rfl) (fun _ _ _ h => h) (Or.inl ⟨by rfl, ?_⟩) hS0 ?_
  rotate_left 1
  · rintro u ⟨hu0, hu1, hu2, hu3⟩
    go_simp
    first | done | with_reducible rfl
  go_simp
  refine wpAnyH_take (i := 14) (v := ?_) rfl (by kernel_rfl) (by kernel_rfl) (by kernel_rfl) (fun _ _ _ h => h) (Or.inl ⟨by rfl, ?_⟩) hS0 ?_
  rotate_left 1
  · rintro u ⟨hu0, hu1, hu2, hu3⟩
    go_simp
    first | done | with_reducible rfl
  go_simp
  refine wpAnyH_take (i := 15) (v := .int .u32 ((y2 : Int) * 256)) rfl (by kernel_rfl) (by kernel_rfl) (by kernel_rfl) (fun _ _ _ h => h) (Or.inl ⟨by rfl, ?_⟩) hS0 ?_
  · rintro u ⟨hu0, hu1, hu2, hu3⟩
    go_simp
  go_simp
  refine wpAnyH_take (i := 16) (v := .int .u32 (z2 : Int)) rfl (by kernel_rfl) (by kernel_rfl) (by kernel_rfl) (fun _ _ _ h => h) (Or.inl ⟨by rfl, ?_⟩) hS0 ?_
  · rintro u ⟨hu0, hu1, hu2, hu3⟩
    go_simp
  go_simp
  refine wpAnyH_take (i := 17) (v := ?_) rfl (by kernel_rfl) (by kernel_rfl) (by kernel_rfl) (fun _ _ _ h => h) (Or.inl ⟨by rfl, ?_⟩) hS0 ?_
  rotate_left 1
  · rintro u ⟨hu0, hu1, hu2, hu3⟩
    go_simp
    first | done | with_reducible rfl
  go_simp
  refine wpAnyH_take (i := 18) (v := ?_) rfl (by kernel_rfl) (by kernel_rfl) (by kernel_rfl) (fun _ _ _ h => h) (Or.inl ⟨by rfl, ?_⟩) hS0 ?_
  rotate_left 1
  · rintro u ⟨hu0, hu1, hu2, hu3⟩
    go_simp
    first | done | with_reducible rfl
  go_simp
  refine wpAnyH_take (i := 19) (v := ?_) rfl (by kernel_rfl) (by kernel_rfl) (by kernel_rfl) (fun _ _ _ h => h) (Or.inl ⟨by rfl, ?_⟩) hS0 ?_
  rotate_left 1
  · rintro u ⟨hu0, hu1, hu2, hu3⟩
    go_simp
    first | done | with_reducible rfl
  go_simp
  refine wpAnyH_take (i := 20) (v := ?_) rfl (by kernel_rfl) (by kernel_rfl) (by kernel_rfl) (fun _ _ _ h => h) (Or.inl ⟨by rfl, ?_⟩) hS0 ?_
  rotate_left 1
  · rintro u ⟨hu0, hu1, hu2, hu3⟩
    go_simp
    first | done | with_reducible rfl
  go_simp
  refine wpAnyH_take (i := 21) (v := .int .u32 (V : Int)) rfl (by kernel_rfl) (by kernel_rfl) (by kernel_rfl) (fun _ _ _ h => h) (Or.inl ⟨by rfl, ?_⟩) hS0 ?_
  · rintro u ⟨hu0, hu1, hu2, hu3⟩
    go_simp
  go_simp
  refine wpAnyH_take (i := 22) (v := ?_) rfl (by kernel_rfl) (by kernel_rfl) (by kernel_rfl) (fun _ _ _ h => h) (Or.inl ⟨by rfl, ?_⟩) hS0 ?_
  rotate_left 1
  · rintro u ⟨hu0, hu1, hu2, hu3⟩
    go_simp
    first | done | with_reducible rfl
  go_simp
  refine wpAnyH_oneG 23 (by kernel_rfl) rfl (by rfl) ?_
  refine wp_put_rw 22 (.tmp 142) (.tmp 141) rfl (w.heap.size + 1) 2 (.int .u32 (V : Int)) (by with_unfolding_all rfl) (by with_unfolding_all rfl) rfl rfl 26 [.bool true, .int .i64 0, .int .u32 0, .slice none 0 0, .slice none 0 0, .slice none 0 0, .bool false, .bool false, .int .u64 0, .int .i64 (nl : Int)] K5.out.h sz_u32 (by simp) ?_
  intro w6 R6 O6
  have K6 : Hid (LS w w6 [.bool true, .int .i64 0, .int .u32 (V : Int), .slice none 0 0, .slice none 0 0, .slice none 0 0, .bool false, .bool false, .int .u64 0, .int .i64 (nl : Int)]) := K5.out.put R6.out O6.out
  have hS1 := HY.out _ (Dv5.out.only O6.out (Nat.le_refl _)).o
  refine ⟨hS1, ?_⟩
  go_simp
  refine wpAnyH_done (by kernel_rfl) ?_ _
  clear hS0 hS1 HY HYL Dv5 o1 o2 o3 hy0 hy1 hy2 hy3 hz1 hz2 wy0 wy1 wy2 wy3 ws0 ws1 ws2
  go_wp2_with fail
  go_loopw [13, 14] (fun at_ k wr => (at_ = .int .i64 5 ∧ k = .int .i64 0 ∧ Hid (LS w wr [.bool true, .int .i64 0, .int .u32 (V : Int), .slice none 0 0, .slice none 0 0, .slice none 0 0, .bool false, .bool false, .int .u64 0, .int .i64 (nl : Int)]) ∧ Hid (leadR l = dstL l b V)) ∨ (∃ Ad cd, at_ = .int .i64 14 ∧ k = .int .i64 1 ∧ 14 ≤ n ∧ Hid (leadR l = srcL l b V ((l.drop 6).take 8)) ∧ Hid (LS w wr [.bool true, .int .i64 0, .int .u32 (V : Int), .slice Ad 8 cd, .slice none 0 0, .slice none 0 0, .bool false, .bool false, .int .u64 0, .int .i64 (nl : Int)]) ∧ Hid (OwnS (w.heap.size + 1) wr Ad 8 cd ((l.drop 6).take 8))) ∨ (∃ (Ad : Option Addr) (cd : Nat) (As : Option Addr) (s cs p : Nat), at_ = .int .i64 (p : Int) ∧ k = .int .i64 2 ∧ p ≤ n ∧ Hid (leadR l = restL l b V ((l.drop 6).take 8) ((l.drop 15).take s) p) ∧ Hid (LS w wr [.bool true, .int .i64 0, .int .u32 (V : Int), .slice Ad 8 cd, .slice As s cs, .slice none 0 0, .bool false, .bool false, .int .u64 0, .int .i64 (nl : Int)]) ∧ Hid (OwnS (w.heap.size + 1) wr Ad 8 cd ((l.drop 6).take 8)) ∧ Hid (OwnS (w.heap.size + 1) wr As s cs ((l.drop 15).take s)))) (fun _ k _ => 2 - (intOf k).toNat)
  case atStart => exact .inl ⟨rfl, rfl, K6, HR⟩
  case round =>
    clear HR K6
    clear K1
    clear K2
    clear K3
    clear K4
    clear K5
    rcases hrel with ⟨rfl, rfl, K50, HR⟩ | ⟨Ad, cd, rfl, rfl, h14, HR, K50, Dd50⟩ | ⟨Ad, cd, As, s, cs, p, rfl, rfl, hp, HR, K50, Dd50, Ds50⟩
    · by_cases h6 : n ≤ 5
      · have HR : Hid (leadR l = errR 3) := show _ = _ by rw [HR.out]; unfold dstL; rw [if_pos (by rw [HLEN.out]; exact h6)]
        have t6 : decide ((n : Int) ≤ 5) = true := by simp; omega
        obtain ⟨hv, ehv⟩ : ∃ x : List Value, [.bool true, .int .i64 0, .int .u32 (V : Int), .slice none 0 0, .slice none 0 0, .slice none 0 0, .bool false, .bool false, .int .u64 0, .int .i64 (nl : Int)] = x := ⟨_, rfl⟩
        have HONE : Hid (∀ v ∈ hv, v.oneCell' = true) := by rw [← ehv]; simp [Value.oneCell', Hid]
        have HLN : Hid (hv.length = 10) := show _ = _ by rw [← ehv]; simp
        have HL2 : Hid (hdr0.length = hv.length) := show _ = _ by rw [HLN.out]; rfl
        rw [ehv] at K50
        clear ehv
        go_wp2_with (first | ((with_reducible refine wpList_load_rw rfl 26 (.tmp 8) rfl (w.heap.size + 1) ?hx 26 hv K50.out.h _ Try.underlying26 rfl (hdr_sizeL hv HLN.out) ?_); (case hx => with_unfolding_all rfl)) | ((with_reducible refine wpList_store_rw rfl 26 (.tmp 4) (.tmp 151) rfl w.heap.size hv ?hx ?hy 26 hdr0 K50.out.z (hdr_sizeL hv HLN.out) HL2.out HONE.out ?_); (case hx => with_unfolding_all rfl); (case hy => with_unfolding_all rfl); intro w99 R99 O99))
        refine ret_rw3 rfl w.heap.size 26 hv _ rfl R99.out Try.underlying26 rfl (hdr_sizeL hv HLN.out) rfl ?_
        exact leads_err 3 (HR.out) (by omega) K50.out HLN.out HONE.out O99.out
      have t6 : decide ((n : Int) ≤ 5) = false := by simp; omega
      obtain ⟨d, hd⟩ : ∃ d, (l.getD 5 0).toNat = d := ⟨_, rfl⟩
      have x5 := HX5.out (by omega) _ K50.out.b
      rw [hd] at x5
      have hd256 : d < 256 := by rw [← hd]; exact (l.getD 5 0).toNat_lt
      by_cases hd8 : d = 8
      · subst hd8
        have x5 : _ = some (Value.int .u8 8) := x5
        by_cases hp14 : n < 14
        · have HR : Hid (leadR l = errR 3) := show _ = _ by rw [HR.out]; unfold dstL; rw [if_neg (by rw [HLEN.out]; omega), if_neg (by omega), if_pos (by rw [HLEN.out]; omega)]
          clear hd
          go_wp2_with fail
          (with_reducible refine (part_no 6 8 6 8 rfl rfl (some ⟨blk, off, none⟩) n c _ (by omega) (by omega) (by omega) (by omega)).mono ?_)
          rintro e w' ⟨rfl, rfl⟩
          obtain ⟨hv, ehv⟩ : ∃ x : List Value, [.bool true, .int .i64 0, .int .u32 (V : Int), .slice none 0 0, .slice none 0 0, .slice none 0 0, .bool false, .bool false, .int .u64 0, .int .i64 (nl : Int)] = x := ⟨_, rfl⟩
          have HONE : Hid (∀ v ∈ hv, v.oneCell' = true) := by rw [← ehv]; simp [Value.oneCell', Hid]
          have HLN : Hid (hv.length = 10) := show _ = _ by rw [← ehv]; simp
          have HL2 : Hid (hdr0.length = hv.length) := show _ = _ by rw [HLN.out]; rfl
          rw [ehv] at K50
          clear ehv
          go_wp2_with (first | ((with_reducible refine wpList_load_rw rfl 26 (.tmp 8) rfl (w.heap.size + 1) ?hx 26 hv K50.out.h _ Try.underlying26 rfl (hdr_sizeL hv HLN.out) ?_); (case hx => with_unfolding_all rfl)) | ((with_reducible refine wpList_store_rw rfl 26 (.tmp 4) (.tmp 178) rfl w.heap.size hv ?hx ?hy 26 hdr0 K50.out.z (hdr_sizeL hv HLN.out) HL2.out HONE.out ?_); (case hx => with_unfolding_all rfl); (case hy => with_unfolding_all rfl); intro w99 R99 O99))
          refine ret_rw3 rfl w.heap.size 26 hv _ rfl R99.out Try.underlying26 rfl (hdr_sizeL hv HLN.out) rfl ?_
          exact leads_err 3 (HR.out) (by omega) K50.out HLN.out HONE.out O99.out
        · have HR : Hid (leadR l = srcL l b V ((l.drop 6).take 8)) := show _ = _ by rw [HR.out]; unfold dstL; rw [if_neg (by rw [HLEN.out]; omega), if_neg (by omega), if_neg (by rw [HLEN.out]; omega)]
          clear hd
          go_wp2_with fail
          (with_reducible refine (part_yes 6 8 6 8 rfl rfl l (some ⟨blk, off, none⟩) n c B _ (HS.out _ K50.out.b) HC.out.1 HC.out.2 (by omega) (by omega)).mono ?_)
          rintro e51 w51 ⟨Ad, cd, rfl, ho, hle, hc, hb⟩
          have K51 := Lib.hid (K50.out.call hb)
          have Dd51 : Hid (OwnS (w.heap.size + 1) w51 Ad 8 cd ((l.drop 6).take 8)) := ⟨ho.base K50.out.h.lt, hle, hc⟩
          clear ho hle hc hb
          go_wp2_with ((with_reducible refine wpList_put_rw rfl 23 (.tmp 182) (.tmp 181) rfl (w.heap.size + 1) 3 (.slice Ad 8 cd) ?hx ?hy rfl rfl 26 [.bool true, .int .i64 0, .int .u32 (V : Int), .slice none 0 0, .slice none 0 0, .slice none 0 0, .bool false, .bool false, .int .u64 0, .int .i64 (nl : Int)] K51.out.h sz_slice (by simp) ?_); (case hx => with_unfolding_all rfl); (case hy => with_unfolding_all rfl); intro w52 R52 O52; have K52 : Hid (LS w w52 [.bool true, .int .i64 0, .int .u32 (V : Int), .slice Ad 8 cd, .slice none 0 0, .slice none 0 0, .bool false, .bool false, .int .u64 0, .int .i64 (nl : Int)]) := K51.out.put R52.out O52.out; have Dd52 := Lib.hid (Dd51.out.only O52.out (Nat.le_refl _)))
          go_roundw
          case rel => first | exact .inr (.inl ⟨Ad, cd, rfl, rfl, by omega, HR, K52, Dd52⟩) | ((repeat apply Exists.intro); exact ⟨.inr (.inl ⟨Ad, cd, rfl, rfl, by omega, HR, K52, Dd52⟩), rfl⟩)
          case measure => simp [intOf]
      · have HR : Hid (leadR l = errR 5) := show _ = _ by rw [HR.out]; unfold dstL; rw [if_neg (by rw [HLEN.out]; omega), if_pos (by omega)]
        have t8 : ((d : Int) != 8) = true := by simp; omega
        clear hd hd8
        obtain ⟨hv, ehv⟩ : ∃ x : List Value, [.bool true, .int .i64 0, .int .u32 (V : Int), .slice none 0 0, .slice none 0 0, .slice none 0 0, .bool false, .bool false, .int .u64 0, .int .i64 (nl : Int)] = x := ⟨_, rfl⟩
        have HONE : Hid (∀ v ∈ hv, v.oneCell' = true) := by rw [← ehv]; simp [Value.oneCell', Hid]
        have HLN : Hid (hv.length = 10) := show _ = _ by rw [← ehv]; simp
        have HL2 : Hid (hdr0.length = hv.length) := show _ = _ by rw [HLN.out]; rfl
        rw [ehv] at K50
        clear ehv
        go_wp2_with (first | ((with_reducible refine wpList_load_rw rfl 26 (.tmp 8) rfl (w.heap.size + 1) ?hx 26 hv K50.out.h _ Try.underlying26 rfl (hdr_sizeL hv HLN.out) ?_); (case hx => with_unfolding_all rfl)) | ((with_reducible refine wpList_store_rw rfl 26 (.tmp 4) (.tmp 167) rfl w.heap.size hv ?hx ?hy 26 hdr0 K50.out.z (hdr_sizeL hv HLN.out) HL2.out HONE.out ?_); (case hx => with_unfolding_all rfl); (case hy => with_unfolding_all rfl); intro w99 R99 O99))
        refine ret_rw3 rfl w.heap.size 26 hv _ rfl R99.out Try.underlying26 rfl (hdr_sizeL hv HLN.out) rfl ?_
        exact leads_err 5 (HR.out) (by omega) K50.out HLN.out HONE.out O99.out
    · by_cases h15 : n ≤ 14
      · have HR : Hid (leadR l = errR 3) := show _ = _ by rw [HR.out]; unfold srcL; rw [if_pos (by rw [HLEN.out]; exact h15)]
        have t6 : decide ((n : Int) ≤ 14) = true := by simp; omega
        obtain ⟨hv, ehv⟩ : ∃ x : List Value, [.bool true, .int .i64 0, .int .u32 (V : Int), .slice Ad 8 cd, .slice none 0 0, .slice none 0 0, .bool false, .bool false, .int .u64 0, .int .i64 (nl : Int)] = x := ⟨_, rfl⟩
        have HONE : Hid (∀ v ∈ hv, v.oneCell' = true) := by rw [← ehv]; simp [Value.oneCell', Hid]
        have HLN : Hid (hv.length = 10) := show _ = _ by rw [← ehv]; simp
        have HL2 : Hid (hdr0.length = hv.length) := show _ = _ by rw [HLN.out]; rfl
        rw [ehv] at K50
        clear ehv
        go_wp2_with (first | ((with_reducible refine wpList_load_rw rfl 26 (.tmp 8) rfl (w.heap.size + 1) ?hx 26 hv K50.out.h _ Try.underlying26 rfl (hdr_sizeL hv HLN.out) ?_); (case hx => with_unfolding_all rfl)) | ((with_reducible refine wpList_store_rw rfl 26 (.tmp 4) (.tmp 151) rfl w.heap.size hv ?hx ?hy 26 hdr0 K50.out.z (hdr_sizeL hv HLN.out) HL2.out HONE.out ?_); (case hx => with_unfolding_all rfl); (case hy => with_unfolding_all rfl); intro w99 R99 O99))
        refine ret_rw3 rfl w.heap.size 26 hv _ rfl R99.out Try.underlying26 rfl (hdr_sizeL hv HLN.out) rfl ?_
        exact leads_err 3 (HR.out) (by omega) K50.out HLN.out HONE.out O99.out
      have t6 : decide ((n : Int) ≤ 14) = false := by simp; omega
      have HR : Hid (leadR l = if 20 < (l.getD 14 0).toNat then errR 5 else if l.length < 15 + (l.getD 14 0).toNat then errR 3 else restL l b V ((l.drop 6).take 8) ((l.drop 15).take (l.getD 14 0).toNat) (15 + (l.getD 14 0).toNat)) := show _ = _ by rw [HR.out]; unfold srcL; rw [if_neg (by rw [HLEN.out]; omega)]
      have x14 := HX14.out (by omega) _ K50.out.b
      have hs256 : (l.getD 14 0).toNat < 256 := (l.getD 14 0).toNat_lt
      obtain ⟨s, hs⟩ : ∃ s, (l.getD 14 0).toNat = s := ⟨_, rfl⟩
      rw [hs] at x14 HR hs256
      clear hs
      by_cases h20 : 20 < s
      · have HR := Lib.hid (HR.out.trans (if_pos h20))
        have t20 : decide ((20 : Int) < (s : Int)) = true := by simp; omega
        obtain ⟨hv, ehv⟩ : ∃ x : List Value, [.bool true, .int .i64 0, .int .u32 (V : Int), .slice Ad 8 cd, .slice none 0 0, .slice none 0 0, .bool false, .bool false, .int .u64 0, .int .i64 (nl : Int)] = x := ⟨_, rfl⟩
        have HONE : Hid (∀ v ∈ hv, v.oneCell' = true) := by rw [← ehv]; simp [Value.oneCell', Hid]
        have HLN : Hid (hv.length = 10) := show _ = _ by rw [← ehv]; simp
        have HL2 : Hid (hdr0.length = hv.length) := show _ = _ by rw [HLN.out]; rfl
        rw [ehv] at K50
        clear ehv
        go_wp2_with (first | ((with_reducible refine wpList_load_rw rfl 26 (.tmp 8) rfl (w.heap.size + 1) ?hx 26 hv K50.out.h _ Try.underlying26 rfl (hdr_sizeL hv HLN.out) ?_); (case hx => with_unfolding_all rfl)) | ((with_reducible refine wpList_store_rw rfl 26 (.tmp 4) (.tmp 167) rfl w.heap.size hv ?hx ?hy 26 hdr0 K50.out.z (hdr_sizeL hv HLN.out) HL2.out HONE.out ?_); (case hx => with_unfolding_all rfl); (case hy => with_unfolding_all rfl); intro w99 R99 O99))
        refine ret_rw3 rfl w.heap.size 26 hv _ rfl R99.out Try.underlying26 rfl (hdr_sizeL hv HLN.out) rfl ?_
        exact leads_err 5 (HR.out) (by omega) K50.out HLN.out HONE.out O99.out
      have HR := Lib.hid (HR.out.trans (if_neg h20))
      have t20 : decide ((20 : Int) < (s : Int)) = false := by simp; omega
      have hs20 : s ≤ 20 := by omega
      rw [HLEN.out] at HR
      by_cases hps : n < 15 + s
      · have HR := Lib.hid (HR.out.trans (if_pos hps))
        go_wp2_with fail
        (with_reducible refine (part_no 15 (s : Int) 15 s rfl rfl (some ⟨blk, off, none⟩) n c _ (by omega) (by omega) (by omega) (by omega)).mono ?_)
        rintro e w' ⟨rfl, rfl⟩
        obtain ⟨hv, ehv⟩ : ∃ x : List Value, [.bool true, .int .i64 0, .int .u32 (V : Int), .slice Ad 8 cd, .slice none 0 0, .slice none 0 0, .bool false, .bool false, .int .u64 0, .int .i64 (nl : Int)] = x := ⟨_, rfl⟩
        have HONE : Hid (∀ v ∈ hv, v.oneCell' = true) := by rw [← ehv]; simp [Value.oneCell', Hid]
        have HLN : Hid (hv.length = 10) := show _ = _ by rw [← ehv]; simp
        have HL2 : Hid (hdr0.length = hv.length) := show _ = _ by rw [HLN.out]; rfl
        rw [ehv] at K50
        clear ehv
        go_wp2_with (first | ((with_reducible refine wpList_load_rw rfl 26 (.tmp 8) rfl (w.heap.size + 1) ?hx 26 hv K50.out.h _ Try.underlying26 rfl (hdr_sizeL hv HLN.out) ?_); (case hx => with_unfolding_all rfl)) | ((with_reducible refine wpList_store_rw rfl 26 (.tmp 4) (.tmp 178) rfl w.heap.size hv ?hx ?hy 26 hdr0 K50.out.z (hdr_sizeL hv HLN.out) HL2.out HONE.out ?_); (case hx => with_unfolding_all rfl); (case hy => with_unfolding_all rfl); intro w99 R99 O99))
        refine ret_rw3 rfl w.heap.size 26 hv _ rfl R99.out Try.underlying26 rfl (hdr_sizeL hv HLN.out) rfl ?_
        exact leads_err 3 (HR.out) (by omega) K50.out HLN.out HONE.out O99.out
      · have HR := Lib.hid (HR.out.trans (if_neg hps))
        obtain ⟨p, hp⟩ : ∃ p, 15 + s = p := ⟨_, rfl⟩
        have ep : (15 : Int) + (s : Int) = (p : Int) := by omega
        have hpn : p ≤ n := by omega
        rw [hp] at HR
        go_wp2_with fail
        (with_reducible refine (part_yes 15 (s : Int) 15 s rfl rfl l (some ⟨blk, off, none⟩) n c B _ (HS.out _ K50.out.b) HC.out.1 HC.out.2 (by omega) (by omega)).mono ?_)
        rintro e51 w51 ⟨As, cs, rfl, ho, hle, hc, hb⟩
        have K51 := Lib.hid (K50.out.call hb)
        have Dd51 := Lib.hid (Dd50.out.below hb)
        have Ds51 : Hid (OwnS (w.heap.size + 1) w51 As s cs ((l.drop 15).take s)) := ⟨ho.base K50.out.h.lt, hle, hc⟩
        clear ho hle hc hb
        go_wp2_with ((with_reducible refine wpList_put_rw rfl 23 (.tmp 184) (.tmp 183) rfl (w.heap.size + 1) 4 (.slice As s cs) ?hx ?hy rfl rfl 26 [.bool true, .int .i64 0, .int .u32 (V : Int), .slice Ad 8 cd, .slice none 0 0, .slice none 0 0, .bool false, .bool false, .int .u64 0, .int .i64 (nl : Int)] K51.out.h sz_slice (by simp) ?_); (case hx => with_unfolding_all rfl); (case hy => with_unfolding_all rfl); intro w52 R52 O52; have K52 : Hid (LS w w52 [.bool true, .int .i64 0, .int .u32 (V : Int), .slice Ad 8 cd, .slice As s cs, .slice none 0 0, .bool false, .bool false, .int .u64 0, .int .i64 (nl : Int)]) := K51.out.put R52.out O52.out; have Dd52 := Lib.hid (Dd51.out.only O52.out (Nat.le_refl _)); have Ds52 := Lib.hid (Ds51.out.only O52.out (Nat.le_refl _)))
        go_roundw
        case rel => first | exact .inr (.inr ⟨Ad, cd, As, s, cs, p, rfl, rfl, hpn, HR, K52, Dd52, Ds52⟩) | ((repeat apply Exists.intro); exact ⟨.inr (.inr ⟨Ad, cd, As, s, cs, p, rfl, rfl, hpn, HR, K52, Dd52, Ds52⟩), rfl⟩)
        case measure => simp [intOf]
    · have k50 := K50.out.h.cell 1 (.int .i64 0) rfl
      obtain ⟨C1, eC1⟩ : ∃ v, (if c = p then some (⟨blk, off, none⟩ : Addr) else (some (⟨blk, off, none⟩ : Addr)).map (·.add p)) = v := ⟨_, rfl⟩
      have hcut1 : ∀ u : World, (Instr.slice 23 (.slice (some ⟨blk, off, none⟩) n c) (some (.int .i64 (p : Int))) none none).run Try.prog u = .ok (.slice C1 (n - p) (c - p)) u := fun u => by rw [run_cut_bytes u _ n c p (by omega) HC.out.1, eC1]
      have HG1 : Hid (∀ u : World, Below w.heap.size w u → Calls Try.prog 53 #[.slice C1 (n - p) (c - p)] u fun e w' => e = .returned (.tuple #[.int .u64 ((getV (l.drop p)).1 : Nat), .int .i64 ((getV (l.drop p)).2.1 : Nat), .int .i64 ((getV (l.drop p)).2.2 : Nat)]) ∧ u = w') := fun u hu => by
        have h := (HS.out u hu).drop (k := p) (c := c) (by omega) HC.out.1
        rw [eC1] at h
        exact rget_any (l.drop p) C1 (n - p) (c - p) B u h (by have := HC.out.1; omega) (by have := HC.out.2; omega)
      have hfit1 := getV_fits (l.drop p)
      obtain ⟨⟨v1, m1, q1⟩, hg1⟩ : ∃ g, getV (l.drop p) = g := ⟨_, rfl⟩
      rw [List.length_drop, HLEN.out] at hfit1
      rw [hg1] at HG1 hfit1
      simp only at HG1 hfit1
      obtain ⟨hm1, hv621, hq31⟩ := hfit1
      have HGE1 := Lib.hid hg1
      clear eC1 hg1
      have HR : Hid (leadR l = if q1 ≠ 0 then errR q1 else if 100 < v1 then errR 5 else if n < p + m1 + v1 then errR 3 else endL l b V ((l.drop 6).take 8) ((l.drop 15).take s) ((l.drop (p + m1)).take v1) (p + m1 + v1)) := show _ = _ by rw [HR.out]; unfold restL tokL; rw [if_pos HKB.out.2.1, HGE1.out, HLEN.out]
      obtain ⟨r1, hr1⟩ : ∃ r, p + m1 = r := ⟨_, rfl⟩
      have er1 : (p : Int) + (m1 : Int) = (r1 : Int) := by omega
      have hrb1 : r1 ≤ n := by omega
      rw [hr1] at HR
      go_wp2_with fail
      (with_reducible refine (HG1.out _ K50.out.b).mono ?_)
      rintro e w' ⟨rfl, rfl⟩
      by_cases hq1 : q1 = 0
      · subst hq1
        have HR := Lib.hid (HR.out.trans (if_neg (by omega)))
        by_cases h100 : 100 < v1
        · have HR := Lib.hid (HR.out.trans (if_pos h100))
          have t100 : decide ((100 : Int) < (v1 : Int)) = true := by simp; omega
          obtain ⟨hv, ehv⟩ : ∃ x : List Value, [.bool true, .int .i64 0, .int .u32 (V : Int), .slice Ad 8 cd, .slice As s cs, .slice none 0 0, .bool false, .bool false, .int .u64 0, .int .i64 (nl : Int)] = x := ⟨_, rfl⟩
          have HONE : Hid (∀ v ∈ hv, v.oneCell' = true) := by rw [← ehv]; simp [Value.oneCell', Hid]
          have HLN : Hid (hv.length = 10) := show _ = _ by rw [← ehv]; simp
          have HL2 : Hid (hdr0.length = hv.length) := show _ = _ by rw [HLN.out]; rfl
          rw [ehv] at K50
          clear ehv
          go_wp2_with (first | ((with_reducible refine wpList_load_rw rfl 26 (.tmp 8) rfl (w.heap.size + 1) ?hx 26 hv K50.out.h _ Try.underlying26 rfl (hdr_sizeL hv HLN.out) ?_); (case hx => with_unfolding_all rfl)) | ((with_reducible refine wpList_store_rw rfl 26 (.tmp 4) (.tmp 206) rfl w.heap.size hv ?hx ?hy 26 hdr0 K50.out.z (hdr_sizeL hv HLN.out) HL2.out HONE.out ?_); (case hx => with_unfolding_all rfl); (case hy => with_unfolding_all rfl); intro w99 R99 O99))
          refine ret_rw3 rfl w.heap.size 26 hv _ rfl R99.out Try.underlying26 rfl (hdr_sizeL hv HLN.out) rfl ?_
          exact leads_err 5 (HR.out) (by omega) K50.out HLN.out HONE.out O99.out
        have HR := Lib.hid (HR.out.trans (if_neg h100))
        have t100 : decide ((100 : Int) < (v1 : Int)) = false := by simp; omega
        have hv100 : v1 ≤ 100 := by omega
        by_cases hpt : n < r1 + v1
        · have HR := Lib.hid (HR.out.trans (if_pos hpt))
          go_wp2_with fail
          (with_reducible refine (part_no (r1 : Int) (v1 : Int) r1 v1 rfl rfl (some ⟨blk, off, none⟩) n c _ (by omega) (by omega) (by omega) (by omega)).mono ?_)
          rintro e w' ⟨rfl, rfl⟩
          obtain ⟨hv, ehv⟩ : ∃ x : List Value, [.bool true, .int .i64 0, .int .u32 (V : Int), .slice Ad 8 cd, .slice As s cs, .slice none 0 0, .bool false, .bool false, .int .u64 0, .int .i64 (nl : Int)] = x := ⟨_, rfl⟩
          have HONE : Hid (∀ v ∈ hv, v.oneCell' = true) := by rw [← ehv]; simp [Value.oneCell', Hid]
          have HLN : Hid (hv.length = 10) := show _ = _ by rw [← ehv]; simp
          have HL2 : Hid (hdr0.length = hv.length) := show _ = _ by rw [HLN.out]; rfl
          rw [ehv] at K50
          clear ehv
          go_wp2_with (first | ((with_reducible refine wpList_load_rw rfl 26 (.tmp 8) rfl (w.heap.size + 1) ?hx 26 hv K50.out.h _ Try.underlying26 rfl (hdr_sizeL hv HLN.out) ?_); (case hx => with_unfolding_all rfl)) | ((with_reducible refine wpList_store_rw rfl 26 (.tmp 4) (.tmp 219) rfl w.heap.size hv ?hx ?hy 26 hdr0 K50.out.z (hdr_sizeL hv HLN.out) HL2.out HONE.out ?_); (case hx => with_unfolding_all rfl); (case hy => with_unfolding_all rfl); intro w99 R99 O99))
          refine ret_rw3 rfl w.heap.size 26 hv _ rfl R99.out Try.underlying26 rfl (hdr_sizeL hv HLN.out) rfl ?_
          exact leads_err 3 (HR.out) (by omega) K50.out HLN.out HONE.out O99.out
        have HR := Lib.hid (HR.out.trans (if_neg hpt))
        obtain ⟨pp, hpp⟩ : ∃ r, r1 + v1 = r := ⟨_, rfl⟩
        have epp : (r1 : Int) + (v1 : Int) = (pp : Int) := by omega
        have hppb : pp ≤ n := by omega
        rw [hpp] at HR
        go_wp2_with fail
        (with_reducible refine (part_yes (r1 : Int) (v1 : Int) r1 v1 rfl rfl l (some ⟨blk, off, none⟩) n c B _ (HS.out _ K50.out.b) HC.out.1 HC.out.2 (by omega) (by omega)).mono ?_)
        rintro e51 w51 ⟨At, ct, rfl, ho, hle, hc, hb⟩
        have K51 := Lib.hid (K50.out.call hb)
        have Dd51 := Lib.hid (Dd50.out.below hb)
        have Ds51 := Lib.hid (Ds50.out.below hb)
        have Dt51 : Hid (OwnS (w.heap.size + 1) w51 At v1 ct ((l.drop r1).take v1)) := ⟨ho.base K50.out.h.lt, hle, hc⟩
        have HAP : Hid (∀ a1 a3, Ad = some a1 → At = some a3 → a1.block ≠ a3.block) := fun a1 a3 h1 h3 => by have := (Dd50.out.o.blk a1 h1).2; have := (ho.blk a3 h3).1; omega
        clear ho hle hc hb
        clear hpt h100 hr1 hpp
        go_upto_region 51 with ((with_reducible refine wpList_put_rw rfl 23 (.tmp 221) (.tmp 220) rfl (w.heap.size + 1) 5 (.slice At v1 ct) ?hx ?hy rfl rfl 26 [.bool true, .int .i64 0, .int .u32 (V : Int), .slice Ad 8 cd, .slice As s cs, .slice none 0 0, .bool false, .bool false, .int .u64 0, .int .i64 (nl : Int)] K51.out.h sz_slice (by simp) ?_); (case hx => with_unfolding_all rfl); (case hy => with_unfolding_all rfl); intro w52 R52 O52; have K52 : Hid (LS w w52 [.bool true, .int .i64 0, .int .u32 (V : Int), .slice Ad 8 cd, .slice As s cs, .slice At v1 ct, .bool false, .bool false, .int .u64 0, .int .i64 (nl : Int)]) := K51.out.put R52.out O52.out; have Dd52 := Lib.hid (Dd51.out.only O52.out (Nat.le_refl _)); have Ds52 := Lib.hid (Ds51.out.only O52.out (Nat.le_refl _)); have Dt52 := Lib.hid (Dt51.out.only O52.out (Nat.le_refl _)))
        obtain ⟨C2, eC2⟩ : ∃ v, (if c = pp then some (⟨blk, off, none⟩ : Addr) else (some (⟨blk, off, none⟩ : Addr)).map (·.add pp)) = v := ⟨_, rfl⟩
        have hcut2 : ∀ u : World, (Instr.slice 23 (.slice (some ⟨blk, off, none⟩) n c) (some (.int .i64 (pp : Int))) none none).run Try.prog u = .ok (.slice C2 (n - pp) (c - pp)) u := fun u => by rw [run_cut_bytes u _ n c pp (by omega) HC.out.1, eC2]
        have HG2 : Hid (∀ u : World, Below w.heap.size w u → Calls Try.prog 53 #[.slice C2 (n - pp) (c - pp)] u fun e w' => e = .returned (.tuple #[.int .u64 ((getV (l.drop pp)).1 : Nat), .int .i64 ((getV (l.drop pp)).2.1 : Nat), .int .i64 ((getV (l.drop pp)).2.2 : Nat)]) ∧ u = w') := fun u hu => by
          have h := (HS.out u hu).drop (k := pp) (c := c) (by omega) HC.out.1
          rw [eC2] at h
          exact rget_any (l.drop pp) C2 (n - pp) (c - pp) B u h (by have := HC.out.1; omega) (by have := HC.out.2; omega)
        have hfit2 := getV_fits (l.drop pp)
        obtain ⟨⟨v2, m2, q2⟩, hg2⟩ : ∃ g, getV (l.drop pp) = g := ⟨_, rfl⟩
        rw [List.length_drop, HLEN.out] at hfit2
        rw [hg2] at HG2 hfit2
        simp only at HG2 hfit2
        obtain ⟨hm2, hv622, hq32⟩ := hfit2
        have HGE2 := Lib.hid hg2
        clear eC2 hg2
        have HR : Hid (leadR l = if q2 ≠ 0 then errR q2 else ((hdrB b V ((l.drop 6).take 8) ((l.drop 15).take s) ((l.drop r1).take v1), pp + m2, min v2 1073741824), 0)) := show _ = _ by rw [HR.out]; unfold endL; rw [HGE2.out]
        obtain ⟨r2, hr2⟩ : ∃ r, pp + m2 = r := ⟨_, rfl⟩
        have er2 : (pp : Int) + (m2 : Int) = (r2 : Int) := by omega
        have hrb2 : r2 ≤ 2000000 := by omega
        go_wp2_with fail
        (with_reducible refine (HG2.out _ K52.out.b).mono ?_)
        rintro e w' ⟨rfl, rfl⟩
        by_cases hq2 : q2 = 0
        · subst hq2
          have HR := Lib.hid (HR.out.trans (if_neg (by omega)))
          rw [hr2] at HR
          by_cases hv30 : 1073741824 < v2
          · have HR := HR.out
            rw [show min v2 1073741824 = 1073741824 by omega] at HR
            have HR := Lib.hid HR
            have t30 : decide ((1073741824 : Int) < (v2 : Int)) = true := by simp; omega
            obtain ⟨hv, ehv⟩ : ∃ x : List Value, [.bool true, .int .i64 0, .int .u32 (V : Int), .slice Ad 8 cd, .slice As s cs, .slice At v1 ct, .bool false, .bool false, .int .u64 0, .int .i64 (nl : Int)] = x := ⟨_, rfl⟩
            have HONE : Hid (∀ v ∈ hv, v.oneCell' = true) := by rw [← ehv]; simp [Value.oneCell', Hid]
            have HLN : Hid (hv.length = 10) := show _ = _ by rw [← ehv]; simp
            have HL2 : Hid (hdr0.length = hv.length) := show _ = _ by rw [HLN.out]; rfl
            have HV := Lib.hid ehv
            rw [ehv] at K52
            clear ehv
            go_wp2_with (first | ((with_reducible refine wpList_load_rw rfl 26 (.tmp 8) rfl (w.heap.size + 1) ?hx 26 hv K52.out.h _ Try.underlying26 rfl (hdr_sizeL hv HLN.out) ?_); (case hx => with_unfolding_all rfl)) | ((with_reducible refine wpList_store_rw rfl 26 (.tmp 4) (.tmp 242) rfl w.heap.size hv ?hx ?hy 26 hdr0 K52.out.z (hdr_sizeL hv HLN.out) HL2.out HONE.out ?_); (case hx => with_unfolding_all rfl); (case hy => with_unfolding_all rfl); intro w99 R99 O99))
            refine ret_rw3 rfl w.heap.size 26 hv _ rfl R99.out Try.underlying26 rfl (hdr_sizeL hv HLN.out) rfl ?_
            have Ed := (Dd52.out).only O99.out (by omega)
            have Es := (Ds52.out).only O99.out (by omega)
            have Et := (Dt52.out).only O99.out (by omega)
            rw [HR.out]
            refine ⟨hv, ?_, HLN.out, HONE.out, fun _ => ⟨Ad, 8, cd, As, s, cs, At, v1, ct, ?_, ⟨Ed.o.base (by omega), Ed.le, Ed.m⟩, ⟨Es.o.base (by omega), Es.le, Es.m⟩, ⟨Et.o.base (by omega), Et.le, Et.m⟩, HAP.out⟩, K52.out.b.trans (O99.out.below K52.out.b.size (Nat.le_refl _))⟩
            · rfl
            · rw [← HV.out]; unfold hdrB; simp only [HKB.out.1, HKB.out.2.1, HKB.out.2.2.1, HKB.out.2.2.2, HNL.out]; rfl
          · have HR := HR.out
            rw [show min v2 1073741824 = v2 by omega] at HR
            have HR := Lib.hid HR
            have t30 : decide ((1073741824 : Int) < (v2 : Int)) = false := by simp; omega
            have hvb : v2 ≤ 1073741824 := by omega
            obtain ⟨hv, ehv⟩ : ∃ x : List Value, [.bool true, .int .i64 0, .int .u32 (V : Int), .slice Ad 8 cd, .slice As s cs, .slice At v1 ct, .bool false, .bool false, .int .u64 0, .int .i64 (nl : Int)] = x := ⟨_, rfl⟩
            have HONE : Hid (∀ v ∈ hv, v.oneCell' = true) := by rw [← ehv]; simp [Value.oneCell', Hid]
            have HLN : Hid (hv.length = 10) := show _ = _ by rw [← ehv]; simp
            have HL2 : Hid (hdr0.length = hv.length) := show _ = _ by rw [HLN.out]; rfl
            have HV := Lib.hid ehv
            rw [ehv] at K52
            clear ehv
            go_wp2_with (first | ((with_reducible refine wpList_load_rw rfl 26 (.tmp 8) rfl (w.heap.size + 1) ?hx 26 hv K52.out.h _ Try.underlying26 rfl (hdr_sizeL hv HLN.out) ?_); (case hx => with_unfolding_all rfl)) | ((with_reducible refine wpList_store_rw rfl 26 (.tmp 4) (.tmp 242) rfl w.heap.size hv ?hx ?hy 26 hdr0 K52.out.z (hdr_sizeL hv HLN.out) HL2.out HONE.out ?_); (case hx => with_unfolding_all rfl); (case hy => with_unfolding_all rfl); intro w99 R99 O99))
            refine ret_rw3 rfl w.heap.size 26 hv _ rfl R99.out Try.underlying26 rfl (hdr_sizeL hv HLN.out) rfl ?_
            have Ed := (Dd52.out).only O99.out (by omega)
            have Es := (Ds52.out).only O99.out (by omega)
            have Et := (Dt52.out).only O99.out (by omega)
            rw [HR.out]
            refine ⟨hv, ?_, HLN.out, HONE.out, fun _ => ⟨Ad, 8, cd, As, s, cs, At, v1, ct, ?_, ⟨Ed.o.base (by omega), Ed.le, Ed.m⟩, ⟨Es.o.base (by omega), Es.le, Es.m⟩, ⟨Et.o.base (by omega), Et.le, Et.m⟩, HAP.out⟩, K52.out.b.trans (O99.out.below K52.out.b.size (Nat.le_refl _))⟩
            · rfl
            · rw [← HV.out]; unfold hdrB; simp only [HKB.out.1, HKB.out.2.1, HKB.out.2.2.1, HKB.out.2.2.2, HNL.out]; rfl
        · have HR := Lib.hid (HR.out.trans (if_pos hq2))
          have tq : ((q2 : Int) != 0) = true := by simp; omega
          have HQ0 := Lib.hid hq2
          clear hq2
          obtain ⟨hv, ehv⟩ : ∃ x : List Value, [.bool true, .int .i64 0, .int .u32 (V : Int), .slice Ad 8 cd, .slice As s cs, .slice At v1 ct, .bool false, .bool false, .int .u64 0, .int .i64 (nl : Int)] = x := ⟨_, rfl⟩
          have HONE : Hid (∀ v ∈ hv, v.oneCell' = true) := by rw [← ehv]; simp [Value.oneCell', Hid]
          have HLN : Hid (hv.length = 10) := show _ = _ by rw [← ehv]; simp
          have HL2 : Hid (hdr0.length = hv.length) := show _ = _ by rw [HLN.out]; rfl
          rw [ehv] at K52
          clear ehv
          go_wp2_with (first | ((with_reducible refine wpList_load_rw rfl 26 (.tmp 8) rfl (w.heap.size + 1) ?hx 26 hv K52.out.h _ Try.underlying26 rfl (hdr_sizeL hv HLN.out) ?_); (case hx => with_unfolding_all rfl)) | ((with_reducible refine wpList_store_rw rfl 26 (.tmp 4) (.tmp 238) rfl w.heap.size hv ?hx ?hy 26 hdr0 K52.out.z (hdr_sizeL hv HLN.out) HL2.out HONE.out ?_); (case hx => with_unfolding_all rfl); (case hy => with_unfolding_all rfl); intro w99 R99 O99))
          refine ret_rw3 rfl w.heap.size 26 hv _ rfl R99.out Try.underlying26 rfl (hdr_sizeL hv HLN.out) rfl ?_
          exact leads_err q2 (HR.out) HQ0.out K52.out HLN.out HONE.out O99.out
      · have HR := Lib.hid (HR.out.trans (if_pos hq1))
        have tq : ((q1 : Int) != 0) = true := by simp; omega
        have HQ0 := Lib.hid hq1
        clear hq1
        obtain ⟨hv, ehv⟩ : ∃ x : List Value, [.bool true, .int .i64 0, .int .u32 (V : Int), .slice Ad 8 cd, .slice As s cs, .slice none 0 0, .bool false, .bool false, .int .u64 0, .int .i64 (nl : Int)] = x := ⟨_, rfl⟩
        have HONE : Hid (∀ v ∈ hv, v.oneCell' = true) := by rw [← ehv]; simp [Value.oneCell', Hid]
        have HLN : Hid (hv.length = 10) := show _ = _ by rw [← ehv]; simp
        have HL2 : Hid (hdr0.length = hv.length) := show _ = _ by rw [HLN.out]; rfl
        rw [ehv] at K50
        clear ehv
        go_wp2_with (first | ((with_reducible refine wpList_load_rw rfl 26 (.tmp 8) rfl (w.heap.size + 1) ?hx 26 hv K50.out.h _ Try.underlying26 rfl (hdr_sizeL hv HLN.out) ?_); (case hx => with_unfolding_all rfl)) | ((with_reducible refine wpList_store_rw rfl 26 (.tmp 4) (.tmp 202) rfl w.heap.size hv ?hx ?hy 26 hdr0 K50.out.z (hdr_sizeL hv HLN.out) HL2.out HONE.out ?_); (case hx => with_unfolding_all rfl); (case hy => with_unfolding_all rfl); intro w99 R99 O99))
        refine ret_rw3 rfl w.heap.size 26 hv _ rfl R99.out Try.underlying26 rfl (hdr_sizeL hv HLN.out) rfl ?_
        exact leads_err q1 (HR.out) HQ0.out K50.out HLN.out HONE.out O99.out
/-- the document's Lead, whatever the bytes -/
theorem lead_any (l : List UInt8) (A : Option Addr) (n c B : Nat) (w : World) (hs : Sl w B A n l) (hB : B ≤ w.heap.size) (hnc : n ≤ c) (hcm : c ≤ maxLen) (hn : n ≤ 1000000) :
    Calls Try.prog 40 #[.slice A n c, .bool false] w (Leads w (leadR l)) := by
  rcases Nat.eq_zero_or_pos n with rfl | h1
  · exact lead_none l A c hs.1 w
  · obtain ⟨b, hb0⟩ : ∃ b, (l.getD 0 0).toNat = b := ⟨_, rfl⟩
    have hb : b < 256 := by rw [← hb0]; exact (l.getD 0 0).toNat_lt
    by_cases hL : 128 ≤ b
    · by_cases h64 : b / 64 % 2 = 0
      · exact lead_badL l A n c B b w hs hB hnc hcm hn h1 hb0 h64 hL
      · have hk : b / 16 % 4 = 0 ∨ b / 16 % 4 = 1 ∨ b / 16 % 4 = 2 ∨ b / 16 % 4 = 3 := by omega
        rcases hk with hk | hk | hk | hk
        · by_cases hbits : b / 4 % 4 = 0
          · exact lead_long0 l A n c B b w hs hB hnc hcm hn h1 hb0 h64 hL hk hbits
          · exact lead_badk0b l A n c B b w hs hB hnc hcm hn h1 hb0 h64 hL hk hbits
        · exact lead_badk1 l A n c B b w hs hB hnc hcm hn h1 hb0 h64 hL hk
        · by_cases hbits : b / 4 % 4 = 0
          · exact lead_long2 l A n c B b w hs hB hnc hcm hn h1 hb0 h64 hL hk hbits
          · exact lead_badk2b l A n c B b w hs hB hnc hcm hn h1 hb0 h64 hL hk hbits
        · exact lead_badk3 l A n c B b w hs hB hnc hcm hn h1 hb0 h64 hL hk
    · by_cases h64 : b / 64 % 2 = 0
      · exact lead_badS l A n c B b w hs hB hnc hcm hn h1 hb0 h64 (by omega)
      · exact lead_short l A n c B b w hs hB hnc hcm hn h1 hb0 h64 (by omega)
end Go.Proofs.Ytonoljcgcfjkmaa
