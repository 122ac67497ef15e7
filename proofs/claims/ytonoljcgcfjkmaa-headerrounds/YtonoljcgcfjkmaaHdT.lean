/-
  The document's own reading of a header as far as its number: the contract of its Lead, of a short header.
-/
import Derived.Test.YtonoljcgcfjkmaaHdR
import Derived.Test.YtonoljcgcfjkmaaHdS
import Derived.Test.YtonoljcgcfjkmaaBlkW
import Derived.Test.YtonoljcgcfjkmaaOver
namespace Go.Proofs.Ytonoljcgcfjkmaa
open Go.RowKit
set_option linter.unusedVariables false

/-- while a header is read: its variable, and the answer's -/
structure LS (w v : World) (hv : List Value) : Prop where
  h : Rw v (w.heap.size + 1) 26 hv
  z : Rw v w.heap.size 26 hdr0
  b : Below w.heap.size w v
theorem LS.put {w v v' : World} {hv hv' : List Value} (k : LS w v hv) (hr : Rw v' (w.heap.size + 1) 26 hv') (ho : Only (w.heap.size + 1) v v') : LS w v' hv' :=
  ⟨hr, k.z.only ho (by omega), k.b.trans (ho.below k.b.size (by omega))⟩
theorem LS.call {w v v' : World} {hv : List Value} (k : LS w v hv) (hb : Below v.heap.size v v') : LS w v' hv := ⟨k.h.below hb, k.z.below hb, k.b.trans (hb.mono k.b.size)⟩
theorem LS.drew {w v : World} {hv : List Value} (k : LS w v hv) : LS w v.drew hv := ⟨k.h.drew, k.z.drew, k.b.drew⟩
/-- what Lead answers: with a code that is not 0 any header -/
def Leads (w : World) (r : (Hdr × Nat × Nat) × Nat) (e : Ending) (w' : World) : Prop :=
  ∃ hv : List Value, e = .returned (.tuple #[.agg hv.toArray, .int .i64 (r.1.2.1 : Int), .int .i64 (r.1.2.2 : Int), .int .i64 (r.2 : Int)]) ∧ hv.length = 10 ∧ (∀ v ∈ hv, v.oneCell' = true) ∧ (r.2 = 0 → HdrW w' w.heap.size hv r.1.1) ∧ Below w.heap.size w w'
theorem leads_err {w v v' : World} {hv : List Value} {r : (Hdr × Nat × Nat) × Nat} (c : Nat) (hr : r = errR c) (hc : c ≠ 0) (k : LS w v hv) (hl : hv.length = 10) (h1 : ∀ v ∈ hv, v.oneCell' = true) (ho : Only w.heap.size v v') :
    Leads w r (.returned (.tuple #[.agg hv.toArray, .int .i64 0, .int .i64 0, .int .i64 (c : Int)])) v' := by
  subst hr
  exact ⟨hv, rfl, hl, h1, fun h => absurd h hc, k.b.trans (ho.below k.b.size (Nat.le_refl _))⟩
theorem sz_bool : (Try.prog.info? 4).map (·.size) = some 1 := by kernel_rfl
theorem sz_int : (Try.prog.info? 3).map (·.size) = some 1 := by kernel_rfl
theorem hdr0_size : (Try.prog.info? 26).map (·.size) = some hdr0.length := hdr_size
theorem hdr_sizeL (hv : List Value) (h : hv.length = 10) : (Try.prog.info? 26).map (·.size) = some hv.length := by rw [h]; exact hdr_size
/-- a byte of what is read, in any later world -/
theorem byte_later {w : World} {B blk off n : Nat} {l : List UInt8} (h : Sl w B (some ⟨blk, off, none⟩) n l) (hB : B ≤ w.heap.size) (hlt : blk < B) (j : Nat) (hj : j < l.length) (u : World) (hu : Below w.heap.size w u) :
    u.cell? ⟨blk, off + j, none⟩ = some (.int .u8 ((l.getD j 0).toNat : Int)) := (hu.cell (Nat.lt_of_lt_of_le hlt hB)).trans (h.cellD j hj)
set_option maxRecDepth 8000 in
set_option maxHeartbeats 1000000 in
theorem lead_none (l : List UInt8) (A : Option Addr) (c : Nat) (hl : l.length = 0) (w : World) :
    Calls Try.prog 40 #[.slice A 0 c, .bool false] w (Leads w (leadR l)) := by
  have t0 : leadR l = errR 3 := by unfold leadR; rw [if_pos hl]
  have HR := Lib.hid t0
  clear t0 hl
  go_enter Try.func40, Try.ntmps40
  obtain ⟨hv, ehv⟩ : ∃ x : List Value, [.bool false, .int .i64 0, .int .u32 0, .slice none 0 0, .slice none 0 0, .slice none 0 0, .bool false, .bool false, .int .u64 0, .int .i64 0] = x := ⟨_, rfl⟩
  have HONE : Hid (∀ v ∈ hv, v.oneCell' = true) := by rw [← ehv]; simp [Value.oneCell', Hid]
  have HLN : Hid (hv.length = 10) := show _ = _ by rw [← ehv]; simp
  have HL2 : Hid (hdr0.length = hv.length) := show _ = _ by rw [HLN.out]; rfl
  have EHV := Lib.hid ehv
  clear ehv
  go_wp2_with (first | ((with_reducible refine wpList_store_rw rfl 26 (.tmp 8) (.tmp 26) rfl (w.heap.size + 1) hdr0 ?hx ?hy 26 hdr0 ?hB hdr0_size rfl hdr0_one ?_); (case hx => with_unfolding_all rfl); (case hy => with_unfolding_all rfl); (case hB => exact heap_allocs w [_, _] 1 _ rfl); intro w1 R1 O1; have K1 : Hid (LS w w1 [.bool false, .int .i64 0, .int .u32 0, .slice none 0 0, .slice none 0 0, .slice none 0 0, .bool false, .bool false, .int .u64 0, .int .i64 0]) := ⟨R1.out, (show Rw _ _ _ _ from heap_allocs w [_, _] 0 _ rfl).only O1.out (by omega), (((Below.refl _ w).alloc (Nat.le_refl _) _).alloc (by simp) _).trans (O1.out.below (by simp; omega) (by omega))⟩) | ((with_reducible refine wpList_load_rw rfl 26 (.tmp 8) rfl (w.heap.size + 1) ?hx 26 hv ?hB _ Try.underlying26 rfl (hdr_sizeL hv HLN.out) ?_); (case hx => with_unfolding_all rfl); (case hB => rw [← EHV.out]; exact K1.out.h)) | ((with_reducible refine wpList_store_rw rfl 26 (.tmp 4) (.tmp 30) rfl w.heap.size hv ?hx ?hy 26 hdr0 K1.out.z (hdr_sizeL hv HLN.out) HL2.out HONE.out ?_); (case hx => with_unfolding_all rfl); (case hy => with_unfolding_all rfl); intro w99 R99 O99))
  refine ret_rw3 rfl w.heap.size 26 hv _ rfl R99.out Try.underlying26 rfl (hdr_sizeL hv HLN.out) rfl ?_
  rw [EHV.out] at K1
  exact leads_err 3 HR.out (by omega) K1.out HLN.out HONE.out O99.out
set_option maxRecDepth 8000 in
set_option maxHeartbeats 1000000 in
theorem lead_badL (l : List UInt8) (A : Option Addr) (n c B b : Nat) (w : World) (hs : Sl w B A n l) (hB : B ≤ w.heap.size) (hnc : n ≤ c) (hcm : c ≤ maxLen) (hn : n ≤ 1000000) (h1 : 0 < n) (hb0 : (l.getD 0 0).toNat = b) (h64 : b / 64 % 2 = 0) (hL : 128 ≤ b) :
    Calls Try.prog 40 #[.slice A n c, .bool false] w (Leads w (leadR l)) := by
  have hbb : b < 256 := by rw [← hb0]; exact (l.getD 0 0).toNat_lt
  have hln := hs.1
  obtain ⟨blk, off, rfl, hblt, _⟩ := hs.2 h1
  have HX0 : Hid (∀ u : World, Below w.heap.size w u → u.cell? ⟨blk, off, none⟩ = some (.int .u8 (b : Int))) := fun u hu => by have h := byte_later hs hB hblt 0 (by omega) u hu; rw [hb0] at h; exact h
  have HS : Hid (∀ u : World, Below w.heap.size w u → Sl u B (some ⟨blk, off, none⟩) n l) := fun u hu => hs.below (hu.mono hB)
  have HC : Hid (n ≤ c ∧ c ≤ maxLen) := ⟨hnc, hcm⟩
  obtain ⟨a128, a64, a32, a4, a3, a24, a12, a16⟩ := ands_at b hbb
  obtain ⟨q, hq⟩ : ∃ q, b % 4 = q := ⟨_, rfl⟩
  have hq4 : q < 4 := by omega
  have e3 := and_u8 b 3 hbb (by omega) 3 rfl q (by omega)
  obtain ⟨nl, hnl⟩ : ∃ m, q + 1 = m := ⟨_, rfl⟩
  have e3n : (q : Int) + 1 = (nl : Int) := by omega
  have HNL : Hid (nlB b = nl) := show _ = _ by unfold nlB; omega
  have hnlb : nl ≤ 4 := by omega
  have t0 : leadR l = errR 5 := by unfold leadR; rw [if_neg (by omega), hb0, if_pos h64]
  have HR := Lib.hid t0
  have e128 := and_u8 b 128 hbb (by omega) 128 rfl 128 (by omega)
  have e64 := and_u8 b 64 hbb (by omega) 64 rfl 0 (by omega)
  clear t0 hL h64 a128 a64 a32 a4 a3 a24 a12 a16 hq hnl hs hB hnc hcm hb0 hblt
  go_enter Try.func40, Try.ntmps40
  go_upto_region 7 with (first | ((with_reducible refine wpList_store_rw rfl 26 (.tmp 8) (.tmp 26) rfl (w.heap.size + 1) hdr0 ?hx ?hy 26 hdr0 ?hB hdr0_size rfl hdr0_one ?_); (case hx => with_unfolding_all rfl); (case hy => with_unfolding_all rfl); (case hB => exact heap_allocs w [_, _] 1 _ rfl); intro w1 R1 O1; have K1 : Hid (LS w w1 [.bool false, .int .i64 0, .int .u32 0, .slice none 0 0, .slice none 0 0, .slice none 0 0, .bool false, .bool false, .int .u64 0, .int .i64 0]) := ⟨R1.out, (show Rw _ _ _ _ from heap_allocs w [_, _] 0 _ rfl).only O1.out (by omega), (((Below.refl _ w).alloc (Nat.le_refl _) _).alloc (by simp) _).trans (O1.out.below (by simp; omega) (by omega))⟩; have x01 := HX0.out _ K1.out.b) | ((with_reducible refine wpList_put_rw rfl 4 (.tmp 36) (.tmp 35) rfl (w.heap.size + 1) 0 (.bool true) ?hx ?hy rfl rfl 26 [.bool false, .int .i64 0, .int .u32 0, .slice none 0 0, .slice none 0 0, .slice none 0 0, .bool false, .bool false, .int .u64 0, .int .i64 0] K1.out.h sz_bool (by simp) ?_); (case hx => with_unfolding_all rfl); (case hy => with_unfolding_all rfl); intro w2 R2 O2; have K2 : Hid (LS w w2 [.bool true, .int .i64 0, .int .u32 0, .slice none 0 0, .slice none 0 0, .slice none 0 0, .bool false, .bool false, .int .u64 0, .int .i64 0]) := K1.out.put R2.out O2.out; have x02 := HX0.out _ K2.out.b) | ((with_reducible refine wpList_put_rw rfl 3 (.tmp 43) (.tmp 42) rfl (w.heap.size + 1) 9 (.int .i64 (nl : Int)) ?hx ?hy rfl rfl 26 [.bool true, .int .i64 0, .int .u32 0, .slice none 0 0, .slice none 0 0, .slice none 0 0, .bool false, .bool false, .int .u64 0, .int .i64 0] K2.out.h sz_int (by simp) ?_); (case hx => with_unfolding_all rfl); (case hy => with_unfolding_all rfl); intro w3 R3 O3; have K3 : Hid (LS w w3 [.bool true, .int .i64 0, .int .u32 0, .slice none 0 0, .slice none 0 0, .slice none 0 0, .bool false, .bool false, .int .u64 0, .int .i64 (nl : Int)]) := K2.out.put R3.out O3.out; have x03 := HX0.out _ K3.out.b))
  obtain ⟨hv, ehv⟩ : ∃ x : List Value, [.bool true, .int .i64 0, .int .u32 0, .slice none 0 0, .slice none 0 0, .slice none 0 0, .bool false, .bool false, .int .u64 0, .int .i64 (nl : Int)] = x := ⟨_, rfl⟩
  have HONE : Hid (∀ v ∈ hv, v.oneCell' = true) := by rw [← ehv]; simp [Value.oneCell', Hid]
  have HLN : Hid (hv.length = 10) := show _ = _ by rw [← ehv]; simp
  have HL2 : Hid (hdr0.length = hv.length) := show _ = _ by rw [HLN.out]; rfl
  rw [ehv] at K3
  clear ehv
  go_wp2_with (first | ((with_reducible refine wpList_load_rw rfl 26 (.tmp 8) rfl (w.heap.size + 1) ?hx 26 hv K3.out.h _ Try.underlying26 rfl (hdr_sizeL hv HLN.out) ?_); (case hx => with_unfolding_all rfl)) | ((with_reducible refine wpList_store_rw rfl 26 (.tmp 4) (.tmp 49) rfl w.heap.size hv ?hx ?hy 26 hdr0 K3.out.z (hdr_sizeL hv HLN.out) HL2.out HONE.out ?_); (case hx => with_unfolding_all rfl); (case hy => with_unfolding_all rfl); intro w99 R99 O99))
  refine ret_rw3 rfl w.heap.size 26 hv _ rfl R99.out Try.underlying26 rfl (hdr_sizeL hv HLN.out) rfl ?_
  exact leads_err 5 (HR.out) (by omega) K3.out HLN.out HONE.out O99.out
set_option maxRecDepth 8000 in
set_option maxHeartbeats 1000000 in
theorem lead_badS (l : List UInt8) (A : Option Addr) (n c B b : Nat) (w : World) (hs : Sl w B A n l) (hB : B ≤ w.heap.size) (hnc : n ≤ c) (hcm : c ≤ maxLen) (hn : n ≤ 1000000) (h1 : 0 < n) (hb0 : (l.getD 0 0).toNat = b) (h64 : b / 64 % 2 = 0) (hL : b < 128) :
    Calls Try.prog 40 #[.slice A n c, .bool false] w (Leads w (leadR l)) := by
  have hbb : b < 256 := by rw [← hb0]; exact (l.getD 0 0).toNat_lt
  have hln := hs.1
  obtain ⟨blk, off, rfl, hblt, _⟩ := hs.2 h1
  have HX0 : Hid (∀ u : World, Below w.heap.size w u → u.cell? ⟨blk, off, none⟩ = some (.int .u8 (b : Int))) := fun u hu => by have h := byte_later hs hB hblt 0 (by omega) u hu; rw [hb0] at h; exact h
  have HS : Hid (∀ u : World, Below w.heap.size w u → Sl u B (some ⟨blk, off, none⟩) n l) := fun u hu => hs.below (hu.mono hB)
  have HC : Hid (n ≤ c ∧ c ≤ maxLen) := ⟨hnc, hcm⟩
  obtain ⟨a128, a64, a32, a4, a3, a24, a12, a16⟩ := ands_at b hbb
  obtain ⟨q, hq⟩ : ∃ q, b % 4 = q := ⟨_, rfl⟩
  have hq4 : q < 4 := by omega
  have e3 := and_u8 b 3 hbb (by omega) 3 rfl q (by omega)
  obtain ⟨nl, hnl⟩ : ∃ m, q + 1 = m := ⟨_, rfl⟩
  have e3n : (q : Int) + 1 = (nl : Int) := by omega
  have HNL : Hid (nlB b = nl) := show _ = _ by unfold nlB; omega
  have hnlb : nl ≤ 4 := by omega
  have t0 : leadR l = errR 5 := by unfold leadR; rw [if_neg (by omega), hb0, if_pos h64]
  have HR := Lib.hid t0
  have e128 := and_u8 b 128 hbb (by omega) 128 rfl 0 (by omega)
  have e64 := and_u8 b 64 hbb (by omega) 64 rfl 0 (by omega)
  clear t0 hL h64 a128 a64 a32 a4 a3 a24 a12 a16 hq hnl hs hB hnc hcm hb0 hblt
  go_enter Try.func40, Try.ntmps40
  go_upto_region 7 with (first | ((with_reducible refine wpList_store_rw rfl 26 (.tmp 8) (.tmp 26) rfl (w.heap.size + 1) hdr0 ?hx ?hy 26 hdr0 ?hB hdr0_size rfl hdr0_one ?_); (case hx => with_unfolding_all rfl); (case hy => with_unfolding_all rfl); (case hB => exact heap_allocs w [_, _] 1 _ rfl); intro w1 R1 O1; have K1 : Hid (LS w w1 [.bool false, .int .i64 0, .int .u32 0, .slice none 0 0, .slice none 0 0, .slice none 0 0, .bool false, .bool false, .int .u64 0, .int .i64 0]) := ⟨R1.out, (show Rw _ _ _ _ from heap_allocs w [_, _] 0 _ rfl).only O1.out (by omega), (((Below.refl _ w).alloc (Nat.le_refl _) _).alloc (by simp) _).trans (O1.out.below (by simp; omega) (by omega))⟩; have x01 := HX0.out _ K1.out.b) | ((with_reducible refine wpList_put_rw rfl 4 (.tmp 36) (.tmp 35) rfl (w.heap.size + 1) 0 (.bool false) ?hx ?hy rfl rfl 26 [.bool false, .int .i64 0, .int .u32 0, .slice none 0 0, .slice none 0 0, .slice none 0 0, .bool false, .bool false, .int .u64 0, .int .i64 0] K1.out.h sz_bool (by simp) ?_); (case hx => with_unfolding_all rfl); (case hy => with_unfolding_all rfl); intro w2 R2 O2; have K2 : Hid (LS w w2 [.bool false, .int .i64 0, .int .u32 0, .slice none 0 0, .slice none 0 0, .slice none 0 0, .bool false, .bool false, .int .u64 0, .int .i64 0]) := K1.out.put R2.out O2.out; have x02 := HX0.out _ K2.out.b) | ((with_reducible refine wpList_put_rw rfl 3 (.tmp 43) (.tmp 42) rfl (w.heap.size + 1) 9 (.int .i64 (nl : Int)) ?hx ?hy rfl rfl 26 [.bool false, .int .i64 0, .int .u32 0, .slice none 0 0, .slice none 0 0, .slice none 0 0, .bool false, .bool false, .int .u64 0, .int .i64 0] K2.out.h sz_int (by simp) ?_); (case hx => with_unfolding_all rfl); (case hy => with_unfolding_all rfl); intro w3 R3 O3; have K3 : Hid (LS w w3 [.bool false, .int .i64 0, .int .u32 0, .slice none 0 0, .slice none 0 0, .slice none 0 0, .bool false, .bool false, .int .u64 0, .int .i64 (nl : Int)]) := K2.out.put R3.out O3.out; have x03 := HX0.out _ K3.out.b))
  obtain ⟨hv, ehv⟩ : ∃ x : List Value, [.bool false, .int .i64 0, .int .u32 0, .slice none 0 0, .slice none 0 0, .slice none 0 0, .bool false, .bool false, .int .u64 0, .int .i64 (nl : Int)] = x := ⟨_, rfl⟩
  have HONE : Hid (∀ v ∈ hv, v.oneCell' = true) := by rw [← ehv]; simp [Value.oneCell', Hid]
  have HLN : Hid (hv.length = 10) := show _ = _ by rw [← ehv]; simp
  have HL2 : Hid (hdr0.length = hv.length) := show _ = _ by rw [HLN.out]; rfl
  rw [ehv] at K3
  clear ehv
  go_wp2_with (first | ((with_reducible refine wpList_load_rw rfl 26 (.tmp 8) rfl (w.heap.size + 1) ?hx 26 hv K3.out.h _ Try.underlying26 rfl (hdr_sizeL hv HLN.out) ?_); (case hx => with_unfolding_all rfl)) | ((with_reducible refine wpList_store_rw rfl 26 (.tmp 4) (.tmp 49) rfl w.heap.size hv ?hx ?hy 26 hdr0 K3.out.z (hdr_sizeL hv HLN.out) HL2.out HONE.out ?_); (case hx => with_unfolding_all rfl); (case hy => with_unfolding_all rfl); intro w99 R99 O99))
  refine ret_rw3 rfl w.heap.size 26 hv _ rfl R99.out Try.underlying26 rfl (hdr_sizeL hv HLN.out) rfl ?_
  exact leads_err 5 (HR.out) (by omega) K3.out HLN.out HONE.out O99.out
set_option maxHeartbeats 4000000 in
set_option maxRecDepth 8000 in
theorem lead_short (l : List UInt8) (A : Option Addr) (n c B b : Nat) (w : World) (hs : Sl w B A n l) (hB : B ≤ w.heap.size) (hnc : n ≤ c) (hcm : c ≤ maxLen) (hn : n ≤ 1000000) (h1 : 0 < n) (hb0 : (l.getD 0 0).toNat = b) (h64 : b / 64 % 2 ≠ 0) (hL : b < 128) :
    Calls Try.prog 40 #[.slice A n c, .bool false] w (Leads w (leadR l)) := by
  have hbb : b < 256 := by rw [← hb0]; exact (l.getD 0 0).toNat_lt
  have hln := hs.1
  obtain ⟨blk, off, rfl, hblt, _⟩ := hs.2 h1
  have HX0 : Hid (∀ u : World, Below w.heap.size w u → u.cell? ⟨blk, off, none⟩ = some (.int .u8 (b : Int))) := fun u hu => by have h := byte_later hs hB hblt 0 (by omega) u hu; rw [hb0] at h; exact h
  have HS : Hid (∀ u : World, Below w.heap.size w u → Sl u B (some ⟨blk, off, none⟩) n l) := fun u hu => hs.below (hu.mono hB)
  have HC : Hid (n ≤ c ∧ c ≤ maxLen) := ⟨hnc, hcm⟩
  obtain ⟨a128, a64, a32, a4, a3, a24, a12, a16⟩ := ands_at b hbb
  obtain ⟨q, hq⟩ : ∃ q, b % 4 = q := ⟨_, rfl⟩
  have hq4 : q < 4 := by omega
  have e3 := and_u8 b 3 hbb (by omega) 3 rfl q (by omega)
  obtain ⟨nl, hnl⟩ : ∃ m, q + 1 = m := ⟨_, rfl⟩
  have e3n : (q : Int) + 1 = (nl : Int) := by omega
  have HNL : Hid (nlB b = nl) := show _ = _ by unfold nlB; omega
  have hnlb : nl ≤ 4 := by omega
  have t0 : leadR l = shortL l b := by unfold leadR; rw [if_neg (by omega), hb0, if_neg (by omega), if_neg (by omega)]
  have HR := Lib.hid t0
  have e128 := and_u8 b 128 hbb (by omega) 128 rfl 0 (by omega)
  have e64 := and_u8 b 64 hbb (by omega) 64 rfl 64 (by omega)
  obtain ⟨v32, hv32⟩ : ∃ v, b / 32 % 2 * 32 = v := ⟨_, rfl⟩
  obtain ⟨v4, hv4⟩ : ∃ v, b / 4 % 2 * 4 = v := ⟨_, rfl⟩
  obtain ⟨v24, hv24⟩ : ∃ v, b / 8 % 4 * 8 = v := ⟨_, rfl⟩
  have e32 := and_u8 b 32 hbb (by omega) 32 rfl v32 (by omega)
  have e4 := and_u8 b 4 hbb (by omega) 4 rfl v4 (by omega)
  have e24 := and_u8 b 24 hbb (by omega) 24 rfl v24 (by omega)
  obtain ⟨S, hS⟩ : ∃ s, ((v32 : Int) != 0) = s := ⟨_, rfl⟩
  obtain ⟨P, hP⟩ : ∃ s, ((v4 : Int) != 0) = s := ⟨_, rfl⟩
  have HSB : Hid (spinB b = S) := show _ = _ by rw [← hS]; unfold spinB; rw [Bool.eq_iff_iff]; simp; omega
  have HPB : Hid (phaseB b = P) := show _ = _ by rw [← hP]; unfold phaseB; rw [Bool.eq_iff_iff]; simp; omega
  have HLB : Hid (longB b = false ∧ kindB b = 0) := ⟨by unfold longB; simp; omega, by unfold kindB; rw [if_neg (by omega)]⟩
  have hw : (b / 8 % 4 ≠ 0 ∧ ((v24 : Int) != 0) = true) ∨ (b / 8 % 4 = 0 ∧ ((v24 : Int) != 0) = false) := by
    by_cases h : b / 8 % 4 = 0
    · exact .inr ⟨h, by simp; omega⟩
    · exact .inl ⟨h, by simp; omega⟩
  have HW := Lib.hid hw
  clear t0 hL h64 a128 a64 a32 a4 a3 a24 a12 a16 hq hnl hs hB hnc hcm hb0 hblt hv32 hv4 hv24 hw
  go_enter Try.func40, Try.ntmps40
  go_upto_region 9 with (first | ((with_reducible refine wpList_store_rw rfl 26 (.tmp 8) (.tmp 26) rfl (w.heap.size + 1) hdr0 ?hx ?hy 26 hdr0 ?hB hdr0_size rfl hdr0_one ?_); (case hx => with_unfolding_all rfl); (case hy => with_unfolding_all rfl); (case hB => exact heap_allocs w [_, _] 1 _ rfl); intro w1 R1 O1; have K1 : Hid (LS w w1 [.bool false, .int .i64 0, .int .u32 0, .slice none 0 0, .slice none 0 0, .slice none 0 0, .bool false, .bool false, .int .u64 0, .int .i64 0]) := ⟨R1.out, (show Rw _ _ _ _ from heap_allocs w [_, _] 0 _ rfl).only O1.out (by omega), (((Below.refl _ w).alloc (Nat.le_refl _) _).alloc (by simp) _).trans (O1.out.below (by simp; omega) (by omega))⟩; have x01 := HX0.out _ K1.out.b) | ((with_reducible refine wpList_put_rw rfl 4 (.tmp 36) (.tmp 35) rfl (w.heap.size + 1) 0 (.bool false) ?hx ?hy rfl rfl 26 [.bool false, .int .i64 0, .int .u32 0, .slice none 0 0, .slice none 0 0, .slice none 0 0, .bool false, .bool false, .int .u64 0, .int .i64 0] K1.out.h sz_bool (by simp) ?_); (case hx => with_unfolding_all rfl); (case hy => with_unfolding_all rfl); intro w2 R2 O2; have K2 : Hid (LS w w2 [.bool false, .int .i64 0, .int .u32 0, .slice none 0 0, .slice none 0 0, .slice none 0 0, .bool false, .bool false, .int .u64 0, .int .i64 0]) := K1.out.put R2.out O2.out; have x02 := HX0.out _ K2.out.b; have l2 := K2.out.h.cell 0 (.bool false) rfl) | ((with_reducible refine wpList_put_rw rfl 3 (.tmp 43) (.tmp 42) rfl (w.heap.size + 1) 9 (.int .i64 (nl : Int)) ?hx ?hy rfl rfl 26 [.bool false, .int .i64 0, .int .u32 0, .slice none 0 0, .slice none 0 0, .slice none 0 0, .bool false, .bool false, .int .u64 0, .int .i64 0] K2.out.h sz_int (by simp) ?_); (case hx => with_unfolding_all rfl); (case hy => with_unfolding_all rfl); intro w3 R3 O3; have K3 : Hid (LS w w3 [.bool false, .int .i64 0, .int .u32 0, .slice none 0 0, .slice none 0 0, .slice none 0 0, .bool false, .bool false, .int .u64 0, .int .i64 (nl : Int)]) := K2.out.put R3.out O3.out; have x03 := HX0.out _ K3.out.b; have l3 := K3.out.h.cell 0 (.bool false) rfl))
  refine wp_held (S := fun u => u.cell? ⟨blk, off, none⟩ = some (.int .u8 (b : Int))) (by kernel_rfl) ?_
  replace K3 := Lib.hid K3.out.drew
  obtain ⟨w0, hw0⟩ : ∃ x, w3.drew = x := ⟨_, rfl⟩
  rw [hw0] at K3 ⊢
  clear hw0
  have hS0 := HX0.out _ K3.out.b
  refine wpAnyH_take (i := 0) (v := ?_) rfl (by kernel_rfl) (by kernel_rfl) (by kernel_rfl) (fun _ _ _ h => h) (Or.inl ⟨by rfl, ?_⟩) hS0 ?_
  rotate_left 1
  · intro u hu
    go_simp
    first | done | with_reducible rfl
  go_simp
  refine wpAnyH_take (i := 1) (v := ?_) rfl (by kernel_rfl) (by kernel_rfl) (by kernel_rfl) (fun _ _ _ h => h) (Or.inl ⟨by rfl, ?_⟩) hS0 ?_
  rotate_left 1
  · intro u hu
    go_simp
    first | done | with_reducible rfl
  go_simp
  refine wpAnyH_take (i := 2) (v := ?_) rfl (by kernel_rfl) (by kernel_rfl) (by kernel_rfl) (fun _ _ _ h => h) (Or.inl ⟨by rfl, ?_⟩) hS0 ?_
  rotate_left 1
  · intro u hu
    go_simp
    first | done | with_reducible rfl
  go_simp
  refine wpAnyH_take (i := 3) (v := ?_) rfl (by kernel_rfl) (by kernel_rfl) (by kernel_rfl) (fun _ _ _ h => h) (Or.inl ⟨by rfl, ?_⟩) hS0 ?_
  rotate_left 1
  · intro u hu
    go_simp
    first | done | with_reducible rfl
  go_simp
  refine wpAnyH_take (i := 4) (v := ?_) rfl (by kernel_rfl) (by kernel_rfl) (by kernel_rfl) (fun _ _ _ h => h) (Or.inl ⟨by rfl, ?_⟩) hS0 ?_
  rotate_left 1
  · intro u hu
    go_simp
    first | done | with_reducible rfl
  go_simp
  refine wpAnyH_take (i := 5) (v := ?_) rfl (by kernel_rfl) (by kernel_rfl) (by kernel_rfl) (fun _ _ _ h => h) (Or.inl ⟨by rfl, ?_⟩) hS0 ?_
  rotate_left 1
  · intro u hu
    go_simp
    first | done | with_reducible rfl
  go_simp
  refine wpAnyH_take (i := 6) (v := ?_) rfl (by kernel_rfl) (by kernel_rfl) (by kernel_rfl) (fun _ _ _ h => h) (Or.inl ⟨by rfl, ?_⟩) hS0 ?_
  rotate_left 1
  · intro u hu
    go_simp
    first | done | with_reducible rfl
  go_simp
  refine wpAnyH_take (i := 7) (v := ?_) rfl (by kernel_rfl) (by kernel_rfl) (by kernel_rfl) (fun _ _ _ h => h) (Or.inl ⟨by rfl, ?_⟩) hS0 ?_
  rotate_left 1
  · intro u hu
    go_simp
    first | done | with_reducible rfl
  go_simp
  refine wpAnyH_take (i := 8) (v := ?_) rfl (by kernel_rfl) (by kernel_rfl) (by kernel_rfl) (fun _ _ _ h => h) (Or.inl ⟨by rfl, ?_⟩) hS0 ?_
  rotate_left 1
  · intro u hu
    go_simp
    first | done | with_reducible rfl
  go_simp
  refine wpAnyH_take (i := 9) (v := ?_) rfl (by kernel_rfl) (by kernel_rfl) (by kernel_rfl) (fun _ _ _ h => h) (Or.inl ⟨by rfl, ?_⟩) hS0 ?_
  rotate_left 1
  · intro u hu
    go_simp
    first | done | with_reducible rfl
  go_simp
  refine wpAnyH_take (i := 10) (v := ?_) rfl (by kernel_rfl) (by kernel_rfl) (by kernel_rfl) (fun _ _ _ h => h) (Or.inl ⟨by rfl, ?_⟩) hS0 ?_
  rotate_left 1
  · intro u hu
    go_simp
    first | done | with_reducible rfl
  go_simp
  refine wpAnyH_oneG 11 (by kernel_rfl) rfl (by rfl) ?_
  refine wp_put_rw 4 (.tmp 63) (.tmp 57) rfl (w.heap.size + 1) 6 (.bool S) (by with_unfolding_all rfl) (by with_unfolding_all rfl) rfl rfl 26 [.bool false, .int .i64 0, .int .u32 0, .slice none 0 0, .slice none 0 0, .slice none 0 0, .bool false, .bool false, .int .u64 0, .int .i64 (nl : Int)] K3.out.h sz_bool (by simp) ?_
  intro w4 R4 O4
  have K4 : Hid (LS w w4 [.bool false, .int .i64 0, .int .u32 0, .slice none 0 0, .slice none 0 0, .slice none 0 0, .bool S, .bool false, .int .u64 0, .int .i64 (nl : Int)]) := K3.out.put R4.out O4.out
  have hS1 := HX0.out _ K4.out.b
  refine ⟨hS1, ?_⟩
  go_simp
  refine wpAnyH_take (i := 12) (v := ?_) rfl (by kernel_rfl) (by kernel_rfl) (by kernel_rfl) (fun _ _ _ h => h) (Or.inl ⟨by rfl, ?_⟩) hS1 ?_
  rotate_left 1
  · intro u hu
    go_simp
    first | done | with_reducible rfl
  go_simp
  refine wpAnyH_oneG 13 (by kernel_rfl) rfl (by rfl) ?_
  refine wp_put_rw 4 (.tmp 64) (.tmp 62) rfl (w.heap.size + 1) 7 (.bool P) (by with_unfolding_all rfl) (by with_unfolding_all rfl) rfl rfl 26 [.bool false, .int .i64 0, .int .u32 0, .slice none 0 0, .slice none 0 0, .slice none 0 0, .bool S, .bool false, .int .u64 0, .int .i64 (nl : Int)] K4.out.h sz_bool (by simp) ?_
  intro w5 R5 O5
  have K5 : Hid (LS w w5 [.bool false, .int .i64 0, .int .u32 0, .slice none 0 0, .slice none 0 0, .slice none 0 0, .bool S, .bool P, .int .u64 0, .int .i64 (nl : Int)]) := K4.out.put R5.out O5.out
  have x05 := HX0.out _ K5.out.b
  refine ⟨x05, ?_⟩
  go_simp
  refine wpAnyH_done (by kernel_rfl) ?_ _
  rcases HW.out with ⟨hB1, tB⟩ | ⟨hB1, tB⟩
  · have HR : Hid (leadR l = errR 5) := show _ = _ by rw [HR.out]; unfold shortL; rw [if_pos hB1]
    clear hB1
    obtain ⟨hv, ehv⟩ : ∃ x : List Value, [.bool false, .int .i64 0, .int .u32 0, .slice none 0 0, .slice none 0 0, .slice none 0 0, .bool S, .bool P, .int .u64 0, .int .i64 (nl : Int)] = x := ⟨_, rfl⟩
    have HONE : Hid (∀ v ∈ hv, v.oneCell' = true) := by rw [← ehv]; simp [Value.oneCell', Hid]
    have HLN : Hid (hv.length = 10) := show _ = _ by rw [← ehv]; simp
    have HL2 : Hid (hdr0.length = hv.length) := show _ = _ by rw [HLN.out]; rfl
    rw [ehv] at K5
    clear ehv
    go_wp2_with (first | ((with_reducible refine wpList_load_rw rfl 26 (.tmp 8) rfl (w.heap.size + 1) ?hx 26 hv K5.out.h _ Try.underlying26 rfl (hdr_sizeL hv HLN.out) ?_); (case hx => with_unfolding_all rfl)) | ((with_reducible refine wpList_store_rw rfl 26 (.tmp 4) (.tmp 74) rfl w.heap.size hv ?hx ?hy 26 hdr0 K5.out.z (hdr_sizeL hv HLN.out) HL2.out HONE.out ?_); (case hx => with_unfolding_all rfl); (case hy => with_unfolding_all rfl); intro w99 R99 O99))
    refine ret_rw3 rfl w.heap.size 26 hv _ rfl R99.out Try.underlying26 rfl (hdr_sizeL hv HLN.out) rfl ?_
    exact leads_err 5 (HR.out) (by omega) K5.out HLN.out HONE.out O99.out
  · by_cases h9 : n < 9
    · have HR : Hid (leadR l = errR 3) := show _ = _ by rw [HR.out]; unfold shortL; rw [if_neg (by omega), if_pos (by omega)]
      clear hB1
      go_wp2_with fail
      (with_reducible refine (part_no 1 8 1 8 rfl rfl (some ⟨blk, off, none⟩) n c _ (by omega) (by omega) (by omega) (by omega)).mono ?_)
      rintro e w' ⟨rfl, rfl⟩
      obtain ⟨hv, ehv⟩ : ∃ x : List Value, [.bool false, .int .i64 0, .int .u32 0, .slice none 0 0, .slice none 0 0, .slice none 0 0, .bool S, .bool P, .int .u64 0, .int .i64 (nl : Int)] = x := ⟨_, rfl⟩
      have HONE : Hid (∀ v ∈ hv, v.oneCell' = true) := by rw [← ehv]; simp [Value.oneCell', Hid]
      have HLN : Hid (hv.length = 10) := show _ = _ by rw [← ehv]; simp
      have HL2 : Hid (hdr0.length = hv.length) := show _ = _ by rw [HLN.out]; rfl
      rw [ehv] at K5
      clear ehv
      go_wp2_with (first | ((with_reducible refine wpList_load_rw rfl 26 (.tmp 8) rfl (w.heap.size + 1) ?hx 26 hv K5.out.h _ Try.underlying26 rfl (hdr_sizeL hv HLN.out) ?_); (case hx => with_unfolding_all rfl)) | ((with_reducible refine wpList_store_rw rfl 26 (.tmp 4) (.tmp 82) rfl w.heap.size hv ?hx ?hy 26 hdr0 K5.out.z (hdr_sizeL hv HLN.out) HL2.out HONE.out ?_); (case hx => with_unfolding_all rfl); (case hy => with_unfolding_all rfl); intro w99 R99 O99))
      refine ret_rw3 rfl w.heap.size 26 hv _ rfl R99.out Try.underlying26 rfl (hdr_sizeL hv HLN.out) rfl ?_
      exact leads_err 3 (HR.out) (by omega) K5.out HLN.out HONE.out O99.out
    · have HR : Hid (leadR l = ((hdrB b 0 ((l.drop 1).take 8) [] [], 9, n - 9), 0)) := show _ = _ by rw [HR.out]; unfold shortL; rw [if_neg (by omega), if_neg (by omega), hln]
      clear hB1
      obtain ⟨m9, hm9⟩ : ∃ m, n - 9 = m := ⟨_, rfl⟩
      have hm9i : (n : Int) - 9 = (m9 : Int) := by omega
      rw [hm9] at HR
      go_wp2_with fail
      (with_reducible refine (part_yes 1 8 1 8 rfl rfl l (some ⟨blk, off, none⟩) n c B _ (HS.out _ K5.out.b) HC.out.1 HC.out.2 (by omega) (by omega)).mono ?_)
      rintro e6 w6 ⟨Ad, cd, rfl, ho, hle, hc, hb⟩
      have K6 := Lib.hid (K5.out.call hb)
      have Dd6 : Hid (OwnS (w.heap.size + 1) w6 Ad 8 cd ((l.drop 1).take 8)) := ⟨ho.base K5.out.h.lt, hle, hc⟩
      clear ho hle hc hb
      have x06 := HX0.out _ K6.out.b
      go_upto_region 16 with ((with_reducible refine wpList_put_rw rfl 23 (.tmp 84) (.tmp 83) rfl (w.heap.size + 1) 3 (.slice Ad 8 cd) ?hx ?hy rfl rfl 26 [.bool false, .int .i64 0, .int .u32 0, .slice none 0 0, .slice none 0 0, .slice none 0 0, .bool S, .bool P, .int .u64 0, .int .i64 (nl : Int)] K6.out.h sz_slice (by simp) ?_); (case hx => with_unfolding_all rfl); (case hy => with_unfolding_all rfl); intro w7 R7 O7; have K7 : Hid (LS w w7 [.bool false, .int .i64 0, .int .u32 0, .slice Ad 8 cd, .slice none 0 0, .slice none 0 0, .bool S, .bool P, .int .u64 0, .int .i64 (nl : Int)]) := K6.out.put R7.out O7.out; have Dd7 := Lib.hid (Dd6.out.only O7.out (Nat.le_refl _)); have x07 := HX0.out _ K7.out.b)
      obtain ⟨hv, ehv⟩ : ∃ x : List Value, [.bool false, .int .i64 0, .int .u32 0, .slice Ad 8 cd, .slice none 0 0, .slice none 0 0, .bool S, .bool P, .int .u64 0, .int .i64 (nl : Int)] = x := ⟨_, rfl⟩
      have HONE : Hid (∀ v ∈ hv, v.oneCell' = true) := by rw [← ehv]; simp [Value.oneCell', Hid]
      have HLN : Hid (hv.length = 10) := show _ = _ by rw [← ehv]; simp
      have HL2 : Hid (hdr0.length = hv.length) := show _ = _ by rw [HLN.out]; rfl
      have HV := Lib.hid ehv
      rw [ehv] at K7
      clear ehv
      go_wp2_with (first | ((with_reducible refine wpList_load_rw rfl 26 (.tmp 8) rfl (w.heap.size + 1) ?hx 26 hv K7.out.h _ Try.underlying26 rfl (hdr_sizeL hv HLN.out) ?_); (case hx => with_unfolding_all rfl)) | ((with_reducible refine wpList_store_rw rfl 26 (.tmp 4) (.tmp 85) rfl w.heap.size hv ?hx ?hy 26 hdr0 K7.out.z (hdr_sizeL hv HLN.out) HL2.out HONE.out ?_); (case hx => with_unfolding_all rfl); (case hy => with_unfolding_all rfl); intro w99 R99 O99))
      refine ret_rw3 rfl w.heap.size 26 hv _ rfl R99.out Try.underlying26 rfl (hdr_sizeL hv HLN.out) rfl ?_
      have Ed := (Dd7.out).only O99.out (by omega)
      rw [HR.out]
      refine ⟨hv, ?_, HLN.out, HONE.out, fun _ => ⟨Ad, 8, cd, none, 0, 0, none, 0, 0, ?_, ⟨Ed.o.base (by omega), Ed.le, Ed.m⟩, ⟨Own.nil _ _, Nat.le_refl _, by simp [maxLen]⟩, ⟨Own.nil _ _, Nat.le_refl _, by simp [maxLen]⟩, fun _ _ _ h => by cases h⟩, K7.out.b.trans (O99.out.below K7.out.b.size (Nat.le_refl _))⟩
      · rfl
      · rw [← HV.out]; unfold hdrB; simp only [HSB.out, HPB.out, HLB.out.1, HLB.out.2, HNL.out]; rfl
end Go.Proofs.Ytonoljcgcfjkmaa
