/-
  The document's own counts: the contract of its count.
-/
import Derived.Test.YtjnclcehnpkncaaGcmS
import Derived.Test.YtjnclcehnpkncaaAesW
namespace Go.Proofs.Ytjnclcehnpkncaa
open Go.RowKit
set_option linter.unusedVariables false

theorem cnt_splice (nonce : List UInt8) (h : nonce.length = 12) : splice (List.replicate 16 0) 0 (nonce.take 12) = nonce ++ List.replicate 4 0 := by
  unfold splice
  rw [List.take_zero, List.nil_append, List.take_of_length_le (by omega), h, List.drop_replicate]
theorem cnt_set (nonce : List UInt8) (h : nonce.length = 12) (n : Nat) : ((((nonce ++ List.replicate 4 0).set 12 (UInt8.ofNat (n / 16777216))).set 13 (UInt8.ofNat (n / 65536))).set 14 (UInt8.ofNat (n / 256))).set 15 (UInt8.ofNat n) = cntV nonce n := by
  rw [List.set_append, if_neg (by omega), List.set_append, if_neg (by omega), List.set_append, if_neg (by omega), List.set_append, if_neg (by omega), h, cntV_eq]
  rfl
theorem byte_nat (n : Nat) : (n : Int) % 256 = bn (UInt8.ofNat n) := by unfold bn; rw [UInt8.toNat_ofNat']; omega
set_option maxHeartbeats 1000000 in
theorem rcount_any (nonce : List UInt8) (hn : nonce.length = 12) (n : Nat) (hm : n < 4294967296) (w : World) :
    Calls Try.prog 38 #[.agg (bvs nonce).toArray, .int .u32 (n : Int)] w fun e w' => e = .returned (.agg (bvs (cntV nonce n)).toArray) ∧ Below w.heap.size w w' := by
  have Hn := Lib.hid hn
  have Hm := Lib.hid hm
  have HSP := Lib.hid (cnt_splice nonce hn)
  have HST := Lib.hid (cnt_set nonce hn n)
  have HCL := Lib.hid (cntV_length nonce n hn)
  clear hn
  have hw1 := whole16 (w.heap.size + 1 + 1)
  have hw2 := whole12 w.heap.size
  go_enter Try.func38, Try.ntmps38
  go_upto_region 2 with fail
  refine wp_forget (fun w1 => Blk w1 w.heap.size 23 nonce ∧ Blk w1 (w.heap.size + 1) 22 (List.replicate 16 0) ∧ Blk w1 (w.heap.size + 1 + 1) 22 (List.replicate 16 0) ∧ Below w.heap.size w w1) ⟨heap_allocs w [_, _, _] 0 _ rfl, heap_allocs w [_, _, _] 1 _ (by rw [← zeros_bvs]; rfl), heap_allocs w [_, _, _] 2 _ (by rw [← zeros_bvs]; rfl), (((Below.refl _ _).alloc (Nat.le_refl _) _).alloc (by simp) _).alloc (by simp; omega) _⟩ ?_
  intro w1 ⟨h1, h2, h3, h4⟩
  have N1 := Lib.hid h1
  have R1 := Lib.hid h2
  have Z1 := Lib.hid h3
  have B1 := Lib.hid h4
  clear h1 h2 h3 h4
  refine wp_tail 2 (by kernel_rfl) (by kernel_rfl) ?_
  simp only [List.take_succ_cons, List.take_zero, List.drop_succ_cons, List.drop_zero]
  repeat still_step
  refine wpStill_nil ?_
  clear hw1 hw2
  refine wpList_copy_over rfl (.tmp 6) (.tmp 7) rfl (w.heap.size + 1 + 1) 0 16 16 12 12 (w.heap.size + 1) 12 (some ⟨w.heap.size + 1 + 1, 0, none⟩) (some ⟨w.heap.size, 0, none⟩) nonce (List.replicate 16 0) 22 ?hd ?hs ?hr ?hg rfl (fun _ => rfl) ?hf ?_
  case hd => with_unfolding_all rfl
  case hs => with_unfolding_all rfl
  case hr => exact Sl.drew (N1.out.sl _ _ (by omega) Hn.out)
  case hg => exact Z1.out
  case hf => rw [List.length_replicate]; omega
  rw [HSP.out]
  intro w2 H2 O2
  have R2 : Hid (Blk w2 (w.heap.size + 1) 22 (List.replicate 16 0)) := Blk.only R1.out.drew O2.out (by omega)
  have B2 : Hid (Below w.heap.size w w2) := B1.out.drew.trans (O2.out.below B1.out.size (by omega))
  have K2 : Hid (Blk w2 (w.heap.size + 1 + 1) 22 (nonce ++ List.replicate 4 0)) := H2.out
  clear H2 O2 N1 R1 Z1 B1
  have e0 := byte_nat (n / 16777216)
  have e1 := byte_nat (n / 65536)
  have e2 := byte_nat (n / 256)
  have e3 := byte_nat n
  obtain ⟨b0, h0⟩ : ∃ b, UInt8.ofNat (n / 16777216) = b := ⟨_, rfl⟩
  obtain ⟨b1, h1⟩ : ∃ b, UInt8.ofNat (n / 65536) = b := ⟨_, rfl⟩
  obtain ⟨b2, h2⟩ : ∃ b, UInt8.ofNat (n / 256) = b := ⟨_, rfl⟩
  obtain ⟨b3, h3⟩ : ∃ b, UInt8.ofNat n = b := ⟨_, rfl⟩
  rw [h0] at e0 HST
  rw [h1] at e1 HST
  rw [h2] at e2 HST
  rw [h3] at e3 HST
  have e0' : (n : Int) / 16777216 % 256 = bn b0 := by rw [← e0]; omega
  have e0'' : (n : Int) / 16777216 = bn b0 := by rw [← e0]; omega
  have e1' : (n : Int) / 65536 % 256 = bn b1 := by rw [← e1]; omega
  have e2' : (n : Int) / 256 % 256 = bn b2 := by rw [← e2]; omega
  clear h0 h1 h2 h3 e0 e1 e2
  go_wp2_with (first
    | ((with_reducible refine wpList_put_blk rfl 5 (.tmp 20) (.tmp 11) rfl (w.heap.size + 1 + 1) 12 b0 ?hx ?hy 22 _ K2.out size1 ?hl ?_); (case hx => with_unfolding_all rfl); (case hy => with_unfolding_all rfl); (case hl => simp only [List.length_append, List.length_replicate, Hn.out]; decide); intro u1 P1 Q1)
    | ((with_reducible refine wpList_put_blk rfl 5 (.tmp 21) (.tmp 14) rfl (w.heap.size + 1 + 1) 13 b1 ?hx ?hy 22 _ P1.out size1 ?hl ?_); (case hx => with_unfolding_all rfl); (case hy => with_unfolding_all rfl); (case hl => simp only [List.length_set, List.length_append, List.length_replicate, Hn.out]; decide); intro u2 P2 Q2)
    | ((with_reducible refine wpList_put_blk rfl 5 (.tmp 22) (.tmp 17) rfl (w.heap.size + 1 + 1) 14 b2 ?hx ?hy 22 _ P2.out size1 ?hl ?_); (case hx => with_unfolding_all rfl); (case hy => with_unfolding_all rfl); (case hl => simp only [List.length_set, List.length_append, List.length_replicate, Hn.out]; decide); intro u3 P3 Q3)
    | ((with_reducible refine wpList_put_blk rfl 5 (.tmp 23) (.tmp 19) rfl (w.heap.size + 1 + 1) 15 b3 ?hx ?hy 22 _ P3.out size1 ?hl ?_); (case hx => with_unfolding_all rfl); (case hy => with_unfolding_all rfl); (case hl => simp only [List.length_set, List.length_append, List.length_replicate, Hn.out]; decide); intro u4 P4 Q4)
    | ((with_reducible refine wpList_load_blk rfl 22 (.tmp 5) rfl (w.heap.size + 1 + 1) ?hx 22 (cntV nonce n) ?hg 16 5 Try.underlying22 16 sizeRow HCL.out ?_); (case hx => with_unfolding_all rfl); (case hg => have e := P4.out; rw [HST.out] at e; exact e))
    | ((with_reducible refine wpList_store_blk rfl 22 (.tmp 4) (.tmp 24) rfl (w.heap.size + 1) (cntV nonce n) ?hx ?hy 22 (List.replicate 16 0) ?hg 16 sizeRow HCL.out ?ho ?_); (case hx => with_unfolding_all rfl); (case hy => with_unfolding_all rfl); (case hg => exact (((R2.out.only Q1.out (by omega)).only Q2.out (by omega)).only Q3.out (by omega)).only Q4.out (by omega)); (case ho => rfl); intro u5 H5 O5))
  refine ret_blk Try.results38 (w.heap.size + 1) 22 _ 16 5 rfl H5.out Try.underlying22 16 sizeRow HCL.out rfl ⟨rfl, ?_⟩
  have q1 := (Q1.out.trans Q2.out).trans (Q3.out.trans Q4.out)
  have q2 := B2.out.trans (q1.below B2.out.size (by omega))
  exact q2.trans (O5.out.below q2.size (by omega))
theorem rcount_one (nonce : List UInt8) (hn : nonce.length = 12) (w : World) :
    Calls Try.prog 38 #[.agg (bvs nonce).toArray, .int .u32 1] w fun e w' => e = .returned (.agg (bvs (cntV nonce 1)).toArray) ∧ Below w.heap.size w w' := rcount_any nonce hn 1 (by omega) w
end Go.Proofs.Ytjnclcehnpkncaa
