/-
  Contracts of filled, counted and bitsOf.
-/
import Derived.Test.YtkeleehkjllgeaaOver
import Derived.Test.YtkeleehkjllgeaaGcmC
namespace Go.Proofs.Ytkeleehkjllgeaa
open Go.RowKit
set_option linter.unusedVariables false

/-- the first block of bytes, filled with zeros -/
def fillG (l : List UInt8) : List UInt8 := (List.range 16).map fun j => l.getD j 0
theorem fillG_length (l : List UInt8) : (fillG l).length = 16 := by simp [fillG]
theorem fillG_getD (l : List UInt8) (j : Nat) (hj : j < 16) : (fillG l).getD j 0 = l.getD j 0 := by
  unfold fillG
  rw [List.getD_eq_getElem?_getD, List.getElem?_map, List.getElem?_range hj]
  rfl
theorem blkG_fill (l : List UInt8) (k : Nat) : blkG l k = fillG (l.drop (16 * k)) := by
  refine list_ext16 _ _ (blkG_length _ _) (fillG_length _) fun j hj => ?_
  rw [blkG_getD _ _ _ hj, fillG_getD _ _ hj, List.getD_eq_getElem?_getD, List.getD_eq_getElem?_getD, List.getElem?_drop]
theorem fill_splice (l : List UInt8) : splice (List.replicate 16 0) 0 (l.take (min l.length 16)) = fillG l := by
  refine list_ext16 _ _ (by rw [length_splice] <;> simp <;> omega) (fillG_length _) fun j hj => ?_
  rw [fillG_getD _ _ hj]
  unfold splice
  rw [List.take_zero, List.nil_append, List.getD_eq_getElem?_getD, List.getD_eq_getElem?_getD]
  by_cases h : j < l.length
  · rw [List.getElem?_append_left (by simp; omega), List.getElem?_take, if_pos (by omega)]
  · rw [List.getElem?_append_right (by simp; omega), List.getElem?_drop, List.getElem?_replicate, if_pos (by simp; omega), List.getElem?_eq_none (by omega)]
    rfl
theorem whole16 (g : Nat) (u : World) : (Instr.sliceAt 22 (.pointer (some ⟨g, 0, none⟩)) none none none).run Try.prog u = .ok (.slice (some ⟨g, 0, none⟩) 16 16) u := run_whole u _ _ 16 Try.underlying22 size1 g
theorem whole12 (g : Nat) (u : World) : (Instr.sliceAt 23 (.pointer (some ⟨g, 0, none⟩)) none none none).run Try.prog u = .ok (.slice (some ⟨g, 0, none⟩) 12 12) u := run_whole u _ _ 12 Try.underlying23 size1 g
theorem size12 : (Try.prog.info? 23).map (·.size) = some 12 := by kernel_rfl

set_option maxHeartbeats 1000000 in
theorem filled_any (l : List UInt8) (A : Option Addr) (n c B : Nat) (w : World) (h : Sl w B A n l) (hB : B ≤ w.heap.size) :
    Calls Try.prog 31 #[.slice A n c] w fun e w' => e = .returned (.agg (bvs (fillG l)).toArray) ∧ Below w.heap.size w w' := by
  have H := Lib.hid h
  have HB := Lib.hid hB
  have HF := Lib.hid (fill_splice l)
  have HFL := Lib.hid (fillG_length l)
  have Hn := Lib.hid h.1
  clear h hB
  have hwh := whole16 (w.heap.size + 1)
  go_enter Try.func31, Try.ntmps31
  go_wp2_with (first
    | ((with_reducible refine wpList_copy_over rfl (.tmp 4) (.tmp 5) rfl (w.heap.size + 1) 0 16 16 n c B (min n 16) _ A l (List.replicate 16 0) 22 ?hd ?hs ?hr ?hg rfl (fun _ => rfl) ?hf ?_); (case hd => with_unfolding_all rfl); (case hs => with_unfolding_all rfl); (case hr => exact H.out.below (((Below.refl _ _).alloc HB.out _).alloc (by have := HB.out; simp; omega) _)); (case hg => exact heap_allocs w [_, _] 1 _ (by rw [← zeros_bvs]; rfl)); (case hf => rw [List.length_replicate]; omega); intro w2 H2 O2)
    | ((with_reducible refine wpList_load_blk rfl 22 (.tmp 3) rfl (w.heap.size + 1) ?hx 22 (fillG l) ?hg 16 5 Try.underlying22 16 sizeRow HFL.out ?_); (case hx => with_unfolding_all rfl); (case hg => have e := HF.out; rw [Hn.out] at e; rw [← e]; exact H2.out))
    | ((with_reducible refine wpList_store_blk rfl 22 (.tmp 2) (.tmp 7) rfl w.heap.size (fillG l) ?hx ?hy 22 (List.replicate 16 0) ?hg 16 sizeRow HFL.out ?ho ?_); (case hx => with_unfolding_all rfl); (case hy => with_unfolding_all rfl); (case hg => exact Blk.only (heap_allocs w [_, _] 0 _ (by rw [← zeros_bvs]; rfl)) O2.out (by omega)); (case ho => rfl); intro w3 H3 O3))
  refine ret_blk Try.results31 w.heap.size 22 _ 16 5 rfl H3.out Try.underlying22 16 sizeRow HFL.out rfl ⟨rfl, ?_⟩
  have b1 : Below w.heap.size w ((w.alloc (.cells (bvs (List.replicate 16 0)).toArray 22)).alloc (.cells (bvs (List.replicate 16 0)).toArray 22)) := ((Below.refl _ _).alloc (Nat.le_refl _) _).alloc (by simp) _
  exact (b1.trans (O2.out.below (by simp; omega) (by omega))).trans (O3.out.below (by have := O2.out.size; simp at this; omega) (by omega))

/-- the four bytes of a count -/
def cnt4 (n : Nat) : List UInt8 := [UInt8.ofNat (n / 16777216), UInt8.ofNat (n / 65536), UInt8.ofNat (n / 256), UInt8.ofNat n]
theorem cntV_eq (nonce : List UInt8) (n : Nat) : cntV nonce n = nonce ++ cnt4 n := rfl
theorem fill_nonce (nonce : List UInt8) (h : nonce.length = 12) : fillG nonce = nonce ++ List.replicate 4 0 := by
  refine list_ext16 _ _ (fillG_length _) (by simp [h]) fun j hj => ?_
  rw [fillG_getD _ _ hj, List.getD_eq_getElem?_getD, List.getD_eq_getElem?_getD]
  by_cases hk : j < 12
  · rw [List.getElem?_append_left (by omega)]
  · rw [List.getElem?_append_right (by omega), List.getElem?_replicate, if_pos (by omega), List.getElem?_eq_none (by omega)]
    rfl
/-- with k of the four still to come -/
def crow (nonce : List UInt8) (n k : Nat) : List UInt8 := nonce ++ (List.replicate k 0 ++ (cnt4 n).drop k)
theorem crow_length (nonce : List UInt8) (n k : Nat) (h : nonce.length = 12) (hk : k ≤ 4) : (crow nonce n k).length = 16 := by simp [crow, cnt4, h]; omega
theorem crow_four (nonce : List UInt8) (n : Nat) : crow nonce n 4 = nonce ++ List.replicate 4 0 := by simp [crow, cnt4]
theorem crow_zero (nonce : List UInt8) (n : Nat) : crow nonce n 0 = cntV nonce n := by simp [crow, cntV_eq]
theorem crow_set (nonce : List UInt8) (n k : Nat) (h : nonce.length = 12) (hk : k < 4) : (crow nonce n (k + 1)).set (11 + (k + 1)) ((cnt4 n).getD k 0) = crow nonce n k := by
  unfold crow
  rw [List.set_append, if_neg (by omega), show 11 + (k + 1) - nonce.length = k by omega]
  congr 1
  match k, hk with
  | 0, _ => rfl
  | 1, _ => rfl
  | 2, _ => rfl
  | 3, _ => rfl
/-- what is left of the count then -/
def cleft (n : Nat) : Nat → Nat
  | 4 => n
  | 3 => n / 256
  | 2 => n / 256 / 256
  | 1 => n / 256 / 256 / 256
  | _ => n / 256 / 256 / 256 / 256
theorem cleft_next (n k : Nat) (hk : k < 4) : cleft n (k + 1) / 256 = cleft n k := by
  match k, hk with
  | 0, _ => rfl
  | 1, _ => rfl
  | 2, _ => rfl
  | 3, _ => rfl
theorem cleft_byte (n k : Nat) (hk : k < 4) : (cnt4 n).getD k 0 = UInt8.ofNat (cleft n (k + 1)) := by
  match k, hk with
  | 0, _ => show UInt8.ofNat _ = UInt8.ofNat (n / 256 / 256 / 256); congr 1; omega
  | 1, _ => show UInt8.ofNat _ = UInt8.ofNat (n / 256 / 256); congr 1; omega
  | 2, _ => rfl
  | 3, _ => rfl
theorem cleft_le (n k : Nat) : cleft n k ≤ n := by
  unfold cleft
  split <;> omega

set_option maxHeartbeats 1000000 in
theorem counted_any (nonce : List UInt8) (hn : nonce.length = 12) (n : Nat) (hm : n < 4294967296) (w : World) :
    Calls Try.prog 33 #[.agg (bvs nonce).toArray, .int .u32 (n : Int)] w fun e w' => e = .returned (.agg (bvs (cntV nonce n)).toArray) ∧ Below w.heap.size w w' := by
  have Hn := Lib.hid hn
  have Hm := Lib.hid hm
  have HF : Hid (fillG nonce = crow nonce n 4) := show _ = _ by rw [fill_nonce nonce hn, crow_four]
  have HL : Hid (∀ k, k ≤ 4 → (crow nonce n k).length = 16) := fun k hk => crow_length nonce n k hn hk
  have HFL := Lib.hid (fillG_length nonce)
  clear hn hm
  have hwh := whole12 w.heap.size
  go_enter Try.func33, Try.ntmps33
  go_wp2_with (first
    | (go_at_call 31; (with_reducible refine (filled_any nonce (some ⟨w.heap.size, 0, none⟩) 12 12 (w.heap.size + 1) _ ?hs ?hB).mono ?_); (case hs => exact Blk.sl (heap_allocs w [_, _] 0 _ rfl) _ _ (by omega) Hn.out); (case hB => (first | (simp; done) | (simp; omega))); rintro e1 w1 ⟨rfl, hb1⟩;
        have R1 : Hid (Blk w1 (w.heap.size + 1) 22 (List.replicate 16 0)) := Blk.below (heap_allocs w [_, _] 1 _ (by rw [← zeros_bvs]; rfl)) hb1;
        have B1 : Hid (Below w.heap.size w w1) := (((Below.refl _ _).alloc (Nat.le_refl _) _).alloc (by simp) _).trans (hb1.mono (by simp; omega));
        clear hb1)
    | ((with_reducible refine wpList_store_blk rfl 22 (.tmp 5) (.tmp 8) rfl w1.heap.size (fillG nonce) ?hx ?hy 22 (List.replicate 16 0) ?hg 16 sizeRow HFL.out ?ho ?_); (case hx => with_unfolding_all rfl); (case hy => with_unfolding_all rfl); (case hg => exact heap_alloc_new _ _); (case ho => rfl); intro w2 K2 O2))
  obtain ⟨g5, eg5⟩ : ∃ g, w1.heap.size = g := ⟨_, rfl⟩
  have hg5 : w.heap.size + 1 < g5 := by rw [← eg5]; exact R1.out.lt
  have R2 : Hid (Blk w2 (w.heap.size + 1) 22 (List.replicate 16 0)) := (R1.out.alloc _).only O2.out (by omega)
  have B2 : Hid (Below w.heap.size w w2) := (B1.out.alloc B1.out.size _).trans (O2.out.below (by have := B1.out.size; simp; omega) (by omega))
  rw [eg5] at K2 ⊢
  rw [HF.out] at K2
  clear R1 B1 O2 eg5
  go_loopw [1, 6] (fun v1 v6 wr => ∃ k : Nat, k ≤ 4 ∧ v6 = .int .i64 (11 + k : Nat) ∧ v1 = .int .u32 (cleft n k : Nat) ∧ Hid (Blk wr g5 22 (crow nonce n k)) ∧ Hid (Blk wr (w.heap.size + 1) 22 (List.replicate 16 0)) ∧ Hid (Below w.heap.size w wr)) (fun _ v6 _ => (intOf v6).toNat)
  case atStart => exact ⟨4, by omega, rfl, rfl, K2, R2, B2⟩
  case round =>
    clear K2 R2 B2
    obtain ⟨k, hk, rfl, rfl, K3, R3, B3⟩ := hrel
    have hL := HL.out k hk
    cases k with
    | succ k =>
      obtain ⟨q, hq⟩ : ∃ q, cleft n (k + 1) = q := ⟨_, rfl⟩
      have hq4 : q < 4294967296 := by have := Hm.out; have := cleft_le n (k + 1); omega
      obtain ⟨i, hi⟩ : ∃ i, 11 + (k + 1) = i := ⟨_, rfl⟩
      obtain ⟨y, hy⟩ : ∃ y, UInt8.ofNat q = y := ⟨_, rfl⟩
      have hv : (q : Int) % 256 = bn y := by rw [← hy]; unfold bn; rw [UInt8.toNat_ofNat']; omega
      have HN : Hid ((crow nonce n (k + 1)).set i y = crow nonce n k) := show _ = _ by
        rw [← hi, ← hy, ← hq, ← cleft_byte n k (by omega)]
        exact crow_set nonce n k Hn.out (by omega)
      have HQ : Hid (q / 256 = cleft n k) := show _ = _ by rw [← hq]; exact cleft_next n k (by omega)
      have ce := K3.out.cell i (by omega)
      have cf := K3.out.frozen i
      have hi2 : 12 ≤ i := by omega
      have hi3 : i < 16 := by omega
      have t1 : decide ((12 : Int) ≤ (i : Int)) = true := by simp; omega
      have HI : Hid (i - 1 = 11 + k) := show _ = _ by omega
      rw [hq, hi]
      clear hy hi hq hL
      go_wp2_with fail
      go_roundw
      case rel =>
        refine ⟨k, by omega, ?_, ?_, ?_, R3.out.other _ _ _ (by omega), B3.out.setCell (by show _ ≤ g5; omega) _⟩
        · have e := HI.out
          congr 1
          omega
        · rw [← HQ.out]; rfl
        · show Blk _ _ _ _
          rw [← HN.out]
          exact K3.out.put _ _
      case measure => simp [intOf]; omega
    | zero =>
      rw [crow_zero] at K3 hL
      have t1 : decide ((12 : Int) ≤ ((11 + 0 : Nat) : Int)) = false := by decide
      have HC := Lib.hid hL
      clear hL
      go_wp2_with (first
        | ((with_reducible refine wpList_load_blk rfl 22 (.tmp 5) rfl g5 ?hx 22 _ K3.out 16 5 Try.underlying22 16 sizeRow HC.out ?_); (case hx => with_unfolding_all rfl))
        | ((with_reducible refine wpList_store_blk rfl 22 (.tmp 4) (.tmp 19) rfl (w.heap.size + 1) (cntV nonce n) ?hx ?hy 22 (List.replicate 16 0) R3.out 16 sizeRow HC.out ?ho ?_); (case hx => with_unfolding_all rfl); (case hy => with_unfolding_all rfl); (case ho => rfl); intro w4 H4 O4))
      refine ret_blk Try.results33 (w.heap.size + 1) 22 _ 16 5 rfl H4.out Try.underlying22 16 sizeRow HC.out rfl ⟨rfl, ?_⟩
      exact B3.out.trans (O4.out.below B3.out.size (by omega))

/-- how many bits so many bytes have -/
def lenQ (n : Nat) : UInt64 := UInt64.ofNat (8 * n)
theorem lenQ_bn (n : Nat) (h : n ≤ 70368744177664) : (n : Int) * 8 = qn (lenQ n) := by
  unfold qn lenQ
  rw [UInt64.toNat_ofNat', Nat.mod_eq_of_lt (by omega)]
  omega
theorem lens_pair (d s : Nat) (hd : d ≤ 70368744177664) (hs : s ≤ 70368744177664) : pairB (lenQ d) (lenQ s) = lensG d s := by
  unfold pairB lensG by8 be8 lenQ
  rw [UInt64.toNat_ofNat', UInt64.toNat_ofNat', Nat.mod_eq_of_lt (by omega), Nat.mod_eq_of_lt (by omega)]
theorem bitsOf_any (A : Option Addr) (n c : Nat) (hn : n ≤ 70368744177664) (w : World) : Calls Try.prog 34 #[.slice A n c] w fun e w' => e = .returned (.int .u64 (qn (lenQ n))) ∧ w = w' := by
  have hb := lenQ_bn n hn
  have vw : IntKind.u64.wrap (qn (lenQ n)) = qn (lenQ n) := by have := qn_bd (lenQ n); rw [wrap_u64m]; omega
  go_enter Try.func34, Try.ntmps34
  go_wp2
  go_ret
  exact ⟨rfl, rfl⟩
end Go.Proofs.Ytkeleehkjllgeaa
