/-
  The document's own tag: the contract of its tag.
-/
import Derived.Test.YtjnclcehnpkncaaGcmU
import Derived.Test.YtjnclcehnpkncaaThree
namespace Go.Proofs.Ytjnclcehnpkncaa
open Go.RowKit
set_option linter.unusedVariables false

theorem be8_length (n : Nat) : (be8 n).length = 8 := by simp [be8]
theorem be8_getD (n i : Nat) (h : i < 8) : (be8 n).getD i 0 = UInt8.ofNat (n / 2 ^ (56 - 8 * i)) := by
  unfold be8
  rw [List.getD_eq_getElem?_getD, List.getElem?_map, List.getElem?_range h]
  rfl
/-- the lengths' row, the first i bytes of each there -/
def lrow (d s i : Nat) : List UInt8 := mixr (be8 (8 * d)) (List.replicate 8 0) i ++ mixr (be8 (8 * s)) (List.replicate 8 0) i
theorem lrow_length (d s i : Nat) : (lrow d s i).length = 16 := by
  unfold lrow
  rw [List.length_append, mixr_length _ _ _ (by simp [be8_length]), mixr_length _ _ _ (by simp [be8_length])]
  simp
theorem lrow_zero (d s : Nat) : lrow d s 0 = List.replicate 16 0 := by unfold lrow; rw [mixr_zero, mixr_zero]; rfl
theorem lrow_full (d s : Nat) : lrow d s 8 = lensG d s := by
  unfold lrow lensG
  rw [mixr_full _ _ _ (by simp [be8_length]) (by simp), mixr_full _ _ _ (by simp [be8_length]) (by simp)]
theorem lrow_set (d s i : Nat) (h : i < 8) : ((lrow d s i).set i (UInt8.ofNat (8 * d / 2 ^ (56 - 8 * i)))).set (8 + i) (UInt8.ofNat (8 * s / 2 ^ (56 - 8 * i))) = lrow d s (i + 1) := by
  have h1 : (mixr (be8 (8 * d)) (List.replicate 8 0) i).length = 8 := by rw [mixr_length _ _ _ (by simp [be8_length])]; simp
  unfold lrow
  rw [List.set_append, if_pos (by omega), List.set_append, if_neg (by rw [List.length_set]; omega), List.length_set, h1, show 8 + i - 8 = i by omega, ← be8_getD _ _ h, ← be8_getD _ _ h,
    mixr_set _ _ _ (by simp [be8_length]) (by simpa using h), mixr_set _ _ _ (by simp [be8_length]) (by simpa using h)]
theorem len_byte (n k : Nat) (h : n ≤ 70368744177664) : qn (lenQ n) / 2 ^ k % 256 = bn (UInt8.ofNat (8 * n / 2 ^ k)) := by
  rw [qn_byte]
  unfold lenQ
  rw [UInt64.toNat_ofNat', Nat.mod_eq_of_lt (by omega)]
/-- what stands in memory while the document makes a tag -/
structure GtW (w wr : World) (gc : Nat) (key nonce : List UInt8) (g9 : Nat) (hv : List UInt8) (g10 : Nat) (row : List UInt8) : Prop where
  c : Blk wr gc 65 (cipV key)
  n : Blk wr w.heap.size 23 nonce
  r : Blk wr (w.heap.size + 1) 22 (List.replicate 16 0)
  h : Blk wr g9 22 hv
  l : Blk wr g10 5 row
  b : Below w.heap.size w wr
theorem GtW.drew {w wr : World} {gc : Nat} {key nonce : List UInt8} {g9 : Nat} {hv : List UInt8} {g10 : Nat} {row : List UInt8} (h : GtW w wr gc key nonce g9 hv g10 row) : GtW w wr.drew gc key nonce g9 hv g10 row := ⟨h.c, h.n, h.r, h.h, h.l, h.b.drew⟩
theorem GtW.below {w wr wx : World} {gc : Nat} {key nonce : List UInt8} {g9 : Nat} {hv : List UInt8} {g10 : Nat} {row : List UInt8} (h : GtW w wr gc key nonce g9 hv g10 row) (hb : Below wr.heap.size wr wx) : GtW w wx gc key nonce g9 hv g10 row :=
  ⟨h.c.below hb, h.n.below hb, h.r.below hb, h.h.below hb, h.l.below hb, h.b.trans (hb.mono h.b.size)⟩
theorem GtW.only {w wr wx : World} {gc : Nat} {key nonce : List UInt8} {g9 : Nat} {hv : List UInt8} {g10 : Nat} {row row' : List UInt8} (h : GtW w wr gc key nonce g9 hv g10 row) (ho : Only g10 wr wx) (hr : Blk wx g10 5 row') (hc : gc < w.heap.size) (h9 : w.heap.size + 1 < g9) (h10 : g9 < g10) : GtW w wx gc key nonce g9 hv g10 row' :=
  ⟨h.c.only ho (by omega), h.n.only ho (by omega), h.r.only ho (by omega), h.h.only ho (by omega), hr, h.b.trans (ho.below h.b.size (by omega))⟩

attribute [local go_sem] u8_xor'
set_option maxRecDepth 4000 in
set_option maxHeartbeats 4000000 in
theorem rtag_any (key nonce hid data : List UInt8) (hk : key.length = 16) (hno : nonce.length = 12) (gc : Nat) (A1 A2 : Option Addr) (n1 c1 n2 c2 B : Nat) (w : World) (hcb : Blk w gc 65 (cipV key)) (hs1 : Sl w B A1 n1 hid) (hs2 : Sl w B A2 n2 data) (hB : B ≤ w.heap.size) (hnc1 : n1 ≤ c1) (hcm1 : c1 ≤ maxLen) (hn1 : n1 ≤ 1000000) (hnc2 : n2 ≤ c2) (hcm2 : c2 ≤ maxLen) (hn2 : n2 ≤ 1000000) :
    Calls Try.prog 26 #[.pointer (some ⟨gc, 0, none⟩), .agg (bvs nonce).toArray, .slice A1 n1 c1, .slice A2 n2 c2] w fun e w' => e = .returned (.agg (bvs (tagG key nonce hid data)).toArray) ∧ Below w.heap.size w w' := by
  have Hk := Lib.hid hk
  have Hno := Lib.hid hno
  have HS1 := Lib.hid hs1
  have HS2 := Lib.hid hs2
  have HB := Lib.hid hB
  have hgc := hcb.lt
  have HC := Lib.hid hcb
  have HN1 : Hid (n1 ≤ c1 ∧ c1 ≤ maxLen ∧ n1 ≤ 1000000) := ⟨hnc1, hcm1, hn1⟩
  have HN2 : Hid (n2 ≤ c2 ∧ c2 ≤ maxLen ∧ n2 ≤ 1000000) := ⟨hnc2, hcm2, hn2⟩
  obtain ⟨hv, hhv⟩ : ∃ x, blockV key zG = x := ⟨_, rfl⟩
  have HHV := Lib.hid hhv
  have HHL : Hid (hv.length = 16) := show _ = _ by rw [← hhv]; exact blockV_length _ _ hk zG_length
  obtain ⟨ln, hln⟩ : ∃ x, lensG n2 n1 = x := ⟨_, rfl⟩
  have HLN := Lib.hid hln
  have HLL : Hid (ln.length = 16) := show _ = _ by rw [← hln, ← lrow_full]; exact lrow_length _ _ _
  obtain ⟨hs, hhs⟩ : ∃ x, hashG hv [data, hid, ln] = x := ⟨_, rfl⟩
  have HHS := Lib.hid hhs
  have HSL : Hid (hs.length = 16) := show _ = _ by rw [← hhs]; exact hashG_length _ _ HHL.out
  obtain ⟨mk, hmk⟩ : ∃ x, blockV key (cntV nonce 1) = x := ⟨_, rfl⟩
  have HMk := Lib.hid hmk
  have HML : Hid (mk.length = 16) := show _ = _ by rw [← hmk]; exact blockV_length _ _ hk (cntV_length _ _ hno)
  have HTG : tagG key nonce hid data = crossV hs mk := by
    unfold tagG
    rw [hs1.1, hs2.1, hhv, hln, hhs, hmk]
  rw [HTG]
  have HCL : Hid ((crossV hs mk).length = 16) := crossV_length _ _ HSL.out HML.out
  have hmake : ∀ u : World, (Instr.makeSlice 24 (.int .i64 16) (.int .i64 16)).run Try.prog u = .ok (.slice (some ⟨u.heap.size, 0, none⟩) 16 16) (u.alloc (.cells (madeCells #[.int .u8 0] 16) 5)) := run_make_full 16 (by omega)
  have q1 := lenQ_bn n1 (by omega)
  have q2 := lenQ_bn n2 (by omega)
  clear hk hno hs1 hs2 hB hnc1 hcm1 hnc2 hcm2 hhv hln hhs hmk HTG hcb
  go_enter Try.func26, Try.ntmps26
  go_wp2_with (first
    | (go_at_call 37; (refine (cblock_any key zG Hk.out zG_length gc _ ?hcc).mono ?_); (case hcc => exact HC.out.below (((Below.refl _ _).alloc (Nat.le_refl _) _).alloc (by simp) _)); rintro e1 w1 ⟨rfl, hb1⟩; rw [HHV.out];
        have C1 : Hid (Blk w1 gc 65 (cipV key)) := (HC.out.below (((Below.refl _ _).alloc (Nat.le_refl _) _).alloc (by simp) _)).below hb1;
        have N1 : Hid (Blk w1 w.heap.size 23 nonce) := Blk.below (heap_allocs w [_, _] 0 _ rfl) hb1;
        have R1 : Hid (Blk w1 (w.heap.size + 1) 22 (List.replicate 16 0)) := Blk.below (heap_allocs w [_, _] 1 _ (by rw [← zeros_bvs]; rfl)) hb1;
        have B1 : Hid (Below w.heap.size w w1) := (((Below.refl _ _).alloc (Nat.le_refl _) _).alloc (by simp) _).trans (hb1.mono (by simp; omega));
        clear hb1)
    | ((with_reducible refine wpList_store_blk rfl 22 (.tmp 9) (.tmp 17) rfl w1.heap.size hv ?hx ?hy 22 (List.replicate 16 0) ?hg 16 sizeRow HHL.out ?ho ?_); (case hx => with_unfolding_all rfl); (case hy => with_unfolding_all rfl); (case hg => exact heap_alloc_new _ _); (case ho => rfl); intro w2 H2 O2))
  have b2 : Below w1.heap.size w1 w2 := ((Below.refl _ _).alloc (Nat.le_refl _) _).trans (O2.out.below (by simp) (Nat.le_refl _))
  obtain ⟨g9, eg9⟩ : ∃ g, w1.heap.size = g := ⟨_, rfl⟩
  obtain ⟨g10, eg10⟩ : ∃ g, w2.heap.size = g := ⟨_, rfl⟩
  have hg9 : w.heap.size + 1 < g9 := by rw [← eg9]; exact R1.out.lt
  have hg10 : g9 < g10 := by rw [← eg10, ← eg9]; exact H2.out.lt
  have HW0 : Hid (GtW w (w2.alloc (.cells (madeCells #[.int .u8 0] 16) 5)) gc key nonce g9 hv g10 (lrow n2 n1 0)) := by
    have hb := B1.out.trans (b2.mono B1.out.size)
    refine ⟨(C1.out.below b2).alloc _, (N1.out.below b2).alloc _, (R1.out.below b2).alloc _, ?_, ?_, hb.alloc hb.size _⟩
    · rw [← eg9]; exact H2.out.alloc _
    · rw [← eg10, lrow_zero]
      have e := made_zeros 16
      unfold Blk
      rw [← e]
      exact heap_alloc_new _ _
  clear C1 N1 R1 B1 H2 O2 b2 hmake
  rw [eg9, eg10]
  clear eg9 eg10
  go_loopw [11] (fun v11 wr => ∃ i : Nat, i ≤ 8 ∧ v11 = .int .i64 i ∧ Hid (GtW w wr gc key nonce g9 hv g10 (lrow n2 n1 i))) (fun v11 _ => 8 - (intOf v11).toNat)
  case atStart => exact ⟨0, by omega, rfl, HW0⟩
  case round =>
    clear HW0
    obtain ⟨i, hi, rfl, HW⟩ := hrel
    by_cases hlt : i < 8
    · obtain ⟨k, hk⟩ : ∃ k : Nat, 56 - 8 * (i : Int) = (k : Int) ∧ k = 56 - 8 * i := ⟨56 - 8 * i, by omega, rfl⟩
      obtain ⟨hk, hk2⟩ := hk
      obtain ⟨i8, hi8⟩ : ∃ x, 8 + i = x := ⟨_, rfl⟩
      have ei8 : (8 : Int) + (i : Int) = (i8 : Int) := by omega
      have d1 := len_byte n1 k (by omega)
      have d2 := len_byte n2 k (by omega)
      obtain ⟨x, hx⟩ : ∃ b, UInt8.ofNat (8 * n2 / 2 ^ k) = b := ⟨_, rfl⟩
      obtain ⟨y, hy⟩ : ∃ b, UInt8.ofNat (8 * n1 / 2 ^ k) = b := ⟨_, rfl⟩
      rw [hx] at d2
      rw [hy] at d1
      have HN : Hid (((lrow n2 n1 i).set i x).set i8 y = lrow n2 n1 (i + 1)) := show _ = _ by
        rw [← hx, ← hy, hk2, ← hi8]
        exact lrow_set n2 n1 i hlt
      have vq1 : IntKind.u64.wrap (qn (lenQ n1)) = qn (lenQ n1) := by have := qn_bd (lenQ n1); rw [wrap_u64m]; omega
      have vq2 : IntKind.u64.wrap (qn (lenQ n2)) = qn (lenQ n2) := by have := qn_bd (lenQ n2); rw [wrap_u64m]; omega
      have w1' : IntKind.u8.wrap (qn (lenQ n1) / 2 ^ k) = bn y := by rw [← d1]; simp [IntKind.wrap, IntKind.bits, IntKind.signed]
      have w2' : IntKind.u8.wrap (qn (lenQ n2) / 2 ^ k) = bn x := by rw [← d2]; simp [IntKind.wrap, IntKind.bits, IntKind.signed]
      obtain ⟨t8, ht8⟩ : ∃ t, 8 * i = t := ⟨_, rfl⟩
      have e8 : (8 : Int) * (i : Int) = (t8 : Int) := by omega
      have ve8 : IntKind.i64.wrap (t8 : Int) = (t8 : Int) := IntWalk.i64_in _ (by omega)
      have vk : IntKind.i64.wrap (k : Int) = (k : Int) := IntWalk.i64_in _ (by omega)
      have v8 : IntKind.i64.wrap (i8 : Int) = (i8 : Int) := IntWalk.i64_in _ (by omega)
      have v1 : IntKind.u64.wrap (n1 : Int) = (n1 : Int) := by rw [wrap_u64m]; omega
      have v2 : IntKind.u64.wrap (n2 : Int) = (n2 : Int) := by rw [wrap_u64m]; omega
      have ek : 56 - (t8 : Int) = (k : Int) := by omega
      have li : (i : Int) < 16 := by omega
      have li2 : (i : Int) < 8 := by omega
      have li8 : (i8 : Int) < 16 := by omega
      have ln0 : ¬ ((k : Int) < 0) := by omega
      have hk9 : (9 : Nat) = 9 := rfl
      have HK2 := Lib.hid hk2
      clear hx hy hk ht8 hk2
      have HI8 := Lib.hid hi8
      clear hi8
      go_wp2_with fail
      refine wp_held (S := fun _ => True) (by kernel_rfl) ?_
      have HW1 := Lib.hid HW.out.drew
      obtain ⟨w0, hw0⟩ : ∃ x, wr.drew = x := ⟨_, rfl⟩
      rw [hw0] at HW1 ⊢
      clear hw0
      have hS : True := trivial
      refine wpAnyH_take (i := 0) (v := ?_) rfl (by kernel_rfl) (by kernel_rfl) (by kernel_rfl) (fun _ _ _ h => h) (Or.inl ⟨by rfl, ?_⟩) trivial ?_
      rotate_left 1
      · intro u hu
        go_simp
        first | done | with_reducible rfl
      go_simp
      refine wpAnyH_take (i := 1) (v := ?_) rfl (by kernel_rfl) (by kernel_rfl) (by kernel_rfl) (fun _ _ _ h => h) (Or.inl ⟨by rfl, ?_⟩) trivial ?_
      rotate_left 1
      · intro u hu
        go_simp
        first | done | with_reducible rfl
      go_simp
      refine wpAnyH_take (i := 2) (v := ?_) rfl (by kernel_rfl) (by kernel_rfl) (by kernel_rfl) (fun _ _ _ h => h) (Or.inl ⟨by rfl, ?_⟩) trivial ?_
      rotate_left 1
      · intro u hu
        go_simp
        first | done | with_reducible rfl
      go_simp
      refine wpAnyH_take (i := 3) (v := ?_) rfl (by kernel_rfl) (by kernel_rfl) (by kernel_rfl) (fun _ _ _ h => h) (Or.inl ⟨by rfl, ?_⟩) trivial ?_
      rotate_left 1
      · intro u hu
        go_simp
        first | done | with_reducible rfl
      go_simp
      refine wpAnyH_take (i := 4) (v := ?_) rfl (by kernel_rfl) (by kernel_rfl) (by kernel_rfl) (fun _ _ _ h => h) (Or.inl ⟨by rfl, ?_⟩) trivial ?_
      rotate_left 1
      · intro u hu
        go_simp
        first | done | with_reducible rfl
      go_simp
      refine wpAnyH_take (i := 5) (v := ?_) rfl (by kernel_rfl) (by kernel_rfl) (by kernel_rfl) (fun _ _ _ h => h) (Or.inl ⟨by rfl, ?_⟩) trivial ?_
      rotate_left 1
      · intro u hu
        go_simp
        first | done | with_reducible rfl
      go_simp
      refine wpAnyH_take (i := 6) (v := ?_) rfl (by kernel_rfl) (by kernel_rfl) (by kernel_rfl) (fun _ _ _ h => h) (Or.inl ⟨by rfl, ?_⟩) trivial ?_
      rotate_left 1
      · intro u hu
        go_simp
        first | done | with_reducible rfl
      go_simp
      refine wpAnyH_take (i := 7) (v := ?_) rfl (by kernel_rfl) (by kernel_rfl) (by kernel_rfl) (fun _ _ _ h => h) (Or.inl ⟨by rfl, ?_⟩) trivial ?_
      rotate_left 1
      · intro u hu
        go_simp
        first | done | with_reducible rfl
      go_simp
      refine wpAnyH_take (i := 8) (v := ?_) rfl (by kernel_rfl) (by kernel_rfl) (by kernel_rfl) (fun _ _ _ h => h) (Or.inl ⟨by rfl, ?_⟩) trivial ?_
      rotate_left 1
      · intro u hu
        go_simp
        first | done | with_reducible rfl
      go_simp
      refine wpAnyH_take (i := 9) (v := ?_) rfl (by kernel_rfl) (by kernel_rfl) (by kernel_rfl) (fun _ _ _ h => h) (Or.inl ⟨by rfl, ?_⟩) trivial ?_
      rotate_left 1
      · intro u hu
        go_simp
        first | done | with_reducible rfl
      go_simp
      refine wpAnyH_take (i := 10) (v := ?_) rfl (by kernel_rfl) (by kernel_rfl) (by kernel_rfl) (fun _ _ _ h => h) (Or.inl ⟨by rfl, ?_⟩) trivial ?_
      rotate_left 1
      · intro u hu
        go_simp
        first | done | with_reducible rfl
      go_simp
      refine wpAnyH_take (i := 11) (v := ?_) rfl (by kernel_rfl) (by kernel_rfl) (by kernel_rfl) (fun _ _ _ h => h) (Or.inl ⟨by rfl, ?_⟩) trivial ?_
      rotate_left 1
      · intro u hu
        go_simp
        first | done | with_reducible rfl
      go_simp
      refine wpAnyH_take (i := 12) (v := ?_) rfl (by kernel_rfl) (by kernel_rfl) (by kernel_rfl) (fun _ _ _ h => h) (Or.inl ⟨by rfl, ?_⟩) trivial ?_
      rotate_left 1
      · intro u hu
        go_simp
        first | done | with_reducible rfl
      go_simp
      refine wpAnyH_take (i := 13) (v := ?_) rfl (by kernel_rfl) (by kernel_rfl) (by kernel_rfl) (fun _ _ _ h => h) (Or.inl ⟨by rfl, ?_⟩) trivial ?_
      rotate_left 1
      · intro u hu
        go_simp
        first | done | with_reducible rfl
      go_simp
      refine wpAnyH_take (i := 14) (v := ?_) rfl (by kernel_rfl) (by kernel_rfl) (by kernel_rfl) (fun _ _ _ h => h) (Or.inl ⟨by rfl, ?_⟩) trivial ?_
      rotate_left 1
      · intro u hu
        go_simp
        first | done | with_reducible rfl
      go_simp
      refine wpAnyH_take (i := 15) (v := ?_) rfl (by kernel_rfl) (by kernel_rfl) (by kernel_rfl) (fun _ _ _ h => h) (Or.inl ⟨by rfl, ?_⟩) trivial ?_
      rotate_left 1
      · intro u hu
        go_simp
        first | done | with_reducible rfl
      go_simp
      refine wpAnyH_take (i := 16) (v := ?_) rfl (by kernel_rfl) (by kernel_rfl) (by kernel_rfl) (fun _ _ _ h => h) (Or.inl ⟨by rfl, ?_⟩) trivial ?_
      rotate_left 1
      · intro u hu
        go_simp
        first | done | with_reducible rfl
      go_simp
      refine wpAnyH_take (i := 17) (v := ?_) rfl (by kernel_rfl) (by kernel_rfl) (by kernel_rfl) (fun _ _ _ h => h) (Or.inl ⟨by rfl, ?_⟩) trivial ?_
      rotate_left 1
      · intro u hu
        go_simp
        first | done | with_reducible rfl
      go_simp
      refine wpAnyH_take (i := 18) (v := ?_) rfl (by kernel_rfl) (by kernel_rfl) (by kernel_rfl) (fun _ _ _ h => h) (Or.inl ⟨by rfl, ?_⟩) trivial ?_
      rotate_left 1
      · intro u hu
        go_simp
        first | done | with_reducible rfl
      go_simp
      refine wpAnyH_take (i := 19) (v := ?_) rfl (by kernel_rfl) (by kernel_rfl) (by kernel_rfl) (fun _ _ _ h => h) (Or.inl ⟨by rfl, ?_⟩) trivial ?_
      rotate_left 1
      · intro u hu
        go_simp
        first | done | with_reducible rfl
      go_simp
      refine wpAnyH_take (i := 20) (v := ?_) rfl (by kernel_rfl) (by kernel_rfl) (by kernel_rfl) (fun _ _ _ h => h) (Or.inl ⟨by rfl, ?_⟩) trivial ?_
      rotate_left 1
      · intro u hu
        go_simp
        first | done | with_reducible rfl
      go_simp
      refine wpAnyH_take (i := 21) (v := ?_) rfl (by kernel_rfl) (by kernel_rfl) (by kernel_rfl) (fun _ _ _ h => h) (Or.inl ⟨by rfl, ?_⟩) trivial ?_
      rotate_left 1
      · intro u hu
        go_simp
        first | done | with_reducible rfl
      go_simp
      refine wpAnyH_take (i := 22) (v := ?_) rfl (by kernel_rfl) (by kernel_rfl) (by kernel_rfl) (fun _ _ _ h => h) (Or.inl ⟨by rfl, ?_⟩) trivial ?_
      rotate_left 1
      · intro u hu
        go_simp
        first | done | with_reducible rfl
      go_simp
      refine wpAnyH_take (i := 23) (v := ?_) rfl (by kernel_rfl) (by kernel_rfl) (by kernel_rfl) (fun _ _ _ h => h) (Or.inl ⟨by rfl, ?_⟩) trivial ?_
      rotate_left 1
      · intro u hu
        go_simp
        first | done | with_reducible rfl
      go_simp
      refine wpAnyH_oneG 24 (by kernel_rfl) rfl (by rfl) ?_
      refine wp_put_blk 5 (.tmp 46) (.tmp 36) rfl g10 i x (by with_unfolding_all rfl) (by with_unfolding_all rfl) 5 _ HW1.out.l size1 (by rw [lrow_length]; omega) ?_
      intro w4 P4 O4
      refine ⟨trivial, ?_⟩
      go_simp
      refine wpAnyH_take (i := 25) (v := ?_) rfl (by kernel_rfl) (by kernel_rfl) (by kernel_rfl) (fun _ _ _ h => h) (Or.inl ⟨by rfl, ?_⟩) trivial ?_
      rotate_left 1
      · intro u hu
        go_simp
        first | done | with_reducible rfl
      go_simp
      refine wpAnyH_oneG 26 (by kernel_rfl) rfl (by rfl) ?_
      refine wp_put_blk 5 (.tmp 47) (.tmp 45) rfl g10 i8 y (by with_unfolding_all rfl) (by with_unfolding_all rfl) 5 _ P4.out size1 (by rw [List.length_set, lrow_length]; have := HI8.out; omega) ?_
      intro w5 P5 O5
      refine ⟨trivial, ?_⟩
      refine wpAnyH_done (by kernel_rfl) ?_ _
      go_wp2_with fail
      go_roundw
      case rel =>
        have hfin : Hid (GtW w w5 gc key nonce g9 hv g10 (lrow n2 n1 (i + 1))) := HW1.out.only (O4.out.trans O5.out) (by rw [← HN.out]; exact P5.out) hgc hg9 hg10
        first
          | exact ⟨i + 1, by omega, by go_num, hfin⟩
          | ((repeat apply Exists.intro); exact ⟨⟨i + 1, by omega, by go_num, hfin⟩, rfl⟩)
      case measure => simp [intOf]; omega
    · obtain rfl : i = 8 := by omega
      rw [lrow_full, HLN.out] at HW
      have HHash : Hid (∀ (u : World) (g : Nat), u.heap[g]? = some (.cells #[.slice A2 n2 c2, .slice A1 n1 c1, .slice (some ⟨g10, 0, none⟩) 16 16] 24 (0, 0)) → Blk u g10 5 ln → Below w.heap.size w u →
          Calls Try.prog 21 #[.agg (bvs hv).toArray, .slice (some ⟨g, 0, none⟩) 3 3] u fun e w' => e = .returned (.agg (bvs hs).toArray) ∧ Below u.heap.size u w') := fun u g hg hl hb => by
        have hB := HB.out
        have hz := hb.size
        have h1 := HN1.out
        have h2 := HN2.out
        have h := rhash_any hv HHL.out [⟨A2, n2, c2, data⟩, ⟨A1, n1, c1, hid⟩, ⟨some ⟨g10, 0, none⟩, 16, 16, ln⟩] (some ⟨g, 0, none⟩) 3 3 u.heap.size u
          (slw_row (ps := [⟨A2, n2, c2, data⟩, ⟨A1, n1, c1, hid⟩, ⟨some ⟨g10, 0, none⟩, 16, 16, ln⟩]) hg ((Array.getElem?_eq_some_iff.1 hg).1) (fun p hp => by
            simp only [List.mem_cons, List.not_mem_nil, or_false] at hp
            rcases hp with rfl | rfl | rfl
            · exact ⟨(HS2.out.below (hb.mono hB)).more (by omega), h2.1, h2.2.1⟩
            · exact ⟨(HS1.out.below (hb.mono hB)).more (by omega), h1.1, h1.2.1⟩
            · exact ⟨hl.sl _ 16 hl.lt HLL.out, Nat.le_refl _, by simp [maxLen]⟩) 3 rfl) (Nat.le_refl _) (by unfold maxLen; omega) (fun p hp => by
            simp only [List.mem_cons, List.not_mem_nil, or_false] at hp
            rcases hp with rfl | rfl | rfl <;> simp only <;> omega)
        simp only [List.map_cons, List.map_nil] at h
        rw [HHS.out] at h
        exact h
      go_wp2_with (first
        | ((with_reducible refine wpList_load_blk rfl 22 (.tmp 9) rfl g9 ?hx 22 hv HW.out.h 16 5 Try.underlying22 16 sizeRow HHL.out ?_); (case hx => with_unfolding_all rfl))
        | (go_at_call 21; (with_reducible refine (HHash.out _ _ ?h1 ?h2 ?h3).mono ?_); (case h1 => exact heap_alloc_new _ _); (case h2 => exact HW.out.l.alloc _); (case h3 => exact HW.out.b.alloc HW.out.b.size _);
            rintro e3 w3 ⟨rfl, hb3⟩; have HW3 := Lib.hid (HW.out.below (((Below.refl _ _).alloc (Nat.le_refl _) _).trans (hb3.mono (by simp)))); clear hb3)
        | ((with_reducible refine wpList_store_blk rfl 22 (.tmp 12) (.tmp 53) rfl w3.heap.size hs ?hx ?hy 22 (List.replicate 16 0) ?hg 16 sizeRow HSL.out ?ho ?_); (case hx => with_unfolding_all rfl); (case hy => with_unfolding_all rfl); (case hg => exact heap_alloc_new _ _); (case ho => rfl); intro w4 Y4 O4;
            have b4 : Below w3.heap.size w3 w4 := ((Below.refl _ _).alloc (Nat.le_refl _) _).trans (O4.out.below (by simp) (Nat.le_refl _)); have HW4 := Lib.hid (HW3.out.below b4); have hg12 : w.heap.size + 1 < w3.heap.size := HW3.out.r.lt; clear b4 O4)
        | ((with_reducible refine wpList_load_blk rfl 23 (.tmp 5) rfl w.heap.size ?hx 23 nonce HW4.out.n 12 5 Try.underlying23 12 size12 Hno.out ?_); (case hx => with_unfolding_all rfl))
        | (go_at_call 38; (with_reducible refine (rcount_one nonce Hno.out _).mono ?_); rintro e5 w5 ⟨rfl, hb5⟩; have HW5 := Lib.hid (HW4.out.below hb5); have Y5 := Lib.hid (Y4.out.below hb5); clear hb5)
        | (go_at_call 37; (with_reducible refine (cblock_any key _ Hk.out (cntV_length _ _ Hno.out) gc _ HW5.out.c).mono ?_); rintro e6 w6 ⟨rfl, hb6⟩; rw [HMk.out]; have HW6 := Lib.hid (HW5.out.below hb6); have Y6 := Lib.hid (Y5.out.below hb6); clear hb6)
        | ((with_reducible refine wpList_store_blk rfl 22 (.tmp 13) (.tmp 57) rfl w6.heap.size mk ?hx ?hy 22 (List.replicate 16 0) ?hg 16 sizeRow HML.out ?ho ?_); (case hx => with_unfolding_all rfl); (case hy => with_unfolding_all rfl); (case hg => exact heap_alloc_new _ _); (case ho => rfl); intro w7 K7 O7))
      have b7 : Below w6.heap.size w6 w7 := ((Below.refl _ _).alloc (Nat.le_refl _) _).trans (O7.out.below (by simp) (Nat.le_refl _))
      obtain ⟨g12, eg12⟩ : ∃ g, w3.heap.size = g := ⟨_, rfl⟩
      obtain ⟨g13, eg13⟩ : ∃ g, w6.heap.size = g := ⟨_, rfl⟩
      have R7 := Lib.hid (HW6.out.r.below b7)
      have B7 := Lib.hid (HW6.out.b.trans (b7.mono HW6.out.b.size))
      have Y7 := Lib.hid (Y6.out.below b7)
      have hg13 : g12 < g13 := by rw [← eg12, ← eg13]; exact Y6.out.lt
      rw [eg12] at Y7 hg12 ⊢
      rw [eg13] at K7 ⊢
      clear HW HW3 HW4 HW5 HW6 Y4 Y5 Y6 O7 b7 eg12 eg13
      go_loopw [14] (fun v14 wi => ∃ j : Nat, j ≤ 16 ∧ v14 = .int .i64 j ∧ Hid (Blk wi g12 22 (mixr (crossV hs mk) hs j)) ∧ Hid (Blk wi g13 22 mk) ∧ Hid (Blk wi (w.heap.size + 1) 22 (List.replicate 16 0)) ∧ Hid (Below w.heap.size w wi)) (fun v14 _ => 16 - (intOf v14).toNat)
      case atStart => exact ⟨0, by omega, rfl, by rw [mixr_zero]; exact Y7, K7, R7, B7⟩
      case round =>
        clear Y7 K7 R7 B7
        obtain ⟨j, hj, rfl, HY, HK, HR, HBw⟩ := hrel
        have hsl := HSL.out
        have hml := HML.out
        have hcl := HCL.out
        by_cases hlj : j < 16
        · obtain ⟨a, hA⟩ : ∃ b, hs.getD j 0 = b := ⟨_, rfl⟩
          obtain ⟨d, hD⟩ : ∃ b, mk.getD j 0 = b := ⟨_, rfl⟩
          have ca : wr.cell? ⟨g12, j, none⟩ = some (.int .u8 (bn a)) := by rw [HY.out.cell j (by rw [mixr_length _ _ _ (by omega)]; omega), mixr_old _ _ _ _ (by omega) (by omega) (Nat.le_refl _), hA]
          have cb : wr.cell? ⟨g13, j, none⟩ = some (.int .u8 (bn d)) := by rw [HK.out.cell j (by omega), hD]
          have cf := HY.out.frozen j
          have HN : Hid ((mixr (crossV hs mk) hs j).set j (a ^^^ d) = mixr (crossV hs mk) hs (j + 1)) := show _ = _ by
            rw [← hA, ← hD, ← mixr_set _ _ _ (by omega) (by omega)]
            congr 1
            exact (crossV_getD hs mk (by omega) j).symm
          have lj : (j : Int) < 16 := by omega
          clear hA hD hsl hml hcl
          go_wp2_with fail
          refine wp_tail 9 (by kernel_rfl) (by kernel_rfl) ?_
          simp only [List.take_succ_cons, List.take_zero, List.drop_succ_cons, List.drop_zero]
          repeat still_step
          refine wpStill_nil ?_
          go_wp2
          go_roundw
          case rel =>
            have hY : Hid (Blk (wr.setCell ⟨g12, j, none⟩ (.int .u8 (bn (a ^^^ d)))).drew g12 22 (mixr (crossV hs mk) hs (j + 1))) := show Blk _ _ _ _ by rw [← HN.out]; exact (HY.out.put _ _).drew
            have hK : Hid (Blk (wr.setCell ⟨g12, j, none⟩ (.int .u8 (bn (a ^^^ d)))).drew g13 22 mk) := (HK.out.other _ _ _ (by omega)).drew
            have hR : Hid (Blk (wr.setCell ⟨g12, j, none⟩ (.int .u8 (bn (a ^^^ d)))).drew (w.heap.size + 1) 22 (List.replicate 16 0)) := (HR.out.other _ _ _ (by omega)).drew
            have hBw : Hid (Below w.heap.size w (wr.setCell ⟨g12, j, none⟩ (.int .u8 (bn (a ^^^ d)))).drew) := (HBw.out.setCell (by show _ ≤ g12; omega) _).drew
            first
              | exact ⟨j + 1, by omega, by go_num, hY, hK, hR, hBw⟩
              | ((repeat apply Exists.intro); exact ⟨⟨j + 1, by omega, by go_num, hY, hK, hR, hBw⟩, rfl⟩)
          case measure => simp [intOf]; omega
        · obtain rfl : j = 16 := by omega
          rw [mixr_full _ _ _ (by omega) (by omega)] at HY
          clear hsl hml hcl
          go_wp2_with (first
            | ((with_reducible refine wpList_load_blk rfl 22 (.tmp 12) rfl g12 ?hx 22 _ HY.out 16 5 Try.underlying22 16 sizeRow HCL.out ?_); (case hx => with_unfolding_all rfl))
            | ((with_reducible refine wpList_store_blk rfl 22 (.tmp 8) (.tmp 71) rfl (w.heap.size + 1) (crossV hs mk) ?hx ?hy 22 (List.replicate 16 0) HR.out 16 sizeRow HCL.out ?ho ?_); (case hx => with_unfolding_all rfl); (case hy => with_unfolding_all rfl); (case ho => rfl); intro w9 H9 O9))
          refine ret_blk Try.results26 (w.heap.size + 1) 22 _ 16 5 rfl H9.out Try.underlying22 16 sizeRow HCL.out rfl ⟨rfl, ?_⟩
          exact HBw.out.trans (O9.out.below HBw.out.size (by omega))
end Go.Proofs.Ytjnclcehnpkncaa
