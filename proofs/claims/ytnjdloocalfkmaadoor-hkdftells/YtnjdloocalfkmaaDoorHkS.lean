/-
  The contracts of the document's own Extract, Expand and Label.
-/
import Derived.Test.YtnjdloocalfkmaaDoorHkR
namespace Go.Proofs.YtnjdloocalfkmaaDoor
open Go.RowKit Go.Joins
set_option linter.unusedVariables false

set_option maxHeartbeats 1000000 in
theorem rextract_any (key text : List UInt8) (A A2 : Option Addr) (n c m c2 B : Nat) (w : World) (hs : Sl w B A n key) (ht : Sl w B A2 m text) (hB : B ≤ w.heap.size) (hn : n ≤ 1000000) (hm : m ≤ 1000000) :
    Calls Tryd.prog 15 #[.slice A n c, .slice A2 m c2] w fun e w' => e = .returned (.agg (bvs (macV key text)).toArray) ∧ Below w.heap.size w w' := by
  have HS := Lib.hid hs
  have HT := Lib.hid ht
  have hbv : (bvs (macV key text)).length = 32 := by rw [bvs_length]; exact macV_length _ _
  have HBv := Lib.hid hbv
  clear hs ht hbv
  go_enter Tryd.func15, Tryd.ntmps15
  go_wp2_with fail
  (with_reducible refine (rmac_any key text A A2 n c m c2 B _ ?q1 ?q2 ?q3 hn hm).mono ?_)
  case q1 => exact HS.out.below ((Below.refl _ _).alloc hB _)
  case q2 => exact HT.out.below ((Below.refl _ _).alloc hB _)
  case q3 => simp; omega
  rintro e1 w1 ⟨rfl, hb1⟩
  have hz1 := hb1.size
  simp at hz1
  have r1 : w1.heap[w.heap.size]? = some (.cells (List.replicate 32 (.int .u8 0)).toArray 27 (0, 0)) := by
    rw [hb1.block _ (by simp)]; exact heap_alloc_new _ _
  have R1 := Lib.hid r1
  have HB1 : Hid (Below w.heap.size w w1) := ((Below.refl _ _).alloc (Nat.le_refl _) _).trans (hb1.mono (by simp))
  clear hb1 r1
  go_wp2_with ((with_reducible refine wpList_store_vals rfl 27 (.tmp 4) (.tmp 7) rfl w.heap.size (bvs (macV key text)) ?hx ?hy 27 _ R1.out ?hi ?ho (bvs_one _) ?_); (case hx => with_unfolding_all rfl); (case hy => with_unfolding_all rfl); (case hi => rw [size32, HBv.out]); (case ho => rw [HBv.out]; rfl))
  refine ret_row Tryd.results15 w.heap.size 27 _ (0, 0) 32 5 rfl (setRow_heap _ _ _ _ _ _ R1.out) Tryd.underlying27 ?_ rfl ⟨rfl, ?_⟩
  · rw [size32, List.size_toArray, HBv.out]
  · exact below_setRow HB1.out (Nat.le_refl _) _

theorem Own.first {w : World} {B n c m : Nat} {A : Option Addr} {l : List UInt8} (h : Own w B (.slice A n c) n l) (hm : m ≤ n) : Own w B (.slice A m c) m (l.take m) := by
  have hl := h.len
  rcases h.2 with ⟨hv, rfl⟩ | ⟨g, cap, cur, hv, hB, hg, hnc, hcm, hs, ht⟩
  · injection hv with hA hn hc
    subst hA hc
    obtain rfl : m = 0 := by omega
    rw [List.take_zero]
    exact Own.nil _ _
  · injection hv with hA hn hc
    subst hA hc
    refine ⟨by rw [bvs_length, List.length_take]; omega, .inr ⟨g, c, cur, rfl, hB, hg, by omega, hcm, hs, ?_⟩⟩
    have h2 : cur.toList.take n = bvs l := by simpa using ht
    have h3 : bvs (l.take m) = (bvs l).take m := by simp [bvs, List.map_take]
    rw [Nat.mul_one, h3, ← h2, List.take_take, Nat.min_eq_left hm]

theorem rexpand_neg (A A2 : Option Addr) (n1 c1 n2 c2 : Nat) (n : Int) (w : World) (h : n < 0 ∨ 8160 < n) :
    Calls Tryd.prog 17 #[.slice A n1 c1, .slice A2 n2 c2, .int .i64 n] w fun e w' => e = .returned (.slice none 0 0) ∧ w = w' := by
  rcases Int.lt_or_le n 0 with h0 | h0
  · have t1 : decide (n < 0) = true := by simp; omega
    clear h h0
    go_enter Tryd.func17, Tryd.ntmps17
    go_wp2
    go_ret
    exact ⟨rfl, rfl⟩
  · have t1 : decide (n < 0) = false := by simp; omega
    have t2 : decide (8160 < n) = true := by simp; omega
    clear h h0
    go_enter Tryd.func17, Tryd.ntmps17
    go_wp2
    go_ret
    exact ⟨rfl, rfl⟩
theorem bv_nat (j : Nat) : Value.int .u8 ((j : Int) % 256) = bv (UInt8.ofNat j) := by
  simp only [bv, UInt8.toNat_ofNat']
  congr 1

set_option maxHeartbeats 1000000 in
theorem rexpand_nat (key info : List UInt8) (A A2 : Option Addr) (n1 c1 n2 c2 n B : Nat) (w : World) (h1 : Sl w B A n1 key) (h2 : Sl w B A2 n2 info) (hB : B ≤ w.heap.size) (hm1 : n1 ≤ 1000000) (hm2 : n2 ≤ 100000) (hn : n ≤ 8160) :
    Calls Tryd.prog 17 #[.slice A n1 c1, .slice A2 n2 c2, .int .i64 (n : Int)] w (MakesBytes w n (expV key info n)) := by
  have H1 := Lib.hid h1
  have H2 := Lib.hid h2
  have t1 : decide ((n : Int) < 0) = false := by simp
  have t2 : decide ((8160 : Int) < (n : Int)) = false := by simp; omega
  clear h1 h2
  go_enter Tryd.func17, Tryd.ntmps17
  go_wp2_with fail
  go_loopw [7, 8, 9] (fun out last iv wr => ∃ (k j no co nl cl : Nat) (Ao Al : Option Addr), j = k + 1 ∧ no = 32 * k ∧ no < n + 32 ∧ no ≤ co ∧ co ≤ maxLen ∧ nl ≤ 32 ∧ iv = .int .i64 (j : Int) ∧ out = .slice Ao no co ∧ last = .slice Al nl cl ∧
    Hid (Own wr w.heap.size (.slice Ao no co) no (okmV key info k)) ∧ Hid (Sl wr wr.heap.size Al nl (tV key info k)) ∧ Hid (Below w.heap.size w wr)) (fun out _ _ _ => n + 32 - lenOf out)
  case atStart => exact ⟨0, 1, 0, 0, 0, 0, none, none, rfl, rfl, by omega, Nat.le_refl _, by simp [maxLen], by omega, rfl, rfl, rfl, Own.nil _ _, Sl.nil, Below.refl _ _⟩
  case round =>
    obtain ⟨k, j, no, co, nl, cl, Ao, Al, hjk, hno, hnn, hnoc, hcom, hnl, rfl, rfl, rfl, HO, HL, HB⟩ := hrel
    have hws := HB.out.size
    by_cases hlt : no < n
    · have lan : (no : Int) < (n : Int) := by omega
      have hj255 : (j : Int) ≤ 255 := by omega
      have HAK : Hid (j = k + 1 ∧ no = 32 * k) := ⟨hjk, hno⟩
      have htl : (bvs (tV key info (k + 1))).length = 32 := by rw [bvs_length]; exact tV_length _ _ _
      have HTl := Lib.hid htl
      have HMv : Hid (macV key ((tV key info k ++ info) ++ [UInt8.ofNat j]) = tV key info (k + 1)) := by
        show _ = _
        rw [List.append_assoc, hjk]
        rfl
      have HBj : Hid (Value.int .u8 (j : Int) = bv (UInt8.ofNat j)) := by
        show _ = _
        rw [← bv_nat]
        congr 1
        omega
      obtain ⟨M, hM⟩ : ∃ M, nl + n2 = M := ⟨_, rfl⟩
      obtain ⟨M1, hM1⟩ : ∃ M1, M + 1 = M1 := ⟨_, rfl⟩
      have hMb : M1 ≤ 200000 := by omega
      have hMle : M ≤ 200000 := by omega
      clear hjk hno htl
      go_wp2_with (first
        | (at_builtin; (refine wpList_append_bytesN rfl (.const (.slice none 0 0)) (.tmp 24) rfl wr.heap.size (.slice none 0 0) 0 nl nl [] (tV key info k) (tV key info k) rfl (Own.nil _ _) wr.heap.size Al cl rfl HL.out (by omega) rfl (by omega) (Nat.le_refl _) wr (Below.refl _ _) ?_); intro A1 d1 w1 HO1 hle1 hcm1 HB1; have hz1 := HB1.out.size)
        | (at_builtin; (refine wpList_append_bytesN rfl (.tmp 25) (.tmp 26) rfl wr.heap.size (.slice A1 nl d1) nl n2 M (tV key info k) info (tV key info k ++ info) rfl HO1.out B A2 c2 rfl ((H2.out.below (HB.out.mono hB)).below (HB1.out.mono (by omega))) hM rfl (by omega) hz1 wr HB1.out ?_); intro A3 d3 w3 HO3 hle3 hcm3 HB3; have hz3 := HB3.out.size)
        | (at_builtin; (refine wpList_append_bytesN rfl (.tmp 27) (.tmp 30) rfl wr.heap.size (.slice A3 M d3) M 1 M1 (tV key info k ++ info) [UInt8.ofNat j] ((tV key info k ++ info) ++ [UInt8.ofNat j]) rfl (HO3.out.alloc _) (w3.heap.size + 1) (some ⟨w3.heap.size, 0, none⟩) 1 rfl (sl_cell (heap_alloc_new _ _) ?hV (by omega)) hM1 rfl (by omega) ?hba wr ?hbe ?_); (case hV => first | exact HBj.out | exact bv_nat j); (case hba => simp; omega); (case hbe => exact HB3.out.alloc hz3 _); intro A4 d4 w4 HO4 hle4 hcm4 HB4; have hz4 := HB4.out.size)
        | (go_at_call 13; (with_reducible refine (rmac_any key ((tV key info k ++ info) ++ [UInt8.ofNat j]) A A4 n1 c1 M1 d4 w4.heap.size _ ?q1 HO4.out.sl (Nat.le_refl _) hm1 (by omega)).mono ?_); (case q1 => exact ((H1.out.below (HB.out.mono hB)).below (HB4.out.mono (by omega))).more (by omega)); rintro e5 w5 ⟨rfl, hb5⟩; rw [HMv.out]; have HB5 : Hid (Below wr.heap.size wr w5) := HB4.out.trans (hb5.mono hz4); have hz5 := HB5.out.size; have hcut5 := whole32 w5.heap.size; clear hb5)
        | ((with_reducible refine wpList_store_only rfl 27 (.tmp 10) (.tmp 32) rfl w5.heap.size (bvs (tV key info (k + 1))) ?hx ?hy 27 (List.replicate 32 (.int .u8 0)).toArray ?hg ?hi ?ho (bvs_one _) ?_); (case hx => with_unfolding_all rfl); (case hy => with_unfolding_all rfl); (case hg => exact heap_alloc_new _ _); (case hi => rw [size32, HTl.out]); (case ho => rw [HTl.out]; rfl); intro w6 K6 HO6; have hz6 : w5.heap.size < w6.heap.size := (Array.getElem?_eq_some_iff.1 K6.out).1; have hb6 : Below w5.heap.size w5 w6 := (((Below.refl _ _).alloc (Nat.le_refl _) _).trans (HO6.out.below (by simp) (Nat.le_refl _))); have HB6 : Hid (Below wr.heap.size wr w6) := HB5.out.trans (hb6.mono hz5); have hsl6 : Sl w6 w6.heap.size (some ⟨w5.heap.size, 0, none⟩) 32 (tV key info (k + 1)) := (by have h := sl_block (B := w6.heap.size) K6.out hz6; rw [tV_length] at h; exact h); have HS6 := Lib.hid hsl6; clear hb6 hsl6)
        | (at_builtin; (refine wpList_append_bytes rfl (.tmp 34) (.tmp 35) rfl w.heap.size (.slice Ao no co) no (okmV key info k) rfl (HO.out.below HB6.out) w6.heap.size (some ⟨w5.heap.size, 0, none⟩) 32 32 (tV key info (k + 1)) rfl HS6.out (by omega) ?hba w6 (Below.refl _ _) ?_); (case hba => omega); intro A7 d7 w7 ho7 hle7 hcm7 hg7 hb7))
      go_roundw
      case rel =>
        obtain ⟨hjk, hno⟩ := HAK.out
        have hz7 := hb7.size
        have hb : Below w.heap.size w w7 := (HB.out.trans (HB6.out.mono hws)).trans hb7
        have hs7 : Sl w7 w7.heap.size (some ⟨w5.heap.size, 0, none⟩) 32 (tV key info (k + 1)) := by
          have hne : ∀ kk, (Value.slice Ao no co).ownBlock = some kk → kk ≠ w5.heap.size := fun kk hkk => by
            have := (World.ownsRow.lt HO.out kk hkk).2
            omega
          refine ⟨HS6.out.1, fun h0 => ?_⟩
          obtain ⟨b, off, e, hb0, hc⟩ := HS6.out.2 h0
          refine ⟨b, off, e, by omega, fun i hi => ?_⟩
          have hb5 : b = w5.heap.size := by injection e with e; injection e with e; exact e.symm
          exact (World.cell?_of_block (w := w6) (hg7.block b (by omega) (fun he => by
            have := hne b he.symm
            omega))).trans (hc i hi)
        have hfin : ∃ (k' j' no' co' nl' cl' : Nat) (Ao' Al' : Option Addr), j' = k' + 1 ∧ no' = 32 * k' ∧ no' < n + 32 ∧ no' ≤ co' ∧ co' ≤ maxLen ∧ nl' ≤ 32 ∧ Value.int .i64 ((j : Int) + 1) = .int .i64 (j' : Int) ∧ Value.slice A7 (no + 32) d7 = .slice Ao' no' co' ∧ Value.slice (some ⟨w5.heap.size, 0, none⟩) 32 32 = .slice Al' nl' cl' ∧
            Hid (Own w7 w.heap.size (.slice Ao' no' co') no' (okmV key info k')) ∧ Hid (Sl w7 w7.heap.size Al' nl' (tV key info k')) ∧ Hid (Below w.heap.size w w7) :=
          ⟨k + 1, j + 1, no + 32, d7, 32, 32, A7, _, by omega, by omega, by omega, hle7, hcm7, Nat.le_refl _, by go_num, rfl, rfl, ho7, hs7, hb⟩
        exact hfin
      case measure => simp [lenOf]; omega
    · have hfin : MakesBytes w n (expV key info n) (.returned (.slice Ao n co)) wr := by
        have h := HO.out.first (m := n) (by omega)
        rw [exp_of key info n k (by omega)] at h
        exact ⟨_, co, rfl, h, by omega, hcom, HB.out⟩
      have HF := Lib.hid hfin
      have lan : ¬ ((no : Int) < (n : Int)) := by omega
      have hnc : (n : Int) ≤ (co : Int) := by omega
      clear hfin hjk hno
      go_wp2
      go_ret
      exact HF.out
theorem rexpand_any (key info : List UInt8) (A A2 : Option Addr) (n1 c1 n2 c2 B : Nat) (n : Int) (w : World) (h1 : Sl w B A n1 key) (h2 : Sl w B A2 n2 info) (hB : B ≤ w.heap.size) (hm1 : n1 ≤ 1000000) (hm2 : n2 ≤ 100000) :
    Calls Tryd.prog 17 #[.slice A n1 c1, .slice A2 n2 c2, .int .i64 n] w (MakesBytes w (xlen n) (expI key info n)) := by
  by_cases h : n < 0 ∨ 8160 < n
  · refine (rexpand_neg A A2 n1 c1 n2 c2 n w h).mono ?_
    rintro e w' ⟨rfl, rfl⟩
    obtain ⟨e1, e2⟩ := expI_out key info n h
    rw [e1, e2]
    exact ⟨none, 0, rfl, Own.nil _ _, Nat.le_refl _, by simp [maxLen], Below.refl _ _⟩
  · obtain ⟨m, rfl⟩ : ∃ m : Nat, n = (m : Int) := ⟨n.toNat, by omega⟩
    obtain ⟨e1, e2⟩ := expI_in key info m (by omega)
    rw [e1, e2]
    exact rexpand_nat key info A A2 n1 c1 n2 c2 m B w h1 h2 hB hm1 hm2 (by omega)
end Go.Proofs.YtnjdloocalfkmaaDoor
