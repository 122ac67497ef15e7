/-
  The contract of Expand.
-/
import Derived.Test.YtnjdloocalfkmaaDoorHkC
namespace Go.Proofs.YtnjdloocalfkmaaDoor
open Go.RowKit Go.Joins
set_option linter.unusedVariables false

theorem byte_count (k : Nat) : Value.int .u8 (((k : Int) + 1) % 256) = bv (UInt8.ofNat (k + 1)) := by
  simp only [bv, UInt8.toNat_ofNat']
  congr 1
theorem byte_count' (k : Nat) (h : (k : Int) + 1 ≤ 255) : Value.int .u8 ((k : Int) + 1) = bv (UInt8.ofNat (k + 1)) := by
  rw [← byte_count]
  congr 1
  omega
theorem sl_cell {w : World} {g B : Nat} {V : Value} {x : UInt8} {t : TypeId} {fr : Nat × Nat} (hg : w.heap[g]? = some (.cells #[V] t fr)) (hV : V = bv x) (hB : g < B) : Sl w B (some ⟨g, 0, none⟩) 1 [x] := by
  subst hV
  exact sl_block (l := [x]) hg hB
/-- 'make([]byte, S)' -/
theorem run_make_bytes (S : Nat) (hS : S ≤ 70368744177664) (u : World) : (Instr.makeSlice 22 (.int .i64 (S : Int)) (.int .i64 (S : Int))).run Tryd.prog u =
      .ok (.slice (some ⟨u.heap.size, 0, none⟩) S S) (u.alloc (.cells (madeCells #[.int .u8 0] S) 5)) := by
  obtain ⟨i, hi, hz0, hz1, hz2⟩ := info_parts byte_info
  have h := run_make (P := Tryd.prog) u 22 5 i (.int .u8 0) Tryd.underlying22 hi hz0 .i64 .i64 (S : Int) (S : Int) (by omega) (Int.le_refl _) (by rw [hz2]; omega) (by omega)
  simpa [hz1, Value.cells] using h
theorem Sl.grow {w w' : World} {A : Option Addr} {n : Nat} {l : List UInt8} (h : Sl w w.heap.size A n l) (hb : Below w.heap.size w w') : Sl w' w'.heap.size A n l := (h.below hb).more hb.size

set_option maxHeartbeats 1000000 in
theorem expand_nat (key info : List UInt8) (A A2 : Option Addr) (n1 c1 n2 c2 n B : Nat) (w : World) (hG : Glob w) (h1 : Sl w B A n1 key) (h2 : Sl w B A2 n2 info) (hB : B ≤ w.heap.size) (hn1 : n1 ≤ c1) (hc1 : c1 ≤ maxLen) (hn2 : n2 ≤ c2) (hc2 : c2 ≤ maxLen)
    (hm1 : n1 ≤ 1000000) (hm2 : n2 ≤ 1000000) (hn : n ≤ 8160) :
    Calls Tryd.prog 10 #[.slice A n1 c1, .slice A2 n2 c2, .int .i64 (n : Int)] w (MakesBytes w n (expV key info n)) := by
  have HG := Lib.hid hG
  have H1 := Lib.hid h1
  have H2 := Lib.hid h2
  have t1 : decide ((n : Int) < 0) = false := by simp
  have hmk := run_make_bytes n (by omega)
  have t2 : decide ((8160 : Int) < (n : Int)) = false := by simp; omega
  clear hG h1 h2
  go_enter Tryd.func10, Tryd.ntmps10
  go_wp2_with fail
  clear hmk
  go_loopw [8, 9] (fun last i wr => ∃ (k a nl cl : Nat) (Al : Option Addr), a = 32 * k ∧ a < n + 32 ∧ i = .int .i64 (a : Int) ∧ last = .slice Al nl cl ∧ nl ≤ cl ∧ cl ≤ maxLen ∧ Hid (Sl wr wr.heap.size Al nl (tV key info k)) ∧
    Hid (wr.heap[w.heap.size]? = some (.cells (bvs (erow key info n k)).toArray 5 (0, 0))) ∧ Hid (Below w.heap.size w wr)) (fun _ i _ => n + 32 - (intOf i).toNat)
  case atStart =>
    refine ⟨0, 0, 0, 0, none, rfl, by omega, rfl, rfl, Nat.le_refl _, by simp [maxLen], Sl.nil, ?_, (Below.refl _ _).alloc (Nat.le_refl _) _⟩
    show _ = _
    rw [erow_zero, ← zeros_bvs, ← madeCells_eq]
    exact heap_alloc_new _ _
  case round =>
    obtain ⟨k, a, nl, cl, Al, hak, han, rfl, rfl, hnl, hcl, HL, HR, HB⟩ := hrel
    by_cases hlt : a < n
    · have hq : (a : Int) / 32 = (k : Int) := by omega
      have hqt : (a : Int).tdiv 32 = (k : Int) := by rw [Int.tdiv_eq_ediv_of_nonneg (by omega)]; exact hq
      have hk : (k : Int) + 1 ≤ 255 := by omega
      have lan : (a : Int) < (n : Int) := by omega
      have haI : (a : Int) + 32 ≤ 10000 := by omega
      have HAK := Lib.hid hak
      clear hak
      go_wp2_with fail
      have hbr : ∀ o o', Below wr.heap.size wr ((wr.alloc o).alloc o') := fun o o' => ((Below.refl _ _).alloc (Nat.le_refl _) _).alloc (by simp) _
      have hj : joined [⟨Al, nl, cl, tV key info k⟩, ⟨A2, n2, c2, info⟩, ⟨some ⟨wr.heap.size, 0, none⟩, 1, 1, [UInt8.ofNat (k + 1)]⟩] = tV key info k ++ (info ++ [UInt8.ofNat (k + 1)]) := by simp [joined]
      have hws := HB.out.size
      (with_reducible refine (mac_any key [⟨Al, nl, cl, tV key info k⟩, ⟨A2, n2, c2, info⟩, ⟨some ⟨wr.heap.size, 0, none⟩, 1, 1, [UInt8.ofNat (k + 1)]⟩] A _ n1 c1 3 3 (wr.heap.size + 2) _ ?q1 ?q2 ?q3 ?q4 hn1 hc1 (by omega) (by omega) ?q6).mono ?_)
      case q1 => exact (HG.out.below HB.out).below (hbr _ _)
      case q2 => exact ((H1.out.below (HB.out.mono hB)).below ((hbr _ _).mono (by omega))).more (by omega)
      case q3 =>
        refine slw_block (g := wr.heap.size + 1) (ps := [⟨Al, nl, cl, tV key info k⟩, ⟨A2, n2, c2, info⟩, ⟨some ⟨wr.heap.size, 0, none⟩, 1, 1, [UInt8.ofNat (k + 1)]⟩]) (t := 22) (fr := (0, 0)) (heap_allocs wr [_, _] 1 _ rfl) (by omega) (fun p hp => ?_)
        simp only [List.mem_cons, List.not_mem_nil, or_false] at hp
        rcases hp with rfl | rfl | rfl
        · exact ⟨(HL.out.below (hbr _ _)).more (by omega), hnl, hcl⟩
        · exact ⟨((H2.out.below (HB.out.mono hB)).below ((hbr _ _).mono (by omega))).more (by omega), hn2, hc2⟩
        · refine ⟨sl_cell (heap_allocs wr [_, _] 0 _ rfl) ?_ (by omega), Nat.le_refl _, by simp [maxLen]⟩
          first | exact byte_count k | exact byte_count' k hk
      case q4 => simp
      case q6 =>
        have h1 := tV_le key info k
        have h2 := H2.out.1
        rw [hj]
        simp only [List.length_append, List.length_cons, List.length_nil]
        omega
      rintro e1 w1 ⟨rfl, hb1⟩
      rw [hj]
      have HT : Hid (macV key (tV key info k ++ (info ++ [UInt8.ofNat (k + 1)])) = tV key info (k + 1)) := rfl
      rw [HT.out]
      have hz1 := hb1.size
      simp at hz1
      have HB1 : Hid (Below wr.heap.size wr w1) := (hbr _ _).trans (hb1.mono (by simp; omega))
      have r1 : w1.heap[w.heap.size]? = some (.cells (bvs (erow key info n k)).toArray 5 (0, 0)) := by
        have h0 := (Array.getElem?_eq_some_iff.1 HR.out).1
        rw [HB1.out.block _ h0]; exact HR.out
      have R1 := Lib.hid r1
      have hgw : w.heap.size < wr.heap.size := (Array.getElem?_eq_some_iff.1 HR.out).1
      have htl : (bvs (tV key info (k + 1))).length = 32 := by rw [bvs_length]; exact tV_length _ _ _
      have HTl := Lib.hid htl
      have hcut1 := whole32 w1.heap.size
      have hcut2 : ∀ u : World, (Instr.slice 22 (.slice (some ⟨w.heap.size, 0, none⟩) n n) (some (.int .i64 (a : Int))) none none).run Tryd.prog u = .ok (.slice (some ⟨w.heap.size, a, none⟩) (n - a) (n - a)) u := fun u => by
        have h := run_cut_bytes u (some ⟨w.heap.size, 0, none⟩) n n a (by omega) (Nat.le_refl _)
        rw [if_neg (by omega), Option.map_some, addr_add, Nat.zero_add] at h
        exact h
      have HE : Hid (splice (erow key info n k) a ((tV key info (k + 1)).take (min 32 (n - a))) = erow key info n (k + 1)) := by
        show _ = _
        have hak := HAK.out
        have h := erow_step key info n k (by omega)
        rwa [show 32 * k = a by omega] at h
      clear hbr hj hb1 r1 htl HT
      go_wp2_with (first
        | ((with_reducible refine wpList_store_only rfl 27 (.tmp 11) (.tmp 35) rfl w1.heap.size (bvs (tV key info (k + 1))) ?hx ?hy 27 (List.replicate 32 (.int .u8 0)).toArray ?hg ?hi ?ho (bvs_one _) ?_); (case hx => with_unfolding_all rfl); (case hy => with_unfolding_all rfl); (case hg => exact heap_alloc_new _ _); (case hi => rw [size32, HTl.out]); (case ho => rw [HTl.out]; rfl); intro w2 K2 HO2; have hb2 : Below w1.heap.size w1 w2 := (((Below.refl _ _).alloc (Nat.le_refl _) _).trans (HO2.out.below (by simp) (Nat.le_refl _))); have HB2 := Lib.hid hb2; have hz2 : w1.heap.size < w2.heap.size := (Array.getElem?_eq_some_iff.1 K2.out).1; have r2 : w2.heap[w.heap.size]? = some (.cells (bvs (erow key info n k)).toArray 5 (0, 0)) := (by rw [hb2.block _ (by omega)]; exact R1.out); have R2 := Lib.hid r2; have hsl2 : Sl w2 w2.heap.size (some ⟨w1.heap.size, 0, none⟩) 32 (tV key info (k + 1)) := (by have h := sl_block (B := w2.heap.size) K2.out hz2; rw [tV_length] at h; exact h); have HS2 := Lib.hid hsl2; clear hb2 r2 hsl2)
        | ((with_reducible refine wpList_copy_over rfl (.tmp 39) (.tmp 40) rfl w.heap.size a (n - a) (n - a) 32 32 w2.heap.size (min 32 (n - a)) _ _ (tV key info (k + 1)) (erow key info n k) 5 ?hd ?hs HS2.out R2.out rfl (fun _ => rfl) ?hf ?_); (case hd => with_unfolding_all rfl); (case hs => with_unfolding_all rfl); (case hf => rw [erow_length]; omega); rw [HE.out]; intro w3 K3 HO3))
      go_roundw
      case rel =>
        have hak := HAK.out
        have hb3 : Below w.heap.size w w3 := (HB.out.trans ((HB1.out.mono hws).trans (HB2.out.mono (by omega)))).trans (HO3.out.below (by omega) (Nat.le_refl _))
        have hs3 : Sl w3 w3.heap.size (some ⟨w1.heap.size, 0, none⟩) 32 (tV key info (k + 1)) := (HO3.out.sl HS2.out (Nat.le_refl _) (fun b off e => by injection e with e; injection e with e; omega)).more HO3.out.size
        have hfin : ∃ (k' a' nl' cl' : Nat) (Al' : Option Addr), a' = 32 * k' ∧ a' < n + 32 ∧ Value.int .i64 ((a : Int) + 32) = .int .i64 (a' : Int) ∧ Value.slice (some ⟨w1.heap.size, 0, none⟩) 32 32 = .slice Al' nl' cl' ∧ nl' ≤ cl' ∧ cl' ≤ maxLen ∧ Hid (Sl w3 w3.heap.size Al' nl' (tV key info k')) ∧
            Hid (w3.heap[w.heap.size]? = some (.cells (bvs (erow key info n k')).toArray 5 (0, 0))) ∧ Hid (Below w.heap.size w w3) :=
          ⟨k + 1, a + 32, 32, 32, _, by omega, by omega, by go_num, rfl, Nat.le_refl _, by simp [maxLen], hs3, K3, hb3⟩
        exact hfin
      case measure => simp [intOf]; omega
    · have hfin : MakesBytes w n (expV key info n) (.returned (.slice (some ⟨w.heap.size, 0, none⟩) n n)) wr := by
        rw [erow_full key info n k (by omega)] at HR
        exact ⟨_, n, rfl, own_block HR.out rfl (expV_length _ _ _) (by simp [maxLen]; omega) (Nat.le_refl _), Nat.le_refl _, by simp [maxLen]; omega, HB.out⟩
      have HF := Lib.hid hfin
      have lan : ¬ ((a : Int) < (n : Int)) := by omega
      clear hfin
      go_wp2
      go_ret
      exact HF.out
theorem expand_any (key info : List UInt8) (A A2 : Option Addr) (n1 c1 n2 c2 B : Nat) (n : Int) (w : World) (hG : Glob w) (h1 : Sl w B A n1 key) (h2 : Sl w B A2 n2 info) (hB : B ≤ w.heap.size) (hn1 : n1 ≤ c1) (hc1 : c1 ≤ maxLen) (hn2 : n2 ≤ c2) (hc2 : c2 ≤ maxLen)
    (hm1 : n1 ≤ 1000000) (hm2 : n2 ≤ 1000000) :
    Calls Tryd.prog 10 #[.slice A n1 c1, .slice A2 n2 c2, .int .i64 n] w (MakesBytes w (xlen n) (expI key info n)) := by
  by_cases h : n < 0 ∨ 8160 < n
  · refine (expand_neg A A2 n1 c1 n2 c2 n w h).mono ?_
    rintro e w' ⟨rfl, rfl⟩
    obtain ⟨e1, e2⟩ := expI_out key info n h
    rw [e1, e2]
    exact ⟨none, 0, rfl, Own.nil _ _, Nat.le_refl _, by simp [maxLen], Below.refl _ _⟩
  · obtain ⟨m, rfl⟩ : ∃ m : Nat, n = (m : Int) := ⟨n.toNat, by omega⟩
    obtain ⟨e1, e2⟩ := expI_in key info m (by omega)
    rw [e1, e2]
    exact expand_nat key info A A2 n1 c1 n2 c2 m B w hG h1 h2 hB hn1 hc1 hn2 hc2 hm1 hm2 (by omega)
end Go.Proofs.YtnjdloocalfkmaaDoor
