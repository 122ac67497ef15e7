/-
  Contracts of the document's own Pad and Step.
-/
import Derived.Test.YtahcnjhfkndleaaDoorShaM
namespace Go.Proofs.YtahcnjhfkndleaaDoor
open Go.RowKit Go.Joins
set_option linter.unusedVariables false

theorem rpad_neg (n : Int) (w : World) (h : n < 0) : Calls Tryd.prog 16 #[.int .i64 n] w fun e w' => e = .returned (.slice none 0 0) ∧ w = w' := by
  have t : decide (n < 0) = true := by simp; omega
  clear h
  go_enter Tryd.func16, Tryd.ntmps16
  go_wp2
  go_ret
  exact ⟨rfl, rfl⟩

set_option maxHeartbeats 1000000 in
theorem rpad_any (n : Nat) (hn : n < 9223372036854775808) (w : World) :
    Calls Tryd.prog 16 #[.int .i64 (n : Int)] w (MakesBytes w (padN n) (padV n)) := by
  have hb := padN_bd n
  obtain ⟨S, hS⟩ : ∃ S, padN n = S := ⟨_, rfl⟩
  obtain ⟨r, hr⟩ : ∃ r, n % 64 = r := ⟨_, rfl⟩
  have hSr : (r ≤ 55 ∧ S = 64 - r) ∨ (56 ≤ r ∧ r ≤ 63 ∧ S = 128 - r) := by
    unfold padN at hS
    split at hS <;> omega
  have hrI : (n : Int) % 64 = (r : Int) := by omega
  rw [hS] at hb ⊢
  have hb1 : 9 ≤ S := hb.1
  have hb2 : S ≤ 72 := hb.2.1
  have hpos : decide ((n : Int) < 0) = false := by simp
  have hw1 : IntKind.u64.wrap (n : Int) = (n : Int) := IntWalk.u64_in _ (by omega)
  obtain ⟨L, hL⟩ : ∃ L, L = 8 * n % 18446744073709551616 := ⟨_, rfl⟩
  have hw2 : IntKind.u64.wrap ((n : Int) * 8) = (L : Int) := by
    rw [hL]; simp [IntKind.wrap, IntKind.bits, IntKind.signed]; omega
  have HB : Hid (∀ k, k < 8 → Value.int .u8 ((L : Int) / 2 ^ (8 * k) % 256) = bv (UInt8.ofNat (8 * n / 256 ^ k))) := fun k hk => by
    rw [hL]; exact byte_of_wrap (8 * n) k hk
  have HS := Lib.hid hS
  have HSr := Lib.hid hSr
  have HrI := Lib.hid hrI
  have hr64 : r < 64 := by omega
  clear hS hL hb hr hSr hrI
  go_enter Tryd.func16, Tryd.ntmps16
  go_wp2_with fail
  go_loopw [3] (fun out wr => ∃ (z c : Nat) (A : Option Addr), z + 9 ≤ S ∧ out = .slice A (1 + z) c ∧ Hid (Own wr w.heap.size (.slice A (1 + z) c) (1 + z) (128 :: List.replicate z 0)) ∧ 1 + z ≤ c ∧ c ≤ maxLen ∧ Hid (Below w.heap.size w wr)) (fun out _ => 100 - lenOf out)
  case atStart =>
    refine ⟨0, 1, _, by omega, rfl, ?_, Nat.le_refl _, by simp [maxLen], (Below.refl _ _).alloc (Nat.le_refl _) _⟩
    exact own_block (heap_alloc_new _ _) rfl rfl (by simp [maxLen]) (Nat.le_refl _)
  case round =>
    obtain ⟨z, c, A, hz, rfl, HO, hc1, hcm, HBl⟩ := hrel
    by_cases hlt : z + 9 < S
    · have t1 : (((n : Int) % 64 + (1 + (z : Int)) + 8) % 64 != 0) = true := by
        have := HSr.out
        have := HrI.out
        simp; omega
      go_wp2_with (at_builtin; (refine wpList_append_bytes rfl _ _ rfl w.heap.size (.slice A (1 + z) c) (1 + z) (128 :: List.replicate z 0) rfl (HO.out.alloc _) _ _ 1 1 [0] rfl (sl_one _ _ _ rfl) (by omega) ?hB w ?hb ?_); (case hB => have := HBl.out.size; simp; omega); (case hb => exact HBl.out.alloc HBl.out.size _); intro A1 c1 w1 ho1 hle1 hc1 hg1 hb1)
      go_roundw
      case rel =>
        have e : 128 :: List.replicate z 0 ++ [0] = 128 :: List.replicate (z + 1) (0 : UInt8) := by
          rw [List.replicate_succ', List.cons_append]
        rw [e] at ho1
        exact ⟨z + 1, c1, A1, by omega, rfl, ho1, hle1, hc1, hb1⟩
      case measure => simp [lenOf]; omega
    · obtain rfl : S = z + 9 := by omega
      have t1 : (((n : Int) % 64 + (1 + (z : Int)) + 8) % 64 != 0) = false := by
        have := HSr.out
        have := HrI.out
        simp; omega
      have HV : Hid (padV n = 128 :: List.replicate z 0 ++ beB (8 * n) 8) := by
        show _ = _
        unfold padV
        rw [HS.out]
        simp
      go_wp2_with fail
      go_loopw [3, 5] (fun out sh wr => ∃ (j m : Nat) (A' : Option Addr) (c' : Nat) (X : List UInt8), j ≤ 8 ∧ m + j = z + 9 ∧ sh = .int .i64 ((j : Int) - 1) ∧ out = .slice A' m c' ∧
        Hid (Own wr w.heap.size (.slice A' m c') m (128 :: List.replicate z 0 ++ X)) ∧ m ≤ c' ∧ c' ≤ maxLen ∧ Hid (X ++ beB (8 * n) j = beB (8 * n) 8) ∧ Hid (Below w.heap.size w wr)) (fun _ sh _ => (intOf sh + 1).toNat)
      case atStart =>
        refine ⟨8, 1 + z, A, c, [], by omega, by omega, rfl, rfl, ?_, hc1, hcm, rfl, HBl⟩
        show Own _ _ _ _ _
        rw [List.append_nil]; exact HO.out
      case round =>
        obtain ⟨j, m, A', c', X, hj, hmj, rfl, rfl, HO', hmc, hcm', HX, HBl'⟩ := hrel
        rcases Nat.eq_zero_or_pos j with rfl | hposj
        · go_wp2
          go_ret
          obtain rfl : m = z + 9 := by omega
          have hX : X = beB (8 * n) 8 := by
            have h := HX.out
            simpa [beB] using h
          subst hX
          rw [HV.out]
          exact ⟨A', c', rfl, HO'.out, hmc, hcm', HBl'.out⟩
        · obtain ⟨t, rfl⟩ : ∃ t, j = t + 1 := ⟨j - 1, by omega⟩
          rw [show (((t + 1 : Nat) : Int) - 1) = (t : Int) by omega]
          have ht8 : t < 8 := by omega
          have htI : (8 : Int) * (t : Int) < 64 := by omega
          go_wp2_with (at_builtin; (refine wpList_append_bytes rfl _ _ rfl w.heap.size (.slice A' m c') m (128 :: List.replicate z 0 ++ X) rfl (HO'.out.alloc _) _ _ 1 1 [UInt8.ofNat (8 * n / 256 ^ t)] rfl (sl_one _ _ _ ?hV) (by omega) ?hB w ?hb ?_); (case hV => exact HB.out t ht8); (case hB => have := HBl'.out.size; simp; omega); (case hb => exact HBl'.out.alloc HBl'.out.size _); intro A1 c1 w1 ho1 hle1 hc1' hg1 hb1')
          go_roundw
          case rel =>
            have q1 : Hid (Own w1 w.heap.size (.slice A1 (m + 1) c1) (m + 1) (128 :: List.replicate z 0 ++ (X ++ [UInt8.ofNat (8 * n / 256 ^ t)]))) := by
              show Own _ _ _ _ _
              rw [← List.append_assoc]; exact ho1
            have q2 : Hid ((X ++ [UInt8.ofNat (8 * n / 256 ^ t)]) ++ beB (8 * n) t = beB (8 * n) 8) := by
              show _ = _
              rw [← HX.out]; simp [beB]
            first
              | exact ⟨t, m + 1, A1, c1, _, by omega, by omega, by go_num, rfl, q1, hle1, hc1', q2, hb1'⟩
              | ((repeat apply Exists.intro); exact ⟨⟨t, m + 1, A1, c1, _, by omega, by omega, by go_num, rfl, q1, hle1, hc1', q2, hb1'⟩, rfl⟩)
          case measure => simp [intOf]

set_option maxHeartbeats 1000000 in
theorem rStep_any (h : List UInt32) (l : List UInt8) (hh : h.length = 8) (hl : l.length = 64) (w : World) :
    Calls Tryd.prog 14 #[.agg (wvs h).toArray, .agg (bvs l).toArray] w fun e w' => e = .returned (.agg (wvs (stepV h l)).toArray) ∧ Below w.heap.size w w' := by
  have Hh := Lib.hid hh
  have Hl := Lib.hid hl
  have hh8 : (wvs h).length = 8 := by rw [wvs_length]; exact hh
  have H8 := Lib.hid hh8
  clear hh hl hh8
  go_enter Tryd.func14, Tryd.ntmps14
  go_wp2_with (first
    | (go_at_call 19; (with_reducible refine (consts_any _).mono ?_); rintro e1 w1 ⟨rfl, hb1⟩)
    | ((with_reducible refine wpList_store_only rfl 46 (.tmp 5) (.tmp 6) rfl w1.heap.size (wvs kV) ?hx ?hy 46 (List.replicate 64 (.int .u32 0)).toArray ?hg ?hi ?ho (wvs_one _) ?_); (case hx => with_unfolding_all rfl); (case hy => with_unfolding_all rfl); (case hg => exact heap_alloc_new _ _); (case hi => exact size64); (case ho => rfl); intro w2 H2 HO2))
  have hb1' : Below w.heap.size w w1 := ((((Below.refl _ _).alloc (Nat.le_refl _) _).alloc (by simp) _).alloc (by simp; omega) _).trans (hb1.mono (by simp; omega))
  have hblk : ∀ k, k < 3 → w2.heap[w.heap.size + k]? = (((w.alloc (.cells (wvs h).toArray 32)).alloc (.cells (bvs l).toArray 33)).alloc (.cells (List.replicate 8 (.int .u32 0)).toArray 32)).heap[w.heap.size + k]? := fun k hk => by
    have h1 := hb1.size
    simp at h1
    rw [HO2.out.block _ (by simp; omega) (by omega), Below.heap_alloc _ _ _ (by omega)]
    exact hb1.block _ (by simp; omega)
  have g0 : w2.heap[w.heap.size]? = some (.cells (wvs h).toArray 32 (0, 0)) := (hblk 0 (by omega)).trans (heap_allocs w [_, _, _] 0 _ rfl)
  have g1 : w2.heap[w.heap.size + 1]? = some (.cells (bvs l).toArray 33 (0, 0)) := (hblk 1 (by omega)).trans (heap_allocs w [_, _, _] 1 _ rfl)
  have g2 : w2.heap[w.heap.size + 2]? = some (.cells (List.replicate 8 (.int .u32 0)).toArray 32 (0, 0)) := (hblk 2 (by omega)).trans (heap_allocs w [_, _, _] 2 _ rfl)
  have hb2' : Below w.heap.size w w2 := (hb1'.alloc hb1'.size _).trans (HO2.out.below (by have := hb1'.size; simp; omega) hb1'.size)
  have hs2 : w.heap.size + 3 ≤ w2.heap.size := by
    have h1 := hb1.size
    have h2 := HO2.out.size
    simp at h1 h2
    omega
  have G0 := Lib.hid g0
  have G1 := Lib.hid g1
  have G2 := Lib.hid g2
  have HB2 := Lib.hid hb2'
  have hlb : l.length = 64 := Hl.out
  have HSl : Hid (Sl w2 w2.heap.size (some ⟨w.heap.size + 1, 0, none⟩) 64 l) := by
    have := sl_block (B := w2.heap.size) g1 (by omega)
    rw [hlb] at this
    exact this
  have hcut : ∀ u : World, (Instr.sliceAt 33 (.pointer (some ⟨w.heap.size + 1, 0, none⟩)) none none none).run Tryd.prog u = .ok (.slice (some ⟨w.heap.size + 1, 0, none⟩) 64 64) u := fun u => by
    have ha : Tryd.prog.arrayLen 33 = 64 := by simp [Program.arrayLen, Tryd.underlying33]
    have he : Tryd.prog.elem 33 = 5 := by simp [Program.elem, Tryd.underlying33]
    have h := run_sliceAt_array_all (P := Tryd.prog) u 33 ⟨w.heap.size + 1, 0, none⟩ (by rw [ha, he]; exact Tryd.underlying33)
    obtain ⟨i, hi', hz0, hz1, hz2⟩ := info_parts byte_info
    rw [h, he]
    simp [sizeOf, typeInfo, hi', hz1, slicedAt, ha, addr_add]
  clear hb1 hb1' hblk g0 g1 g2 hb2' hlb HO2
  refine wp_tail 2 (by kernel_rfl) (by kernel_rfl) ?_
  simp only [List.take_succ_cons, List.take_zero, List.drop_succ_cons, List.drop_zero]
  refine wpStill_load_row rfl 32 (.tmp 2) rfl w.heap.size (by with_unfolding_all rfl) 32 (wvs h).toArray (0, 0) _ G0.out Tryd.underlying32 rfl (by rw [List.size_toArray, H8.out]; exact size8) ?_
  repeat still_step
  refine wpStill_nil ?_
  go_wp2_with fail
  (with_reducible refine (rstep_any h l (w.heap.size + 1) 0 64 w1.heap.size 46 (0, 0) Hh.out _ ?q1 ?q2).mono ?_)
  case q1 => exact HSl.out.drew
  case q2 => exact H2.out
  rintro e3 w3 ⟨rfl, hb3⟩
  have g3 : w3.heap[w.heap.size + 2]? = some (.cells (List.replicate 8 (.int .u32 0)).toArray 32 (0, 0)) := by
    rw [hb3.block _ (show _ < w2.drew.heap.size by show _ < w2.heap.size; omega)]; exact G2.out
  have G3 := Lib.hid g3
  have HB3 := Lib.hid (HB2.out.drew.trans (hb3.mono (show w.heap.size ≤ w2.heap.size by omega)))
  have hvl : (wvs (stepV h l)).length = 8 := by rw [wvs_length]; exact stepV_length _ _ Hh.out
  have HVl := Lib.hid hvl
  clear g3 hb3 hvl
  go_wp2_with ((with_reducible refine wpList_store_vals rfl 32 (.tmp 4) (.tmp 9) rfl (w.heap.size + 2) (wvs (stepV h l)) ?hx ?hy 32 (List.replicate 8 (.int .u32 0)).toArray G3.out ?hi ?ho (wvs_one _) ?_); (case hx => with_unfolding_all rfl); (case hy => with_unfolding_all rfl); (case hi => rw [HVl.out]; exact size8); (case ho => rw [HVl.out]; rfl))
  refine ret_row Tryd.results14 (w.heap.size + 2) 32 _ (0, 0) 8 31 rfl (setRow_heap _ _ _ _ _ _ G3.out) Tryd.underlying32 ?hi rfl ⟨rfl, ?_⟩
  · rw [List.size_toArray, HVl.out]; exact size8
  · exact below_setRow HB3.out (by omega) _
end Go.Proofs.YtahcnjhfkndleaaDoor
