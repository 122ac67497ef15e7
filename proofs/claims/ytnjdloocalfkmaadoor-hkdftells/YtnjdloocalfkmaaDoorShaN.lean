/-
  The contract of the document's own Pad.
-/
import Derived.Test.YtnjdloocalfkmaaDoorShaM
namespace Go.Proofs.YtnjdloocalfkmaaDoor
open Go.RowKit Go.Joins
set_option linter.unusedVariables false

theorem rpad_neg (n : Int) (w : World) (h : n < 0) : Calls Tryd.prog 28 #[.int .i64 n] w fun e w' => e = .returned (.slice none 0 0) ∧ w = w' := by
  have t : decide (n < 0) = true := by simp; omega
  clear h
  go_enter Tryd.func28, Tryd.ntmps28
  go_wp2
  go_ret
  exact ⟨rfl, rfl⟩

set_option maxHeartbeats 1000000 in
theorem rpad_any (n : Nat) (hn : n < 9223372036854775808) (w : World) :
    Calls Tryd.prog 28 #[.int .i64 (n : Int)] w (MakesBytes w (padN n) (padV n)) := by
  have hb := padN_bd n
  obtain ⟨S, hS⟩ : ∃ S, padN n = S := ⟨_, rfl⟩
  obtain ⟨r, hr⟩ : ∃ r, n % 64 = r := ⟨_, rfl⟩
  have hSr : (r ≤ 55 ∧ S = 64 - r) ∨ (56 ≤ r ∧ r ≤ 63 ∧ S = 128 - r) := by
    unfold padN at hS
    split at hS <;> omega
  have hrI : (n : Int) % 64 = (r : Int) := by omega
  rw [hS] at hb ⊢
  have hb1 : 9 ≤ S := hb.1
  have hb2 : S ≤ 72 := hb.2.1
  have hpos : decide ((n : Int) < 0) = false := by simp
  have hw1 : IntKind.u64.wrap (n : Int) = (n : Int) := IntWalk.u64_in _ (by omega)
  obtain ⟨L, hL⟩ : ∃ L, L = 8 * n % 18446744073709551616 := ⟨_, rfl⟩
  have hw2 : IntKind.u64.wrap ((n : Int) * 8) = (L : Int) := by
    rw [hL]; simp [IntKind.wrap, IntKind.bits, IntKind.signed]; omega
  have HB : Hid (∀ k, k < 8 → Value.int .u8 ((L : Int) / 2 ^ (8 * k) % 256) = bv (UInt8.ofNat (8 * n / 256 ^ k))) := fun k hk => by
    rw [hL]; exact byte_of_wrap (8 * n) k hk
  have HS := Lib.hid hS
  have HSr := Lib.hid hSr
  have HrI := Lib.hid hrI
  have hr64 : r < 64 := by omega
  clear hS hL hb hr hSr hrI
  go_enter Tryd.func28, Tryd.ntmps28
  go_wp2_with fail
  go_loopw [3] (fun out wr => ∃ (z c : Nat) (A : Option Addr), z + 9 ≤ S ∧ out = .slice A (1 + z) c ∧ Hid (Own wr w.heap.size (.slice A (1 + z) c) (1 + z) (128 :: List.replicate z 0)) ∧ 1 + z ≤ c ∧ c ≤ maxLen ∧ Hid (Below w.heap.size w wr)) (fun out _ => 100 - lenOf out)
  case atStart =>
    refine ⟨0, 1, _, by omega, rfl, ?_, Nat.le_refl _, by simp [maxLen], (Below.refl _ _).alloc (Nat.le_refl _) _⟩
    exact own_block (heap_alloc_new _ _) rfl rfl (by simp [maxLen]) (Nat.le_refl _)
  case round =>
    obtain ⟨z, c, A, hz, rfl, HO, hc1, hcm, HBl⟩ := hrel
    by_cases hlt : z + 9 < S
    · have t1 : (((n : Int) % 64 + (1 + (z : Int)) + 8) % 64 != 0) = true := by
        have := HSr.out
        have := HrI.out
        simp; omega
      go_wp2_with (at_builtin; (refine wpList_append_bytes rfl _ _ rfl w.heap.size (.slice A (1 + z) c) (1 + z) (128 :: List.replicate z 0) rfl (HO.out.alloc _) _ _ 1 1 [0] rfl (sl_one _ _ _ rfl) (by omega) ?hB w ?hb ?_); (case hB => have := HBl.out.size; simp; omega); (case hb => exact HBl.out.alloc HBl.out.size _); intro A1 c1 w1 ho1 hle1 hc1 hg1 hb1)
      go_roundw
      case rel =>
        have e : 128 :: List.replicate z 0 ++ [0] = 128 :: List.replicate (z + 1) (0 : UInt8) := by
          rw [List.replicate_succ', List.cons_append]
        rw [e] at ho1
        exact ⟨z + 1, c1, A1, by omega, rfl, ho1, hle1, hc1, hb1⟩
      case measure => simp [lenOf]; omega
    · obtain rfl : S = z + 9 := by omega
      have t1 : (((n : Int) % 64 + (1 + (z : Int)) + 8) % 64 != 0) = false := by
        have := HSr.out
        have := HrI.out
        simp; omega
      have HV : Hid (padV n = 128 :: List.replicate z 0 ++ beB (8 * n) 8) := by
        show _ = _
        unfold padV
        rw [HS.out]
        simp
      go_wp2_with fail
      go_loopw [3, 5] (fun out sh wr => ∃ (j m : Nat) (A' : Option Addr) (c' : Nat) (X : List UInt8), j ≤ 8 ∧ m + j = z + 9 ∧ sh = .int .i64 ((j : Int) - 1) ∧ out = .slice A' m c' ∧
        Hid (Own wr w.heap.size (.slice A' m c') m (128 :: List.replicate z 0 ++ X)) ∧ m ≤ c' ∧ c' ≤ maxLen ∧ Hid (X ++ beB (8 * n) j = beB (8 * n) 8) ∧ Hid (Below w.heap.size w wr)) (fun _ sh _ => (intOf sh + 1).toNat)
      case atStart =>
        refine ⟨8, 1 + z, A, c, [], by omega, by omega, rfl, rfl, ?_, hc1, hcm, rfl, HBl⟩
        show Own _ _ _ _ _
        rw [List.append_nil]; exact HO.out
      case round =>
        obtain ⟨j, m, A', c', X, hj, hmj, rfl, rfl, HO', hmc, hcm', HX, HBl'⟩ := hrel
        rcases Nat.eq_zero_or_pos j with rfl | hposj
        · go_wp2
          go_ret
          obtain rfl : m = z + 9 := by omega
          have hX : X = beB (8 * n) 8 := by
            have h := HX.out
            simpa [beB] using h
          subst hX
          rw [HV.out]
          exact ⟨A', c', rfl, HO'.out, hmc, hcm', HBl'.out⟩
        · obtain ⟨t, rfl⟩ : ∃ t, j = t + 1 := ⟨j - 1, by omega⟩
          rw [show (((t + 1 : Nat) : Int) - 1) = (t : Int) by omega]
          have ht8 : t < 8 := by omega
          have htI : (8 : Int) * (t : Int) < 64 := by omega
          go_wp2_with (at_builtin; (refine wpList_append_bytes rfl _ _ rfl w.heap.size (.slice A' m c') m (128 :: List.replicate z 0 ++ X) rfl (HO'.out.alloc _) _ _ 1 1 [UInt8.ofNat (8 * n / 256 ^ t)] rfl (sl_one _ _ _ ?hV) (by omega) ?hB w ?hb ?_); (case hV => exact HB.out t ht8); (case hB => have := HBl'.out.size; simp; omega); (case hb => exact HBl'.out.alloc HBl'.out.size _); intro A1 c1 w1 ho1 hle1 hc1' hg1 hb1')
          go_roundw
          case rel =>
            have q1 : Hid (Own w1 w.heap.size (.slice A1 (m + 1) c1) (m + 1) (128 :: List.replicate z 0 ++ (X ++ [UInt8.ofNat (8 * n / 256 ^ t)]))) := by
              show Own _ _ _ _ _
              rw [← List.append_assoc]; exact ho1
            have q2 : Hid ((X ++ [UInt8.ofNat (8 * n / 256 ^ t)]) ++ beB (8 * n) t = beB (8 * n) 8) := by
              show _ = _
              rw [← HX.out]; simp [beB]
            first
              | exact ⟨t, m + 1, A1, c1, _, by omega, by omega, by go_num, rfl, q1, hle1, hc1', q2, hb1'⟩
              | ((repeat apply Exists.intro); exact ⟨⟨t, m + 1, A1, c1, _, by omega, by omega, by go_num, rfl, q1, hle1, hc1', q2, hb1'⟩, rfl⟩)
          case measure => simp [intOf]

end Go.Proofs.YtnjdloocalfkmaaDoor
