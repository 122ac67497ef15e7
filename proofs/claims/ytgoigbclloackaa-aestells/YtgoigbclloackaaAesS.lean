/-
  The document's own box.
-/
import Derived.Test.YtgoigbclloackaaAesR
namespace Go.Proofs.Ytgoigbclloackaa
open Go.RowKit
set_option linter.unusedVariables false

theorem inv_zero : invU 0 255 = 0 := by
  apply UInt8.toNat_inj.1
  rw [invU_nat 0 255 (Nat.le_refl _)]
  kernel_rfl
theorem byte_conv (k : Nat) (h : k < 256) : IntKind.u8.wrap (k : Int) = bn (UInt8.ofNat k) := by
  unfold bn
  simp [IntKind.wrap, IntKind.bits, IntKind.signed]
/-- the two parts of a byte that is turned -/
def loU (v : UInt8) (i : Nat) : UInt8 := UInt8.ofNat (v.toNat * 2 ^ i % 256)
def hiU (v : UInt8) (i : Nat) : UInt8 := UInt8.ofNat (v.toNat / 2 ^ (8 - i))
theorem lo_0 (v : UInt8) : IntKind.u8.wrap (bn v) = bn (loU v 0) := bn_all (p := fun z b => IntKind.u8.wrap (z) = bn (loU b 0)) (by kernel_rfl) v
theorem hi_0 (v : UInt8) : bn v / (256 : Int) = bn (hiU v 0) := bn_all (p := fun z b => z / (256 : Int) = bn (hiU b 0)) (by kernel_rfl) v
theorem lo_1 (v : UInt8) : IntKind.u8.wrap (bn v * 2) = bn (loU v 1) := bn_all (p := fun z b => IntKind.u8.wrap (z * 2) = bn (loU b 1)) (by kernel_rfl) v
theorem hi_1 (v : UInt8) : bn v / (128 : Int) = bn (hiU v 1) := bn_all (p := fun z b => z / (128 : Int) = bn (hiU b 1)) (by kernel_rfl) v
theorem lo_2 (v : UInt8) : IntKind.u8.wrap (bn v * 4) = bn (loU v 2) := bn_all (p := fun z b => IntKind.u8.wrap (z * 4) = bn (loU b 2)) (by kernel_rfl) v
theorem hi_2 (v : UInt8) : bn v / (64 : Int) = bn (hiU v 2) := bn_all (p := fun z b => z / (64 : Int) = bn (hiU b 2)) (by kernel_rfl) v
theorem lo_3 (v : UInt8) : IntKind.u8.wrap (bn v * 8) = bn (loU v 3) := bn_all (p := fun z b => IntKind.u8.wrap (z * 8) = bn (loU b 3)) (by kernel_rfl) v
theorem hi_3 (v : UInt8) : bn v / (32 : Int) = bn (hiU v 3) := bn_all (p := fun z b => z / (32 : Int) = bn (hiU b 3)) (by kernel_rfl) v
theorem lo_4 (v : UInt8) : IntKind.u8.wrap (bn v * 16) = bn (loU v 4) := bn_all (p := fun z b => IntKind.u8.wrap (z * 16) = bn (loU b 4)) (by kernel_rfl) v
theorem hi_4 (v : UInt8) : bn v / (16 : Int) = bn (hiU v 4) := bn_all (p := fun z b => z / (16 : Int) = bn (hiU b 4)) (by kernel_rfl) v
theorem turn_all : (List.range 5).all (fun i => (List.range 256).all fun n => decide (loU (UInt8.ofNat n) i ||| hiU (UInt8.ofNat n) i = turnU (UInt8.ofNat n) i)) = true := by kernel_rfl
theorem turn_eq (v : UInt8) (i : Nat) (h : i < 5) : loU v i ||| hiU v i = turnU v i := by
  have h1 := List.all_eq_true.1 turn_all i (List.mem_range.2 h)
  have h2 := List.all_eq_true.1 h1 v.toNat (List.mem_range.2 v.toNat_lt)
  simpa using h2
theorem aff_next (v : UInt8) (i : Nat) (h : i < 5) : affU v (i + 1) = affU v i ^^^ (loU v i ||| hiU v i) := by rw [affU, turn_eq v i h]

attribute [local go_sem] u8_xor' u8_or'
set_option maxHeartbeats 2000000 in
theorem rbox_any (b : UInt8) (w : World) : Calls Try.prog 12 #[.int .u8 (bn b)] w fun e w' => e = .returned (.int .u8 (bn (boxV b))) ∧ Below w.heap.size w w' := by
  have HBF := Lib.hid (box_found b)
  have hbd := bn_bd b
  have HB0 : Hid (b ≠ 0 → (bn b != 0) = true) := fun h0 => by
    have : bn b ≠ 0 := fun e => h0 (UInt8.toNat_inj.1 (by unfold bn at e; simpa using e))
    simp [this]
  go_enter Try.func12, Try.ntmps12
  go_wp2_with fail
  go_loopw [3, 4] (fun vi vk wr => ∃ k : Nat, 1 ≤ k ∧ k ≤ 256 ∧ (b = 0 → k = 1) ∧ vk = .int .i64 k ∧ vi = .int .u8 (bn (invU b (k - 1))) ∧ w = wr) (fun _ vk _ => 256 - (intOf vk).toNat)
  case atStart => exact ⟨1, by omega, by omega, fun _ => rfl, rfl, rfl, rfl⟩
  case round =>
    obtain ⟨k, hk1, hk, hkb0, rfl, rfl, rfl⟩ := hrel
    by_cases hgo : k < 256 ∧ b ≠ 0
    · obtain ⟨hkt, h0⟩ := hgo
      have hb0 := HB0.out h0
      have lk : (k : Int) < 256 := by omega
      have tk : decide ((k : Int) < 256) = true := by simp; omega
      have hcv := byte_conv k hkt
      have hcm : (k : Int) % 256 = bn (UInt8.ofNat k) := by rw [← hcv]; simp [IntKind.wrap, IntKind.bits, IntKind.signed]
      obtain ⟨kb, hkb⟩ : ∃ x, UInt8.ofNat k = x := ⟨_, rfl⟩
      rw [hkb] at hcv hcm
      have HI : Hid (invU b k = if timesV b kb = 1 then kb else invU b (k - 1)) := by
        show _ = _
        obtain ⟨j, rfl⟩ : ∃ j, k = j + 1 := ⟨k - 1, by omega⟩
        rw [invU, hkb]
        rfl
      have H0 := Lib.hid h0
      clear hkb0 h0
      by_cases h1 : timesV b kb = 1
      · have t1 : (bn (timesV b kb) == 1) = true := by rw [h1]; decide
        have HI2 : Hid (invU b (k + 1 - 1) = kb) := show _ = _ by rw [Nat.add_sub_cancel, HI.out, if_pos h1]
        clear hkb h1
        go_wp2_with (go_at_call 26; (with_reducible refine (times_any _ _ _).mono ?_); rintro e1 w1 ⟨rfl, rfl⟩)
        go_roundw
        case rel => exact ⟨k + 1, by omega, by omega, fun e => absurd e H0.out, by go_num, by rw [HI2.out], by trivial⟩
        case measure => simp [intOf]; omega
      · have t1 : (bn (timesV b kb) == 1) = false := by
          have : bn (timesV b kb) ≠ 1 := fun e => h1 (UInt8.toNat_inj.1 (by unfold bn at e; have : ((timesV b kb).toNat : Int) = 1 := e; show _ = 1; omega))
          simp [this]
        have HI2 : Hid (invU b (k + 1 - 1) = invU b (k - 1)) := show _ = _ by rw [Nat.add_sub_cancel, HI.out, if_neg h1]
        clear hkb h1
        go_wp2_with (go_at_call 26; (with_reducible refine (times_any _ _ _).mono ?_); rintro e1 w1 ⟨rfl, rfl⟩)
        go_roundw
        case rel => exact ⟨k + 1, by omega, by omega, fun e => absurd e H0.out, by go_num, by rw [HI2.out], by trivial⟩
        case measure => simp [intOf]; omega
    · obtain ⟨v, hv⟩ : ∃ v, invU b (k - 1) = v := ⟨_, rfl⟩
      have HF : Hid (affU v 5 = boxV b) := by
        show _ = _
        rw [← HBF.out, ← hv]
        congr 1
        by_cases h0 : b = 0
        · rw [hkb0 h0, h0, inv_zero]; rfl
        · obtain rfl : k = 256 := by
            have : ¬ k < 256 := fun h => hgo ⟨h, h0⟩
            omega
          rfl
      rw [hv]
      have hx : decide ((k : Int) < 256) = false ∨ (decide ((k : Int) < 256) = true ∧ (bn b != 0) = false) := by
        by_cases h : k < 256
        · have h0 : b = 0 := Classical.byContradiction fun e => hgo ⟨h, e⟩
          exact .inr ⟨by simp; omega, by rw [h0]; decide⟩
        · exact .inl (by simp; omega)
      have a0 := lo_0 v
      have b0 := hi_0 v
      have a1 := lo_1 v
      have b1 := hi_1 v
      have a2 := lo_2 v
      have b2 := hi_2 v
      have a3 := lo_3 v
      have b3 := hi_3 v
      have a4 := lo_4 v
      have b4 := hi_4 v
      have w4 : IntKind.i64.wrap 4 = 4 := by decide
      have w5 : IntKind.i64.wrap 5 = 5 := by decide
      have w6 : IntKind.i64.wrap 6 = 6 := by decide
      have w7 : IntKind.i64.wrap 7 = 7 := by decide
      have w8 : IntKind.i64.wrap 8 = 8 := by decide
      clear hv hgo hkb0
      rcases hx with tk | ⟨tk, tb⟩
      all_goals
        go_wp2_with fail
        go_loopw [5, 6] (fun vs vi wr => ∃ i n : Nat, i ≤ 5 ∧ vi = .int .i64 i ∧ vs = .int .u8 (bn (affU v i)) ∧ wr = w.drewN n) (fun _ vi _ => 5 - (intOf vi).toNat)
        case atStart => exact ⟨0, 0, by omega, rfl, rfl, rfl⟩
        case round =>
          obtain ⟨i, n, hi, rfl, rfl, rfl⟩ := hrel
          by_cases hit : i < 5
          · have HAN := Lib.hid (aff_next v i hit)
            have hcase : i = 0 ∨ i = 1 ∨ i = 2 ∨ i = 3 ∨ i = 4 := by omega
            rcases hcase with rfl | rfl | rfl | rfl | rfl
            all_goals
              go_wp2_with fail
              refine wp_tail 10 (by kernel_rfl) (by kernel_rfl) ?_
              simp only [List.take_succ_cons, List.take_zero, List.drop_succ_cons, List.drop_zero]
              repeat still_step
              refine wpStill_nil ?_
              go_wp2
              go_roundw
              case rel => exact ⟨_, n + 1, hit, by go_num, by rw [HAN.out], rfl⟩
              case measure => simp [intOf]
          · obtain rfl : i = 5 := by omega
            go_wp2_with fail
            go_ret
            exact ⟨by rw [← HF.out]; rfl, below_drewN (Below.refl _ _) n⟩
end Go.Proofs.Ytgoigbclloackaa
