/-
  Contracts of Double (the program's and the document's) and of the product.
-/
import Derived.Test.YtkeleehkjllgeaaOnlyW
import Derived.Test.YtkeleehkjllgeaaAesQ
namespace Go.Proofs.Ytkeleehkjllgeaa
open Go.RowKit
set_option linter.unusedVariables false

theorem bn_ofNat (b : UInt8) : (⟨b.toNat, b.toNat_lt⟩ : Fin 256).val = b.toNat := rfl
/-- what holds of 256 numbers, as integers, holds of every byte's number -/
theorem bn_all {p : Int → UInt8 → Prop} [∀ z b, Decidable (p z b)] (h : (List.range 256).all (fun n => decide (p (n : Int) (UInt8.ofNat n))) = true) (b : UInt8) : p (bn b) b := by
  have h1 := List.all_eq_true.1 h b.toNat (List.mem_range.2 b.toNat_lt)
  simpa [bn] using h1

theorem dbl_bits (b : UInt8) : bits .xor .u8 (bn b * 2 % 256) (bn b / 128 * 27) = bn (dblV b) :=
  bn_all (p := fun z b => bits .xor .u8 (z * 2 % 256) (z / 128 * 27) = bn (dblV b)) (by kernel_rfl) b

theorem dbl_any (b : UInt8) (w : World) : Calls Try.prog 49 #[.int .u8 (bn b)] w fun e w' => e = .returned (.int .u8 (bn (dblV b))) ∧ w = w' := by
  have hb := bn_bd b
  have hr := dbl_bits b
  go_enter Try.func49, Try.ntmps49
  go_wp2
  go_ret
  exact ⟨rfl, rfl⟩
theorem rdbl_bits (b : UInt8) : (if 128 ≤ bn b then bits .xor .u8 (bn b * 2 % 256) 27 else bn b * 2 % 256) = bn (dblV b) :=
  bn_all (p := fun z b => (if 128 ≤ z then bits .xor .u8 (z * 2 % 256) 27 else z * 2 % 256) = bn (dblV b)) (by kernel_rfl) b
theorem rdbl_any (b : UInt8) (w : World) : Calls Try.prog 46 #[.int .u8 (bn b)] w fun e w' => e = .returned (.int .u8 (bn (dblV b))) ∧ w = w' := by
  have hb := bn_bd b
  have hr := rdbl_bits b
  by_cases h : 128 ≤ bn b
  · rw [if_pos h] at hr
    have ht : decide (128 ≤ bn b) = true := by simp [h]
    go_enter Try.func46, Try.ntmps46
    go_wp2
    go_ret
    exact ⟨rfl, rfl⟩
  · rw [if_neg h] at hr
    have ht : decide (128 ≤ bn b) = false := by simp [h]
    go_enter Try.func46, Try.ntmps46
    go_wp2
    go_ret
    have e : bn b * 2 = bn (dblV b) := by omega
    exact ⟨by rw [← e]; rfl, rfl⟩
def boxRow (k : Nat) : List UInt8 := (boxT.drop (k * 16)).take 16
theorem box_at (b : UInt8) : (boxRow (b.toNat / 16)).getD (b.toNat % 16) 0 = boxV b := by
  unfold boxRow boxV
  have h1 : b.toNat / 16 * 16 + b.toNat % 16 = b.toNat := by omega
  have h2 : b.toNat % 16 < 16 := by omega
  simp [List.getD_eq_getElem?_getD, h2, h1]
theorem box_low (b : UInt8) : bits .and .u8 (bn b) 15 = ((b.toNat % 16 : Nat) : Int) :=
  bn_all (p := fun z b => bits .and .u8 z 15 = ((b.toNat % 16 : Nat) : Int)) (by kernel_rfl) b
theorem sizeRow : (Try.prog.info? 22).map (·.size) = some 16 := by kernel_rfl
set_option maxHeartbeats 1000000 in
theorem box_any (b : UInt8) (w : World) : Calls Try.prog 50 #[.int .u8 (bn b)] w fun e w' => e = .returned (.int .u8 (bn (boxV b))) ∧ w = w' := by
  have hb := bn_bd b
  have hx := box_at b
  have hl := box_low b
  have hh : bn b / 16 = ((b.toNat / 16 : Nat) : Int) := by unfold bn; omega
  obtain ⟨hi, ehi⟩ : ∃ k, b.toNat / 16 = k := ⟨_, rfl⟩
  obtain ⟨lo, elo⟩ : ∃ k, b.toNat % 16 = k := ⟨_, rfl⟩
  have lhi : hi < 16 := by have := b.toNat_lt; omega
  have llo : lo < 16 := by omega
  rw [ehi, elo] at hx
  rw [elo] at hl
  rw [ehi] at hh
  have hrl : (boxRow hi).length = 16 := by simp [boxRow, boxT_length]; omega
  have i1 : ∀ u : World, (Instr.index 76 (.agg (bvs boxT).toArray) (.int .u8 (hi : Int))).run Try.prog u = .ok (.agg (bvs (boxRow hi)).toArray) u := fun u =>
    run_index_row u 76 22 5 16 16 Try.underlying76 sizeRow Try.underlying22 boxT .u8 _ hi rfl lhi
  have i2 : ∀ u : World, (Instr.index 22 (.agg (bvs (boxRow hi)).toArray) (.int .u8 (lo : Int))).run Try.prog u = .ok (.int .u8 (bn (boxV b))) u := fun u => by
    rw [← hx]
    exact run_index_byte u 22 5 16 Try.underlying22 size1 Try.underlying5 (boxRow hi) .u8 _ lo rfl llo (by omega)
  clear hx ehi elo hrl
  go_enter Try.func50, Try.ntmps50
  go_wp2_with (first
    | ((with_reducible refine wpList_build_to 3 rfl rfl 22 _ rfl (bvs (boxRow 0)).toArray ?hf ?_); (case hf => kernel_rfl))
    | ((with_reducible refine wpList_build_to 4 rfl rfl 22 _ rfl (bvs (boxRow 1)).toArray ?hf ?_); (case hf => kernel_rfl))
    | ((with_reducible refine wpList_build_to 5 rfl rfl 22 _ rfl (bvs (boxRow 2)).toArray ?hf ?_); (case hf => kernel_rfl))
    | ((with_reducible refine wpList_build_to 6 rfl rfl 22 _ rfl (bvs (boxRow 3)).toArray ?hf ?_); (case hf => kernel_rfl))
    | ((with_reducible refine wpList_build_to 7 rfl rfl 22 _ rfl (bvs (boxRow 4)).toArray ?hf ?_); (case hf => kernel_rfl))
    | ((with_reducible refine wpList_build_to 8 rfl rfl 22 _ rfl (bvs (boxRow 5)).toArray ?hf ?_); (case hf => kernel_rfl))
    | ((with_reducible refine wpList_build_to 9 rfl rfl 22 _ rfl (bvs (boxRow 6)).toArray ?hf ?_); (case hf => kernel_rfl))
    | ((with_reducible refine wpList_build_to 10 rfl rfl 22 _ rfl (bvs (boxRow 7)).toArray ?hf ?_); (case hf => kernel_rfl))
    | ((with_reducible refine wpList_build_to 11 rfl rfl 22 _ rfl (bvs (boxRow 8)).toArray ?hf ?_); (case hf => kernel_rfl))
    | ((with_reducible refine wpList_build_to 12 rfl rfl 22 _ rfl (bvs (boxRow 9)).toArray ?hf ?_); (case hf => kernel_rfl))
    | ((with_reducible refine wpList_build_to 13 rfl rfl 22 _ rfl (bvs (boxRow 10)).toArray ?hf ?_); (case hf => kernel_rfl))
    | ((with_reducible refine wpList_build_to 14 rfl rfl 22 _ rfl (bvs (boxRow 11)).toArray ?hf ?_); (case hf => kernel_rfl))
    | ((with_reducible refine wpList_build_to 15 rfl rfl 22 _ rfl (bvs (boxRow 12)).toArray ?hf ?_); (case hf => kernel_rfl))
    | ((with_reducible refine wpList_build_to 16 rfl rfl 22 _ rfl (bvs (boxRow 13)).toArray ?hf ?_); (case hf => kernel_rfl))
    | ((with_reducible refine wpList_build_to 17 rfl rfl 22 _ rfl (bvs (boxRow 14)).toArray ?hf ?_); (case hf => kernel_rfl))
    | ((with_reducible refine wpList_build_to 18 rfl rfl 22 _ rfl (bvs (boxRow 15)).toArray ?hf ?_); (case hf => kernel_rfl))
    | ((with_reducible refine wpList_build_as rfl 76 _ rfl (bvs boxT).toArray ?hf ?_); (case hf => kernel_rfl)))
  go_ret
  exact ⟨rfl, rfl⟩
end Go.Proofs.Ytkeleehkjllgeaa
