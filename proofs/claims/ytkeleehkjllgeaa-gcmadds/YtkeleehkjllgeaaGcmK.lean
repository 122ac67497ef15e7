/-
  The two seals that the laws of stage 5 know, by the kernel.
-/
import Derived.Test.YtkeleehkjllgeaaGcmQ
namespace Go.Proofs.Ytkeleehkjllgeaa
set_option linter.unusedVariables false

def n12 : List UInt8 := List.replicate 12 0
def keyA : List UInt8 := [1, 0, 0, 0, 0, 0, 0, 0, 0, 0, 0, 0, 0, 0, 0, 0]
def nonA : List UInt8 := [2, 0, 0, 0, 0, 0, 0, 0, 0, 0, 0, 0]
def textA : List UInt8 := [97, 98, 99]
def cutA : List UInt8 := [65, 71, 190]
def tagA : List UInt8 := [106, 78, 120, 211, 132, 42, 53, 165, 162, 222, 233, 20, 60, 236, 103, 211]
theorem hA : blockV keyA zG = [220, 14, 216, 93, 249, 97, 26, 187, 114, 73, 205, 209, 104, 197, 70, 126] := by kernel_rfl
theorem sA : blockV keyA (cntV nonA 2) = [32, 37, 221, 57, 19, 184, 201, 134, 112, 106, 13, 71, 229, 198, 101, 164] := by kernel_rfl
theorem eA : blockV keyA (cntV nonA 1) = [47, 232, 237, 168, 175, 245, 252, 204, 96, 236, 41, 56, 240, 143, 69, 77] := by kernel_rfl
theorem h0A : blockV zG zG = [102, 233, 75, 212, 239, 138, 44, 59, 136, 76, 250, 89, 202, 52, 43, 46] := by kernel_rfl
theorem f0A : blockV zG (cntV n12 1) = [88, 226, 252, 206, 250, 126, 48, 97, 54, 127, 29, 87, 164, 231, 69, 90] := by kernel_rfl
theorem y1A : tUp [65, 71, 190, 0, 0, 0, 0, 0, 0, 0, 0, 0, 0, 0, 0, 0] 128 0 zG [220, 14, 216, 93, 249, 97, 26, 187, 114, 73, 205, 209, 104, 197, 70, 126] = [171, 143, 31, 46, 111, 250, 92, 6, 250, 111, 175, 130, 78, 240, 184, 32] := by kernel_rfl
theorem y2A : tUp [171, 143, 31, 46, 111, 250, 92, 6, 250, 111, 175, 130, 78, 240, 184, 56] 128 0 zG [220, 14, 216, 93, 249, 97, 26, 187, 114, 73, 205, 209, 104, 197, 70, 126] = [69, 166, 149, 123, 43, 223, 201, 105, 194, 50, 192, 44, 204, 99, 34, 158] := by kernel_rfl
theorem w1A : tUp [65, 71, 190, 0, 0, 0, 0, 0, 0, 0, 0, 0, 0, 0, 0, 0] 128 0 zG [102, 233, 75, 212, 239, 138, 44, 59, 136, 76, 250, 89, 202, 52, 43, 46] = [141, 88, 181, 121, 153, 167, 41, 157, 30, 23, 32, 217, 117, 107, 62, 232] := by kernel_rfl
theorem w2A : tUp [141, 88, 181, 121, 153, 167, 41, 157, 30, 23, 32, 217, 117, 107, 62, 240] 128 0 zG [102, 233, 75, 212, 239, 138, 44, 59, 136, 76, 250, 89, 202, 52, 43, 46] = [57, 132, 141, 51, 92, 206, 63, 93, 185, 30, 7, 28, 81, 98, 22, 243] := by kernel_rfl
theorem z0A : tUp zG 128 0 zG [102, 233, 75, 212, 239, 138, 44, 59, 136, 76, 250, 89, 202, 52, 43, 46] = zG := by kernel_rfl
/-- a text of three bytes: its hash with its length -/
theorem hash3 (h : List UInt8) (y1 y2 : List UInt8) (e1 : tUp [65, 71, 190, 0, 0, 0, 0, 0, 0, 0, 0, 0, 0, 0, 0, 0] 128 0 zG h = y1) (e2 : tUp (crossV y1 [0, 0, 0, 0, 0, 0, 0, 0, 0, 0, 0, 0, 0, 0, 0, 24]) 128 0 zG h = y2) : hashG h [[], cutA, lensG 0 3] = y2 := by
  show partG h (partG h zG cutA) (lensG 0 3) = y2
  have p1 : partG h zG cutA = y1 := by
    show timesG (crossV zG (blkG cutA 0)) h = y1
    rw [timesG_up, show crossV zG (blkG cutA 0) = [65, 71, 190, 0, 0, 0, 0, 0, 0, 0, 0, 0, 0, 0, 0, 0] from by kernel_rfl, e1]
  rw [p1]
  show timesG (crossV y1 (blkG (lensG 0 3) 0)) h = y2
  rw [timesG_up, show blkG (lensG 0 3) 0 = [0, 0, 0, 0, 0, 0, 0, 0, 0, 0, 0, 0, 0, 0, 0, 24] from by kernel_rfl, e2]
theorem turnA : turnG keyA nonA textA = cutA := by
  show [(97 : UInt8) ^^^ ksG keyA nonA 0, 98 ^^^ ksG keyA nonA 1, 99 ^^^ ksG keyA nonA 2] = cutA
  have k0 : ∀ i, i < 16 → ksG keyA nonA i = (blockV keyA (cntV nonA 2)).getD i 0 := fun i hi => by
    unfold ksG
    rw [Nat.mod_eq_of_lt hi, Nat.div_eq_of_lt hi]
  rw [k0 0 (by omega), k0 1 (by omega), k0 2 (by omega), sA]
  rfl
theorem tagA_own : tagG keyA nonA cutA [] = tagA := by
  show crossV (hashG (blockV keyA zG) [[], cutA, lensG 0 3]) (blockV keyA (cntV nonA 1)) = tagA
  rw [hash3 _ [171, 143, 31, 46, 111, 250, 92, 6, 250, 111, 175, 130, 78, 240, 184, 32] [69, 166, 149, 123, 43, 223, 201, 105, 194, 50, 192, 44, 204, 99, 34, 158] (by rw [hA]; exact y1A) (by rw [hA]; exact y2A), eA]
  rfl
theorem tagA_zero : tagG zG n12 cutA [] ≠ tagA := by
  show crossV (hashG (blockV zG zG) [[], cutA, lensG 0 3]) (blockV zG (cntV n12 1)) ≠ tagA
  rw [hash3 _ [141, 88, 181, 121, 153, 167, 41, 157, 30, 23, 32, 217, 117, 107, 62, 232] [57, 132, 141, 51, 92, 206, 63, 93, 185, 30, 7, 28, 81, 98, 22, 243] (by rw [h0A]; exact w1A) (by rw [h0A]; exact w2A), f0A]
  decide
theorem sealA : sealG keyA nonA textA [] = cutA ++ tagA := by
  unfold sealG
  rw [turnA, tagA_own]
/-- sealed by another key it does not open -/
theorem openA : openG zG n12 (cutA ++ tagA) [] 3 7 = ([], 7) := by
  unfold openG
  rw [if_neg (by decide)]
  have h1 : (cutA ++ tagA).take ((cutA ++ tagA).length - 16) = cutA := rfl
  have h2 : (cutA ++ tagA).drop ((cutA ++ tagA).length - 16) = tagA := rfl
  rw [h1, h2, if_neg tagA_zero]
theorem hash0 (h : List UInt8) (e : tUp zG 128 0 zG h = zG) : hashG h [[], [], lensG 0 0] = zG := by
  show partG h zG (lensG 0 0) = zG
  show timesG (crossV zG (blkG (lensG 0 0) 0)) h = zG
  rw [timesG_up, show crossV zG (blkG (lensG 0 0) 0) = zG from by kernel_rfl, e]
/-- nothing, sealed by zeros -/
theorem sealZ : sealG zG n12 [] [] = [88, 226, 252, 206, 250, 126, 48, 97, 54, 127, 29, 87, 164, 231, 69, 90] := by
  show crossV (hashG (blockV zG zG) [[], [], lensG 0 0]) (blockV zG (cntV n12 1)) = _
  have h : hashG (blockV zG zG) [[], [], lensG 0 0] = zG := hash0 _ (by rw [h0A]; exact z0A)
  rw [h, f0A]
  rfl
end Go.Proofs.Ytkeleehkjllgeaa
