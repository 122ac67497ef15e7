/-
  The digest of 'abc', by the kernel.
-/
import Derived.Test.YtahcnjhfkndleaaDoorShaP
namespace Go.Proofs.YtahcnjhfkndleaaDoor
theorem sum_abc : ((sumV [97, 98, 99]).getD 0 0, (sumV [97, 98, 99]).getD 1 0, (sumV [97, 98, 99]).getD 31 0) = (186, 120, 173) := by kernel_rfl
end Go.Proofs.YtahcnjhfkndleaaDoor
