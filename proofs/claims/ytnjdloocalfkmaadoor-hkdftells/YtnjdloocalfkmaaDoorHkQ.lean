/-
  A keyed digest, by the kernel.
-/
import Derived.Test.YtnjdloocalfkmaaDoorHkP
namespace Go.Proofs.YtnjdloocalfkmaaDoor
def foxV : List UInt8 := [84, 104, 101, 32, 113, 117, 105, 99, 107, 32, 98, 114, 111, 119, 110, 32, 102, 111, 120, 32, 106, 117, 109, 112, 115, 32, 111, 118, 101, 114, 32, 116, 104, 101, 32, 108, 97, 122, 121, 32, 100, 111, 103]
def key3V : List UInt8 := [107, 101, 121]
theorem mac_fox : ((macV key3V foxV).getD 0 0, (macV key3V foxV).getD 1 0, (macV key3V foxV).getD 31 0) = (247, 188, 216) := by kernel_rfl
end Go.Proofs.YtnjdloocalfkmaaDoor
