/-
  A world of which only so much is wanted.
-/
import Derived.Test.YtjbhhmjkdhkhaaaBytes
namespace Go.Proofs.Ytjbhhmjkdhkhaaa
open Go.RowKit
set_option linter.unusedVariables false

/-- a world of which only so much is wanted -/
theorem wp_forget {P : Program} {C : Code} {Q : Exit → Act → World → Prop} {a : Act} {w : World} (F : World → Prop) (hF : F w) (h : ∀ w1, F w1 → C.wp P Q a w1) : C.wp P Q a w := h w hF
end Go.Proofs.Ytjbhhmjkdhkhaaa
