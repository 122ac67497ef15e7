/-
  What the row's condition on the package's tables gives the walks, and that the program's own start meets it.
-/
import Derived.Test.YtnjdloocalfkmaaDoorShaH
import Derived.Test.YtnjdloocalfkmaaDoorTie
import Derived.LaidMore
import Derived.Lib.LaidTab
import Derived.ProofKit
import Derived.Stop.Joined
namespace Go.Proofs.YtnjdloocalfkmaaDoor
open Go.ChangeShapes Go.WideShapes Go.ChangeAt Go.WideMaps Go.WideElems Go.RowKit
set_option linter.unusedVariables false

theorem own : ownKnob Tryd.prog.godebug = none := by kernel_rfl
def laid2 : List (String × DataW Unit) := [("mantilla/sha.start", Rows.laid_mantilla_sha_start), ("mantilla/sha.rounds", Rows.laid_mantilla_sha_rounds)]
theorem gStart : Tryd.prog.globalNamed "mantilla/sha.start" = some 0 := by kernel_rfl
theorem gRounds : Tryd.prog.globalNamed "mantilla/sha.rounds" = some 1 := by kernel_rfl
theorem tStart : (Tryd.prog.globals[0]?).map (·.type) = some 45 := by kernel_rfl
theorem tRounds : (Tryd.prog.globals[1]?).map (·.type) = some 50 := by kernel_rfl
theorem door_met (os : Os) (args : Array Value) : laidMetH Tryd.prog laid2 ((World.doorLaid Tryd.prog 400 os).forCall (fun _ _ => 0) ⟨#[], args, []⟩).memory :=
  laidMetH_of_parts3 (fuel := 8) (laidMet_of_run' 8 (by kernel_rfl) (by kernel_rfl)) (by kernel_rfl) (by kernel_rfl)

theorem start_data {H : Type} : (Rows.laid_mantilla_sha_start : DataW H) = Lib.tabData .u32 (startV.map wn) := rfl
theorem rounds_data {H : Type} : (Rows.laid_mantilla_sha_rounds : DataW H) = Lib.tabData .u32 (kV.map wn) := rfl
theorem map_wv (l : List UInt32) : ((l.map wn).map fun z => Value.int .u32 z) = wvs l := by simp [wvs, wv, Function.comp_def]

theorem block_of_var {W : World} {name : String} {g : Nat} {cs : Array Value} (hg : Tryd.prog.globalNamed name = some g) (h : W.var? Tryd.prog name = some cs) : ∃ t fr, W.heap[g]? = some (.cells cs t fr) := by
  simp only [World.var?, hg, Option.bind_some] at h
  split at h
  · rename_i c t fr he
    injection h with h
    subst h
    exact ⟨t, fr, he⟩
  · cases h

theorem glob_of_laid {W : World} (h : laidMetH Tryd.prog laid2 W) : Glob W := by
  rw [MakeChecks.laidMetH_plain _ _ _ (by kernel_rfl)] at h
  obtain ⟨ps, ⟨g0, t0, cs0, f0, p0, q0, hg0, ht0, hv0, hd0, ⟨g1, t1, cs1, f1, p1, q1, hg1, ht1, hv1, hd1, _, _⟩, _⟩, _, _⟩ := h
  obtain rfl := Option.some.inj (gStart.symm.trans hg0)
  obtain rfl := Option.some.inj (gRounds.symm.trans hg1)
  obtain rfl := Option.some.inj (tStart.symm.trans ht0)
  obtain rfl := Option.some.inj (tRounds.symm.trans ht1)
  rw [start_data] at hd0
  rw [rounds_data] at hd1
  have e0 := Lib.cells_of_tab Tryd.underlying45 Tryd.underlying44 (by kernel_rfl) (by kernel_rfl) hd0
  have e1 := Lib.cells_of_tab Tryd.underlying50 Tryd.underlying44 (by kernel_rfl) (by kernel_rfl) hd1
  rw [map_wv] at e0 e1
  obtain ⟨a0, b0, h0⟩ := block_of_var gStart hv0
  obtain ⟨a1, b1, h1⟩ := block_of_var gRounds hv1
  refine ⟨⟨a0, b0, ?_⟩, ⟨a1, b1, ?_⟩⟩
  · rw [h0, ← e0]
  · rw [h1, ← e1]
end Go.Proofs.YtnjdloocalfkmaaDoor
