/-
  The contract of the laws' OverBytes: it turns a slice of the caller's own, and nothing else.
-/
import Derived.Test.YtocolaccgoochaaDoorRoom
namespace Go.Proofs.YtocolaccgoochaaDoor
open Go.RowKit
set_option linter.unusedVariables false

theorem over_nil (w : World) : Calls Tryd.prog 16 #[.slice none 0 0] w fun e w' => e = .returned (.tuple #[]) ∧ Below w.heap.size w w' := by
  go_enter Tryd.func16, Tryd.ntmps16
  go_wp2_with fail
  go_loopw [2] (fun i wr => i = .int .i64 0 ∧ w = wr) (fun _ _ => 0)
  case atStart => exact ⟨rfl, rfl⟩
  case round =>
    obtain ⟨rfl, rfl⟩ := hrel
    go_wp2_with (at_builtin; refine wpList_append_bytes rfl _ _ rfl w.heap.size (.slice none 0 0) 0 [] rfl ((Own.nil _ _).alloc _) _ _ 1 1 [238] rfl (sl_one _ _ _ rfl) (by omega) (by simp) w ((Below.refl _ _).alloc (Nat.le_refl _) _) ?_; intro A1 c1 w1 ho hle hc hg hb)
    refine bodyPost_end (results_none rfl _ _ _) rfl ?_
    exact ⟨rfl, hb⟩
set_option maxHeartbeats 1000000 in
theorem over_blk (l : List UInt8) (g n c B : Nat) (w : World) (h : Own w B (.slice (some ⟨g, 0, none⟩) n c) n l) (hB : B ≤ w.heap.size) (hn : n ≤ 1000000) :
    Calls Tryd.prog 16 #[.slice (some ⟨g, 0, none⟩) n c] w fun e w' => e = .returned (.tuple #[]) ∧ Only g w w' := by
  have H := Lib.hid h
  have HB := Lib.hid hB
  clear h hB
  go_enter Tryd.func16, Tryd.ntmps16
  go_wp2_with fail
  go_loopw [2] (fun i wr => ∃ (j : Nat) (l : List UInt8), j ≤ n ∧ i = .int .i64 j ∧ Hid (Own wr B (.slice (some ⟨g, 0, none⟩) n c) n l) ∧ Hid (Only g w wr)) (fun i _ => n - (intOf i).toNat)
  case atStart => exact ⟨0, l, by omega, rfl, H, Only.refl _ _⟩
  case round =>
    clear H
    obtain ⟨j, l, hj, rfl, HO, HN⟩ := hrel
    by_cases hlt : j < n
    · obtain ⟨V, cd⟩ : ∃ V, wr.cell? ⟨g, j, none⟩ = some V := ⟨_, HO.out.cell j (by have := HO.out.len; omega)⟩
      have cf := HO.out.frozen j
      have lj : (j : Int) < (n : Int) := by omega
      go_wp2_with fail
      go_roundw
      case rel => exact ⟨j + 1, l.set j 238, by omega, by go_num, HO.out.store j 238 _ rfl, HN.out.setCell j _⟩
      case measure => simp [intOf]; omega
    · have hB : B ≤ wr.heap.size := Nat.le_trans HB.out HN.out.size
      go_wp2_with (at_builtin; refine wpList_append_bytes rfl _ _ rfl B (.slice (some ⟨g, 0, none⟩) n c) n l rfl (HO.out.alloc _) _ _ 1 1 [238] rfl (sl_one _ _ _ rfl) (by omega) (by simp; omega) _ (Below.refl _ _) ?_; intro A1 c1 w1 ho hle hc hg hb)
      refine bodyPost_end (results_none rfl _ _ _) rfl ?_
      refine ⟨rfl, HN.out.trans ((Only.of_below ((Below.refl _ _).alloc (Nat.le_refl _) (.cells #[.int .u8 238] 5))).trans (Only.of_grown hg))⟩
end Go.Proofs.YtocolaccgoochaaDoor
