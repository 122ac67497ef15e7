/-
  Numbers that came in. (As in RfArg, WRangesScript: never both in one seat.)
-/
import Derived.Test.YtcipmfhacloegaaOwnW
import Derived.Test.YtcipmfhacloegaaInts
import Derived.Test.YtcipmfhacloegaaArrOpen
namespace Go.Proofs.Ytcipmfhacloegaa
open Go.RowKit
set_option linter.unusedVariables false

theorem addr_at (g j k : Nat) : (⟨g, j, none⟩ : Addr).add k = ⟨g, j + k, none⟩ := by unfold Addr.add; split <;> simp_all
def InU (w : World) (A : Option Addr) (n : Nat) (zs : List Nat) : Prop := (∀ i, zs.getD i 0 < 18446744073709551616) ∧ (0 < n → ∃ b off, A = some ⟨b, off, none⟩ ∧ b < w.heap.size ∧ ∀ i, i < n → w.cell? ⟨b, off + i, none⟩ = some (.int .u64 ((zs.getD i 0 : Nat) : Int)))
theorem spot_none {w : World} {x : Addr} {v : Value} (h : w.cell? (x.add 0) = some v) : x = ⟨x.block, x.off, none⟩ ∧ x.block < w.heap.size := by
  obtain ⟨b, off, spot⟩ := x
  have hspot : spot = none := by simpa [Addr.add] using World.cell?_spot h
  subst hspot
  exact ⟨rfl, World.block_lt_of_cell? w _ (by simpa [Addr.add] using h)⟩
theorem inU_of {w : World} {x : Addr} {n : Nat} {zs : List Int} (hn : n ≤ zs.length) (hc : ∀ i, i < zs.length → w.cell? (x.add i) = some (.int .u64 (zs.getD i 0))) (hw : ∀ z ∈ zs, (Lit.int .u64 z).wf = true) : InU w (some x) n (zs.map Int.toNat) := by
  have hb : ∀ i, i < zs.length → 0 ≤ zs.getD i 0 ∧ zs.getD i 0 < 18446744073709551616 := fun i hi => by
    rw [List.getD_eq_getElem?_getD, List.getElem?_eq_getElem hi]
    obtain ⟨m, e, h1⟩ := nat_of_u64 (hw _ (List.getElem_mem hi))
    simp only [Option.getD_some]
    omega
  have hg : ∀ i, i < zs.length → (((zs.map Int.toNat).getD i 0 : Nat) : Int) = zs.getD i 0 := fun i hi => by
    have := hb i hi
    rw [List.getD_eq_getElem?_getD, List.getElem?_map]
    rw [List.getD_eq_getElem?_getD] at this ⊢
    rw [List.getElem?_eq_getElem hi] at this ⊢
    simp only [Option.map_some, Option.getD_some] at this ⊢
    omega
  refine ⟨fun i => ?_, fun h0 => ?_⟩
  · rcases Nat.lt_or_ge i zs.length with hi | hi
    · have h1 := hg i hi
      have h2 := hb i hi
      omega
    · rw [List.getD_eq_getElem?_getD, List.getElem?_eq_none (by simpa using hi)]
      simp
  · obtain ⟨e, hlt⟩ := spot_none (hc 0 (by omega))
    refine ⟨x.block, x.off, by rw [← e], hlt, fun i hi => ?_⟩
    have h1 := hc i (by omega)
    rw [e, addr_at] at h1
    rw [hg i (by omega)]
    exact h1
theorem inU_nil (w : World) : InU w none 0 [] := ⟨fun i => by simp, fun h => absurd h (by omega)⟩
end Go.Proofs.Ytcipmfhacloegaa
