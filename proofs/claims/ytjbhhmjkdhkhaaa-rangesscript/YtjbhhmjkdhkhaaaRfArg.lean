/-
  Slices of numbers and of Booleans that came in.
-/
import Derived.Test.YtjbhhmjkdhkhaaaWRangesScript
import Derived.Deep.Grids
namespace Go.Proofs.Ytjbhhmjkdhkhaaa
open Go.RowKit Go.Lib Go.Deep
set_option linter.unusedVariables false

theorem spot_none {w : World} {x : Addr} {v : Value} (h : w.cell? (x.add 0) = some v) : x = ⟨x.block, x.off, none⟩ ∧ x.block < w.heap.size := by
  obtain ⟨b, off, spot⟩ := x
  have hspot : spot = none := by simpa [Addr.add] using World.cell?_spot h
  subst hspot
  exact ⟨rfl, World.block_lt_of_cell? w _ (by simpa [Addr.add] using h)⟩
theorem inU_of {w : World} {x : Addr} {n : Nat} {zs : List Int} (hn : n ≤ zs.length) (hc : ∀ i, i < zs.length → w.cell? (x.add i) = some (.int .u64 (zs.getD i 0))) (hw : ∀ z ∈ zs, (Lit.int .u64 z).wf = true) : InU w (some x) n (zs.map Int.toNat) := by
  have hb : ∀ i, i < zs.length → 0 ≤ zs.getD i 0 ∧ zs.getD i 0 < 18446744073709551616 := fun i hi => by
    rw [List.getD_eq_getElem?_getD, List.getElem?_eq_getElem hi]
    obtain ⟨m, e, h1⟩ := nat_of_u64 (hw _ (List.getElem_mem hi))
    simp only [Option.getD_some]
    omega
  have hg : ∀ i, i < zs.length → (((zs.map Int.toNat).getD i 0 : Nat) : Int) = zs.getD i 0 := fun i hi => by
    have := hb i hi
    rw [List.getD_eq_getElem?_getD, List.getElem?_map]
    rw [List.getD_eq_getElem?_getD] at this ⊢
    rw [List.getElem?_eq_getElem hi] at this ⊢
    simp only [Option.map_some, Option.getD_some] at this ⊢
    omega
  refine ⟨fun i => ?_, fun h0 => ?_⟩
  · rcases Nat.lt_or_ge i zs.length with hi | hi
    · have h1 := hg i hi
      have h2 := hb i hi
      omega
    · rw [List.getD_eq_getElem?_getD, List.getElem?_eq_none (by simpa using hi)]
      simp
  · obtain ⟨e, hlt⟩ := spot_none (hc 0 (by omega))
    refine ⟨x.block, x.off, by rw [← e], hlt, fun i hi => ?_⟩
    have h1 := hc i (by omega)
    rw [e, addr_at] at h1
    rw [hg i (by omega)]
    exact h1
theorem inU_nil (w : World) : InU w none 0 [] := ⟨fun i => by simp, fun h => absurd h (by omega)⟩
theorem inB_of {w : World} {x : Addr} {n c : Nat} {f : Nat → Bool} (hn : n ≤ c) (hc : ∀ i, i < c → w.cell? (x.add i) = some (.bool (f i))) : InB w (some x) n f := fun h0 => by
  obtain ⟨e, hlt⟩ := spot_none (hc 0 (by omega))
  refine ⟨x.block, x.off, by rw [← e], hlt, fun i hi => ?_⟩
  have h1 := hc i (by omega)
  rwa [e, addr_at] at h1
theorem inB_nil (w : World) : InB w none 0 (fun _ => false) := fun h => absurd h (by omega)
theorem script_all (m : Int) (a1 a2 : Option Addr) (n1 c1 n2 c2 : Nat) (zs : List Nat) (f : Nat → Bool) (w : World) (h1 : InU w a1 n1 zs) (h2 : InB w a2 n2 f) :
    Calls Try.prog 3 #[.int .i64 m, .slice a1 n1 c1, .slice a2 n2 c2] w fun e w' => e = .returned (.bool true) ∧ Below w.heap.size w w' := by
  by_cases hl : 60 < n1 ∨ 60 < n2
  · exact script_long m a1 a2 n1 c1 n2 c2 w hl
  · by_cases hm : m < 1 ∨ 64 < m
    · exact script_out m a1 a2 n1 c1 n2 c2 w (by omega) (by omega) hm
    · obtain ⟨k, rfl⟩ : ∃ k : Nat, m = (k : Int) := ⟨m.toNat, by omega⟩
      exact script_any k a1 a2 n1 c1 n2 c2 zs f w (by omega) (by omega) (by omega) (by omega) h1 h2
end Go.Proofs.Ytjbhhmjkdhkhaaa
