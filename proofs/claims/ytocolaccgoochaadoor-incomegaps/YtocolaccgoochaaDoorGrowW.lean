/-
  Grow, of the laws: so many bytes by a number, in memory of their own.
-/
import Derived.Test.YtocolaccgoochaaDoorMakeF
import Derived.Test.YtocolaccgoochaaDoorBlkW
import Derived.LoopTactic
namespace Go.Proofs.YtocolaccgoochaaDoor
open Go.RowKit
set_option linter.unusedVariables false

/-- so many bytes, by a number -/
def growL (n k : Nat) : List UInt8 := (List.range n).map fun i => UInt8.ofNat (i * 7 + k * 31 + i / 13)
theorem growL_length (n k : Nat) : (growL n k).length = n := by simp [growL]
set_option maxHeartbeats 2000000 in
theorem grow_bytes (n k : Nat) (hn : n ≤ 1000) (hk : k ≤ 1000) (w : World) :
    Calls Tryd.prog 27 #[.int .i64 (n : Int), .int .i64 (k : Int)] w (MakesBytes w n (growL n k)) := by
  have hmk : ∀ u : World, (Instr.makeSlice 30 (.int .i64 (n : Int)) (.int .i64 (n : Int))).run Tryd.prog u = .ok (.slice (some ⟨u.heap.size, 0, none⟩) n n) (u.alloc (.cells (bvs (List.replicate n 0)).toArray 5)) := fun u => by
    have h := run_make_full n (by omega) u
    rw [made_zeros] at h
    exact h
  have HB0 : Hid (Blk (w.alloc (.cells (bvs (List.replicate n 0)).toArray 5)) w.heap.size 5 (List.replicate n 0)) := heap_alloc_new w _
  have B0 : Hid (∀ o1, Below w.heap.size w (w.alloc o1)) := fun _ => (Below.refl _ _).alloc (Nat.le_refl _) _
  go_enter Tryd.func27, Tryd.ntmps27
  go_wp2_with fail
  go_loopw [6] (fun i wr => ∃ j : Nat, j ≤ n ∧ i = .int .i64 j ∧ Hid (Below w.heap.size w wr) ∧ Hid (w.heap.size < wr.heap.size) ∧ Hid (Blk wr w.heap.size 5 (mixr (growL n k) (List.replicate n 0) j))) (fun i _ => n - (intOf i).toNat)
  case atStart => exact ⟨0, by omega, rfl, B0.out _, by simp [Hid], by simpa [mixr] using HB0⟩
  case round =>
    obtain ⟨j, hj, rfl, HB, HLT, HK⟩ := hrel
    by_cases hlt : j < n
    · have hc := HK.out.frozen j
      have hlen : (mixr (growL n k) (List.replicate n 0) j).length = n := by rw [mixr_length _ _ _ (by simp [growL])]; simp
      have hcell := HK.out.cell j (by rw [hlen]; exact hlt)
      obtain ⟨x, hx⟩ : ∃ x, (growL n k).getD j 0 = x := ⟨_, rfl⟩
      have hxv : ((j : Int) * 7 + (k : Int) * 31 + (j : Int) / 13) % 256 = bn x := by
        rw [← hx]
        simp [growL, bn, hlt]
      have HN : Hid ((mixr (growL n k) (List.replicate n 0) j).set j x = mixr (growL n k) (List.replicate n 0) (j + 1)) := show _ = _ by
        rw [← hx]
        exact mixr_set _ _ _ (by simp [growL]) (by simpa using hlt)
      clear hx hlen
      go_wp2
      go_roundw
      case rel =>
        refine ⟨j + 1, by omega, by go_num, (HB.out.setCell (Nat.le_refl _) _), by simpa [Hid] using HLT, ?_⟩
        show Blk _ _ _ _
        rw [← HN.out]
        exact HK.out.put j x
      case measure => simp [intOf]; omega
    · go_wp2
      go_ret
      obtain rfl : j = n := by omega
      have h := HK.out
      rw [mixr_full _ _ _ (by simp [growL]) (by simp)] at h
      exact ⟨_, j, rfl, h.own (growL_length j k) (Nat.le_refl _) (by simp only [maxLen]; omega), Nat.le_refl _, by simp only [maxLen]; omega, HB.out⟩
end Go.Proofs.YtocolaccgoochaaDoor
