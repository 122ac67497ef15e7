/-
  The contract of Pad.
-/
import Derived.Test.YtnjdloocalfkmaaDoorShaD
namespace Go.Proofs.YtnjdloocalfkmaaDoor
open Go.RowKit
set_option linter.unusedVariables false

theorem pad_neg (n : Int) (w : World) (h : n < 0) : Calls Tryd.prog 27 #[.int .i64 n] w fun e w' => e = .returned (.slice none 0 0) ∧ w = w' := by
  have t : decide (n < 0) = true := by simp; omega
  clear h
  go_enter Tryd.func27, Tryd.ntmps27
  go_wp2
  go_ret
  exact ⟨rfl, rfl⟩

/-- with the lowest i bytes of the length laid -/
def padI (n i : Nat) : List UInt8 := 128 :: (List.replicate (padN n - 1 - i) 0 ++ beB (8 * n) i)
theorem padI_full (n : Nat) : padI n 8 = padV n := by
  have := padN_bd n
  unfold padI padV
  rw [show padN n - 1 - 8 = padN n - 9 by omega]
theorem padI_set (n i : Nat) (hi : i < 8) : (padI n i).set (padN n - 1 - i) (UInt8.ofNat (8 * n / 256 ^ i)) = padI n (i + 1) := by
  have hb := padN_bd n
  obtain ⟨k, hk⟩ : ∃ k, padN n - 1 - i = k + 1 := ⟨padN n - 2 - i, by omega⟩
  unfold padI
  rw [hk, show padN n - 1 - (i + 1) = k by omega, List.set_cons_succ, List.set_append, if_pos (by simp), List.replicate_succ', List.set_append, if_neg (by simp)]
  simp [beB]
theorem padI_length (n i : Nat) (hi : i ≤ 8) : (padI n i).length = padN n := by
  have := padN_bd n
  simp [padI, beB_length]; omega

theorem byte_of_wrap (m i : Nat) (hi : i < 8) : Value.int .u8 (((m % 18446744073709551616 : Nat) : Int) / 2 ^ (8 * i) % 256) = bv (UInt8.ofNat (m / 256 ^ i)) := by
  have e : (2 : Int) ^ (8 * i) = ((256 ^ i : Nat) : Int) := by rw [Int.pow_mul]; simp
  rw [e, ← Int.natCast_ediv]
  simp only [bv, UInt8.toNat_ofNat']
  congr 1
  have h : i = 0 ∨ i = 1 ∨ i = 2 ∨ i = 3 ∨ i = 4 ∨ i = 5 ∨ i = 6 ∨ i = 7 := by omega
  rcases h with rfl | rfl | rfl | rfl | rfl | rfl | rfl | rfl <;> omega

theorem madeCells_eq (z : Value) (n : Nat) : madeCells #[z] n = (List.replicate n z).toArray := by
  apply Array.ext
  · simp [madeCells]
  · intro j h1 h2
    simp [madeCells, Nat.mod_one]
/-- bytes in a block of their own -/
theorem own_block {w : World} {base g n : Nat} {l : List UInt8} {cur : Array Value} (hg : w.heap[g]? = some (.cells cur 5 (0, 0))) (hcur : cur = (bvs l).toArray) (hl : l.length = n) (hn : n ≤ maxLen) (hb : base ≤ g) :
    Own w base (.slice (some ⟨g, 0, none⟩) n n) n l := by
  subst hcur
  refine ⟨by rw [bvs_length]; omega, .inr ⟨g, n, _, rfl, hb, hg, Nat.le_refl _, hn, ?_, ?_⟩⟩
  · simp [bvs_length, hl]
  · rw [List.take_of_length_le (by simp [bvs_length, hl])]
theorem pad_first (n : Nat) : (madeCells #[.int .u8 0] (padN n)).setIfInBounds 0 (.int .u8 128) = (bvs (padI n 0)).toArray := by
  have := padN_bd n
  obtain ⟨k, hk⟩ : ∃ k, padN n = k + 1 := ⟨padN n - 1, by omega⟩
  rw [madeCells_eq]
  unfold padI
  rw [hk, List.replicate_succ]
  simp [bvs, bv, beB]

set_option maxHeartbeats 1000000 in
theorem pad_any (n : Nat) (hn : n < 9223372036854775808) (w : World) :
    Calls Tryd.prog 27 #[.int .i64 (n : Int)] w (MakesBytes w (padN n) (padV n)) := by
  obtain ⟨i, hi, hz0, hz1, hz2⟩ := info_parts byte_info
  have hb := padN_bd n
  obtain ⟨S, hS⟩ : ∃ S, padN n = S := ⟨_, rfl⟩
  rw [hS] at hb ⊢
  have hmk : ∀ u : World, (Instr.makeSlice 22 (.int .i64 (S : Int)) (.int .i64 (S : Int))).run Tryd.prog u =
      .ok (.slice (some ⟨u.heap.size, 0, none⟩) S S) (u.alloc (.cells (madeCells #[.int .u8 0] S) 5)) := fun u => by
    have h := run_make (P := Tryd.prog) u 22 5 i (.int .u8 0) Tryd.underlying22 hi hz0 .i64 .i64 (S : Int) (S : Int) (by omega) (Int.le_refl _) (by rw [hz2]; omega) (by omega)
    simpa [hz1, Value.cells] using h
  have HS := Lib.hid hS
  have hpos : decide ((n : Int) < 0) = false := by simp
  have hcase : (decide (64 - (n : Int) % 64 < 9) = true ∧ 64 - (n : Int) % 64 + 64 = (S : Int)) ∨ (decide (64 - (n : Int) % 64 < 9) = false ∧ 64 - (n : Int) % 64 = (S : Int) ∧ decide ((S : Int) < 9) = false) := by
    unfold padN at hS
    simp only [decide_eq_true_eq, decide_eq_false_iff_not]
    split at hS
    · left; omega
    · right; omega
  have hw1 : IntKind.u64.wrap (n : Int) = (n : Int) := IntWalk.u64_in _ (by omega)
  obtain ⟨L, hL⟩ : ∃ L, L = 8 * n % 18446744073709551616 := ⟨_, rfl⟩
  have hw2 : IntKind.u64.wrap (8 * (n : Int)) = (L : Int) := by
    rw [hL]; simp [IntKind.wrap, IntKind.bits, IntKind.signed]
  have HB : Hid (∀ k, k < 8 → Value.int .u8 ((L : Int) / 2 ^ (8 * k) % 256) = bv (UInt8.ofNat (8 * n / 256 ^ k))) := fun k hk => by
    rw [hL]; exact byte_of_wrap (8 * n) k hk
  have hb1 : 9 ≤ S := hb.1
  have hb2 : S ≤ 72 := hb.2.1
  have hS0 : (0 : Int) < (S : Int) := by omega
  have hm0 : (madeCells #[.int .u8 0] S)[0]? = some (.int .u8 0) := by
    have h0 : 0 < S := by omega
    rw [madeCells_eq]
    simp [h0]
  clear hi hz0 hz1 hz2 hS hL hb
  rcases hcase with ⟨h1, h2⟩ | ⟨h1, h2, h3⟩
  all_goals
    go_enter Tryd.func27, Tryd.ntmps27
    go_wp2_with fail
    clear hm0 hmk
    go_loopw [23] (fun i wr => ∃ j : Nat, j ≤ 8 ∧ i = .int .i64 j ∧ Hid (Own wr w.heap.size (.slice (some ⟨w.heap.size, 0, none⟩) S S) S (padI n j)) ∧ Hid (Below w.heap.size w wr)) (fun i _ => 8 - (intOf i).toNat)
    case atStart =>
      refine ⟨0, by omega, rfl, own_block (heap_alloc_new _ _) (by rw [← HS.out]; exact pad_first n) (by rw [padI_length n 0 (by omega)]; exact HS.out) (by simp [maxLen]; omega) (Nat.le_refl _), (Below.refl _ _).alloc (Nat.le_refl _) _⟩
    case round =>
      obtain ⟨j, hj, rfl, HO, HBl⟩ := hrel
      by_cases hlt : j < 8
      · obtain ⟨q, hq⟩ : ∃ q : Nat, (S : Int) - 1 - (j : Int) = (q : Int) := ⟨S - 1 - j, by omega⟩
        have hqS : (q : Int) < (S : Int) := by omega
        have hq' : q < (padI n j).length := by rw [padI_length _ _ hj, HS.out]; omega
        have c0 := HO.out.cell q hq'
        have cf := HO.out.frozen q
        have hsh : (8 : Int) * (j : Int) < 64 := by omega
        obtain ⟨old, hold⟩ : ∃ v, bv (padI n j)[q] = v := ⟨_, rfl⟩
        rw [hold] at c0
        have Hq : Hid (q = padN n - 1 - j) := by
          have := HS.out
          show _ = _
          omega
        clear hq' hold
        go_wp2_with fail
        go_roundw
        case rel =>
          have hst := HO.out.store q (UInt8.ofNat (8 * n / 256 ^ j)) _ (HB.out j hlt)
          have e := padI_set n j hlt
          rw [← Hq.out] at e
          rw [e] at hst
          exact ⟨j + 1, by omega, by go_num, hst, HBl.out.setCell (Nat.le_refl _) _⟩
        case measure => simp [intOf]; omega
      · obtain rfl : j = 8 := by omega
        have hv := padI_full n
        rw [hv] at HO
        go_wp2
        go_ret
        exact ⟨_, _, rfl, HO.out, Nat.le_refl _, by simp [maxLen]; omega, HBl.out⟩
end Go.Proofs.YtnjdloocalfkmaaDoor
