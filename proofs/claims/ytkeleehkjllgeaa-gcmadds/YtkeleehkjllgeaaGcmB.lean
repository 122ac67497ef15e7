/-
  The contract of times of a pair.
-/
import Derived.Test.YtkeleehkjllgeaaGcmA
import Derived.Test.YtkeleehkjllgeaaSame
namespace Go.Proofs.Ytkeleehkjllgeaa
open Go.RowKit
set_option linter.unusedVariables false

/-- a word moved up by n bits -/
def shQ (p : UInt64) : Nat → UInt64
  | 0 => p
  | n + 1 => shQ p n <<< 1
theorem shQ_bit (p : UInt64) (n m : Nat) (hm : m < 64) : (shQ p n).toNat.testBit m = (decide (n ≤ m) && p.toNat.testBit (m - n)) := by
  induction n generalizing m with
  | zero => simp [shQ]
  | succ n ih =>
    rw [shQ, UInt64.toNat_shiftLeft]
    simp only [UInt64.reduceToNat, Nat.reduceMod, Nat.testBit_mod_two_pow, Nat.testBit_shiftLeft]
    rw [decide_eq_true hm, Bool.true_and]
    by_cases h1 : 1 ≤ m
    · rw [decide_eq_true h1, Bool.true_and, ih (m - 1) (by omega), show m - 1 - n = m - (n + 1) by omega]
      congr 1
      exact decide_eq_decide.2 (by omega)
    · rw [decide_eq_false h1, decide_eq_false (by omega : ¬ n + 1 ≤ m)]
      simp
theorem mask_of (p : UInt64) (b : Nat) (hb : b < 64) : negQ (shQ p b >>> 63) = maskQ (p.toNat.testBit (63 - b)) := by
  have h : (shQ p b >>> 63).toNat = if p.toNat.testBit (63 - b) = true then 1 else 0 := by
    have e := shQ_bit p b 63 (by omega)
    rw [decide_eq_true (by omega), Bool.true_and, Nat.testBit_eq_decide_div_mod_eq] at e
    rw [UInt64.toNat_shiftRight, ← e]
    simp only [UInt64.reduceToNat, Nat.reduceMod, Nat.shiftRight_eq_div_pow]
    have := (shQ p b).toNat_lt
    by_cases h1 : (shQ p b).toNat / 2 ^ 63 % 2 = 1
    · rw [if_pos (decide_eq_true h1)]; omega
    · rw [if_neg (by simpa using h1)]; omega
  apply UInt64.toNat_inj.1
  unfold negQ maskQ
  rw [UInt64.toNat_sub, h]
  split <;> rfl
theorem tQ_step1 (p q : UInt64 × UInt64) (n : Nat) : (tQ p q (n + 1)).1 = (tQ p q n).1 ^^^ ((vQ q.1 q.2 n).1 &&& maskQ (bitQ p n)) := rfl
theorem tQ_step2 (p q : UInt64 × UInt64) (n : Nat) : (tQ p q (n + 1)).2 = (tQ p q n).2 ^^^ ((vQ q.1 q.2 n).2 &&& maskQ (bitQ p n)) := rfl

attribute [local go_sem] u64_xor' u64_and' u64_or' u64_shr63 u64_shl1 u64_shl1w u64_neg u64_negw
set_option maxHeartbeats 2000000 in
theorem ptimes_any (a b c d : UInt64) (w : World) :
    Calls Try.prog 29 #[.agg #[.int .u64 (qn a), .int .u64 (qn b)], .agg #[.int .u64 (qn c), .int .u64 (qn d)]] w
      fun e w' => e = .returned (.agg #[.int .u64 (qn (tQ (a, b) (c, d) 128).1), .int .u64 (qn (tQ (a, b) (c, d) 128).2)]) ∧ Below w.heap.size w w' := by
  go_enter Try.func29, Try.ntmps29
  go_wp2_with fail
  go_quiet (fail)
  obtain ⟨w1, hw1⟩ : ∃ w1, (((w.alloc (.cells #[.int .u64 (qn a), .int .u64 (qn b)] 51)).alloc (.cells #[.int .u64 (qn c), .int .u64 (qn d)] 51)).alloc (.cells #[.int .u64 0, .int .u64 0] 51)).drewN nq = w1 := ⟨_, rfl⟩
  rw [hw1]
  have P1 : Hid (Blq w1 w.heap.size 51 [a, b]) := show Blq _ _ _ _ by rw [← hw1]; exact heap_allocs w [_, _, _] 0 _ rfl
  have R1 : Hid (Blq w1 (w.heap.size + 1 + 1) 51 [0, 0]) := show Blq _ _ _ _ by rw [← hw1]; exact heap_allocs w [_, _, _] 2 _ rfl
  have B1 : Hid (Below w.heap.size w w1) := show Below _ _ _ by rw [← hw1]; exact below_drewN ((((Below.refl _ _).alloc (Nat.le_refl _) _).alloc (by simp) _).alloc (by simp; omega) _) nq
  clear hw1
  go_wp2_with ((with_reducible refine wpList_load_blq rfl 51 (.tmp 2) rfl w.heap.size ?hx 51 [a, b] P1.out 2 49 Try.underlying51 2 sizePair rfl ?_); (case hx => with_unfolding_all rfl))
  go_loopw [5, 6, 7, 8, 17] (fun v5 v6 v7 v8 v17 wr => ∃ k : Nat, k ≤ 2 ∧ v17 = .int .i64 k ∧ v5 = .int .u64 (qn (tQ (a, b) (c, d) (64 * k)).1) ∧ v6 = .int .u64 (qn (tQ (a, b) (c, d) (64 * k)).2) ∧ v7 = .int .u64 (qn (vQ c d (64 * k)).1) ∧ v8 = .int .u64 (qn (vQ c d (64 * k)).2) ∧ w1 = wr) (fun _ _ _ _ i _ => 2 - (intOf i).toNat)
  case atStart => exact ⟨0, by omega, rfl, rfl, rfl, rfl, rfl, rfl⟩
  case round =>
    obtain ⟨k, hk, rfl, rfl, rfl, rfl, rfl, rfl⟩ := hrel
    by_cases hlt : k < 2
    · obtain ⟨x, hx⟩ : ∃ x, [a, b].getD k 0 = x := ⟨_, rfl⟩
      have hidx : ∀ u : World, (Instr.index 51 (.agg (qvs [a, b]).toArray) (.int .i64 (k : Int))).run Try.prog u = .ok (.int .u64 (qn x)) u := fun u => by
        rw [← hx]
        exact run_index_word u 51 49 2 Try.underlying51 size64 Try.underlying49 [a, b] .i64 _ k rfl hlt hlt
      have HX : Hid (∀ m, m < 64 → bitQ (a, b) (64 * k + m) = x.toNat.testBit (63 - m)) := fun m hm => by
        unfold bitQ
        rw [show (64 * k + m) % 64 = m by omega]
        congr 1
        rw [← hx]
        by_cases h0 : k = 0
        · subst h0
          rw [if_pos (by omega)]; rfl
        · obtain rfl : k = 1 := by omega
          rw [if_neg (by omega)]; rfl
      have lk : (k : Int) < 2 := by omega
      clear hx
      go_wp2_with fail
      go_loopw [5, 6, 7, 8, 10, 20] (fun v5 v6 v7 v8 v10 v20 wr => ∃ m n : Nat, m ≤ 64 ∧ Hid (n = 64 * k + m) ∧ v20 = .int .i64 m ∧ v10 = .int .u64 (qn (shQ x m)) ∧ v5 = .int .u64 (qn (tQ (a, b) (c, d) n).1) ∧ v6 = .int .u64 (qn (tQ (a, b) (c, d) n).2) ∧ v7 = .int .u64 (qn (vQ c d n).1) ∧ v8 = .int .u64 (qn (vQ c d n).2) ∧ w1 = wr) (fun _ _ _ _ _ i _ => 64 - (intOf i).toNat)
      case atStart => exact ⟨0, 64 * k, by omega, rfl, rfl, rfl, rfl, rfl, rfl, rfl, rfl⟩
      case round =>
        obtain ⟨m, n, hm, Hn, rfl, rfl, rfl, rfl, rfl, rfl, rfl⟩ := hrel
        by_cases hlm : m < 64
        · have hmk : negQ (shQ x m >>> 63) = maskQ (bitQ (a, b) n) := by rw [Hn.out, HX.out m hlm, mask_of x m hlm]
          have lm : (m : Int) < 64 := by omega
          obtain ⟨f, hf⟩ : ∃ f, shQ x m = f := ⟨_, rfl⟩
          have HF : Hid (f <<< 1 = shQ x (m + 1)) := show _ = _ by rw [← hf]; rfl
          rw [hf] at hmk ⊢
          obtain ⟨t1, h1⟩ : ∃ t, (tQ (a, b) (c, d) n).1 = t := ⟨_, rfl⟩
          obtain ⟨t2, h2⟩ : ∃ t, (tQ (a, b) (c, d) n).2 = t := ⟨_, rfl⟩
          obtain ⟨v1, h3⟩ : ∃ t, (vQ c d n).1 = t := ⟨_, rfl⟩
          obtain ⟨v2, h4⟩ : ∃ t, (vQ c d n).2 = t := ⟨_, rfl⟩
          obtain ⟨mk, h5⟩ : ∃ t, maskQ (bitQ (a, b) n) = t := ⟨_, rfl⟩
          have HT1 : Hid (t1 ^^^ (v1 &&& mk) = (tQ (a, b) (c, d) (n + 1)).1) := show _ = _ by rw [tQ_step1, h1, h5]; rw [← h3]
          have HT2 : Hid (t2 ^^^ (v2 &&& mk) = (tQ (a, b) (c, d) (n + 1)).2) := show _ = _ by rw [tQ_step2, h2, h5]; rw [← h4]
          have HV1 : Hid (txH v1 v2 = (vQ c d (n + 1)).1) := show _ = _ by rw [← h3, ← h4]; rfl
          have HV2 : Hid (txL v1 v2 = (vQ c d (n + 1)).2) := show _ = _ by rw [← h3, ← h4]; rfl
          rw [h5] at hmk
          rw [h1, h2, h3, h4]
          clear h1 h2 h3 h4 h5 hf hidx
          have c1 := qn_bd f
          go_wp2_with (go_at_call 39; (with_reducible refine (timesX_any _ _ _).mono ?_); rintro e1 w2 ⟨rfl, rfl⟩)
          go_roundw
          case rel =>
            exact ⟨m + 1, n + 1, by omega, show _ = _ by rw [Hn.out]; omega, by go_num, by rw [HF.out], by rw [HT1.out], by rw [HT2.out], by rw [HV1.out], by rw [HV2.out], by trivial⟩
          case measure => simp [intOf]; omega
        · obtain rfl : m = 64 := by omega
          clear hidx
          go_wp2_with fail
          go_roundw
          case rel =>
            have e : n = 64 * (k + 1) := by rw [Hn.out]; omega
            subst e
            exact ⟨k + 1, by omega, by go_num, rfl, rfl, rfl, rfl, by trivial⟩
          case measure => simp [intOf]; omega
    · obtain rfl : k = 2 := by omega
      obtain ⟨t1, h1⟩ : ∃ t, (tQ (a, b) (c, d) (64 * 2)).1 = t := ⟨_, rfl⟩
      obtain ⟨t2, h2⟩ : ∃ t, (tQ (a, b) (c, d) (64 * 2)).2 = t := ⟨_, rfl⟩
      have HBU := Lib.hid (built_pair t1 t2)
      rw [h1, h2]
      go_wp2_with (first
        | ((with_reducible refine wpList_build_as rfl 51 _ rfl (qvs [t1, t2]).toArray ?hf ?_); (case hf => exact HBU.out))
        | ((with_reducible refine wpList_store_blq rfl 51 (.tmp 4) (.tmp 47) rfl (w.heap.size + 1 + 1) [t1, t2] ?hx ?hy 51 [0, 0] R1.out 2 sizePair rfl rfl ?_); (case hx => with_unfolding_all rfl); (case hy => with_unfolding_all rfl); intro w2 H2 HO2))
      refine ret_blq Try.results29 (w.heap.size + 1 + 1) 51 _ 2 49 rfl H2.out Try.underlying51 2 sizePair rfl rfl ⟨?_, ?_⟩
      · show Ending.returned (.agg #[.int .u64 (qn t1), .int .u64 (qn t2)]) = _
        rw [← h1, ← h2]
      · exact B1.out.trans (HO2.out.below B1.out.size (by omega))
end Go.Proofs.Ytkeleehkjllgeaa
