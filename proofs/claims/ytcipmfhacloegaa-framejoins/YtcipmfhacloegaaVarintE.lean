/-
  What laid numbers are read as.
-/
import Derived.Test.YtcipmfhacloegaaVarintC
namespace Go.Proofs.Ytcipmfhacloegaa
open Go.RowKit
set_option linter.unusedVariables false

theorem beN_lowB (a n t : Nat) : beN a (lowB n t) = a * 256 ^ t + n % 256 ^ t := by
  induction t generalizing a with
  | zero => simp [beN, lowB, Nat.mod_one]
  | succ t ih =>
    have e : beN a (lowB n (t + 1)) = beN (a * 256 + n / 256 ^ t % 256) (lowB n t) := by simp [beN, lowB]
    rw [e, ih, Nat.pow_succ, Nat.mod_mul, Nat.add_mul, Nat.mul_assoc, Nat.mul_comm 256 (256 ^ t)]
    rw [Nat.mul_comm (n / 256 ^ t % 256) (256 ^ t)]
    omega
theorem encV_head (n k : Nat) (hk : k ≤ 3) : (UInt8.ofNat (n / 256 ^ (2 ^ k - 1) % 64 + 64 * k)).toNat = n / 256 ^ (2 ^ k - 1) % 64 + 64 * k := by
  simp only [UInt8.toNat_ofNat']
  omega
/-- what is laid is read as it was, whatever stands behind -/
theorem getV_enc (n k : Nat) (hk : k ≤ 3) (hn : n < 64 * 256 ^ (2 ^ k - 1)) (tail : List UInt8) : getV (encV n k ++ tail) = (n, 2 ^ k, 0) := by
  have h0 : 0 < 2 ^ k := Nat.pow_pos (by omega)
  unfold encV
  rw [List.cons_append, getV_cons, encV_head n k hk]
  have e : (n / 256 ^ (2 ^ k - 1) % 64 + 64 * k) / 64 = k := by omega
  have e' : (n / 256 ^ (2 ^ k - 1) % 64 + 64 * k) % 64 = n / 256 ^ (2 ^ k - 1) := by
    have : n / 256 ^ (2 ^ k - 1) < 64 := Nat.div_lt_of_lt_mul (by rw [Nat.mul_comm]; exact hn)
    clear e hn
    generalize n / 256 ^ (2 ^ k - 1) = q at *
    omega
  rw [e, e', if_neg (by simp [lowB_length]; omega), List.take_left' (lowB_length n _), beN_lowB, Nat.mul_comm, Nat.div_add_mod]
/-- with a byte less it is too short -/
theorem getV_less (n k : Nat) (hk : k ≤ 3) : getV ((encV n k).take (2 ^ k - 1)) = (0, 0, 3) := by
  have h0 : 0 < 2 ^ k := Nat.pow_pos (by omega)
  unfold encV
  obtain ⟨t, ht⟩ : ∃ t, 2 ^ k = t + 1 := ⟨2 ^ k - 1, by omega⟩
  have hh := encV_head n k hk
  rw [ht] at hh ⊢
  simp only [Nat.add_sub_cancel] at hh ⊢
  cases t with
  | zero => rfl
  | succ t =>
    rw [List.take_succ_cons, getV_cons, hh]
    have e : (n / 256 ^ (t + 1) % 64 + 64 * k) / 64 = k := by omega
    rw [e, if_pos (by simp [lowB_length]; omega)]

/-- a number of at most 62 bits: its class, its bytes -/
theorem small_cases (v : Nat) (hv : v < 4611686018427387904) : ∃ k s, cls v = k ∧ lenV v = s ∧ enc v = encV v k ∧ ((k = 0 ∧ s = 1) ∨ (k = 1 ∧ s = 2) ∨ (k = 2 ∧ s = 4) ∨ (k = 3 ∧ s = 8)) ∧ v < 64 * 256 ^ (2 ^ k - 1) := by
  refine ⟨cls v, lenV v, rfl, rfl, by unfold enc; rw [if_pos hv], by have := cls_cases v; omega, ?_⟩
  rcases cls_cases v with h | h | h | h | h
  · rw [h.2.1]; simpa using h.1
  · rw [h.2.2.1]; simpa using h.2.1
  · rw [h.2.2.1]; simpa using h.2.1
  · rw [h.2.2.1]; simpa using h.2.1
  · omega
theorem two_pow_of {k s : Nat} (h : (k = 0 ∧ s = 1) ∨ (k = 1 ∧ s = 2) ∨ (k = 2 ∧ s = 4) ∨ (k = 3 ∧ s = 8)) : s = 2 ^ k ∧ k ≤ 3 := by
  rcases h with ⟨rfl, rfl⟩ | ⟨rfl, rfl⟩ | ⟨rfl, rfl⟩ | ⟨rfl, rfl⟩ <;> simp
theorem room_mono {v k j : Nat} (hkj : k ≤ j) (h : v < 64 * 256 ^ (2 ^ k - 1)) : v < 64 * 256 ^ (2 ^ j - 1) :=
  Nat.lt_of_lt_of_le h (Nat.mul_le_mul_left _ (Nat.pow_le_pow_right (by omega) (Nat.sub_le_sub_right (Nat.pow_le_pow_right (by omega) hkj) 1)))
/-- bytes written out, in a block of their own -/
theorem sl_lit (w : World) (l : List UInt8) (cs : Array Value) (n : Nat) (hc : cs = (bvs l).toArray) (hn : l.length = n) : Sl (w.alloc (.cells cs 5)) (w.heap.size + 1) (some ⟨w.heap.size, 0, none⟩) n l := by
  subst hc
  refine ⟨hn, fun _ => ⟨w.heap.size, 0, rfl, by omega, fun j hj => ?_⟩⟩
  rw [Nat.zero_add, cell_of_row _ w.heap.size j (bvs l).toArray 5 (0, 0) (heap_alloc_new w _)]
  simp [bvs, hj]

end Go.Proofs.Ytcipmfhacloegaa
