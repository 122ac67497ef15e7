/-
  What every program answers that is one: 'awake' of the laws on varint; and what laid numbers are read as.
-/
import Derived.Test.YtnagoababcmkaaaVarintC
import Derived.Test.YtnagoababcmkaaaSame
namespace Go.Proofs.Ytnagoababcmkaaa
open Go.RowKit
set_option linter.unusedVariables false

theorem beN_lowB (a n t : Nat) : beN a (lowB n t) = a * 256 ^ t + n % 256 ^ t := by
  induction t generalizing a with
  | zero => simp [beN, lowB, Nat.mod_one]
  | succ t ih =>
    have e : beN a (lowB n (t + 1)) = beN (a * 256 + n / 256 ^ t % 256) (lowB n t) := by simp [beN, lowB]
    rw [e, ih, Nat.pow_succ, Nat.mod_mul, Nat.add_mul, Nat.mul_assoc, Nat.mul_comm 256 (256 ^ t)]
    rw [Nat.mul_comm (n / 256 ^ t % 256) (256 ^ t)]
    omega
theorem encV_head (n k : Nat) (hk : k ≤ 3) : (UInt8.ofNat (n / 256 ^ (2 ^ k - 1) % 64 + 64 * k)).toNat = n / 256 ^ (2 ^ k - 1) % 64 + 64 * k := by
  simp only [UInt8.toNat_ofNat']
  omega
/-- what is laid is read as it was, whatever stands behind -/
theorem getV_enc (n k : Nat) (hk : k ≤ 3) (hn : n < 64 * 256 ^ (2 ^ k - 1)) (tail : List UInt8) : getV (encV n k ++ tail) = (n, 2 ^ k, 0) := by
  have h0 : 0 < 2 ^ k := Nat.pow_pos (by omega)
  unfold encV
  rw [List.cons_append, getV_cons, encV_head n k hk]
  have e : (n / 256 ^ (2 ^ k - 1) % 64 + 64 * k) / 64 = k := by omega
  have e' : (n / 256 ^ (2 ^ k - 1) % 64 + 64 * k) % 64 = n / 256 ^ (2 ^ k - 1) := by
    have : n / 256 ^ (2 ^ k - 1) < 64 := Nat.div_lt_of_lt_mul (by rw [Nat.mul_comm]; exact hn)
    clear e hn
    generalize n / 256 ^ (2 ^ k - 1) = q at *
    omega
  rw [e, e', if_neg (by simp [lowB_length]; omega), List.take_left' (lowB_length n _), beN_lowB, Nat.mul_comm, Nat.div_add_mod]
/-- with a byte less it is too short -/
theorem getV_less (n k : Nat) (hk : k ≤ 3) : getV ((encV n k).take (2 ^ k - 1)) = (0, 0, 3) := by
  have h0 : 0 < 2 ^ k := Nat.pow_pos (by omega)
  unfold encV
  obtain ⟨t, ht⟩ : ∃ t, 2 ^ k = t + 1 := ⟨2 ^ k - 1, by omega⟩
  have hh := encV_head n k hk
  rw [ht] at hh ⊢
  simp only [Nat.add_sub_cancel] at hh ⊢
  cases t with
  | zero => rfl
  | succ t =>
    rw [List.take_succ_cons, getV_cons, hh]
    have e : (n / 256 ^ (t + 1) % 64 + 64 * k) / 64 = k := by omega
    rw [e, if_pos (by simp [lowB_length]; omega)]

theorem sl_one_at (w : World) (g : Nat) (hg : w.heap.size = g) (V : Value) (x : UInt8) (hV : V = bv x) : Sl (w.alloc (.cells #[V] 5)) (g + 1) (some ⟨g, 0, none⟩) 1 [x] := by
  subst hg
  exact sl_one w V x hV

/-- varint.Get at given answers -/
theorem get_is (l : List UInt8) (X K E : Int) (A : Option Addr) (n c B : Nat) (w : World) (h : Sl w B A n l) (hc : n ≤ c) (hm : c ≤ maxLen) (h1 : ((getV l).1 : Int) = X) (h2 : ((getV l).2.1 : Int) = K) (h3 : ((getV l).2.2 : Int) = E) :
    Calls Try.prog 9 #[.slice A n c] w fun e w' => e = .returned (.tuple #[.int .u64 X, .int .i64 K, .int .i64 E]) ∧ w = w' := by
  subst h1 h2 h3
  exact get_any l A n c B w h hc hm

/-- bytes written out, in a block of their own -/
theorem sl_lit (w : World) (l : List UInt8) (cs : Array Value) (n : Nat) (hc : cs = (bvs l).toArray) (hn : l.length = n) : Sl (w.alloc (.cells cs 5)) (w.heap.size + 1) (some ⟨w.heap.size, 0, none⟩) n l := by
  subst hc
  refine ⟨hn, fun _ => ⟨w.heap.size, 0, rfl, by omega, fun j hj => ?_⟩⟩
  rw [Nat.zero_add, cell_of_row _ w.heap.size j (bvs l).toArray 5 (0, 0) (heap_alloc_new w _)]
  simp [bvs, hj]

theorem get_6464 (u : World) (g : Nat) (hg : u.heap.size = g) : Calls Try.prog 9 #[.slice (some ⟨g, 0, none⟩) 2 2] (u.alloc (.cells #[.int .u8 64, .int .u8 64] 5)) fun e w' =>
    e = .returned (.tuple #[.int .u64 64, .int .i64 2, .int .i64 0]) ∧ (u.alloc (.cells #[.int .u8 64, .int .u8 64] 5)) = w' := by
  subst hg
  exact get_is [64, 64] 64 2 0 _ 2 2 _ _ (sl_lit _ [64, 64] _ 2 rfl rfl) (by omega) (by simp [maxLen]) (by decide) (by decide) (by decide)
theorem get_64 (u : World) (g : Nat) (hg : u.heap.size = g) : Calls Try.prog 9 #[.slice (some ⟨g, 0, none⟩) 1 1] (u.alloc (.cells #[.int .u8 64] 5)) fun e w' =>
    e = .returned (.tuple #[.int .u64 0, .int .i64 0, .int .i64 3]) ∧ (u.alloc (.cells #[.int .u8 64] 5)) = w' := by
  subst hg
  exact get_is [64] 0 0 3 _ 1 1 _ _ (sl_lit _ [64] _ 1 rfl rfl) (by omega) (by simp [maxLen]) (by decide) (by decide) (by decide)
theorem put_164 (u : World) (g : Nat) (hg : u.heap.size = g) : Calls Try.prog 14 #[.slice (some ⟨g, 0, none⟩) 1 1, .int .u64 64] (u.alloc (.cells #[.int .u8 1] 5)) (MakesBytes (u.alloc (.cells #[.int .u8 1] 5)) 3 [1, 64, 64]) := by
  subst hg
  exact put_any [1] _ 1 1 _ 64 _ (sl_lit _ [1] _ 1 rfl rfl) (by simp) (by omega) (by omega)
theorem len_big (w : World) : Calls Try.prog 11 #[.int .u64 4611686018427387904] w fun e w' => e = .returned (.int .i64 0) ∧ w = w' :=
  len_any 4611686018427387904 w (by omega)

set_option maxHeartbeats 400000 in
theorem awake_any (w : World) : Calls Try.prog 8 #[] w fun e w' => e = .returned (.bool true) ∧ Below w.heap.size w w' := by
  go_enter Try.func8, Try.ntmps8
  go_wp2_with fail
  (with_reducible refine (get_6464 _ _ (by simp)).mono ?_)
  rintro e w' ⟨rfl, rfl⟩
  go_wp2_with fail
  (with_reducible refine (get_64 _ _ (by simp)).mono ?_)
  rintro e w' ⟨rfl, rfl⟩
  go_wp2_with fail
  (with_reducible refine (put_164 _ _ (by simp)).mono ?_)
  rintro e w1 ⟨A1, c1, rfl, ho, hle, hc, hb⟩
  have hb1 : Below w.heap.size w w1 := ((((Below.refl _ w).alloc (Nat.le_refl _) _).alloc (by simp) _).alloc (by simp; omega) _).trans (hb.mono (by simp; omega))
  clear hb
  go_wp2_with fail
  (with_reducible refine (same_yes [1, 64, 64] [1, 64, 64] rfl _ _ _ _ _ _ ?B1 ?B2 _ ?h1 ?h2 (by simp [maxLen])).mono ?_)
  case h1 => exact (ho.alloc _).sl
  case h2 => exact sl_lit _ [1, 64, 64] _ 3 rfl rfl
  rintro e w2 ⟨rfl, k2, rfl⟩
  go_wp2_with fail
  (with_reducible refine (len_big _).mono ?_)
  rintro e w' ⟨rfl, rfl⟩
  go_wp2
  go_ret
  exact ⟨rfl, below_drewN (hb1.alloc hb1.size _) _⟩

theorem put_nil (v : Nat) (w : World) (hv : v < 18446744073709551616) : Calls Try.prog 14 #[.slice none 0 0, .int .u64 v] w (MakesBytes w (lenV v) (enc v)) := by
  have h := put_any [] none 0 0 0 v w Sl.nil (Nat.zero_le _) (by omega) hv
  rwa [Nat.zero_add, List.nil_append] at h
theorem in_nil (v k s : Nat) (w : World) (hv : v < 4611686018427387904) (hks : (k = 0 ∧ s = 1) ∨ (k = 1 ∧ s = 2) ∨ (k = 2 ∧ s = 4) ∨ (k = 3 ∧ s = 8)) :
    Calls Try.prog 18 #[.slice none 0 0, .int .u64 v, .int .i64 s] w (MakesBytes w s (encV v k)) := by
  have h := in_some [] none 0 0 0 v k s w Sl.nil (Nat.zero_le _) (by omega) hv hks
  rwa [Nat.zero_add, List.nil_append] at h
/-- a number of at most 62 bits: its class, its bytes -/
theorem small_cases (v : Nat) (hv : v < 4611686018427387904) : ∃ k s, cls v = k ∧ lenV v = s ∧ enc v = encV v k ∧ ((k = 0 ∧ s = 1) ∨ (k = 1 ∧ s = 2) ∨ (k = 2 ∧ s = 4) ∨ (k = 3 ∧ s = 8)) ∧ v < 64 * 256 ^ (2 ^ k - 1) := by
  refine ⟨cls v, lenV v, rfl, rfl, by unfold enc; rw [if_pos hv], by have := cls_cases v; omega, ?_⟩
  rcases cls_cases v with h | h | h | h | h
  · rw [h.2.1]; simpa using h.1
  · rw [h.2.2.1]; simpa using h.2.1
  · rw [h.2.2.1]; simpa using h.2.1
  · rw [h.2.2.1]; simpa using h.2.1
  · omega
theorem two_pow_of {k s : Nat} (h : (k = 0 ∧ s = 1) ∨ (k = 1 ∧ s = 2) ∨ (k = 2 ∧ s = 4) ∨ (k = 3 ∧ s = 8)) : s = 2 ^ k ∧ k ≤ 3 := by
  rcases h with ⟨rfl, rfl⟩ | ⟨rfl, rfl⟩ | ⟨rfl, rfl⟩ | ⟨rfl, rfl⟩ <;> simp
theorem room_mono {v k j : Nat} (hkj : k ≤ j) (h : v < 64 * 256 ^ (2 ^ k - 1)) : v < 64 * 256 ^ (2 ^ j - 1) :=
  Nat.lt_of_lt_of_le h (Nat.mul_le_mul_left _ (Nat.pow_le_pow_right (by omega) (Nat.sub_le_sub_right (Nat.pow_le_pow_right (by omega) hkj) 1)))
end Go.Proofs.Ytnagoababcmkaaa
