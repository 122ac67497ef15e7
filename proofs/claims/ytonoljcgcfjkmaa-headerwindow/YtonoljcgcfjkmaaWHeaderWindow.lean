/-
  The walk through HeaderWindow.
-/
import Derived.Test.YtonoljcgcfjkmaaHdM
namespace Go.Proofs.Ytonoljcgcfjkmaa
open Go.RowKit
set_option linter.unusedVariables false

set_option maxHeartbeats 2000000 in
theorem window1_walk (a0 f0 t0 a d t : Nat) (ha0 : a0 < 18446744073709551616) (hf0 : f0 < 18446744073709551616) (ht0 : t0 < 18446744073709551616) (ha : a0 % 1152921504606846976 = a) (hf : 1 + f0 % 1073741824 = d) (ht : t0 % d = t) (hlo : 0 < d) (hhi : d ≤ 128) (w : World) :
    Calls Try.prog 6 #[.int .u64 (a0 : Int), .int .u64 (f0 : Int), .int .u64 (t0 : Int)] w fun e w' => e = .returned (.bool true) ∧ Below w.heap.size w w' := by
  have hd30 : d ≤ 1073741824 := by omega
  have hab : a < 1152921504606846976 := by omega
  have htb : t < d := by rw [← ht]; exact Nat.mod_lt _ (by omega)
  have e1 := and_u64 a0 1152921504606846975 a ha0 (by omega) 1152921504606846975 rfl (by rw [← ha]; exact Nat.and_two_pow_sub_one_eq_mod a0 60)
  obtain ⟨f1, hf1⟩ : ∃ f1, f0 % 1073741824 = f1 := ⟨_, rfl⟩
  have e2 := and_u64 f0 1073741823 f1 hf0 (by omega) 1073741823 rfl (by rw [← hf1]; exact Nat.and_two_pow_sub_one_eq_mod f0 30)
  have e3 : (1 : Int) + (f1 : Int) = (d : Int) := by omega
  obtain ⟨m, hm⟩ : ∃ m, a + d = m := ⟨_, rfl⟩
  have e4 : (a : Int) + (d : Int) = (m : Int) := by omega
  obtain ⟨g, hg⟩ : ∃ g, a + t = g := ⟨_, rfl⟩
  have e5 : (a : Int) + (t : Int) = (g : Int) := by omega
  have e6 : (t0 : Int).tmod (d : Int) = (t : Int) := by rw [← ht]; rfl
  obtain ⟨q, hq⟩ : ∃ q, m % 256 = q := ⟨_, rfl⟩
  have e7 := and_u64 m 255 q (by omega) (by omega) 255 rfl (by rw [← hq]; exact Nat.and_two_pow_sub_one_eq_mod m 8)
  have HC := Lib.hid (cut_any m a true (by omega) (by omega))
  have hcv : cutV m a true = 1 := by
    unfold cutV
    rw [if_pos rfl, show m - a = d by omega]
    have := cutN_cases d
    omega
  rw [hcv] at HC
  have HC : Hid (∀ u, Calls Try.prog 21 #[.int .u64 (m : Int), .int .u64 (a : Int), .bool true] u fun e w' => e = .returned (.int .i64 1) ∧ u = w') := HC.out
  have hfv : fullV q 1 g true = m := by
    unfold fullV
    rw [if_neg (by omega), if_pos rfl]
    refine full_back 1 (g + 1) m q (by omega) (by omega) (by omega) ?_ (by omega) ?_
    · show m - (g + 1) < 128
      omega
    · show q % 256 = m % 256
      omega
  have HFU := Lib.hid (full1_any q g true (by omega) (by omega))
  rw [hfv] at HFU
  have t1 : decide ((2 : Int) * (d : Int) ≤ 1) = false := by simp; omega
  have t2 : ((m : Int) == (m : Int)) = true := by simp
  have hd0 : 0 < d := by omega
  have hdz : ((d : Int) == 0) = false := by simp; omega
  have hdz2 : ¬ (d : Int) = 0 := by omega
  have hmb : m < 18446744073709551616 := by omega
  have hgb : g < 18446744073709551616 := by omega
  have hdb : d < 4294967296 := by omega
  clear ha hf ht hm hg hq hcv hfv hf1 hlo hhi hd30 hab htb ha0 hf0 ht0
  go_enter Try.func6, Try.ntmps6
  go_wp2_with (first
    | (go_at_call 21; (with_reducible refine (HC.out _).mono ?_); rintro e w' ⟨rfl, rfl⟩)
    | (go_at_call 23; (with_reducible refine (HFU.out _).mono ?_); rintro e w' ⟨rfl, rfl⟩)
    | (go_at_call 9; (with_reducible refine (awake_any _).mono ?_); rintro e w1 ⟨rfl, b1⟩))
  go_ret
  exact ⟨rfl, b1⟩

set_option maxHeartbeats 2000000 in
theorem window2_walk (a0 f0 t0 a d t : Nat) (ha0 : a0 < 18446744073709551616) (hf0 : f0 < 18446744073709551616) (ht0 : t0 < 18446744073709551616) (ha : a0 % 1152921504606846976 = a) (hf : 1 + f0 % 1073741824 = d) (ht : t0 % d = t) (hlo : 128 < d) (hhi : d ≤ 32768) (w : World) :
    Calls Try.prog 6 #[.int .u64 (a0 : Int), .int .u64 (f0 : Int), .int .u64 (t0 : Int)] w fun e w' => e = .returned (.bool true) ∧ Below w.heap.size w w' := by
  have hd30 : d ≤ 1073741824 := by omega
  have hab : a < 1152921504606846976 := by omega
  have htb : t < d := by rw [← ht]; exact Nat.mod_lt _ (by omega)
  have e1 := and_u64 a0 1152921504606846975 a ha0 (by omega) 1152921504606846975 rfl (by rw [← ha]; exact Nat.and_two_pow_sub_one_eq_mod a0 60)
  obtain ⟨f1, hf1⟩ : ∃ f1, f0 % 1073741824 = f1 := ⟨_, rfl⟩
  have e2 := and_u64 f0 1073741823 f1 hf0 (by omega) 1073741823 rfl (by rw [← hf1]; exact Nat.and_two_pow_sub_one_eq_mod f0 30)
  have e3 : (1 : Int) + (f1 : Int) = (d : Int) := by omega
  obtain ⟨m, hm⟩ : ∃ m, a + d = m := ⟨_, rfl⟩
  have e4 : (a : Int) + (d : Int) = (m : Int) := by omega
  obtain ⟨g, hg⟩ : ∃ g, a + t = g := ⟨_, rfl⟩
  have e5 : (a : Int) + (t : Int) = (g : Int) := by omega
  have e6 : (t0 : Int).tmod (d : Int) = (t : Int) := by rw [← ht]; rfl
  obtain ⟨q, hq⟩ : ∃ q, m % 65536 = q := ⟨_, rfl⟩
  have e7 := and_u64 m 65535 q (by omega) (by omega) 65535 rfl (by rw [← hq]; exact Nat.and_two_pow_sub_one_eq_mod m 16)
  have HC := Lib.hid (cut_any m a true (by omega) (by omega))
  have hcv : cutV m a true = 2 := by
    unfold cutV
    rw [if_pos rfl, show m - a = d by omega]
    have := cutN_cases d
    omega
  rw [hcv] at HC
  have HC : Hid (∀ u, Calls Try.prog 21 #[.int .u64 (m : Int), .int .u64 (a : Int), .bool true] u fun e w' => e = .returned (.int .i64 2) ∧ u = w') := HC.out
  have hfv : fullV q 2 g true = m := by
    unfold fullV
    rw [if_neg (by omega), if_pos rfl]
    refine full_back 2 (g + 1) m q (by omega) (by omega) (by omega) ?_ (by omega) ?_
    · show m - (g + 1) < 32768
      omega
    · show q % 65536 = m % 65536
      omega
  have HFU := Lib.hid (full2_any q g true (by omega) (by omega))
  rw [hfv] at HFU
  have t1 : decide ((2 : Int) * (d : Int) ≤ 256) = false := by simp; omega
  have t2 : ((m : Int) == (m : Int)) = true := by simp
  have hd0 : 0 < d := by omega
  have hdz : ((d : Int) == 0) = false := by simp; omega
  have hdz2 : ¬ (d : Int) = 0 := by omega
  have hmb : m < 18446744073709551616 := by omega
  have hgb : g < 18446744073709551616 := by omega
  have hdb : d < 4294967296 := by omega
  clear ha hf ht hm hg hq hcv hfv hf1 hlo hhi hd30 hab htb ha0 hf0 ht0
  go_enter Try.func6, Try.ntmps6
  go_wp2_with (first
    | (go_at_call 21; (with_reducible refine (HC.out _).mono ?_); rintro e w' ⟨rfl, rfl⟩)
    | (go_at_call 23; (with_reducible refine (HFU.out _).mono ?_); rintro e w' ⟨rfl, rfl⟩)
    | (go_at_call 9; (with_reducible refine (awake_any _).mono ?_); rintro e w1 ⟨rfl, b1⟩))
  go_ret
  exact ⟨rfl, b1⟩

set_option maxHeartbeats 2000000 in
theorem window3_walk (a0 f0 t0 a d t : Nat) (ha0 : a0 < 18446744073709551616) (hf0 : f0 < 18446744073709551616) (ht0 : t0 < 18446744073709551616) (ha : a0 % 1152921504606846976 = a) (hf : 1 + f0 % 1073741824 = d) (ht : t0 % d = t) (hlo : 32768 < d) (hhi : d ≤ 8388608) (w : World) :
    Calls Try.prog 6 #[.int .u64 (a0 : Int), .int .u64 (f0 : Int), .int .u64 (t0 : Int)] w fun e w' => e = .returned (.bool true) ∧ Below w.heap.size w w' := by
  have hd30 : d ≤ 1073741824 := by omega
  have hab : a < 1152921504606846976 := by omega
  have htb : t < d := by rw [← ht]; exact Nat.mod_lt _ (by omega)
  have e1 := and_u64 a0 1152921504606846975 a ha0 (by omega) 1152921504606846975 rfl (by rw [← ha]; exact Nat.and_two_pow_sub_one_eq_mod a0 60)
  obtain ⟨f1, hf1⟩ : ∃ f1, f0 % 1073741824 = f1 := ⟨_, rfl⟩
  have e2 := and_u64 f0 1073741823 f1 hf0 (by omega) 1073741823 rfl (by rw [← hf1]; exact Nat.and_two_pow_sub_one_eq_mod f0 30)
  have e3 : (1 : Int) + (f1 : Int) = (d : Int) := by omega
  obtain ⟨m, hm⟩ : ∃ m, a + d = m := ⟨_, rfl⟩
  have e4 : (a : Int) + (d : Int) = (m : Int) := by omega
  obtain ⟨g, hg⟩ : ∃ g, a + t = g := ⟨_, rfl⟩
  have e5 : (a : Int) + (t : Int) = (g : Int) := by omega
  have e6 : (t0 : Int).tmod (d : Int) = (t : Int) := by rw [← ht]; rfl
  obtain ⟨q, hq⟩ : ∃ q, m % 16777216 = q := ⟨_, rfl⟩
  have e7 := and_u64 m 16777215 q (by omega) (by omega) 16777215 rfl (by rw [← hq]; exact Nat.and_two_pow_sub_one_eq_mod m 24)
  have HC := Lib.hid (cut_any m a true (by omega) (by omega))
  have hcv : cutV m a true = 3 := by
    unfold cutV
    rw [if_pos rfl, show m - a = d by omega]
    have := cutN_cases d
    omega
  rw [hcv] at HC
  have HC : Hid (∀ u, Calls Try.prog 21 #[.int .u64 (m : Int), .int .u64 (a : Int), .bool true] u fun e w' => e = .returned (.int .i64 3) ∧ u = w') := HC.out
  have hfv : fullV q 3 g true = m := by
    unfold fullV
    rw [if_neg (by omega), if_pos rfl]
    refine full_back 3 (g + 1) m q (by omega) (by omega) (by omega) ?_ (by omega) ?_
    · show m - (g + 1) < 8388608
      omega
    · show q % 16777216 = m % 16777216
      omega
  have HFU := Lib.hid (full3_any q g true (by omega) (by omega))
  rw [hfv] at HFU
  have t1 : decide ((2 : Int) * (d : Int) ≤ 65536) = false := by simp; omega
  have t2 : ((m : Int) == (m : Int)) = true := by simp
  have hd0 : 0 < d := by omega
  have hdz : ((d : Int) == 0) = false := by simp; omega
  have hdz2 : ¬ (d : Int) = 0 := by omega
  have hmb : m < 18446744073709551616 := by omega
  have hgb : g < 18446744073709551616 := by omega
  have hdb : d < 4294967296 := by omega
  clear ha hf ht hm hg hq hcv hfv hf1 hlo hhi hd30 hab htb ha0 hf0 ht0
  go_enter Try.func6, Try.ntmps6
  go_wp2_with (first
    | (go_at_call 21; (with_reducible refine (HC.out _).mono ?_); rintro e w' ⟨rfl, rfl⟩)
    | (go_at_call 23; (with_reducible refine (HFU.out _).mono ?_); rintro e w' ⟨rfl, rfl⟩)
    | (go_at_call 9; (with_reducible refine (awake_any _).mono ?_); rintro e w1 ⟨rfl, b1⟩))
  go_ret
  exact ⟨rfl, b1⟩

set_option maxHeartbeats 2000000 in
theorem window4_walk (a0 f0 t0 a d t : Nat) (ha0 : a0 < 18446744073709551616) (hf0 : f0 < 18446744073709551616) (ht0 : t0 < 18446744073709551616) (ha : a0 % 1152921504606846976 = a) (hf : 1 + f0 % 1073741824 = d) (ht : t0 % d = t) (hlo : 8388608 < d) (w : World) :
    Calls Try.prog 6 #[.int .u64 (a0 : Int), .int .u64 (f0 : Int), .int .u64 (t0 : Int)] w fun e w' => e = .returned (.bool true) ∧ Below w.heap.size w w' := by
  have hd30 : d ≤ 1073741824 := by omega
  have hab : a < 1152921504606846976 := by omega
  have htb : t < d := by rw [← ht]; exact Nat.mod_lt _ (by omega)
  have e1 := and_u64 a0 1152921504606846975 a ha0 (by omega) 1152921504606846975 rfl (by rw [← ha]; exact Nat.and_two_pow_sub_one_eq_mod a0 60)
  obtain ⟨f1, hf1⟩ : ∃ f1, f0 % 1073741824 = f1 := ⟨_, rfl⟩
  have e2 := and_u64 f0 1073741823 f1 hf0 (by omega) 1073741823 rfl (by rw [← hf1]; exact Nat.and_two_pow_sub_one_eq_mod f0 30)
  have e3 : (1 : Int) + (f1 : Int) = (d : Int) := by omega
  obtain ⟨m, hm⟩ : ∃ m, a + d = m := ⟨_, rfl⟩
  have e4 : (a : Int) + (d : Int) = (m : Int) := by omega
  obtain ⟨g, hg⟩ : ∃ g, a + t = g := ⟨_, rfl⟩
  have e5 : (a : Int) + (t : Int) = (g : Int) := by omega
  have e6 : (t0 : Int).tmod (d : Int) = (t : Int) := by rw [← ht]; rfl
  obtain ⟨q, hq⟩ : ∃ q, m % 4294967296 = q := ⟨_, rfl⟩
  have e7 := and_u64 m 4294967295 q (by omega) (by omega) 4294967295 rfl (by rw [← hq]; exact Nat.and_two_pow_sub_one_eq_mod m 32)
  have HC := Lib.hid (cut_any m a true (by omega) (by omega))
  have hcv : cutV m a true = 4 := by
    unfold cutV
    rw [if_pos rfl, show m - a = d by omega]
    have := cutN_cases d
    omega
  rw [hcv] at HC
  have HC : Hid (∀ u, Calls Try.prog 21 #[.int .u64 (m : Int), .int .u64 (a : Int), .bool true] u fun e w' => e = .returned (.int .i64 4) ∧ u = w') := HC.out
  have hfv : fullV q 4 g true = m := by
    unfold fullV
    rw [if_neg (by omega), if_pos rfl]
    refine full_back 4 (g + 1) m q (by omega) (by omega) (by omega) ?_ (by omega) ?_
    · show m - (g + 1) < 2147483648
      omega
    · show q % 4294967296 = m % 4294967296
      omega
  have HFU := Lib.hid (full4_any q g true (by omega) (by omega))
  rw [hfv] at HFU
  have t1 : decide ((2 : Int) * (d : Int) ≤ 16777216) = false := by simp; omega
  have t2 : ((m : Int) == (m : Int)) = true := by simp
  have hd0 : 0 < d := by omega
  have hdz : ((d : Int) == 0) = false := by simp; omega
  have hdz2 : ¬ (d : Int) = 0 := by omega
  have hmb : m < 18446744073709551616 := by omega
  have hgb : g < 18446744073709551616 := by omega
  have hdb : d < 4294967296 := by omega
  clear ha hf ht hm hg hq hcv hfv hf1 hlo hd30 hab htb ha0 hf0 ht0
  go_enter Try.func6, Try.ntmps6
  go_wp2_with (first
    | (go_at_call 21; (with_reducible refine (HC.out _).mono ?_); rintro e w' ⟨rfl, rfl⟩)
    | (go_at_call 23; (with_reducible refine (HFU.out _).mono ?_); rintro e w' ⟨rfl, rfl⟩)
    | (go_at_call 9; (with_reducible refine (awake_any _).mono ?_); rintro e w1 ⟨rfl, b1⟩))
  go_ret
  exact ⟨rfl, b1⟩

theorem window_any (a0 f0 t0 : Nat) (ha0 : a0 < 18446744073709551616) (hf0 : f0 < 18446744073709551616) (ht0 : t0 < 18446744073709551616) (w : World) :
    Calls Try.prog 6 #[.int .u64 (a0 : Int), .int .u64 (f0 : Int), .int .u64 (t0 : Int)] w fun e w' => e = .returned (.bool true) ∧ Below w.heap.size w w' := by
  obtain ⟨d, hd⟩ : ∃ d, 1 + f0 % 1073741824 = d := ⟨_, rfl⟩
  have h : (0 < d ∧ d ≤ 128) ∨ (128 < d ∧ d ≤ 32768) ∨ (32768 < d ∧ d ≤ 8388608) ∨ 8388608 < d := by omega
  rcases h with ⟨h1, h2⟩ | ⟨h1, h2⟩ | ⟨h1, h2⟩ | h1
  · exact window1_walk a0 f0 t0 _ d _ ha0 hf0 ht0 rfl hd rfl h1 h2 w
  · exact window2_walk a0 f0 t0 _ d _ ha0 hf0 ht0 rfl hd rfl h1 h2 w
  · exact window3_walk a0 f0 t0 _ d _ ha0 hf0 ht0 rfl hd rfl h1 h2 w
  · exact window4_walk a0 f0 t0 _ d _ ha0 hf0 ht0 rfl hd rfl h1 w
end Go.Proofs.Ytonoljcgcfjkmaa
