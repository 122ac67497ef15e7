/-
  The walk through HeaderNumbers.
-/
import Derived.Test.YtonoljcgcfjkmaaHdM
import Derived.Test.YtonoljcgcfjkmaaHdV
namespace Go.Proofs.Ytonoljcgcfjkmaa
open Go.RowKit
set_option linter.unusedVariables false

theorem half_small (n : Nat) : halfV n ≤ 2147483648 := by unfold halfV; split <;> (try split) <;> (try split) <;> omega
theorem full_same (cut n largest : Nat) (any : Bool) : fullV cut n largest any = rfullV cut n largest any := by
  unfold fullV rfullV pickV rpickV
  have h := half_small n
  split
  · rfl
  · generalize halfV n = H at *
    generalize (if any = true then largest + 1 else 0) = next
    generalize nearV n next cut = c
    by_cases h1 : c + H ≤ next ∧ c ≤ 4611686018427387903 - 2 * H
    · rw [if_pos h1, if_pos (show H ≤ next ∧ c ≤ next - H ∧ c < 4611686018427387904 - 2 * H by omega)]
    · rw [if_neg h1, if_neg (show ¬ (H ≤ next ∧ c ≤ next - H ∧ c < 4611686018427387904 - 2 * H) by omega)]
/-- the program's number and the document's are one -/
theorem full_both (cut num : Nat) (any : Bool) (n : Int) (hc : cut < 18446744073709551616) :
    ∃ F : Nat, (∀ w, Calls Try.prog 23 #[.int .u64 (cut : Int), .int .i64 n, .int .u64 (num : Int), .bool any] w fun e w' => e = .returned (.int .u64 (F : Int)) ∧ w = w') ∧
      ∀ w, Calls Try.prog 24 #[.int .u64 (cut : Int), .int .i64 n, .int .u64 (num : Int), .bool any] w fun e w' => e = .returned (.int .u64 (F : Int)) ∧ w = w' := by
  by_cases h : n < 1 ∨ 4 < n ∨ 4611686018427387903 < num
  · exact ⟨0, fun w => full_no cut num n any h w, fun w => rfull_no cut num n any h w⟩
  · obtain ⟨k, rfl⟩ : ∃ k : Nat, n = (k : Int) := ⟨n.toNat, by omega⟩
    refine ⟨fullV cut k num any, fun w => full_any cut k num any hc (by omega) (by omega) (by omega) w, fun w => ?_⟩
    rw [full_same]
    exact rfull_any cut k num any hc (by omega) (by omega) (by omega) w

set_option maxHeartbeats 4000000 in
theorem numbers1_walk (num acked cut far : Nat) (any : Bool) (N : Int) (hn0 : num < 18446744073709551616) (ha0 : acked < 18446744073709551616) (hc0 : cut < 18446744073709551616) (hf0 : far < 18446744073709551616) (a d : Nat) (ha : acked % 2305843009213693952 = a) (hf : 1 + far % 1073741824 = d) (hlo : 0 < d) (hhi : d ≤ 128) (w : World) :
    Calls Try.prog 5 #[.int .u64 (num : Int), .int .u64 (acked : Int), .bool any, .int .u64 (cut : Int), .int .i64 N, .int .u64 (far : Int)] w fun e w' => e = .returned (.bool true) ∧ Below w.heap.size w w' := by
  have hd30 : d ≤ 1073741824 := by omega
  have hab : a < 2305843009213693952 := by omega
  obtain ⟨F, hF1, hF2⟩ := full_both cut num any N hc0
  have HF1 := Lib.hid hF1
  have HF2 := Lib.hid hF2
  clear hF1 hF2
  obtain ⟨C, hC⟩ : ∃ C, cutV num acked any = C := ⟨_, rfl⟩
  have HC1 := Lib.hid (cut_any num acked any hn0 ha0)
  have HC2 := Lib.hid (rcut_any num acked any hn0 ha0)
  rw [hC] at HC1 HC2
  have e1 := and_u64 acked 2305843009213693951 a ha0 (by omega) 2305843009213693951 rfl (by rw [← ha]; exact Nat.and_two_pow_sub_one_eq_mod acked 61)
  obtain ⟨f1, hf1⟩ : ∃ f1, far % 1073741824 = f1 := ⟨_, rfl⟩
  have e2 := and_u64 far 1073741823 f1 hf0 (by omega) 1073741823 rfl (by rw [← hf1]; exact Nat.and_two_pow_sub_one_eq_mod far 30)
  obtain ⟨a1, ha1⟩ : ∃ a1, a + 1 = a1 := ⟨_, rfl⟩
  have e3 : (a : Int) + 1 = (a1 : Int) := by omega
  obtain ⟨m, hm⟩ : ∃ m, a + d = m := ⟨_, rfl⟩
  have e4 : (a1 : Int) + (f1 : Int) = (m : Int) := by omega
  obtain ⟨q, hq⟩ : ∃ q, m % 256 = q := ⟨_, rfl⟩
  have e7 := and_u64 m 255 q (by omega) (by omega) 255 rfl (by rw [← hq]; exact Nat.and_two_pow_sub_one_eq_mod m 8)
  have HC := Lib.hid (cut_any m a true (by omega) (by omega))
  have hcv : cutV m a true = 1 := by
    unfold cutV
    rw [if_pos rfl, show m - a = d by omega]
    have := cutN_cases d
    omega
  rw [hcv] at HC
  have HC : Hid (∀ u, Calls Try.prog 21 #[.int .u64 (m : Int), .int .u64 (a : Int), .bool true] u fun e w' => e = .returned (.int .i64 1) ∧ u = w') := HC.out
  have hfv : ∀ x, x % 256 = m % 256 → fullV x 1 a true = m := fun x hx => by
    unfold fullV
    rw [if_neg (by omega), if_pos rfl]
    refine full_back 1 (a + 1) m x (by omega) (by omega) (by omega) ?_ (by omega) hx
    show m - (a + 1) < 128
    omega
  have HFU := Lib.hid (full1_any q a true (by omega) (by omega))
  rw [hfv q (by omega)] at HFU
  have HFV := Lib.hid (full1_any m a true (by omega) (by omega))
  rw [hfv m rfl] at HFV
  have t2 : ((m : Int) == (m : Int)) = true := by simp
  have t3 : ((C : Int) != (C : Int)) = false := by simp
  have t4 : ((F : Int) != (F : Int)) = false := by simp
  have hmb : m < 18446744073709551616 := by omega
  have ha1b : a1 < 18446744073709551616 := by omega
  clear ha hf hm hq hcv hfv hf1 hlo hhi hd30 hab ha0 hf0 hn0 hc0 ha1 hC
  go_enter Try.func5, Try.ntmps5
  go_wp2_with (first
    | (go_at_call 21; (with_reducible refine (HC1.out _).mono ?_); rintro e w' ⟨rfl, rfl⟩)
    | (go_at_call 22; (with_reducible refine (HC2.out _).mono ?_); rintro e w' ⟨rfl, rfl⟩)
    | (go_at_call 23; (with_reducible refine (HF1.out _).mono ?_); rintro e w' ⟨rfl, rfl⟩)
    | (go_at_call 24; (with_reducible refine (HF2.out _).mono ?_); rintro e w' ⟨rfl, rfl⟩)
    | (go_at_call 21; (with_reducible refine (HC.out _).mono ?_); rintro e w' ⟨rfl, rfl⟩)
    | (go_at_call 23; (with_reducible refine (HFU.out _).mono ?_); rintro e w' ⟨rfl, rfl⟩)
    | (go_at_call 23; (with_reducible refine (HFV.out _).mono ?_); rintro e w' ⟨rfl, rfl⟩)
    | (go_at_call 9; (with_reducible refine (awake_any _).mono ?_); rintro e w1 ⟨rfl, b1⟩))
  go_ret
  exact ⟨rfl, b1⟩

set_option maxHeartbeats 4000000 in
theorem numbers2_walk (num acked cut far : Nat) (any : Bool) (N : Int) (hn0 : num < 18446744073709551616) (ha0 : acked < 18446744073709551616) (hc0 : cut < 18446744073709551616) (hf0 : far < 18446744073709551616) (a d : Nat) (ha : acked % 2305843009213693952 = a) (hf : 1 + far % 1073741824 = d) (hlo : 128 < d) (hhi : d ≤ 32768) (w : World) :
    Calls Try.prog 5 #[.int .u64 (num : Int), .int .u64 (acked : Int), .bool any, .int .u64 (cut : Int), .int .i64 N, .int .u64 (far : Int)] w fun e w' => e = .returned (.bool true) ∧ Below w.heap.size w w' := by
  have hd30 : d ≤ 1073741824 := by omega
  have hab : a < 2305843009213693952 := by omega
  obtain ⟨F, hF1, hF2⟩ := full_both cut num any N hc0
  have HF1 := Lib.hid hF1
  have HF2 := Lib.hid hF2
  clear hF1 hF2
  obtain ⟨C, hC⟩ : ∃ C, cutV num acked any = C := ⟨_, rfl⟩
  have HC1 := Lib.hid (cut_any num acked any hn0 ha0)
  have HC2 := Lib.hid (rcut_any num acked any hn0 ha0)
  rw [hC] at HC1 HC2
  have e1 := and_u64 acked 2305843009213693951 a ha0 (by omega) 2305843009213693951 rfl (by rw [← ha]; exact Nat.and_two_pow_sub_one_eq_mod acked 61)
  obtain ⟨f1, hf1⟩ : ∃ f1, far % 1073741824 = f1 := ⟨_, rfl⟩
  have e2 := and_u64 far 1073741823 f1 hf0 (by omega) 1073741823 rfl (by rw [← hf1]; exact Nat.and_two_pow_sub_one_eq_mod far 30)
  obtain ⟨a1, ha1⟩ : ∃ a1, a + 1 = a1 := ⟨_, rfl⟩
  have e3 : (a : Int) + 1 = (a1 : Int) := by omega
  obtain ⟨m, hm⟩ : ∃ m, a + d = m := ⟨_, rfl⟩
  have e4 : (a1 : Int) + (f1 : Int) = (m : Int) := by omega
  obtain ⟨q, hq⟩ : ∃ q, m % 65536 = q := ⟨_, rfl⟩
  have e7 := and_u64 m 65535 q (by omega) (by omega) 65535 rfl (by rw [← hq]; exact Nat.and_two_pow_sub_one_eq_mod m 16)
  have HC := Lib.hid (cut_any m a true (by omega) (by omega))
  have hcv : cutV m a true = 2 := by
    unfold cutV
    rw [if_pos rfl, show m - a = d by omega]
    have := cutN_cases d
    omega
  rw [hcv] at HC
  have HC : Hid (∀ u, Calls Try.prog 21 #[.int .u64 (m : Int), .int .u64 (a : Int), .bool true] u fun e w' => e = .returned (.int .i64 2) ∧ u = w') := HC.out
  have hfv : ∀ x, x % 65536 = m % 65536 → fullV x 2 a true = m := fun x hx => by
    unfold fullV
    rw [if_neg (by omega), if_pos rfl]
    refine full_back 2 (a + 1) m x (by omega) (by omega) (by omega) ?_ (by omega) hx
    show m - (a + 1) < 32768
    omega
  have HFU := Lib.hid (full2_any q a true (by omega) (by omega))
  rw [hfv q (by omega)] at HFU
  have HFV := Lib.hid (full2_any m a true (by omega) (by omega))
  rw [hfv m rfl] at HFV
  have t2 : ((m : Int) == (m : Int)) = true := by simp
  have t3 : ((C : Int) != (C : Int)) = false := by simp
  have t4 : ((F : Int) != (F : Int)) = false := by simp
  have hmb : m < 18446744073709551616 := by omega
  have ha1b : a1 < 18446744073709551616 := by omega
  clear ha hf hm hq hcv hfv hf1 hlo hhi hd30 hab ha0 hf0 hn0 hc0 ha1 hC
  go_enter Try.func5, Try.ntmps5
  go_wp2_with (first
    | (go_at_call 21; (with_reducible refine (HC1.out _).mono ?_); rintro e w' ⟨rfl, rfl⟩)
    | (go_at_call 22; (with_reducible refine (HC2.out _).mono ?_); rintro e w' ⟨rfl, rfl⟩)
    | (go_at_call 23; (with_reducible refine (HF1.out _).mono ?_); rintro e w' ⟨rfl, rfl⟩)
    | (go_at_call 24; (with_reducible refine (HF2.out _).mono ?_); rintro e w' ⟨rfl, rfl⟩)
    | (go_at_call 21; (with_reducible refine (HC.out _).mono ?_); rintro e w' ⟨rfl, rfl⟩)
    | (go_at_call 23; (with_reducible refine (HFU.out _).mono ?_); rintro e w' ⟨rfl, rfl⟩)
    | (go_at_call 23; (with_reducible refine (HFV.out _).mono ?_); rintro e w' ⟨rfl, rfl⟩)
    | (go_at_call 9; (with_reducible refine (awake_any _).mono ?_); rintro e w1 ⟨rfl, b1⟩))
  go_ret
  exact ⟨rfl, b1⟩

set_option maxHeartbeats 4000000 in
theorem numbers3_walk (num acked cut far : Nat) (any : Bool) (N : Int) (hn0 : num < 18446744073709551616) (ha0 : acked < 18446744073709551616) (hc0 : cut < 18446744073709551616) (hf0 : far < 18446744073709551616) (a d : Nat) (ha : acked % 2305843009213693952 = a) (hf : 1 + far % 1073741824 = d) (hlo : 32768 < d) (hhi : d ≤ 8388608) (w : World) :
    Calls Try.prog 5 #[.int .u64 (num : Int), .int .u64 (acked : Int), .bool any, .int .u64 (cut : Int), .int .i64 N, .int .u64 (far : Int)] w fun e w' => e = .returned (.bool true) ∧ Below w.heap.size w w' := by
  have hd30 : d ≤ 1073741824 := by omega
  have hab : a < 2305843009213693952 := by omega
  obtain ⟨F, hF1, hF2⟩ := full_both cut num any N hc0
  have HF1 := Lib.hid hF1
  have HF2 := Lib.hid hF2
  clear hF1 hF2
  obtain ⟨C, hC⟩ : ∃ C, cutV num acked any = C := ⟨_, rfl⟩
  have HC1 := Lib.hid (cut_any num acked any hn0 ha0)
  have HC2 := Lib.hid (rcut_any num acked any hn0 ha0)
  rw [hC] at HC1 HC2
  have e1 := and_u64 acked 2305843009213693951 a ha0 (by omega) 2305843009213693951 rfl (by rw [← ha]; exact Nat.and_two_pow_sub_one_eq_mod acked 61)
  obtain ⟨f1, hf1⟩ : ∃ f1, far % 1073741824 = f1 := ⟨_, rfl⟩
  have e2 := and_u64 far 1073741823 f1 hf0 (by omega) 1073741823 rfl (by rw [← hf1]; exact Nat.and_two_pow_sub_one_eq_mod far 30)
  obtain ⟨a1, ha1⟩ : ∃ a1, a + 1 = a1 := ⟨_, rfl⟩
  have e3 : (a : Int) + 1 = (a1 : Int) := by omega
  obtain ⟨m, hm⟩ : ∃ m, a + d = m := ⟨_, rfl⟩
  have e4 : (a1 : Int) + (f1 : Int) = (m : Int) := by omega
  obtain ⟨q, hq⟩ : ∃ q, m % 16777216 = q := ⟨_, rfl⟩
  have e7 := and_u64 m 16777215 q (by omega) (by omega) 16777215 rfl (by rw [← hq]; exact Nat.and_two_pow_sub_one_eq_mod m 24)
  have HC := Lib.hid (cut_any m a true (by omega) (by omega))
  have hcv : cutV m a true = 3 := by
    unfold cutV
    rw [if_pos rfl, show m - a = d by omega]
    have := cutN_cases d
    omega
  rw [hcv] at HC
  have HC : Hid (∀ u, Calls Try.prog 21 #[.int .u64 (m : Int), .int .u64 (a : Int), .bool true] u fun e w' => e = .returned (.int .i64 3) ∧ u = w') := HC.out
  have hfv : ∀ x, x % 16777216 = m % 16777216 → fullV x 3 a true = m := fun x hx => by
    unfold fullV
    rw [if_neg (by omega), if_pos rfl]
    refine full_back 3 (a + 1) m x (by omega) (by omega) (by omega) ?_ (by omega) hx
    show m - (a + 1) < 8388608
    omega
  have HFU := Lib.hid (full3_any q a true (by omega) (by omega))
  rw [hfv q (by omega)] at HFU
  have HFV := Lib.hid (full3_any m a true (by omega) (by omega))
  rw [hfv m rfl] at HFV
  have t2 : ((m : Int) == (m : Int)) = true := by simp
  have t3 : ((C : Int) != (C : Int)) = false := by simp
  have t4 : ((F : Int) != (F : Int)) = false := by simp
  have hmb : m < 18446744073709551616 := by omega
  have ha1b : a1 < 18446744073709551616 := by omega
  clear ha hf hm hq hcv hfv hf1 hlo hhi hd30 hab ha0 hf0 hn0 hc0 ha1 hC
  go_enter Try.func5, Try.ntmps5
  go_wp2_with (first
    | (go_at_call 21; (with_reducible refine (HC1.out _).mono ?_); rintro e w' ⟨rfl, rfl⟩)
    | (go_at_call 22; (with_reducible refine (HC2.out _).mono ?_); rintro e w' ⟨rfl, rfl⟩)
    | (go_at_call 23; (with_reducible refine (HF1.out _).mono ?_); rintro e w' ⟨rfl, rfl⟩)
    | (go_at_call 24; (with_reducible refine (HF2.out _).mono ?_); rintro e w' ⟨rfl, rfl⟩)
    | (go_at_call 21; (with_reducible refine (HC.out _).mono ?_); rintro e w' ⟨rfl, rfl⟩)
    | (go_at_call 23; (with_reducible refine (HFU.out _).mono ?_); rintro e w' ⟨rfl, rfl⟩)
    | (go_at_call 23; (with_reducible refine (HFV.out _).mono ?_); rintro e w' ⟨rfl, rfl⟩)
    | (go_at_call 9; (with_reducible refine (awake_any _).mono ?_); rintro e w1 ⟨rfl, b1⟩))
  go_ret
  exact ⟨rfl, b1⟩

set_option maxHeartbeats 4000000 in
theorem numbers4_walk (num acked cut far : Nat) (any : Bool) (N : Int) (hn0 : num < 18446744073709551616) (ha0 : acked < 18446744073709551616) (hc0 : cut < 18446744073709551616) (hf0 : far < 18446744073709551616) (a d : Nat) (ha : acked % 2305843009213693952 = a) (hf : 1 + far % 1073741824 = d) (hlo : 8388608 < d) (w : World) :
    Calls Try.prog 5 #[.int .u64 (num : Int), .int .u64 (acked : Int), .bool any, .int .u64 (cut : Int), .int .i64 N, .int .u64 (far : Int)] w fun e w' => e = .returned (.bool true) ∧ Below w.heap.size w w' := by
  have hd30 : d ≤ 1073741824 := by omega
  have hab : a < 2305843009213693952 := by omega
  obtain ⟨F, hF1, hF2⟩ := full_both cut num any N hc0
  have HF1 := Lib.hid hF1
  have HF2 := Lib.hid hF2
  clear hF1 hF2
  obtain ⟨C, hC⟩ : ∃ C, cutV num acked any = C := ⟨_, rfl⟩
  have HC1 := Lib.hid (cut_any num acked any hn0 ha0)
  have HC2 := Lib.hid (rcut_any num acked any hn0 ha0)
  rw [hC] at HC1 HC2
  have e1 := and_u64 acked 2305843009213693951 a ha0 (by omega) 2305843009213693951 rfl (by rw [← ha]; exact Nat.and_two_pow_sub_one_eq_mod acked 61)
  obtain ⟨f1, hf1⟩ : ∃ f1, far % 1073741824 = f1 := ⟨_, rfl⟩
  have e2 := and_u64 far 1073741823 f1 hf0 (by omega) 1073741823 rfl (by rw [← hf1]; exact Nat.and_two_pow_sub_one_eq_mod far 30)
  obtain ⟨a1, ha1⟩ : ∃ a1, a + 1 = a1 := ⟨_, rfl⟩
  have e3 : (a : Int) + 1 = (a1 : Int) := by omega
  obtain ⟨m, hm⟩ : ∃ m, a + d = m := ⟨_, rfl⟩
  have e4 : (a1 : Int) + (f1 : Int) = (m : Int) := by omega
  obtain ⟨q, hq⟩ : ∃ q, m % 4294967296 = q := ⟨_, rfl⟩
  have e7 := and_u64 m 4294967295 q (by omega) (by omega) 4294967295 rfl (by rw [← hq]; exact Nat.and_two_pow_sub_one_eq_mod m 32)
  have HC := Lib.hid (cut_any m a true (by omega) (by omega))
  have hcv : cutV m a true = 4 := by
    unfold cutV
    rw [if_pos rfl, show m - a = d by omega]
    have := cutN_cases d
    omega
  rw [hcv] at HC
  have HC : Hid (∀ u, Calls Try.prog 21 #[.int .u64 (m : Int), .int .u64 (a : Int), .bool true] u fun e w' => e = .returned (.int .i64 4) ∧ u = w') := HC.out
  have hfv : ∀ x, x % 4294967296 = m % 4294967296 → fullV x 4 a true = m := fun x hx => by
    unfold fullV
    rw [if_neg (by omega), if_pos rfl]
    refine full_back 4 (a + 1) m x (by omega) (by omega) (by omega) ?_ (by omega) hx
    show m - (a + 1) < 2147483648
    omega
  have HFU := Lib.hid (full4_any q a true (by omega) (by omega))
  rw [hfv q (by omega)] at HFU
  have HFV := Lib.hid (full4_any m a true (by omega) (by omega))
  rw [hfv m rfl] at HFV
  have t2 : ((m : Int) == (m : Int)) = true := by simp
  have t3 : ((C : Int) != (C : Int)) = false := by simp
  have t4 : ((F : Int) != (F : Int)) = false := by simp
  have hmb : m < 18446744073709551616 := by omega
  have ha1b : a1 < 18446744073709551616 := by omega
  clear ha hf hm hq hcv hfv hf1 hlo hd30 hab ha0 hf0 hn0 hc0 ha1 hC
  go_enter Try.func5, Try.ntmps5
  go_wp2_with (first
    | (go_at_call 21; (with_reducible refine (HC1.out _).mono ?_); rintro e w' ⟨rfl, rfl⟩)
    | (go_at_call 22; (with_reducible refine (HC2.out _).mono ?_); rintro e w' ⟨rfl, rfl⟩)
    | (go_at_call 23; (with_reducible refine (HF1.out _).mono ?_); rintro e w' ⟨rfl, rfl⟩)
    | (go_at_call 24; (with_reducible refine (HF2.out _).mono ?_); rintro e w' ⟨rfl, rfl⟩)
    | (go_at_call 21; (with_reducible refine (HC.out _).mono ?_); rintro e w' ⟨rfl, rfl⟩)
    | (go_at_call 23; (with_reducible refine (HFU.out _).mono ?_); rintro e w' ⟨rfl, rfl⟩)
    | (go_at_call 23; (with_reducible refine (HFV.out _).mono ?_); rintro e w' ⟨rfl, rfl⟩)
    | (go_at_call 9; (with_reducible refine (awake_any _).mono ?_); rintro e w1 ⟨rfl, b1⟩))
  go_ret
  exact ⟨rfl, b1⟩

theorem numbers_any (num acked cut far : Nat) (any : Bool) (N : Int) (hn0 : num < 18446744073709551616) (ha0 : acked < 18446744073709551616) (hc0 : cut < 18446744073709551616) (hf0 : far < 18446744073709551616) (w : World) :
    Calls Try.prog 5 #[.int .u64 (num : Int), .int .u64 (acked : Int), .bool any, .int .u64 (cut : Int), .int .i64 N, .int .u64 (far : Int)] w fun e w' => e = .returned (.bool true) ∧ Below w.heap.size w w' := by
  obtain ⟨d, hd⟩ : ∃ d, 1 + far % 1073741824 = d := ⟨_, rfl⟩
  have h : (0 < d ∧ d ≤ 128) ∨ (128 < d ∧ d ≤ 32768) ∨ (32768 < d ∧ d ≤ 8388608) ∨ 8388608 < d := by omega
  rcases h with ⟨h1, h2⟩ | ⟨h1, h2⟩ | ⟨h1, h2⟩ | h1
  · exact numbers1_walk num acked cut far any N hn0 ha0 hc0 hf0 _ d rfl hd h1 h2 w
  · exact numbers2_walk num acked cut far any N hn0 ha0 hc0 hf0 _ d rfl hd h1 h2 w
  · exact numbers3_walk num acked cut far any N hn0 ha0 hc0 hf0 _ d rfl hd h1 h2 w
  · exact numbers4_walk num acked cut far any N hn0 ha0 hc0 hf0 _ d rfl hd h1 w
end Go.Proofs.Ytonoljcgcfjkmaa
