/-
  The document's own numbers cut and found again: the contracts of its Cut and Full.
-/
import Derived.Test.YtonoljcgcfjkmaaHdK
namespace Go.Proofs.Ytonoljcgcfjkmaa
open Go.RowKit
set_option linter.unusedVariables false

/-- as RFC 9000, A.3 tells -/
def rpickV (n next c : Nat) : Nat := if halfV n ≤ next ∧ c ≤ next - halfV n ∧ c < 4611686018427387904 - 2 * halfV n then c + 2 * halfV n else if next + halfV n < c ∧ 2 * halfV n ≤ c then c - 2 * halfV n else c
def rfullV (cut n largest : Nat) (any : Bool) : Nat :=
  if 4611686018427387903 < largest then 0 else rpickV n (if any = true then largest + 1 else 0) (nearV n (if any = true then largest + 1 else 0) cut)

set_option maxHeartbeats 4000000 in
theorem rcut_any (num acked : Nat) (any : Bool) (hn : num < 18446744073709551616) (ha : acked < 18446744073709551616) (w : World) :
    Calls Try.prog 22 #[.int .u64 (num : Int), .int .u64 (acked : Int), .bool any] w fun e w' => e = .returned (.int .i64 (cutV num acked any : Nat)) ∧ w = w' := by
  obtain ⟨d, hd⟩ : ∃ d, (if any = true then num - acked else if num < 9223372036854775808 then num + 1 else num) = d := ⟨_, rfl⟩
  obtain ⟨r, hr⟩ : ∃ r, cutV num acked any = r := ⟨_, rfl⟩
  rw [hr]
  have hc := cutN_cases d
  have hdr : cutN d = r := by
    rw [← hr]
    unfold cutV
    cases any
    · simp only [Bool.false_eq_true, if_false] at hd ⊢
      have h1 := cutN_cases (min num 4611686018427387903 + 1)
      split at hd <;> omega
    · simp only [if_true] at hd ⊢
      rw [hd]
  rw [hdr] at hc
  have HC := Lib.hid hc
  have hd64 : d < 18446744073709551616 := by rw [← hd]; split <;> (try split) <;> omega
  have hw : (any = false ∧ decide ((num : Int) < 9223372036854775808) = true ∧ (num : Int) + 1 = (d : Int)) ∨ (any = false ∧ decide ((num : Int) < 9223372036854775808) = false ∧ d = num) ∨ (any = true ∧ ¬ num < acked ∧ (num : Int) - (acked : Int) = (d : Int)) ∨ (any = true ∧ num < acked ∧ d = 0) := by
    cases any
    · simp only [Bool.false_eq_true, if_false] at hd
      by_cases h : num < 9223372036854775808
      · rw [if_pos h] at hd
        exact .inl ⟨rfl, by simp; omega, by omega⟩
      · rw [if_neg h] at hd
        exact .inr (.inl ⟨rfl, by simp; omega, hd.symm⟩)
    · simp only [if_true] at hd
      by_cases h : num < acked
      · exact .inr (.inr (.inr ⟨rfl, h, by omega⟩))
      · exact .inr (.inr (.inl ⟨rfl, h, by omega⟩))
  clear hd hr hc hdr
  rcases hw with ⟨rfl, hlt, hm⟩ | ⟨rfl, hlt, rfl⟩ | ⟨rfl, hlt, hm⟩ | ⟨rfl, hlt, rfl⟩
  · skip
    go_enter Try.func22, Try.ntmps22
    go_wp2_with fail
    clear hlt
    go_loop [8] (fun v => ∃ k : Nat, 1 ≤ k ∧ k ≤ r ∧ v = .int .i64 k) (fun v => 4 - (intOf v).toNat)
    case atStart => exact ⟨1, by omega, by have := HC.out; omega, rfl⟩
    case round =>
      obtain ⟨k, hk1, hkr, rfl⟩ := hrel
      have hr4 : r ≤ 4 := by have := HC.out; omega
      have h4 : k = 1 ∨ k = 2 ∨ k = 3 ∨ k = 4 := by omega
      rcases h4 with rfl | rfl | rfl | rfl
      · by_cases hkk : r = 1
        · have t : d ≤ 128 := by have := HC.out; omega
          go_wp2_with fail
          go_ret
          exact ⟨by first | rfl | (rw [hkk]; rfl), rfl⟩
        · have t : ¬ d ≤ 128 := by have := HC.out; omega
          go_wp2_with fail
          go_round
          case rel => exact ⟨2, by omega, by omega, rfl⟩
          case measure => simp [intOf]
      · by_cases hkk : r = 2
        · have t : d ≤ 32768 := by have := HC.out; omega
          go_wp2_with fail
          go_ret
          exact ⟨by first | rfl | (rw [hkk]; rfl), rfl⟩
        · have t : ¬ d ≤ 32768 := by have := HC.out; omega
          go_wp2_with fail
          go_round
          case rel => exact ⟨3, by omega, by omega, rfl⟩
          case measure => simp [intOf]
      · by_cases hkk : r = 3
        · have t : d ≤ 8388608 := by have := HC.out; omega
          go_wp2_with fail
          go_ret
          exact ⟨by first | rfl | (rw [hkk]; rfl), rfl⟩
        · have t : ¬ d ≤ 8388608 := by have := HC.out; omega
          go_wp2_with fail
          go_round
          case rel => exact ⟨4, by omega, by omega, rfl⟩
          case measure => simp [intOf]
      · go_wp2
        go_ret
        have hkk : r = 4 := by omega
        exact ⟨by first | rfl | (rw [hkk]; rfl), rfl⟩
  · skip
    go_enter Try.func22, Try.ntmps22
    go_wp2_with fail
    clear hlt
    go_loop [8] (fun v => ∃ k : Nat, 1 ≤ k ∧ k ≤ r ∧ v = .int .i64 k) (fun v => 4 - (intOf v).toNat)
    case atStart => exact ⟨1, by omega, by have := HC.out; omega, rfl⟩
    case round =>
      obtain ⟨k, hk1, hkr, rfl⟩ := hrel
      have hr4 : r ≤ 4 := by have := HC.out; omega
      have h4 : k = 1 ∨ k = 2 ∨ k = 3 ∨ k = 4 := by omega
      rcases h4 with rfl | rfl | rfl | rfl
      · by_cases hkk : r = 1
        · have t : d ≤ 128 := by have := HC.out; omega
          go_wp2_with fail
          go_ret
          exact ⟨by first | rfl | (rw [hkk]; rfl), rfl⟩
        · have t : ¬ d ≤ 128 := by have := HC.out; omega
          go_wp2_with fail
          go_round
          case rel => exact ⟨2, by omega, by omega, rfl⟩
          case measure => simp [intOf]
      · by_cases hkk : r = 2
        · have t : d ≤ 32768 := by have := HC.out; omega
          go_wp2_with fail
          go_ret
          exact ⟨by first | rfl | (rw [hkk]; rfl), rfl⟩
        · have t : ¬ d ≤ 32768 := by have := HC.out; omega
          go_wp2_with fail
          go_round
          case rel => exact ⟨3, by omega, by omega, rfl⟩
          case measure => simp [intOf]
      · by_cases hkk : r = 3
        · have t : d ≤ 8388608 := by have := HC.out; omega
          go_wp2_with fail
          go_ret
          exact ⟨by first | rfl | (rw [hkk]; rfl), rfl⟩
        · have t : ¬ d ≤ 8388608 := by have := HC.out; omega
          go_wp2_with fail
          go_round
          case rel => exact ⟨4, by omega, by omega, rfl⟩
          case measure => simp [intOf]
      · go_wp2
        go_ret
        have hkk : r = 4 := by omega
        exact ⟨by first | rfl | (rw [hkk]; rfl), rfl⟩
  · skip
    go_enter Try.func22, Try.ntmps22
    go_wp2_with fail
    go_loop [8] (fun v => ∃ k : Nat, 1 ≤ k ∧ k ≤ r ∧ v = .int .i64 k) (fun v => 4 - (intOf v).toNat)
    case atStart => exact ⟨1, by omega, by have := HC.out; omega, rfl⟩
    case round =>
      obtain ⟨k, hk1, hkr, rfl⟩ := hrel
      have hr4 : r ≤ 4 := by have := HC.out; omega
      have h4 : k = 1 ∨ k = 2 ∨ k = 3 ∨ k = 4 := by omega
      rcases h4 with rfl | rfl | rfl | rfl
      · by_cases hkk : r = 1
        · have t : d ≤ 128 := by have := HC.out; omega
          go_wp2_with fail
          go_ret
          exact ⟨by first | rfl | (rw [hkk]; rfl), rfl⟩
        · have t : ¬ d ≤ 128 := by have := HC.out; omega
          go_wp2_with fail
          go_round
          case rel => exact ⟨2, by omega, by omega, rfl⟩
          case measure => simp [intOf]
      · by_cases hkk : r = 2
        · have t : d ≤ 32768 := by have := HC.out; omega
          go_wp2_with fail
          go_ret
          exact ⟨by first | rfl | (rw [hkk]; rfl), rfl⟩
        · have t : ¬ d ≤ 32768 := by have := HC.out; omega
          go_wp2_with fail
          go_round
          case rel => exact ⟨3, by omega, by omega, rfl⟩
          case measure => simp [intOf]
      · by_cases hkk : r = 3
        · have t : d ≤ 8388608 := by have := HC.out; omega
          go_wp2_with fail
          go_ret
          exact ⟨by first | rfl | (rw [hkk]; rfl), rfl⟩
        · have t : ¬ d ≤ 8388608 := by have := HC.out; omega
          go_wp2_with fail
          go_round
          case rel => exact ⟨4, by omega, by omega, rfl⟩
          case measure => simp [intOf]
      · go_wp2
        go_ret
        have hkk : r = 4 := by omega
        exact ⟨by first | rfl | (rw [hkk]; rfl), rfl⟩
  · go_enter Try.func22, Try.ntmps22
    go_wp2_with fail
    go_ret
    have hkk : r = 1 := by have := HC.out; omega
    exact ⟨by first | rfl | (rw [hkk]; rfl), rfl⟩

set_option maxRecDepth 8000 in
set_option maxHeartbeats 4000000 in
theorem rfull1_any (cut largest : Nat) (any : Bool) (hc : cut < 18446744073709551616) (hl : largest ≤ 4611686018427387903) (w : World) :
    Calls Try.prog 24 #[.int .u64 (cut : Int), .int .i64 1, .int .u64 (largest : Int), .bool any] w fun e w' => e = .returned (.int .u64 (rfullV cut 1 largest any : Nat)) ∧ w = w' := by
  have t1 : decide ((4611686018427387903 : Int) < (largest : Int)) = false := by simp; omega
  obtain ⟨N0, hN0⟩ : ∃ N0 : Nat, (if any = true then largest + 1 else 0) = N0 := ⟨_, rfl⟩
  have hNb : N0 < 4611686018427387905 := by rw [← hN0]; split <;> omega
  obtain ⟨p, q, c, e1, e2, e3, hcd, hcb⟩ := near_bits 1 8 256 255 (by decide) (by decide) (by decide) (by decide) N0 cut hNb hc
  have e1 : bits .andNot .u64 (N0 : Int) 255 = (p : Int) := e1
  have e2 : bits .and .u64 (cut : Int) 255 = (q : Int) := e2
  obtain ⟨R, hR⟩ : ∃ R, rfullV cut 1 largest any = R := ⟨_, rfl⟩
  have hR2 : R = if 128 ≤ N0 ∧ c ≤ N0 - 128 ∧ c < 4611686018427387648 then c + 256 else if N0 + 128 < c ∧ 256 ≤ c then c - 256 else c := by
    rw [← hR]
    unfold rfullV
    rw [if_neg (by omega), hN0]
    have e : nearV 1 N0 cut = c := by rw [hcd]; rfl
    rw [e]
    rfl
  rw [hR]
  have hWR : IntKind.u64.wrap (N0 : Int) = (N0 : Int) := IntWalk.u64_in _ (by omega)
  have hi : any = true → (largest : Int) + 1 = (N0 : Int) := fun h => by rw [← hN0, if_pos h]; omega
  have hi0 : any = false → N0 = 0 := fun h => by rw [← hN0, if_neg (by simp [h])]
  obtain ⟨s, hs⟩ : ∃ s : Nat, s = N0 + 128 := ⟨_, rfl⟩
  have hsw : IntKind.u64.wrap ((N0 : Int) + 128) = (s : Int) := by rw [show (N0 : Int) + 128 = (s : Int) by omega]; exact IntWalk.u64_in _ (by omega)
  have hcN : N0 ≤ c + 256 := by rw [hcd]; have := Nat.div_add_mod N0 256; have := Nat.mod_lt N0 (show 0 < 256 by omega); omega
  have hdown : 256 ≤ c → IntKind.u64.wrap ((c : Int) - 256) = ((c - 256 : Nat) : Int) := fun h => by rw [show (c : Int) - 256 = ((c - 256 : Nat) : Int) by omega]; exact IntWalk.u64_in _ (by omega)
  have hup : IntKind.u64.wrap ((c : Int) + 256) = ((c + 256 : Nat) : Int) := IntWalk.u64_in _ (by omega)
  have hlow : 128 ≤ N0 → IntKind.u64.wrap ((N0 : Int) - 128) = ((N0 - 128 : Nat) : Int) := fun h => by rw [show (N0 : Int) - 128 = ((N0 - 128 : Nat) : Int) by omega]; exact IntWalk.u64_in _ (by omega)
  have hrest : ¬ (128 ≤ N0 ∧ c ≤ N0 - 128 ∧ c < 4611686018427387648) → (decide ((s : Int) < (c : Int)) = true ∧ decide ((256 : Int) ≤ (c : Int)) = true ∧ IntKind.u64.wrap ((c : Int) - 256) = (R : Int)) ∨ (decide ((s : Int) < (c : Int)) = true ∧ decide ((256 : Int) ≤ (c : Int)) = false ∧ R = c) ∨ (decide ((s : Int) < (c : Int)) = false ∧ R = c) := by
    intro h
    rw [if_neg h, ← hs] at hR2
    simp only [decide_eq_true_eq, decide_eq_false_iff_not]
    by_cases h1 : s < c
    · by_cases h2 : 256 ≤ c
      · rw [if_pos ⟨h1, h2⟩] at hR2
        exact .inl ⟨by omega, by omega, by rw [hR2]; exact hdown h2⟩
      · rw [if_neg (fun h => h2 h.2)] at hR2
        exact .inr (.inl ⟨by omega, by omega, hR2⟩)
    · rw [if_neg (fun h => h1 h.1)] at hR2
      exact .inr (.inr ⟨by omega, hR2⟩)
  have hways : (decide ((128 : Int) ≤ (N0 : Int)) = true ∧ ∃ m : Nat, IntKind.u64.wrap ((N0 : Int) - 128) = (m : Int) ∧ ((decide ((c : Int) ≤ (m : Int)) = true ∧ ((decide ((c : Int) < 4611686018427387648) = true ∧ IntKind.u64.wrap ((c : Int) + 256) = (R : Int)) ∨ (decide ((c : Int) < 4611686018427387648) = false ∧ decide ((s : Int) < (c : Int)) = false ∧ R = c))) ∨
        (decide ((c : Int) ≤ (m : Int)) = false ∧ ((decide ((s : Int) < (c : Int)) = true ∧ decide ((256 : Int) ≤ (c : Int)) = true ∧ IntKind.u64.wrap ((c : Int) - 256) = (R : Int)) ∨ (decide ((s : Int) < (c : Int)) = true ∧ decide ((256 : Int) ≤ (c : Int)) = false ∧ R = c) ∨ (decide ((s : Int) < (c : Int)) = false ∧ R = c))))) ∨
      (decide ((128 : Int) ≤ (N0 : Int)) = false ∧ ((decide ((s : Int) < (c : Int)) = true ∧ decide ((256 : Int) ≤ (c : Int)) = true ∧ IntKind.u64.wrap ((c : Int) - 256) = (R : Int)) ∨ (decide ((s : Int) < (c : Int)) = true ∧ decide ((256 : Int) ≤ (c : Int)) = false ∧ R = c) ∨ (decide ((s : Int) < (c : Int)) = false ∧ R = c))) := by
    by_cases h1 : 128 ≤ N0
    · refine .inl ⟨decide_eq_true (by omega), N0 - 128, hlow h1, ?_⟩
      by_cases h2 : c ≤ N0 - 128
      · refine .inl ⟨decide_eq_true (by omega), ?_⟩
        by_cases h3 : c < 4611686018427387648
        · rw [if_pos ⟨h1, h2, h3⟩] at hR2
          exact .inl ⟨decide_eq_true (by omega), by rw [hR2]; exact hup⟩
        · rw [if_neg (fun h => h3 h.2.2), if_neg (by omega)] at hR2
          exact .inr ⟨decide_eq_false (by omega), decide_eq_false (by omega), hR2⟩
      · exact .inr ⟨decide_eq_false (by omega), hrest (fun h => h2 h.2.1)⟩
    · exact .inr ⟨decide_eq_false (by omega), hrest (fun h => h1 h.1)⟩
  clear hR2 hcN hNb hrest hup hdown hlow hc hcb hl hR hN0 hcd
  cases any
  · obtain rfl := hi0 rfl
    clear hi hi0 hsw hWR
    have hs0 : (s : Int) = 128 := by omega
    clear hs
    simp only [Int.ofNat_zero, hs0] at e1 hways
    clear hs0
    rcases hways with ⟨d0, _⟩ | ⟨d0, ⟨d1, d2, hR⟩ | ⟨d1, d2, rfl⟩ | ⟨d1, rfl⟩⟩
    · simp at d0
    all_goals
      go_enter Try.func24, Try.ntmps24
      go_wp2_with fail
      go_ret
      exact ⟨by first | rfl | simp, rfl⟩
  · have hi1 := hi rfl
    clear hi hi0 hs
    have hB1 : IntKind.u64.wrap (4611686018427387904 - 256) = 4611686018427387648 := IntWalk.u64_in _ (by omega)
    have hB2 : IntKind.u64.wrap 4611686018427387648 = 4611686018427387648 := IntWalk.u64_in _ (by omega)
    rcases hways with ⟨d0, m, hm, ⟨d1, ⟨d2, hR⟩ | ⟨d2, d3, rfl⟩⟩ | ⟨d1, ⟨d2, d3, hR⟩ | ⟨d2, d3, rfl⟩ | ⟨d2, rfl⟩⟩⟩ | ⟨d0, ⟨d1, d2, hR⟩ | ⟨d1, d2, rfl⟩ | ⟨d1, rfl⟩⟩
    · replace d1 := Int.ofNat_le.mp (of_decide_eq_true d1)
      go_enter Try.func24, Try.ntmps24
      go_wp2_with fail
      go_ret
      exact ⟨by first | rfl | simp, rfl⟩
    · replace d1 := Int.ofNat_le.mp (of_decide_eq_true d1)
      replace d3 := mt Int.ofNat_lt.mpr (of_decide_eq_false d3)
      go_enter Try.func24, Try.ntmps24
      go_wp2_with fail
      go_ret
      exact ⟨by first | rfl | simp, rfl⟩
    · replace d1 := mt Int.ofNat_le.mpr (of_decide_eq_false d1)
      replace d2 := Int.ofNat_lt.mp (of_decide_eq_true d2)
      go_enter Try.func24, Try.ntmps24
      go_wp2_with fail
      go_ret
      exact ⟨by first | rfl | simp, rfl⟩
    · replace d1 := mt Int.ofNat_le.mpr (of_decide_eq_false d1)
      replace d2 := Int.ofNat_lt.mp (of_decide_eq_true d2)
      go_enter Try.func24, Try.ntmps24
      go_wp2_with fail
      go_ret
      exact ⟨by first | rfl | simp, rfl⟩
    · replace d1 := mt Int.ofNat_le.mpr (of_decide_eq_false d1)
      replace d2 := mt Int.ofNat_lt.mpr (of_decide_eq_false d2)
      go_enter Try.func24, Try.ntmps24
      go_wp2_with fail
      go_ret
      exact ⟨by first | rfl | simp, rfl⟩
    · replace d1 := Int.ofNat_lt.mp (of_decide_eq_true d1)
      go_enter Try.func24, Try.ntmps24
      go_wp2_with fail
      go_ret
      exact ⟨by first | rfl | simp, rfl⟩
    · replace d1 := Int.ofNat_lt.mp (of_decide_eq_true d1)
      go_enter Try.func24, Try.ntmps24
      go_wp2_with fail
      go_ret
      exact ⟨by first | rfl | simp, rfl⟩
    · replace d1 := mt Int.ofNat_lt.mpr (of_decide_eq_false d1)
      go_enter Try.func24, Try.ntmps24
      go_wp2_with fail
      go_ret
      exact ⟨by first | rfl | simp, rfl⟩
set_option maxRecDepth 8000 in
set_option maxHeartbeats 4000000 in
theorem rfull2_any (cut largest : Nat) (any : Bool) (hc : cut < 18446744073709551616) (hl : largest ≤ 4611686018427387903) (w : World) :
    Calls Try.prog 24 #[.int .u64 (cut : Int), .int .i64 2, .int .u64 (largest : Int), .bool any] w fun e w' => e = .returned (.int .u64 (rfullV cut 2 largest any : Nat)) ∧ w = w' := by
  have t1 : decide ((4611686018427387903 : Int) < (largest : Int)) = false := by simp; omega
  obtain ⟨N0, hN0⟩ : ∃ N0 : Nat, (if any = true then largest + 1 else 0) = N0 := ⟨_, rfl⟩
  have hNb : N0 < 4611686018427387905 := by rw [← hN0]; split <;> omega
  obtain ⟨p, q, c, e1, e2, e3, hcd, hcb⟩ := near_bits 2 16 65536 65535 (by decide) (by decide) (by decide) (by decide) N0 cut hNb hc
  have e1 : bits .andNot .u64 (N0 : Int) 65535 = (p : Int) := e1
  have e2 : bits .and .u64 (cut : Int) 65535 = (q : Int) := e2
  obtain ⟨R, hR⟩ : ∃ R, rfullV cut 2 largest any = R := ⟨_, rfl⟩
  have hR2 : R = if 32768 ≤ N0 ∧ c ≤ N0 - 32768 ∧ c < 4611686018427322368 then c + 65536 else if N0 + 32768 < c ∧ 65536 ≤ c then c - 65536 else c := by
    rw [← hR]
    unfold rfullV
    rw [if_neg (by omega), hN0]
    have e : nearV 2 N0 cut = c := by rw [hcd]; rfl
    rw [e]
    rfl
  rw [hR]
  have hWR : IntKind.u64.wrap (N0 : Int) = (N0 : Int) := IntWalk.u64_in _ (by omega)
  have hi : any = true → (largest : Int) + 1 = (N0 : Int) := fun h => by rw [← hN0, if_pos h]; omega
  have hi0 : any = false → N0 = 0 := fun h => by rw [← hN0, if_neg (by simp [h])]
  obtain ⟨s, hs⟩ : ∃ s : Nat, s = N0 + 32768 := ⟨_, rfl⟩
  have hsw : IntKind.u64.wrap ((N0 : Int) + 32768) = (s : Int) := by rw [show (N0 : Int) + 32768 = (s : Int) by omega]; exact IntWalk.u64_in _ (by omega)
  have hcN : N0 ≤ c + 65536 := by rw [hcd]; have := Nat.div_add_mod N0 65536; have := Nat.mod_lt N0 (show 0 < 65536 by omega); omega
  have hdown : 65536 ≤ c → IntKind.u64.wrap ((c : Int) - 65536) = ((c - 65536 : Nat) : Int) := fun h => by rw [show (c : Int) - 65536 = ((c - 65536 : Nat) : Int) by omega]; exact IntWalk.u64_in _ (by omega)
  have hup : IntKind.u64.wrap ((c : Int) + 65536) = ((c + 65536 : Nat) : Int) := IntWalk.u64_in _ (by omega)
  have hlow : 32768 ≤ N0 → IntKind.u64.wrap ((N0 : Int) - 32768) = ((N0 - 32768 : Nat) : Int) := fun h => by rw [show (N0 : Int) - 32768 = ((N0 - 32768 : Nat) : Int) by omega]; exact IntWalk.u64_in _ (by omega)
  have hrest : ¬ (32768 ≤ N0 ∧ c ≤ N0 - 32768 ∧ c < 4611686018427322368) → (decide ((s : Int) < (c : Int)) = true ∧ decide ((65536 : Int) ≤ (c : Int)) = true ∧ IntKind.u64.wrap ((c : Int) - 65536) = (R : Int)) ∨ (decide ((s : Int) < (c : Int)) = true ∧ decide ((65536 : Int) ≤ (c : Int)) = false ∧ R = c) ∨ (decide ((s : Int) < (c : Int)) = false ∧ R = c) := by
    intro h
    rw [if_neg h, ← hs] at hR2
    simp only [decide_eq_true_eq, decide_eq_false_iff_not]
    by_cases h1 : s < c
    · by_cases h2 : 65536 ≤ c
      · rw [if_pos ⟨h1, h2⟩] at hR2
        exact .inl ⟨by omega, by omega, by rw [hR2]; exact hdown h2⟩
      · rw [if_neg (fun h => h2 h.2)] at hR2
        exact .inr (.inl ⟨by omega, by omega, hR2⟩)
    · rw [if_neg (fun h => h1 h.1)] at hR2
      exact .inr (.inr ⟨by omega, hR2⟩)
  have hways : (decide ((32768 : Int) ≤ (N0 : Int)) = true ∧ ∃ m : Nat, IntKind.u64.wrap ((N0 : Int) - 32768) = (m : Int) ∧ ((decide ((c : Int) ≤ (m : Int)) = true ∧ ((decide ((c : Int) < 4611686018427322368) = true ∧ IntKind.u64.wrap ((c : Int) + 65536) = (R : Int)) ∨ (decide ((c : Int) < 4611686018427322368) = false ∧ decide ((s : Int) < (c : Int)) = false ∧ R = c))) ∨
        (decide ((c : Int) ≤ (m : Int)) = false ∧ ((decide ((s : Int) < (c : Int)) = true ∧ decide ((65536 : Int) ≤ (c : Int)) = true ∧ IntKind.u64.wrap ((c : Int) - 65536) = (R : Int)) ∨ (decide ((s : Int) < (c : Int)) = true ∧ decide ((65536 : Int) ≤ (c : Int)) = false ∧ R = c) ∨ (decide ((s : Int) < (c : Int)) = false ∧ R = c))))) ∨
      (decide ((32768 : Int) ≤ (N0 : Int)) = false ∧ ((decide ((s : Int) < (c : Int)) = true ∧ decide ((65536 : Int) ≤ (c : Int)) = true ∧ IntKind.u64.wrap ((c : Int) - 65536) = (R : Int)) ∨ (decide ((s : Int) < (c : Int)) = true ∧ decide ((65536 : Int) ≤ (c : Int)) = false ∧ R = c) ∨ (decide ((s : Int) < (c : Int)) = false ∧ R = c))) := by
    by_cases h1 : 32768 ≤ N0
    · refine .inl ⟨decide_eq_true (by omega), N0 - 32768, hlow h1, ?_⟩
      by_cases h2 : c ≤ N0 - 32768
      · refine .inl ⟨decide_eq_true (by omega), ?_⟩
        by_cases h3 : c < 4611686018427322368
        · rw [if_pos ⟨h1, h2, h3⟩] at hR2
          exact .inl ⟨decide_eq_true (by omega), by rw [hR2]; exact hup⟩
        · rw [if_neg (fun h => h3 h.2.2), if_neg (by omega)] at hR2
          exact .inr ⟨decide_eq_false (by omega), decide_eq_false (by omega), hR2⟩
      · exact .inr ⟨decide_eq_false (by omega), hrest (fun h => h2 h.2.1)⟩
    · exact .inr ⟨decide_eq_false (by omega), hrest (fun h => h1 h.1)⟩
  clear hR2 hcN hNb hrest hup hdown hlow hc hcb hl hR hN0 hcd
  cases any
  · obtain rfl := hi0 rfl
    clear hi hi0 hsw hWR
    have hs0 : (s : Int) = 32768 := by omega
    clear hs
    simp only [Int.ofNat_zero, hs0] at e1 hways
    clear hs0
    rcases hways with ⟨d0, _⟩ | ⟨d0, ⟨d1, d2, hR⟩ | ⟨d1, d2, rfl⟩ | ⟨d1, rfl⟩⟩
    · simp at d0
    all_goals
      go_enter Try.func24, Try.ntmps24
      go_wp2_with fail
      go_ret
      exact ⟨by first | rfl | simp, rfl⟩
  · have hi1 := hi rfl
    clear hi hi0 hs
    have hB1 : IntKind.u64.wrap (4611686018427387904 - 65536) = 4611686018427322368 := IntWalk.u64_in _ (by omega)
    have hB2 : IntKind.u64.wrap 4611686018427322368 = 4611686018427322368 := IntWalk.u64_in _ (by omega)
    rcases hways with ⟨d0, m, hm, ⟨d1, ⟨d2, hR⟩ | ⟨d2, d3, rfl⟩⟩ | ⟨d1, ⟨d2, d3, hR⟩ | ⟨d2, d3, rfl⟩ | ⟨d2, rfl⟩⟩⟩ | ⟨d0, ⟨d1, d2, hR⟩ | ⟨d1, d2, rfl⟩ | ⟨d1, rfl⟩⟩
    · replace d1 := Int.ofNat_le.mp (of_decide_eq_true d1)
      go_enter Try.func24, Try.ntmps24
      go_wp2_with fail
      go_ret
      exact ⟨by first | rfl | simp, rfl⟩
    · replace d1 := Int.ofNat_le.mp (of_decide_eq_true d1)
      replace d3 := mt Int.ofNat_lt.mpr (of_decide_eq_false d3)
      go_enter Try.func24, Try.ntmps24
      go_wp2_with fail
      go_ret
      exact ⟨by first | rfl | simp, rfl⟩
    · replace d1 := mt Int.ofNat_le.mpr (of_decide_eq_false d1)
      replace d2 := Int.ofNat_lt.mp (of_decide_eq_true d2)
      go_enter Try.func24, Try.ntmps24
      go_wp2_with fail
      go_ret
      exact ⟨by first | rfl | simp, rfl⟩
    · replace d1 := mt Int.ofNat_le.mpr (of_decide_eq_false d1)
      replace d2 := Int.ofNat_lt.mp (of_decide_eq_true d2)
      go_enter Try.func24, Try.ntmps24
      go_wp2_with fail
      go_ret
      exact ⟨by first | rfl | simp, rfl⟩
    · replace d1 := mt Int.ofNat_le.mpr (of_decide_eq_false d1)
      replace d2 := mt Int.ofNat_lt.mpr (of_decide_eq_false d2)
      go_enter Try.func24, Try.ntmps24
      go_wp2_with fail
      go_ret
      exact ⟨by first | rfl | simp, rfl⟩
    · replace d1 := Int.ofNat_lt.mp (of_decide_eq_true d1)
      go_enter Try.func24, Try.ntmps24
      go_wp2_with fail
      go_ret
      exact ⟨by first | rfl | simp, rfl⟩
    · replace d1 := Int.ofNat_lt.mp (of_decide_eq_true d1)
      go_enter Try.func24, Try.ntmps24
      go_wp2_with fail
      go_ret
      exact ⟨by first | rfl | simp, rfl⟩
    · replace d1 := mt Int.ofNat_lt.mpr (of_decide_eq_false d1)
      go_enter Try.func24, Try.ntmps24
      go_wp2_with fail
      go_ret
      exact ⟨by first | rfl | simp, rfl⟩
set_option maxRecDepth 8000 in
set_option maxHeartbeats 4000000 in
theorem rfull3_any (cut largest : Nat) (any : Bool) (hc : cut < 18446744073709551616) (hl : largest ≤ 4611686018427387903) (w : World) :
    Calls Try.prog 24 #[.int .u64 (cut : Int), .int .i64 3, .int .u64 (largest : Int), .bool any] w fun e w' => e = .returned (.int .u64 (rfullV cut 3 largest any : Nat)) ∧ w = w' := by
  have t1 : decide ((4611686018427387903 : Int) < (largest : Int)) = false := by simp; omega
  obtain ⟨N0, hN0⟩ : ∃ N0 : Nat, (if any = true then largest + 1 else 0) = N0 := ⟨_, rfl⟩
  have hNb : N0 < 4611686018427387905 := by rw [← hN0]; split <;> omega
  obtain ⟨p, q, c, e1, e2, e3, hcd, hcb⟩ := near_bits 3 24 16777216 16777215 (by decide) (by decide) (by decide) (by decide) N0 cut hNb hc
  have e1 : bits .andNot .u64 (N0 : Int) 16777215 = (p : Int) := e1
  have e2 : bits .and .u64 (cut : Int) 16777215 = (q : Int) := e2
  obtain ⟨R, hR⟩ : ∃ R, rfullV cut 3 largest any = R := ⟨_, rfl⟩
  have hR2 : R = if 8388608 ≤ N0 ∧ c ≤ N0 - 8388608 ∧ c < 4611686018410610688 then c + 16777216 else if N0 + 8388608 < c ∧ 16777216 ≤ c then c - 16777216 else c := by
    rw [← hR]
    unfold rfullV
    rw [if_neg (by omega), hN0]
    have e : nearV 3 N0 cut = c := by rw [hcd]; rfl
    rw [e]
    rfl
  rw [hR]
  have hWR : IntKind.u64.wrap (N0 : Int) = (N0 : Int) := IntWalk.u64_in _ (by omega)
  have hi : any = true → (largest : Int) + 1 = (N0 : Int) := fun h => by rw [← hN0, if_pos h]; omega
  have hi0 : any = false → N0 = 0 := fun h => by rw [← hN0, if_neg (by simp [h])]
  obtain ⟨s, hs⟩ : ∃ s : Nat, s = N0 + 8388608 := ⟨_, rfl⟩
  have hsw : IntKind.u64.wrap ((N0 : Int) + 8388608) = (s : Int) := by rw [show (N0 : Int) + 8388608 = (s : Int) by omega]; exact IntWalk.u64_in _ (by omega)
  have hcN : N0 ≤ c + 16777216 := by rw [hcd]; have := Nat.div_add_mod N0 16777216; have := Nat.mod_lt N0 (show 0 < 16777216 by omega); omega
  have hdown : 16777216 ≤ c → IntKind.u64.wrap ((c : Int) - 16777216) = ((c - 16777216 : Nat) : Int) := fun h => by rw [show (c : Int) - 16777216 = ((c - 16777216 : Nat) : Int) by omega]; exact IntWalk.u64_in _ (by omega)
  have hup : IntKind.u64.wrap ((c : Int) + 16777216) = ((c + 16777216 : Nat) : Int) := IntWalk.u64_in _ (by omega)
  have hlow : 8388608 ≤ N0 → IntKind.u64.wrap ((N0 : Int) - 8388608) = ((N0 - 8388608 : Nat) : Int) := fun h => by rw [show (N0 : Int) - 8388608 = ((N0 - 8388608 : Nat) : Int) by omega]; exact IntWalk.u64_in _ (by omega)
  have hrest : ¬ (8388608 ≤ N0 ∧ c ≤ N0 - 8388608 ∧ c < 4611686018410610688) → (decide ((s : Int) < (c : Int)) = true ∧ decide ((16777216 : Int) ≤ (c : Int)) = true ∧ IntKind.u64.wrap ((c : Int) - 16777216) = (R : Int)) ∨ (decide ((s : Int) < (c : Int)) = true ∧ decide ((16777216 : Int) ≤ (c : Int)) = false ∧ R = c) ∨ (decide ((s : Int) < (c : Int)) = false ∧ R = c) := by
    intro h
    rw [if_neg h, ← hs] at hR2
    simp only [decide_eq_true_eq, decide_eq_false_iff_not]
    by_cases h1 : s < c
    · by_cases h2 : 16777216 ≤ c
      · rw [if_pos ⟨h1, h2⟩] at hR2
        exact .inl ⟨by omega, by omega, by rw [hR2]; exact hdown h2⟩
      · rw [if_neg (fun h => h2 h.2)] at hR2
        exact .inr (.inl ⟨by omega, by omega, hR2⟩)
    · rw [if_neg (fun h => h1 h.1)] at hR2
      exact .inr (.inr ⟨by omega, hR2⟩)
  have hways : (decide ((8388608 : Int) ≤ (N0 : Int)) = true ∧ ∃ m : Nat, IntKind.u64.wrap ((N0 : Int) - 8388608) = (m : Int) ∧ ((decide ((c : Int) ≤ (m : Int)) = true ∧ ((decide ((c : Int) < 4611686018410610688) = true ∧ IntKind.u64.wrap ((c : Int) + 16777216) = (R : Int)) ∨ (decide ((c : Int) < 4611686018410610688) = false ∧ decide ((s : Int) < (c : Int)) = false ∧ R = c))) ∨
        (decide ((c : Int) ≤ (m : Int)) = false ∧ ((decide ((s : Int) < (c : Int)) = true ∧ decide ((16777216 : Int) ≤ (c : Int)) = true ∧ IntKind.u64.wrap ((c : Int) - 16777216) = (R : Int)) ∨ (decide ((s : Int) < (c : Int)) = true ∧ decide ((16777216 : Int) ≤ (c : Int)) = false ∧ R = c) ∨ (decide ((s : Int) < (c : Int)) = false ∧ R = c))))) ∨
      (decide ((8388608 : Int) ≤ (N0 : Int)) = false ∧ ((decide ((s : Int) < (c : Int)) = true ∧ decide ((16777216 : Int) ≤ (c : Int)) = true ∧ IntKind.u64.wrap ((c : Int) - 16777216) = (R : Int)) ∨ (decide ((s : Int) < (c : Int)) = true ∧ decide ((16777216 : Int) ≤ (c : Int)) = false ∧ R = c) ∨ (decide ((s : Int) < (c : Int)) = false ∧ R = c))) := by
    by_cases h1 : 8388608 ≤ N0
    · refine .inl ⟨decide_eq_true (by omega), N0 - 8388608, hlow h1, ?_⟩
      by_cases h2 : c ≤ N0 - 8388608
      · refine .inl ⟨decide_eq_true (by omega), ?_⟩
        by_cases h3 : c < 4611686018410610688
        · rw [if_pos ⟨h1, h2, h3⟩] at hR2
          exact .inl ⟨decide_eq_true (by omega), by rw [hR2]; exact hup⟩
        · rw [if_neg (fun h => h3 h.2.2), if_neg (by omega)] at hR2
          exact .inr ⟨decide_eq_false (by omega), decide_eq_false (by omega), hR2⟩
      · exact .inr ⟨decide_eq_false (by omega), hrest (fun h => h2 h.2.1)⟩
    · exact .inr ⟨decide_eq_false (by omega), hrest (fun h => h1 h.1)⟩
  clear hR2 hcN hNb hrest hup hdown hlow hc hcb hl hR hN0 hcd
  cases any
  · obtain rfl := hi0 rfl
    clear hi hi0 hsw hWR
    have hs0 : (s : Int) = 8388608 := by omega
    clear hs
    simp only [Int.ofNat_zero, hs0] at e1 hways
    clear hs0
    rcases hways with ⟨d0, _⟩ | ⟨d0, ⟨d1, d2, hR⟩ | ⟨d1, d2, rfl⟩ | ⟨d1, rfl⟩⟩
    · simp at d0
    all_goals
      go_enter Try.func24, Try.ntmps24
      go_wp2_with fail
      go_ret
      exact ⟨by first | rfl | simp, rfl⟩
  · have hi1 := hi rfl
    clear hi hi0 hs
    have hB1 : IntKind.u64.wrap (4611686018427387904 - 16777216) = 4611686018410610688 := IntWalk.u64_in _ (by omega)
    have hB2 : IntKind.u64.wrap 4611686018410610688 = 4611686018410610688 := IntWalk.u64_in _ (by omega)
    rcases hways with ⟨d0, m, hm, ⟨d1, ⟨d2, hR⟩ | ⟨d2, d3, rfl⟩⟩ | ⟨d1, ⟨d2, d3, hR⟩ | ⟨d2, d3, rfl⟩ | ⟨d2, rfl⟩⟩⟩ | ⟨d0, ⟨d1, d2, hR⟩ | ⟨d1, d2, rfl⟩ | ⟨d1, rfl⟩⟩
    · replace d1 := Int.ofNat_le.mp (of_decide_eq_true d1)
      go_enter Try.func24, Try.ntmps24
      go_wp2_with fail
      go_ret
      exact ⟨by first | rfl | simp, rfl⟩
    · replace d1 := Int.ofNat_le.mp (of_decide_eq_true d1)
      replace d3 := mt Int.ofNat_lt.mpr (of_decide_eq_false d3)
      go_enter Try.func24, Try.ntmps24
      go_wp2_with fail
      go_ret
      exact ⟨by first | rfl | simp, rfl⟩
    · replace d1 := mt Int.ofNat_le.mpr (of_decide_eq_false d1)
      replace d2 := Int.ofNat_lt.mp (of_decide_eq_true d2)
      go_enter Try.func24, Try.ntmps24
      go_wp2_with fail
      go_ret
      exact ⟨by first | rfl | simp, rfl⟩
    · replace d1 := mt Int.ofNat_le.mpr (of_decide_eq_false d1)
      replace d2 := Int.ofNat_lt.mp (of_decide_eq_true d2)
      go_enter Try.func24, Try.ntmps24
      go_wp2_with fail
      go_ret
      exact ⟨by first | rfl | simp, rfl⟩
    · replace d1 := mt Int.ofNat_le.mpr (of_decide_eq_false d1)
      replace d2 := mt Int.ofNat_lt.mpr (of_decide_eq_false d2)
      go_enter Try.func24, Try.ntmps24
      go_wp2_with fail
      go_ret
      exact ⟨by first | rfl | simp, rfl⟩
    · replace d1 := Int.ofNat_lt.mp (of_decide_eq_true d1)
      go_enter Try.func24, Try.ntmps24
      go_wp2_with fail
      go_ret
      exact ⟨by first | rfl | simp, rfl⟩
    · replace d1 := Int.ofNat_lt.mp (of_decide_eq_true d1)
      go_enter Try.func24, Try.ntmps24
      go_wp2_with fail
      go_ret
      exact ⟨by first | rfl | simp, rfl⟩
    · replace d1 := mt Int.ofNat_lt.mpr (of_decide_eq_false d1)
      go_enter Try.func24, Try.ntmps24
      go_wp2_with fail
      go_ret
      exact ⟨by first | rfl | simp, rfl⟩
set_option maxRecDepth 8000 in
set_option maxHeartbeats 4000000 in
theorem rfull4_any (cut largest : Nat) (any : Bool) (hc : cut < 18446744073709551616) (hl : largest ≤ 4611686018427387903) (w : World) :
    Calls Try.prog 24 #[.int .u64 (cut : Int), .int .i64 4, .int .u64 (largest : Int), .bool any] w fun e w' => e = .returned (.int .u64 (rfullV cut 4 largest any : Nat)) ∧ w = w' := by
  have t1 : decide ((4611686018427387903 : Int) < (largest : Int)) = false := by simp; omega
  obtain ⟨N0, hN0⟩ : ∃ N0 : Nat, (if any = true then largest + 1 else 0) = N0 := ⟨_, rfl⟩
  have hNb : N0 < 4611686018427387905 := by rw [← hN0]; split <;> omega
  obtain ⟨p, q, c, e1, e2, e3, hcd, hcb⟩ := near_bits 4 32 4294967296 4294967295 (by decide) (by decide) (by decide) (by decide) N0 cut hNb hc
  have e1 : bits .andNot .u64 (N0 : Int) 4294967295 = (p : Int) := e1
  have e2 : bits .and .u64 (cut : Int) 4294967295 = (q : Int) := e2
  obtain ⟨R, hR⟩ : ∃ R, rfullV cut 4 largest any = R := ⟨_, rfl⟩
  have hR2 : R = if 2147483648 ≤ N0 ∧ c ≤ N0 - 2147483648 ∧ c < 4611686014132420608 then c + 4294967296 else if N0 + 2147483648 < c ∧ 4294967296 ≤ c then c - 4294967296 else c := by
    rw [← hR]
    unfold rfullV
    rw [if_neg (by omega), hN0]
    have e : nearV 4 N0 cut = c := by rw [hcd]; rfl
    rw [e]
    rfl
  rw [hR]
  have hWR : IntKind.u64.wrap (N0 : Int) = (N0 : Int) := IntWalk.u64_in _ (by omega)
  have hi : any = true → (largest : Int) + 1 = (N0 : Int) := fun h => by rw [← hN0, if_pos h]; omega
  have hi0 : any = false → N0 = 0 := fun h => by rw [← hN0, if_neg (by simp [h])]
  obtain ⟨s, hs⟩ : ∃ s : Nat, s = N0 + 2147483648 := ⟨_, rfl⟩
  have hsw : IntKind.u64.wrap ((N0 : Int) + 2147483648) = (s : Int) := by rw [show (N0 : Int) + 2147483648 = (s : Int) by omega]; exact IntWalk.u64_in _ (by omega)
  have hcN : N0 ≤ c + 4294967296 := by rw [hcd]; have := Nat.div_add_mod N0 4294967296; have := Nat.mod_lt N0 (show 0 < 4294967296 by omega); omega
  have hdown : 4294967296 ≤ c → IntKind.u64.wrap ((c : Int) - 4294967296) = ((c - 4294967296 : Nat) : Int) := fun h => by rw [show (c : Int) - 4294967296 = ((c - 4294967296 : Nat) : Int) by omega]; exact IntWalk.u64_in _ (by omega)
  have hup : IntKind.u64.wrap ((c : Int) + 4294967296) = ((c + 4294967296 : Nat) : Int) := IntWalk.u64_in _ (by omega)
  have hlow : 2147483648 ≤ N0 → IntKind.u64.wrap ((N0 : Int) - 2147483648) = ((N0 - 2147483648 : Nat) : Int) := fun h => by rw [show (N0 : Int) - 2147483648 = ((N0 - 2147483648 : Nat) : Int) by omega]; exact IntWalk.u64_in _ (by omega)
  have hrest : ¬ (2147483648 ≤ N0 ∧ c ≤ N0 - 2147483648 ∧ c < 4611686014132420608) → (decide ((s : Int) < (c : Int)) = true ∧ decide ((4294967296 : Int) ≤ (c : Int)) = true ∧ IntKind.u64.wrap ((c : Int) - 4294967296) = (R : Int)) ∨ (decide ((s : Int) < (c : Int)) = true ∧ decide ((4294967296 : Int) ≤ (c : Int)) = false ∧ R = c) ∨ (decide ((s : Int) < (c : Int)) = false ∧ R = c) := by
    intro h
    rw [if_neg h, ← hs] at hR2
    simp only [decide_eq_true_eq, decide_eq_false_iff_not]
    by_cases h1 : s < c
    · by_cases h2 : 4294967296 ≤ c
      · rw [if_pos ⟨h1, h2⟩] at hR2
        exact .inl ⟨by omega, by omega, by rw [hR2]; exact hdown h2⟩
      · rw [if_neg (fun h => h2 h.2)] at hR2
        exact .inr (.inl ⟨by omega, by omega, hR2⟩)
    · rw [if_neg (fun h => h1 h.1)] at hR2
      exact .inr (.inr ⟨by omega, hR2⟩)
  have hways : (decide ((2147483648 : Int) ≤ (N0 : Int)) = true ∧ ∃ m : Nat, IntKind.u64.wrap ((N0 : Int) - 2147483648) = (m : Int) ∧ ((decide ((c : Int) ≤ (m : Int)) = true ∧ ((decide ((c : Int) < 4611686014132420608) = true ∧ IntKind.u64.wrap ((c : Int) + 4294967296) = (R : Int)) ∨ (decide ((c : Int) < 4611686014132420608) = false ∧ decide ((s : Int) < (c : Int)) = false ∧ R = c))) ∨
        (decide ((c : Int) ≤ (m : Int)) = false ∧ ((decide ((s : Int) < (c : Int)) = true ∧ decide ((4294967296 : Int) ≤ (c : Int)) = true ∧ IntKind.u64.wrap ((c : Int) - 4294967296) = (R : Int)) ∨ (decide ((s : Int) < (c : Int)) = true ∧ decide ((4294967296 : Int) ≤ (c : Int)) = false ∧ R = c) ∨ (decide ((s : Int) < (c : Int)) = false ∧ R = c))))) ∨
      (decide ((2147483648 : Int) ≤ (N0 : Int)) = false ∧ ((decide ((s : Int) < (c : Int)) = true ∧ decide ((4294967296 : Int) ≤ (c : Int)) = true ∧ IntKind.u64.wrap ((c : Int) - 4294967296) = (R : Int)) ∨ (decide ((s : Int) < (c : Int)) = true ∧ decide ((4294967296 : Int) ≤ (c : Int)) = false ∧ R = c) ∨ (decide ((s : Int) < (c : Int)) = false ∧ R = c))) := by
    by_cases h1 : 2147483648 ≤ N0
    · refine .inl ⟨decide_eq_true (by omega), N0 - 2147483648, hlow h1, ?_⟩
      by_cases h2 : c ≤ N0 - 2147483648
      · refine .inl ⟨decide_eq_true (by omega), ?_⟩
        by_cases h3 : c < 4611686014132420608
        · rw [if_pos ⟨h1, h2, h3⟩] at hR2
          exact .inl ⟨decide_eq_true (by omega), by rw [hR2]; exact hup⟩
        · rw [if_neg (fun h => h3 h.2.2), if_neg (by omega)] at hR2
          exact .inr ⟨decide_eq_false (by omega), decide_eq_false (by omega), hR2⟩
      · exact .inr ⟨decide_eq_false (by omega), hrest (fun h => h2 h.2.1)⟩
    · exact .inr ⟨decide_eq_false (by omega), hrest (fun h => h1 h.1)⟩
  clear hR2 hcN hNb hrest hup hdown hlow hc hcb hl hR hN0 hcd
  cases any
  · obtain rfl := hi0 rfl
    clear hi hi0 hsw hWR
    have hs0 : (s : Int) = 2147483648 := by omega
    clear hs
    simp only [Int.ofNat_zero, hs0] at e1 hways
    clear hs0
    rcases hways with ⟨d0, _⟩ | ⟨d0, ⟨d1, d2, hR⟩ | ⟨d1, d2, rfl⟩ | ⟨d1, rfl⟩⟩
    · simp at d0
    all_goals
      go_enter Try.func24, Try.ntmps24
      go_wp2_with fail
      go_ret
      exact ⟨by first | rfl | simp, rfl⟩
  · have hi1 := hi rfl
    clear hi hi0 hs
    have hB1 : IntKind.u64.wrap (4611686018427387904 - 4294967296) = 4611686014132420608 := IntWalk.u64_in _ (by omega)
    have hB2 : IntKind.u64.wrap 4611686014132420608 = 4611686014132420608 := IntWalk.u64_in _ (by omega)
    rcases hways with ⟨d0, m, hm, ⟨d1, ⟨d2, hR⟩ | ⟨d2, d3, rfl⟩⟩ | ⟨d1, ⟨d2, d3, hR⟩ | ⟨d2, d3, rfl⟩ | ⟨d2, rfl⟩⟩⟩ | ⟨d0, ⟨d1, d2, hR⟩ | ⟨d1, d2, rfl⟩ | ⟨d1, rfl⟩⟩
    · replace d1 := Int.ofNat_le.mp (of_decide_eq_true d1)
      go_enter Try.func24, Try.ntmps24
      go_wp2_with fail
      go_ret
      exact ⟨by first | rfl | simp, rfl⟩
    · replace d1 := Int.ofNat_le.mp (of_decide_eq_true d1)
      replace d3 := mt Int.ofNat_lt.mpr (of_decide_eq_false d3)
      go_enter Try.func24, Try.ntmps24
      go_wp2_with fail
      go_ret
      exact ⟨by first | rfl | simp, rfl⟩
    · replace d1 := mt Int.ofNat_le.mpr (of_decide_eq_false d1)
      replace d2 := Int.ofNat_lt.mp (of_decide_eq_true d2)
      go_enter Try.func24, Try.ntmps24
      go_wp2_with fail
      go_ret
      exact ⟨by first | rfl | simp, rfl⟩
    · replace d1 := mt Int.ofNat_le.mpr (of_decide_eq_false d1)
      replace d2 := Int.ofNat_lt.mp (of_decide_eq_true d2)
      go_enter Try.func24, Try.ntmps24
      go_wp2_with fail
      go_ret
      exact ⟨by first | rfl | simp, rfl⟩
    · replace d1 := mt Int.ofNat_le.mpr (of_decide_eq_false d1)
      replace d2 := mt Int.ofNat_lt.mpr (of_decide_eq_false d2)
      go_enter Try.func24, Try.ntmps24
      go_wp2_with fail
      go_ret
      exact ⟨by first | rfl | simp, rfl⟩
    · replace d1 := Int.ofNat_lt.mp (of_decide_eq_true d1)
      go_enter Try.func24, Try.ntmps24
      go_wp2_with fail
      go_ret
      exact ⟨by first | rfl | simp, rfl⟩
    · replace d1 := Int.ofNat_lt.mp (of_decide_eq_true d1)
      go_enter Try.func24, Try.ntmps24
      go_wp2_with fail
      go_ret
      exact ⟨by first | rfl | simp, rfl⟩
    · replace d1 := mt Int.ofNat_lt.mpr (of_decide_eq_false d1)
      go_enter Try.func24, Try.ntmps24
      go_wp2_with fail
      go_ret
      exact ⟨by first | rfl | simp, rfl⟩
/-- of no length, or above the greatest: 0 -/
theorem rfull_no (cut largest : Nat) (n : Int) (any : Bool) (h : n < 1 ∨ 4 < n ∨ 4611686018427387903 < largest) (w : World) :
    Calls Try.prog 24 #[.int .u64 (cut : Int), .int .i64 n, .int .u64 (largest : Int), .bool any] w fun e w' => e = .returned (.int .u64 0) ∧ w = w' := by
  have hways : (decide (n < 1) = true) ∨ (decide (n < 1) = false ∧ decide (4 < n) = true) ∨ (decide (n < 1) = false ∧ decide (4 < n) = false ∧ decide ((4611686018427387903 : Int) < (largest : Int)) = true) := by
    simp only [decide_eq_true_eq, decide_eq_false_iff_not]
    omega
  clear h
  rcases hways with d1 | ⟨d1, d2⟩ | ⟨d1, d2, d3⟩
  all_goals
    go_enter Try.func24, Try.ntmps24
    go_wp2_with fail
    go_ret
    exact ⟨by first | rfl | simp, rfl⟩
theorem rfull_any (cut n largest : Nat) (any : Bool) (hc : cut < 18446744073709551616) (h1 : 1 ≤ n) (h4 : n ≤ 4) (hl : largest ≤ 4611686018427387903) (w : World) :
    Calls Try.prog 24 #[.int .u64 (cut : Int), .int .i64 (n : Int), .int .u64 (largest : Int), .bool any] w fun e w' => e = .returned (.int .u64 (rfullV cut n largest any : Nat)) ∧ w = w' := by
  have h : n = 1 ∨ n = 2 ∨ n = 3 ∨ n = 4 := by omega
  rcases h with rfl | rfl | rfl | rfl
  · exact rfull1_any cut largest any hc hl w
  · exact rfull2_any cut largest any hc hl w
  · exact rfull3_any cut largest any hc hl w
  · exact rfull4_any cut largest any hc hl w
end Go.Proofs.Ytonoljcgcfjkmaa
