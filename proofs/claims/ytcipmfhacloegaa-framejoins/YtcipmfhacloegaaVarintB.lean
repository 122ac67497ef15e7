/-
  Contracts of varint.Get and of the document's own Get.
-/
import Derived.Test.YtcipmfhacloegaaWords
import Derived.Test.YtcipmfhacloegaaVarintA
import Derived.Laws.BitsAllLaws
import Derived.Deep.CutRange
import Derived.Deep.DeepCutAuto
namespace Go.Proofs.Ytcipmfhacloegaa
open Go.RowKit
set_option linter.unusedVariables false

/-- bytes, the highest first, behind a number -/
def beN (a : Nat) (l : List UInt8) : Nat := l.foldl (fun x c => x * 256 + c.toNat) a
theorem beN_snoc (a : Nat) (l : List UInt8) (c : UInt8) : beN a (l ++ [c]) = beN a l * 256 + c.toNat := by simp [beN]
theorem beN_lt (a : Nat) (l : List UInt8) (m : Nat) (h : a < m) : beN a l < m * 256 ^ l.length := by
  induction l generalizing a m with
  | nil => simpa [beN] using h
  | cons c r ih =>
    have h1 : a * 256 + c.toNat < m * 256 := by have := c.toNat_lt; omega
    have := ih _ _ h1
    simp only [beN, List.foldl_cons] at this ⊢
    rw [List.length_cons, Nat.pow_succ, Nat.mul_comm (256 ^ r.length) 256, ← Nat.mul_assoc]
    exact this
/-- the number at the beginning of bytes, how many it has, the code -/
def getV (l : List UInt8) : Nat × Nat × Nat :=
  match l with
  | [] => (0, 0, 3)
  | b :: r => if r.length + 1 < 2 ^ (b.toNat / 64) then (0, 0, 3) else (beN (b.toNat % 64) (r.take (2 ^ (b.toNat / 64) - 1)), 2 ^ (b.toNat / 64), 0)

theorem getV_cons (b : UInt8) (r : List UInt8) : getV (b :: r) = if r.length + 1 < 2 ^ (b.toNat / 64) then (0, 0, 3) else (beN (b.toNat % 64) (r.take (2 ^ (b.toNat / 64) - 1)), 2 ^ (b.toNat / 64), 0) := rfl

theorem get_empty (A : Option Addr) (c : Nat) (w : World) :
    Calls Try.prog 65 #[.slice A 0 c] w fun e w' => e = .returned (.tuple #[.int .u64 0, .int .i64 0, .int .i64 3]) ∧ w = w' := by
  go_enter Try.func65, Try.ntmps65
  go_wp2
  go_ret3
  exact ⟨rfl, rfl⟩

/-- one byte more -/
theorem get_step {w : World} {b off n j M a : Nat} {b0 : UInt8} {r : List UInt8} (hj : j < M) (hM : M ≤ 7) (ha : a < 64) (hl : r.length + 1 = n)
    (hc : ∀ j, (h : j < (b0 :: r).length) → w.cell? ⟨b, off + j, none⟩ = some (bv (b0 :: r)[j])) (hn : M < n) {N : Nat} (hN : beN a (r.take j) = N) :
    ∃ X : Nat, X < 256 ∧ N < 18014398509481984 ∧ bits .or .u64 ((N : Int) * 256) (X : Int) = ((N * 256 + X : Nat) : Int) ∧ w.cell? ⟨b, off + 1 + j, none⟩ = some (.int .u8 (X : Int)) ∧ Hid (beN a (r.take (j + 1)) = N * 256 + X) := by
  have hj' : j < r.length := by omega
  subst hN
  have hb : beN a (r.take j) < 18014398509481984 := ?_
  refine ⟨r[j].toNat, r[j].toNat_lt, hb, ?_, ?_, ?_⟩
  rotate_left 3
  · have h := beN_lt a (r.take j) 64 ha
    have hle : (r.take j).length ≤ 6 := by rw [List.length_take]; omega
    have := Nat.pow_le_pow_right (show 0 < 256 by omega) hle
    omega
  · have hx : r[j].toNat < 256 := r[j].toNat_lt
    have h := u64_or_nat (beN a (r.take j) * 256) r[j].toNat (by omega) (by omega)
    rw [nat_join 8 _ _ (by omega) (by omega)] at h
    rw [← h]; simp
  · have := hc (j + 1) (by simp; omega)
    rw [show off + 1 + j = off + (j + 1) by omega, this]
    rfl
  · show beN a (r.take (j + 1)) = _
    rw [List.take_succ_eq_append_getElem hj', beN_snoc]

set_option maxHeartbeats 400000 in
theorem get_full (b0 : UInt8) (r : List UInt8) (q : Nat) (hq : b0.toNat / 64 = q) (A : Option Addr) (n c B : Nat) (w : World) (h : Sl w B A n (b0 :: r)) (hc : n ≤ c) (hm : c ≤ maxLen) (hs : 2 ^ q ≤ n) :
    Calls Try.prog 65 #[.slice A n c] w fun e w' => e = .returned (.tuple #[.int .u64 (beN (b0.toNat % 64) (r.take (2 ^ q - 1)) : Nat), .int .i64 (2 ^ q : Nat), .int .i64 0]) ∧ w = w' := by
  have hl := h.1
  simp only [List.length_cons] at hl
  obtain ⟨b, off, rfl, hb, hcell⟩ := h.2 (by omega)
  have hc0 : w.cell? ⟨b, off, none⟩ = some (.int .u8 (b0.toNat : Int)) := hcell 0 (by simp)
  have hq4 : q = 0 ∨ q = 1 ∨ q = 2 ∨ q = 3 := by have := b0.toNat_lt; omega
  have hp : (0 : Int) < (n : Int) := by omega
  have hne : ((n : Int) == 0) = false := by simp; omega
  have hn63 : n ≤ 9223372036854775807 := by unfold maxLen at hm; omega
  have hc63 : c ≤ 9223372036854775807 := by unfold maxLen at hm; omega
  have hb0 : b0.toNat < 256 := b0.toNat_lt
  have Hc := Lib.hid hcell
  have Hl := Lib.hid hl
  clear hl hcell h hm
  have H6 : b0.toNat % 64 < 64 := Nat.mod_lt _ (by omega)
  rcases hq4 with rfl | rfl | rfl | rfl
  · have hd : ((b0.toNat : Int)) / 64 = 0 := by omega
    have ht : decide ((n : Int) < 1) = false := by simp; omega
    have hM : 1 ≤ n := by omega
    clear hq hs
    by_cases hc1 : c = 1
    all_goals
      go_enter Try.func65, Try.ntmps65
      go_wp2_with fail
      go_loop [6, 8, 30] (fun nn cc i => nn = .int .u64 (b0.toNat % 64 : Nat) ∧ i = .int .i64 0) (fun _ _ _ => 0)
      case atStart => exact ⟨rfl, rfl⟩
      case round =>
        obtain ⟨rfl, rfl⟩ := hrel
        go_wp2
        go_ret3
        exact ⟨by simp [beN], rfl⟩
  · have hd : ((b0.toNat : Int)) / 64 = 1 := by omega
    have ht : decide ((n : Int) < 2) = false := by simp; omega
    have hM : 2 ≤ n := by omega
    clear hq hs
    have hc1 : ¬ c = 1 := by omega
    go_enter Try.func65, Try.ntmps65
    go_wp2_with fail
    go_loop [6, 8, 30] (fun nn cc i => ∃ j N : Nat, j ≤ 1 ∧ i = .int .i64 j ∧ nn = .int .u64 (N : Int) ∧ Hid (beN (b0.toNat % 64) (r.take j) = N)) (fun _ _ i => 1 - (intOf i).toNat)
    case atStart => exact ⟨0, b0.toNat % 64, by omega, rfl, by simp, rfl⟩
    case round =>
      obtain ⟨j, N, hj, rfl, rfl, HN⟩ := hrel
      by_cases hlt : j < 1
      · obtain ⟨X, hX, hN, hor, hcj, HN'⟩ := get_step hlt (by omega) H6 Hl.out Hc.out (by omega) HN.out
        go_wp2
        go_round
        case rel => exact ⟨j + 1, N * 256 + X, by omega, by go_num, by go_num, HN'⟩
        case measure => simp [intOf]; omega
      · go_wp2
        go_ret3
        have hjM : j = 1 := by omega
        subst hjM
        exact ⟨by rw [← HN.out]; rfl, rfl⟩
  · have hd : ((b0.toNat : Int)) / 64 = 2 := by omega
    have ht : decide ((n : Int) < 4) = false := by simp; omega
    have hM : 4 ≤ n := by omega
    clear hq hs
    have hc1 : ¬ c = 1 := by omega
    go_enter Try.func65, Try.ntmps65
    go_wp2_with fail
    go_loop [6, 8, 30] (fun nn cc i => ∃ j N : Nat, j ≤ 3 ∧ i = .int .i64 j ∧ nn = .int .u64 (N : Int) ∧ Hid (beN (b0.toNat % 64) (r.take j) = N)) (fun _ _ i => 3 - (intOf i).toNat)
    case atStart => exact ⟨0, b0.toNat % 64, by omega, rfl, by simp, rfl⟩
    case round =>
      obtain ⟨j, N, hj, rfl, rfl, HN⟩ := hrel
      by_cases hlt : j < 3
      · obtain ⟨X, hX, hN, hor, hcj, HN'⟩ := get_step hlt (by omega) H6 Hl.out Hc.out (by omega) HN.out
        go_wp2
        go_round
        case rel => exact ⟨j + 1, N * 256 + X, by omega, by go_num, by go_num, HN'⟩
        case measure => simp [intOf]; omega
      · go_wp2
        go_ret3
        have hjM : j = 3 := by omega
        subst hjM
        exact ⟨by rw [← HN.out]; rfl, rfl⟩
  · have hd : ((b0.toNat : Int)) / 64 = 3 := by omega
    have ht : decide ((n : Int) < 8) = false := by simp; omega
    have hM : 8 ≤ n := by omega
    clear hq hs
    have hc1 : ¬ c = 1 := by omega
    go_enter Try.func65, Try.ntmps65
    go_wp2_with fail
    go_loop [6, 8, 30] (fun nn cc i => ∃ j N : Nat, j ≤ 7 ∧ i = .int .i64 j ∧ nn = .int .u64 (N : Int) ∧ Hid (beN (b0.toNat % 64) (r.take j) = N)) (fun _ _ i => 7 - (intOf i).toNat)
    case atStart => exact ⟨0, b0.toNat % 64, by omega, rfl, by simp, rfl⟩
    case round =>
      obtain ⟨j, N, hj, rfl, rfl, HN⟩ := hrel
      by_cases hlt : j < 7
      · obtain ⟨X, hX, hN, hor, hcj, HN'⟩ := get_step hlt (by omega) H6 Hl.out Hc.out (by omega) HN.out
        go_wp2
        go_round
        case rel => exact ⟨j + 1, N * 256 + X, by omega, by go_num, by go_num, HN'⟩
        case measure => simp [intOf]; omega
      · go_wp2
        go_ret3
        have hjM : j = 7 := by omega
        subst hjM
        exact ⟨by rw [← HN.out]; rfl, rfl⟩

theorem get_short (b0 : UInt8) (r : List UInt8) (A : Option Addr) (n c B : Nat) (w : World) (h : Sl w B A n (b0 :: r)) (hc : n ≤ c) (hm : c ≤ maxLen) (hs : n < 2 ^ (b0.toNat / 64)) :
    Calls Try.prog 65 #[.slice A n c] w fun e w' => e = .returned (.tuple #[.int .u64 0, .int .i64 0, .int .i64 3]) ∧ w = w' := by
  have hl := h.1
  simp only [List.length_cons] at hl
  obtain ⟨b, off, rfl, hb, hcell⟩ := h.2 (by omega)
  have hc0 : w.cell? ⟨b, off, none⟩ = some (.int .u8 (b0.toNat : Int)) := hcell 0 (by simp)
  obtain ⟨q, hq⟩ : ∃ q, b0.toNat / 64 = q := ⟨_, rfl⟩
  rw [hq] at hs
  have hq4 : q = 0 ∨ q = 1 ∨ q = 2 ∨ q = 3 := by have := b0.toNat_lt; omega
  have hp : (0 : Int) < (n : Int) := by omega
  have hne : ((n : Int) == 0) = false := by simp; omega
  have hn63 : n ≤ 9223372036854775807 := by unfold maxLen at hm; omega
  have hb0 : b0.toNat < 256 := b0.toNat_lt
  clear hl hcell h hm
  rcases hq4 with rfl | rfl | rfl | rfl
  · omega
  · have hd : ((b0.toNat : Int)) / 64 = 1 := by omega
    have ht : decide ((n : Int) < 2) = true := by simp; omega
    clear hq hs
    go_enter Try.func65, Try.ntmps65
    go_wp2
    go_ret3
    exact ⟨rfl, rfl⟩
  · have hd : ((b0.toNat : Int)) / 64 = 2 := by omega
    have ht : decide ((n : Int) < 4) = true := by simp; omega
    clear hq hs
    go_enter Try.func65, Try.ntmps65
    go_wp2
    go_ret3
    exact ⟨rfl, rfl⟩
  · have hd : ((b0.toNat : Int)) / 64 = 3 := by omega
    have ht : decide ((n : Int) < 8) = true := by simp; omega
    clear hq hs
    go_enter Try.func65, Try.ntmps65
    go_wp2
    go_ret3
    exact ⟨rfl, rfl⟩

/-- varint.Get, whatever the bytes -/
theorem get_any (l : List UInt8) (A : Option Addr) (n c B : Nat) (w : World) (h : Sl w B A n l) (hc : n ≤ c) (hm : c ≤ maxLen) :
    Calls Try.prog 65 #[.slice A n c] w fun e w' => e = .returned (.tuple #[.int .u64 ((getV l).1 : Nat), .int .i64 ((getV l).2.1 : Nat), .int .i64 ((getV l).2.2 : Nat)]) ∧ w = w' := by
  cases l with
  | nil =>
    have hn : n = 0 := by have := h.1; simp at this; omega
    subst hn
    exact get_empty A c w
  | cons b0 r =>
    have hl := h.1
    simp only [List.length_cons] at hl
    by_cases hs : n < 2 ^ (b0.toNat / 64)
    · have e : getV (b0 :: r) = (0, 0, 3) := by rw [getV_cons, if_pos (by omega)]
      rw [e]
      exact get_short b0 r A n c B w h hc hm hs
    · have e : getV (b0 :: r) = (beN (b0.toNat % 64) (r.take (2 ^ (b0.toNat / 64) - 1)), 2 ^ (b0.toNat / 64), 0) := by rw [getV_cons, if_neg (by omega)]
      rw [e]
      exact get_full b0 r _ rfl A n c B w h hc hm (by omega)

/-! the document's own -/
theorem rget_empty (A : Option Addr) (c : Nat) (w : World) :
    Calls Try.prog 66 #[.slice A 0 c] w fun e w' => e = .returned (.tuple #[.int .u64 0, .int .i64 0, .int .i64 3]) ∧ w = w' := by
  go_enter Try.func66, Try.ntmps66
  go_wp2
  go_ret3
  exact ⟨rfl, rfl⟩

set_option maxHeartbeats 400000 in
theorem rget_full (b0 : UInt8) (r : List UInt8) (q : Nat) (hq : b0.toNat / 64 = q) (A : Option Addr) (n c B : Nat) (w : World) (h : Sl w B A n (b0 :: r)) (hc : n ≤ c) (hm : c ≤ maxLen) (hs : 2 ^ q ≤ n) :
    Calls Try.prog 66 #[.slice A n c] w fun e w' => e = .returned (.tuple #[.int .u64 (beN (b0.toNat % 64) (r.take (2 ^ q - 1)) : Nat), .int .i64 (2 ^ q : Nat), .int .i64 0]) ∧ w = w' := by
  have hl := h.1
  simp only [List.length_cons] at hl
  obtain ⟨b, off, rfl, hb, hcell⟩ := h.2 (by omega)
  have hc0 : w.cell? ⟨b, off, none⟩ = some (.int .u8 (b0.toNat : Int)) := hcell 0 (by simp)
  have hq4 : q = 0 ∨ q = 1 ∨ q = 2 ∨ q = 3 := by have := b0.toNat_lt; omega
  have hp : (0 : Int) < (n : Int) := by omega
  have hne : ((n : Int) == 0) = false := by simp; omega
  have hn63 : n ≤ 9223372036854775807 := by unfold maxLen at hm; omega
  have hc63 : c ≤ 9223372036854775807 := by unfold maxLen at hm; omega
  have hb0 : b0.toNat < 256 := b0.toNat_lt
  have Hc := Lib.hid hcell
  have Hl := Lib.hid hl
  clear hl hcell h hm
  have H6 : b0.toNat % 64 < 64 := Nat.mod_lt _ (by omega)
  rcases hq4 with rfl | rfl | rfl | rfl
  · have hd : ((b0.toNat : Int)) / 64 = 0 := by omega
    have ht : decide ((n : Int) < 1) = false := by simp; omega
    have hM : 1 ≤ n := by omega
    clear hq hs
    by_cases hc1 : c = 1
    all_goals
      go_enter Try.func66, Try.ntmps66
      go_wp2_with fail
      go_loop [6, 7] (fun nn i => nn = .int .u64 (b0.toNat % 64 : Nat) ∧ i = .int .i64 1) (fun _ _ => 0)
      case atStart => exact ⟨rfl, rfl⟩
      case round =>
        obtain ⟨rfl, rfl⟩ := hrel
        go_wp2
        go_ret3
        exact ⟨by simp [beN], rfl⟩
  · have hd : ((b0.toNat : Int)) / 64 = 1 := by omega
    have ht : decide ((n : Int) < 2) = false := by simp; omega
    have hM : 2 ≤ n := by omega
    clear hq hs
    have hc1 : ¬ c = 1 := by omega
    go_enter Try.func66, Try.ntmps66
    go_wp2_with fail
    go_loop [6, 7] (fun nn i => ∃ j N : Nat, 1 ≤ j ∧ j ≤ 2 ∧ i = .int .i64 j ∧ nn = .int .u64 (N : Int) ∧ Hid (beN (b0.toNat % 64) (r.take (j - 1)) = N)) (fun _ i => 2 - (intOf i).toNat)
    case atStart => exact ⟨1, b0.toNat % 64, by omega, by omega, rfl, by simp, rfl⟩
    case round =>
      obtain ⟨j, N, hj1, hj, rfl, rfl, HN⟩ := hrel
      by_cases hlt : j < 2
      · obtain ⟨X, hX, hN, hor, hcj, HN'⟩ := get_step (j := j - 1) (M := 1) (by omega) (by omega) H6 Hl.out Hc.out (by omega) HN.out
        rw [show off + 1 + (j - 1) = off + j by omega] at hcj
        rw [show j - 1 + 1 = j + 1 - 1 by omega] at HN'
        go_wp2
        go_round
        case rel => exact ⟨j + 1, N * 256 + X, by omega, by omega, by go_num, by go_num, HN'⟩
        case measure => simp [intOf]; omega
      · go_wp2
        go_ret3
        have hjM : j = 2 := by omega
        subst hjM
        exact ⟨by rw [← HN.out]; rfl, rfl⟩
  · have hd : ((b0.toNat : Int)) / 64 = 2 := by omega
    have ht : decide ((n : Int) < 4) = false := by simp; omega
    have hM : 4 ≤ n := by omega
    clear hq hs
    have hc1 : ¬ c = 1 := by omega
    go_enter Try.func66, Try.ntmps66
    go_wp2_with fail
    go_loop [6, 7] (fun nn i => ∃ j N : Nat, 1 ≤ j ∧ j ≤ 4 ∧ i = .int .i64 j ∧ nn = .int .u64 (N : Int) ∧ Hid (beN (b0.toNat % 64) (r.take (j - 1)) = N)) (fun _ i => 4 - (intOf i).toNat)
    case atStart => exact ⟨1, b0.toNat % 64, by omega, by omega, rfl, by simp, rfl⟩
    case round =>
      obtain ⟨j, N, hj1, hj, rfl, rfl, HN⟩ := hrel
      by_cases hlt : j < 4
      · obtain ⟨X, hX, hN, hor, hcj, HN'⟩ := get_step (j := j - 1) (M := 3) (by omega) (by omega) H6 Hl.out Hc.out (by omega) HN.out
        rw [show off + 1 + (j - 1) = off + j by omega] at hcj
        rw [show j - 1 + 1 = j + 1 - 1 by omega] at HN'
        go_wp2
        go_round
        case rel => exact ⟨j + 1, N * 256 + X, by omega, by omega, by go_num, by go_num, HN'⟩
        case measure => simp [intOf]; omega
      · go_wp2
        go_ret3
        have hjM : j = 4 := by omega
        subst hjM
        exact ⟨by rw [← HN.out]; rfl, rfl⟩
  · have hd : ((b0.toNat : Int)) / 64 = 3 := by omega
    have ht : decide ((n : Int) < 8) = false := by simp; omega
    have hM : 8 ≤ n := by omega
    clear hq hs
    have hc1 : ¬ c = 1 := by omega
    go_enter Try.func66, Try.ntmps66
    go_wp2_with fail
    go_loop [6, 7] (fun nn i => ∃ j N : Nat, 1 ≤ j ∧ j ≤ 8 ∧ i = .int .i64 j ∧ nn = .int .u64 (N : Int) ∧ Hid (beN (b0.toNat % 64) (r.take (j - 1)) = N)) (fun _ i => 8 - (intOf i).toNat)
    case atStart => exact ⟨1, b0.toNat % 64, by omega, by omega, rfl, by simp, rfl⟩
    case round =>
      obtain ⟨j, N, hj1, hj, rfl, rfl, HN⟩ := hrel
      by_cases hlt : j < 8
      · obtain ⟨X, hX, hN, hor, hcj, HN'⟩ := get_step (j := j - 1) (M := 7) (by omega) (by omega) H6 Hl.out Hc.out (by omega) HN.out
        rw [show off + 1 + (j - 1) = off + j by omega] at hcj
        rw [show j - 1 + 1 = j + 1 - 1 by omega] at HN'
        go_wp2
        go_round
        case rel => exact ⟨j + 1, N * 256 + X, by omega, by omega, by go_num, by go_num, HN'⟩
        case measure => simp [intOf]; omega
      · go_wp2
        go_ret3
        have hjM : j = 8 := by omega
        subst hjM
        exact ⟨by rw [← HN.out]; rfl, rfl⟩

theorem rget_short (b0 : UInt8) (r : List UInt8) (A : Option Addr) (n c B : Nat) (w : World) (h : Sl w B A n (b0 :: r)) (hc : n ≤ c) (hm : c ≤ maxLen) (hs : n < 2 ^ (b0.toNat / 64)) :
    Calls Try.prog 66 #[.slice A n c] w fun e w' => e = .returned (.tuple #[.int .u64 0, .int .i64 0, .int .i64 3]) ∧ w = w' := by
  have hl := h.1
  simp only [List.length_cons] at hl
  obtain ⟨b, off, rfl, hb, hcell⟩ := h.2 (by omega)
  have hc0 : w.cell? ⟨b, off, none⟩ = some (.int .u8 (b0.toNat : Int)) := hcell 0 (by simp)
  obtain ⟨q, hq⟩ : ∃ q, b0.toNat / 64 = q := ⟨_, rfl⟩
  rw [hq] at hs
  have hq4 : q = 0 ∨ q = 1 ∨ q = 2 ∨ q = 3 := by have := b0.toNat_lt; omega
  have hp : (0 : Int) < (n : Int) := by omega
  have hne : ((n : Int) == 0) = false := by simp; omega
  have hn63 : n ≤ 9223372036854775807 := by unfold maxLen at hm; omega
  have hb0 : b0.toNat < 256 := b0.toNat_lt
  clear hl hcell h hm
  rcases hq4 with rfl | rfl | rfl | rfl
  · omega
  · have hd : ((b0.toNat : Int)) / 64 = 1 := by omega
    have ht : decide ((n : Int) < 2) = true := by simp; omega
    clear hq hs
    go_enter Try.func66, Try.ntmps66
    go_wp2
    go_ret3
    exact ⟨rfl, rfl⟩
  · have hd : ((b0.toNat : Int)) / 64 = 2 := by omega
    have ht : decide ((n : Int) < 4) = true := by simp; omega
    clear hq hs
    go_enter Try.func66, Try.ntmps66
    go_wp2
    go_ret3
    exact ⟨rfl, rfl⟩
  · have hd : ((b0.toNat : Int)) / 64 = 3 := by omega
    have ht : decide ((n : Int) < 8) = true := by simp; omega
    clear hq hs
    go_enter Try.func66, Try.ntmps66
    go_wp2
    go_ret3
    exact ⟨rfl, rfl⟩

/-- mantillaref1.Get, whatever the bytes -/
theorem rget_any (l : List UInt8) (A : Option Addr) (n c B : Nat) (w : World) (h : Sl w B A n l) (hc : n ≤ c) (hm : c ≤ maxLen) :
    Calls Try.prog 66 #[.slice A n c] w fun e w' => e = .returned (.tuple #[.int .u64 ((getV l).1 : Nat), .int .i64 ((getV l).2.1 : Nat), .int .i64 ((getV l).2.2 : Nat)]) ∧ w = w' := by
  cases l with
  | nil =>
    have hn : n = 0 := by have := h.1; simp at this; omega
    subst hn
    exact rget_empty A c w
  | cons b0 r =>
    have hl := h.1
    simp only [List.length_cons] at hl
    by_cases hs : n < 2 ^ (b0.toNat / 64)
    · have e : getV (b0 :: r) = (0, 0, 3) := by rw [getV_cons, if_pos (by omega)]
      rw [e]
      exact rget_short b0 r A n c B w h hc hm hs
    · have e : getV (b0 :: r) = (beN (b0.toNat % 64) (r.take (2 ^ (b0.toNat / 64) - 1)), 2 ^ (b0.toNat / 64), 0) := by rw [getV_cons, if_neg (by omega)]
      rw [e]
      exact rget_full b0 r _ rfl A n c B w h hc hm (by omega)
end Go.Proofs.Ytcipmfhacloegaa
