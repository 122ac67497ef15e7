/-
  The contracts of Equal and Expand.
-/
import Derived.Test.YtnjdloocalfkmaaDoorHkB
import Derived.Test.YtnjdloocalfkmaaDoorSame
namespace Go.Proofs.YtnjdloocalfkmaaDoor
open Go.RowKit Go.Joins
set_option linter.unusedVariables false

theorem or_zero (x y : UInt8) : x ||| y = 0 ↔ x = 0 ∧ y = 0 := UInt8.or_eq_zero_iff
theorem xor_zero (x y : UInt8) : x ^^^ y = 0 ↔ x = y := UInt8.xor_eq_zero_iff
theorem bn_zero (y : UInt8) : (bn y = 0) ↔ y = 0 := by
  unfold bn
  constructor
  · intro h
    exact UInt8.toNat_inj.1 (by have : y.toNat = 0 := by omega
                                simpa using this)
  · rintro rfl; rfl

attribute [local go_sem] u8_xor' u8_or'
set_option maxHeartbeats 400000 in
theorem equal_len (l r : List UInt8) (A A' : Option Addr) (n c c' B B' : Nat) (w : World) (h : Sl w B A n l) (h' : Sl w B' A' n r) (hm : n ≤ maxLen) :
    Calls Tryd.prog 19 #[.slice A n c, .slice A' n c'] w (Quiet (.bool (decide (l = r))) w) := by
  have hl := h.1
  have hl' := h'.1
  have hn63 : n ≤ 9223372036854775807 := by unfold maxLen at hm; omega
  have hne : ((n : Int) != (n : Int)) = false := by simp
  have H := Lib.hid h
  have H' := Lib.hid h'
  have Hl := Lib.hid hl
  have Hl' := Lib.hid hl'
  clear hl hl' h h' hm
  go_enter Tryd.func19, Tryd.ntmps19
  go_wp2_with fail
  go_loopw [5, 14] (fun un i wr => ∃ (j k : Nat) (y : UInt8), j ≤ n ∧ i = .int .i64 j ∧ un = .int .u8 (bn y) ∧ wr = w.drewN k ∧ Hid (y = 0 ↔ l.take j = r.take j)) (fun _ i _ => n - (intQ i).toNat)
  case atStart => exact ⟨0, 0, 0, by omega, rfl, rfl, rfl, by show _ ↔ _; simp⟩
  case round =>
    obtain ⟨j, k, y, hj, rfl, rfl, rfl, HE⟩ := hrel
    by_cases hlt : j < n
    · obtain ⟨b, off, rfl, hb, hcell⟩ := H.out.2 (by omega)
      obtain ⟨b', off', rfl, hb', hcell'⟩ := H'.out.2 (by omega)
      have hjl : j < l.length := by have := Hl.out; omega
      have hjr : j < r.length := by have := Hl'.out; omega
      obtain ⟨p, hx⟩ : ∃ x, l[j] = x := ⟨_, rfl⟩
      obtain ⟨q, hy⟩ : ∃ y, r[j] = y := ⟨_, rfl⟩
      have c1 : w.cell? ⟨b, off + j, none⟩ = some (.int .u8 (bn p)) := by rw [← hx]; exact hcell j hjl
      have c2 : w.cell? ⟨b', off' + j, none⟩ = some (.int .u8 (bn q)) := by rw [← hy]; exact hcell' j hjr
      have Hx := Lib.hid hx
      have Hy := Lib.hid hy
      clear hx hy hcell hcell'
      go_wp2_with fail
      go_quiet (fail)
      go_wp2
      go_roundw
      case rel =>
        refine ⟨j + 1, k + nq, y ||| (p ^^^ q), by omega, by go_num, rfl, by simp, ?_⟩
        show _ ↔ _
        rw [List.take_succ_eq_append_getElem hjl, List.take_succ_eq_append_getElem hjr, or_zero, xor_zero, HE.out, Hx.out, Hy.out]
        constructor
        · rintro ⟨h1, h2⟩; rw [h1, h2]
        · intro h1
          have := List.append_inj h1 (by simp; omega)
          exact ⟨this.1, by simpa using this.2⟩
      case measure => simp [intQ]; omega
    · have e : (y = 0 ↔ l = r) := by
        have h := HE.out
        rwa [List.take_of_length_le (by have := Hl.out; omega), List.take_of_length_le (by have := Hl'.out; omega)] at h
      have t : decide (l = r) = decide (bn y = 0) := by simp only [bn_zero, e]
      have HT := Lib.hid t
      clear t e
      go_wp2
      go_ret
      rw [HT.out]
      exact ⟨rfl, _, rfl⟩
theorem equal_unlike (l r : List UInt8) (A A' : Option Addr) (n n' c c' : Nat) (w : World) (hl : l.length = n) (hr : r.length = n') (hne : n ≠ n') :
    Calls Tryd.prog 19 #[.slice A n c, .slice A' n' c'] w (Quiet (.bool (decide (l = r))) w) := by
  have hd : decide (l = r) = false := by
    simp only [decide_eq_false_iff_not]
    rintro rfl
    omega
  rw [hd]
  have ht : ((n : Int) != (n' : Int)) = true := by simp; omega
  clear hl hr hne hd
  go_enter Tryd.func19, Tryd.ntmps19
  go_wp2
  go_ret
  exact ⟨rfl, 0, rfl⟩
theorem equal_any (l r : List UInt8) (A A' : Option Addr) (n n' c c' B B' : Nat) (w : World) (h : Sl w B A n l) (h' : Sl w B' A' n' r) (hm : n ≤ maxLen) :
    Calls Tryd.prog 19 #[.slice A n c, .slice A' n' c'] w (Quiet (.bool (decide (l = r))) w) := by
  by_cases e : n = n'
  · subst e
    exact equal_len l r A A' n c c' B B' w h h' hm
  · exact equal_unlike l r A A' n n' c c' w h.1 h'.1 e

/-- what stands in the row behind k pieces -/
def erow (key info : List UInt8) (n k : Nat) : List UInt8 := (okmV key info k).take n ++ List.replicate (n - 32 * k) 0
theorem erow_length (key info : List UInt8) (n k : Nat) : (erow key info n k).length = n := by
  simp [erow, okmV_length]; omega
theorem erow_zero (key info : List UInt8) (n : Nat) : erow key info n 0 = List.replicate n 0 := by simp [erow, okmV]
theorem erow_full (key info : List UInt8) (n k : Nat) (h : n ≤ 32 * k) : erow key info n k = expV key info n := by
  unfold erow
  rw [exp_of _ _ _ _ h, show n - 32 * k = 0 by omega]
  simp
theorem erow_step (key info : List UInt8) (n k : Nat) (h : 32 * k < n) : splice (erow key info n k) (32 * k) ((tV key info (k + 1)).take (min 32 (n - 32 * k))) = erow key info n (k + 1) := by
  have ho := okmV_length key info k
  have ht := tV_length key info k
  have e1 : (okmV key info k).take n = okmV key info k := List.take_of_length_le (by omega)
  have e2 : (tV key info (k + 1)).take (min 32 (n - 32 * k)) = (tV key info (k + 1)).take (n - 32 * k) := by
    by_cases h32 : n - 32 * k ≤ 32
    · rw [Nat.min_eq_right h32]
    · rw [Nat.min_eq_left (by omega), List.take_of_length_le (by omega), List.take_of_length_le (by omega)]
  have e3 : (okmV key info (k + 1)).take n = okmV key info k ++ (tV key info (k + 1)).take (n - 32 * k) := by
    rw [okmV, List.take_append, e1, ho]
  unfold erow splice
  rw [e1, e2, e3, List.take_left' ho, List.drop_append, ho]
  rw [List.drop_of_length_le (by omega), List.nil_append, List.drop_replicate, List.append_assoc]
  congr 3
  rw [List.length_take, ht]
  omega

theorem expand_neg (A A2 : Option Addr) (n1 c1 n2 c2 : Nat) (n : Int) (w : World) (h : n < 0 ∨ 8160 < n) :
    Calls Tryd.prog 10 #[.slice A n1 c1, .slice A2 n2 c2, .int .i64 n] w fun e w' => e = .returned (.slice none 0 0) ∧ w = w' := by
  rcases Int.lt_or_le n 0 with h0 | h0
  · have t1 : decide (n < 0) = true := by simp; omega
    clear h h0
    go_enter Tryd.func10, Tryd.ntmps10
    go_wp2
    go_ret
    exact ⟨rfl, rfl⟩
  · have t1 : decide (n < 0) = false := by simp; omega
    have t2 : decide (8160 < n) = true := by simp; omega
    clear h h0
    go_enter Tryd.func10, Tryd.ntmps10
    go_wp2
    go_ret
    exact ⟨rfl, rfl⟩
end Go.Proofs.YtnjdloocalfkmaaDoor
