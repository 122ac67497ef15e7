/-
  The walk of RangesFloor.
-/
import Derived.Test.YtebpalcfnfgfdaaRgJ
import Derived.Test.YtebpalcfnfgfdaaLow
namespace Go.Proofs.Ytebpalcfnfgfdaa
open Go.RowKit Go.Lib
set_option linter.unusedVariables false

/-- the last k of the numbers 3 t, t below i -/
def tri : Nat → Nat → RL
  | _, 0 => []
  | 0, _ + 1 => []
  | i + 1, k + 1 => (3 * i, 3 * i) :: tri i k
theorem mem_tri {m : Nat} : ∀ {i k : Nat}, k ≤ i → (Mem m (tri i k) ↔ ∃ t, i - k ≤ t ∧ t < i ∧ m = 3 * t)
  | _, 0, _ => by simp [tri, mem_nil]; intro x h1 h2; omega
  | 0, k + 1, h => by omega
  | i + 1, k + 1, h => by
    rw [tri, mem_cons, mem_tri (by omega)]
    constructor
    · rintro (h1 | ⟨t, h1, h2, h3⟩)
      · exact ⟨i, by omega, by omega, by simp only at h1; omega⟩
      · exact ⟨t, by omega, by omega, h3⟩
    · rintro ⟨t, h1, h2, h3⟩
      by_cases e : t = i
      · left; simp only; omega
      · exact .inr ⟨t, by omega, by omega, h3⟩
theorem tri_length : ∀ {i k : Nat}, k ≤ i → (tri i k).length = k
  | _, 0, _ => by simp [tri]
  | 0, k + 1, h => by omega
  | i + 1, k + 1, h => by rw [tri, List.length_cons, tri_length (by omega)]
theorem tri_last : ∀ {i k : Nat}, k + 1 ≤ i → tri i (k + 1) = tri i k ++ [(3 * (i - k - 1), 3 * (i - k - 1))]
  | 0, k, h => by omega
  | i + 1, 0, h => by simp [tri]
  | i + 1, k + 1, h => by
    rw [tri, tri_last (by omega), tri, List.cons_append]
    congr 5 <;> omega
theorem put_tri (i k : Nat) (h : k ≤ i) : putR (3 * i) (tri i k) = tri (i + 1) (k + 1) := by
  rw [show tri (i + 1) (k + 1) = (3 * i, 3 * i) :: tri i k from rfl]
  match i, k, h with
  | i, 0, _ => simp [tri, putR]
  | i + 1, k + 1, _ =>
    rw [tri, putR.eq_def]
    simp only
    rw [if_neg (by omega), if_neg (by omega)]
/-- what is there behind i of them -/
def floorS (m i : Nat) : RS := ⟨m, if i ≤ m then 0 else 3 * (i - m - 1) + 1, tri i (min i m)⟩
theorem floor_zero (m : Nat) : floorS m 0 = RS.new m := by
  unfold floorS RS.new
  simp [tri]
theorem floor_new {m i : Nat} (hi : i < 1000) : (floorS m i).newB (3 * i) = true := by
  refine decide_eq_true ⟨by unfold topV; omega, fun h => ?_⟩
  rcases h with h | h
  · unfold floorS at h
    simp only at h
    split at h <;> omega
  · obtain ⟨t, h1, h2, h3⟩ := (mem_tri (Nat.min_le_left i m)).1 h
    omega
theorem floor_add {m i : Nat} (hi : i < 1000) (hok : (floorS m i).Ok) : (floorS m i).add (3 * i) = floorS m (i + 1) := by
  obtain ⟨l1, e1, _, _, _, _, hc⟩ := RS.add_new hok (floor_new hi)
  have e2 : l1 = tri (i + 1) (min i m + 1) := by rw [← e1]; exact put_tri i _ (Nat.min_le_left i m)
  have hlen : l1.length = min i m + 1 := by rw [e2, tri_length (by omega)]
  rcases hc with ⟨h1, h2⟩ | ⟨l2, x, h1, h3, h2⟩
  · have h1' : l1.length ≤ m := h1
    rw [h2, e2]
    unfold floorS
    simp only
    rw [if_pos (by omega), if_pos (by omega), show min i m + 1 = min (i + 1) m by omega]
  · have h3' : l2.length = m := h3
    have h4 : l1.length = l2.length + 1 := by rw [h1]; simp
    have hmi : min i m = m := by omega
    rw [hmi, tri_last (by omega), h1] at e2
    obtain ⟨e3, e4⟩ := List.append_inj' e2 rfl
    have e5 : x = (3 * (i + 1 - m - 1), 3 * (i + 1 - m - 1)) := by simpa using e4
    rw [h2, e3, e5]
    unfold floorS
    simp only
    rw [if_neg (by omega), show min (i + 1) m = m by omega]
theorem floor_len (m i : Nat) : (floorS m i).l.length = min i m := tri_length (Nat.min_le_left i m)
theorem floor_mem {m q i : Nat} (hi : i < q) : (floorS m q).mem (3 * i) := by
  by_cases h : q ≤ i + m
  · exact .inr ((mem_tri (Nat.min_le_left q m)).2 ⟨i, by omega, hi, rfl⟩)
  · left
    unfold floorS
    simp only
    rw [if_neg (by omega)]
    omega
theorem floor_mem1 {m q i : Nat} (h0 : 0 < i) (hi : i + m < q) : (floorS m q).mem (3 * i - 1) := by
  left
  unfold floorS
  simp only
  rw [if_neg (by omega)]
  omega
theorem not_new {s : RS} {k : Nat} (h : s.mem k) : s.newB k = false := decide_eq_false fun hh => hh.2 h

set_option maxHeartbeats 4000000 in
theorem floor_any (a0 a1 : Int) (w : World) : Calls Try.prog 5 #[.int .i64 a0, .int .i64 a1] w fun e w' => e = .returned (.bool true) ∧ Below w.heap.size w w' := by
  obtain ⟨m0, hm0, HL1⟩ := low_nat a0 8 (by omega) (by omega)
  obtain ⟨q, hq, HL2⟩ := low_nat a1 41 (by omega) (by omega)
  obtain ⟨m, hm⟩ : ∃ m : Nat, (1 : Int) + (m0 : Int) = (m : Int) := ⟨1 + m0, by omega⟩
  have hmb : 1 ≤ m ∧ m ≤ 8 := by omega
  have HM := Lib.hid hmb
  have HN := Lib.hid (fun u hu => st_new m (by omega) (by omega) u w.heap.size hu (m : Int) rfl)
  have L1 : Hid (∀ u : World, Calls Try.prog 20 #[.int .i64 a0, .int .i64 8] u fun e w' => e = .returned (.int .i64 (m0 : Int)) ∧ u = w') := HL1
  have L2 : Hid (∀ u : World, Calls Try.prog 20 #[.int .i64 a1, .int .i64 41] u fun e w' => e = .returned (.int .i64 (q : Int)) ∧ u = w') := HL2
  clear HL1 HL2
  go_enter Try.func5, Try.ntmps5
  go_wp2_with fail
  (with_reducible refine (L1.out _).mono ?_)
  rintro e1 w1 ⟨rfl, rfl⟩
  go_wp2_with fail
  (with_reducible refine (L2.out _).mono ?_)
  rintro e2 w2 ⟨rfl, rfl⟩
  clear L1 L2
  go_wp2_with fail
  (with_reducible refine (HN.out _ (Nat.le_refl _)).mono ?_)
  rintro e3 w3 ⟨rfl, s3, b3⟩
  rw [← floor_zero] at s3
  have S3 := Lib.hid s3
  have B3 := Lib.hid b3
  clear s3 b3 HN
  go_wp2_with fail
  go_loopw [6] (fun i wr => ∃ j : Nat, j ≤ q ∧ i = .int .i64 j ∧ Hid (St wr w.heap.size w.heap.size (floorS m j)) ∧ Hid (Below w.heap.size w wr)) (fun i _ => q - (intOf i).toNat)
  case atStart => exact ⟨0, by omega, rfl, S3, B3⟩
  case round =>
    obtain ⟨j, hj, rfl, S, B⟩ := hrel
    by_cases hlt : j < q
    · have HA := Lib.hid (st_add S.out B.out.size (3 * (j : Int)) (k := 3 * j) (by omega))
      rw [floor_new (by omega), floor_add (by omega) S.out.1] at HA
      go_wp2_with fail
      (with_reducible refine HA.out.mono ?_)
      rintro e4 w4 ⟨rfl, s4, b4⟩
      have S4 := Lib.hid s4
      have B4 := Lib.hid (B.out.trans b4)
      clear s4 b4
      go_wp2_with fail
      go_roundw
      case rel => exact ⟨j + 1, by omega, by go_num, S4, B4⟩
      case measure => simp [intOf]; omega
    · obtain rfl : j = q := by omega
      have HLS := Lib.hid (st_list S.out)
      rw [floor_len] at HLS
      go_wp2_with fail
      (with_reducible refine HLS.out.mono ?_)
      rintro e5 w5 ⟨A5, c5, rfl, o5, b5⟩
      have S5 := Lib.hid (S.out.below b5)
      have B5 := Lib.hid (B.out.trans (b5.mono B.out.size))
      clear o5 b5
      obtain ⟨p, hp⟩ : ∃ p, min j m = p := ⟨_, rfl⟩
      rw [hp]
      go_wp2_with fail
      all_goals
        go_loopw [8] (fun i wr => ∃ i2 : Nat, i2 ≤ j ∧ i = .int .i64 i2 ∧ Hid (St wr w.heap.size w.heap.size (floorS m j)) ∧ Hid (Below w.heap.size w wr)) (fun i _ => j - (intOf i).toNat)
        case atStart => exact ⟨0, by omega, rfl, S5, B5⟩
        case round =>
          obtain ⟨i2, hi2, rfl, S, B⟩ := hrel
          by_cases hlt2 : i2 < j
          · have HH := Lib.hid (st_has S.out (by omega) (3 * (i2 : Int)) (k := 3 * i2) (by omega) true (decide_eq_true (floor_mem hlt2)))
            go_wp2_with fail
            (with_reducible refine HH.out.mono ?_)
            rintro e6 w6 ⟨rfl, b6⟩
            have S6 := Lib.hid (S.out.below b6)
            have B6 := Lib.hid (B.out.trans (b6.mono B.out.size))
            have HA := Lib.hid (st_add S6.out B6.out.size (3 * (i2 : Int)) (k := 3 * i2) (by omega))
            rw [not_new (floor_mem hlt2), RS.add_old (not_new (floor_mem hlt2))] at HA
            clear b6 S B
            go_wp2_with fail
            (with_reducible refine HA.out.mono ?_)
            rintro e7 w7 ⟨rfl, s7, b7⟩
            have S7 := Lib.hid s7
            have B7 := Lib.hid (B6.out.trans b7)
            clear s7 b7 S6 B6
            by_cases hg : 0 < i2 ∧ i2 + m < j
            · have g1 : (0 : Int) < (i2 : Int) := by omega
              have g2 : (i2 : Int) < (j : Int) - (m : Int) := by omega
              have hm1 := floor_mem1 hg.1 hg.2
              have HA2 := Lib.hid (st_add S7.out B7.out.size (3 * (i2 : Int) - 1) (k := 3 * i2 - 1) (by omega))
              rw [not_new hm1, RS.add_old (not_new hm1)] at HA2
              go_wp2_with fail
              (with_reducible refine HA2.out.mono ?_)
              rintro e8 w8 ⟨rfl, s8, b8⟩
              have S8 := Lib.hid s8
              have B8 := Lib.hid (B7.out.trans b8)
              have HH8 := Lib.hid (st_has s8 (by omega) (3 * (i2 : Int) - 1) (k := 3 * i2 - 1) (by omega) true (decide_eq_true hm1))
              clear s8 b8 S7 B7
              go_wp2_with fail
              (with_reducible refine HH8.out.mono ?_)
              rintro e9 w9 ⟨rfl, b9⟩
              have S9 := Lib.hid (S8.out.below b9)
              have B9 := Lib.hid (B8.out.trans (b9.mono B8.out.size))
              clear b9
              go_wp2_with fail
              go_roundw
              case rel => exact ⟨i2 + 1, by omega, by go_num, S9, B9⟩
              case measure => simp [intOf]; omega
            · by_cases h0 : i2 = 0
              · subst h0
                go_wp2_with fail
                go_roundw
                case rel => exact ⟨0 + 1, by omega, by go_num, S7, B7⟩
                case measure => simp [intOf]; omega
              · have g1 : (0 : Int) < (i2 : Int) := by omega
                have g2 : ¬ (i2 : Int) < (j : Int) - (m : Int) := by omega
                go_wp2_with fail
                go_roundw
                case rel => exact ⟨i2 + 1, by omega, by go_num, S7, B7⟩
                case measure => simp [intOf]; omega
          · obtain rfl : i2 = j := by omega
            have HW := Lib.hid (awake_any)
            go_wp2_with fail
            (with_reducible refine (HW.out _).mono ?_)
            rintro e9 w9 ⟨rfl, b9⟩
            go_wp2
            go_ret
            exact ⟨rfl, B.out.trans (b9.mono B.out.size)⟩
end Go.Proofs.Ytebpalcfnfgfdaa
