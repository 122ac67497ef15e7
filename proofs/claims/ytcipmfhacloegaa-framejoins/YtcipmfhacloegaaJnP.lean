/-
  FrameJoins, what is pure: the frame that a number tells; frames one behind the other with their last byte cut.
-/
import Derived.Test.YtcipmfhacloegaaFrQ
import Derived.Test.YtcipmfhacloegaaFrT
namespace Go.Proofs.Ytcipmfhacloegaa
open Go.RowKit
set_option linter.unusedVariables false

/-- the frame that a number tells -/
def jK (k n : Nat) : Fr :=
  match k with
  | 0 => Fr.of 1
  | 1 => { Fr.of 16 with n := n }
  | 2 => { Fr.of 25 with n := n }
  | 3 => { Fr.of 8 with id := n, fin := n % 2 == 0, data := growL (n % 70) (n % 1000) }
  | 4 => { Fr.of 6 with off := n, data := growL (n % 9) 3 }
  | 5 => { Fr.of 2 with delay := n, rs := [(n / 2, n)] }
  | 6 => { Fr.of 26 with data := growL 8 (n % 300) }
  | _ => { Fr.of 28 with n := n }
def jF (z : Nat) : Fr := jK (z % 8) (z / 8)
theorem jK_kind (k n : Nat) : (jK k n).kind ≠ 0 := by
  match k with
  | 0 | 1 | 2 | 3 | 4 | 5 | 6 => simp [jK, Fr.of]
  | k + 7 => simp [jK, Fr.of]
theorem jK_may (k n : Nat) (hn : n < 2305843009213693952) : MayF (jK k n) := by
  have h1 : n ≤ maxV := by unfold maxV; omega
  have h70 : n % 70 < 16384 := by omega
  have h9 : n % 9 < 16384 := by omega
  have ho : n + n % 9 ≤ maxV := by unfold maxV; omega
  have h70' : n % 70 ≤ maxV := by unfold maxV; omega
  have h2 : n / 2 ≤ n := Nat.div_le_self _ _
  match k with
  | 0 => simp [jK, Fr.of, MayF, plainF]
  | 1 => simp [jK, Fr.of, MayF, plainF, h1]
  | 2 => simp [jK, Fr.of, MayF, plainF, h1]
  | 3 => simp [jK, Fr.of, MayF, plainF, h1, growL_length, h70, h70']
  | 4 => simp [jK, Fr.of, MayF, plainF, growL_length, h9, ho]
  | 5 => simp [jK, Fr.of, MayF, plainF, RangesP, chainR, h1, h2]
  | 6 => simp [jK, Fr.of, MayF, plainF, growL_length]
  | k + 7 => simp [jK, Fr.of, MayF, plainF, h1]
theorem jK_nums (k n : Nat) (hn : n < 2305843009213693952) : FrN (jK k n) := by
  have h2 : n / 2 ≤ n := Nat.div_le_self _ _
  match k with
  | 0 => exact ⟨by simp [jK, Fr.of], by simp [jK, Fr.of], by simp [jK, Fr.of], by simp [jK, Fr.of], by simp [jK, Fr.of], by simp [jK, Fr.of]⟩
  | 1 => exact ⟨by simp [jK, Fr.of], by simp [jK, Fr.of]; omega, by simp [jK, Fr.of], by simp [jK, Fr.of], by simp [jK, Fr.of], by simp [jK, Fr.of]⟩
  | 2 => exact ⟨by simp [jK, Fr.of], by simp [jK, Fr.of]; omega, by simp [jK, Fr.of], by simp [jK, Fr.of], by simp [jK, Fr.of], by simp [jK, Fr.of]⟩
  | 3 => exact ⟨by simp [jK, Fr.of], by simp [jK, Fr.of], by simp [jK, Fr.of], by simp [jK, Fr.of]; omega, by simp [jK, Fr.of], by simp [jK, Fr.of]⟩
  | 4 => exact ⟨by simp [jK, Fr.of], by simp [jK, Fr.of], by simp [jK, Fr.of], by simp [jK, Fr.of], by simp [jK, Fr.of]; omega, by simp [jK, Fr.of]⟩
  | 5 => exact ⟨by simp [jK, Fr.of], by simp [jK, Fr.of], by simp [jK, Fr.of]; omega, by simp [jK, Fr.of], by simp [jK, Fr.of], by simp [jK, Fr.of]; omega⟩
  | 6 => exact ⟨by simp [jK, Fr.of], by simp [jK, Fr.of], by simp [jK, Fr.of], by simp [jK, Fr.of], by simp [jK, Fr.of], by simp [jK, Fr.of]⟩
  | k + 7 => exact ⟨by simp [jK, Fr.of], by simp [jK, Fr.of]; omega, by simp [jK, Fr.of], by simp [jK, Fr.of], by simp [jK, Fr.of], by simp [jK, Fr.of]⟩
theorem jK_put (k n : Nat) : (putF (jK k n)).length ≤ 200 := by
  have e1 := enc_le n
  have e2 := enc_le 0
  match k with
  | 0 => simp [jK, Fr.of, putF]
  | 1 => simp [jK, Fr.of, putF]; omega
  | 2 => simp [jK, Fr.of, putF]; omega
  | 3 => have e3 := enc_le (n % 70); simp [jK, Fr.of, putF, growL_length]; omega
  | 4 => have e3 := enc_le (n % 9); simp [jK, Fr.of, putF, growL_length]; omega
  | 5 => have e3 := enc_le (n - n / 2); simp [jK, Fr.of, putF, putAck, putRs]; omega
  | 6 => simp [jK, Fr.of, putF, growL_length]
  | k + 7 => simp [jK, Fr.of, putF]; omega
theorem apart_kinds (fs : List Fr) (h : ∀ f ∈ fs, f.kind ≠ 0) : apartF fs := by
  induction fs with
  | nil => trivial
  | cons f t ih =>
    cases t with
    | nil => trivial
    | cons g t => exact ⟨fun h' => h f (List.mem_cons_self ..) h'.1, ih fun x hx => h x (List.mem_cons_of_mem _ hx)⟩
/-- with the last byte cut -/
theorem allX_short (fs : List Fr) (g : Fr) (hm : ∀ f ∈ fs, MayF f) (hg : MayF g) (hk : ∀ f ∈ fs, f.kind ≠ 0) (hgk : g.kind ≠ 0) (hc : fs.length < 64) :
    allX ((joinF (fs ++ [g])).take ((joinF (fs ++ [g])).length - 1)) = if 1 < (putF g).length then .error 3 else if fs = [] then .error 5 else .ok fs := by
  obtain ⟨b, t, hbt⟩ := putF_ne g hg
  have hpos : 1 ≤ (putF g).length := by rw [hbt]; simp
  have ej : joinF (fs ++ [g]) = joinF fs ++ putF g := by rw [joinF_append]; simp [joinF]
  have et : (joinF (fs ++ [g])).take ((joinF (fs ++ [g])).length - 1) = joinF fs ++ (putF g).take ((putF g).length - 1) := by
    rw [ej, List.length_append, List.take_append, List.take_of_length_le (by omega), show (joinF fs).length + (putF g).length - 1 - (joinF fs).length = (putF g).length - 1 by omega]
  rw [et]
  by_cases h : 1 < (putF g).length
  · rw [if_pos h]
    have hl : (joinF fs ++ (putF g).take ((putF g).length - 1)).length = (joinF fs).length + ((putF g).length - 1) := by
      rw [List.length_append, List.length_take]
      omega
    unfold allX
    rw [if_neg (fun e => by rw [e] at hl; simp at hl; omega), hl]
    exact rowX_cut fs g hm hg hgk (apart_kinds _ fun f hf => by
      rcases List.mem_append.1 hf with hf | hf
      · exact hk f hf
      · obtain rfl : f = g := by simpa using hf
        exact hgk) _ (by omega) (by omega) _ 0 (Nat.le_refl _) (by omega)
  · rw [if_neg h, show (putF g).length - 1 = 0 by omega, List.take_zero, List.append_nil]
    by_cases h0 : fs = []
    · subst h0
      rw [if_pos rfl]
      rfl
    · rw [if_neg h0]
      have : fs.length ≠ 0 := fun e => h0 (List.eq_nil_of_length_eq_zero e)
      exact allX_join fs hm (apart_kinds fs hk) (by omega) (by omega)
end Go.Proofs.Ytcipmfhacloegaa
