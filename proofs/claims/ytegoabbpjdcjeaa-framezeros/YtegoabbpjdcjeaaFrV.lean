/-
  Zeros between two frames, as data: what FrameZeros tells. (Lists alone.)
-/
import Derived.Test.YtegoabbpjdcjeaaFrAll
namespace Go.Proofs.Ytegoabbpjdcjeaa
open Go.RowKit
set_option linter.unusedVariables false

def mdF (v : Nat) : Fr := { Fr.of 16 with n := v }
theorem mdF_may (v : Nat) (hv : v ≤ maxV) : MayF (mdF v) := by
  unfold MayF mdF
  simp [plainF, Fr.of, hv]
theorem mdF_put (v : Nat) : putF (mdF v) = 16 :: enc v := rfl
theorem padsF_len (k m : Nat) (hk : m ≤ k * 16384) : (padsF k m).length = (m + 16383) / 16384 := by
  induction k generalizing m with
  | zero => obtain rfl : m = 0 := by omega
            rfl
  | succ k ih =>
    unfold padsF
    by_cases h : m = 0
    · rw [if_pos h]; subst h; rfl
    · rw [if_neg h, List.length_cons, ih _ (by omega)]
      omega
theorem padsF_at (k m i : Nat) (hk : m ≤ k * 16384) (hi : i < (padsF k m).length) : (padsF k m)[i] = padF (min (m - 16384 * i) 16384) := by
  induction k generalizing m i with
  | zero => simp [padsF] at hi
  | succ k ih =>
    by_cases h : m = 0
    · subst h; simp [padsF] at hi
    · have e : padsF (k + 1) m = padF (min m 16384) :: padsF k (m - min m 16384) := by
        show (if m = 0 then _ else _) = _
        rw [if_neg h]
      simp only [e] at hi ⊢
      cases i with
      | zero => simp
      | succ i =>
        simp only [List.length_cons] at hi
        simp only [List.getElem_cons_succ]
        rw [ih (m - min m 16384) i (by omega) (by omega)]
        rw [show m - min m 16384 - 16384 * i = m - 16384 * (i + 1) by omega]
theorem zeros_all (v m : Nat) (hv : v ≤ maxV) (hm : m ≤ 49152) : allX (putF (mdF v) ++ (List.replicate m 0 ++ putF (mdF v))) = .ok (mdF v :: (padsF 3 m ++ [mdF v])) := by
  have hmay := mdF_may v hv
  have hj : joinF [mdF v] = putF (mdF v) := by simp [joinF]
  have hne : putF (mdF v) ++ (List.replicate m 0 ++ putF (mdF v)) ≠ [] := by rw [mdF_put]; simp
  unfold allX
  rw [if_neg hne]
  have hl : (padsF 3 m).length ≤ 3 := by rw [padsF_len 3 m (by omega)]; omega
  have hg : getX (putF (mdF v) ++ (List.replicate m 0 ++ putF (mdF v))) = .ok (mdF v, List.replicate m 0 ++ putF (mdF v)) := getX_put (mdF v) hmay _ (fun h => by simp [mdF, Fr.of] at h)
  obtain ⟨b, t, hbt⟩ : ∃ b t, putF (mdF v) ++ (List.replicate m 0 ++ putF (mdF v)) = b :: t := ⟨_, _, by rw [mdF_put]; rfl⟩
  have hlen : (putF (mdF v) ++ (List.replicate m 0 ++ putF (mdF v))).length = ((enc v).length + m + (enc v).length + 1) + 1 := by rw [mdF_put]; simp; omega
  rw [hlen]
  rw [hbt] at hg ⊢
  rw [rowX_cons, if_neg (by omega), hg, thenX_ok]
  simp only
  have hz := rowX_zeros [mdF v] (fun f hf => by have : f = mdF v := by simpa using hf
                                                rw [this]; exact hmay) trivial (by rw [hj, mdF_put]; simp) 3 m (by omega) ((enc v).length + m + (enc v).length + 1) 1 (by rw [hj, mdF_put]; simp; omega) (by simp; omega)
  rw [hj] at hz
  rw [hz, thenX_ok]
end Go.Proofs.Ytegoabbpjdcjeaa
