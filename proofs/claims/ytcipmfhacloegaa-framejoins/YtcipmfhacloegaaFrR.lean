/-
  Ranges by places: what a loop over them asks is what the chain says; lengths of what is laid.
-/
import Derived.Test.YtcipmfhacloegaaFrQ
namespace Go.Proofs.Ytcipmfhacloegaa
open Go.RowKit
set_option linter.unusedVariables false

/-- what is asked of the range at place i -/
def condR (rs : List (Nat × Nat)) (i : Nat) : Prop :=
  (rs.getD i (0, 0)).1 ≤ (rs.getD i (0, 0)).2 ∧ (rs.getD i (0, 0)).2 ≤ maxV ∧ (0 < i → (rs.getD i (0, 0)).2 + 2 ≤ (rs.getD (i - 1) (0, 0)).1)
theorem chain_from (rs : List (Nat × Nat)) (p : Option Nat) : chainR p rs ↔ (∀ i, i < rs.length → condR rs i) ∧ (∀ q, p = some q → 0 < rs.length → (rs.getD 0 (0, 0)).2 + 2 ≤ q) := by
  induction rs generalizing p with
  | nil => simp [chainR]
  | cons x t ih =>
    obtain ⟨lo, hi⟩ := x
    show (lo ≤ hi ∧ hi ≤ maxV ∧ (∀ q, p = some q → hi + 2 ≤ q) ∧ chainR (some lo) t) ↔ _
    rw [ih (some lo)]
    constructor
    · rintro ⟨h1, h2, h3, h4, h5⟩
      refine ⟨fun i hi' => ?_, fun q hq _ => h3 q hq⟩
      cases i with
      | zero => exact ⟨h1, h2, fun h => absurd h (by omega)⟩
      | succ i =>
        simp only [List.length_cons] at hi'
        obtain ⟨c1, c2, c3⟩ := h4 i (by omega)
        refine ⟨c1, c2, fun _ => ?_⟩
        cases i with
        | zero => exact h5 lo rfl (by omega)
        | succ i => exact c3 (by omega)
    · rintro ⟨h1, h2⟩
      obtain ⟨c1, c2, _⟩ := h1 0 (by simp)
      refine ⟨c1, c2, fun q hq => h2 q hq (by simp), fun i hi' => ?_, fun q hq hl => ?_⟩
      · obtain ⟨d1, d2, d3⟩ := h1 (i + 1) (by simp; omega)
        refine ⟨d1, d2, fun h0 => ?_⟩
        obtain ⟨i, rfl⟩ : ∃ j, i = j + 1 := ⟨i - 1, by omega⟩
        exact d3 (by omega)
      · obtain ⟨_, _, d3⟩ := h1 1 (by simp; omega)
        have hq' : lo = q := by simpa using hq
        subst hq'
        exact d3 (by omega)
theorem ranges_index (rs : List (Nat × Nat)) : RangesP rs ↔ 1 ≤ rs.length ∧ rs.length ≤ 8 ∧ ∀ i, i < rs.length → condR rs i := by
  unfold RangesP
  rw [chain_from rs none]
  simp
theorem enc_len (v : Nat) (hv : v ≤ maxV) : (enc v).length = lenV v := by
  obtain ⟨k, _, _, h1, h2, _⟩ := enc_length v hv
  rw [h1, h2]
/-- how long frames of data are -/
theorem stream_len (id off : Nat) (fin : Bool) (data : List UInt8) (hi : id ≤ maxV) (ho : off ≤ maxV) (hd : data.length ≤ maxV) :
    (putF { Fr.of 8 with id := id, off := off, fin := fin, data := data }).length = 1 + lenV id + lenV off + lenV data.length + data.length := by
  show ((if fin = true then (15 : UInt8) else 14) :: (enc id ++ (enc off ++ (enc data.length ++ data)))).length = _
  simp only [List.length_cons, List.length_append, enc_len id hi, enc_len off ho, enc_len data.length hd]
  omega
theorem crypto_len (off : Nat) (data : List UInt8) (ho : off ≤ maxV) (hd : data.length ≤ maxV) :
    (putF { Fr.of 6 with off := off, data := data }).length = 1 + lenV off + lenV data.length + data.length := by
  show ((6 : UInt8) :: (enc off ++ (enc data.length ++ data))).length = _
  simp only [List.length_cons, List.length_append, enc_len off ho, enc_len data.length hd]
  omega
end Go.Proofs.Ytcipmfhacloegaa
