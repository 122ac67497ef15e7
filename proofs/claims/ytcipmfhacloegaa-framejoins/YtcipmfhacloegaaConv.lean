/-
  Bytes as a string.
-/
import Derived.Test.YtcipmfhacloegaaWords
import Derived.Laws.BytesString
namespace Go.Proofs.Ytcipmfhacloegaa
open Go.RowKit
set_option linter.unusedVariables false

/-- []byte to string -/
theorem conv_bytes (l : List UInt8) (A : Option Addr) (n c B : Nat) (w : World) (h : Sl w B A n l) : (convert 24 9 (.slice A n c)).run Try.prog w = .ok (.string ⟨l.toArray⟩) w := by
  rw [run_convert_bytes_string w 24 9 5 A n c Try.underlying24 Try.underlying5 Try.underlying9]
  have hl := h.1
  have key : ∀ (l : List UInt8) (s : ByteArray), (l.map (fun b => (b.toNat : Int))).foldl (fun r n => r.push (UInt8.ofNat n.toNat)) s = ⟨s.data ++ l.toArray⟩ := by
    intro l
    induction l with
    | nil => intro s; simp
    | cons b r ih => intro s; simp only [List.map_cons, List.foldl_cons, ih]; simp [ByteArray.push]
  by_cases h0 : n = 0
  · subst h0
    obtain rfl : l = [] := List.eq_nil_of_length_eq_zero hl
    cases A with
    | none => simp [Conv.bytesToString]; rfl
    | some a => exact run_bytesToString w a 0 c [] (by simpa using run_loadCells_list (P := Try.prog) w a [] (by simp))
  · obtain ⟨b, off, rfl, hb, hc⟩ := h.2 (by omega)
    have e : (l.map (fun b => (b.toNat : Int))).map (Value.int .u8) = bvs l := by simp [bvs, bv]
    rw [run_bytesToString w ⟨b, off, none⟩ n c (l.map (fun b => (b.toNat : Int))) ?_, key l]
    · simp [ByteArray.empty, ByteArray.emptyWithCapacity]; rfl
    · rw [e, ← hl, ← bvs_length l]
      refine run_loadCells_list (P := Try.prog) w _ (bvs l) fun j u hu => ?_
      have hj : j < l.length := by
        have := (List.getElem?_eq_some_iff.1 hu).1
        rwa [bvs_length] at this
      have hadd : (⟨b, off, none⟩ : Addr).add j = ⟨b, off + j, none⟩ := by unfold Addr.add; split <;> simp_all
      rw [hadd, hc j hj, ← hu]
      simp [bvs, hj]
end Go.Proofs.Ytcipmfhacloegaa
