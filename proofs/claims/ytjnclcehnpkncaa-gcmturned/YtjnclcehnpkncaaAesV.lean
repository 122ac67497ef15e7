/-
  The document's own New.
-/
import Derived.Test.YtjnclcehnpkncaaAesU
namespace Go.Proofs.Ytjnclcehnpkncaa
open Go.RowKit
set_option linter.unusedVariables false

theorem size432 : (Try.prog.info? 65).map (·.size) = some 432 := by kernel_rfl
theorem zero432 : (Try.prog.info? 65).map (fun i => i.zero.map Value.cells) = some (some (List.replicate 432 (Value.int .u8 0)).toArray) := by kernel_rfl
theorem places432 : ((Try.prog.underlying 65).bind fun d => match d with | .struct fs => fs.toList.mapM (fun f => (Try.prog.info? f.type).map fun i => (f.offset, i.size)) | _ => none) = some [(0, 176), (176, 256)] := by kernel_rfl
theorem splice_two (Z A B : List Value) (n : Nat) (hz : Z.length = n) (h : A.length + B.length = n) : splice (splice Z 0 A) A.length B = A ++ B := by
  unfold splice
  rw [List.take_zero, List.nil_append, Nat.zero_add, List.take_left' rfl, List.drop_append, List.drop_of_length_le (by omega), List.nil_append, List.drop_drop, List.drop_of_length_le (by omega), List.append_nil]
theorem built_two {P : Program} (t : TypeId) (n m k : Nat) (hz : (P.info? t).map (fun i => i.zero.map Value.cells) = some (some (List.replicate n (Value.int .u8 0)).toArray))
    (hp : ((P.underlying t).bind fun d => match d with | .struct fs => fs.toList.mapM (fun f => (P.info? f.type).map fun i => (f.offset, i.size)) | _ => none) = some [(0, m), (m, k)])
    (A B : List Value) (hA : A.length = m) (hB : B.length = k) (hn : m + k = n) : P.built t [(0, .agg A.toArray), (1, .agg B.toArray)] = some (A ++ B).toArray := by
  cases hq : P.info? t with
  | none => simp [hq] at hz
  | some i =>
    cases hz' : i.zero with
    | none => simp [hq, hz'] at hz
    | some z =>
      cases hu : P.underlying t with
      | none => simp [hu] at hp
      | some d =>
        cases d <;> try (simp [hu] at hp; done)
        case struct fs =>
          have hp2 : fs.toList.mapM (fun f => (P.info? f.type).map fun i => (f.offset, i.size)) = some [(0, m), (m, k)] := by simpa [hu] using hp
          have h2 : z.cells = (List.replicate n (Value.int .u8 0)).toArray := by simpa [hq, hz'] using hz
          obtain ⟨Z, hZ⟩ : ∃ Z, List.replicate n (Value.int .u8 0) = Z := ⟨_, rfl⟩
          have hZl : Z.length = n := by rw [← hZ, List.length_replicate]
          rw [hZ] at h2
          have hs1 : (splice Z 0 A).length = n := by simp [splice]; omega
          have f1 := fill_part A Z 0 (by omega)
          have f2 := fill_part B (splice Z 0 A) A.length (by omega)
          rw [splice_two Z A B n hZl (by omega)] at f2
          have hcA : (Value.agg A.toArray).cells = A.toArray := rfl
          have hcB : (Value.agg B.toArray).cells = B.toArray := rfl
          subst hA
          simp only [Program.built, hq, hu, hz', hp2, Instr.fill, hcA, hcB, h2]
          have g0 : ([(0, A.length), (A.length, k)] : List (Nat × Nat)).toArray[0]? = some (0, A.length) := rfl
          have g1 : ([(0, A.length), (A.length, k)] : List (Nat × Nat)).toArray[1]? = some (A.length, k) := rfl
          rw [g0]
          simp only []
          rw [if_neg (by simp; omega), g1]
          simp only []
          rw [f1, if_neg (by simp; omega)]
          exact congrArg some f2
/-- a cipher's bytes -/
def cipV (key : List UInt8) : List UInt8 := keysV key ++ boxT
theorem cipV_length (key : List UInt8) (h : key.length = 16) : (cipV key).length = 432 := by
  unfold cipV
  rw [List.length_append, keysV_length key h, boxT_length]
theorem built_cipher (key : List UInt8) (h : key.length = 16) : Try.prog.built 65 [(0, .agg (bvs (keysV key)).toArray), (1, .agg (bvs boxT).toArray)] = some (bvs (cipV key)).toArray := by
  unfold cipV
  rw [bvs_append]
  exact built_two 65 432 176 256 zero432 places432 (bvs (keysV key)) (bvs boxT) (by rw [bvs_length, keysV_length key h]) (by rw [bvs_length, boxT_length]) rfl

set_option maxHeartbeats 1000000 in
theorem new_any (key : List UInt8) (hk : key.length = 16) (w : World) :
    Calls Try.prog 24 #[.agg (bvs key).toArray] w fun e w' => ∃ g, e = .returned (.pointer (some ⟨g, 0, none⟩)) ∧ w.heap.size ≤ g ∧ Blk w' g 65 (cipV key) ∧ Below w.heap.size w w' := by
  have Hk := Lib.hid hk
  have HBC := Lib.hid (built_cipher key hk)
  clear hk
  go_enter Try.func24, Try.ntmps24
  go_wp2_with (first
    | ((with_reducible refine wpList_load_blk rfl 22 (.tmp 1) rfl w.heap.size ?hx 22 key ?hg 16 5 Try.underlying22 16 sizeRow Hk.out ?_); (case hx => with_unfolding_all rfl); (case hg => exact heap_alloc_new _ _))
    | (go_at_call 35; (with_reducible refine (rkeys_any _ Hk.out _).mono ?_); rintro e1 w1 ⟨rfl, hb1⟩; have B1 : Hid (Below w.heap.size w w1) := ((Below.refl _ _).alloc (Nat.le_refl _) _).trans (hb1.mono (by simp)); clear hb1)
    | (go_at_call 36; (with_reducible refine (boxes_any _).mono ?_); rintro e2 w2 ⟨rfl, hb2⟩; have B2 : Hid (Below w.heap.size w w2) := B1.out.trans (hb2.mono B1.out.size); clear hb2)
    | ((with_reducible refine wpList_build_pair rfl 65 0 1 (.tmp 4) (.tmp 5) rfl (.agg (bvs (keysV key)).toArray) (.agg (bvs boxT).toArray) ?hx ?hy (bvs (cipV key)).toArray HBC.out ?_); (case hx => with_unfolding_all rfl); (case hy => with_unfolding_all rfl)))
  go_ret
  exact ⟨w2.heap.size, rfl, B2.out.size, blk_new _ _ _, B2.out.alloc B2.out.size _⟩
end Go.Proofs.Ytjnclcehnpkncaa
