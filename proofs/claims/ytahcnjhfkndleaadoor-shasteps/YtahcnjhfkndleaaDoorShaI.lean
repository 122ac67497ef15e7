/-
  awake: the digest of 'abc' and the length of a filling.
-/
import Derived.Test.YtahcnjhfkndleaaDoorShaH
import Derived.Test.YtahcnjhfkndleaaDoorShaQ
import Derived.Lib.SlBytesConst
import Derived.Lib.SmallJoins
namespace Go.Proofs.YtahcnjhfkndleaaDoor
open Go.RowKit Go.Joins
set_option linter.unusedVariables false

/-- a slice of bytes in a block that is known whole -/
theorem sl_block {w : World} {g B : Nat} {l : List UInt8} {t : TypeId} {fr : Nat × Nat} (hg : w.heap[g]? = some (.cells (bvs l).toArray t fr)) (hB : g < B) : Sl w B (some ⟨g, 0, none⟩) l.length l := by
  refine ⟨rfl, fun _ => ⟨g, 0, rfl, hB, fun j hj => ?_⟩⟩
  rw [cell_of_row _ _ _ _ _ _ hg, Nat.zero_add]
  simp [bvs, hj]
/-- pieces in a block that is known whole -/
theorem sls_block {w : World} {g B : Nat} {ps : List Piece} {t : TypeId} {fr : Nat × Nat} (hg : w.heap[g]? = some (.cells (ps.map fun p => Value.slice p.A p.n p.c).toArray t fr)) (hB : g < B)
    (h : ∀ p ∈ ps, Sl w B p.A p.n p.l ∧ p.n ≤ p.c ∧ p.c ≤ maxLen ∧ ∀ a, p.A = some a → a.block < B) : Sls w B (some ⟨g, 0, none⟩) ps.length ps := by
  refine ⟨rfl, fun _ => ⟨g, 0, rfl, hB, fun j hj => ?_⟩, h⟩
  rw [cell_of_row _ _ _ _ _ _ hg, Nat.zero_add]
  simp [hj]
theorem bytes_abc : ∀ j b, (j, b) ∈ [(0, (186 : UInt8)), (1, 120), (31, 173)] → (bvs (sumV [97, 98, 99]))[j]? = some (bv b) := by
  intro j b h
  have e := sum_abc
  simp only [Prod.mk.injEq] at e
  have hl := sumV_length [97, 98, 99]
  have key : ∀ j, j < 32 → (bvs (sumV [97, 98, 99]))[j]? = some (bv ((sumV [97, 98, 99]).getD j 0)) := fun j hj => by
    simp [bvs, hl, hj]
  simp only [List.mem_cons, Prod.mk.injEq, List.not_mem_nil, or_false] at h
  rcases h with ⟨rfl, rfl⟩ | ⟨rfl, rfl⟩ | ⟨rfl, rfl⟩
  · rw [key 0 (by omega), e.1]
  · rw [key 1 (by omega), e.2.1]
  · rw [key 31 (by omega), e.2.2]

set_option maxHeartbeats 1000000 in
theorem awake_any (w : World) (hG : Glob w) : Calls Tryd.prog 7 #[] w fun e w' => e = .returned (.bool true) ∧ Below w.heap.size w w' := by
  have HG := Lib.hid hG
  clear hG
  have hcv1 := Lib.run_convert_bytes_const (P := Tryd.prog) w 22 5 #[.int .u8 97] 1 1 Tryd.underlying22 Tryd.underlying5
  have hcv2 := run_convert_bytes_const_at (P := Tryd.prog) (w.alloc (.cells #[.int .u8 97] 5 (1, 2))) 22 5 #[.int .u8 98, .int .u8 99] 2 2 (w.heap.size + 1) (by simp) Tryd.underlying22 Tryd.underlying5
  have hsz1 : #[Value.int .u8 97].size = 1 := rfl
  have hsz2 : #[Value.int .u8 98, Value.int .u8 99].size = 2 := rfl
  rw [hsz1] at hcv1
  rw [hsz2] at hcv2
  clear hsz1 hsz2
  go_enter Tryd.func7, Tryd.ntmps7
  go_wp2_with fail
  (with_reducible refine (sum_any [⟨some ⟨w.heap.size, 0, none⟩, 1, 1, [97]⟩, ⟨some ⟨w.heap.size + 1, 0, none⟩, 2, 2, [98, 99]⟩] _ 2 2 (w.heap.size + 3) _ ?q1 ?q2 ?q3 (by simp [maxLen]) (by simp [joined])).mono ?_)
  case q1 => exact HG.out.below ((((Below.refl _ _).alloc (Nat.le_refl _) _).alloc (by simp) _).alloc (by simp; omega) _)
  case q2 =>
    refine sls_block (g := w.heap.size + 2) (B := w.heap.size + 3) (ps := [⟨some ⟨w.heap.size, 0, none⟩, 1, 1, [97]⟩, ⟨some ⟨w.heap.size + 1, 0, none⟩, 2, 2, [98, 99]⟩]) (t := 22) (fr := (0, 0)) ?_ (by omega) ?_
    · exact heap_allocs w [_, _, _] 2 _ rfl
    intro p hp
    simp only [List.mem_cons, List.not_mem_nil, or_false] at hp
    rcases hp with rfl | rfl
    · refine ⟨sl_block (l := [97]) (heap_allocs w [_, _, _] 0 _ rfl) (by omega), Nat.le_refl _, by simp [maxLen], fun a ha => ?_⟩
      injection ha with ha
      subst ha
      show w.heap.size < _
      omega
    · refine ⟨sl_block (l := [98, 99]) (heap_allocs w [_, _, _] 1 _ rfl) (by omega), Nat.le_refl _, by simp [maxLen], fun a ha => ?_⟩
      injection ha with ha
      subst ha
      show w.heap.size + 1 < _
      omega
  case q3 => simp
  rintro e1 w1 ⟨rfl, hb1⟩
  have hj : joined [⟨some ⟨w.heap.size, 0, none⟩, 1, 1, [97]⟩, ⟨some ⟨w.heap.size + 1, 0, none⟩, 2, 2, [98, 99]⟩] = [97, 98, 99] := rfl
  rw [hj]
  have hB1 : Below w.heap.size w w1 := ((((Below.refl _ _).alloc (Nat.le_refl _) _).alloc (by simp) _).alloc (by simp; omega) _).trans (hb1.mono (by simp; omega))
  have HB1 := Lib.hid hB1
  clear hB1 hb1 hj hcv1 hcv2
  have hol : (bvs (sumV [97, 98, 99])).length = 32 := by rw [bvs_length, sumV_length]
  have HOl := Lib.hid hol
  obtain ⟨cs, hcs⟩ : ∃ cs, bvs (sumV [97, 98, 99]) = cs := ⟨_, rfl⟩
  have k0 := bytes_abc 0 186 (by simp)
  have k1 := bytes_abc 1 120 (by simp)
  have k31 := bytes_abc 31 173 (by simp)
  have hone := bvs_one (sumV [97, 98, 99])
  rw [hcs] at hol HOl k0 k1 k31 hone ⊢
  have Hone := Lib.hid hone
  have K0 := Lib.hid k0
  have K1 := Lib.hid k1
  have K31 := Lib.hid k31
  clear hcs hol k0 k1 k31 hone
  go_wp2_with (first
    | ((with_reducible refine wpList_store_only rfl 26 (.tmp 1) (.tmp 7) rfl w1.heap.size cs ?hx ?hy 26 (List.replicate 32 (.int .u8 0)).toArray ?hg ?hi ?ho Hone.out ?_); (case hx => with_unfolding_all rfl); (case hy => with_unfolding_all rfl); (case hg => exact heap_alloc_new _ _); (case hi => rw [size32, HOl.out]); (case ho => rw [HOl.out]; rfl); intro w2 H2 HO2; have c0 : w2.cell? ⟨w1.heap.size, 0, none⟩ = some (.int .u8 186) := (by rw [cell_of_row _ _ _ _ _ _ H2.out, List.getElem?_toArray]; exact K0.out); have c1 : w2.cell? ⟨w1.heap.size, 1, none⟩ = some (.int .u8 120) := (by rw [cell_of_row _ _ _ _ _ _ H2.out, List.getElem?_toArray]; exact K1.out); have c31 : w2.cell? ⟨w1.heap.size, 31, none⟩ = some (.int .u8 173) := (by rw [cell_of_row _ _ _ _ _ _ H2.out, List.getElem?_toArray]; exact K31.out))
    | (go_at_call 15; (refine (pad_any 3 (by omega) _).mono ?_); rintro e3 w3 ⟨A3, d3, rfl, ho3, hle3, hd3, hb3⟩))
  go_ret
  have hb2 : Below w.heap.size w w2 := HB1.out.trans (((Below.refl _ _).alloc HB1.out.size _).trans (HO2.out.below (Nat.le_trans HB1.out.size (by simp)) HB1.out.size))
  exact ⟨rfl, hb2.trans (hb3.mono hb2.size)⟩
end Go.Proofs.YtahcnjhfkndleaaDoor
