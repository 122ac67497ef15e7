/-
  awake: a keyed digest that is known, and what is nothing.
-/
import Derived.Test.YtnjdloocalfkmaaDoorHkE
import Derived.Test.YtnjdloocalfkmaaDoorHkQ
namespace Go.Proofs.YtnjdloocalfkmaaDoor
open Go.RowKit Go.Joins
set_option linter.unusedVariables false

theorem fox_at : ∀ j b, (j, b) ∈ [(0, (247 : UInt8)), (1, 188), (31, 216)] → (bvs (macV key3V foxV))[j]? = some (bv b) := by
  intro j b h
  have e := mac_fox
  simp only [Prod.mk.injEq] at e
  have hl := macV_length key3V foxV
  have key : ∀ j, j < 32 → (bvs (macV key3V foxV))[j]? = some (bv ((macV key3V foxV).getD j 0)) := fun j hj => by
    simp [bvs, hl, hj]
  simp only [List.mem_cons, Prod.mk.injEq, List.not_mem_nil, or_false] at h
  rcases h with ⟨rfl, rfl⟩ | ⟨rfl, rfl⟩ | ⟨rfl, rfl⟩
  · rw [key 0 (by omega), e.1]
  · rw [key 1 (by omega), e.2.1]
  · rw [key 31 (by omega), e.2.2]
theorem lab5 (u : World) (hG : Glob u) : Calls Tryd.prog 11 #[.slice none 0 0, .string ⟨#[97]⟩, .slice none 0 0, .int .i64 5] u fun e w' => (∃ A c, e = .returned (.slice A 5 c)) ∧ Below u.heap.size u w' := by
  refine (label_any [] [97] [] ⟨#[97]⟩ none none 0 0 0 0 0 5 u hG Sl.nil Sl.nil (Nat.zero_le _) (Nat.le_refl _) (by simp [maxLen]) (Nat.le_refl _) (by simp [maxLen]) (by omega) rfl).mono ?_
  rintro e w' ⟨A, c, rfl, _, _, _, hb⟩
  exact ⟨⟨A, c, rfl⟩, hb⟩

set_option maxHeartbeats 1000000 in
theorem awake_any (w : World) (hG : Glob w) : Calls Tryd.prog 8 #[] w fun e w' => e = .returned (.bool true) ∧ Below w.heap.size w w' := by
  have HG := Lib.hid hG
  clear hG
  have hcv1 := Lib.run_convert_bytes_const (P := Tryd.prog) w 22 5 (bvs key3V).toArray 3 3 Tryd.underlying22 Tryd.underlying5
  have hcv2 := run_convert_bytes_const_at (P := Tryd.prog) (w.alloc (.cells (bvs key3V).toArray 5 (3, 4))) 22 5 (bvs foxV).toArray 43 43 (w.heap.size + 1) (by simp) Tryd.underlying22 Tryd.underlying5
  have e1 : (bvs key3V).toArray = #[.int .u8 107, .int .u8 101, .int .u8 121] := by rfl
  have e2 : (bvs foxV).toArray = #[.int .u8 84, .int .u8 104, .int .u8 101, .int .u8 32, .int .u8 113, .int .u8 117, .int .u8 105, .int .u8 99, .int .u8 107, .int .u8 32, .int .u8 98, .int .u8 114, .int .u8 111, .int .u8 119, .int .u8 110, .int .u8 32, .int .u8 102, .int .u8 111, .int .u8 120, .int .u8 32, .int .u8 106, .int .u8 117, .int .u8 109, .int .u8 112, .int .u8 115, .int .u8 32, .int .u8 111, .int .u8 118, .int .u8 101, .int .u8 114, .int .u8 32, .int .u8 116, .int .u8 104, .int .u8 101, .int .u8 32, .int .u8 108, .int .u8 97, .int .u8 122, .int .u8 121, .int .u8 32, .int .u8 100, .int .u8 111, .int .u8 103] := by rfl
  have s1 : (bvs key3V).toArray.size = 3 := rfl
  have s2 : (bvs foxV).toArray.size = 43 := rfl
  rw [s1] at hcv1
  rw [s2] at hcv2
  rw [e1] at hcv1 hcv2
  rw [e2] at hcv2
  have E1 := Lib.hid e1
  have E2 := Lib.hid e2
  clear s1 s2 e1 e2
  go_enter Tryd.func8, Tryd.ntmps8
  go_wp2_with fail
  go_at_call 12
  rw [← E1.out, ← E2.out]
  have hbr : ∀ o o' o'', Below w.heap.size w (((w.alloc o).alloc o').alloc o'') := fun o o' o'' => (((Below.refl _ _).alloc (Nat.le_refl _) _).alloc (by simp) _).alloc (by simp; omega) _
  have hj : joined [⟨some ⟨w.heap.size + 1, 0, none⟩, 43, 43, foxV⟩] = foxV := by simp [joined]
  (with_reducible refine (mac_any key3V [⟨some ⟨w.heap.size + 1, 0, none⟩, 43, 43, foxV⟩] _ _ 3 3 1 1 (w.heap.size + 3) _ ?q1 ?q2 ?q3 ?q4 (Nat.le_refl _) (by simp [maxLen]) (by omega) (by omega) ?q6).mono ?_)
  case q1 => exact HG.out.below (hbr _ _ _)
  case q2 => exact sl_block (l := key3V) (heap_allocs w [_, _, _] 0 _ rfl) (by omega)
  case q3 =>
    refine slw_block (g := w.heap.size + 2) (ps := [⟨some ⟨w.heap.size + 1, 0, none⟩, 43, 43, foxV⟩]) (t := 22) (fr := (0, 0)) (heap_allocs w [_, _, _] 2 _ rfl) (by omega) (fun p hp => ?_)
    simp only [List.mem_cons, List.not_mem_nil, or_false] at hp
    subst hp
    exact ⟨sl_block (l := foxV) (heap_allocs w [_, _, _] 1 _ rfl) (by omega), Nat.le_refl _, by simp [maxLen]⟩
  case q4 => simp
  case q6 => rw [hj]; decide
  rintro e1 w1 ⟨rfl, hb1⟩
  rw [hj]
  have HB1 : Hid (Below w.heap.size w w1) := (hbr _ _ _).trans (hb1.mono (by simp; omega))
  clear hb1 hj hcv1 hcv2 hbr E1 E2
  obtain ⟨cs, hcs⟩ : ∃ cs, bvs (macV key3V foxV) = cs := ⟨_, rfl⟩
  have hol : (bvs (macV key3V foxV)).length = 32 := by rw [bvs_length, macV_length]
  have k0 := fox_at 0 247 (by simp)
  have k1 := fox_at 1 188 (by simp)
  have k31 := fox_at 31 216 (by simp)
  have hone := bvs_one (macV key3V foxV)
  rw [hcs] at hol k0 k1 k31 hone ⊢
  have HOl := Lib.hid hol
  have Hone := Lib.hid hone
  have K0 := Lib.hid k0
  have K1 := Lib.hid k1
  have K31 := Lib.hid k31
  clear hcs hol k0 k1 k31 hone
  go_wp2_with (first
    | ((with_reducible refine wpList_store_only rfl 27 (.tmp 1) (.tmp 7) rfl w1.heap.size cs ?hx ?hy 27 (List.replicate 32 (.int .u8 0)).toArray ?hg ?hi ?ho Hone.out ?_); (case hx => with_unfolding_all rfl); (case hy => with_unfolding_all rfl); (case hg => exact heap_alloc_new _ _); (case hi => rw [size32, HOl.out]); (case ho => rw [HOl.out]; rfl); intro w2 H2 HO2; have c0 : w2.cell? ⟨w1.heap.size, 0, none⟩ = some (.int .u8 247) := (by rw [cell_of_row _ _ _ _ _ _ H2.out, List.getElem?_toArray]; exact K0.out); have c1 : w2.cell? ⟨w1.heap.size, 1, none⟩ = some (.int .u8 188) := (by rw [cell_of_row _ _ _ _ _ _ H2.out, List.getElem?_toArray]; exact K1.out); have c31 : w2.cell? ⟨w1.heap.size, 31, none⟩ = some (.int .u8 216) := (by rw [cell_of_row _ _ _ _ _ _ H2.out, List.getElem?_toArray]; exact K31.out); have hb2 : Below w.heap.size w w2 := (HB1.out.alloc HB1.out.size _).trans (HO2.out.below (Nat.le_trans HB1.out.size (by simp)) HB1.out.size); have HB2 := Lib.hid hb2; clear hb2)
    | (go_at_call 10; (with_reducible refine (expand_neg none none 0 0 0 0 8161 _ (Or.inr (by omega))).mono ?_); rintro e3 w3 ⟨rfl, rfl⟩)
    | (go_at_call 11; (with_reducible refine (lab5 _ (HG.out.below HB2.out)).mono ?_); rintro e4 w4 ⟨⟨A4, c4, rfl⟩, hb4⟩; have HB4 := Lib.hid (HB2.out.trans (hb4.mono HB2.out.size)); clear hb4)
    | (go_at_call_of 19 (Value.slice none 0 0); (with_reducible refine (equal_any [] [] none _ 0 0 0 0 0 0 _ Sl.nil Sl.nil (by simp [maxLen])).mono ?_); rintro e5 w5 ⟨rfl, k5, rfl⟩)
    | (go_at_call 19; (with_reducible refine (equal_any [1] [2] _ _ 1 1 1 1 (w4.heap.size + 3) (w4.heap.size + 3) _ ?q1 ?q2 (by simp [maxLen])).mono ?_); rotate_left 2; rintro e6 w6 ⟨rfl, k6, rfl⟩))
  · go_ret
    refine ⟨rfl, ?_⟩
    have h4 := HB4.out.size
    refine below_drewN ?_ _
    refine ((below_drewN (HB4.out.alloc h4 _) _).alloc ?_ _).alloc ?_ _
    · show w.heap.size ≤ (w4.alloc _).heap.size
      simp; omega
    · have : ((((w4.alloc (Obj.cells #[] 5)).drewN k5).alloc (Obj.cells #[Value.int IntKind.u8 1] 5))).heap.size = w4.heap.size + 2 := by
        rw [World.size_alloc]
        show (w4.alloc _).heap.size + 1 = _
        simp
      rw [this]; omega
  · refine sl_cell (t := 5) (fr := (0, 0)) (V := .int .u8 1) ?_ rfl (by omega)
    have h := heap_allocs ((w4.alloc (Obj.cells #[] 5)).drewN k5) [Obj.cells #[Value.int IntKind.u8 1] 5, Obj.cells #[Value.int IntKind.u8 2] 5] 0 _ rfl
    have hs : ((w4.alloc (Obj.cells #[] 5)).drewN k5).heap.size = w4.heap.size + 1 := by
      show (w4.alloc _).heap.size = _
      simp
    rw [hs] at h
    exact h
  · refine sl_cell (t := 5) (fr := (0, 0)) (V := .int .u8 2) ?_ rfl (by omega)
    have h := heap_allocs ((w4.alloc (Obj.cells #[] 5)).drewN k5) [Obj.cells #[Value.int IntKind.u8 1] 5, Obj.cells #[Value.int IntKind.u8 2] 5] 1 _ rfl
    have hs : ((w4.alloc (Obj.cells #[] 5)).drewN k5).heap.size = w4.heap.size + 1 := by
      show (w4.alloc _).heap.size = _
      simp
    rw [hs] at h
    exact h
end Go.Proofs.YtnjdloocalfkmaaDoor
