/-
  What every program answers that is one: the contract of awake.
-/
import Derived.Test.YtlaehoggfnlljaaLaC
namespace Go.Proofs.Ytlaehoggfnlljaa
open Go.RowKit Go.Lib Go.Maps
set_option linter.unusedVariables false

theorem aw_slots : slotsV 0 [] 0 8 = [0, 4, 8] ∧ slotsV 1 [] 0 8 = [2, 6] := ⟨by decide, by decide⟩
theorem below_drewN {B : Nat} {w w' : World} (h : Below B w w') (k : Nat) : Below B w (w'.drewN k) := ⟨h.os, h.tape, h.output, h.size, h.block⟩
theorem SlI.drewN {w : World} {B n : Nat} {A : Option Addr} {l : List Int} (h : SlI w B A n l) (k : Nat) : SlI (w.drewN k) B A n l := h
theorem OwnI.drewN {w : World} {B n : Nat} {v : Value} {l : List Int} (h : OwnI w B v n l) (k : Nat) : OwnI (w.drewN k) B v n l := h
set_option maxHeartbeats 1000000 in
theorem awake_any (w : World) : Calls Try.prog 8 #[] w fun e w' => e = .returned (.bool true) ∧ Below w.heap.size w w' := by
  go_enter Try.func8, Try.ntmps8
  go_wp2_with fail
  (with_reducible refine (new_any w 0).mono ?_)
  rintro e1 w1 ⟨rfl, l1, b1⟩
  have L1 := Lib.hid l1
  have B1 := Lib.hid b1
  have P1 : Hid (Calls Try.prog 16 #[.pointer (some ⟨w.heap.size + 1, 0, none⟩), .int .i64 1] w1 fun e w' => e = .returned (.bool false) ∧ Below w1.heap.size w1 w') := slot_any l1 1 (by decide)
  clear l1 b1
  go_wp2_with fail
  (with_reducible refine P1.out.mono ?_)
  rintro e2 w2 ⟨rfl, b2⟩
  have L2 := Lib.hid (L1.out.below b2)
  have B2 := Lib.hid (B1.out.trans (b2.mono B1.out.size))
  have P2 : Hid (Calls Try.prog 16 #[.pointer (some ⟨w.heap.size + 1, 0, none⟩), .int .i64 4] w2 fun e w' => e = .returned (.bool true) ∧ Below w2.heap.size w2 w') := slot_any L2.out 4 (by decide)
  clear b2 L1 B1 P1
  go_wp2_with fail
  (with_reducible refine P2.out.mono ?_)
  rintro e3 w3 ⟨rfl, b3⟩
  have L3 := Lib.hid (L2.out.below b3)
  have B3 := Lib.hid (B2.out.trans (b3.mono B2.out.size))
  have P3 := Lib.hid (ask_any L3.out 1 (by decide) (by decide))
  clear b3 L2 B2 P2
  go_wp2_with fail
  (with_reducible refine P3.out.mono ?_)
  rintro e4 w4 ⟨rfl, l4, g4⟩
  have L4 : Hid (La w4 (w.heap.size + 1) w.heap.size 0 [1]) := l4
  have B4 : Hid (Below w.heap.size w w4) := B3.out.grown g4 B3.out.size (fun j hj => by cases hj; exact Nat.le_refl _)
  have P4 : Hid (Calls Try.prog 16 #[.pointer (some ⟨w.heap.size + 1, 0, none⟩), .int .i64 1] w4 fun e w' => e = .returned (.bool true) ∧ Below w4.heap.size w4 w') := slot_any L4.out 1 (by decide)
  clear l4 g4 L3 B3 P3
  go_wp2_with fail
  (with_reducible refine P4.out.mono ?_)
  rintro e5 w5 ⟨rfl, b5⟩
  have L5 := Lib.hid (L4.out.below b5)
  have B5 := Lib.hid (B4.out.trans (b5.mono B4.out.size))
  have P5 : Hid (Calls Try.prog 14 #[.pointer (some ⟨w.heap.size + 1, 0, none⟩), .int .i64 24] w5 fun e w' => e = .returned (.bool true) ∧ Below w5.heap.size w5 w') := busy_any L5.out 24 (by decide)
  clear b5 L4 B4 P4
  go_wp2_with fail
  (with_reducible refine P5.out.mono ?_)
  rintro e6 w6 ⟨rfl, b6⟩
  have L6 := Lib.hid (L5.out.below b6)
  have B6 := Lib.hid (B5.out.trans (b6.mono B5.out.size))
  have P6 : Hid (Calls Try.prog 14 #[.pointer (some ⟨w.heap.size + 1, 0, none⟩), .int .i64 25] w6 fun e w' => e = .returned (.bool false) ∧ Below w6.heap.size w6 w') := busy_any L6.out 25 (by decide)
  clear b6 L5 B5 P5
  go_wp2_with fail
  (with_reducible refine P6.out.mono ?_)
  rintro e7 w7 ⟨rfl, b7⟩
  have B7 := Lib.hid (B6.out.trans (b7.mono B6.out.size))
  have P7 := Lib.hid (slots_any (c := 0) (SlI.nil w7 0 none) (Nat.zero_le _) (by simp) (by omega) 0 0 8 (by decide) (by decide))
  rw [aw_slots.1] at P7
  clear b7 L6 B6 P6
  go_wp2_with fail
  (with_reducible refine P7.out.mono ?_)
  rintro e8 w8 ⟨⟨A8, c8, rfl, o8⟩, b8⟩
  have O8 : Hid (OwnI w8 w7.heap.size (.slice A8 3 c8) 3 [0, 4, 8]) := o8
  have B8 := Lib.hid (B7.out.trans (b8.mono B7.out.size))
  have P8 : Hid (Calls Try.prog 12 #[.slice A8 3 c8, .slice (some ⟨w8.heap.size, 0, none⟩) 3 3] (w8.alloc (.cells #[.int .i64 0, .int .i64 4, .int .i64 8] 3)) (Quiet (.bool true) (w8.alloc (.cells #[.int .i64 0, .int .i64 4, .int .i64 8] 3)))) :=
    sameInts_any (O8.out.alloc _).sl (slI_lit w8 [0, 4, 8]) (by omega) (by decide)
  clear b8 o8 B7 P7
  simp only [List.length_cons, List.length_nil, Nat.zero_add, Nat.reduceAdd]
  go_wp2_with fail
  (with_reducible refine P8.out.mono ?_)
  rintro e9 w9 ⟨rfl, m9, rfl⟩
  obtain ⟨w9, hw9⟩ : ∃ w9, (w8.alloc (.cells #[.int .i64 0, .int .i64 4, .int .i64 8] 3)).drewN m9 = w9 := ⟨_, rfl⟩
  have B9 : Hid (Below w.heap.size w w9) := by show Below _ _ _; rw [← hw9]; exact below_drewN (B8.out.alloc B8.out.size _) _
  rw [hw9]
  clear hw9 P8 O8 B8
  have P9 := Lib.hid (slots_any (c := 0) (SlI.nil w9 0 none) (Nat.zero_le _) (by simp) (by omega) 1 0 8 (by decide) (by decide))
  rw [aw_slots.2] at P9
  go_wp2_with fail
  (with_reducible refine P9.out.mono ?_)
  rintro ea wa ⟨⟨Aa, ca, rfl, oa⟩, ba⟩
  have OA : Hid (OwnI wa w9.heap.size (.slice Aa 2 ca) 2 [2, 6]) := oa
  have BA := Lib.hid (B9.out.trans (ba.mono B9.out.size))
  have PA : Hid (Calls Try.prog 12 #[.slice Aa 2 ca, .slice (some ⟨wa.heap.size, 0, none⟩) 2 2] (wa.alloc (.cells #[.int .i64 2, .int .i64 6] 3)) (Quiet (.bool true) (wa.alloc (.cells #[.int .i64 2, .int .i64 6] 3)))) :=
    sameInts_any (OA.out.alloc _).sl (slI_lit wa [2, 6]) (by omega) (by decide)
  clear ba oa B9 P9
  simp only [List.length_cons, List.length_nil, Nat.zero_add, Nat.reduceAdd]
  go_wp2_with fail
  (with_reducible refine PA.out.mono ?_)
  rintro eb wb ⟨rfl, mb, rfl⟩
  go_wp2_with fail
  go_ret
  exact ⟨rfl, below_drewN (BA.out.alloc BA.out.size _) _⟩
end Go.Proofs.Ytlaehoggfnlljaa
