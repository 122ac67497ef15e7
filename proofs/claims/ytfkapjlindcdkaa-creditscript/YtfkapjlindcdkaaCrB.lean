/-
  A credit of the law's own, beside what else lies there; what every program answers that is one.
-/
import Derived.Test.YtfkapjlindcdkaaCrA
namespace Go.Proofs.Ytfkapjlindcdkaa
open Go.RowKit Go.Lib
set_option linter.unusedVariables false

/-- since w0 a credit of the state s lies at g, a block of the call's own -/
structure Kr (w0 w : World) (g : Nat) (s : CrS) : Prop where
  c : CrW w g s
  b : Below w0.heap.size w0 w
  le : w0.heap.size ≤ g
  ok : s.Ok
  d : s.Done
section
variable {w0 w w' : World} {g x : Nat} {s : CrS}
theorem Kr.drewN (k : Kr w0 w g s) (n : Nat) : Kr w0 (w.drewN n) g s := ⟨k.c, below_drewN k.b n, k.le, k.ok, k.d⟩
/-- another block of the call's own has changed -/
theorem Kr.other (k : Kr w0 w g s) (h : Only x w w') (hx : w0.heap.size ≤ x) (hne : g ≠ x) : Kr w0 w' g s := ⟨k.c.only h hne, k.b.trans (h.below k.b.size hx), k.le, k.ok, k.d⟩
theorem Kr.below (k : Kr w0 w g s) (h : Below w.heap.size w w') : Kr w0 w' g s := ⟨k.c.below h, k.b.trans (h.mono k.b.size), k.le, k.ok, k.d⟩
theorem Kr.new (w0 w : World) (hb : Below w0.heap.size w0 w) (n : Int) (h1 : 1 ≤ n) (h2 : n ≤ 1048576) :
    Calls Try.prog 8 #[.int .i64 n] w fun e w' => e = .returned (.pointer (some ⟨w.heap.size, 0, none⟩)) ∧ Kr w0 w' w.heap.size (CrS.new n) ∧ Below w.heap.size w w' :=
  (cnew_yes w n h1 h2).mono fun e w' ⟨he, hc, hw⟩ => ⟨he, ⟨hc, hb.trans (hw.mono hb.size), hb.size, CrS.new_ok h1 h2, CrS.new_done n⟩, hw⟩
theorem Kr.take (k : Kr w0 w g s) (n : Int) :
    Calls Try.prog 10 #[.pointer (some ⟨g, 0, none⟩), .int .i64 n] w fun e w' => e = .returned (.bool (takeB s n)) ∧ Kr w0 w' g (takeS s n) ∧ Only g w w' :=
  (take_any k.c k.ok n).mono fun e w' ⟨he, hc, ho⟩ => ⟨he, ⟨hc, k.b.trans (ho.below k.b.size k.le), k.le, takeS_ok k.ok n, takeS_done k.d n⟩, ho⟩
theorem Kr.raise (k : Kr w0 w g s) (n : Int) :
    Calls Try.prog 12 #[.pointer (some ⟨g, 0, none⟩), .int .i64 n] w fun e w' => e = .returned (.bool (raiseB s n)) ∧ Kr w0 w' g (raiseS s n) ∧ Only g w w' :=
  (raise_any k.c n).mono fun e w' ⟨he, hc, ho⟩ => ⟨he, ⟨hc, k.b.trans (ho.below k.b.size k.le), k.le, raiseS_ok k.ok n, raiseS_done k.d n⟩, ho⟩
theorem Kr.read (k : Kr w0 w g s) (t : Int) (ht : (Lit.int .i64 t).wf = true) :
    Calls Try.prog 15 #[.pointer (some ⟨g, 0, none⟩), .int .i64 t] w fun e w' => e = .returned (.tuple #[.int .i64 (creadS s t).lim, .bool (readB s t)]) ∧ Kr w0 w' g (creadS s t) ∧ Only g w w' :=
  (cread_any k.c k.ok k.d t ht).mono fun e w' ⟨he, hc, ho⟩ => ⟨he, ⟨hc, k.b.trans (ho.below k.b.size k.le), k.le, creadS_ok k.ok t, creadS_done s k.ok t⟩, ho⟩
theorem Kr.room (k : Kr w0 w g s) : Calls Try.prog 11 #[.pointer (some ⟨g, 0, none⟩)] w (Quiet (.int .i64 (s.lim - s.used)) w) := room_any k.c k.ok
theorem Kr.limit (k : Kr w0 w g s) : Calls Try.prog 17 #[.pointer (some ⟨g, 0, none⟩)] w fun e w' => e = .returned (.int .i64 s.lim) ∧ w = w' := limit_any k.c
end
theorem aw_1 : takeB (CrS.new 10) 10 = true ∧ takeS (CrS.new 10) 10 = ⟨10, 10, 10, 0⟩ := ⟨by decide, by kernel_rfl⟩
theorem aw_2 : takeB ⟨10, 10, 10, 0⟩ 1 = false ∧ takeS ⟨10, 10, 10, 0⟩ 1 = ⟨10, 10, 10, 0⟩ := ⟨by decide, by kernel_rfl⟩
theorem aw_3 : readB ⟨10, 10, 10, 0⟩ 5 = true ∧ creadS ⟨10, 10, 10, 0⟩ 5 = ⟨10, 15, 10, 5⟩ := ⟨by decide, by kernel_rfl⟩
theorem aw_4 : raiseB ⟨10, 15, 10, 5⟩ 15 = false ∧ raiseS ⟨10, 15, 10, 5⟩ 15 = ⟨10, 15, 10, 5⟩ := ⟨by decide, by kernel_rfl⟩
theorem aw_5 : raiseB ⟨10, 15, 10, 5⟩ 16 = true ∧ raiseS ⟨10, 15, 10, 5⟩ 16 = ⟨10, 16, 10, 5⟩ := ⟨by decide, by kernel_rfl⟩
set_option maxHeartbeats 1000000 in
theorem awake_any (w : World) : Calls Try.prog 7 #[] w fun e w' => e = .returned (.bool true) ∧ Below w.heap.size w w' := by
  go_enter Try.func7, Try.ntmps7
  go_wp2_with fail
  (with_reducible refine (Kr.new w w (Below.refl _ _) 10 (by omega) (by omega)).mono ?_)
  rintro e1 w1 ⟨rfl, k1, -⟩
  have T1 := Lib.hid (k1.take 10)
  rw [aw_1.1, aw_1.2] at T1
  clear k1
  go_wp2_with fail
  (with_reducible refine T1.out.mono ?_)
  rintro e2 w2 ⟨rfl, k2, -⟩
  have T2 := Lib.hid (k2.take 1)
  rw [aw_2.1, aw_2.2] at T2
  clear k2 T1
  go_wp2_with fail
  (with_reducible refine T2.out.mono ?_)
  rintro e3 w3 ⟨rfl, k3, -⟩
  have T3 := Lib.hid (k3.read 5 (by decide))
  rw [aw_3.1, aw_3.2] at T3
  simp only at T3
  clear k3 T2
  go_wp2_with fail
  (with_reducible refine T3.out.mono ?_)
  rintro e4 w4 ⟨rfl, k4, -⟩
  have T4 := Lib.hid k4.limit
  have T5 := Lib.hid k4.room
  have K4 := Lib.hid k4
  simp only at T4 T5
  clear k4 T3
  go_wp2_with fail
  (with_reducible refine T4.out.mono ?_)
  rintro e5 w5 ⟨rfl, rfl⟩
  go_wp2_with fail
  (with_reducible refine T5.out.mono ?_)
  rintro e6 w6 ⟨rfl, m, rfl⟩
  have T6 := Lib.hid ((K4.out.drewN m).raise 15)
  rw [aw_4.1, aw_4.2] at T6
  clear T4 T5 K4
  go_wp2_with fail
  (with_reducible refine T6.out.mono ?_)
  rintro e7 w7 ⟨rfl, k7, -⟩
  have T7 := Lib.hid (k7.raise 16)
  rw [aw_5.1, aw_5.2] at T7
  clear k7 T6
  go_wp2_with fail
  (with_reducible refine T7.out.mono ?_)
  rintro e8 w8 ⟨rfl, k8, -⟩
  have B8 := Lib.hid k8.b
  clear k8 T7
  go_wp2_with fail
  (with_reducible refine (cnew_no w8 0 (by omega)).mono ?_)
  rintro e9 w9 ⟨rfl, rfl⟩
  go_wp2_with fail
  go_ret
  exact ⟨rfl, B8.out⟩
end Go.Proofs.Ytfkapjlindcdkaa
