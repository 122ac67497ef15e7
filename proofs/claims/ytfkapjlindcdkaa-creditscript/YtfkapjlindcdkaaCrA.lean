/-
  Package credit: what a credit holds; New, Limit, Room, Take, Raise, Read.
-/
import Derived.Test.YtfkapjlindcdkaaRwC
import Derived.Test.YtfkapjlindcdkaaLow
import Derived.Test.YtfkapjlindcdkaaCrP
import Derived.Lib.MinMax
import Derived.Test.YtfkapjlindcdkaaQTail
import Derived.Deep.QuietTactic
import Derived.BigQuiet
namespace Go.Proofs.Ytfkapjlindcdkaa
open Go.RowKit Go.Lib
set_option linter.unusedVariables false

/-- the totals that were told change nothing any more -/
def CrS.Done (s : CrS) : Prop := s.seen + s.win ≤ s.lim ∨ s.seen + s.win < s.lim + s.win / 2
theorem CrS.new_done (n : Int) : (CrS.new n).Done := .inl (by simp only [CrS.new]; omega)
theorem takeS_done {s : CrS} (h : s.Done) (n : Int) : (takeS s n).Done := by
  unfold takeS
  split
  · exact h
  · exact h
theorem raiseS_done {s : CrS} (h : s.Done) (n : Int) : (raiseS s n).Done := by
  unfold raiseS
  split
  · rename_i hb
    have hb := raiseB_iff.1 hb
    unfold CrS.Done at h ⊢
    simp only
    omega
  · exact h
theorem creadS_done (s : CrS) (h : s.Ok) (t : Int) : (creadS s t).Done := by
  have h1 := h.w1
  unfold CrS.Done
  simp only [creadS]
  split
  · exact .inl (Int.le_refl _)
  · rename_i hb
    rw [readB_iff] at hb
    omega
/-- a total that raises the limit is the greatest that was told -/
theorem read_done {s : CrS} (h : s.Ok) (d : s.Done) (t : Int) :
    readB s t = (decide (s.lim + s.win / 2 ≤ min t 549755813888 + s.win) && decide (s.lim < min t 549755813888 + s.win)) ∧ (readB s t = true → seenV s t = min t 549755813888) := by
  have h1 := h.w1
  have h2 := h.s2
  unfold CrS.Done at d
  constructor
  · rw [Bool.eq_iff_iff, readB_iff]
    simp only [Bool.and_eq_true, decide_eq_true_eq]
    unfold seenV
    omega
  · rw [readB_iff]
    unfold seenV
    omega
def CrW (w : World) (g : Nat) (s : CrS) : Prop := Rw w g 42 [.int .i64 s.win, .int .i64 s.lim, .int .i64 s.used]
section
variable {w w' : World} {g : Nat} {s : CrS}
theorem CrW.lt (h : CrW w g s) : g < w.heap.size := Rw.lt h
theorem CrW.below (h : CrW w g s) (hb : Below w.heap.size w w') : CrW w' g s := Rw.below h hb
theorem CrW.only {x : Nat} (h : CrW w g s) (ho : Only x w w') (hne : g ≠ x) : CrW w' g s := Rw.only h ho hne
theorem CrW.alloc (h : CrW w g s) (o : Obj) : CrW (w.alloc o) g s := Rw.alloc h o
theorem CrW.drewN (h : CrW w g s) (k : Nat) : CrW (w.drewN k) g s := h
end
theorem below_drewN {b : Nat} {w w' : World} (h : Below b w w') (k : Nat) : Below b w (w'.drewN k) := ⟨h.os, h.tape, h.output, h.size, h.block⟩

theorem cnew_yes (w : World) (n : Int) (h1 : 1 ≤ n) (h2 : n ≤ 1048576) :
    Calls Try.prog 8 #[.int .i64 n] w fun e w' => e = .returned (.pointer (some ⟨w.heap.size, 0, none⟩)) ∧ CrW w' w.heap.size (CrS.new n) ∧ Below w.heap.size w w' := by
  go_enter Try.func8, Try.ntmps8
  go_wp2
  go_ret
  exact ⟨rfl, heap_alloc_new w _, (Below.refl _ _).alloc (Nat.le_refl _) _⟩
theorem cnew_no (w : World) (n : Int) (h : n < 1 ∨ 1048576 < n) :
    Calls Try.prog 8 #[.int .i64 n] w fun e w' => e = .returned (.pointer none) ∧ w = w' := by
  by_cases h1 : n < 1
  · go_enter Try.func8, Try.ntmps8
    go_wp2
    go_ret
    exact ⟨rfl, rfl⟩
  · have h2 : 1048576 < n := by omega
    go_enter Try.func8, Try.ntmps8
    go_wp2
    go_ret
    exact ⟨rfl, rfl⟩
theorem limit_any {w : World} {g : Nat} {s : CrS} (h : CrW w g s) : Calls Try.prog 17 #[.pointer (some ⟨g, 0, none⟩)] w fun e w' => e = .returned (.int .i64 s.lim) ∧ w = w' := by
  have c1 := Rw.cell h 1 _ rfl
  go_enter Try.func17, Try.ntmps17
  go_wp2
  go_ret
  exact ⟨rfl, rfl⟩
theorem room_any {w : World} {g : Nat} {s : CrS} (h : CrW w g s) (ok : s.Ok) : Calls Try.prog 11 #[.pointer (some ⟨g, 0, none⟩)] w (Quiet (.int .i64 (s.lim - s.used)) w) := by
  have c1 := Rw.cell h 1 _ rfl
  have c2 := Rw.cell h 2 _ rfl
  have l2 := ok.l2
  have u1 := ok.u1
  have u2 := ok.u2
  obtain ⟨win, lim, used, seen⟩ := s
  simp only at *
  clear h ok
  go_enter Try.func11, Try.ntmps11
  go_wp2_with fail
  go_quiet (fail)
  go_wp2
  go_ret
  exact ⟨rfl, _, rfl⟩
theorem room_nil (w : World) : Calls Try.prog 11 #[.pointer none] w fun e w' => e = .returned (.int .i64 0) ∧ w = w' := by
  go_enter Try.func11, Try.ntmps11
  go_wp2
  go_ret
  exact ⟨rfl, rfl⟩
theorem take_nil (w : World) (n : Int) : Calls Try.prog 10 #[.pointer none, .int .i64 n] w fun e w' => e = .returned (.bool false) ∧ w = w' := by
  go_enter Try.func10, Try.ntmps10
  go_wp2
  go_ret
  exact ⟨rfl, rfl⟩
theorem raise_nil (w : World) (n : Int) : Calls Try.prog 12 #[.pointer none, .int .i64 n] w fun e w' => e = .returned (.bool false) ∧ w = w' := by
  go_enter Try.func12, Try.ntmps12
  go_wp2
  go_ret
  exact ⟨rfl, rfl⟩
theorem take_any {w : World} {g : Nat} {s : CrS} (h : CrW w g s) (ok : s.Ok) (n : Int) :
    Calls Try.prog 10 #[.pointer (some ⟨g, 0, none⟩), .int .i64 n] w fun e w' => e = .returned (.bool (takeB s n)) ∧ CrW w' g (takeS s n) ∧ Only g w w' := by
  by_cases h0 : n < 0
  · have hb : Hid (takeB s n = false) := by show _ = _; rw [← Bool.not_eq_true, takeB_iff]; omega
    have hs : takeS s n = s := by unfold takeS; rw [if_neg (by rw [hb.out]; simp)]
    rw [hs]
    have H := Lib.hid h
    clear h hs
    go_enter Try.func10, Try.ntmps10
    go_wp2
    go_ret
    exact ⟨by rw [hb.out]; rfl, H.out, Only.refl _ _⟩
  · have HR := Lib.hid (room_any h ok)
    have H := Lib.hid h
    have c2 : w.cell? ⟨g, 2, none⟩ = some (.int .i64 s.used) := Rw.cell h 2 _ rfl
    have f2 := Rw.frozen h 2
    obtain ⟨r, hr⟩ : ∃ r, s.lim - s.used = r := ⟨_, rfl⟩
    have l2 := ok.l2
    have u1 := ok.u1
    have u2 := ok.u2
    rw [hr] at HR
    have hrb : r ≤ 1099511627776 := by omega
    by_cases h1 : n ≤ r
    · have hb : Hid (takeB s n = true) := by show _ = _; rw [takeB_iff]; omega
      have hs : takeS s n = { s with used := s.used + n } := by unfold takeS; rw [if_pos hb.out]
      rw [hs]
      obtain ⟨win, lim, used, seen⟩ := s
      simp only at *
      have hu : used + n ≤ 1099511627776 := by omega
      clear h ok hs hr l2
      go_enter Try.func10, Try.ntmps10
      go_wp2_with fail
      (with_reducible refine HR.out.mono ?_)
      rintro e1 w1 ⟨rfl, m, rfl⟩
      go_wp2
      go_ret
      exact ⟨by rw [hb.out]; rfl, Rw.put (H.out.drewN _) 2 _, ((Only.refl g w).drewN _).setCell _ _⟩
    · have hb : Hid (takeB s n = false) := by show _ = _; rw [← Bool.not_eq_true, takeB_iff]; omega
      have hs : takeS s n = s := by unfold takeS; rw [if_neg (by rw [hb.out]; simp)]
      rw [hs]
      clear h ok hs hr l2
      go_enter Try.func10, Try.ntmps10
      go_wp2_with fail
      (with_reducible refine HR.out.mono ?_)
      rintro e1 w1 ⟨rfl, m, rfl⟩
      go_wp2
      go_ret
      exact ⟨by rw [hb.out]; rfl, H.out.drewN _, (Only.refl g w).drewN _⟩
theorem raise_any {w : World} {g : Nat} {s : CrS} (h : CrW w g s) (n : Int) :
    Calls Try.prog 12 #[.pointer (some ⟨g, 0, none⟩), .int .i64 n] w fun e w' => e = .returned (.bool (raiseB s n)) ∧ CrW w' g (raiseS s n) ∧ Only g w w' := by
  have H := Lib.hid h
  have c1 : w.cell? ⟨g, 1, none⟩ = some (.int .i64 s.lim) := Rw.cell h 1 _ rfl
  have f1 := Rw.frozen h 1
  by_cases hr : s.lim < n ∧ n ≤ 1099511627776
  · have hb : Hid (raiseB s n = true) := raiseB_iff.2 hr
    have hs : raiseS s n = { s with lim := n } := by unfold raiseS; rw [if_pos hb.out]
    rw [hs]
    obtain ⟨hr0, hr1⟩ := hr
    obtain ⟨win, lim, used, seen⟩ := s
    simp only at *
    clear h hs
    go_enter Try.func12, Try.ntmps12
    go_wp2
    go_ret
    exact ⟨by rw [hb.out]; rfl, Rw.put H.out 1 _, (Only.refl g w).setCell _ _⟩
  · have hb : Hid (raiseB s n = false) := by show _ = _; rw [← Bool.not_eq_true, raiseB_iff]; exact hr
    have hs : raiseS s n = s := by unfold raiseS; rw [if_neg (by rw [hb.out]; simp)]
    rw [hs]
    obtain ⟨lim, hl⟩ : ∃ l, s.lim = l := ⟨_, rfl⟩
    rw [hl] at c1 hr
    clear h hs hl
    by_cases h1 : n ≤ lim
    · go_enter Try.func12, Try.ntmps12
      go_wp2
      go_ret
      exact ⟨by rw [hb.out]; rfl, H.out, Only.refl _ _⟩
    · have h2 : 1099511627776 < n := by omega
      clear hr
      go_enter Try.func12, Try.ntmps12
      go_wp2
      go_ret
      exact ⟨by rw [hb.out]; rfl, H.out, Only.refl _ _⟩
theorem cread_any {w : World} {g : Nat} {s : CrS} (h : CrW w g s) (ok : s.Ok) (d : s.Done) (t : Int) (ht : (Lit.int .i64 t).wf = true) :
    Calls Try.prog 15 #[.pointer (some ⟨g, 0, none⟩), .int .i64 t] w fun e w' => e = .returned (.tuple #[.int .i64 (creadS s t).lim, .bool (readB s t)]) ∧ CrW w' g (creadS s t) ∧ Only g w w' := by
  have H := Lib.hid h
  have c0 : w.cell? ⟨g, 0, none⟩ = some (.int .i64 s.win) := Rw.cell h 0 _ rfl
  have c1 : w.cell? ⟨g, 1, none⟩ = some (.int .i64 s.lim) := Rw.cell h 1 _ rfl
  have hrd := read_done ok d t
  obtain ⟨m, hm⟩ : ∃ m, min t 549755813888 = m := ⟨_, rfl⟩
  have htb := bd_of_i64 ht
  have hm0 : -9223372036854775808 ≤ m ∧ m ≤ 549755813888 := by omega
  have HM : Hid (min t 549755813888 = m) := hm
  rw [hm] at hrd
  obtain ⟨hrb, hsv⟩ := hrd
  have hw1 := ok.w1
  have hw2 := ok.w2
  have hl1 := ok.l1
  have hl2 := ok.l2
  obtain ⟨hm0, hm1⟩ := hm0
  obtain ⟨x, hx⟩ : ∃ x, m + s.win = x := ⟨_, rfl⟩
  have hx0 : -9223372036854775807 ≤ x := by omega
  have hx1 : x ≤ 549756862464 := by omega
  have r1 : wrap64 x = x := by unfold wrap64; omega
  have r2 : wrap64 (s.lim + s.win / 2) = s.lim + s.win / 2 := by unfold wrap64; omega
  have HR := Lib.hid (fun (k : Nat) => raise_any (H.out.drewN k) x)
  rw [hx] at hrb
  by_cases h1 : s.lim + s.win / 2 ≤ x
  · by_cases h2 : s.lim < x
    · have hb : Hid (readB s t = true) := by show _ = _; rw [hrb]; simp [h1, h2]
      have hrz : Hid (raiseB s x = true) := by show _ = _; rw [raiseB_iff]; omega
      have hss : Hid (creadS s t = { s with lim := x, seen := m }) := by
        show _ = _
        unfold creadS
        rw [if_pos hb.out, hsv hb.out, hx]
      have hrs : raiseS s x = { s with lim := x } := by unfold raiseS; rw [if_pos hrz.out]
      rw [hrz.out, hrs] at HR
      obtain ⟨win, lim, used, seen⟩ := s
      simp only at *
      clear h ok d hrb hsv hrs htb
      go_enter Try.func15, Try.ntmps15
      go_wp2_with fail
      refine wp_quiet_tail 15 (by kernel_rfl) (by kernel_rfl) ?_
      simp only [List.take_succ_cons, List.take_zero, List.drop_succ_cons, List.drop_zero]
      repeat (go_big_quiet_step (fail))
      refine wpQuiet_nil ?_
      rintro _ ⟨nq, rfl⟩
      go_wp2_with fail
      (with_reducible refine (HR.out _).mono ?_)
      rintro e1 w1 ⟨rfl, l1, o1⟩
      have L1 : Hid (CrW w1 g ⟨win, x, used, seen⟩) := l1
      have c1' : w1.cell? ⟨g, 1, none⟩ = some (.int .i64 x) := Rw.cell l1 1 _ rfl
      have O1 := Lib.hid o1
      clear l1 o1
      go_wp2_with fail
      refine bodyPost_ret (results_tmp2 rfl _ _ _) rfl ?_
      exact ⟨by rw [hb.out, hss.out]; rfl, by rw [hss.out]; exact L1.out, ((Only.refl g w).drewN _).trans O1.out⟩
    · have hb : Hid (readB s t = false) := by show _ = _; rw [hrb]; simp [h2]
      have hrz : Hid (raiseB s x = false) := by show _ = _; rw [← Bool.not_eq_true, raiseB_iff]; omega
      have hss : Hid (CrW w g s → (creadS s t).lim = s.lim ∧ CrW w g (creadS s t)) := by
        intro h
        unfold creadS
        rw [if_neg (by rw [hb.out]; simp)]
        exact ⟨rfl, h⟩
      have hrs : raiseS s x = s := by unfold raiseS; rw [if_neg (by rw [hrz.out]; simp)]
      rw [hrz.out, hrs] at HR
      obtain ⟨win, lim, used, seen⟩ := s
      simp only at *
      clear h ok d hrb hsv hrs htb
      go_enter Try.func15, Try.ntmps15
      go_wp2_with fail
      refine wp_quiet_tail 15 (by kernel_rfl) (by kernel_rfl) ?_
      simp only [List.take_succ_cons, List.take_zero, List.drop_succ_cons, List.drop_zero]
      repeat (go_big_quiet_step (fail))
      refine wpQuiet_nil ?_
      rintro _ ⟨nq, rfl⟩
      go_wp2_with fail
      (with_reducible refine (HR.out _).mono ?_)
      rintro e1 w1 ⟨rfl, l1, o1⟩
      have L1 : Hid (CrW w1 g ⟨win, lim, used, seen⟩) := l1
      have c1' : w1.cell? ⟨g, 1, none⟩ = some (.int .i64 lim) := Rw.cell l1 1 _ rfl
      have O1 := Lib.hid o1
      clear l1 o1
      go_wp2_with fail
      refine bodyPost_ret (results_tmp2 rfl _ _ _) rfl ?_
      exact ⟨by rw [hb.out, (hss.out H.out).1]; rfl, by
        have := (hss.out H.out).2
        unfold creadS at this ⊢
        rw [if_neg (by rw [hb.out]; simp)]
        exact L1.out, ((Only.refl g w).drewN _).trans O1.out⟩
  · have hb : Hid (readB s t = false) := by show _ = _; rw [hrb]; simp [h1]
    have hss : Hid ((creadS s t).lim = s.lim ∧ CrW w g (creadS s t)) := by
      show _ ∧ _
      unfold creadS
      rw [if_neg (by rw [hb.out]; simp)]
      exact ⟨rfl, H.out⟩
    obtain ⟨win, lim, used, seen⟩ := s
    simp only at *
    have h3 : decide (IntKind.i64.wrap (lim + IntKind.i64.wrap (win.tdiv 2)) ≤ x) = false := by
      rw [decide_eq_false_iff_not, Int.tdiv_eq_ediv_of_nonneg (by omega)]
      simp only [IntKind.wrap, IntKind.bits, IntKind.signed]
      simp
      omega
    clear h ok d hrb hsv htb HR
    go_enter Try.func15, Try.ntmps15
    go_wp2_with fail
    go_quiet (fail)
    go_wp2_with fail
    refine bodyPost_ret (results_tmp2 rfl _ _ _) rfl ?_
    exact ⟨by rw [hb.out, hss.out.1]; rfl, hss.out.2.drewN _, (Only.refl g w).drewN _⟩
end Go.Proofs.Ytfkapjlindcdkaa
