/-
  The document's credit.
-/
import Derived.Test.YtfkapjlindcdkaaCrB
namespace Go.Proofs.Ytfkapjlindcdkaa
open Go.RowKit Go.Lib
set_option linter.unusedVariables false

/-- the document's credit at block g -/
def RefW (w : World) (g : Nat) (s : CrS) : Prop := Rw w g 35 [.int .i64 s.win, .int .i64 s.lim, .int .i64 s.used, .int .i64 s.seen]
section
variable {w w' : World} {g : Nat} {s : CrS}
theorem RefW.lt (h : RefW w g s) : g < w.heap.size := Rw.lt h
theorem RefW.below (h : RefW w g s) (hb : Below w.heap.size w w') : RefW w' g s := Rw.below h hb
theorem RefW.only {x : Nat} (h : RefW w g s) (ho : Only x w w') (hne : g ≠ x) : RefW w' g s := Rw.only h ho hne
theorem RefW.drewN (h : RefW w g s) (k : Nat) : RefW (w.drewN k) g s := h
end
theorem rnew_yes (w : World) (n : Int) (h1 : 1 ≤ n) (h2 : n ≤ 1048576) :
    Calls Try.prog 9 #[.int .i64 n] w fun e w' => e = .returned (.pointer (some ⟨w.heap.size, 0, none⟩)) ∧ RefW w' w.heap.size (CrS.new n) ∧ Below w.heap.size w w' := by
  go_enter Try.func9, Try.ntmps9
  go_wp2
  go_ret
  exact ⟨rfl, heap_alloc_new w _, (Below.refl _ _).alloc (Nat.le_refl _) _⟩
theorem rnew_no (w : World) (n : Int) (h : n < 1 ∨ 1048576 < n) :
    Calls Try.prog 9 #[.int .i64 n] w fun e w' => e = .returned (.pointer none) ∧ w = w' := by
  by_cases h1 : n < 1
  · go_enter Try.func9, Try.ntmps9
    go_wp2
    go_ret
    exact ⟨rfl, rfl⟩
  · have h2 : 1048576 < n := by omega
    go_enter Try.func9, Try.ntmps9
    go_wp2
    go_ret
    exact ⟨rfl, rfl⟩
theorem rtake_any {w : World} {g : Nat} {s : CrS} (h : RefW w g s) (ok : s.Ok) (n : Int) :
    Calls Try.prog 13 #[.pointer (some ⟨g, 0, none⟩), .int .i64 n] w fun e w' => e = .returned (.bool (takeB s n)) ∧ RefW w' g (takeS s n) ∧ Only g w w' := by
  have H := Lib.hid h
  have c1 : w.cell? ⟨g, 1, none⟩ = some (.int .i64 s.lim) := Rw.cell h 1 _ rfl
  have c2 : w.cell? ⟨g, 2, none⟩ = some (.int .i64 s.used) := Rw.cell h 2 _ rfl
  have f2 := Rw.frozen h 2
  have l2 := ok.l2
  have u1 := ok.u1
  have u2 := ok.u2
  by_cases h0 : n < 0
  · have hb : Hid (takeB s n = false) := by show _ = _; rw [← Bool.not_eq_true, takeB_iff]; omega
    have hs : takeS s n = s := by unfold takeS; rw [if_neg (by rw [hb.out]; simp)]
    rw [hs]
    clear h hs
    go_enter Try.func13, Try.ntmps13
    go_wp2_with fail
    go_quiet (fail)
    go_wp2_with fail
    go_ret
    exact ⟨by rw [hb.out]; rfl, H.out.drewN _, (Only.refl g w).drewN _⟩
  · obtain ⟨r, hr⟩ : ∃ r, s.lim - s.used = r := ⟨_, rfl⟩
    have hr0 : 0 ≤ r := by omega
    have hrb : r ≤ 1099511627776 := by omega
    have r1 : IntKind.i64.wrap r = r := by simp only [IntKind.wrap, IntKind.bits, IntKind.signed]; simp; omega
    by_cases h1 : n ≤ r
    · have hb : Hid (takeB s n = true) := by show _ = _; rw [takeB_iff]; omega
      have hs : takeS s n = { s with used := s.used + n } := by unfold takeS; rw [if_pos hb.out]
      rw [hs]
      obtain ⟨win, lim, used, seen⟩ := s
      simp only at *
      have hu : used + n ≤ 1099511627776 := by omega
      clear h ok hs
      go_enter Try.func13, Try.ntmps13
      go_wp2_with fail
      go_quiet (fail)
      go_wp2_with fail
      go_ret
      exact ⟨by rw [hb.out]; rfl, Rw.put (H.out.drewN _) 2 _, ((Only.refl g w).drewN _).setCell _ _⟩
    · have hb : Hid (takeB s n = false) := by show _ = _; rw [← Bool.not_eq_true, takeB_iff]; omega
      have hs : takeS s n = s := by unfold takeS; rw [if_neg (by rw [hb.out]; simp)]
      rw [hs]
      clear h ok hs
      go_enter Try.func13, Try.ntmps13
      go_wp2_with fail
      go_quiet (fail)
      go_wp2_with fail
      go_ret
      exact ⟨by rw [hb.out]; rfl, H.out.drewN _, (Only.refl g w).drewN _⟩
theorem rraise_any {w : World} {g : Nat} {s : CrS} (h : RefW w g s) (n : Int) :
    Calls Try.prog 14 #[.pointer (some ⟨g, 0, none⟩), .int .i64 n] w fun e w' => e = .returned (.bool (raiseB s n)) ∧ RefW w' g (raiseS s n) ∧ Only g w w' := by
  have H := Lib.hid h
  have c1 : w.cell? ⟨g, 1, none⟩ = some (.int .i64 s.lim) := Rw.cell h 1 _ rfl
  have f1 := Rw.frozen h 1
  by_cases hr : s.lim < n ∧ n ≤ 1099511627776
  · have hb : Hid (raiseB s n = true) := raiseB_iff.2 hr
    have hs : raiseS s n = { s with lim := n } := by unfold raiseS; rw [if_pos hb.out]
    rw [hs]
    obtain ⟨hr0, hr1⟩ := hr
    obtain ⟨win, lim, used, seen⟩ := s
    simp only at *
    clear h hs
    go_enter Try.func14, Try.ntmps14
    go_wp2
    go_ret
    exact ⟨by rw [hb.out]; rfl, Rw.put H.out 1 _, (Only.refl g w).setCell _ _⟩
  · have hb : Hid (raiseB s n = false) := by show _ = _; rw [← Bool.not_eq_true, raiseB_iff]; exact hr
    have hs : raiseS s n = s := by unfold raiseS; rw [if_neg (by rw [hb.out]; simp)]
    rw [hs]
    obtain ⟨lim, hl⟩ : ∃ l, s.lim = l := ⟨_, rfl⟩
    rw [hl] at c1 hr
    clear h hs hl
    by_cases h1 : n ≤ lim
    · go_enter Try.func14, Try.ntmps14
      go_wp2
      go_ret
      exact ⟨by rw [hb.out]; rfl, H.out, Only.refl _ _⟩
    · have h2 : 1099511627776 < n := by omega
      clear hr
      go_enter Try.func14, Try.ntmps14
      go_wp2
      go_ret
      exact ⟨by rw [hb.out]; rfl, H.out, Only.refl _ _⟩
set_option maxHeartbeats 2000000 in
theorem rread_any {w : World} {g : Nat} {s : CrS} (h : RefW w g s) (ok : s.Ok) (t : Int) (ht : (Lit.int .i64 t).wf = true) :
    Calls Try.prog 16 #[.pointer (some ⟨g, 0, none⟩), .int .i64 t] w fun e w' => e = .returned (.tuple #[.int .i64 (creadS s t).lim, .bool (readB s t)]) ∧ RefW w' g (creadS s t) ∧ Only g w w' := by
  have H := Lib.hid h
  have c3 : w.cell? ⟨g, 3, none⟩ = some (.int .i64 s.seen) := Rw.cell h 3 _ rfl
  have f3 := Rw.frozen h 3
  have hsd := seen_bd ok t
  have w1 := ok.w1
  have w2 := ok.w2
  have l1 := ok.l1
  have l2 := ok.l2
  obtain ⟨m, hm⟩ : ∃ m, min t 549755813888 = m := ⟨_, rfl⟩
  have HM := Lib.hid hm
  obtain ⟨v, hv⟩ : ∃ v, max s.seen m = v := ⟨_, rfl⟩
  have hsv : Hid (seenV s t = v) := by show _ = _; unfold seenV; rw [hm, hv]
  rw [hsv.out] at hsd
  obtain ⟨hv0, hv1, hv2⟩ := hsd
  have H3 : Hid (Rw (w.setCell ⟨g, 3, none⟩ (.int .i64 v)) g 35 [.int .i64 s.win, .int .i64 s.lim, .int .i64 s.used, .int .i64 v]) := Rw.put h 3 _
  have O3 : Hid (Only g w (w.setCell ⟨g, 3, none⟩ (.int .i64 v))) := (Only.refl g w).setCell _ _
  obtain ⟨hf, hhf⟩ : ∃ hf, s.win / 2 = hf := ⟨_, rfl⟩
  have hhf0 : 0 ≤ hf := by omega
  have hhf1 : hf ≤ s.win := by omega
  have hhf' : s.win.tdiv 2 = hf := by rw [Int.tdiv_eq_ediv_of_nonneg (by omega)]; exact hhf
  obtain ⟨x, hx⟩ : ∃ x, v + s.win = x := ⟨_, rfl⟩
  obtain ⟨y, hy⟩ : ∃ y, s.lim + hf = y := ⟨_, rfl⟩
  have hx0 : 0 ≤ x := by omega
  have hx1 : x ≤ 549756862464 := by omega
  have hy0 : 0 ≤ y := by omega
  have hy1 : y ≤ 1099513724928 := by omega
  have r1 : IntKind.i64.wrap x = x := by simp only [IntKind.wrap, IntKind.bits, IntKind.signed]; simp; omega
  have r2 : IntKind.i64.wrap y = y := by simp only [IntKind.wrap, IntKind.bits, IntKind.signed]; simp; omega
  have r3 : IntKind.i64.wrap hf = hf := by simp only [IntKind.wrap, IntKind.bits, IntKind.signed]; simp; omega
  have hrb : readB s t = (decide (s.lim < x) && decide (y ≤ x)) := by unfold readB; rw [hsv.out, hx, hhf, hy]
  have hrs : creadS s t = ⟨s.win, if readB s t = true then x else s.lim, s.used, v⟩ := by unfold creadS; rw [hsv.out, hx]
  obtain ⟨bz, hbz⟩ : ∃ bz, readB s t = bz := ⟨_, rfl⟩
  obtain ⟨lz, hlz⟩ : ∃ lz, (if readB s t = true then x else s.lim) = lz := ⟨_, rfl⟩
  rw [hlz] at hrs
  rw [hbz] at hrb hlz ⊢
  rw [hrs]
  obtain ⟨win, lim, used, seen⟩ := s
  simp only at *
  clear h ok hrs hbz hhf w1 l1
  have HC : Hid ((x ≤ lim ∧ bz = false ∧ lz = lim) ∨ (lim < x ∧ x < y ∧ bz = false ∧ lz = lim) ∨ (lim < x ∧ y ≤ x ∧ bz = true ∧ lz = x)) := by
    show _ ∨ _ ∨ _
    by_cases h1 : x ≤ lim
    · have hb : bz = false := by rw [hrb]; simp; omega
      rw [hb] at hlz
      exact .inl ⟨h1, hb, by rw [← hlz]; simp⟩
    · by_cases h2 : x < y
      · have hb : bz = false := by rw [hrb]; simp; omega
        rw [hb] at hlz
        exact .inr (.inl ⟨by omega, h2, hb, by rw [← hlz]; simp⟩)
      · have hb : bz = true := by rw [hrb]; simp; omega
        rw [hb] at hlz
        exact .inr (.inr ⟨by omega, by omega, hb, by rw [← hlz]; simp⟩)
  clear hrb hlz
  rcases HC.out with ⟨h1, rfl, rfl⟩ | ⟨h1, h2, rfl, rfl⟩ | ⟨h1, h2, rfl, rfl⟩
  all_goals clear HC
  all_goals go_enter Try.func16, Try.ntmps16
  all_goals go_wp2_with fail
  all_goals obtain ⟨w3, hw3⟩ : ∃ w3, w.setCell ⟨g, 3, none⟩ (.int .i64 v) = w3 := ⟨_, rfl⟩
  all_goals rw [hw3] at H3 O3 ⊢
  all_goals clear hw3 c3 f3
  all_goals have c0 := Rw.cell H3.out 0 _ rfl
  all_goals have c1 := Rw.cell H3.out 1 _ rfl
  all_goals have c3 := Rw.cell H3.out 3 _ rfl
  all_goals have f1 := Rw.frozen H3.out 1
  all_goals go_wp2_with fail
  all_goals go_quiet (fail)
  all_goals go_wp2_with fail
  · refine bodyPost_ret (results_tmp2 rfl _ _ _) rfl ?_
    exact ⟨rfl, H3.out, O3.out.drewN _⟩
  · refine bodyPost_ret (results_tmp2 rfl _ _ _) rfl ?_
    exact ⟨rfl, H3.out, O3.out.drewN _⟩
  · refine wp_tail 12 (by kernel_rfl) (by kernel_rfl) ?_
    simp only [List.take_succ_cons, List.take_zero, List.drop_succ_cons, List.drop_zero]
    repeat still_step
    refine wpStill_nil ?_
    go_wp2_with fail
    refine bodyPost_ret (results_tmp2 rfl _ _ _) rfl ?_
    exact ⟨rfl, Rw.put (Rw.drew (Rw.drewN H3.out _)) 1 _, ((O3.out.drewN _).drew).setCell _ _⟩
end Go.Proofs.Ytfkapjlindcdkaa
