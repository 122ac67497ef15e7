/-
  The document's Out: New, There, Lost, Counts.
-/
import Derived.Test.YtkodjajhlcbmkaaDoorOuR
import Derived.Test.YtkodjajhlcbmkaaDoorIv
import Derived.Test.YtkodjajhlcbmkaaDoorAppW
import Derived.OrdersHeld
namespace Go.Proofs.YtkodjajhlcbmkaaDoor
open Go.RowKit Go.Lib
set_option linter.unusedVariables false

theorem run_make_ints (k : Nat) (hk : k ≤ 1000000) (u : World) : (Instr.makeSlice 47 (.int .i64 (k : Int)) (.int .i64 (k : Int))).run Tryd.prog u =
      .ok (.slice (some ⟨u.heap.size, 0, none⟩) k k) (u.alloc (.cells (madeCells #[.int .i64 0] k) 3)) := by
  obtain ⟨i, hi, hz0, hz1, hz2⟩ := info_parts int_info
  have h := run_make (P := Tryd.prog) u 47 3 i (.int .i64 0) Tryd.underlying47 hi hz0 .i64 .i64 (k : Int) (k : Int) (by omega) (Int.le_refl _) (by rw [hz2]; omega) (by omega)
  simpa [hz1, Value.cells] using h
theorem made_svs (n : Nat) : madeCells #[.int .i64 0] (n + 1) = (svs n (fun _ => 0)).toArray := by
  apply Array.ext'
  rw [toList_madeCells_one]
  unfold svs
  exact List.ext_getElem (by simp) fun i h1 h2 => by simp
theorem wp_make_ints {o : Oper} {a : Act} {w : World} {K : Act → World → Prop} {Q : Exit → Act → World → Prop} (x y : Operand) (ho : o.op = .makeSlice 47 x y) (n m : Nat) (hm : n + 1 = m) (hn : n ≤ 1000) (hx : a.eval x = .int .i64 (m : Int)) (hy : a.eval y = .int .i64 (m : Int))
    (h : ∀ g w', Hid (g = w.heap.size) → Hid (Rw w' g 3 (svs n fun _ => 0)) → Hid (Below w.heap.size w w') → K (a.put o.dst (.slice (some ⟨g, 0, none⟩) m m)) w') : o.wp Tryd.prog a w K Q := by
  have hmk := run_make_ints m (by omega) w
  rw [← hm, made_svs, hm] at hmk
  have h1 := h w.heap.size _ rfl (heap_alloc_new w _) ((Below.refl _ _).alloc (Nat.le_refl _) _)
  unfold Oper.wp execOp
  simp only [ho, hx, hy, Sem.run_bind, Sem.run_pure, Result.andThen_ok, hmk]
  exact h1
section
variable {w w' : World} {C gr gs n c : Nat} {A : Option Addr} {D : List UInt8} {s s' : Nat → Nat}
theorem rthere_any (h : RefW w C gr gs A n c D s) (hn : n ≤ 1000000) (off m : Int) (e : Bool) (h1 : (Lit.int .i64 off).wf = true) (h2 : (Lit.int .i64 m).wf = true) (h3 : ∀ i, i ≤ n → s i ≤ 3) :
    Calls Tryd.prog 17 #[.pointer (some ⟨gr, 0, none⟩), .int .i64 off, .int .i64 m, .bool e] w
      fun e' w' => e' = .returned (.tuple #[]) ∧ RefW w' C gr gs A n c D (thereV n s off m e) ∧ Only gs w w' := by
  have T := Lib.hid (rturn_any h hn off m e false h1 h2 h3)
  clear h h1 h2 h3 hn
  go_enter Tryd.func17, Tryd.ntmps17
  go_wp2_with fail
  (with_reducible refine T.out.mono ?_)
  rintro e1 w1 ⟨rfl, r1, o1⟩
  go_wp2_with fail
  go_end0
  exact ⟨rfl, r1, o1⟩
theorem rlost_any (h : RefW w C gr gs A n c D s) (hn : n ≤ 1000000) (off m : Int) (e : Bool) (h1 : (Lit.int .i64 off).wf = true) (h2 : (Lit.int .i64 m).wf = true) (h3 : ∀ i, i ≤ n → s i ≤ 3) :
    Calls Tryd.prog 19 #[.pointer (some ⟨gr, 0, none⟩), .int .i64 off, .int .i64 m, .bool e] w
      fun e' w' => e' = .returned (.tuple #[]) ∧ RefW w' C gr gs A n c D (lostV n s off m e) ∧ Only gs w w' := by
  have T := Lib.hid (rturn_any h hn off m e true h1 h2 h3)
  clear h h1 h2 h3 hn
  go_enter Tryd.func19, Tryd.ntmps19
  go_wp2_with fail
  (with_reducible refine T.out.mono ?_)
  rintro e1 w1 ⟨rfl, r1, o1⟩
  go_wp2_with fail
  go_end0
  exact ⟨rfl, r1, o1⟩
set_option maxHeartbeats 2000000 in
theorem rcounts_any (h : RefW w C gr gs A n c D s) (hn : n ≤ 1000000) (h3 : ∀ i, i ≤ n → s i ≤ 3) (a l : Int) (d : Bool) (ha : (sentV n s : Int) = a) (hl : (leftV n s : Int) = l) (hd : doneV n s = d) :
    Calls Tryd.prog 20 #[.pointer (some ⟨gr, 0, none⟩)] w (Quiet (.tuple #[.int .i64 a, .int .i64 l, .bool d]) w) := by
  obtain ⟨c0, c1⟩ := h.cells
  have HH := Lib.hid h
  have H3 := Lib.hid h3
  have HA := Lib.hid ha
  have HL := Lib.hid hl
  have HD := Lib.hid hd
  have bn : (n : Int) ≤ 1000000 := by omega
  clear h h3 ha hl hd
  go_enter Tryd.func20, Tryd.ntmps20
  go_wp2_with fail
  go_loopw [5, 6, 7] (fun p q i wr => ∃ j x y : Nat, i = .int .i64 (j : Int) ∧ p = .int .i64 (x : Int) ∧ q = .int .i64 (y : Int) ∧ w = wr ∧ j ≤ n ∧ x ≤ j ∧ y ≤ j ∧ Hid (cntV (fun i => decide (s i ≠ 0)) j = x) ∧ Hid (cntV (fun i => decide (s i ≠ 3)) j = y)) (fun _ _ i _ => n - (intOf i).toNat)
  case atStart => exact ⟨0, 0, 0, rfl, rfl, rfl, rfl, Nat.zero_le _, Nat.le_refl _, Nat.le_refl _, rfl, rfl⟩
  case round =>
    obtain ⟨j, x, y, rfl, rfl, rfl, rfl, hj, hx, hy, HX, HY⟩ := hrel
    by_cases hjn : j < n
    · have hjl : ((j : Int) < (n : Int)) := by omega
      have hjl1 : ((j : Int) < (n : Int) + 1) := by omega
      have hc := HH.out.at_ (i := j) (by omega)
      obtain ⟨v, hv⟩ : ∃ v, s j = v := ⟨_, rfl⟩
      rw [hv] at hc
      have bv : (v : Int) ≤ 3 := by have := H3.out j (by omega); omega
      have hx1 : Hid (cntV (fun i => decide (s i ≠ 0)) (j + 1) = x + (if decide (v ≠ 0) = true then 1 else 0)) := by
        show _ = _
        rw [cntV, HX.out, hv]
      have hy1 : Hid (cntV (fun i => decide (s i ≠ 3)) (j + 1) = y + (if decide (v ≠ 3) = true then 1 else 0)) := by
        show _ = _
        rw [cntV, HY.out, hv]
      clear hv
      by_cases v0 : v = 0
      · subst v0
        go_wp2_with fail
        go_roundw
        case rel => exact ⟨j + 1, x, y + 1, by go_num, by go_num, by go_num, by first | rfl | trivial, by omega, by omega, by omega, hx1.out.trans (by simp), hy1.out.trans (by simp)⟩
        case measure => simp [intOf]; omega
      · by_cases v3 : v = 3
        · subst v3
          go_wp2_with fail
          go_roundw
          case rel => exact ⟨j + 1, x + 1, y, by go_num, by go_num, by go_num, by first | rfl | trivial, by omega, by omega, by omega, hx1.out.trans (by simp), hy1.out.trans (by simp)⟩
          case measure => simp [intOf]; omega
        · have y1 : ((v : Int) != 0) = true := by simp; omega
          have y2 : ((v : Int) != 3) = true := by simp; omega
          go_wp2_with fail
          go_roundw
          case rel => exact ⟨j + 1, x + 1, y + 1, by go_num, by go_num, by go_num, by first | rfl | trivial, by omega, by omega, by omega, hx1.out.trans (by simp [v0]), hy1.out.trans (by simp [v3])⟩
          case measure => simp [intOf]; omega
    · have hjl : ¬ ((j : Int) < (n : Int)) := by omega
      obtain rfl : j = n := by omega
      have hc := HH.out.at_ (i := j) (Nat.le_refl _)
      have hjl1 : ((j : Int) < (j : Int) + 1) := by omega
      obtain ⟨v, hv⟩ : ∃ v, s j = v := ⟨_, rfl⟩
      rw [hv] at hc
      have hdd : (decide (y = 0) && decide (v = 3)) = d := by
        rw [← HD.out]
        unfold doneV leftV
        rw [HY.out, hv]
      have t1 : ((y : Int) == 0) = decide (y = 0) := by
        rw [Bool.eq_iff_iff]; simp
      have t2 : ((v : Int) == 3) = decide (v = 3) := by
        rw [Bool.eq_iff_iff]; simp; omega
      have ha2 : (x : Int) = a := by rw [← HA.out]; unfold sentV; rw [HX.out]
      have hl2 : (y : Int) = l := by rw [← HL.out]; unfold leftV; rw [HY.out]
      have HA2 := Lib.hid ha2
      have HL2 := Lib.hid hl2
      clear ha2 hl2 hv
      cases h1 : decide (y = 0)
      · rw [h1] at t1 hdd
        obtain rfl : false = d := by simpa using hdd
        clear hdd t2 h1
        go_wp2_with fail
        go_quiet (fail)
        go_wp2_with fail
        go_ret3
        exact ⟨by rw [← HA2.out, ← HL2.out]; rfl, _, rfl⟩
      · rw [h1] at t1 hdd
        rw [Bool.true_and] at hdd
        rw [hdd] at t2
        clear hdd h1
        go_wp2_with fail
        go_quiet (fail)
        go_wp2_with fail
        go_ret3
        exact ⟨by rw [← HA2.out, ← HL2.out]; rfl, _, rfl⟩
end
set_option maxHeartbeats 2000000 in
theorem rnew_any {w : World} {A0 : Option Addr} {n c0 B0 : Nat} {D : List UInt8} (h : Sl w B0 A0 n D) (hB : B0 ≤ w.heap.size) (hn : n ≤ 60) :
    Calls Tryd.prog 11 #[.slice A0 n c0] w fun e w' => ∃ gr gs A c, e = .returned (.pointer (some ⟨gr, 0, none⟩)) ∧ RefW w' w.heap.size gr gs A n c D (fun _ => 0) ∧ Below w.heap.size w w' ∧ gr + 1 = w'.heap.size := by
  have H := Lib.hid h
  obtain ⟨m, hm⟩ : ∃ m, n + 1 = m := ⟨_, rfl⟩
  have hm2 : (n : Int) + 1 = (m : Int) := by omega
  have hm3 : IntKind.i64.wrap (m : Int) = (m : Int) := by
    rw [IntKind.wrap_i64]
    omega
  have hmk := run_make_ints m (by omega)
  rw [← hm, made_svs, hm] at hmk
  have HB := Lib.hid hB
  clear h hB
  go_enter Tryd.func11, Tryd.ntmps11
  go_wp2_with fail
  have hS : Below w.heap.size w w.drew := (Below.refl _ _).drew
  refine wp_held (S := fun u => Below w.heap.size w u) (by kernel_rfl) ?_
  refine wpAnyH_take (i := 0) (v := ?_) rfl (by kernel_rfl) (by kernel_rfl) (by kernel_rfl) (fun _ _ _ h => h) (Or.inl ⟨by rfl, ?_⟩) hS ?_
  rotate_left 1
  · intro u hu
    go_simp
    first | done | with_reducible rfl
  go_simp
  refine wpAnyH_take (i := 2) (v := ?_) rfl (by kernel_rfl) (by kernel_rfl) (by kernel_rfl) (fun _ _ _ h => h) (Or.inl ⟨by rfl, ?_⟩) hS ?_
  rotate_left 1
  · intro u hu
    go_simp
    first | done | with_reducible rfl
  go_simp
  refine wpAnyH_take (i := 3) (v := ?_) rfl (by kernel_rfl) (by kernel_rfl) (by kernel_rfl) (fun _ _ _ h => h) (Or.inl ⟨by rfl, ?_⟩) hS ?_
  rotate_left 1
  · intro u hu
    go_simp
    first | done | with_reducible rfl
  go_simp
  refine wpAnyH_take (i := 4) (v := ?_) rfl (by kernel_rfl) (by kernel_rfl) (by kernel_rfl) (fun _ _ _ h => h) (Or.inl ⟨by rfl, ?_⟩) hS ?_
  rotate_left 1
  · intro u hu
    go_simp
    first | done | with_reducible rfl
  go_simp
  refine wpAnyH_twoG 1 5 (by kernel_rfl) rfl (by rfl) rfl (by rfl) ?_ ?_
  · refine wp_append_copy (.const (.slice none 0 0)) (.tmp 3) rfl (by with_unfolding_all rfl) B0 A0 n c0 D (by with_unfolding_all rfl) (H.out.below (hS.mono HB.out)) (by omega) ?_
    intro A1 c1 w1 O1 C1 b1
    have S1 : Below w.heap.size w w1 := hS.trans b1.out
    refine ⟨S1, ?_⟩
    go_simp
    refine wpAnyH_oneG 5 (by kernel_rfl) rfl (by rfl) ?_
    refine wp_make_ints (.tmp 7) (.tmp 7) rfl n m hm (by omega) (by with_unfolding_all rfl) (by with_unfolding_all rfl) ?_
    intro g2 w2 e2 R2 b2
    have S2 : Below w.heap.size w w2 := S1.trans (b2.out.mono S1.size)
    refine ⟨S2, ?_⟩
    go_simp
    refine wpAnyH_take (i := 6) (v := ?_) rfl (by kernel_rfl) (by kernel_rfl) (by kernel_rfl) (fun _ _ _ h => h) (Or.inl ⟨by rfl, ?_⟩) S2 ?_
    rotate_left 1
    · intro u hu
      go_simp
      first | done | with_reducible rfl
    go_simp
    refine wpAnyH_oneG 7 (by kernel_rfl) rfl (by rfl) ?_
    go_simp
    have ba := (Below.refl w2.heap.size w2).alloc (Nat.le_refl _) (.cells #[.slice A1 n c1, .slice (some ⟨g2, 0, none⟩) m m] 55)
    have S4 : Below w.heap.size w (w2.alloc (.cells #[.slice A1 n c1, .slice (some ⟨g2, 0, none⟩) m m] 55)) := S2.trans (ba.mono S2.size)
    have FIN : RefW (w2.alloc (.cells #[.slice A1 n c1, .slice (some ⟨g2, 0, none⟩) m m] 55)) w.heap.size w2.heap.size g2 A1 n c1 D (fun _ => 0) := by
      subst hm
      exact ⟨heap_alloc_new w2 _, ((O1.out.sl.below b2.out).more b2.out.size).below ba, fun a ha => by have := O1.out.blk a ha; have h1 := e2.out; have h2 : w.drew.heap.size = w.heap.size := rfl; exact ⟨by omega, by omega⟩, R2.out.below ba, by have h1 := e2.out; have := S1.size; omega, R2.out.lt, C1.out⟩
    have FN := Lib.hid FIN
    clear FIN ba
    refine ⟨S4, ?_⟩
    refine wpAnyH_take (i := 8) (v := ?_) rfl (by kernel_rfl) (by kernel_rfl) (by kernel_rfl) (fun _ _ _ h => h) (Or.inl ⟨by rfl, ?_⟩) S4 ?_
    rotate_left 1
    · intro u hu
      go_simp
      first | done | with_reducible rfl
    go_simp
    refine wpAnyH_done (by kernel_rfl) ?_ _
    go_wp2_with fail
    go_ret
    exact ⟨_, _, _, _, rfl, FN.out, S4, by simp⟩
  · refine wp_make_ints (.tmp 7) (.tmp 7) rfl n m hm (by omega) (by with_unfolding_all rfl) (by with_unfolding_all rfl) ?_
    intro g2 w2 e2 R2 b2
    have S2 : Below w.heap.size w w2 := hS.trans b2.out
    refine ⟨S2, ?_⟩
    go_simp
    refine wpAnyH_oneG 1 (by kernel_rfl) rfl (by rfl) ?_
    refine wp_append_copy (.const (.slice none 0 0)) (.tmp 3) rfl (by with_unfolding_all rfl) B0 A0 n c0 D (by with_unfolding_all rfl) (H.out.below (S2.mono HB.out)) (by omega) ?_
    intro A1 c1 w3 O1 C1 b1
    have S3 : Below w.heap.size w w3 := S2.trans (b1.out.mono S2.size)
    refine ⟨S3, ?_⟩
    go_simp
    refine wpAnyH_take (i := 6) (v := ?_) rfl (by kernel_rfl) (by kernel_rfl) (by kernel_rfl) (fun _ _ _ h => h) (Or.inl ⟨by rfl, ?_⟩) S3 ?_
    rotate_left 1
    · intro u hu
      go_simp
      first | done | with_reducible rfl
    go_simp
    refine wpAnyH_oneG 7 (by kernel_rfl) rfl (by rfl) ?_
    go_simp
    have ba := (Below.refl w3.heap.size w3).alloc (Nat.le_refl _) (.cells #[.slice A1 n c1, .slice (some ⟨g2, 0, none⟩) m m] 55)
    have S4 : Below w.heap.size w (w3.alloc (.cells #[.slice A1 n c1, .slice (some ⟨g2, 0, none⟩) m m] 55)) := S3.trans (ba.mono S3.size)
    have FIN : RefW (w3.alloc (.cells #[.slice A1 n c1, .slice (some ⟨g2, 0, none⟩) m m] 55)) w.heap.size w3.heap.size g2 A1 n c1 D (fun _ => 0) := by
      subst hm
      exact ⟨heap_alloc_new w3 _, O1.out.sl.below ba, fun a ha => by have := O1.out.blk a ha; have h3 := R2.out.lt; exact ⟨by have := S2.size; omega, by omega⟩, (R2.out.below b1.out).below ba, by have h1 := e2.out; have h2 : w.drew.heap.size = w.heap.size := rfl; omega, by have := (R2.out.below b1.out).lt; omega, C1.out⟩
    have FN := Lib.hid FIN
    clear FIN ba
    refine ⟨S4, ?_⟩
    refine wpAnyH_take (i := 8) (v := ?_) rfl (by kernel_rfl) (by kernel_rfl) (by kernel_rfl) (fun _ _ _ h => h) (Or.inl ⟨by rfl, ?_⟩) S4 ?_
    rotate_left 1
    · intro u hu
      go_simp
      first | done | with_reducible rfl
    go_simp
    refine wpAnyH_done (by kernel_rfl) ?_ _
    go_wp2_with fail
    go_ret
    exact ⟨_, _, _, _, rfl, FN.out, S4, by simp⟩
end Go.Proofs.YtkodjajhlcbmkaaDoor
