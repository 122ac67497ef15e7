/-
  The walk of CreditMeets.
-/
import Derived.Test.YtfkapjlindcdkaaWCreditLimits
namespace Go.Proofs.Ytfkapjlindcdkaa
open Go.RowKit Go.Lib
set_option linter.unusedVariables false

theorem cread_yes {s : CrS} {t : Int} (hs : s.seen ≤ t) (h5 : t ≤ 549755813888) (h : s.lim < t + s.win) (h' : s.lim + s.win / 2 ≤ t + s.win) : readB s t = true ∧ creadS s t = ⟨s.win, t + s.win, s.used, t⟩ := by
  have e : seenV s t = t := by unfold seenV; omega
  have hb : readB s t = true := by rw [readB_iff, e]; exact ⟨h, h'⟩
  exact ⟨hb, by unfold creadS; rw [if_pos hb, e]⟩
theorem cread_no {s : CrS} {t : Int} (hs : s.seen ≤ t) (h5 : t ≤ 549755813888) (h : ¬ (s.lim < t + s.win ∧ s.lim + s.win / 2 ≤ t + s.win)) : readB s t = false ∧ creadS s t = ⟨s.win, s.lim, s.used, t⟩ := by
  have e : seenV s t = t := by unfold seenV; omega
  have hb : readB s t = false := by rw [← Bool.not_eq_true, readB_iff, e]; exact h
  exact ⟨hb, by unfold creadS; rw [if_neg (by rw [hb]; simp), e]⟩
theorem meets_long (A : Option Addr) (n c : Nat) (x : Int) (w : World) (hn : 30 < n) :
    Calls Try.prog 5 #[.int .i64 x, .slice A n c] w fun e w' => e = .returned (.bool true) ∧ Below w.heap.size w w' := by
  go_enter Try.func5, Try.ntmps5
  go_wp2_with fail
  (with_reducible refine (awake_any w).mono ?_)
  rintro e1 w1 ⟨rfl, b1⟩
  go_wp2_with fail
  go_ret
  exact ⟨rfl, b1⟩
set_option maxRecDepth 8000 in
set_option maxHeartbeats 8000000 in
theorem meets_any {w : World} {A : Option Addr} {n c : Nat} {zs : List Int} (hZ : SlI w w.heap.size A n zs) (hn : n ≤ 30) (x0 : Int) :
    Calls Try.prog 5 #[.int .i64 x0, .slice A n c] w fun e w' => e = .returned (.bool true) ∧ Below w.heap.size w w' := by
  obtain ⟨x, hx0, hx1, HX⟩ := low_int x0 499 (by omega) (by omega)
  have HX := Lib.hid HX
  have HL := Lib.hid hZ.1
  obtain ⟨win, hwin⟩ : ∃ win, 2 + x = win := ⟨_, rfl⟩
  have rw1 : wrap64 win = win := by unfold wrap64; omega
  have hw1 : 2 ≤ win := by omega
  have hw2 : win ≤ 500 := by omega
  obtain ⟨d, hd⟩ : ∃ d, 2 * win = d := ⟨_, rfl⟩
  have rd1 : wrap64 d = d := by unfold wrap64; omega
  have hd0 : 0 < d := by omega
  have hd1 : d ≤ 1000 := by omega
  obtain ⟨hf, hhf⟩ : ∃ hf, win / 2 = hf := ⟨_, rfl⟩
  have hhf' : win.tdiv 2 = hf := by rw [Int.tdiv_eq_ediv_of_nonneg (by omega)]; exact hhf
  have hhf0 : 0 < hf := by omega
  have hhf1 : hf ≤ win := by omega
  go_enter Try.func5, Try.ntmps5
  go_wp2_with fail
  (with_reducible refine (HX.out w).mono ?_)
  rintro e1 w1 ⟨rfl, rfl⟩
  go_wp2_with fail
  (with_reducible refine (Kr.new w w (Below.refl _ _) win (by omega) (by omega)).mono ?_)
  rintro e1 w1 ⟨rfl, k1, b1⟩
  have K1 := Lib.hid k1
  have B1 := Lib.hid k1.b
  clear k1 b1
  go_wp2_with fail
  (with_reducible refine (Kr.new w w1 B1.out win (by omega) (by omega)).mono ?_)
  rintro e2 w2 ⟨rfl, k2, b2⟩
  have S2 : Hid (Kr w w2 w.heap.size ⟨win, win, 0, 0⟩) := K1.out.below b2
  have R2 : Hid (Kr w w2 w1.heap.size ⟨win, win, 0, 0⟩) := k2
  have HG : Hid (w.heap.size < w1.heap.size) := K1.out.c.lt
  obtain ⟨g, hgg⟩ : ∃ g, w1.heap.size = g := ⟨_, rfl⟩
  rw [hgg] at R2 HG ⊢
  clear k2 b2 K1 B1 hgg
  go_wp2_with fail
  clear hwin HX
  go_loopw [7, 8, 9] (fun uv rv iv wr => ∃ (k : Nat) (lim used rd : Int), iv = .int .i64 k ∧ rv = .int .i64 rd ∧ uv = .int .i64 used ∧ k ≤ n ∧ 0 ≤ rd ∧ rd ≤ used ∧ used ≤ lim ∧ lim ≤ rd + win ∧ rd + win - hf ≤ lim ∧ used ≤ 1000 * k ∧ Hid (Kr w wr w.heap.size ⟨win, lim, used, 0⟩) ∧ Hid (Kr w wr g ⟨win, lim, 0, rd⟩)) (fun _ _ iv _ => n - (intOf iv).toNat)
  case atStart => exact ⟨0, win, 0, 0, rfl, rfl, rfl, by omega, by omega, by omega, by omega, by omega, by omega, by omega, S2.out, R2.out⟩
  case round =>
    obtain ⟨k, lim, used, rd, rfl, rfl, rfl, hk, hr0, hr1, hu1, hl1, hl0, hu2, KS, KR⟩ := hrel
    by_cases hlt : k < n
    · obtain ⟨gz, off, rfl, hg, cx⟩ := hZ.at_ hlt
      have cx' : wr.cell? ⟨gz, off + k, none⟩ = some (.int .i64 (zs.getD k 0)) := (KR.out.b.cell (p := ⟨gz, off + k, none⟩) hg).trans cx
      obtain ⟨z, hz⟩ : ∃ z, zs.getD k 0 = z := ⟨_, rfl⟩
      rw [hz] at cx' cx
      obtain ⟨y, hy0, hy1, HY⟩ := low_int z d (by omega) (by omega)
      have HY := Lib.hid HY
      have CX := Lib.hid cx
      clear hz cx S2 R2
      by_cases ht : y ≤ lim - used
      · have HF := Lib.hid (lim_take (s := ⟨win, lim, used, 0⟩) hy0 ht)
        have HP := Lib.hid (KS.out.take y)
        rw [HF.out.1, HF.out.2] at HP
        simp only at HP
        obtain ⟨u, hu⟩ : ∃ u, used + y = u := ⟨_, rfl⟩
        rw [hu] at HP
        obtain ⟨f, hf'⟩ : ∃ f, win - (used - rd) = f := ⟨_, rfl⟩
        have hfy : y ≤ f := by omega
        have hub : u ≤ lim := by omega
        have huc : used ≤ u := by omega
        have hud : u ≤ 1000 * k + 1000 := by omega
        obtain ⟨ob, hob⟩ : ∃ ob, (bits BinOp.and IntKind.i64 z 1 == 1) = ob := ⟨_, rfl⟩
        go_wp2_with fail
        (with_reducible refine (HY.out wr).mono ?_)
        rintro e2 w2 ⟨rfl, rfl⟩
        go_wp2_with fail
        (with_reducible refine HP.out.mono ?_)
        rintro e3 w3 ⟨rfl, k3, o3⟩
        have S3 := Lib.hid k3
        have R3 := Lib.hid (KR.out.other o3 (Nat.le_refl _) (by have := HG.out; omega))
        have cx3 : w3.cell? ⟨gz, off + k, none⟩ = some (.int .i64 z) := (S3.out.b.cell (p := ⟨gz, off + k, none⟩) hg).trans CX.out
        clear k3 o3 HP HF KS KR HY cx'
        cases ob
        · have hwf : (Lit.int .i64 rd).wf = true := by simp [Lit.wf, IntKind.min, IntKind.max, IntKind.signed, IntKind.bits]; omega
          by_cases hm : lim < rd + win ∧ lim + hf ≤ rd + win
          · obtain ⟨hm0, hm1⟩ := hm
            obtain ⟨l2, hl2⟩ : ∃ l2, rd + win = l2 := ⟨_, rfl⟩
            have hl2w : wrap64 l2 = l2 := by unfold wrap64; omega
            have FR := Lib.hid (cread_yes (s := ⟨win, lim, 0, rd⟩) (t := rd) (by simp only; omega) (by omega) (by simp only; omega) (by simp only; omega))
            have FS := Lib.hid (lim_more (s := ⟨win, lim, u, 0⟩) (r := l2) (by simp only; omega) (by omega))
            have HP := Lib.hid (R3.out.read rd hwf)
            rw [FR.out.1, FR.out.2] at HP
            try simp only at HP
            rw [hl2] at HP
            have hl3 : l2 ≤ rd + win := by omega
            have hl4 : rd + win - hf ≤ l2 := by omega
            have hl5 : u ≤ l2 := by omega
            have hsr : u - rd ≤ win := by omega
            clear hm0 hm1
            go_wp2_with fail
            (with_reducible refine HP.out.mono ?_)
            rintro e4 w4 ⟨rfl, k4, o4⟩
            have R4 := Lib.hid k4
            have S4 := Lib.hid (S3.out.other o4 (by have := HG.out; omega) (by have := HG.out; omega))
            have HQ := Lib.hid (S4.out.raise l2)
            rw [FS.out.1, FS.out.2] at HQ
            try simp only at HQ
            clear k4 o4 HP S3 R3 FR FS cx3
            go_wp2_with fail
            (with_reducible refine HQ.out.mono ?_)
            rintro e5 w5 ⟨rfl, k5, o5⟩
            have S5 := Lib.hid k5
            have R5 := Lib.hid (R4.out.other o5 (Nat.le_refl _) (by have := HG.out; omega))
            have Q1 := Lib.hid S5.out.limit
            have Q2 := Lib.hid R5.out.limit
            have Q3 := Lib.hid S5.out.room
            simp only at Q1 Q2 Q3
            clear k5 o5 S4 R4 HQ
            go_wp2_with fail
            (with_reducible refine Q1.out.mono ?_)
            rintro e6 w6 ⟨rfl, rfl⟩
            go_wp2_with fail
            (with_reducible refine Q2.out.mono ?_)
            rintro e7 w7 ⟨rfl, rfl⟩
            by_cases heq : rd = u
            · have hroom0 : win - hf ≤ l2 - u := by omega
              have hroom : win - hf ≤ l2 - u := by omega
              go_wp2_with fail
              (with_reducible refine Q3.out.mono ?_)
              rintro e8 w8 ⟨rfl, m, rfl⟩
              go_wp2_with fail
              go_roundw
              case rel => exact ⟨k + 1, l2, u, u, by go_num, rfl, rfl, by omega, by omega, by omega, by omega, by omega, by omega, by omega, S5.out.drewN m, by have h := R5.out.drewN m; rw [heq] at h; exact h⟩
              case measure => simp [intOf]; omega
            · have hne : (rd == u) = false := by simpa using heq
              go_wp2_with fail
              go_roundw
              case rel => exact ⟨k + 1, l2, u, rd, by go_num, rfl, rfl, by omega, by omega, by omega, by omega, by omega, by omega, by omega, S5.out, R5.out⟩
              case measure => simp [intOf]; omega
          · obtain ⟨l3, hl3'⟩ : ∃ l3, rd + win = l3 := ⟨_, rfl⟩
            have hl3w : wrap64 l3 = l3 := by unfold wrap64; omega
            have FR := Lib.hid (cread_no (s := ⟨win, lim, 0, rd⟩) (t := rd) (by simp only; omega) (by omega) (by simp only; omega))
            have FS := Lib.hid (lim_same (s := ⟨win, lim, u, 0⟩) (r := lim) (Int.le_refl _))
            have HP := Lib.hid (R3.out.read rd hwf)
            rw [FR.out.1, FR.out.2] at HP
            try simp only at HP
            have hl3 : lim ≤ l3 := by omega
            have hl4 : rd + win - hf ≤ lim := by omega
            have hl5 : u ≤ lim := by omega
            have hsr : u - rd ≤ win := by omega
            clear hm
            go_wp2_with fail
            (with_reducible refine HP.out.mono ?_)
            rintro e4 w4 ⟨rfl, k4, o4⟩
            have R4 := Lib.hid k4
            have S4 := Lib.hid (S3.out.other o4 (by have := HG.out; omega) (by have := HG.out; omega))
            have HQ := Lib.hid (S4.out.raise lim)
            rw [FS.out.1, FS.out.2] at HQ
            try simp only at HQ
            clear k4 o4 HP S3 R3 FR FS cx3
            go_wp2_with fail
            (with_reducible refine HQ.out.mono ?_)
            rintro e5 w5 ⟨rfl, k5, o5⟩
            have S5 := Lib.hid k5
            have R5 := Lib.hid (R4.out.other o5 (Nat.le_refl _) (by have := HG.out; omega))
            have Q1 := Lib.hid S5.out.limit
            have Q2 := Lib.hid R5.out.limit
            have Q3 := Lib.hid S5.out.room
            simp only at Q1 Q2 Q3
            clear k5 o5 S4 R4 HQ
            go_wp2_with fail
            (with_reducible refine Q1.out.mono ?_)
            rintro e6 w6 ⟨rfl, rfl⟩
            go_wp2_with fail
            (with_reducible refine Q2.out.mono ?_)
            rintro e7 w7 ⟨rfl, rfl⟩
            by_cases heq : rd = u
            · have hroom0 : win - hf ≤ lim - u := by omega
              have hroom : win - hf ≤ lim - u := by omega
              go_wp2_with fail
              (with_reducible refine Q3.out.mono ?_)
              rintro e8 w8 ⟨rfl, m, rfl⟩
              go_wp2_with fail
              go_roundw
              case rel => exact ⟨k + 1, lim, u, u, by go_num, rfl, rfl, by omega, by omega, by omega, by omega, by omega, by omega, by omega, S5.out.drewN m, by have h := R5.out.drewN m; rw [heq] at h; exact h⟩
              case measure => simp [intOf]; omega
            · have hne : (rd == u) = false := by simpa using heq
              go_wp2_with fail
              go_roundw
              case rel => exact ⟨k + 1, lim, u, rd, by go_num, rfl, rfl, by omega, by omega, by omega, by omega, by omega, by omega, by omega, S5.out, R5.out⟩
              case measure => simp [intOf]; omega
        · have hwf : (Lit.int .i64 u).wf = true := by simp [Lit.wf, IntKind.min, IntKind.max, IntKind.signed, IntKind.bits]; omega
          by_cases hm : lim < u + win ∧ lim + hf ≤ u + win
          · obtain ⟨hm0, hm1⟩ := hm
            obtain ⟨l2, hl2⟩ : ∃ l2, u + win = l2 := ⟨_, rfl⟩
            have hl2w : wrap64 l2 = l2 := by unfold wrap64; omega
            have FR := Lib.hid (cread_yes (s := ⟨win, lim, 0, rd⟩) (t := u) (by simp only; omega) (by omega) (by simp only; omega) (by simp only; omega))
            have FS := Lib.hid (lim_more (s := ⟨win, lim, u, 0⟩) (r := l2) (by simp only; omega) (by omega))
            have HP := Lib.hid (R3.out.read u hwf)
            rw [FR.out.1, FR.out.2] at HP
            try simp only at HP
            rw [hl2] at HP
            have hl3 : l2 ≤ u + win := by omega
            have hl4 : u + win - hf ≤ l2 := by omega
            have hl5 : u ≤ l2 := by omega
            have hsr : u - u ≤ win := by omega
            clear hm0 hm1
            go_wp2_with fail
            (with_reducible refine HP.out.mono ?_)
            rintro e4 w4 ⟨rfl, k4, o4⟩
            have R4 := Lib.hid k4
            have S4 := Lib.hid (S3.out.other o4 (by have := HG.out; omega) (by have := HG.out; omega))
            have HQ := Lib.hid (S4.out.raise l2)
            rw [FS.out.1, FS.out.2] at HQ
            try simp only at HQ
            clear k4 o4 HP S3 R3 FR FS cx3
            go_wp2_with fail
            (with_reducible refine HQ.out.mono ?_)
            rintro e5 w5 ⟨rfl, k5, o5⟩
            have S5 := Lib.hid k5
            have R5 := Lib.hid (R4.out.other o5 (Nat.le_refl _) (by have := HG.out; omega))
            have Q1 := Lib.hid S5.out.limit
            have Q2 := Lib.hid R5.out.limit
            have Q3 := Lib.hid S5.out.room
            simp only at Q1 Q2 Q3
            clear k5 o5 S4 R4 HQ
            go_wp2_with fail
            (with_reducible refine Q1.out.mono ?_)
            rintro e6 w6 ⟨rfl, rfl⟩
            go_wp2_with fail
            (with_reducible refine Q2.out.mono ?_)
            rintro e7 w7 ⟨rfl, rfl⟩
            have hroom : win - hf ≤ l2 - u := by omega
            go_wp2_with fail
            (with_reducible refine Q3.out.mono ?_)
            rintro e8 w8 ⟨rfl, m, rfl⟩
            go_wp2_with fail
            go_roundw
            case rel => exact ⟨k + 1, l2, u, u, by go_num, rfl, rfl, by omega, by omega, by omega, by omega, by omega, by omega, by omega, S5.out.drewN m, R5.out.drewN m⟩
            case measure => simp [intOf]; omega
          · obtain ⟨l3, hl3'⟩ : ∃ l3, u + win = l3 := ⟨_, rfl⟩
            have hl3w : wrap64 l3 = l3 := by unfold wrap64; omega
            have FR := Lib.hid (cread_no (s := ⟨win, lim, 0, rd⟩) (t := u) (by simp only; omega) (by omega) (by simp only; omega))
            have FS := Lib.hid (lim_same (s := ⟨win, lim, u, 0⟩) (r := lim) (Int.le_refl _))
            have HP := Lib.hid (R3.out.read u hwf)
            rw [FR.out.1, FR.out.2] at HP
            try simp only at HP
            have hl3 : lim ≤ l3 := by omega
            have hl4 : u + win - hf ≤ lim := by omega
            have hl5 : u ≤ lim := by omega
            have hsr : u - u ≤ win := by omega
            clear hm
            go_wp2_with fail
            (with_reducible refine HP.out.mono ?_)
            rintro e4 w4 ⟨rfl, k4, o4⟩
            have R4 := Lib.hid k4
            have S4 := Lib.hid (S3.out.other o4 (by have := HG.out; omega) (by have := HG.out; omega))
            have HQ := Lib.hid (S4.out.raise lim)
            rw [FS.out.1, FS.out.2] at HQ
            try simp only at HQ
            clear k4 o4 HP S3 R3 FR FS cx3
            go_wp2_with fail
            (with_reducible refine HQ.out.mono ?_)
            rintro e5 w5 ⟨rfl, k5, o5⟩
            have S5 := Lib.hid k5
            have R5 := Lib.hid (R4.out.other o5 (Nat.le_refl _) (by have := HG.out; omega))
            have Q1 := Lib.hid S5.out.limit
            have Q2 := Lib.hid R5.out.limit
            have Q3 := Lib.hid S5.out.room
            simp only at Q1 Q2 Q3
            clear k5 o5 S4 R4 HQ
            go_wp2_with fail
            (with_reducible refine Q1.out.mono ?_)
            rintro e6 w6 ⟨rfl, rfl⟩
            go_wp2_with fail
            (with_reducible refine Q2.out.mono ?_)
            rintro e7 w7 ⟨rfl, rfl⟩
            have hroom : win - hf ≤ lim - u := by omega
            go_wp2_with fail
            (with_reducible refine Q3.out.mono ?_)
            rintro e8 w8 ⟨rfl, m, rfl⟩
            go_wp2_with fail
            go_roundw
            case rel => exact ⟨k + 1, lim, u, u, by go_num, rfl, rfl, by omega, by omega, by omega, by omega, by omega, by omega, by omega, S5.out.drewN m, R5.out.drewN m⟩
            case measure => simp [intOf]; omega
      · have HF := Lib.hid (lim_over (s := ⟨win, lim, used, 0⟩) (r := y) (by simp only; omega))
        have HP := Lib.hid (KS.out.take y)
        rw [HF.out.1, HF.out.2] at HP
        obtain ⟨u, hu⟩ : ∃ u, used = u := ⟨_, rfl⟩
        subst hu
        have hub : used ≤ lim := by omega
        have huc : used ≤ used := by omega
        have hud : used ≤ 1000 * k + 1000 := by omega
        obtain ⟨ob, hob⟩ : ∃ ob, (bits BinOp.and IntKind.i64 z 1 == 1) = ob := ⟨_, rfl⟩
        go_wp2_with fail
        (with_reducible refine (HY.out wr).mono ?_)
        rintro e2 w2 ⟨rfl, rfl⟩
        go_wp2_with fail
        (with_reducible refine HP.out.mono ?_)
        rintro e3 w3 ⟨rfl, k3, o3⟩
        have S3 := Lib.hid k3
        have R3 := Lib.hid (KR.out.other o3 (Nat.le_refl _) (by have := HG.out; omega))
        have cx3 : w3.cell? ⟨gz, off + k, none⟩ = some (.int .i64 z) := (S3.out.b.cell (p := ⟨gz, off + k, none⟩) hg).trans CX.out
        clear k3 o3 HP HF KS KR HY cx'
        cases ob
        · have hwf : (Lit.int .i64 rd).wf = true := by simp [Lit.wf, IntKind.min, IntKind.max, IntKind.signed, IntKind.bits]; omega
          by_cases hm : lim < rd + win ∧ lim + hf ≤ rd + win
          · obtain ⟨hm0, hm1⟩ := hm
            obtain ⟨l2, hl2⟩ : ∃ l2, rd + win = l2 := ⟨_, rfl⟩
            have hl2w : wrap64 l2 = l2 := by unfold wrap64; omega
            have FR := Lib.hid (cread_yes (s := ⟨win, lim, 0, rd⟩) (t := rd) (by simp only; omega) (by omega) (by simp only; omega) (by simp only; omega))
            have FS := Lib.hid (lim_more (s := ⟨win, lim, used, 0⟩) (r := l2) (by simp only; omega) (by omega))
            have HP := Lib.hid (R3.out.read rd hwf)
            rw [FR.out.1, FR.out.2] at HP
            try simp only at HP
            rw [hl2] at HP
            have hl3 : l2 ≤ rd + win := by omega
            have hl4 : rd + win - hf ≤ l2 := by omega
            have hl5 : used ≤ l2 := by omega
            have hsr : used - rd ≤ win := by omega
            clear hm0 hm1
            go_wp2_with fail
            (with_reducible refine HP.out.mono ?_)
            rintro e4 w4 ⟨rfl, k4, o4⟩
            have R4 := Lib.hid k4
            have S4 := Lib.hid (S3.out.other o4 (by have := HG.out; omega) (by have := HG.out; omega))
            have HQ := Lib.hid (S4.out.raise l2)
            rw [FS.out.1, FS.out.2] at HQ
            try simp only at HQ
            clear k4 o4 HP S3 R3 FR FS cx3
            go_wp2_with fail
            (with_reducible refine HQ.out.mono ?_)
            rintro e5 w5 ⟨rfl, k5, o5⟩
            have S5 := Lib.hid k5
            have R5 := Lib.hid (R4.out.other o5 (Nat.le_refl _) (by have := HG.out; omega))
            have Q1 := Lib.hid S5.out.limit
            have Q2 := Lib.hid R5.out.limit
            have Q3 := Lib.hid S5.out.room
            simp only at Q1 Q2 Q3
            clear k5 o5 S4 R4 HQ
            go_wp2_with fail
            (with_reducible refine Q1.out.mono ?_)
            rintro e6 w6 ⟨rfl, rfl⟩
            go_wp2_with fail
            (with_reducible refine Q2.out.mono ?_)
            rintro e7 w7 ⟨rfl, rfl⟩
            by_cases heq : rd = used
            · have hroom0 : win - hf ≤ l2 - used := by omega
              have hroom : win - hf ≤ l2 - used := by omega
              go_wp2_with fail
              (with_reducible refine Q3.out.mono ?_)
              rintro e8 w8 ⟨rfl, m, rfl⟩
              go_wp2_with fail
              go_roundw
              case rel => exact ⟨k + 1, l2, used, used, by go_num, rfl, rfl, by omega, by omega, by omega, by omega, by omega, by omega, by omega, S5.out.drewN m, by have h := R5.out.drewN m; rw [heq] at h; exact h⟩
              case measure => simp [intOf]; omega
            · have hne : (rd == used) = false := by simpa using heq
              go_wp2_with fail
              go_roundw
              case rel => exact ⟨k + 1, l2, used, rd, by go_num, rfl, rfl, by omega, by omega, by omega, by omega, by omega, by omega, by omega, S5.out, R5.out⟩
              case measure => simp [intOf]; omega
          · obtain ⟨l3, hl3'⟩ : ∃ l3, rd + win = l3 := ⟨_, rfl⟩
            have hl3w : wrap64 l3 = l3 := by unfold wrap64; omega
            have FR := Lib.hid (cread_no (s := ⟨win, lim, 0, rd⟩) (t := rd) (by simp only; omega) (by omega) (by simp only; omega))
            have FS := Lib.hid (lim_same (s := ⟨win, lim, used, 0⟩) (r := lim) (Int.le_refl _))
            have HP := Lib.hid (R3.out.read rd hwf)
            rw [FR.out.1, FR.out.2] at HP
            try simp only at HP
            have hl3 : lim ≤ l3 := by omega
            have hl4 : rd + win - hf ≤ lim := by omega
            have hl5 : used ≤ lim := by omega
            have hsr : used - rd ≤ win := by omega
            clear hm
            go_wp2_with fail
            (with_reducible refine HP.out.mono ?_)
            rintro e4 w4 ⟨rfl, k4, o4⟩
            have R4 := Lib.hid k4
            have S4 := Lib.hid (S3.out.other o4 (by have := HG.out; omega) (by have := HG.out; omega))
            have HQ := Lib.hid (S4.out.raise lim)
            rw [FS.out.1, FS.out.2] at HQ
            try simp only at HQ
            clear k4 o4 HP S3 R3 FR FS cx3
            go_wp2_with fail
            (with_reducible refine HQ.out.mono ?_)
            rintro e5 w5 ⟨rfl, k5, o5⟩
            have S5 := Lib.hid k5
            have R5 := Lib.hid (R4.out.other o5 (Nat.le_refl _) (by have := HG.out; omega))
            have Q1 := Lib.hid S5.out.limit
            have Q2 := Lib.hid R5.out.limit
            have Q3 := Lib.hid S5.out.room
            simp only at Q1 Q2 Q3
            clear k5 o5 S4 R4 HQ
            go_wp2_with fail
            (with_reducible refine Q1.out.mono ?_)
            rintro e6 w6 ⟨rfl, rfl⟩
            go_wp2_with fail
            (with_reducible refine Q2.out.mono ?_)
            rintro e7 w7 ⟨rfl, rfl⟩
            by_cases heq : rd = used
            · have hroom0 : win - hf ≤ lim - used := by omega
              have hroom : win - hf ≤ lim - used := by omega
              go_wp2_with fail
              (with_reducible refine Q3.out.mono ?_)
              rintro e8 w8 ⟨rfl, m, rfl⟩
              go_wp2_with fail
              go_roundw
              case rel => exact ⟨k + 1, lim, used, used, by go_num, rfl, rfl, by omega, by omega, by omega, by omega, by omega, by omega, by omega, S5.out.drewN m, by have h := R5.out.drewN m; rw [heq] at h; exact h⟩
              case measure => simp [intOf]; omega
            · have hne : (rd == used) = false := by simpa using heq
              go_wp2_with fail
              go_roundw
              case rel => exact ⟨k + 1, lim, used, rd, by go_num, rfl, rfl, by omega, by omega, by omega, by omega, by omega, by omega, by omega, S5.out, R5.out⟩
              case measure => simp [intOf]; omega
        · have hwf : (Lit.int .i64 used).wf = true := by simp [Lit.wf, IntKind.min, IntKind.max, IntKind.signed, IntKind.bits]; omega
          by_cases hm : lim < used + win ∧ lim + hf ≤ used + win
          · obtain ⟨hm0, hm1⟩ := hm
            obtain ⟨l2, hl2⟩ : ∃ l2, used + win = l2 := ⟨_, rfl⟩
            have hl2w : wrap64 l2 = l2 := by unfold wrap64; omega
            have FR := Lib.hid (cread_yes (s := ⟨win, lim, 0, rd⟩) (t := used) (by simp only; omega) (by omega) (by simp only; omega) (by simp only; omega))
            have FS := Lib.hid (lim_more (s := ⟨win, lim, used, 0⟩) (r := l2) (by simp only; omega) (by omega))
            have HP := Lib.hid (R3.out.read used hwf)
            rw [FR.out.1, FR.out.2] at HP
            try simp only at HP
            rw [hl2] at HP
            have hl3 : l2 ≤ used + win := by omega
            have hl4 : used + win - hf ≤ l2 := by omega
            have hl5 : used ≤ l2 := by omega
            have hsr : used - used ≤ win := by omega
            clear hm0 hm1
            go_wp2_with fail
            (with_reducible refine HP.out.mono ?_)
            rintro e4 w4 ⟨rfl, k4, o4⟩
            have R4 := Lib.hid k4
            have S4 := Lib.hid (S3.out.other o4 (by have := HG.out; omega) (by have := HG.out; omega))
            have HQ := Lib.hid (S4.out.raise l2)
            rw [FS.out.1, FS.out.2] at HQ
            try simp only at HQ
            clear k4 o4 HP S3 R3 FR FS cx3
            go_wp2_with fail
            (with_reducible refine HQ.out.mono ?_)
            rintro e5 w5 ⟨rfl, k5, o5⟩
            have S5 := Lib.hid k5
            have R5 := Lib.hid (R4.out.other o5 (Nat.le_refl _) (by have := HG.out; omega))
            have Q1 := Lib.hid S5.out.limit
            have Q2 := Lib.hid R5.out.limit
            have Q3 := Lib.hid S5.out.room
            simp only at Q1 Q2 Q3
            clear k5 o5 S4 R4 HQ
            go_wp2_with fail
            (with_reducible refine Q1.out.mono ?_)
            rintro e6 w6 ⟨rfl, rfl⟩
            go_wp2_with fail
            (with_reducible refine Q2.out.mono ?_)
            rintro e7 w7 ⟨rfl, rfl⟩
            have hroom : win - hf ≤ l2 - used := by omega
            go_wp2_with fail
            (with_reducible refine Q3.out.mono ?_)
            rintro e8 w8 ⟨rfl, m, rfl⟩
            go_wp2_with fail
            go_roundw
            case rel => exact ⟨k + 1, l2, used, used, by go_num, rfl, rfl, by omega, by omega, by omega, by omega, by omega, by omega, by omega, S5.out.drewN m, R5.out.drewN m⟩
            case measure => simp [intOf]; omega
          · obtain ⟨l3, hl3'⟩ : ∃ l3, used + win = l3 := ⟨_, rfl⟩
            have hl3w : wrap64 l3 = l3 := by unfold wrap64; omega
            have FR := Lib.hid (cread_no (s := ⟨win, lim, 0, rd⟩) (t := used) (by simp only; omega) (by omega) (by simp only; omega))
            have FS := Lib.hid (lim_same (s := ⟨win, lim, used, 0⟩) (r := lim) (Int.le_refl _))
            have HP := Lib.hid (R3.out.read used hwf)
            rw [FR.out.1, FR.out.2] at HP
            try simp only at HP
            have hl3 : lim ≤ l3 := by omega
            have hl4 : used + win - hf ≤ lim := by omega
            have hl5 : used ≤ lim := by omega
            have hsr : used - used ≤ win := by omega
            clear hm
            go_wp2_with fail
            (with_reducible refine HP.out.mono ?_)
            rintro e4 w4 ⟨rfl, k4, o4⟩
            have R4 := Lib.hid k4
            have S4 := Lib.hid (S3.out.other o4 (by have := HG.out; omega) (by have := HG.out; omega))
            have HQ := Lib.hid (S4.out.raise lim)
            rw [FS.out.1, FS.out.2] at HQ
            try simp only at HQ
            clear k4 o4 HP S3 R3 FR FS cx3
            go_wp2_with fail
            (with_reducible refine HQ.out.mono ?_)
            rintro e5 w5 ⟨rfl, k5, o5⟩
            have S5 := Lib.hid k5
            have R5 := Lib.hid (R4.out.other o5 (Nat.le_refl _) (by have := HG.out; omega))
            have Q1 := Lib.hid S5.out.limit
            have Q2 := Lib.hid R5.out.limit
            have Q3 := Lib.hid S5.out.room
            simp only at Q1 Q2 Q3
            clear k5 o5 S4 R4 HQ
            go_wp2_with fail
            (with_reducible refine Q1.out.mono ?_)
            rintro e6 w6 ⟨rfl, rfl⟩
            go_wp2_with fail
            (with_reducible refine Q2.out.mono ?_)
            rintro e7 w7 ⟨rfl, rfl⟩
            have hroom : win - hf ≤ lim - used := by omega
            go_wp2_with fail
            (with_reducible refine Q3.out.mono ?_)
            rintro e8 w8 ⟨rfl, m, rfl⟩
            go_wp2_with fail
            go_roundw
            case rel => exact ⟨k + 1, lim, used, used, by go_num, rfl, rfl, by omega, by omega, by omega, by omega, by omega, by omega, by omega, S5.out.drewN m, R5.out.drewN m⟩
            case measure => simp [intOf]; omega
    · obtain rfl : k = n := by omega
      go_wp2_with fail
      (with_reducible refine (awake_any wr).mono ?_)
      rintro e2 w2 ⟨rfl, b2⟩
      go_wp2_with fail
      go_ret
      exact ⟨rfl, KR.out.b.trans (b2.mono KR.out.b.size)⟩
end Go.Proofs.Ytfkapjlindcdkaa
