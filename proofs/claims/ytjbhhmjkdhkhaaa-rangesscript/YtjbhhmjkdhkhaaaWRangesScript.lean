/-
  The walk of RangesScript. (Two regions were written by program.)
-/
import Derived.Test.YtjbhhmjkdhkhaaaRfH
import Derived.Deep.CutRange
namespace Go.Proofs.Ytjbhhmjkdhkhaaa
open Go.RowKit Go.Lib
set_option linter.unusedVariables false

theorem below_draw {B : Nat} {w w' : World} (h : Below B w w') : Below B w w'.drew := ⟨h.os, h.tape, h.output, h.size, h.block⟩
/-- numbers, Booleans that came in -/
def InU (w : World) (A : Option Addr) (n : Nat) (zs : List Nat) : Prop := (∀ i, zs.getD i 0 < 18446744073709551616) ∧ (0 < n → ∃ b off, A = some ⟨b, off, none⟩ ∧ b < w.heap.size ∧ ∀ i, i < n → w.cell? ⟨b, off + i, none⟩ = some (.int .u64 ((zs.getD i 0 : Nat) : Int)))
def InB (w : World) (A : Option Addr) (n : Nat) (f : Nat → Bool) : Prop := 0 < n → ∃ b off, A = some ⟨b, off, none⟩ ∧ b < w.heap.size ∧ ∀ i, i < n → w.cell? ⟨b, off + i, none⟩ = some (.bool (f i))
theorem nil_largest (w : World) : Calls Try.prog 10 #[.pointer none] w fun e w' => e = .returned (.tuple #[.int .u64 0, .bool false]) ∧ Below w.heap.size w w' := by
  go_enter Try.func10, Try.ntmps10
  go_wp2_with fail
  go_ret2
  exact ⟨rfl, Below.refl _ _⟩
theorem nil_add (w : World) : Calls Try.prog 11 #[.pointer none, .int .u64 1] w fun e w' => e = .returned (.bool false) ∧ w = w' := by
  go_enter Try.func11, Try.ntmps11
  go_wp2_with fail
  go_ret
  exact ⟨rfl, rfl⟩
theorem nil_has (w : World) : Calls Try.prog 12 #[.pointer none, .int .u64 0] w fun e w' => e = .returned (.bool false) ∧ w = w' := by
  go_enter Try.func12, Try.ntmps12
  go_wp2_with fail
  go_ret
  exact ⟨rfl, rfl⟩
theorem nil_list (w : World) : Calls Try.prog 13 #[.pointer none] w fun e w' => e = .returned (.slice none 0 0) ∧ w = w' := by
  go_enter Try.func13, Try.ntmps13
  go_wp2_with fail
  go_ret
  exact ⟨rfl, rfl⟩
set_option maxRecDepth 8000 in
theorem script_long (m : Int) (a1 a2 : Option Addr) (n1 c1 n2 c2 : Nat) (w : World) (h : 60 < n1 ∨ 60 < n2) : Calls Try.prog 3 #[.int .i64 m, .slice a1 n1 c1, .slice a2 n2 c2] w fun e w' => e = .returned (.bool true) ∧ Below w.heap.size w w' := by
  by_cases h1 : (60 : Int) < (n1 : Int)
  · go_enter Try.func3, Try.ntmps3
    go_wp2_with fail
    (with_reducible refine (awake_any _).mono ?_)
    rintro e1 w1 ⟨rfl, b1⟩
    go_wp2
    go_ret
    exact ⟨rfl, b1⟩
  · have h2 : (60 : Int) < (n2 : Int) := by omega
    go_enter Try.func3, Try.ntmps3
    go_wp2_with fail
    (with_reducible refine (awake_any _).mono ?_)
    rintro e1 w1 ⟨rfl, b1⟩
    go_wp2
    go_ret
    exact ⟨rfl, b1⟩
set_option maxHeartbeats 1000000 in
set_option maxRecDepth 8000 in
theorem script_out (m : Int) (a1 a2 : Option Addr) (n1 c1 n2 c2 : Nat) (w : World) (hn1 : n1 ≤ 60) (hn2 : n2 ≤ 60) (h : m < 1 ∨ 64 < m) : Calls Try.prog 3 #[.int .i64 m, .slice a1 n1 c1, .slice a2 n2 c2] w fun e w' => e = .returned (.bool true) ∧ Below w.heap.size w w' := by
  have k1 : ¬ (60 : Int) < (n1 : Int) := by omega
  have k2 : ¬ (60 : Int) < (n2 : Int) := by omega
  have HN := Lib.hid (new_out m h w)
  have hw : (m < 1) ∨ (¬ m < 1 ∧ 64 < m) := by omega
  clear h
  rcases hw with h1 | ⟨h1, h2⟩
  all_goals
    go_enter Try.func3, Try.ntmps3
    go_wp2_with fail
    (with_reducible refine HN.out.mono ?_)
    rintro e1 w1 ⟨rfl, rfl⟩
    go_wp2_with fail
    (with_reducible refine (nil_largest _).mono ?_)
    rintro e2 w2 ⟨rfl, b2⟩
    go_wp2_with fail
    (with_reducible refine (nil_add _).mono ?_)
    rintro e3 w3 ⟨rfl, rfl⟩
    go_wp2_with fail
    (with_reducible refine (nil_has _).mono ?_)
    rintro e3 w3 ⟨rfl, rfl⟩
    go_wp2_with fail
    (with_reducible refine (nil_list _).mono ?_)
    rintro e3 w3 ⟨rfl, rfl⟩
    go_wp2_with fail
    (with_reducible refine (awake_any _).mono ?_)
    rintro e4 w4 ⟨rfl, b4⟩
    go_wp2
    go_ret
    exact ⟨rfl, b2.trans (b4.mono b2.size)⟩

set_option maxHeartbeats 8000000 in
set_option maxRecDepth 16000 in
theorem script_any (m : Nat) (a1 a2 : Option Addr) (n c1 n2 c2 : Nat) (zs : List Nat) (f : Nat → Bool) (w : World) (hn : n ≤ 60) (hn2 : n2 ≤ 60) (hm1 : 1 ≤ m) (hm2 : m ≤ 64) (h1 : InU w a1 n zs) (h2 : InB w a2 n2 f) :
    Calls Try.prog 3 #[.int .i64 (m : Int), .slice a1 n c1, .slice a2 n2 c2] w fun e w' => e = .returned (.bool true) ∧ Below w.heap.size w w' := by
  have k1 : ¬ (60 : Int) < (n : Int) := by omega
  have k2 : ¬ (60 : Int) < (n2 : Int) := by omega
  have k3 : ¬ (m : Int) < 1 := by omega
  have k4 : ¬ (64 : Int) < (m : Int) := by omega
  have I1 := Lib.hid h1
  have I2 := Lib.hid h2
  have HM : Hid (1 ≤ m ∧ m ≤ 64) := ⟨hm1, hm2⟩
  have HN := Lib.hid (new_any m hm1 hm2 w w.heap.size (Nat.le_refl _))
  clear h1 h2 hm1 hm2
  go_enter Try.func3, Try.ntmps3
  go_wp2_with fail
  (with_reducible refine HN.out.mono ?_)
  rintro e1 w1 ⟨rfl, s1, b1⟩
  have P1 := Lib.hid (Pair.new HM.out.1 HM.out.2 s1 b1)
  have B1 := Lib.hid (b1.alloc b1.size (.cells #[.int .i64 (m : Int), .slice none 0 0, .int .u64 0] 35))
  clear s1 b1 HN
  go_wp2_with fail
  clear k1 k2 k3 k4
  obtain ⟨gs, hgs⟩ : ∃ gs, w.heap.size = gs := ⟨_, rfl⟩
  obtain ⟨gr, hgr⟩ : ∃ gr, w1.heap.size = gr := ⟨_, rfl⟩
  have P1' : Hid (Pair (w1.alloc (.cells #[.int .i64 (m : Int), .slice none 0 0, .int .u64 0] 35)) w.heap.size gs gr 0 (RS.new m) (RS.new m)) := by rw [← hgs, ← hgr]; exact P1.out
  simp only [hgs, hgr]
  have HGS := Lib.hid hgs
  have HGD : Hid (gs ≤ gr) := by rw [← hgs, ← hgr]; exact P1.out.d.2
  clear hgs hgr P1 HM
  go_loopw [11] (fun i wr => ∃ (j : Nat) (s : RS), j ≤ n ∧ i = .int .i64 j ∧ Hid (Pair wr w.heap.size gs gr j s s) ∧ Hid (Below w.heap.size w wr)) (fun i _ => n - (intOf i).toNat)
  case atStart => exact ⟨0, RS.new m, by omega, rfl, P1'.out, B1.out⟩
  case round =>
    clear P1' B1
    obtain ⟨j, s, hj, rfl, P, B⟩ := hrel
    by_cases hlt : j < n
    · obtain ⟨b, off, rfl, hb, hcl⟩ := I1.out.2 (by omega)
      obtain ⟨x, hx⟩ : ∃ x, zs.getD j 0 = x := ⟨_, rfl⟩
      have hc0 := hcl j hlt
      have hx64 := I1.out.1 j
      rw [hx] at hc0 hx64
      have C0 := Lib.hid hc0
      have HX64 := Lib.hid hx64
      have HBB := Lib.hid hb
      have c1 : wr.cell? ⟨b, off + j, none⟩ = some (.int .u64 (x : Int)) := (B.out.cell (p := ⟨b, off + j, none⟩) hb).trans hc0
      have lt1 : (j : Int) < (n : Int) := by omega
      clear hcl hx hc0 hx64 hb
      go_upto_region 13 with fail
      obtain ⟨fb, hfb⟩ : ∃ fb, (decide (j < n2) && f j) = fb := ⟨_, rfl⟩
      go_cut [84] from 69 to 182 (fun v wx => v = .bool fb ∧ wx = wr)
      case first =>
        have hway : (¬ (j : Int) < (n2 : Int) ∧ fb = false) ∨ ((j : Int) < (n2 : Int) ∧ ∃ b2 off2, a2 = some ⟨b2, off2, none⟩ ∧ wr.cell? ⟨b2, off2 + j, none⟩ = some (.bool fb)) := by
          by_cases h9 : j < n2
          · obtain ⟨b2, off2, e, hb2, hcl⟩ := I2.out (by omega)
            rw [decide_eq_true h9, Bool.true_and] at hfb
            have h8 := hcl j h9
            rw [hfb] at h8
            exact .inr ⟨by omega, b2, off2, e, (B.out.cell (p := ⟨b2, off2 + j, none⟩) hb2).trans h8⟩
          · rw [decide_eq_false h9, Bool.false_and] at hfb
            exact .inl ⟨by omega, hfb.symm⟩
        clear hfb
        rcases hway with ⟨lt2, rfl⟩ | ⟨lt2, b2, off2, rfl, d2⟩
        · go_wp2_with fail
          go_meet
          exact ⟨rfl, rfl⟩
        · go_wp2_with fail
          go_meet
          exact ⟨rfl, rfl⟩
      case rest =>
        obtain ⟨rfl, rfl⟩ := hcut
        clear hfb
        go_upto_if 84 with fail
        go_cut [] from 69 to 182 (fun wx => ∃ s' : RS, Hid (Pair wx w.heap.size gs gr (j + 1) s' s') ∧ Hid (Below w.heap.size w wx))
        case first =>
          cases fb
          · go_wp2_with fail
            refine wp_held (S := fun u => Below w.heap.size w u) (by kernel_rfl) ?_
            have hS : Below w.heap.size w wc.drew := below_draw B.out
            have P0 : Hid (Pair wc.drew w.heap.size gs gr j s s) := P.out.drewN 1
            refine wpAnyH_take (i := 0) (v := ?_) rfl (by kernel_rfl) (by kernel_rfl) (by kernel_rfl) (fun _ _ _ h => h) (Or.inl ⟨by rfl, ?_⟩) hS ?_
            rotate_left 1
            · intro u hu
              go_simp
              first | done | with_reducible rfl
            go_simp
            refine wpAnyH_take (i := 1) (v := ?_) rfl (by kernel_rfl) (by kernel_rfl) (by kernel_rfl) (fun _ _ _ h => h) (Or.inl ⟨by rfl, ?_⟩) hS ?_
            rotate_left 1
            · intro u hu
              go_simp
              first | done | with_reducible rfl
            go_simp
            refine wpAnyH_take (i := 2) (v := ?_) rfl (by kernel_rfl) (by kernel_rfl) (by kernel_rfl) (fun _ _ _ h => h) (Or.inl ⟨by rfl, ?_⟩) hS ?_
            rotate_left 1
            · intro u hu
              go_simp
              first | done | with_reducible rfl
            go_simp
            refine wpAnyH_take (i := 3) (v := ?_) rfl (by kernel_rfl) (by kernel_rfl) (by kernel_rfl) (fun _ _ _ h => h) (Or.inl ⟨by rfl, ?_⟩) hS ?_
            rotate_left 1
            · intro u hu
              go_simp
              first | done | with_reducible rfl
            go_simp
            refine wpAnyH_take (i := 4) (v := ?_) rfl (by kernel_rfl) (by kernel_rfl) (by kernel_rfl) (fun _ _ _ h => h) (Or.inl ⟨by rfl, ?_⟩) hS ?_
            rotate_left 1
            · intro u hu
              have q1 := (hu.cell (p := ⟨b, off + j, none⟩) HBB.out).trans C0.out
              go_simp
              first | done | with_reducible rfl
            go_simp
            refine wpAnyH_take (i := 6) (v := ?_) rfl (by kernel_rfl) (by kernel_rfl) (by kernel_rfl) (fun _ _ _ h => h) (Or.inl ⟨by rfl, ?_⟩) hS ?_
            rotate_left 1
            · intro u hu
              go_simp
              first | done | with_reducible rfl
            go_simp
            refine wpAnyH_take (i := 7) (v := ?_) rfl (by kernel_rfl) (by kernel_rfl) (by kernel_rfl) (fun _ _ _ h => h) (Or.inl ⟨by rfl, ?_⟩) hS ?_
            rotate_left 1
            · intro u hu
              go_simp
              first | done | with_reducible rfl
            go_simp
            refine wpAnyH_take (i := 8) (v := ?_) rfl (by kernel_rfl) (by kernel_rfl) (by kernel_rfl) (fun _ _ _ h => h) (Or.inl ⟨by rfl, ?_⟩) hS ?_
            rotate_left 1
            · intro u hu
              go_simp
              first | done | with_reducible rfl
            go_simp
            refine wpAnyH_take (i := 9) (v := ?_) rfl (by kernel_rfl) (by kernel_rfl) (by kernel_rfl) (fun _ _ _ h => h) (Or.inl ⟨by rfl, ?_⟩) hS ?_
            rotate_left 1
            · intro u hu
              go_simp
              first | done | with_reducible rfl
            go_simp
            refine wpAnyH_take (i := 10) (v := ?_) rfl (by kernel_rfl) (by kernel_rfl) (by kernel_rfl) (fun _ _ _ h => h) (Or.inl ⟨by rfl, ?_⟩) hS ?_
            rotate_left 1
            · intro u hu
              have q1 := (hu.cell (p := ⟨b, off + j, none⟩) HBB.out).trans C0.out
              go_simp
              first | done | with_reducible rfl
            go_simp
            refine wpAnyH_oneG 5 (by kernel_rfl) rfl (by rfl) ?_
            go_wp2_with fail
            (with_reducible refine (pair_adds P0.out hS.size x (x : Int) rfl).mono ?_)
            rintro e4 w4 ⟨rfl, p4, b4⟩
            have hS4 := hS.trans b4
            have P4 := Lib.hid p4
            refine ⟨hS4, ?_⟩
            clear b4 p4 P0 hS
            refine wpAnyH_oneG 11 (by kernel_rfl) rfl (by rfl) ?_
            go_wp2_with fail
            (with_reducible refine (pair_addr P4.out hS4.size (by omega) x HX64.out (x : Int) rfl).mono ?_)
            rintro e6 w6 ⟨rfl, p6, b6⟩
            have hS6 := hS4.trans b6
            have P6 := Lib.hid p6
            refine ⟨hS6, ?_⟩
            clear b6 p6 P4 hS4
            obtain ⟨nb, hnb⟩ : ∃ nb, s.newB x = nb := ⟨_, rfl⟩
            rw [hnb]
            clear hnb
            have hnn : (nb != nb) = false := by simp
            refine wpAnyH_take (i := 12) (v := ?_) rfl (by kernel_rfl) (by kernel_rfl) (by kernel_rfl) (fun _ _ _ h => h) (Or.inl ⟨by rfl, ?_⟩) hS6 ?_
            rotate_left 1
            · intro u hu
              go_simp
              first | done | with_reducible rfl
            go_simp
            refine wpAnyH_done (by kernel_rfl) ?_ _
            go_wp2_with fail
            go_meet
            exact ⟨s.add x, P6, hS6⟩
          · go_wp2_with fail
            (with_reducible refine (pair_belows P.out B.out.size x HX64.out (x : Int) rfl).mono ?_)
            rintro e4 w4 ⟨rfl, p4, b4⟩
            have P4 := Lib.hid p4
            have B4 := Lib.hid (B.out.trans b4)
            have c4 : w4.cell? ⟨b, off + j, none⟩ = some (.int .u64 (x : Int)) := (B4.out.cell (p := ⟨b, off + j, none⟩) HBB.out).trans C0.out
            clear p4 b4
            go_wp2_with fail
            (with_reducible refine (pair_belowr P4.out B4.out.size (by omega) x HX64.out (x : Int) rfl).mono ?_)
            rintro e6 w6 ⟨rfl, p6, b6⟩
            have P6 := Lib.hid (p6.more (Nat.le_succ j))
            have B6 := Lib.hid (B4.out.trans b6)
            clear p6 b6
            go_wp2_with fail
            go_meet
            exact ⟨s.below x, P6, B6⟩
        case rest =>
          obtain ⟨s', P', B'⟩ := hcut
          clear P B c1 s
          have ok := P'.out.oks
          obtain ⟨q, hq⟩ : ∃ q, s'.l.length = q := ⟨_, rfl⟩
          have hq64 : q ≤ 64 := by have h9 := ok.len; have h8 := ok.most.2; omega
          have HLS := Lib.hid (st_list P'.out.st)
          rw [hq] at HLS
          clear ok
          go_wp2_with fail
          (with_reducible refine HLS.out.mono ?_)
          rintro e8 w8 ⟨A1, c8, rfl, o8, b8⟩
          have P8 := Lib.hid (P'.out.below b8)
          have HLR := Lib.hid (pair_listr P8.out (by omega))
          rw [hq] at HLR
          go_wp2_with fail
          (with_reducible refine HLR.out.mono ?_)
          rintro e9 w9 ⟨A2, c9, rfl, o9, b9⟩
          have P9 := Lib.hid (P8.out.below b9)
          have O1 := Lib.hid (o8.below b9)
          have O2 := Lib.hid o9
          have B9 := Lib.hid (b8.trans (b9.mono b8.size))
          have W9 : Hid (Below w.heap.size w w9) := B'.out.trans (B9.out.mono B'.out.size)
          have D9 : Hid (w9.cell? ⟨b, off + j, none⟩ = some (.int .u64 (x : Int))) := (W9.out.cell (p := ⟨b, off + j, none⟩) HBB.out).trans C0.out
          have HB9 : Hid (b < w9.heap.size) := Nat.lt_of_lt_of_le HBB.out W9.out.size
          have HLG := Lib.hid (st_largest P9.out.st)
          rw [hq] at HLG
          obtain ⟨x1, hx1⟩ : ∃ x1, (x + 1) % 18446744073709551616 = x1 := ⟨_, rfl⟩
          have t5 : IntKind.u64.wrap ((x : Int) + 1) = (x1 : Int) := by
            rw [← hx1]
            simp [IntKind.wrap, IntKind.bits, IntKind.signed]
          obtain ⟨m0, hm0⟩ : ∃ m0, decide (s'.mem x) = m0 := ⟨_, rfl⟩
          obtain ⟨m1, hm1⟩ : ∃ m1, decide (s'.mem x1) = m1 := ⟨_, rfl⟩
          have hx1b : x1 < 18446744073709551616 := by omega
          have HSR : Hid (∀ u, Below w9.heap.size w9 u → Calls Try.prog 18 #[.slice A1 q c8, .slice A2 q c9] u fun e w' => e = .returned (.bool true) ∧ Below w9.heap.size w9 w') := fun u hu =>
            (rsame_any s'.l s'.l A1 A2 q q c8 c9 w9.heap.size w9.heap.size u (O1.out.sl.below hu) (O2.out.sl.below hu) (by unfold maxLen; omega) true (by simp)).mono fun e w' h => ⟨h.1, hu.trans (h.2.mono hu.size)⟩
          have HH0 : Hid (∀ u, Below w9.heap.size w9 u → Calls Try.prog 12 #[.pointer (some ⟨gs, 0, none⟩), .int .u64 (x : Int)] u fun e w' => e = .returned (.bool m0) ∧ Below w9.heap.size w9 w') := fun u hu =>
            (st_has (P9.out.below hu).st HX64.out (x : Int) rfl m0 hm0).mono fun e w' h => ⟨h.1, hu.trans (h.2.mono hu.size)⟩
          have HH1 : Hid (∀ u, Below w9.heap.size w9 u → Calls Try.prog 12 #[.pointer (some ⟨gs, 0, none⟩), .int .u64 (x1 : Int)] u fun e w' => e = .returned (.bool m1) ∧ Below w9.heap.size w9 w') := fun u hu =>
            (st_has (P9.out.below hu).st hx1b (x1 : Int) rfl m1 hm1).mono fun e w' h => ⟨h.1, hu.trans (h.2.mono hu.size)⟩
          have HR0 : Hid (∀ u, Below w9.heap.size w9 u → Calls Try.prog 19 #[.pointer (some ⟨gr, 0, none⟩), .int .u64 (x : Int)] u fun e w' => e = .returned (.bool m0) ∧ Below w9.heap.size w9 w') := fun u hu =>
            (pair_hasr (P9.out.below hu) (by omega) x (x : Int) rfl m0 hm0).mono fun e w' h => ⟨h.1, hu.trans ((h.below).2.mono hu.size)⟩
          have HR1 : Hid (∀ u, Below w9.heap.size w9 u → Calls Try.prog 19 #[.pointer (some ⟨gr, 0, none⟩), .int .u64 (x1 : Int)] u fun e w' => e = .returned (.bool m1) ∧ Below w9.heap.size w9 w') := fun u hu =>
            (pair_hasr (P9.out.below hu) (by omega) x1 (x1 : Int) rfl m1 hm1).mono fun e w' h => ⟨h.1, hu.trans ((h.below).2.mono hu.size)⟩
          have t6 : (m0 != m0) = false := by simp
          have t7 : (m1 != m1) = false := by simp
          have hway : (q = 0 ∧ decide (0 < q) = false) ∨ (0 < q ∧ decide (0 < q) = true ∧ ∃ g2 hi, A2 = some ⟨g2, 0, none⟩ ∧ g2 < w9.heap.size ∧ (s'.l.getD 0 (0, 0)).2 = hi ∧ w9.cell? ⟨g2, 1, none⟩ = some (.int .u64 (hi : Int))) := by
            by_cases h9 : q = 0
            · subst h9; exact .inl ⟨rfl, rfl⟩
            · obtain ⟨g2, off2, e, hg2, _⟩ := O2.out.sl.2 (by omega)
              have e2 := O2.out.spot _ e
              have e3 : A2 = some ⟨g2, 0, none⟩ := by rw [e, e2]
              have O3 := O2.out
              rw [e3] at O3
              have h8 := (O3.cells 0 (by omega)).2
              rw [Nat.zero_mul, Nat.zero_add] at h8
              exact .inr ⟨by omega, decide_eq_true (by omega), g2, _, e3, hg2, rfl, h8⟩
          clear hx1 hm0 hm1 hx1b o8 b8 o9 b9 HLS HLR hq
          rcases hway with ⟨hq0, hq1⟩ | ⟨hq0, hq1, g2, hi, rfl, hg2, hhi, hd2⟩
          · subst hq0
            have HLG0 : Hid (∃ y : Nat, Calls Try.prog 10 #[.pointer (some ⟨gs, 0, none⟩)] w9 fun e w' => e = .returned (.tuple #[.int .u64 (y : Int), .bool false]) ∧ w9 = w') := ⟨_, HLG.out⟩
            obtain ⟨y, hy⟩ := HLG0.out
            have HY := Lib.hid hy
            clear hy HLG HLG0 hq1
            go_wp2_with fail
            (with_reducible refine HY.out.mono ?_)
            rintro e10 w10 ⟨rfl, rfl⟩
            go_wp2_with fail
            refine wp_held (S := fun u => Below w9.heap.size w9 u) (by kernel_rfl) ?_
            have hS : Below w9.heap.size w9 w9.drew := below_draw (Below.refl _ _)
            refine wpAnyH_take (i := 0) (v := ?_) rfl (by kernel_rfl) (by kernel_rfl) (by kernel_rfl) (fun _ _ _ h => h) (Or.inl ⟨by rfl, ?_⟩) hS ?_
            rotate_left 1
            · intro u hu
              go_simp
              first | done | with_reducible rfl
            go_simp
            refine wpAnyH_take (i := 1) (v := ?_) rfl (by kernel_rfl) (by kernel_rfl) (by kernel_rfl) (fun _ _ _ h => h) (Or.inl ⟨by rfl, ?_⟩) hS ?_
            rotate_left 1
            · intro u hu
              go_simp
              first | done | with_reducible rfl
            go_simp
            refine wpAnyH_oneG 2 (by kernel_rfl) rfl (by rfl) ?_
            go_wp2_with fail
            (with_reducible refine (HSR.out _ hS).mono ?_)
            rintro e21 u1 ⟨rfl, hS1⟩
            refine ⟨hS1, ?_⟩
            clear hS
            refine wpAnyH_take (i := 3) (v := ?_) rfl (by kernel_rfl) (by kernel_rfl) (by kernel_rfl) (fun _ _ _ h => h) (Or.inl ⟨by rfl, ?_⟩) hS1 ?_
            rotate_left 1
            · intro u hu
              go_simp
              first | done | with_reducible rfl
            go_simp
            refine wpAnyH_take (i := 4) (v := ?_) rfl (by kernel_rfl) (by kernel_rfl) (by kernel_rfl) (fun _ _ _ h => h) (Or.inl ⟨by rfl, ?_⟩) hS1 ?_
            rotate_left 1
            · intro u hu
              go_simp
              first | done | with_reducible rfl
            go_simp
            refine wpAnyH_take (i := 5) (v := ?_) rfl (by kernel_rfl) (by kernel_rfl) (by kernel_rfl) (fun _ _ _ h => h) (Or.inl ⟨by rfl, ?_⟩) hS1 ?_
            rotate_left 1
            · intro u hu
              go_simp
              first | done | with_reducible rfl
            go_simp
            refine wpAnyH_take (i := 6) (v := ?_) rfl (by kernel_rfl) (by kernel_rfl) (by kernel_rfl) (fun _ _ _ h => h) (Or.inl ⟨by rfl, ?_⟩) hS1 ?_
            rotate_left 1
            · intro u hu
              go_simp
              first | done | with_reducible rfl
            go_simp
            refine wpAnyH_take (i := 7) (v := ?_) rfl (by kernel_rfl) (by kernel_rfl) (by kernel_rfl) (fun _ _ _ h => h) (Or.inl ⟨by rfl, ?_⟩) hS1 ?_
            rotate_left 1
            · intro u hu
              go_simp
              first | done | with_reducible rfl
            go_simp
            refine wpAnyH_take (i := 8) (v := ?_) rfl (by kernel_rfl) (by kernel_rfl) (by kernel_rfl) (fun _ _ _ h => h) (Or.inl ⟨by rfl, ?_⟩) hS1 ?_
            rotate_left 1
            · intro u hu
              go_simp
              first | done | with_reducible rfl
            go_simp
            refine wpAnyH_take (i := 9) (v := ?_) rfl (by kernel_rfl) (by kernel_rfl) (by kernel_rfl) (fun _ _ _ h => h) (Or.inl ⟨by rfl, ?_⟩) hS1 ?_
            rotate_left 1
            · intro u hu
              go_simp
              first | done | with_reducible rfl
            go_simp
            refine wpAnyH_take (i := 10) (v := ?_) rfl (by kernel_rfl) (by kernel_rfl) (by kernel_rfl) (fun _ _ _ h => h) (Or.inl ⟨by rfl, ?_⟩) hS1 ?_
            rotate_left 1
            · intro u hu
              go_simp
              first | done | with_reducible rfl
            go_simp
            refine wpAnyH_take (i := 11) (v := ?_) rfl (by kernel_rfl) (by kernel_rfl) (by kernel_rfl) (fun _ _ _ h => h) (Or.inl ⟨by rfl, ?_⟩) hS1 ?_
            rotate_left 1
            · intro u hu
              go_simp
              first | done | with_reducible rfl
            go_simp
            refine wpAnyH_take (i := 12) (v := ?_) rfl (by kernel_rfl) (by kernel_rfl) (by kernel_rfl) (fun _ _ _ h => h) (Or.inl ⟨by rfl, ?_⟩) hS1 ?_
            rotate_left 1
            · intro u hu
              go_simp
              first | done | with_reducible rfl
            go_simp
            refine wpAnyH_take (i := 13) (v := ?_) rfl (by kernel_rfl) (by kernel_rfl) (by kernel_rfl) (fun _ _ _ h => h) (Or.inl ⟨by rfl, ?_⟩) hS1 ?_
            rotate_left 1
            · intro u hu
              go_simp
              first | done | with_reducible rfl
            go_simp
            refine wpAnyH_take (i := 14) (v := undef) rfl (by kernel_rfl) (by kernel_rfl) (by kernel_rfl) (fun _ _ _ h => h) (Or.inr ⟨by rfl, rfl⟩) hS1 ?_
            go_simp
            refine wpAnyH_take (i := 15) (v := undef) rfl (by kernel_rfl) (by kernel_rfl) (by kernel_rfl) (fun _ _ _ h => h) (Or.inr ⟨by rfl, rfl⟩) hS1 ?_
            go_simp
            refine wpAnyH_take (i := 16) (v := undef) rfl (by kernel_rfl) (by kernel_rfl) (by kernel_rfl) (fun _ _ _ h => h) (Or.inr ⟨by rfl, rfl⟩) hS1 ?_
            go_simp
            refine wpAnyH_take (i := 17) (v := undef) rfl (by kernel_rfl) (by kernel_rfl) (by kernel_rfl) (fun _ _ _ h => h) (Or.inr ⟨by rfl, rfl⟩) hS1 ?_
            go_simp
            refine wpAnyH_take (i := 18) (v := undef) rfl (by kernel_rfl) (by kernel_rfl) (by kernel_rfl) (fun _ _ _ h => h) (Or.inr ⟨by rfl, rfl⟩) hS1 ?_
            go_simp
            refine wpAnyH_take (i := 19) (v := undef) rfl (by kernel_rfl) (by kernel_rfl) (by kernel_rfl) (fun _ _ _ h => h) (Or.inr ⟨by rfl, rfl⟩) hS1 ?_
            go_simp
            refine wpAnyH_take (i := 20) (v := ?_) rfl (by kernel_rfl) (by kernel_rfl) (by kernel_rfl) (fun _ _ _ h => h) (Or.inl ⟨by rfl, ?_⟩) hS1 ?_
            rotate_left 1
            · intro u hu
              go_simp
              first | done | with_reducible rfl
            go_simp
            refine wpAnyH_take (i := 21) (v := ?_) rfl (by kernel_rfl) (by kernel_rfl) (by kernel_rfl) (fun _ _ _ h => h) (Or.inl ⟨by rfl, ?_⟩) hS1 ?_
            rotate_left 1
            · intro u hu
              go_simp
              first | done | with_reducible rfl
            go_simp
            refine wpAnyH_take (i := 22) (v := ?_) rfl (by kernel_rfl) (by kernel_rfl) (by kernel_rfl) (fun _ _ _ h => h) (Or.inl ⟨by rfl, ?_⟩) hS1 ?_
            rotate_left 1
            · intro u hu
              go_simp
              first | done | with_reducible rfl
            go_simp
            refine wpAnyH_take (i := 23) (v := ?_) rfl (by kernel_rfl) (by kernel_rfl) (by kernel_rfl) (fun _ _ _ h => h) (Or.inl ⟨by rfl, ?_⟩) hS1 ?_
            rotate_left 1
            · intro u hu
              go_simp
              first | done | with_reducible rfl
            go_simp
            refine wpAnyH_take (i := 24) (v := ?_) rfl (by kernel_rfl) (by kernel_rfl) (by kernel_rfl) (fun _ _ _ h => h) (Or.inl ⟨by rfl, ?_⟩) hS1 ?_
            rotate_left 1
            · intro u hu
              go_simp
              first | done | with_reducible rfl
            go_simp
            refine wpAnyH_take (i := 25) (v := ?_) rfl (by kernel_rfl) (by kernel_rfl) (by kernel_rfl) (fun _ _ _ h => h) (Or.inl ⟨by rfl, ?_⟩) hS1 ?_
            rotate_left 1
            · intro u hu
              go_simp
              first | done | with_reducible rfl
            go_simp
            refine wpAnyH_take (i := 26) (v := ?_) rfl (by kernel_rfl) (by kernel_rfl) (by kernel_rfl) (fun _ _ _ h => h) (Or.inl ⟨by rfl, ?_⟩) hS1 ?_
            rotate_left 1
            · intro u hu
              go_simp
              first | done | with_reducible rfl
            go_simp
            refine wpAnyH_take (i := 27) (v := ?_) rfl (by kernel_rfl) (by kernel_rfl) (by kernel_rfl) (fun _ _ _ h => h) (Or.inl ⟨by rfl, ?_⟩) hS1 ?_
            rotate_left 1
            · intro u hu
              have q1 := (hu.cell (p := ⟨b, off + j, none⟩) HB9.out).trans D9.out
              go_simp
              first | done | with_reducible rfl
            go_simp
            refine wpAnyH_take (i := 29) (v := ?_) rfl (by kernel_rfl) (by kernel_rfl) (by kernel_rfl) (fun _ _ _ h => h) (Or.inl ⟨by rfl, ?_⟩) hS1 ?_
            rotate_left 1
            · intro u hu
              go_simp
              first | done | with_reducible rfl
            go_simp
            refine wpAnyH_take (i := 30) (v := ?_) rfl (by kernel_rfl) (by kernel_rfl) (by kernel_rfl) (fun _ _ _ h => h) (Or.inl ⟨by rfl, ?_⟩) hS1 ?_
            rotate_left 1
            · intro u hu
              go_simp
              first | done | with_reducible rfl
            go_simp
            refine wpAnyH_take (i := 31) (v := ?_) rfl (by kernel_rfl) (by kernel_rfl) (by kernel_rfl) (fun _ _ _ h => h) (Or.inl ⟨by rfl, ?_⟩) hS1 ?_
            rotate_left 1
            · intro u hu
              go_simp
              first | done | with_reducible rfl
            go_simp
            refine wpAnyH_take (i := 32) (v := ?_) rfl (by kernel_rfl) (by kernel_rfl) (by kernel_rfl) (fun _ _ _ h => h) (Or.inl ⟨by rfl, ?_⟩) hS1 ?_
            rotate_left 1
            · intro u hu
              go_simp
              first | done | with_reducible rfl
            go_simp
            refine wpAnyH_take (i := 33) (v := ?_) rfl (by kernel_rfl) (by kernel_rfl) (by kernel_rfl) (fun _ _ _ h => h) (Or.inl ⟨by rfl, ?_⟩) hS1 ?_
            rotate_left 1
            · intro u hu
              have q1 := (hu.cell (p := ⟨b, off + j, none⟩) HB9.out).trans D9.out
              go_simp
              first | done | with_reducible rfl
            go_simp
            refine wpAnyH_oneG 28 (by kernel_rfl) rfl (by rfl) ?_
            go_wp2_with fail
            (with_reducible refine (HH0.out _ hS1).mono ?_)
            rintro e22 u2 ⟨rfl, hS2⟩
            refine ⟨hS2, ?_⟩
            clear hS1
            refine wpAnyH_oneG 34 (by kernel_rfl) rfl (by rfl) ?_
            go_wp2_with fail
            (with_reducible refine (HR0.out _ hS2).mono ?_)
            rintro e23 u3 ⟨rfl, hS3⟩
            refine ⟨hS3, ?_⟩
            clear hS2
            refine wpAnyH_take (i := 35) (v := ?_) rfl (by kernel_rfl) (by kernel_rfl) (by kernel_rfl) (fun _ _ _ h => h) (Or.inl ⟨by rfl, ?_⟩) hS3 ?_
            rotate_left 1
            · intro u hu
              go_simp
              first | done | with_reducible rfl
            go_simp
            refine wpAnyH_take (i := 36) (v := ?_) rfl (by kernel_rfl) (by kernel_rfl) (by kernel_rfl) (fun _ _ _ h => h) (Or.inl ⟨by rfl, ?_⟩) hS3 ?_
            rotate_left 1
            · intro u hu
              go_simp
              first | done | with_reducible rfl
            go_simp
            refine wpAnyH_take (i := 37) (v := ?_) rfl (by kernel_rfl) (by kernel_rfl) (by kernel_rfl) (fun _ _ _ h => h) (Or.inl ⟨by rfl, ?_⟩) hS3 ?_
            rotate_left 1
            · intro u hu
              go_simp
              first | done | with_reducible rfl
            go_simp
            refine wpAnyH_take (i := 38) (v := ?_) rfl (by kernel_rfl) (by kernel_rfl) (by kernel_rfl) (fun _ _ _ h => h) (Or.inl ⟨by rfl, ?_⟩) hS3 ?_
            rotate_left 1
            · intro u hu
              go_simp
              first | done | with_reducible rfl
            go_simp
            refine wpAnyH_take (i := 39) (v := ?_) rfl (by kernel_rfl) (by kernel_rfl) (by kernel_rfl) (fun _ _ _ h => h) (Or.inl ⟨by rfl, ?_⟩) hS3 ?_
            rotate_left 1
            · intro u hu
              go_simp
              first | done | with_reducible rfl
            go_simp
            refine wpAnyH_take (i := 40) (v := ?_) rfl (by kernel_rfl) (by kernel_rfl) (by kernel_rfl) (fun _ _ _ h => h) (Or.inl ⟨by rfl, ?_⟩) hS3 ?_
            rotate_left 1
            · intro u hu
              go_simp
              first | done | with_reducible rfl
            go_simp
            refine wpAnyH_take (i := 41) (v := ?_) rfl (by kernel_rfl) (by kernel_rfl) (by kernel_rfl) (fun _ _ _ h => h) (Or.inl ⟨by rfl, ?_⟩) hS3 ?_
            rotate_left 1
            · intro u hu
              go_simp
              first | done | with_reducible rfl
            go_simp
            refine wpAnyH_take (i := 42) (v := ?_) rfl (by kernel_rfl) (by kernel_rfl) (by kernel_rfl) (fun _ _ _ h => h) (Or.inl ⟨by rfl, ?_⟩) hS3 ?_
            rotate_left 1
            · intro u hu
              have q1 := (hu.cell (p := ⟨b, off + j, none⟩) HB9.out).trans D9.out
              go_simp
              first | done | with_reducible rfl
            go_simp
            refine wpAnyH_take (i := 43) (v := ?_) rfl (by kernel_rfl) (by kernel_rfl) (by kernel_rfl) (fun _ _ _ h => h) (Or.inl ⟨by rfl, ?_⟩) hS3 ?_
            rotate_left 1
            · intro u hu
              go_simp
              first | done | with_reducible rfl
            go_simp
            refine wpAnyH_take (i := 45) (v := ?_) rfl (by kernel_rfl) (by kernel_rfl) (by kernel_rfl) (fun _ _ _ h => h) (Or.inl ⟨by rfl, ?_⟩) hS3 ?_
            rotate_left 1
            · intro u hu
              go_simp
              first | done | with_reducible rfl
            go_simp
            refine wpAnyH_take (i := 46) (v := ?_) rfl (by kernel_rfl) (by kernel_rfl) (by kernel_rfl) (fun _ _ _ h => h) (Or.inl ⟨by rfl, ?_⟩) hS3 ?_
            rotate_left 1
            · intro u hu
              go_simp
              first | done | with_reducible rfl
            go_simp
            refine wpAnyH_take (i := 47) (v := ?_) rfl (by kernel_rfl) (by kernel_rfl) (by kernel_rfl) (fun _ _ _ h => h) (Or.inl ⟨by rfl, ?_⟩) hS3 ?_
            rotate_left 1
            · intro u hu
              go_simp
              first | done | with_reducible rfl
            go_simp
            refine wpAnyH_take (i := 48) (v := ?_) rfl (by kernel_rfl) (by kernel_rfl) (by kernel_rfl) (fun _ _ _ h => h) (Or.inl ⟨by rfl, ?_⟩) hS3 ?_
            rotate_left 1
            · intro u hu
              go_simp
              first | done | with_reducible rfl
            go_simp
            refine wpAnyH_take (i := 49) (v := ?_) rfl (by kernel_rfl) (by kernel_rfl) (by kernel_rfl) (fun _ _ _ h => h) (Or.inl ⟨by rfl, ?_⟩) hS3 ?_
            rotate_left 1
            · intro u hu
              have q1 := (hu.cell (p := ⟨b, off + j, none⟩) HB9.out).trans D9.out
              go_simp
              first | done | with_reducible rfl
            go_simp
            refine wpAnyH_take (i := 50) (v := ?_) rfl (by kernel_rfl) (by kernel_rfl) (by kernel_rfl) (fun _ _ _ h => h) (Or.inl ⟨by rfl, ?_⟩) hS3 ?_
            rotate_left 1
            · intro u hu
              go_simp
              first | done | with_reducible rfl
            go_simp
            refine wpAnyH_oneG 44 (by kernel_rfl) rfl (by rfl) ?_
            go_wp2_with fail
            (with_reducible refine (HH1.out _ hS3).mono ?_)
            rintro e24 u4 ⟨rfl, hS4⟩
            refine ⟨hS4, ?_⟩
            clear hS3
            refine wpAnyH_oneG 51 (by kernel_rfl) rfl (by rfl) ?_
            go_wp2_with fail
            (with_reducible refine (HR1.out _ hS4).mono ?_)
            rintro e25 u5 ⟨rfl, hS5⟩
            refine ⟨hS5, ?_⟩
            clear hS4
            refine wpAnyH_take (i := 52) (v := ?_) rfl (by kernel_rfl) (by kernel_rfl) (by kernel_rfl) (fun _ _ _ h => h) (Or.inl ⟨by rfl, ?_⟩) hS5 ?_
            rotate_left 1
            · intro u hu
              go_simp
              first | done | with_reducible rfl
            go_simp
            refine wpAnyH_take (i := 53) (v := ?_) rfl (by kernel_rfl) (by kernel_rfl) (by kernel_rfl) (fun _ _ _ h => h) (Or.inl ⟨by rfl, ?_⟩) hS5 ?_
            rotate_left 1
            · intro u hu
              go_simp
              first | done | with_reducible rfl
            go_simp
            refine wpAnyH_done (by kernel_rfl) ?_ _
            have U9 := Lib.hid hS5
            clear hS5
            go_wp2_with fail
            go_loopw [16] (fun kk wx => ∃ (t : Nat) (l' : RL), t ≤ 0 ∧ kk = .int .i64 t ∧ Hid (OwnR wx wc.heap.size (.slice A1 0 c8) 0 l') ∧ Hid (Below wc.heap.size wc wx)) (fun kk _ => 0 - (intOf kk).toNat)
            case atStart => exact ⟨0, s'.l, by omega, rfl, O1.out.below U9.out, B9.out.trans (U9.out.mono B9.out.size)⟩
            case round =>
              obtain ⟨t, l', ht, rfl, OT, BT⟩ := hrel
              by_cases h9 : t < 0
              · exact absurd h9 (Nat.not_lt_zero _)
              · go_wp2_with fail
                go_roundw
                case rel => first | exact ⟨j + 1, s', by omega, by go_num, P'.out.below BT.out, B'.out.trans (BT.out.mono B'.out.size)⟩ | ((repeat apply Exists.intro); exact ⟨⟨j + 1, s', by omega, by go_num, P'.out.below BT.out, B'.out.trans (BT.out.mono B'.out.size)⟩, rfl⟩)
                case measure => first | (simp [intOf]; done) | (simp [intOf]; omega)
          · rw [hhi, hq1] at HLG
            have D2 := Lib.hid hd2
            have HB2 := Lib.hid hg2
            have t1 : (0 : Int) < (q : Int) := by omega
            have t2 : decide ((0 : Int) < (q : Int)) = true := decide_eq_true t1
            have t3 : ((hi : Int) != (hi : Int)) = false := by simp
            clear hhi hd2 hg2
            go_wp2_with fail
            (with_reducible refine HLG.out.mono ?_)
            rintro e10 w10 ⟨rfl, rfl⟩
            clear HLG
            go_wp2_with fail
            refine wp_held (S := fun u => Below w9.heap.size w9 u) (by kernel_rfl) ?_
            have hS : Below w9.heap.size w9 w9.drew := below_draw (Below.refl _ _)
            refine wpAnyH_take (i := 0) (v := ?_) rfl (by kernel_rfl) (by kernel_rfl) (by kernel_rfl) (fun _ _ _ h => h) (Or.inl ⟨by rfl, ?_⟩) hS ?_
            rotate_left 1
            · intro u hu
              go_simp
              first | done | with_reducible rfl
            go_simp
            refine wpAnyH_take (i := 1) (v := ?_) rfl (by kernel_rfl) (by kernel_rfl) (by kernel_rfl) (fun _ _ _ h => h) (Or.inl ⟨by rfl, ?_⟩) hS ?_
            rotate_left 1
            · intro u hu
              go_simp
              first | done | with_reducible rfl
            go_simp
            refine wpAnyH_oneG 2 (by kernel_rfl) rfl (by rfl) ?_
            go_wp2_with fail
            (with_reducible refine (HSR.out _ hS).mono ?_)
            rintro e21 u1 ⟨rfl, hS1⟩
            refine ⟨hS1, ?_⟩
            clear hS
            refine wpAnyH_take (i := 3) (v := ?_) rfl (by kernel_rfl) (by kernel_rfl) (by kernel_rfl) (fun _ _ _ h => h) (Or.inl ⟨by rfl, ?_⟩) hS1 ?_
            rotate_left 1
            · intro u hu
              go_simp
              first | done | with_reducible rfl
            go_simp
            refine wpAnyH_take (i := 4) (v := ?_) rfl (by kernel_rfl) (by kernel_rfl) (by kernel_rfl) (fun _ _ _ h => h) (Or.inl ⟨by rfl, ?_⟩) hS1 ?_
            rotate_left 1
            · intro u hu
              go_simp
              first | done | with_reducible rfl
            go_simp
            refine wpAnyH_take (i := 5) (v := ?_) rfl (by kernel_rfl) (by kernel_rfl) (by kernel_rfl) (fun _ _ _ h => h) (Or.inl ⟨by rfl, ?_⟩) hS1 ?_
            rotate_left 1
            · intro u hu
              go_simp
              first | done | with_reducible rfl
            go_simp
            refine wpAnyH_take (i := 6) (v := ?_) rfl (by kernel_rfl) (by kernel_rfl) (by kernel_rfl) (fun _ _ _ h => h) (Or.inl ⟨by rfl, ?_⟩) hS1 ?_
            rotate_left 1
            · intro u hu
              go_simp
              first | done | with_reducible rfl
            go_simp
            refine wpAnyH_take (i := 7) (v := ?_) rfl (by kernel_rfl) (by kernel_rfl) (by kernel_rfl) (fun _ _ _ h => h) (Or.inl ⟨by rfl, ?_⟩) hS1 ?_
            rotate_left 1
            · intro u hu
              go_simp
              first | done | with_reducible rfl
            go_simp
            refine wpAnyH_take (i := 8) (v := ?_) rfl (by kernel_rfl) (by kernel_rfl) (by kernel_rfl) (fun _ _ _ h => h) (Or.inl ⟨by rfl, ?_⟩) hS1 ?_
            rotate_left 1
            · intro u hu
              go_simp
              first | done | with_reducible rfl
            go_simp
            refine wpAnyH_take (i := 9) (v := ?_) rfl (by kernel_rfl) (by kernel_rfl) (by kernel_rfl) (fun _ _ _ h => h) (Or.inl ⟨by rfl, ?_⟩) hS1 ?_
            rotate_left 1
            · intro u hu
              go_simp
              first | done | with_reducible rfl
            go_simp
            refine wpAnyH_take (i := 10) (v := ?_) rfl (by kernel_rfl) (by kernel_rfl) (by kernel_rfl) (fun _ _ _ h => h) (Or.inl ⟨by rfl, ?_⟩) hS1 ?_
            rotate_left 1
            · intro u hu
              go_simp
              first | done | with_reducible rfl
            go_simp
            refine wpAnyH_take (i := 11) (v := ?_) rfl (by kernel_rfl) (by kernel_rfl) (by kernel_rfl) (fun _ _ _ h => h) (Or.inl ⟨by rfl, ?_⟩) hS1 ?_
            rotate_left 1
            · intro u hu
              go_simp
              first | done | with_reducible rfl
            go_simp
            refine wpAnyH_take (i := 12) (v := ?_) rfl (by kernel_rfl) (by kernel_rfl) (by kernel_rfl) (fun _ _ _ h => h) (Or.inl ⟨by rfl, ?_⟩) hS1 ?_
            rotate_left 1
            · intro u hu
              go_simp
              first | done | with_reducible rfl
            go_simp
            refine wpAnyH_take (i := 13) (v := ?_) rfl (by kernel_rfl) (by kernel_rfl) (by kernel_rfl) (fun _ _ _ h => h) (Or.inl ⟨by rfl, ?_⟩) hS1 ?_
            rotate_left 1
            · intro u hu
              go_simp
              first | done | with_reducible rfl
            go_simp
            refine wpAnyH_take (i := 14) (v := ?_) rfl (by kernel_rfl) (by kernel_rfl) (by kernel_rfl) (fun _ _ _ h => h) (Or.inl ⟨by rfl, ?_⟩) hS1 ?_
            rotate_left 1
            · intro u hu
              go_simp
              first | done | with_reducible rfl
            go_simp
            refine wpAnyH_take (i := 15) (v := ?_) rfl (by kernel_rfl) (by kernel_rfl) (by kernel_rfl) (fun _ _ _ h => h) (Or.inl ⟨by rfl, ?_⟩) hS1 ?_
            rotate_left 1
            · intro u hu
              go_simp
              first | done | with_reducible rfl
            go_simp
            refine wpAnyH_take (i := 16) (v := ?_) rfl (by kernel_rfl) (by kernel_rfl) (by kernel_rfl) (fun _ _ _ h => h) (Or.inl ⟨by rfl, ?_⟩) hS1 ?_
            rotate_left 1
            · intro u hu
              go_simp
              first | done | with_reducible rfl
            go_simp
            refine wpAnyH_take (i := 17) (v := ?_) rfl (by kernel_rfl) (by kernel_rfl) (by kernel_rfl) (fun _ _ _ h => h) (Or.inl ⟨by rfl, ?_⟩) hS1 ?_
            rotate_left 1
            · intro u hu
              go_simp
              first | done | with_reducible rfl
            go_simp
            refine wpAnyH_take (i := 18) (v := ?_) rfl (by kernel_rfl) (by kernel_rfl) (by kernel_rfl) (fun _ _ _ h => h) (Or.inl ⟨by rfl, ?_⟩) hS1 ?_
            rotate_left 1
            · intro u hu
              have q1 := (hu.cell (p := ⟨g2, 1, none⟩) HB2.out).trans D2.out
              go_simp
              first | done | with_reducible rfl
            go_simp
            refine wpAnyH_take (i := 19) (v := ?_) rfl (by kernel_rfl) (by kernel_rfl) (by kernel_rfl) (fun _ _ _ h => h) (Or.inl ⟨by rfl, ?_⟩) hS1 ?_
            rotate_left 1
            · intro u hu
              go_simp
              first | done | with_reducible rfl
            go_simp
            refine wpAnyH_take (i := 20) (v := ?_) rfl (by kernel_rfl) (by kernel_rfl) (by kernel_rfl) (fun _ _ _ h => h) (Or.inl ⟨by rfl, ?_⟩) hS1 ?_
            rotate_left 1
            · intro u hu
              go_simp
              first | done | with_reducible rfl
            go_simp
            refine wpAnyH_take (i := 21) (v := ?_) rfl (by kernel_rfl) (by kernel_rfl) (by kernel_rfl) (fun _ _ _ h => h) (Or.inl ⟨by rfl, ?_⟩) hS1 ?_
            rotate_left 1
            · intro u hu
              go_simp
              first | done | with_reducible rfl
            go_simp
            refine wpAnyH_take (i := 22) (v := ?_) rfl (by kernel_rfl) (by kernel_rfl) (by kernel_rfl) (fun _ _ _ h => h) (Or.inl ⟨by rfl, ?_⟩) hS1 ?_
            rotate_left 1
            · intro u hu
              go_simp
              first | done | with_reducible rfl
            go_simp
            refine wpAnyH_take (i := 23) (v := ?_) rfl (by kernel_rfl) (by kernel_rfl) (by kernel_rfl) (fun _ _ _ h => h) (Or.inl ⟨by rfl, ?_⟩) hS1 ?_
            rotate_left 1
            · intro u hu
              go_simp
              first | done | with_reducible rfl
            go_simp
            refine wpAnyH_take (i := 24) (v := ?_) rfl (by kernel_rfl) (by kernel_rfl) (by kernel_rfl) (fun _ _ _ h => h) (Or.inl ⟨by rfl, ?_⟩) hS1 ?_
            rotate_left 1
            · intro u hu
              go_simp
              first | done | with_reducible rfl
            go_simp
            refine wpAnyH_take (i := 25) (v := ?_) rfl (by kernel_rfl) (by kernel_rfl) (by kernel_rfl) (fun _ _ _ h => h) (Or.inl ⟨by rfl, ?_⟩) hS1 ?_
            rotate_left 1
            · intro u hu
              go_simp
              first | done | with_reducible rfl
            go_simp
            refine wpAnyH_take (i := 26) (v := ?_) rfl (by kernel_rfl) (by kernel_rfl) (by kernel_rfl) (fun _ _ _ h => h) (Or.inl ⟨by rfl, ?_⟩) hS1 ?_
            rotate_left 1
            · intro u hu
              go_simp
              first | done | with_reducible rfl
            go_simp
            refine wpAnyH_take (i := 27) (v := ?_) rfl (by kernel_rfl) (by kernel_rfl) (by kernel_rfl) (fun _ _ _ h => h) (Or.inl ⟨by rfl, ?_⟩) hS1 ?_
            rotate_left 1
            · intro u hu
              have q1 := (hu.cell (p := ⟨b, off + j, none⟩) HB9.out).trans D9.out
              go_simp
              first | done | with_reducible rfl
            go_simp
            refine wpAnyH_take (i := 29) (v := ?_) rfl (by kernel_rfl) (by kernel_rfl) (by kernel_rfl) (fun _ _ _ h => h) (Or.inl ⟨by rfl, ?_⟩) hS1 ?_
            rotate_left 1
            · intro u hu
              go_simp
              first | done | with_reducible rfl
            go_simp
            refine wpAnyH_take (i := 30) (v := ?_) rfl (by kernel_rfl) (by kernel_rfl) (by kernel_rfl) (fun _ _ _ h => h) (Or.inl ⟨by rfl, ?_⟩) hS1 ?_
            rotate_left 1
            · intro u hu
              go_simp
              first | done | with_reducible rfl
            go_simp
            refine wpAnyH_take (i := 31) (v := ?_) rfl (by kernel_rfl) (by kernel_rfl) (by kernel_rfl) (fun _ _ _ h => h) (Or.inl ⟨by rfl, ?_⟩) hS1 ?_
            rotate_left 1
            · intro u hu
              go_simp
              first | done | with_reducible rfl
            go_simp
            refine wpAnyH_take (i := 32) (v := ?_) rfl (by kernel_rfl) (by kernel_rfl) (by kernel_rfl) (fun _ _ _ h => h) (Or.inl ⟨by rfl, ?_⟩) hS1 ?_
            rotate_left 1
            · intro u hu
              go_simp
              first | done | with_reducible rfl
            go_simp
            refine wpAnyH_take (i := 33) (v := ?_) rfl (by kernel_rfl) (by kernel_rfl) (by kernel_rfl) (fun _ _ _ h => h) (Or.inl ⟨by rfl, ?_⟩) hS1 ?_
            rotate_left 1
            · intro u hu
              have q1 := (hu.cell (p := ⟨b, off + j, none⟩) HB9.out).trans D9.out
              go_simp
              first | done | with_reducible rfl
            go_simp
            refine wpAnyH_oneG 28 (by kernel_rfl) rfl (by rfl) ?_
            go_wp2_with fail
            (with_reducible refine (HH0.out _ hS1).mono ?_)
            rintro e22 u2 ⟨rfl, hS2⟩
            refine ⟨hS2, ?_⟩
            clear hS1
            refine wpAnyH_oneG 34 (by kernel_rfl) rfl (by rfl) ?_
            go_wp2_with fail
            (with_reducible refine (HR0.out _ hS2).mono ?_)
            rintro e23 u3 ⟨rfl, hS3⟩
            refine ⟨hS3, ?_⟩
            clear hS2
            refine wpAnyH_take (i := 35) (v := ?_) rfl (by kernel_rfl) (by kernel_rfl) (by kernel_rfl) (fun _ _ _ h => h) (Or.inl ⟨by rfl, ?_⟩) hS3 ?_
            rotate_left 1
            · intro u hu
              go_simp
              first | done | with_reducible rfl
            go_simp
            refine wpAnyH_take (i := 36) (v := ?_) rfl (by kernel_rfl) (by kernel_rfl) (by kernel_rfl) (fun _ _ _ h => h) (Or.inl ⟨by rfl, ?_⟩) hS3 ?_
            rotate_left 1
            · intro u hu
              go_simp
              first | done | with_reducible rfl
            go_simp
            refine wpAnyH_take (i := 37) (v := ?_) rfl (by kernel_rfl) (by kernel_rfl) (by kernel_rfl) (fun _ _ _ h => h) (Or.inl ⟨by rfl, ?_⟩) hS3 ?_
            rotate_left 1
            · intro u hu
              go_simp
              first | done | with_reducible rfl
            go_simp
            refine wpAnyH_take (i := 38) (v := ?_) rfl (by kernel_rfl) (by kernel_rfl) (by kernel_rfl) (fun _ _ _ h => h) (Or.inl ⟨by rfl, ?_⟩) hS3 ?_
            rotate_left 1
            · intro u hu
              go_simp
              first | done | with_reducible rfl
            go_simp
            refine wpAnyH_take (i := 39) (v := ?_) rfl (by kernel_rfl) (by kernel_rfl) (by kernel_rfl) (fun _ _ _ h => h) (Or.inl ⟨by rfl, ?_⟩) hS3 ?_
            rotate_left 1
            · intro u hu
              go_simp
              first | done | with_reducible rfl
            go_simp
            refine wpAnyH_take (i := 40) (v := ?_) rfl (by kernel_rfl) (by kernel_rfl) (by kernel_rfl) (fun _ _ _ h => h) (Or.inl ⟨by rfl, ?_⟩) hS3 ?_
            rotate_left 1
            · intro u hu
              go_simp
              first | done | with_reducible rfl
            go_simp
            refine wpAnyH_take (i := 41) (v := ?_) rfl (by kernel_rfl) (by kernel_rfl) (by kernel_rfl) (fun _ _ _ h => h) (Or.inl ⟨by rfl, ?_⟩) hS3 ?_
            rotate_left 1
            · intro u hu
              go_simp
              first | done | with_reducible rfl
            go_simp
            refine wpAnyH_take (i := 42) (v := ?_) rfl (by kernel_rfl) (by kernel_rfl) (by kernel_rfl) (fun _ _ _ h => h) (Or.inl ⟨by rfl, ?_⟩) hS3 ?_
            rotate_left 1
            · intro u hu
              have q1 := (hu.cell (p := ⟨b, off + j, none⟩) HB9.out).trans D9.out
              go_simp
              first | done | with_reducible rfl
            go_simp
            refine wpAnyH_take (i := 43) (v := ?_) rfl (by kernel_rfl) (by kernel_rfl) (by kernel_rfl) (fun _ _ _ h => h) (Or.inl ⟨by rfl, ?_⟩) hS3 ?_
            rotate_left 1
            · intro u hu
              go_simp
              first | done | with_reducible rfl
            go_simp
            refine wpAnyH_take (i := 45) (v := ?_) rfl (by kernel_rfl) (by kernel_rfl) (by kernel_rfl) (fun _ _ _ h => h) (Or.inl ⟨by rfl, ?_⟩) hS3 ?_
            rotate_left 1
            · intro u hu
              go_simp
              first | done | with_reducible rfl
            go_simp
            refine wpAnyH_take (i := 46) (v := ?_) rfl (by kernel_rfl) (by kernel_rfl) (by kernel_rfl) (fun _ _ _ h => h) (Or.inl ⟨by rfl, ?_⟩) hS3 ?_
            rotate_left 1
            · intro u hu
              go_simp
              first | done | with_reducible rfl
            go_simp
            refine wpAnyH_take (i := 47) (v := ?_) rfl (by kernel_rfl) (by kernel_rfl) (by kernel_rfl) (fun _ _ _ h => h) (Or.inl ⟨by rfl, ?_⟩) hS3 ?_
            rotate_left 1
            · intro u hu
              go_simp
              first | done | with_reducible rfl
            go_simp
            refine wpAnyH_take (i := 48) (v := ?_) rfl (by kernel_rfl) (by kernel_rfl) (by kernel_rfl) (fun _ _ _ h => h) (Or.inl ⟨by rfl, ?_⟩) hS3 ?_
            rotate_left 1
            · intro u hu
              go_simp
              first | done | with_reducible rfl
            go_simp
            refine wpAnyH_take (i := 49) (v := ?_) rfl (by kernel_rfl) (by kernel_rfl) (by kernel_rfl) (fun _ _ _ h => h) (Or.inl ⟨by rfl, ?_⟩) hS3 ?_
            rotate_left 1
            · intro u hu
              have q1 := (hu.cell (p := ⟨b, off + j, none⟩) HB9.out).trans D9.out
              go_simp
              first | done | with_reducible rfl
            go_simp
            refine wpAnyH_take (i := 50) (v := ?_) rfl (by kernel_rfl) (by kernel_rfl) (by kernel_rfl) (fun _ _ _ h => h) (Or.inl ⟨by rfl, ?_⟩) hS3 ?_
            rotate_left 1
            · intro u hu
              go_simp
              first | done | with_reducible rfl
            go_simp
            refine wpAnyH_oneG 44 (by kernel_rfl) rfl (by rfl) ?_
            go_wp2_with fail
            (with_reducible refine (HH1.out _ hS3).mono ?_)
            rintro e24 u4 ⟨rfl, hS4⟩
            refine ⟨hS4, ?_⟩
            clear hS3
            refine wpAnyH_oneG 51 (by kernel_rfl) rfl (by rfl) ?_
            go_wp2_with fail
            (with_reducible refine (HR1.out _ hS4).mono ?_)
            rintro e25 u5 ⟨rfl, hS5⟩
            refine ⟨hS5, ?_⟩
            clear hS4
            refine wpAnyH_take (i := 52) (v := ?_) rfl (by kernel_rfl) (by kernel_rfl) (by kernel_rfl) (fun _ _ _ h => h) (Or.inl ⟨by rfl, ?_⟩) hS5 ?_
            rotate_left 1
            · intro u hu
              go_simp
              first | done | with_reducible rfl
            go_simp
            refine wpAnyH_take (i := 53) (v := ?_) rfl (by kernel_rfl) (by kernel_rfl) (by kernel_rfl) (fun _ _ _ h => h) (Or.inl ⟨by rfl, ?_⟩) hS5 ?_
            rotate_left 1
            · intro u hu
              go_simp
              first | done | with_reducible rfl
            go_simp
            refine wpAnyH_done (by kernel_rfl) ?_ _
            have U9 := Lib.hid hS5
            clear hS5
            go_wp2_with fail
            go_loopw [16] (fun kk wx => ∃ (t : Nat) (l' : RL), t ≤ q ∧ kk = .int .i64 t ∧ Hid (OwnR wx wc.heap.size (.slice A1 q c8) q l') ∧ Hid (Below wc.heap.size wc wx)) (fun kk _ => q - (intOf kk).toNat)
            case atStart => exact ⟨0, s'.l, by omega, rfl, O1.out.below U9.out, B9.out.trans (U9.out.mono B9.out.size)⟩
            case round =>
              obtain ⟨t, l', ht, rfl, OT, BT⟩ := hrel
              by_cases h9 : t < q
              · obtain ⟨g1, rfl⟩ : ∃ g1, A1 = some ⟨g1, 0, none⟩ := by
                  obtain ⟨g1, off1, e, _⟩ := OT.out.sl.2 (by omega)
                  subst e
                  exact ⟨g1, by rw [OT.out.spot _ rfl]⟩
                have hg1 := OT.out.blk _ rfl
                have HG1 := Lib.hid hg1
                have z1 : (t : Int) < (q : Int) := by omega
                have z2 : t < q := h9
                clear hg1
                go_wp2_with ((with_reducible refine wpList_put_own rfl 27 (.tmp 182) _ rfl g1 (t * 2) (.int .u64 77) ?hx ?hy ?hv ?h1 OT.out size_u64 ?hl ?_); (case hx => with_unfolding_all rfl); (case hy => with_unfolding_all rfl); (case hv => rfl); (case h1 => rfl); (case hl => omega); intro O7)
                have o8 := Lib.hid (OwnR.put1 OT.out t 77 h9)
                have B8 := Lib.hid (BT.out.trans (O7.out.below BT.out.size HG1.out.1))
                go_roundw
                case rel => first | exact ⟨t + 1, _, by omega, by go_num, o8, B8⟩ | ((repeat apply Exists.intro); exact ⟨⟨t + 1, _, by omega, by go_num, o8, B8⟩, rfl⟩)
                case measure => first | (simp [intOf]; done) | (simp [intOf]; omega)
              · go_wp2_with fail
                go_roundw
                case rel => first | exact ⟨j + 1, s', by omega, by go_num, P'.out.below BT.out, B'.out.trans (BT.out.mono B'.out.size)⟩ | ((repeat apply Exists.intro); exact ⟨⟨j + 1, s', by omega, by go_num, P'.out.below BT.out, B'.out.trans (BT.out.mono B'.out.size)⟩, rfl⟩)
                case measure => first | (simp [intOf]; done) | (simp [intOf]; omega)
    · obtain rfl : j = n := by omega
      have hlt1 : ¬ (j : Int) < (j : Int) := by omega
      have HX : Hid (∀ u, Below w.heap.size w u → Calls Try.prog 8 #[] u fun e w' => e = .returned (.bool true) ∧ Below w.heap.size w w') := fun u hu => (awake_any u).mono fun e w' h => ⟨h.1, hu.trans (h.2.mono hu.size)⟩
      go_wp2_with fail
      (with_reducible refine (HX.out _ B.out).mono ?_)
      rintro e5 w5 ⟨rfl, b5⟩
      go_wp2
      go_ret
      exact ⟨rfl, b5⟩
end Go.Proofs.Ytjbhhmjkdhkhaaa
