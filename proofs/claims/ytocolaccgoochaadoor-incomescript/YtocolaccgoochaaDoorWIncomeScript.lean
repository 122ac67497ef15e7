/-
  The law IncomeScript: whatever comes in, and is read, each call answers as a list of places does.
-/
import Derived.Test.YtocolaccgoochaaDoorIrE
namespace Go.Proofs.YtocolaccgoochaaDoor
open Go.RowKit Go.Lib
set_option linter.unusedVariables false

set_option maxRecDepth 8000 in
theorem script_long (z : Int) (A : Option Addr) (m d : Nat) (w : World) (hG : Glob w) (h : 40 < m ∨ 2000 < z) (hm : m ≤ maxLen) : Calls Tryd.prog 3 #[.int .i64 z, .slice A m d] w fun e w' => e = .returned (.bool true) ∧ Below w.heap.size w w' := by
  have AW := Lib.hid (awake_any w hG)
  rcases Nat.lt_or_ge 40 m with h1 | h1
  · have hlt : (40 : Int) < (m : Int) := by omega
    clear hG hm h
    go_enter Tryd.func3, Tryd.ntmps3
    go_wp2_with fail
    (with_reducible refine AW.out.mono ?_)
    rintro e1 w1 ⟨rfl, b1⟩
    go_wp2_with fail
    go_ret
    exact ⟨rfl, b1⟩
  · have hlt : ¬ (40 : Int) < (m : Int) := by omega
    have hlt2 : (2000 : Int) < z := by omega
    clear hG hm h
    go_enter Tryd.func3, Tryd.ntmps3
    go_wp2_with fail
    (with_reducible refine AW.out.mono ?_)
    rintro e1 w1 ⟨rfl, b1⟩
    go_wp2_with fail
    go_ret
    exact ⟨rfl, b1⟩
set_option maxRecDepth 8000 in
set_option maxHeartbeats 2000000 in
theorem script_none (z : Int) (A : Option Addr) (m d : Nat) (w : World) (hG : Glob w) (h : z < 0) (hm : m ≤ 40) : Calls Tryd.prog 3 #[.int .i64 z, .slice A m d] w fun e w' => e = .returned (.bool true) ∧ Below w.heap.size w w' := by
  have HG := Lib.hid hG
  have hlt : ¬ (40 : Int) < (m : Int) := by omega
  have hlt2 : ¬ (2000 : Int) < z := by omega
  have N1 := Lib.hid (new_no w z (.inl h))
  have N2 := Lib.hid (rnew_no w z (.inl h))
  have P1 := Lib.hid (put_nil w 0 none 0 0 true)
  have R1 := Lib.hid (read_nil w 1)
  clear hG hm h
  go_enter Tryd.func3, Tryd.ntmps3
  go_wp2_with fail
  (with_reducible refine N1.out.mono ?_)
  rintro e1 w1 ⟨rfl, rfl⟩
  go_wp2_with fail
  (with_reducible refine N2.out.mono ?_)
  rintro e2 w2 ⟨rfl, rfl⟩
  go_wp2_with fail
  (with_reducible refine P1.out.mono ?_)
  rintro e3 w3 ⟨rfl, rfl⟩
  go_wp2_with fail
  (with_reducible refine R1.out.mono ?_)
  rintro e4 w4 ⟨rfl, b4⟩
  have E1 := Lib.hid (ended_nil w4)
  have HB := Lib.hid b4
  clear b4
  go_wp2_with fail
  (with_reducible refine E1.out.mono ?_)
  rintro e5 w5 ⟨rfl, k5, rfl⟩
  have HB5 : Hid (Below w.heap.size w (w4.drewN k5)) := blw_drewN HB.out k5
  have AW := Lib.hid (awake_any _ (HG.out.below HB5.out HG.out.pos))
  go_wp2_with fail
  (with_reducible refine AW.out.mono ?_)
  rintro e6 w6 ⟨rfl, b6⟩
  have HB6 : Hid (Below w.heap.size w w6) := HB5.out.trans (b6.mono HB5.out.size)
  clear b6
  go_wp2_with fail
  go_ret
  exact ⟨rfl, HB6.out⟩
set_option maxRecDepth 8000 in
set_option maxHeartbeats 8000000 in
theorem script_any {A : Option Addr} {M m d : Nat} {q : Nat → ActB} {w : World} (hM : M ≤ 2000) (hq : InAB w A m q) (hm : m ≤ 40) (hG : Glob w) :
    Calls Tryd.prog 3 #[.int .i64 (M : Int), .slice A m d] w fun e w' => e = .returned (.bool true) ∧ Below w.heap.size w w' := by
  have HG := Lib.hid hG
  have QS := Lib.hid hq
  have P1 := Lib.hid (rn_new hG (Below.refl w.heap.size w) hG.pos (z := (M : Int)) M rfl (by omega))
  have b1 : ¬ (40 : Int) < (m : Int) := by omega
  have b2 : ¬ (2000 : Int) < (M : Int) := by omega
  clear hG hq
  go_enter Tryd.func3, Tryd.ntmps3
  go_wp2_with fail
  (with_reducible refine P1.out.mono ?_)
  rintro e1 w1 ⟨F1, g, rfl, R1, hb1, hF1⟩
  have HR1 := Lib.hid R1
  have P2 := Lib.hid (rnew_any w1 M (by omega))
  clear P1 R1 hb1 hF1
  go_wp2_with fail
  (with_reducible refine P2.out.mono ?_)
  rintro e2 w2 ⟨gr, rfl, R2, hb2⟩
  have K0 : Hid (Bo w w2 F1 g (fun k => w1.heap.size ≤ k ∧ k < w2.heap.size) gr M 0 InS.new) := ⟨HR1.out.below hb2, R2, fun k hk hk' => by
    have h1 := HR1.out.hi k hk
    have h2 := hk'.1
    omega, fun k hk' => Nat.le_trans HR1.out.size hk'.1, fun k hk' => hk'.2⟩
  clear P2 R2 hb2 HR1
  go_wp2_with fail
  go_loopw [7] (fun i wr => ∃ (j : Nat) (s : InS) (F F' : Nat → Prop) (N : Nat), i = .int .i64 (j : Int) ∧ j ≤ m ∧ N ≤ 40 * j ∧ Hid (Bo w wr F g F' gr M N s)) (fun i _ => m - (intOf i).toNat)
  case atStart => exact ⟨0, _, _, _, 0, rfl, Nat.zero_le _, Nat.zero_le _, K0⟩
  case round =>
    clear K0
    obtain ⟨j, s, F, F', N, rfl, hj, hN, K⟩ := hrel
    by_cases hjm : j < m
    · have hjl : ((j : Int) < (m : Int)) := by omega
      obtain ⟨ga, oa, rfl, hga, hcells⟩ := QS.out.1 (by omega)
      have ok := QS.out.2 j hjm
      have hcj := hcells j hjm
      obtain ⟨x, hx⟩ : ∃ x, q j = x := ⟨_, rfl⟩
      rw [hx] at ok hcj
      obtain ⟨xo, xr, xA, xn, xc, xl, xe⟩ := x
      have x0 : wr.cell? ⟨ga, oa + j * 4, none⟩ = some (.int .i64 xo) := (K.out.o.b.cell (p := ⟨ga, oa + j * 4, none⟩) hga).trans (hcj 0 _ rfl)
      have x1 : wr.cell? ⟨ga, oa + j * 4 + 1, none⟩ = some (.int .i64 xr) := (K.out.o.b.cell (p := ⟨ga, oa + j * 4 + 1, none⟩) hga).trans (hcj 1 _ rfl)
      have x2 : wr.cell? ⟨ga, oa + j * 4 + 2, none⟩ = some (.slice xA xn xc) := (K.out.o.b.cell (p := ⟨ga, oa + j * 4 + 2, none⟩) hga).trans (hcj 2 _ rfl)
      have x3 : wr.cell? ⟨ga, oa + j * 4 + 3, none⟩ = some (.bool xe) := (K.out.o.b.cell (p := ⟨ga, oa + j * 4 + 3, none⟩) hga).trans (hcj 3 _ rfl)
      obtain ⟨oks, okc, okm⟩ := ok
      have SL : Hid (Sl w w.heap.size xA xn xl) := oks
      have CC : Hid (xn ≤ xc ∧ xc ≤ maxLen) := ⟨okc, okm⟩
      have HN := Lib.hid hN
      clear oks okc okm hcj hcells hx hga hN
      go_upto_region 10 with fail
      obtain ⟨ux, hux⟩ : ∃ ux, wr.alloc (.cells #[.int .i64 xo, .int .i64 xr, .slice xA xn xc, .bool xe] 33) = ux := ⟨_, rfl⟩
      obtain ⟨xb, hxb⟩ : ∃ xb, wr.heap.size = xb := ⟨_, rfl⟩
      have bu : Below wr.heap.size wr ux := hux ▸ (Below.refl _ _).alloc (Nat.le_refl _) _
      have X : Hid (Rw ux xb 33 [.int .i64 xo, .int .i64 xr, .slice xA xn xc, .bool xe]) := by
        show ux.heap[xb]? = _
        rw [← hux, ← hxb]
        exact heap_alloc_new wr _
      have KX := Lib.hid (K.out.below bu)
      have GX : Hid (¬ F xb ∧ ¬ F' xb ∧ w.heap.size ≤ xb) := by
        refine ⟨fun hf => ?_, fun hf => ?_, ?_⟩
        · have := K.out.o.hi _ hf; omega
        · have := K.out.hi _ hf; omega
        · rw [← hxb]; exact K.out.o.size
      rw [hux, hxb]
      have z0 := X.out.cell 0 _ rfl
      have z1 := X.out.cell 1 _ rfl
      have z2 := X.out.cell 2 _ rfl
      have z3 := X.out.cell 3 _ rfl
      clear hux hxb bu K x0 x1 x2 x3
      by_cases hn : 40 < xn
      · have hn1 : (40 : Int) < (xn : Int) := by omega
        have AW := Lib.hid (awake_any ux KX.out.o.G)
        have bxn : (xn : Int) ≤ 9223372036854775807 := by have := CC.out; simp only [maxLen] at this; omega
        go_wp2_with fail
        (with_reducible refine AW.out.mono ?_)
        rintro e6 w6 ⟨rfl, b6⟩
        go_wp2_with fail
        go_ret
        exact ⟨rfl, KX.out.o.b.trans (b6.mono KX.out.o.b.size)⟩
      · have hn1 : ¬ (40 : Int) < (xn : Int) := by omega
        have CP := Lib.hid (copied_any xl xA xn xc ux.heap.size ux (KX.out.sl SL.out) (by omega))
        go_wp2_with fail
        (with_reducible refine CP.out.mono ?_)
        rintro e1 w1 ⟨A1, c1, rfl, ho1, hle1, hc1, hb1⟩
        have X1 := Lib.hid (X.out.below hb1)
        have K1 := Lib.hid (KX.out.below hb1)
        have O1 := Lib.hid ho1
        have HXB : Hid (¬ F xb ∧ ¬ F' xb ∧ xb < w1.heap.size) := ⟨GX.out.1, GX.out.2.1, X1.out.lt⟩
        have HA1 : Hid (∀ a, A1 = some a → ¬ F a.block ∧ ¬ F' a.block ∧ w.heap.size ≤ a.block ∧ a.block < w1.heap.size ∧ xb < a.block) := fun a ha => by
          have h1 := ho1.blk a ha
          have h2 := X.out.lt
          exact ⟨fun hf => by have := KX.out.o.hi _ hf; omega, fun hf => by have := KX.out.hi _ hf; omega, Nat.le_trans KX.out.o.size h1.1, h1.2, by omega⟩
        have HPt := Lib.hid (Bo.put (show Bo w w1.drew F g F' gr M N s from K1.out.drewN 1) (c := c1) (off := xo) (e := xe) ho1.sl (fun _ a ha => (HA1.out a ha).1) hle1 SL.out CC.out.1 (by have := HN.out; omega) (by omega))
        have U1 : Hid (ux.heap.size ≤ w1.heap.size) := hb1.size
        clear ho1 hle1 hc1 hb1 CP KX z0 z1 z2 z3
        go_wp2_with fail
        refine wp_held (S := fun u => Rw u xb 33 [.int .i64 xo, .int .i64 xr, .slice xA xn xc, .bool xe]) (by kernel_rfl) ?_
        have hS : Rw w1.drew xb 33 [.int .i64 xo, .int .i64 xr, .slice xA xn xc, .bool xe] := X1.out
        refine wpAnyH_take (i := 0) (v := ?_) rfl (by kernel_rfl) (by kernel_rfl) (by kernel_rfl) (fun _ _ _ h => h) (Or.inl ⟨by rfl, ?_⟩) hS ?_
        rotate_left 1
        · intro u hu
          have q0 := Rw.cell hu 0 _ rfl
          have q1 := Rw.cell hu 1 _ rfl
          have q2 := Rw.cell hu 2 _ rfl
          have q3 := Rw.cell hu 3 _ rfl
          go_simp
          first | done | with_reducible rfl
        go_simp
        refine wpAnyH_take (i := 1) (v := ?_) rfl (by kernel_rfl) (by kernel_rfl) (by kernel_rfl) (fun _ _ _ h => h) (Or.inl ⟨by rfl, ?_⟩) hS ?_
        rotate_left 1
        · intro u hu
          have q0 := Rw.cell hu 0 _ rfl
          have q1 := Rw.cell hu 1 _ rfl
          have q2 := Rw.cell hu 2 _ rfl
          have q3 := Rw.cell hu 3 _ rfl
          go_simp
          first | done | with_reducible rfl
        go_simp
        refine wpAnyH_take (i := 2) (v := ?_) rfl (by kernel_rfl) (by kernel_rfl) (by kernel_rfl) (fun _ _ _ h => h) (Or.inl ⟨by rfl, ?_⟩) hS ?_
        rotate_left 1
        · intro u hu
          have q0 := Rw.cell hu 0 _ rfl
          have q1 := Rw.cell hu 1 _ rfl
          have q2 := Rw.cell hu 2 _ rfl
          have q3 := Rw.cell hu 3 _ rfl
          go_simp
          first | done | with_reducible rfl
        go_simp
        refine wpAnyH_take (i := 3) (v := ?_) rfl (by kernel_rfl) (by kernel_rfl) (by kernel_rfl) (fun _ _ _ h => h) (Or.inl ⟨by rfl, ?_⟩) hS ?_
        rotate_left 1
        · intro u hu
          have q0 := Rw.cell hu 0 _ rfl
          have q1 := Rw.cell hu 1 _ rfl
          have q2 := Rw.cell hu 2 _ rfl
          have q3 := Rw.cell hu 3 _ rfl
          go_simp
          first | done | with_reducible rfl
        go_simp
        refine wpAnyH_take (i := 4) (v := ?_) rfl (by kernel_rfl) (by kernel_rfl) (by kernel_rfl) (fun _ _ _ h => h) (Or.inl ⟨by rfl, ?_⟩) hS ?_
        rotate_left 1
        · intro u hu
          have q0 := Rw.cell hu 0 _ rfl
          have q1 := Rw.cell hu 1 _ rfl
          have q2 := Rw.cell hu 2 _ rfl
          have q3 := Rw.cell hu 3 _ rfl
          go_simp
          first | done | with_reducible rfl
        go_simp
        refine wpAnyH_take (i := 5) (v := ?_) rfl (by kernel_rfl) (by kernel_rfl) (by kernel_rfl) (fun _ _ _ h => h) (Or.inl ⟨by rfl, ?_⟩) hS ?_
        rotate_left 1
        · intro u hu
          have q0 := Rw.cell hu 0 _ rfl
          have q1 := Rw.cell hu 1 _ rfl
          have q2 := Rw.cell hu 2 _ rfl
          have q3 := Rw.cell hu 3 _ rfl
          go_simp
          first | done | with_reducible rfl
        go_simp
        refine wpAnyH_take (i := 7) (v := ?_) rfl (by kernel_rfl) (by kernel_rfl) (by kernel_rfl) (fun _ _ _ h => h) (Or.inl ⟨by rfl, ?_⟩) hS ?_
        rotate_left 1
        · intro u hu
          have q0 := Rw.cell hu 0 _ rfl
          have q1 := Rw.cell hu 1 _ rfl
          have q2 := Rw.cell hu 2 _ rfl
          have q3 := Rw.cell hu 3 _ rfl
          go_simp
          first | done | with_reducible rfl
        go_simp
        refine wpAnyH_take (i := 8) (v := ?_) rfl (by kernel_rfl) (by kernel_rfl) (by kernel_rfl) (fun _ _ _ h => h) (Or.inl ⟨by rfl, ?_⟩) hS ?_
        rotate_left 1
        · intro u hu
          have q0 := Rw.cell hu 0 _ rfl
          have q1 := Rw.cell hu 1 _ rfl
          have q2 := Rw.cell hu 2 _ rfl
          have q3 := Rw.cell hu 3 _ rfl
          go_simp
          first | done | with_reducible rfl
        go_simp
        refine wpAnyH_take (i := 9) (v := ?_) rfl (by kernel_rfl) (by kernel_rfl) (by kernel_rfl) (fun _ _ _ h => h) (Or.inl ⟨by rfl, ?_⟩) hS ?_
        rotate_left 1
        · intro u hu
          have q0 := Rw.cell hu 0 _ rfl
          have q1 := Rw.cell hu 1 _ rfl
          have q2 := Rw.cell hu 2 _ rfl
          have q3 := Rw.cell hu 3 _ rfl
          go_simp
          first | done | with_reducible rfl
        go_simp
        refine wpAnyH_take (i := 10) (v := ?_) rfl (by kernel_rfl) (by kernel_rfl) (by kernel_rfl) (fun _ _ _ h => h) (Or.inl ⟨by rfl, ?_⟩) hS ?_
        rotate_left 1
        · intro u hu
          have q0 := Rw.cell hu 0 _ rfl
          have q1 := Rw.cell hu 1 _ rfl
          have q2 := Rw.cell hu 2 _ rfl
          have q3 := Rw.cell hu 3 _ rfl
          go_simp
          first | done | with_reducible rfl
        go_simp
        refine wpAnyH_take (i := 11) (v := ?_) rfl (by kernel_rfl) (by kernel_rfl) (by kernel_rfl) (fun _ _ _ h => h) (Or.inl ⟨by rfl, ?_⟩) hS ?_
        rotate_left 1
        · intro u hu
          have q0 := Rw.cell hu 0 _ rfl
          have q1 := Rw.cell hu 1 _ rfl
          have q2 := Rw.cell hu 2 _ rfl
          have q3 := Rw.cell hu 3 _ rfl
          go_simp
          first | done | with_reducible rfl
        go_simp
        refine wpAnyH_take (i := 12) (v := ?_) rfl (by kernel_rfl) (by kernel_rfl) (by kernel_rfl) (fun _ _ _ h => h) (Or.inl ⟨by rfl, ?_⟩) hS ?_
        rotate_left 1
        · intro u hu
          have q0 := Rw.cell hu 0 _ rfl
          have q1 := Rw.cell hu 1 _ rfl
          have q2 := Rw.cell hu 2 _ rfl
          have q3 := Rw.cell hu 3 _ rfl
          go_simp
          first | done | with_reducible rfl
        go_simp
        refine wpAnyH_take (i := 13) (v := ?_) rfl (by kernel_rfl) (by kernel_rfl) (by kernel_rfl) (fun _ _ _ h => h) (Or.inl ⟨by rfl, ?_⟩) hS ?_
        rotate_left 1
        · intro u hu
          have q0 := Rw.cell hu 0 _ rfl
          have q1 := Rw.cell hu 1 _ rfl
          have q2 := Rw.cell hu 2 _ rfl
          have q3 := Rw.cell hu 3 _ rfl
          go_simp
          first | done | with_reducible rfl
        go_simp
        refine wpAnyH_oneG 6 (by kernel_rfl) rfl (by rfl) ?_
        go_wp2_with fail
        (with_reducible refine (HPt.out).mono ?_)
        rintro e2 w2 ⟨cd, s2, F2, rfl, m2, hr2⟩
        have hr2' := hr2 0
        simp only [World.drewN_zero] at hr2'
        have HR2 := Lib.hid hr2'
        have M2 := Lib.hid m2
        have X2 : Hid (Rw w2 xb 33 [.int .i64 xo, .int .i64 xr, .slice xA xn xc, .bool xe]) := (m2.block xb HXB.out.2.2 HXB.out.1).trans X1.out
        refine ⟨X2.out, ?_⟩
        replace hS := X2.out
        clear hr2 hr2' m2
        refine wpAnyH_oneG 14 (by kernel_rfl) rfl (by rfl) ?_
        go_wp2_with fail
        (with_reducible refine (HR2.out).mono ?_)
        rintro e3 w3 ⟨F3, rfl, m3, K3', hf2, hf3⟩
        have M3 := Lib.hid m3
        have K3 := Lib.hid K3'
        have FF := Lib.hid (And.intro hf2 hf3)
        have X3 : Hid (Rw w3 xb 33 [.int .i64 xo, .int .i64 xr, .slice xA xn xc, .bool xe]) := (m3.block xb (Nat.lt_of_lt_of_le HXB.out.2.2 M2.out.size) HXB.out.2.1).trans X2.out
        refine ⟨X3.out, ?_⟩
        replace hS := X3.out
        clear m3 K3' hf2 hf3
        refine wpAnyH_take (i := 15) (v := ?_) rfl (by kernel_rfl) (by kernel_rfl) (by kernel_rfl) (fun _ _ _ h => h) (Or.inl ⟨by rfl, ?_⟩) hS ?_
        rotate_left 1
        · intro u hu
          have q0 := Rw.cell hu 0 _ rfl
          have q1 := Rw.cell hu 1 _ rfl
          have q2 := Rw.cell hu 2 _ rfl
          have q3 := Rw.cell hu 3 _ rfl
          go_simp
          first | done | with_reducible rfl
        go_simp
        refine wpAnyH_done (by kernel_rfl) ?_ _
        clear hS
        have O3 : Hid (Own w3 ux.heap.size (.slice A1 xn c1) xn xl) := owns_still O1.out fun k hk => by
          have h1 : ∃ a, A1 = some a ∧ a.block = k := by
            cases A1 with
            | none => cases hk
            | some a => exact ⟨a, rfl, by simpa [Value.ownBlock] using hk⟩
          obtain ⟨a, ha, rfl⟩ := h1
          have h2 := HA1.out a ha
          exact (M3.out.block _ (Nat.lt_of_lt_of_le h2.2.2.2.1 M2.out.size) h2.2.1).trans (M2.out.block _ h2.2.2.2.1 h2.1)
        have OV := Lib.hid (over_own O3.out (Nat.le_trans U1.out (Nat.le_trans M2.out.size M3.out.size)) (by omega))
        clear HPt HR2 O1 X1 X2 K1
        go_wp2_with fail
        (with_reducible refine OV.out.mono ?_)
        rintro e4 w4 ⟨rfl, h4⟩
        have K4 : Hid (Bo w w4 F2 g F3 gr M (N + xn) s2) := by
          rcases h4 with hb | ⟨x, hx, ho⟩
          · exact K3.out.below hb
          · have h1 := HA1.out _ hx
            refine K3.out.only ho (fun hf => ?_) (fun hf => ?_) h1.2.2.1
            · rcases FF.out.1 _ hf with h2 | h2
              · exact h1.1 h2
              · have h3 : w1.heap.size ≤ x := h2
                have h4 : x < w1.heap.size := h1.2.2.2.1
                omega
            · rcases FF.out.2 _ hf with h2 | h2
              · exact h1.2.1 h2
              · have h3 : w2.heap.size ≤ x := h2
                have h4 : x < w1.heap.size := h1.2.2.2.1
                have h5 : w1.heap.size ≤ w2.heap.size := M2.out.size
                omega
        have X4 : Hid (Rw w4 xb 33 [.int .i64 xo, .int .i64 xr, .slice xA xn xc, .bool xe]) := by
          rcases h4 with hb | ⟨x, hx, ho⟩
          · exact X3.out.below hb
          · have h1 := (HA1.out _ hx).2.2.2.2
            exact X3.out.only ho (by simp only at h1; omega)
        have HXF : Hid (¬ F2 xb ∧ ¬ F3 xb) := ⟨fun hf => by
          rcases FF.out.1 _ hf with h2 | h2
          · exact HXB.out.1 h2
          · have h3 : w1.heap.size ≤ xb := h2
            have := HXB.out.2.2
            omega, fun hf => by
          rcases FF.out.2 _ hf with h2 | h2
          · exact HXB.out.2.1 h2
          · have h3 : w2.heap.size ≤ xb := h2
            have := HXB.out.2.2
            have h5 : w1.heap.size ≤ w2.heap.size := M2.out.size
            omega⟩
        clear h4 OV O3 K3 X3 M2 M3 FF HA1 HXB U1 GX
        obtain ⟨rv, hrv⟩ : ∃ rv, readableV s2 = rv := ⟨_, rfl⟩
        obtain ⟨hv, hhv⟩ : ∃ hv, highestV s2 = hv := ⟨_, rfl⟩
        obtain ⟨wv, hwv⟩ : ∃ wv, wholeV s2 = wv := ⟨_, rfl⟩
        obtain ⟨ev, hev⟩ : ∃ ev, endedV s2 = ev := ⟨_, rfl⟩
        have Q1 := Lib.hid (hrv ▸ readable_any K4.out.o.i)
        have Q2 := Lib.hid (fun k => hrv ▸ rreadable_any (K4.out.drewN k).r)
        have Q3 := Lib.hid (fun k => hhv ▸ highest_any (K4.out.drewN k).o.i)
        have Q4 := Lib.hid (fun k => hhv ▸ rhighest_any (K4.out.drewN k).r)
        have Q5 := Lib.hid (fun k => hwv ▸ whole_any (K4.out.drewN k).o.i)
        have Q6 := Lib.hid (fun k => hwv ▸ rwhole_any (K4.out.drewN k).r)
        have Q7 := Lib.hid (fun k => hev ▸ ended_any (K4.out.drewN k).o.i)
        have Q8 := Lib.hid (fun k => hev ▸ rended_any (K4.out.drewN k).r)
        clear hrv hhv hwv hev
        go_wp2_with fail
        (with_reducible refine Q1.out.mono ?_)
        rintro e20 w20 ⟨rfl, t1, rfl⟩
        go_wp2_with fail
        (with_reducible refine (Q2.out _).mono ?_)
        rintro e21 w21 ⟨rfl, t2, rfl⟩
        go_wp2_with fail
        (with_reducible refine (Q3.out _).mono ?_)
        rintro e22 w22 ⟨rfl, t3, rfl⟩
        go_wp2_with fail
        (with_reducible refine (Q4.out _).mono ?_)
        rintro e23 w23 ⟨rfl, t4, rfl⟩
        go_wp2_with fail
        (with_reducible refine (Q5.out _).mono ?_)
        rintro e24 w24 ⟨rfl, t5, rfl⟩
        go_wp2_with fail
        (with_reducible refine (Q6.out _).mono ?_)
        rintro e25 w25 ⟨rfl, t6, rfl⟩
        go_wp2_with fail
        (with_reducible refine (Q7.out _).mono ?_)
        rintro e26 w26 ⟨rfl, t7, rfl⟩
        go_wp2_with fail
        (with_reducible refine (Q8.out _).mono ?_)
        rintro e27 w5 ⟨rfl, t8, hw5⟩
        obtain ⟨kk, hkk⟩ : ∃ kk, w5 = w4.drewN kk := ⟨_, by rw [hw5]; simp only [World.drewN_drewN]; rfl⟩
        clear hw5
        have K5 : Hid (Bo w w5 F2 g F3 gr M (N + xn) s2) := by rw [hkk]; exact K4.out.drewN kk
        have X5 : Hid (Rw w5 xb 33 [.int .i64 xo, .int .i64 xr, .slice xA xn xc, .bool xe]) := by rw [hkk]; exact X4.out
        clear hkk K4 X4 Q1 Q2 Q3 Q4 Q5 Q6 Q7 Q8
        have HXG : Hid (xb ≠ g ∧ xb ≠ gr) := ⟨fun e => HXF.out.1 (e ▸ K5.out.o.fg), fun e => HXF.out.2 (e ▸ K5.out.r.fg)⟩
        have HRd := Lib.hid (Bo.read (show Bo w w5.drew F2 g F3 gr M (N + xn) s2 from K5.out.drewN 1) xr)
        have HRL : Hid (readN s2 xr ≤ 2000) := by
          have h1 := front_le K5.out.o.i.ok
          have h2 := K5.out.o.i.ok.most
          show readN s2 xr ≤ 2000
          unfold readN readableV
          omega
        have HK5 : Hid ((∀ k, F2 k → k < w5.heap.size) ∧ (∀ k, F3 k → k < w5.heap.size) ∧ w.heap.size ≤ w5.heap.size ∧ gr < w5.heap.size) := ⟨K5.out.o.hi, K5.out.hi, K5.out.o.size, K5.out.r.lt⟩
        clear HXF K5
        go_wp2_with fail
        refine wp_held (S := fun u => Rw u xb 33 [.int .i64 xo, .int .i64 xr, .slice xA xn xc, .bool xe]) (by kernel_rfl) ?_
        have hS : Rw w5.drew xb 33 [.int .i64 xo, .int .i64 xr, .slice xA xn xc, .bool xe] := X5.out
        refine wpAnyH_take (i := 0) (v := ?_) rfl (by kernel_rfl) (by kernel_rfl) (by kernel_rfl) (fun _ _ _ h => h) (Or.inl ⟨by rfl, ?_⟩) hS ?_
        rotate_left 1
        · intro u hu
          have q0 := Rw.cell hu 0 _ rfl
          have q1 := Rw.cell hu 1 _ rfl
          have q2 := Rw.cell hu 2 _ rfl
          have q3 := Rw.cell hu 3 _ rfl
          go_simp
          first | done | with_reducible rfl
        go_simp
        refine wpAnyH_take (i := 1) (v := ?_) rfl (by kernel_rfl) (by kernel_rfl) (by kernel_rfl) (fun _ _ _ h => h) (Or.inl ⟨by rfl, ?_⟩) hS ?_
        rotate_left 1
        · intro u hu
          have q0 := Rw.cell hu 0 _ rfl
          have q1 := Rw.cell hu 1 _ rfl
          have q2 := Rw.cell hu 2 _ rfl
          have q3 := Rw.cell hu 3 _ rfl
          go_simp
          first | done | with_reducible rfl
        go_simp
        refine wpAnyH_take (i := 2) (v := ?_) rfl (by kernel_rfl) (by kernel_rfl) (by kernel_rfl) (fun _ _ _ h => h) (Or.inl ⟨by rfl, ?_⟩) hS ?_
        rotate_left 1
        · intro u hu
          have q0 := Rw.cell hu 0 _ rfl
          have q1 := Rw.cell hu 1 _ rfl
          have q2 := Rw.cell hu 2 _ rfl
          have q3 := Rw.cell hu 3 _ rfl
          go_simp
          first | done | with_reducible rfl
        go_simp
        refine wpAnyH_take (i := 4) (v := ?_) rfl (by kernel_rfl) (by kernel_rfl) (by kernel_rfl) (fun _ _ _ h => h) (Or.inl ⟨by rfl, ?_⟩) hS ?_
        rotate_left 1
        · intro u hu
          have q0 := Rw.cell hu 0 _ rfl
          have q1 := Rw.cell hu 1 _ rfl
          have q2 := Rw.cell hu 2 _ rfl
          have q3 := Rw.cell hu 3 _ rfl
          go_simp
          first | done | with_reducible rfl
        go_simp
        refine wpAnyH_take (i := 5) (v := ?_) rfl (by kernel_rfl) (by kernel_rfl) (by kernel_rfl) (fun _ _ _ h => h) (Or.inl ⟨by rfl, ?_⟩) hS ?_
        rotate_left 1
        · intro u hu
          have q0 := Rw.cell hu 0 _ rfl
          have q1 := Rw.cell hu 1 _ rfl
          have q2 := Rw.cell hu 2 _ rfl
          have q3 := Rw.cell hu 3 _ rfl
          go_simp
          first | done | with_reducible rfl
        go_simp
        refine wpAnyH_take (i := 6) (v := ?_) rfl (by kernel_rfl) (by kernel_rfl) (by kernel_rfl) (fun _ _ _ h => h) (Or.inl ⟨by rfl, ?_⟩) hS ?_
        rotate_left 1
        · intro u hu
          have q0 := Rw.cell hu 0 _ rfl
          have q1 := Rw.cell hu 1 _ rfl
          have q2 := Rw.cell hu 2 _ rfl
          have q3 := Rw.cell hu 3 _ rfl
          go_simp
          first | done | with_reducible rfl
        go_simp
        refine wpAnyH_oneG 3 (by kernel_rfl) rfl (by rfl) ?_
        go_wp2_with fail
        (with_reducible refine (HRd.out).mono ?_)
        rintro e6 w6 ⟨A6, c6, rfl, ho6, hc6, hm6, hO6, hr6⟩
        have hr6' := hr6 0
        simp only [World.drewN_zero] at hr6'
        have HR6 := Lib.hid hr6'
        have O6 := Lib.hid ho6
        have C6 := Lib.hid (And.intro hc6 hm6)
        have Z6 := Lib.hid hO6
        have X6 : Hid (Rw w6 xb 33 [.int .i64 xo, .int .i64 xr, .slice xA xn xc, .bool xe]) := (hO6.block xb X5.out.lt HXG.out.1).trans X5.out
        refine ⟨X6.out, ?_⟩
        replace hS := X6.out
        clear hr6 hr6' ho6 hc6 hm6 hO6
        refine wpAnyH_oneG 7 (by kernel_rfl) rfl (by rfl) ?_
        go_wp2_with fail
        (with_reducible refine (HR6.out).mono ?_)
        rintro e7 w7 ⟨A7, c7, rfl, ho7, hc7, hm7, hO7, K7'⟩
        have O7 := Lib.hid ho7
        have Z7 := Lib.hid hO7
        have K7 := Lib.hid K7'
        have X7 : Hid (Rw w7 xb 33 [.int .i64 xo, .int .i64 xr, .slice xA xn xc, .bool xe]) := (hO7.block xb X6.out.lt HXG.out.2).trans X6.out
        refine ⟨X7.out, ?_⟩
        replace hS := X7.out
        clear ho7 hc7 hm7 hO7 K7'
        refine wpAnyH_take (i := 8) (v := ?_) rfl (by kernel_rfl) (by kernel_rfl) (by kernel_rfl) (fun _ _ _ h => h) (Or.inl ⟨by rfl, ?_⟩) hS ?_
        rotate_left 1
        · intro u hu
          have q0 := Rw.cell hu 0 _ rfl
          have q1 := Rw.cell hu 1 _ rfl
          have q2 := Rw.cell hu 2 _ rfl
          have q3 := Rw.cell hu 3 _ rfl
          go_simp
          first | done | with_reducible rfl
        go_simp
        refine wpAnyH_take (i := 9) (v := ?_) rfl (by kernel_rfl) (by kernel_rfl) (by kernel_rfl) (fun _ _ _ h => h) (Or.inl ⟨by rfl, ?_⟩) hS ?_
        rotate_left 1
        · intro u hu
          have q0 := Rw.cell hu 0 _ rfl
          have q1 := Rw.cell hu 1 _ rfl
          have q2 := Rw.cell hu 2 _ rfl
          have q3 := Rw.cell hu 3 _ rfl
          go_simp
          first | done | with_reducible rfl
        go_simp
        refine wpAnyH_done (by kernel_rfl) ?_ _
        clear hS
        have O6' : Hid (Own w7 w5.heap.size (.slice A6 (readN s2 xr) c6) (readN s2 xr) (bytesV s2 (readN s2 xr))) := owns_still O6.out fun k hk => Z7.out.block k (World.ownsRow.lt O6.out k hk).2 (fun e => by
          have h1 := (World.ownsRow.lt O6.out k hk).1
          have h2 : w5.heap.size ≤ k := h1
          have h3 := HK5.out.2.2.2
          omega)
        obtain ⟨rn, hrn⟩ : ∃ rn, readN s2 xr = rn := ⟨_, rfl⟩
        obtain ⟨by', hby⟩ : ∃ by', bytesV s2 (readN s2 xr) = by' := ⟨_, rfl⟩
        rw [hby, hrn] at O6' O7
        rw [hrn] at HRL C6
        obtain ⟨s3, hs3⟩ : ∃ s3, readS s2 xr = s3 := ⟨_, rfl⟩
        rw [hs3] at K7
        have SM := Lib.hid (same_yes by' by' rfl A6 A7 rn rn c6 c7 _ _ w7 O6'.out.sl O7.out.sl (by have := C6.out; omega))
        obtain ⟨ev2, hev⟩ : ∃ ev, endedV s3 = ev := ⟨_, rfl⟩
        have Q7 := Lib.hid (fun k => hev ▸ ended_any (K7.out.drewN k).o.i)
        have Q8 := Lib.hid (fun k => hev ▸ rended_any (K7.out.drewN k).r)
        have OV := Lib.hid (fun k => over_own (w := w7.drewN k) (B := w5.heap.size) (show Own (w7.drewN k) w5.heap.size (.slice A6 rn c6) rn by' from O6'.out) (Nat.le_trans Z6.out.size Z7.out.size) (by have := HRL.out; omega))
        rw [hrn]
        clear hev hs3 hby hrn HR6 HRd O6 O7 X5 X6 X7 Z6 Z7 HXG
        go_wp2_with fail
        (with_reducible refine SM.out.mono ?_)
        rintro e30 w30 ⟨rfl, t11, rfl⟩
        go_wp2_with fail
        (with_reducible refine (Q7.out _).mono ?_)
        rintro e31 w31 ⟨rfl, t12, rfl⟩
        go_wp2_with fail
        (with_reducible refine (Q8.out _).mono ?_)
        rintro e32 w32 ⟨rfl, t13, hw32⟩
        obtain ⟨kk, hkk⟩ : ∃ kk, w32 = w7.drewN kk := ⟨_, by rw [hw32]; simp only [World.drewN_drewN]; rfl⟩
        clear hw32
        subst hkk
        go_wp2_with fail
        (with_reducible refine (OV.out _).mono ?_)
        rintro e33 w33 ⟨rfl, h4⟩
        have K9 : Hid (Bo w w33 F2 g F3 gr M (N + xn) s3) := by
          rcases h4 with hb | ⟨x, hx, ho⟩
          · exact (K7.out.drewN kk).below hb
          · have h1 := (O6'.out.blk _ hx).1
            have h2 : w5.heap.size ≤ x := h1
            refine (K7.out.drewN kk).only ho (fun hf => ?_) (fun hf => ?_) (Nat.le_trans HK5.out.2.2.1 h2)
            · have := HK5.out.1 _ hf; omega
            · have := HK5.out.2.1 _ hf; omega
        have HNN : Hid (N + xn ≤ 40 * (j + 1)) := by
          have := HN.out
          show _ ≤ _
          omega
        clear h4 OV K7 O6' HK5
        go_wp2_with fail
        go_roundw
        case rel => exact ⟨j + 1, s3, F2, F3, N + xn, by go_num, by omega, HNN.out, K9⟩
        case measure => simp [intOf]; omega
    · have hjl : ¬ ((j : Int) < (m : Int)) := by omega
      have AW := Lib.hid (awake_any wr K.out.o.G)
      go_wp2_with fail
      (with_reducible refine AW.out.mono ?_)
      rintro e9 w9 ⟨rfl, b9⟩
      go_wp2_with fail
      go_ret
      exact ⟨rfl, K.out.o.b.trans (b9.mono K.out.o.b.size)⟩
end Go.Proofs.YtocolaccgoochaaDoor
