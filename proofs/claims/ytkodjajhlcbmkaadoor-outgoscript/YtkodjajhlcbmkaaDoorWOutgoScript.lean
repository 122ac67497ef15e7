/-
  The law OutgoScript: whatever is asked for, came, or was lost, each call answers as a list of each byte's state does.
-/
import Derived.Test.YtkodjajhlcbmkaaDoorAcA
namespace Go.Proofs.YtkodjajhlcbmkaaDoor
open Go.RowKit Go.Lib
set_option linter.unusedVariables false

set_option maxRecDepth 8000 in
theorem script_long (A A' : Option Addr) (n c m d : Nat) (w : World) (hG : Glob w) (hn : 60 < n ∨ 60 < m) (hm : n ≤ maxLen) (hm' : m ≤ maxLen) : Calls Tryd.prog 3 #[.slice A n c, .slice A' m d] w fun e w' => e = .returned (.bool true) ∧ Below w.heap.size w w' := by
  have AW := Lib.hid (awake_any w hG)
  rcases Nat.lt_or_ge 60 n with h1 | h1
  · have hlt : (60 : Int) < (n : Int) := by omega
    clear hG hm hm' hn
    go_enter Tryd.func3, Tryd.ntmps3
    go_wp2_with fail
    (with_reducible refine AW.out.mono ?_)
    rintro e1 w1 ⟨rfl, b1⟩
    go_wp2_with fail
    go_ret
    exact ⟨rfl, b1⟩
  · have hlt : ¬ (60 : Int) < (n : Int) := by omega
    have hlt2 : (60 : Int) < (m : Int) := by omega
    clear hG hm hm' hn
    go_enter Tryd.func3, Tryd.ntmps3
    go_wp2_with fail
    (with_reducible refine AW.out.mono ?_)
    rintro e1 w1 ⟨rfl, b1⟩
    go_wp2_with fail
    go_ret
    exact ⟨rfl, b1⟩
/-- both sides, in one state -/
structure Both (w0 w : World) (B g gr gs : Nat) (A : Option Addr) (n c : Nat) (D : List UInt8) (s : Nat → Nat) : Prop where
  o : Rn w0 w B g n D s
  r : RefW w (g + 1) gr gs A n c D s
section
variable {w0 w w' : World} {B g gr gs n c : Nat} {A : Option Addr} {D : List UInt8} {s s' : Nat → Nat}
theorem Both.drewN (h : Both w0 w B g gr gs A n c D s) (k : Nat) : Both w0 (w.drewN k) B g gr gs A n c D s := ⟨h.o.drewN k, h.r.keep fun _ _ _ => rfl⟩
theorem Rw.mv {B C x : Nat} {t : TypeId} {vs : List Value} (h : Rw w x t vs) (m : Mv B C w w') (hx : C ≤ x) : Rw w' x t vs := (m.block x h.lt (.inr hx)).trans h
theorem Both.below (h : Both w0 w B g gr gs A n c D s) (hb : Below w.heap.size w w') : Both w0 w' B g gr gs A n c D s := ⟨h.o.below hb, h.r.below hb⟩
/-- one side moved, then the other one -/
theorem Both.mv (h : Both w0 w B g gr gs A n c D s) (o : Rn w0 w' B g n D s') (m : Mv B (g + 1) w w') : Rn w0 w' B g n D s' ∧ RefW w' (g + 1) gr gs A n c D s := ⟨o, h.r.mv m (Nat.le_refl _)⟩
theorem Both.join {u : World} (o : Rn w0 u B g n D s') (r : RefW w' (g + 1) gr gs A n c D s') (ho : Only gs u w') (hg : gs < u.heap.size) : Both w0 w' B g gr gs A n c D s' := ⟨o.only ho (by have := r.b1; omega) hg, r⟩
end
set_option maxRecDepth 8000 in
set_option maxHeartbeats 8000000 in
theorem script_any {A A' : Option Addr} {n c m d : Nat} {D : List UInt8} {q : Nat → ActR} {w : World} (h : Sl w w.heap.size A n D) (hnc : n ≤ c) (hcm : c ≤ maxLen) (hn : n ≤ 60) (hq : InA w A' m q) (hm : m ≤ 60) (hG : Glob w) :
    Calls Tryd.prog 3 #[.slice A n c, .slice A' m d] w fun e w' => e = .returned (.bool true) ∧ Below w.heap.size w w' := by
  have HG := Lib.hid hG
  have DS := Lib.hid h
  have QS := Lib.hid hq
  have CP := Lib.hid (copied_any D A n c w.heap.size w h (by omega))
  have b1 : (n : Int) ≤ 60 := by omega
  have b2 : (m : Int) ≤ 60 := by omega
  clear h hnc hcm hG hq
  go_enter Tryd.func3, Tryd.ntmps3
  go_wp2_with fail
  (with_reducible refine CP.out.mono ?_)
  rintro e1 w1 ⟨A1, c1, rfl, ho, hle, hc, hb⟩
  have O1 := Lib.hid ho
  have B1 := Lib.hid hb
  have P1 := Lib.hid (rn_new (w0 := w) (c0 := c1) ho.sl (Nat.le_refl _) (by omega) (HG.out.below hb HG.out.pos) hb HG.out.pos)
  clear ho hle hc hb CP
  go_wp2_with fail
  (with_reducible refine P1.out.mono ?_)
  rintro e2 w2 ⟨g, rfl, r2, b2', hg2⟩
  obtain ⟨B, hBe⟩ : ∃ B, w1.heap.size = B := ⟨_, rfl⟩
  have O2 : Hid (Own w2 w.heap.size (.slice A1 n c1) n D) := O1.out.below b2'
  have X2 : Hid (∀ x, A1 = some ⟨x, 0, none⟩ → w.heap.size ≤ x ∧ x < B) := fun x hx => by
    have := O1.out.blk _ hx
    rw [← hBe]
    exact this
  rw [hBe] at r2
  have R2 := Lib.hid r2
  have G2 := Lib.hid hg2
  have P2 := Lib.hid (rnew_any (c0 := c) (DS.out.below (r2.b)) (Nat.le_trans B1.out.size b2'.size) hn)
  clear r2 b2' hg2 P1 hBe
  go_wp2_with fail
  (with_reducible refine P2.out.mono ?_)
  rintro e3 w3 ⟨gr, gs, Ar, cr, rfl, r3, b3, hg3⟩
  rw [← G2.out] at r3
  have K3 : Hid (Both w w3 B g gr gs Ar n cr D (fun _ => 0)) := ⟨R2.out.below b3, r3⟩
  have OV := Lib.hid (over_own (O2.out.below b3) (by have := R2.out.b.size; have := b3.size; omega) (by omega))
  clear r3 b3 hg3 P2
  go_wp2_with fail
  (with_reducible refine OV.out.mono ?_)
  rintro e4 w4 ⟨rfl, h4⟩
  have K4 : Hid (Both w w4 B g gr gs Ar n cr D (fun _ => 0)) := by
    rcases h4 with hb | ⟨x, hx, ho⟩
    · exact K3.out.below hb
    · have hxx := X2.out x hx
      have hlt := K3.out.o.o.lt
      exact ⟨K3.out.o.outer ho hxx.1 hxx.2, K3.out.r.keep fun i a b => ho.block i (by have := K3.out.r.r.lt; omega) (by omega)⟩
  clear h4 OV K3 O2 X2 R2 G2 O1 B1
  go_wp2_with fail
  go_loopw [8] (fun i wr => ∃ (j : Nat) (s : Nat → Nat), i = .int .i64 (j : Int) ∧ j ≤ m ∧ Hid (Both w wr B g gr gs Ar n cr D s)) (fun i _ => m - (intOf i).toNat)
  case atStart => exact ⟨0, _, rfl, Nat.zero_le _, K4⟩
  case round =>
    clear K4
    obtain ⟨j, s, rfl, hj, K⟩ := hrel
    by_cases hjm : j < m
    · have hjl : ((j : Int) < (m : Int)) := by omega
      obtain ⟨ga, oa, rfl, hga, hcells⟩ := QS.out.1 (by omega)
      have ok := QS.out.2 j hjm
      have hcj := hcells j hjm
      obtain ⟨x, hx⟩ : ∃ x, q j = x := ⟨_, rfl⟩
      rw [hx] at ok hcj
      obtain ⟨xd, xa, xm, xe⟩ := x
      have x0 : wr.cell? ⟨ga, oa + j * 4, none⟩ = some (.int .i64 xd) := (K.out.o.b.cell (p := ⟨ga, oa + j * 4, none⟩) hga).trans (hcj 0 _ rfl)
      have x1 : wr.cell? ⟨ga, oa + j * 4 + 1, none⟩ = some (.int .i64 xa) := (K.out.o.b.cell (p := ⟨ga, oa + j * 4 + 1, none⟩) hga).trans (hcj 1 _ rfl)
      have x2 : wr.cell? ⟨ga, oa + j * 4 + 2, none⟩ = some (.int .i64 xm) := (K.out.o.b.cell (p := ⟨ga, oa + j * 4 + 2, none⟩) hga).trans (hcj 2 _ rfl)
      have x3 : wr.cell? ⟨ga, oa + j * 4 + 3, none⟩ = some (.bool xe) := (K.out.o.b.cell (p := ⟨ga, oa + j * 4 + 3, none⟩) hga).trans (hcj 3 _ rfl)
      obtain ⟨okd, oka, okm⟩ := ok
      simp only at okd oka okm
      have WD := Lib.hid okd
      have WA := Lib.hid oka
      have WM := Lib.hid okm
      clear okd oka okm hcj hcells hx hga
      go_upto_region 12 with fail
      obtain ⟨ux, hux⟩ : ∃ ux, wr.alloc (.cells #[.int .i64 xd, .int .i64 xa, .int .i64 xm, .bool xe] 32) = ux := ⟨_, rfl⟩
      obtain ⟨xb, hxb⟩ : ∃ xb, wr.heap.size = xb := ⟨_, rfl⟩
      have bu : Below wr.heap.size wr ux := hux ▸ (Below.refl _ _).alloc (Nat.le_refl _) _
      have X : Hid (Rw ux xb 32 [.int .i64 xd, .int .i64 xa, .int .i64 xm, .bool xe]) := by
        show ux.heap[xb]? = _
        rw [← hux, ← hxb]
        exact heap_alloc_new wr _
      have KX := Lib.hid (K.out.below bu)
      have GX : Hid (g + 1 ≤ xb ∧ gr < xb) := by
        have h1 := K.out.o.o.lt
        have h2 := K.out.r.r.lt
        rw [← hxb]
        exact ⟨h1.2, h2⟩
      rw [hux, hxb]
      have z0 := X.out.cell 0 _ rfl
      have z1 := X.out.cell 1 _ rfl
      have z2 := X.out.cell 2 _ rfl
      have z3 := X.out.cell 3 _ rfl
      clear hux hxb bu K x0 x1 x2 x3
      by_cases d0 : xd = 0
      · have e0 : (xd == 0) = true := by simp [d0]
        clear d0
        rcases hv : nextV n s xa xm with _ | ⟨f, t, b⟩
        · have P1 := Lib.hid (rn_none KX.out.o WA.out WM.out hv)
          go_wp2_with fail
          (with_reducible refine P1.out.mono ?_)
          rintro e5 w5 ⟨rfl, r5, m5⟩
          have X5 := Lib.hid (X.out.mv m5 GX.out.1)
          have D5 := Lib.hid (rnext_any (KX.out.r.mv m5 (Nat.le_refl _)) (by omega) KX.out.o.three xa xm WA.out WM.out none hv)
          have K5 : Hid (Both w w5 B g gr gs Ar n cr D s) := ⟨r5, KX.out.r.mv m5 (Nat.le_refl _)⟩
          have y0 := X5.out.cell 0 _ rfl
          have y1 := X5.out.cell 1 _ rfl
          have y2 := X5.out.cell 2 _ rfl
          have y3 := X5.out.cell 3 _ rfl
          clear r5 m5 P1 hv
          go_wp2_with fail
          (with_reducible refine D5.out.mono ?_)
          rintro e6 w6 hN
          rcases hN with ⟨_, rfl, rfl⟩ | ⟨f, t, b, A4, c4, hf, _⟩
          · have S6 := Lib.hid (same_yes [] [] rfl none none 0 0 0 0 0 0 w5 Sl.nil Sl.nil (by simp [maxLen]))
            go_wp2_with fail
            (with_reducible refine S6.out.mono ?_)
            rintro e7 w7 ⟨rfl, j7, rfl⟩
            have OV := Lib.hid (over_nil (w5.drewN j7))
            go_wp2_with fail
            (with_reducible refine OV.out.mono ?_)
            rintro e8 w8 ⟨rfl, b8⟩
            have K9 := Lib.hid ((K5.out.drewN j7).below b8)
            clear b8 y0 y1 y2 y3
            obtain ⟨sv, hsv⟩ : ∃ sv, sentV n s = sv := ⟨_, rfl⟩
            obtain ⟨lv, hlv⟩ : ∃ lv, leftV n s = lv := ⟨_, rfl⟩
            obtain ⟨dv, hdv⟩ : ∃ dv, doneV n s = dv := ⟨_, rfl⟩
            have CT := Lib.hid (rcounts_any K9.out.r (by omega) K9.out.o.three (sv : Int) (lv : Int) dv (by rw [hsv]) (by rw [hlv]) hdv)
            have ST := Lib.hid (fun k => rn_sent (K9.out.o.drewN k) (sv : Int) (by rw [hsv]))
            have LT := Lib.hid (fun k => rn_left (K9.out.o.drewN k) (lv : Int) (by rw [hlv]))
            have DT := Lib.hid (fun k => rn_done (K9.out.o.drewN k) dv hdv)
            clear hsv hlv hdv
            go_wp2_with fail
            (with_reducible refine CT.out.mono ?_)
            rintro e20 w20 ⟨rfl, jq, rfl⟩
            go_wp2_with fail
            (with_reducible refine (ST.out _).mono ?_)
            rintro e21 w21 ⟨rfl, rfl⟩
            go_wp2_with fail
            (with_reducible refine (LT.out _).mono ?_)
            rintro e22 w22 ⟨rfl, rfl⟩
            go_wp2_with fail
            (with_reducible refine (DT.out _).mono ?_)
            rintro e23 w23 ⟨rfl, rfl⟩
            go_wp2_with fail
            go_roundw
            case rel => exact ⟨j + 1, _, by go_num, by omega, K9.out.drewN jq⟩
            case measure => simp [intOf]; omega
          · cases hf
        · have P1 := Lib.hid (rn_some (s' := landV n s 1 (some (f, t, b))) KX.out.o WA.out WM.out hv (fun _ _ => rfl))
          go_wp2_with fail
          (with_reducible refine P1.out.mono ?_)
          rintro e5 w5 ⟨A4, c4, rfl, o5, q5, _, _, r5, m5⟩
          have X5 := Lib.hid (X.out.mv m5 GX.out.1)
          have D5 := Lib.hid (rnext_any (KX.out.r.mv m5 (Nat.le_refl _)) (by omega) KX.out.o.three xa xm WA.out WM.out (some (f, t, b)) hv)
          have R5 := Lib.hid r5
          have O5 := Lib.hid o5
          have C5 := Lib.hid q5
          have g5 : Hid (gs < w5.heap.size) := (KX.out.r.mv m5 (Nat.le_refl _)).s.lt
          have Z5 : Hid (gs < ux.heap.size ∧ g < ux.heap.size ∧ gr < ux.heap.size ∧ ux.heap.size ≤ w5.heap.size) := ⟨KX.out.r.s.lt, KX.out.o.o.lt.2, KX.out.r.r.lt, m5.size⟩
          have y0 := X5.out.cell 0 _ rfl
          have y1 := X5.out.cell 1 _ rfl
          have y2 := X5.out.cell 2 _ rfl
          have y3 := X5.out.cell 3 _ rfl
          clear r5 o5 q5 m5 P1 hv
          go_wp2_with fail
          (with_reducible refine D5.out.mono ?_)
          rintro e6 w6 hN
          rcases hN with ⟨hf, _⟩ | ⟨f', t', b', A6, c6, hf, rfl, o6, q6, h6a, h6b, r6, m6⟩
          · cases hf
          · injection hf with hf
            injection hf with hf1 hf
            injection hf with hf2 hf3
            subst hf1
            subst hf2
            subst hf3
            have K6 := Lib.hid (Both.join R5.out r6 m6 g5.out)
            have O6 : Hid (Own w6 ux.heap.size (.slice A4 (t - f) c4) (t - f) ((D.drop f).take (t - f))) := O5.out.onlyA m6 fun a ha => by have := O5.out.blk a ha; have := Z5.out; omega
            have S6 := Lib.hid (same_yes _ _ rfl A4 A6 (t - f) (t - f) c4 c6 _ _ w6 O6.out.sl o6.sl (by have := C5.out; omega))
            have L6 : Hid (∀ k, Calls Tryd.prog 12 #[.slice A4 (t - f) c4] (w6.drewN k) fun e w' => e = .returned (.tuple #[]) ∧ (Below (w6.drewN k).heap.size (w6.drewN k) w' ∨ ∃ x, A4 = some ⟨x, 0, none⟩ ∧ Only x (w6.drewN k) w')) := fun k =>
              over_own (B := ux.heap.size) O6.out (by have := Z5.out; have := m6.size; show _ ≤ w6.heap.size; omega) (by omega)
            clear o6 q6 r6 m6 D5
            go_wp2_with fail
            (with_reducible refine S6.out.mono ?_)
            rintro e7 w7 ⟨rfl, j7, rfl⟩
            cases b
            · go_wp2_with fail
              (with_reducible refine (L6.out _).mono ?_)
              rintro e8 w8 ⟨rfl, h8⟩
              have K9 : Hid (Both w w8 B g gr gs Ar n cr D (landV n s 1 (some (f, t, false)))) := by
                rcases h8 with hb | ⟨x, hx, ho⟩
                · exact (K6.out.drewN j7).below hb
                · have h1 := O6.out.blk _ hx
                  have h2 := Z5.out
                  exact ⟨(K6.out.o.drewN j7).only ho (by simp only at h1; omega) (by simp only at h1; exact h1.2), (K6.out.drewN j7).r.only ho (by simp only at h1; omega)⟩
              clear h8 y0 y1 y2 y3
              obtain ⟨sv, hsv⟩ : ∃ sv, sentV n (landV n s 1 (some (f, t, false))) = sv := ⟨_, rfl⟩
              obtain ⟨lv, hlv⟩ : ∃ lv, leftV n (landV n s 1 (some (f, t, false))) = lv := ⟨_, rfl⟩
              obtain ⟨dv, hdv⟩ : ∃ dv, doneV n (landV n s 1 (some (f, t, false))) = dv := ⟨_, rfl⟩
              have CT := Lib.hid (rcounts_any K9.out.r (by omega) K9.out.o.three (sv : Int) (lv : Int) dv (by rw [hsv]) (by rw [hlv]) hdv)
              have ST := Lib.hid (fun k => rn_sent (K9.out.o.drewN k) (sv : Int) (by rw [hsv]))
              have LT := Lib.hid (fun k => rn_left (K9.out.o.drewN k) (lv : Int) (by rw [hlv]))
              have DT := Lib.hid (fun k => rn_done (K9.out.o.drewN k) dv hdv)
              clear hsv hlv hdv
              go_wp2_with fail
              (with_reducible refine CT.out.mono ?_)
              rintro e20 w20 ⟨rfl, jq, rfl⟩
              go_wp2_with fail
              (with_reducible refine (ST.out _).mono ?_)
              rintro e21 w21 ⟨rfl, rfl⟩
              go_wp2_with fail
              (with_reducible refine (LT.out _).mono ?_)
              rintro e22 w22 ⟨rfl, rfl⟩
              go_wp2_with fail
              (with_reducible refine (DT.out _).mono ?_)
              rintro e23 w23 ⟨rfl, rfl⟩
              go_wp2_with fail
              go_roundw
              case rel => exact ⟨j + 1, _, by go_num, by omega, K9.out.drewN jq⟩
              case measure => simp [intOf]; omega
            · go_wp2_with fail
              (with_reducible refine (L6.out _).mono ?_)
              rintro e8 w8 ⟨rfl, h8⟩
              have K9 : Hid (Both w w8 B g gr gs Ar n cr D (landV n s 1 (some (f, t, true)))) := by
                rcases h8 with hb | ⟨x, hx, ho⟩
                · exact (K6.out.drewN j7).below hb
                · have h1 := O6.out.blk _ hx
                  have h2 := Z5.out
                  exact ⟨(K6.out.o.drewN j7).only ho (by simp only at h1; omega) (by simp only at h1; exact h1.2), (K6.out.drewN j7).r.only ho (by simp only at h1; omega)⟩
              clear h8 y0 y1 y2 y3
              obtain ⟨sv, hsv⟩ : ∃ sv, sentV n (landV n s 1 (some (f, t, true))) = sv := ⟨_, rfl⟩
              obtain ⟨lv, hlv⟩ : ∃ lv, leftV n (landV n s 1 (some (f, t, true))) = lv := ⟨_, rfl⟩
              obtain ⟨dv, hdv⟩ : ∃ dv, doneV n (landV n s 1 (some (f, t, true))) = dv := ⟨_, rfl⟩
              have CT := Lib.hid (rcounts_any K9.out.r (by omega) K9.out.o.three (sv : Int) (lv : Int) dv (by rw [hsv]) (by rw [hlv]) hdv)
              have ST := Lib.hid (fun k => rn_sent (K9.out.o.drewN k) (sv : Int) (by rw [hsv]))
              have LT := Lib.hid (fun k => rn_left (K9.out.o.drewN k) (lv : Int) (by rw [hlv]))
              have DT := Lib.hid (fun k => rn_done (K9.out.o.drewN k) dv hdv)
              clear hsv hlv hdv
              go_wp2_with fail
              (with_reducible refine CT.out.mono ?_)
              rintro e20 w20 ⟨rfl, jq, rfl⟩
              go_wp2_with fail
              (with_reducible refine (ST.out _).mono ?_)
              rintro e21 w21 ⟨rfl, rfl⟩
              go_wp2_with fail
              (with_reducible refine (LT.out _).mono ?_)
              rintro e22 w22 ⟨rfl, rfl⟩
              go_wp2_with fail
              (with_reducible refine (DT.out _).mono ?_)
              rintro e23 w23 ⟨rfl, rfl⟩
              go_wp2_with fail
              go_roundw
              case rel => exact ⟨j + 1, _, by go_num, by omega, K9.out.drewN jq⟩
              case measure => simp [intOf]; omega
      · have e0 : (xd == 0) = false := by simp [d0]
        by_cases d1 : xd = 1
        · have e1 : (xd == 1) = true := by simp [d1]
          clear d0 d1
          have P1 := Lib.hid (rn_there (s' := thereV n s xa xm xe) KX.out.o xe WA.out WM.out (fun _ _ => rfl))
          go_wp2_with fail
          (with_reducible refine P1.out.mono ?_)
          rintro e5 w5 ⟨rfl, r5, m5⟩
          have X5 := Lib.hid (X.out.mv m5 GX.out.1)
          have D5 := Lib.hid (rthere_any (KX.out.r.mv m5 (Nat.le_refl _)) (by omega) xa xm xe WA.out WM.out KX.out.o.three)
          have R5 := Lib.hid r5
          have g5 : Hid (gs < w5.heap.size) := (KX.out.r.mv m5 (Nat.le_refl _)).s.lt
          have y0 := X5.out.cell 0 _ rfl
          have y1 := X5.out.cell 1 _ rfl
          have y2 := X5.out.cell 2 _ rfl
          have y3 := X5.out.cell 3 _ rfl
          clear r5 m5 P1
          go_wp2_with fail
          (with_reducible refine D5.out.mono ?_)
          rintro e6 w6 ⟨rfl, r6, o6⟩
          have K9 := Lib.hid (Both.join R5.out r6 o6 g5.out)
          clear r6 o6 y0 y1 y2 y3
          obtain ⟨sv, hsv⟩ : ∃ sv, sentV n (thereV n s xa xm xe) = sv := ⟨_, rfl⟩
          obtain ⟨lv, hlv⟩ : ∃ lv, leftV n (thereV n s xa xm xe) = lv := ⟨_, rfl⟩
          obtain ⟨dv, hdv⟩ : ∃ dv, doneV n (thereV n s xa xm xe) = dv := ⟨_, rfl⟩
          have CT := Lib.hid (rcounts_any K9.out.r (by omega) K9.out.o.three (sv : Int) (lv : Int) dv (by rw [hsv]) (by rw [hlv]) hdv)
          have ST := Lib.hid (fun k => rn_sent (K9.out.o.drewN k) (sv : Int) (by rw [hsv]))
          have LT := Lib.hid (fun k => rn_left (K9.out.o.drewN k) (lv : Int) (by rw [hlv]))
          have DT := Lib.hid (fun k => rn_done (K9.out.o.drewN k) dv hdv)
          clear hsv hlv hdv
          go_wp2_with fail
          (with_reducible refine CT.out.mono ?_)
          rintro e20 w20 ⟨rfl, jq, rfl⟩
          go_wp2_with fail
          (with_reducible refine (ST.out _).mono ?_)
          rintro e21 w21 ⟨rfl, rfl⟩
          go_wp2_with fail
          (with_reducible refine (LT.out _).mono ?_)
          rintro e22 w22 ⟨rfl, rfl⟩
          go_wp2_with fail
          (with_reducible refine (DT.out _).mono ?_)
          rintro e23 w23 ⟨rfl, rfl⟩
          go_wp2_with fail
          go_roundw
          case rel => exact ⟨j + 1, _, by go_num, by omega, K9.out.drewN jq⟩
          case measure => simp [intOf]; omega
        · have e1 : (xd == 1) = false := by simp [d1]
          by_cases d2 : xd = 2
          · have e2 : (xd == 2) = true := by simp [d2]
            clear d0 d1 d2
            have P1 := Lib.hid (rn_lost (s' := lostV n s xa xm xe) KX.out.o xe WA.out WM.out (fun _ _ => rfl))
            go_wp2_with fail
            (with_reducible refine P1.out.mono ?_)
            rintro e5 w5 ⟨rfl, r5, m5⟩
            have X5 := Lib.hid (X.out.mv m5 GX.out.1)
            have D5 := Lib.hid (rlost_any (KX.out.r.mv m5 (Nat.le_refl _)) (by omega) xa xm xe WA.out WM.out KX.out.o.three)
            have R5 := Lib.hid r5
            have g5 : Hid (gs < w5.heap.size) := (KX.out.r.mv m5 (Nat.le_refl _)).s.lt
            have y0 := X5.out.cell 0 _ rfl
            have y1 := X5.out.cell 1 _ rfl
            have y2 := X5.out.cell 2 _ rfl
            have y3 := X5.out.cell 3 _ rfl
            clear r5 m5 P1
            go_wp2_with fail
            (with_reducible refine D5.out.mono ?_)
            rintro e6 w6 ⟨rfl, r6, o6⟩
            have K9 := Lib.hid (Both.join R5.out r6 o6 g5.out)
            clear r6 o6 y0 y1 y2 y3
            obtain ⟨sv, hsv⟩ : ∃ sv, sentV n (lostV n s xa xm xe) = sv := ⟨_, rfl⟩
            obtain ⟨lv, hlv⟩ : ∃ lv, leftV n (lostV n s xa xm xe) = lv := ⟨_, rfl⟩
            obtain ⟨dv, hdv⟩ : ∃ dv, doneV n (lostV n s xa xm xe) = dv := ⟨_, rfl⟩
            have CT := Lib.hid (rcounts_any K9.out.r (by omega) K9.out.o.three (sv : Int) (lv : Int) dv (by rw [hsv]) (by rw [hlv]) hdv)
            have ST := Lib.hid (fun k => rn_sent (K9.out.o.drewN k) (sv : Int) (by rw [hsv]))
            have LT := Lib.hid (fun k => rn_left (K9.out.o.drewN k) (lv : Int) (by rw [hlv]))
            have DT := Lib.hid (fun k => rn_done (K9.out.o.drewN k) dv hdv)
            clear hsv hlv hdv
            go_wp2_with fail
            (with_reducible refine CT.out.mono ?_)
            rintro e20 w20 ⟨rfl, jq, rfl⟩
            go_wp2_with fail
            (with_reducible refine (ST.out _).mono ?_)
            rintro e21 w21 ⟨rfl, rfl⟩
            go_wp2_with fail
            (with_reducible refine (LT.out _).mono ?_)
            rintro e22 w22 ⟨rfl, rfl⟩
            go_wp2_with fail
            (with_reducible refine (DT.out _).mono ?_)
            rintro e23 w23 ⟨rfl, rfl⟩
            go_wp2_with fail
            go_roundw
            case rel => exact ⟨j + 1, _, by go_num, by omega, K9.out.drewN jq⟩
            case measure => simp [intOf]; omega
          · have e2 : (xd == 2) = false := by simp [d2]
            clear d0 d1 d2
            have K9 := KX
            obtain ⟨sv, hsv⟩ : ∃ sv, sentV n s = sv := ⟨_, rfl⟩
            obtain ⟨lv, hlv⟩ : ∃ lv, leftV n s = lv := ⟨_, rfl⟩
            obtain ⟨dv, hdv⟩ : ∃ dv, doneV n s = dv := ⟨_, rfl⟩
            have CT := Lib.hid (rcounts_any K9.out.r (by omega) K9.out.o.three (sv : Int) (lv : Int) dv (by rw [hsv]) (by rw [hlv]) hdv)
            have ST := Lib.hid (fun k => rn_sent (K9.out.o.drewN k) (sv : Int) (by rw [hsv]))
            have LT := Lib.hid (fun k => rn_left (K9.out.o.drewN k) (lv : Int) (by rw [hlv]))
            have DT := Lib.hid (fun k => rn_done (K9.out.o.drewN k) dv hdv)
            clear hsv hlv hdv
            go_wp2_with fail
            (with_reducible refine CT.out.mono ?_)
            rintro e20 w20 ⟨rfl, jq, rfl⟩
            go_wp2_with fail
            (with_reducible refine (ST.out _).mono ?_)
            rintro e21 w21 ⟨rfl, rfl⟩
            go_wp2_with fail
            (with_reducible refine (LT.out _).mono ?_)
            rintro e22 w22 ⟨rfl, rfl⟩
            go_wp2_with fail
            (with_reducible refine (DT.out _).mono ?_)
            rintro e23 w23 ⟨rfl, rfl⟩
            go_wp2_with fail
            go_roundw
            case rel => exact ⟨j + 1, _, by go_num, by omega, K9.out.drewN jq⟩
            case measure => simp [intOf]; omega
    · have hjl : ¬ ((j : Int) < (m : Int)) := by omega
      have T1 := Lib.hid (othere_nil wr 0 1 true)
      have N1 := Lib.hid (onext_nil wr 1 1)
      have D1 := Lib.hid (odone_nil wr)
      have L1 := Lib.hid (oleft_nil wr)
      have AW := Lib.hid (awake_any wr K.out.o.G)
      go_wp2_with fail
      (with_reducible refine T1.out.mono ?_)
      rintro e5 w5 ⟨rfl, rfl⟩
      go_wp2_with fail
      (with_reducible refine N1.out.mono ?_)
      rintro e6 w6 ⟨rfl, rfl⟩
      go_wp2_with fail
      (with_reducible refine D1.out.mono ?_)
      rintro e7 w7 ⟨rfl, rfl⟩
      go_wp2_with fail
      (with_reducible refine L1.out.mono ?_)
      rintro e8 w8 ⟨rfl, rfl⟩
      go_wp2_with fail
      (with_reducible refine AW.out.mono ?_)
      rintro e9 w9 ⟨rfl, b9⟩
      go_wp2_with fail
      go_ret
      exact ⟨rfl, K.out.o.b.trans (b9.mono K.out.o.b.size)⟩
end Go.Proofs.YtkodjajhlcbmkaaDoor
