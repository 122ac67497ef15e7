/-
  Package outgo, as the laws use it: an Out beside what was there when the law began; what every program answers that is one.
-/
import Derived.Test.YtkodjajhlcbmkaaDoorOuG
import Derived.Test.YtkodjajhlcbmkaaDoorSame
import Derived.Lib.SlBytesConst
namespace Go.Proofs.YtkodjajhlcbmkaaDoor
open Go.RowKit Go.Lib
set_option linter.unusedVariables false

theorem wf_i64 {a : Int} (h0 : -9223372036854775808 ≤ a) (h1 : a ≤ 9223372036854775807) : (Lit.int .i64 a).wf = true := by
  simp [Lit.wf, IntKind.min, IntKind.max, IntKind.signed, IntKind.bits]
  omega
theorem OuM.cong {n sent left low e : Nat} {p q : Nat → Bool} {s s' : Nat → Nat} (h : OuM n sent left low e p q s) (hs : ∀ i, i ≤ n → s i = s' i) : OuM n sent left low e p q s' :=
  ⟨fun i hi => by rw [← hs i (by omega)]; exact h.new i hi, fun i hi => by rw [← hs i (by omega)]; exact h.lost i hi, fun i hi => by rw [← hs i (by omega)]; exact h.there i hi, fun i hi => by rw [← hs i hi]; exact h.three i hi,
    fun i hi => by have := h.lo; have := h.sn; rw [← hs i (by omega)]; exact h.lw i hi, h.lf.trans (cnt_same fun i hi => by rw [hs i (by omega)]), by rw [← hs n (Nat.le_refl _)]; exact h.en, h.sn, h.lo, by rw [← hs n (Nat.le_refl _)]; exact h.e0, by rw [← hs n (Nat.le_refl _)]; exact h.e1⟩
theorem OutS.cong {w : World} {B g n : Nat} {D : List UInt8} {s s' : Nat → Nat} (h : OutS w B g n D s) (hs : ∀ i, i ≤ n → s i = s' i) : OutS w B g n D s' := by
  obtain ⟨gl, gt, k, A, c, sent, left, low, e, p, q, h1, h2⟩ := h
  exact ⟨gl, gt, k, A, c, sent, left, low, e, p, q, h1, h2.cong hs⟩
theorem OutS.n6 {w : World} {B g n : Nat} {D : List UInt8} {s : Nat → Nat} (h : OutS w B g n D s) : n ≤ 1000000 := by
  obtain ⟨gl, gt, k, A, c, sent, left, low, e, p, q, h1, h2⟩ := h
  exact h1.n6
/-- an Out of the law's own, in a world that has gone on from w0 -/
structure Rn (w0 w : World) (B g n : Nat) (D : List UInt8) (s : Nat → Nat) : Prop where
  o : OutS w B g n D s
  G : Glob w
  b : Below w0.heap.size w0 w
  le : w0.heap.size ≤ B
  pos : 0 < w0.heap.size
section
variable {w0 w w' : World} {B g n : Nat} {D : List UInt8} {s s' : Nat → Nat}
theorem Glob.pos {w : World} (h : Glob w) : 0 < w.heap.size := World.block_lt_of_cell? w ⟨0, 0, none⟩ (h 0 (by decide))
theorem Rn.Bsize (R : Rn w0 w B g n D s) : B ≤ w.heap.size := by have := R.o.lt; omega
theorem Rn.step (R : Rn w0 w B g n D s) (h : OutS w' B g n D s') (m : Mv B (g + 1) w w') : Rn w0 w' B g n D s' :=
  ⟨h, R.G.below (m.below R.Bsize) (by have := R.le; have := R.pos; omega), R.b.trans ((m.below R.Bsize).mono R.le), R.le, R.pos⟩
theorem Rn.below (R : Rn w0 w B g n D s) (h : Below w.heap.size w w') : Rn w0 w' B g n D s :=
  ⟨R.o.below (h.mono (by have := R.o.lt; omega)), R.G.below h (by have := R.o.lt; omega), R.b.trans (h.mono R.b.size), R.le, R.pos⟩
/-- a block of the law's own turned, made behind it -/
theorem Rn.only {x : Nat} (R : Rn w0 w B g n D s) (h : Only x w w') (hx : g < x) (hx2 : x < w.heap.size) : Rn w0 w' B g n D s :=
  have hb : Below (g + 1) w w' := h.below (by omega) (by omega)
  ⟨R.o.below hb, R.G.below hb (by omega), R.b.trans (hb.mono (by have := R.o.lt; have := R.le; omega)), R.le, R.pos⟩
theorem Rn.drewN (R : Rn w0 w B g n D s) (k : Nat) : Rn w0 (w.drewN k) B g n D s := R.below ⟨rfl, rfl, rfl, Nat.le_refl _, fun _ _ => rfl⟩
theorem Rn.alloc (R : Rn w0 w B g n D s) (o : Obj) : Rn w0 (w.alloc o) B g n D s := R.below ((Below.refl _ _).alloc (Nat.le_refl _) o)
theorem Rn.cong (R : Rn w0 w B g n D s) (hs : ∀ i, i ≤ n → s i = s' i) : Rn w0 w B g n D s' := ⟨R.o.cong hs, R.G, R.b, R.le, R.pos⟩
theorem rn_new {A0 : Option Addr} {c0 B0 : Nat} (h : Sl w B0 A0 n D) (hB : B0 ≤ w.heap.size) (hn : n ≤ 1000000) (hG : Glob w) (hb : Below w0.heap.size w0 w) (h0 : 0 < w0.heap.size) :
    Calls Tryd.prog 10 #[.slice A0 n c0] w fun e w' => ∃ g, e = .returned (.pointer (some ⟨g, 0, none⟩)) ∧ Rn w0 w' w.heap.size g n D (fun _ => 0) ∧ Below w.heap.size w w' ∧ g + 1 = w'.heap.size := by
  refine (onew_any h hB hn).mono ?_
  rintro e w' ⟨g, gl, gt, k, A, c, rfl, ho, hbw, hg⟩
  exact ⟨g, rfl, ⟨⟨gl, gt, k, A, c, 0, n, 0, 0, _, _, ho, OuM.start n⟩, hG.below hbw hG.pos, hb.trans (hbw.mono hb.size), hb.size, h0⟩, hbw, hg⟩
theorem rn_none (R : Rn w0 w B g n D s) {room allow : Int} (hr : (Lit.int .i64 room).wf = true) (ha : (Lit.int .i64 allow).wf = true) (hv : nextV n s room allow = none) :
    Calls Tryd.prog 13 #[.pointer (some ⟨g, 0, none⟩), .int .i64 room, .int .i64 allow] w
      fun e w' => e = .returned (.tuple #[.int .i64 0, .slice none 0 0, .bool false, .bool false]) ∧ Rn w0 w' B g n D s ∧ Mv B (g + 1) w w' := by
  refine (onext_none R.o R.G room allow hr ha hv).mono ?_
  rintro e w' ⟨rfl, ho, m⟩
  exact ⟨rfl, R.step ho m, m⟩
/-- f to t, told, the end with it if b -/
theorem rn_some (R : Rn w0 w B g n D s) {room allow : Int} (hr : (Lit.int .i64 room).wf = true) (ha : (Lit.int .i64 allow).wf = true) {f t : Nat} {b : Bool} (hv : nextV n s room allow = some (f, t, b))
    (hs : ∀ i, i ≤ n → landV n s 1 (some (f, t, b)) i = s' i) :
    Calls Tryd.prog 13 #[.pointer (some ⟨g, 0, none⟩), .int .i64 room, .int .i64 allow] w
      fun e w' => ∃ A1 c1, e = .returned (.tuple #[.int .i64 (f : Int), .slice A1 (t - f) c1, .bool b, .bool true]) ∧ Own w' w.heap.size (.slice A1 (t - f) c1) (t - f) ((D.drop f).take (t - f)) ∧ (t - f ≤ c1 ∧ c1 ≤ maxLen) ∧ f ≤ t ∧ t ≤ n ∧
        Rn w0 w' B g n D s' ∧ Mv B (g + 1) w w' := by
  refine (onext_some R.o R.G room allow hr ha hv).mono ?_
  rintro e w' ⟨A1, c1, rfl, ho, hc, h1, h2, hO, m⟩
  exact ⟨A1, c1, rfl, ho, hc, h1, h2, R.step (hO.cong hs) m, m⟩
theorem rn_there (R : Rn w0 w B g n D s) {off m : Int} (b : Bool) (h1 : (Lit.int .i64 off).wf = true) (h2 : (Lit.int .i64 m).wf = true) (hs : ∀ i, i ≤ n → thereV n s off m b i = s' i) :
    Calls Tryd.prog 16 #[.pointer (some ⟨g, 0, none⟩), .int .i64 off, .int .i64 m, .bool b] w
      fun e w' => e = .returned (.tuple #[]) ∧ Rn w0 w' B g n D s' ∧ Mv B (g + 1) w w' := by
  refine (othere_any R.o off m b h1 h2).mono ?_
  rintro e w' ⟨rfl, ho, m⟩
  exact ⟨rfl, R.step (ho.cong hs) m, m⟩
theorem rn_lost (R : Rn w0 w B g n D s) {off m : Int} (b : Bool) (h1 : (Lit.int .i64 off).wf = true) (h2 : (Lit.int .i64 m).wf = true) (hs : ∀ i, i ≤ n → lostV n s off m b i = s' i) :
    Calls Tryd.prog 18 #[.pointer (some ⟨g, 0, none⟩), .int .i64 off, .int .i64 m, .bool b] w
      fun e w' => e = .returned (.tuple #[]) ∧ Rn w0 w' B g n D s' ∧ Mv B (g + 1) w w' := by
  refine (olost_any R.o off m b h1 h2).mono ?_
  rintro e w' ⟨rfl, ho, m⟩
  exact ⟨rfl, R.step (ho.cong hs) m, m⟩
theorem rn_sent (R : Rn w0 w B g n D s) (z : Int) (hz : (sentV n s : Int) = z) : Calls Tryd.prog 21 #[.pointer (some ⟨g, 0, none⟩)] w fun e w' => e = .returned (.int .i64 z) ∧ w = w' := by
  obtain ⟨gl, gt, k, A, c, sent, left, low, e, p, q, h1, h2⟩ := R.o
  subst hz
  rw [h2.sent]
  exact osent_any h1
theorem rn_left (R : Rn w0 w B g n D s) (z : Int) (hz : (leftV n s : Int) = z) : Calls Tryd.prog 22 #[.pointer (some ⟨g, 0, none⟩)] w fun e w' => e = .returned (.int .i64 z) ∧ w = w' := by
  obtain ⟨gl, gt, k, A, c, sent, left, low, e, p, q, h1, h2⟩ := R.o
  subst hz
  rw [← h2.lf]
  exact oleft_any h1
theorem rn_done (R : Rn w0 w B g n D s) (z : Bool) (hz : doneV n s = z) : Calls Tryd.prog 23 #[.pointer (some ⟨g, 0, none⟩)] w fun e w' => e = .returned (.bool z) ∧ w = w' := by
  obtain ⟨gl, gt, k, A, c, sent, left, low, e, p, q, h1, h2⟩ := R.o
  subst hz
  exact odone_any h1 _ h2.done
end

/-- a slice of the law's own, behind an Out that moves -/
theorem Own.mv {w w' : World} {B C M n : Nat} {v : Value} {l : List UInt8} (h : Own w M v n l) (m : Mv B C w w') (hM : C ≤ M) : Own w' M v n l := by
  rcases h with ⟨h1, h2⟩
  refine ⟨h1, h2.imp id fun ⟨x, cap, cur, e, hb, hx, r⟩ => ⟨x, cap, cur, e, hb, ?_, r⟩⟩
  exact (m.block x (Array.getElem?_eq_some_iff.1 hx).1 (.inr (by omega))).trans hx
theorem sl_const (w : World) (l : List UInt8) (n m : Nat) (hn : l.length = n) : Sl (w.alloc (.cells (bvs l).toArray 5 (n, m))) (w.heap.size + 1) (some ⟨w.heap.size, 0, none⟩) n l := by
  have hg : (w.alloc (.cells (bvs l).toArray 5 (n, m))).heap[w.heap.size]? = some (.cells (bvs l).toArray 5 (n, m)) := heap_alloc_new _ _
  refine ⟨hn, fun _ => ⟨w.heap.size, 0, rfl, by omega, fun j hj => ?_⟩⟩
  have e := cell_of_row _ _ (0 + j) _ _ _ hg
  refine e.trans ?_
  rw [Nat.zero_add]
  simp [bvs, hj]
def awD : List UInt8 := [97, 98, 99]
def aw1 : Nat → Nat := landV 3 (fun _ => 0) 1 (some (0, 2, false))
def aw2 : Nat → Nat := thereV 3 aw1 0 2 false
def aw3 : Nat → Nat := landV 3 aw2 1 (some (2, 3, true))
def aw4 : Nat → Nat := thereV 3 aw3 2 1 true
theorem aw_n1 : nextV 3 (fun _ => 0) 2 9 = some (0, 2, false) := by decide
theorem aw_n2 : nextV 3 aw2 9 9 = some (2, 3, true) := by decide
theorem aw_d : doneV 3 aw4 = true ∧ sentV 3 aw4 = 3 ∧ leftV 3 aw4 = 0 := by decide
set_option maxHeartbeats 2000000 in
theorem awake_any (w : World) (hG : Glob w) : Calls Tryd.prog 8 #[] w fun e w' => e = .returned (.bool true) ∧ Below w.heap.size w w' := by
  have hcv := Lib.run_convert_bytes_const (P := Tryd.prog) w 22 5 #[.int .u8 97, .int .u8 98, .int .u8 99] 3 3 Tryd.underlying22 Tryd.underlying5
  simp only [List.size_toArray, List.length_cons, List.length_nil, Nat.zero_add, Nat.reduceAdd] at hcv
  obtain ⟨u, hu⟩ : ∃ u, w.alloc (.cells #[.int .u8 97, .int .u8 98, .int .u8 99] 5 (3, 4)) = u := ⟨_, rfl⟩
  have bu : Below w.heap.size w u := hu ▸ (Below.refl w.heap.size w).alloc (Nat.le_refl _) _
  have su : Sl u (w.heap.size + 1) (some ⟨w.heap.size, 0, none⟩) 3 awD := hu ▸ sl_const w awD 3 4 rfl
  have zu : w.heap.size + 1 ≤ u.heap.size := hu ▸ (by simp)
  have N : Hid (Calls Tryd.prog 10 #[.slice (some ⟨w.heap.size, 0, none⟩) 3 3] u fun e w' => ∃ g, e = .returned (.pointer (some ⟨g, 0, none⟩)) ∧ Rn w w' u.heap.size g 3 awD (fun _ => 0) ∧ Below u.heap.size u w' ∧ g + 1 = w'.heap.size) :=
    rn_new su zu (by omega) (hG.below bu hG.pos) bu hG.pos
  rw [hu] at hcv
  have HU := Lib.hid hu
  clear hG bu su zu
  go_enter Tryd.func8, Tryd.ntmps8
  go_wp2_with fail
  (with_reducible refine N.out.mono ?_)
  rintro e1 w1 ⟨g, rfl, r1, b1, hg1⟩
  have R1 := Lib.hid r1
  have P1 : Hid (Calls Tryd.prog 13 #[.pointer (some ⟨g, 0, none⟩), .int .i64 2, .int .i64 9] w1
      fun e w' => ∃ A1 c1, e = .returned (.tuple #[.int .i64 0, .slice A1 2 c1, .bool false, .bool true]) ∧ Own w' w1.heap.size (.slice A1 2 c1) 2 [97, 98] ∧ (2 ≤ c1 ∧ c1 ≤ maxLen) ∧ 0 ≤ 2 ∧ 2 ≤ 3 ∧ Rn w w' u.heap.size g 3 awD aw1 ∧ Mv u.heap.size (g + 1) w1 w') :=
    rn_some (f := 0) (t := 2) r1 (by decide) (by decide) aw_n1 (fun _ _ => rfl)
  clear r1 b1 hg1 hcv
  go_wp2_with fail
  (with_reducible refine P1.out.mono ?_)
  rintro e2 w2 ⟨A1, c1, rfl, o2, _, _, _, r2, m2⟩
  have R2 := Lib.hid r2
  have Q2 : Hid (w1.heap.size ≤ w2.heap.size ∧ g < w1.heap.size) := ⟨m2.size, R1.out.o.lt.2⟩
  have O2 := Lib.hid o2
  have P2 := Lib.hid (rn_there (s' := aw2) (off := 0) (m := 2) r2 false (by decide) (by decide) (fun _ _ => rfl))
  clear o2 r2 m2
  go_wp2_with fail
  (with_reducible refine P2.out.mono ?_)
  rintro e3 w3 ⟨rfl, r3, m3⟩
  have O3 : Hid (Own w3 w1.heap.size (.slice A1 2 c1) 2 [97, 98]) := O2.out.mv m3 Q2.out.2
  have R3 := Lib.hid r3
  have P3 : Hid (Calls Tryd.prog 13 #[.pointer (some ⟨g, 0, none⟩), .int .i64 9, .int .i64 9] w3
      fun e w' => ∃ A1 c1, e = .returned (.tuple #[.int .i64 2, .slice A1 1 c1, .bool true, .bool true]) ∧ Own w' w3.heap.size (.slice A1 1 c1) 1 [99] ∧ (1 ≤ c1 ∧ c1 ≤ maxLen) ∧ 2 ≤ 3 ∧ 3 ≤ 3 ∧ Rn w w' u.heap.size g 3 awD aw3 ∧ Mv u.heap.size (g + 1) w3 w') :=
    rn_some (f := 2) (t := 3) r3 (by decide) (by decide) aw_n2 (fun _ _ => rfl)
  clear r3 m3 P1 P2 O2
  go_wp2_with fail
  (with_reducible refine P3.out.mono ?_)
  rintro e4 w4 ⟨A2, c2, rfl, _, _, _, _, r4, m4⟩
  have O4 : Hid (Own w4 w1.heap.size (.slice A1 2 c1) 2 [97, 98]) := O3.out.mv m4 Q2.out.2
  have R4 := Lib.hid r4
  have P4 := Lib.hid (rn_there (s' := aw4) (off := 2) (m := 1) r4 true (by decide) (by decide) (fun _ _ => rfl))
  clear r4 m4 P3 O3
  go_wp2_with fail
  (with_reducible refine P4.out.mono ?_)
  rintro e5 w5 ⟨rfl, r5, m5⟩
  have O5 : Hid (Own w5 w1.heap.size (.slice A1 2 c1) 2 [97, 98]) := O4.out.mv m5 Q2.out.2
  have R5 := Lib.hid r5
  have hcv2 := Lib.run_convert_bytes_const (P := Tryd.prog) w5 22 5 #[.int .u8 97, .int .u8 98] 2 2 Tryd.underlying22 Tryd.underlying5
  simp only [List.size_toArray, List.length_cons, List.length_nil, Nat.zero_add, Nat.reduceAdd] at hcv2
  obtain ⟨u6, hu6⟩ : ∃ u6, w5.alloc (.cells #[.int .u8 97, .int .u8 98] 5 (2, 3)) = u6 := ⟨_, rfl⟩
  have b6 : Below w5.heap.size w5 u6 := hu6 ▸ (Below.refl w5.heap.size w5).alloc (Nat.le_refl _) _
  have s6 : Sl u6 (w5.heap.size + 1) (some ⟨w5.heap.size, 0, none⟩) 2 [97, 98] := hu6 ▸ sl_const w5 [97, 98] 2 3 rfl
  have R6 : Hid (∀ k, Rn w (u6.drewN k) u.heap.size g 3 awD aw4) := fun k => (r5.below b6).drewN k
  have S6 := Lib.hid (same_yes [97, 98] [97, 98] rfl _ _ 2 2 c1 2 _ _ u6 (O5.out.below b6).sl s6 (by simp [maxLen]))
  rw [hu6] at hcv2
  clear r5 m5 P4 O4 b6 s6 hu6
  go_wp2_with fail
  (with_reducible refine S6.out.mono ?_)
  rintro e6 w6 ⟨rfl, k6, rfl⟩
  have D6 := Lib.hid (rn_done (R6.out k6) true aw_d.1)
  have T6 : Hid (Calls Tryd.prog 21 #[.pointer (some ⟨g, 0, none⟩)] (u6.drewN k6) fun e w' => e = .returned (.int .i64 3) ∧ u6.drewN k6 = w') := rn_sent (R6.out k6) 3 (by rw [aw_d.2.1]; rfl)
  have L6 : Hid (Calls Tryd.prog 22 #[.pointer (some ⟨g, 0, none⟩)] (u6.drewN k6) fun e w' => e = .returned (.int .i64 0) ∧ u6.drewN k6 = w') := rn_left (R6.out k6) 0 (by rw [aw_d.2.2]; rfl)
  go_wp2_with fail
  (with_reducible refine D6.out.mono ?_)
  rintro e7 w7 ⟨rfl, rfl⟩
  go_wp2_with fail
  (with_reducible refine T6.out.mono ?_)
  rintro e8 w8 ⟨rfl, rfl⟩
  go_wp2_with fail
  (with_reducible refine L6.out.mono ?_)
  rintro e9 w9 ⟨rfl, rfl⟩
  go_wp2_with fail
  go_ret
  exact ⟨rfl, (R6.out k6).b⟩
end Go.Proofs.YtkodjajhlcbmkaaDoor
