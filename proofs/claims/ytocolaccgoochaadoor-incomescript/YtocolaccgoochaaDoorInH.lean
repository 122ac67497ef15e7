/-
  Package income, as the laws use it: an In beside what was there when the law began; what every program answers that is one.
-/
import Derived.Test.YtocolaccgoochaaDoorInG
import Derived.Test.YtocolaccgoochaaDoorSame
import Derived.Lib.SlBytesConst
namespace Go.Proofs.YtocolaccgoochaaDoor
open Go.RowKit Go.Lib
set_option linter.unusedVariables false

theorem Glob.pos {w : World} (h : Glob w) : 0 < w.heap.size := World.block_lt_of_cell? w ⟨0, 0, none⟩ (h 0 (by decide))
/-- an In of the law's own, in a world that has gone on from w0 -/
structure Rn (w0 w : World) (F : Nat → Prop) (g most N : Nat) (s : InS) : Prop where
  i : InW w F g most N s
  lo : ∀ k, F k → w0.heap.size ≤ k
  hi : ∀ k, F k → k < w.heap.size
  G : Glob w
  b : Below w0.heap.size w0 w
  pos : 0 < w0.heap.size
section
variable {w0 w w' : World} {F : Nat → Prop} {g most N : Nat} {s s' : InS}
theorem Rn.size (R : Rn w0 w F g most N s) : w0.heap.size ≤ w.heap.size := R.b.size
theorem Rn.below (R : Rn w0 w F g most N s) (h : Below w.heap.size w w') : Rn w0 w' F g most N s :=
  ⟨R.i.below h, R.lo, fun k hk => Nat.lt_of_lt_of_le (R.hi k hk) h.size, R.G.below h R.G.pos, R.b.trans (h.mono R.size), R.pos⟩
theorem Rn.drewN (R : Rn w0 w F g most N s) (k : Nat) : Rn w0 (w.drewN k) F g most N s := R.below ⟨rfl, rfl, rfl, Nat.le_refl _, fun _ _ => rfl⟩
theorem Rn.alloc (R : Rn w0 w F g most N s) (o : Obj) : Rn w0 (w.alloc o) F g most N s := R.below ((Below.refl _ _).alloc (Nat.le_refl _) o)
/-- a block of the law's own turned -/
theorem Rn.only {x : Nat} (R : Rn w0 w F g most N s) (h : Only x w w') (hx : ¬ F x) (hx0 : w0.heap.size ≤ x) : Rn w0 w' F g most N s :=
  ⟨R.i.still h.size (fun k hk hl => h.block k hl (fun e => hx (by rw [← e]; exact hk))), R.lo, fun k hk => Nat.lt_of_lt_of_le (R.hi k hk) h.size, R.G.below (h.below R.size hx0) R.pos, R.b.trans (h.below R.size hx0), R.pos⟩
theorem Rn.off (R : Rn w0 w F g most N s) {x : Nat} (h : x < w0.heap.size ∨ w.heap.size ≤ x) : ¬ F x := fun hf => by
  have := R.lo x hf
  have := R.hi x hf
  omega
theorem Rn.mono (R : Rn w0 w F g most N s) {N' : Nat} (h : N ≤ N') : Rn w0 w F g most N' s := ⟨R.i.mono h, R.lo, R.hi, R.G, R.b, R.pos⟩
/-- what a Put leaves of what else is there -/
structure After (F F' : Nat → Prop) (w w' : World) : Prop where
  m : Mvd F w w'
  n : ∀ k, F' k → F k ∨ w.heap.size ≤ k
theorem After.off {F' : Nat → Prop} (h : After F F' w w') {x : Nat} (hx : x < w.heap.size) (hn : ¬ F x) : ¬ F' x := fun hf => by
  rcases h.n x hf with h1 | h1
  · exact hn h1
  · omega
theorem After.sl {F' : Nat → Prop} (h : After F F' w w') {A : Option Addr} {n : Nat} {l : List UInt8} (hs : Sl w w.heap.size A n l) (hA : 0 < n → ∀ a, A = some a → ¬ F a.block) : Sl w' w'.heap.size A n l := h.m.sl hs hA
theorem rn_new (hG : Glob w) (hb : Below w0.heap.size w0 w) (h0 : 0 < w0.heap.size) {z : Int} (m : Nat) (hz : z = (m : Int)) (hm : m ≤ 1048576) :
    Calls Tryd.prog 9 #[.int .i64 z] w fun e w' => ∃ F g, e = .returned (.pointer (some ⟨g, 0, none⟩)) ∧ Rn w0 w' F g m 0 InS.new ∧ Below w.heap.size w w' ∧ ∀ k, F k → w.heap.size ≤ k := by
  subst hz
  refine (new_any w m hm).mono ?_
  rintro e w' ⟨g, rfl, hg, hi, hbw⟩
  exact ⟨_, g, rfl, ⟨hi, fun k hk => Nat.le_trans hb.size hk.1, fun k hk => hk.2, hG.below hbw hG.pos, hb.trans (hbw.mono hb.size), h0⟩, hbw, fun k hk => hk.1⟩
theorem rn_put (R : Rn w0 w F g most N s) {n c : Nat} {off : Int} {A : Option Addr} {l : List UInt8} {e : Bool} (hs : Sl w w.heap.size A n l) (hA : 0 < n → ∀ a, A = some a → ¬ F a.block) (hnc : n ≤ c) (hN : N + n ≤ 1073741824) (hn : n ≤ 1048576) :
    Calls Tryd.prog 11 #[.pointer (some ⟨g, 0, none⟩), .int .i64 off, .slice A n c, .bool e] w fun r w' => ∃ (cd : Nat) (s' : InS) (F' : Nat → Prop), r = .returned (.int .i64 (cd : Int)) ∧ PutR most s off l e cd s' ∧ Rn w0 w' F' g most (N + n) s' ∧ After F F' w w' := by
  refine (put_any R.i R.G (fun k hk => Nat.lt_of_lt_of_le R.pos (R.lo k hk)) hs hA hnc hN hn).mono ?_
  rintro r w' ⟨cd, s', rfl, hP, hi, hm⟩
  have hb := hm.below R.size R.lo
  refine ⟨cd, s', _, rfl, hP, ⟨hi, fun k hk => ?_, fun k hk => ?_, R.G.below hb R.pos, R.b.trans hb, R.pos⟩, ⟨hm, fun k hk => ?_⟩⟩
  · rcases hk with hk | hk
    · exact R.lo k hk
    · have := R.size
      omega
  · rcases hk with hk | hk
    · have := R.hi k hk
      have := hm.size
      omega
    · exact hk.2
  · rcases hk with hk | hk
    · exact .inl hk
    · exact .inr hk.1
/-- one that fits -/
theorem rn_put_ok (R : Rn w0 w F g most N s) {n c : Nat} {off : Int} (o : Nat) (ho : off = (o : Int)) {A : Option Addr} {l : List UInt8} {e : Bool} (hs : Sl w w.heap.size A n l) (hA : 0 < n → ∀ a, A = some a → ¬ F a.block) (hnc : n ≤ c) (hN : N + n ≤ 1073741824) (hn : n ≤ 1048576) (hm : o + l.length ≤ most) (hc : ¬ clashV s o l e) :
    Calls Tryd.prog 11 #[.pointer (some ⟨g, 0, none⟩), .int .i64 off, .slice A n c, .bool e] w fun r w' => ∃ F', r = .returned (.int .i64 0) ∧ Rn w0 w' F' g most (N + n) (putS s o l e) ∧ After F F' w w' := by
  subst ho
  refine (rn_put R (off := (o : Int)) hs hA hnc hN hn).mono ?_
  rintro r w' ⟨cd, s', F', rfl, hP, R', hA'⟩
  obtain ⟨rfl, rfl⟩ := put_same hP (.inr ⟨o, rfl, .inr (.inr ⟨hm, hc, rfl, rfl⟩)⟩)
  exact ⟨F', rfl, R', hA'⟩
theorem rn_put_clash (R : Rn w0 w F g most N s) {n c : Nat} {off : Int} (o : Nat) (ho : off = (o : Int)) {A : Option Addr} {l : List UInt8} {e : Bool} (hs : Sl w w.heap.size A n l) (hA : 0 < n → ∀ a, A = some a → ¬ F a.block) (hnc : n ≤ c) (hN : N + n ≤ 1073741824) (hn : n ≤ 1048576) (hm : o + l.length ≤ most) (hc : clashV s o l e) :
    Calls Tryd.prog 11 #[.pointer (some ⟨g, 0, none⟩), .int .i64 off, .slice A n c, .bool e] w fun r w' => ∃ F', r = .returned (.int .i64 12) ∧ Rn w0 w' F' g most (N + n) s ∧ After F F' w w' := by
  subst ho
  refine (rn_put R (off := (o : Int)) hs hA hnc hN hn).mono ?_
  rintro r w' ⟨cd, s', F', rfl, hP, R', hA'⟩
  obtain ⟨rfl, rfl⟩ := put_same hP (.inr ⟨o, rfl, .inr (.inl ⟨hm, hc, rfl, rfl⟩)⟩)
  exact ⟨F', rfl, R', hA'⟩
theorem rn_put_bound (R : Rn w0 w F g most N s) {n c : Nat} {off : Int} (o : Nat) (ho : off = (o : Int)) {A : Option Addr} {l : List UInt8} {e : Bool} (hs : Sl w w.heap.size A n l) (hA : 0 < n → ∀ a, A = some a → ¬ F a.block) (hnc : n ≤ c) (hN : N + n ≤ 1073741824) (hn : n ≤ 1048576) (hm : most < o + l.length) :
    Calls Tryd.prog 11 #[.pointer (some ⟨g, 0, none⟩), .int .i64 off, .slice A n c, .bool e] w fun r w' => ∃ F', r = .returned (.int .i64 11) ∧ Rn w0 w' F' g most (N + n) s ∧ After F F' w w' := by
  subst ho
  refine (rn_put R (off := (o : Int)) hs hA hnc hN hn).mono ?_
  rintro r w' ⟨cd, s', F', rfl, hP, R', hA'⟩
  obtain ⟨rfl, rfl⟩ := put_same hP (.inr ⟨o, rfl, .inl ⟨hm, rfl, rfl⟩⟩)
  exact ⟨F', rfl, R', hA'⟩
theorem rn_read (R : Rn w0 w F g most N s) (n : Int) :
    Calls Tryd.prog 12 #[.pointer (some ⟨g, 0, none⟩), .int .i64 n] w fun e w' => ∃ A c, e = .returned (.slice A (readN s n) c) ∧ Own w' w.heap.size (.slice A (readN s n) c) (readN s n) (bytesV s (readN s n)) ∧ readN s n ≤ c ∧ c ≤ maxLen ∧ Rn w0 w' F g most N (readS s n) ∧ Only g w w' := by
  refine (read_any R.i n).mono ?_
  rintro e w' ⟨A, c, rfl, ho, h1, h2, hi, hO⟩
  have hg0 : w0.heap.size ≤ g := by
    obtain ⟨b, M, _, _, hF, _⟩ := R.i
    exact R.lo g hF
  exact ⟨A, c, rfl, ho, h1, h2, ⟨hi, R.lo, fun k hk => Nat.lt_of_lt_of_le (R.hi k hk) hO.size, R.G.below (hO.below R.size hg0) R.pos, R.b.trans (hO.below R.size hg0), R.pos⟩, hO⟩
theorem Rn.fg (R : Rn w0 w F g most N s) : F g := by
  obtain ⟨b, M, _, _, hF, _⟩ := R.i
  exact hF
end
theorem sl_const (w : World) (l : List UInt8) (n m : Nat) (hn : l.length = n) : Sl (w.alloc (.cells (bvs l).toArray 5 (n, m))) (w.heap.size + 1) (some ⟨w.heap.size, 0, none⟩) n l := by
  have hg : (w.alloc (.cells (bvs l).toArray 5 (n, m))).heap[w.heap.size]? = some (.cells (bvs l).toArray 5 (n, m)) := heap_alloc_new _ _
  refine ⟨hn, fun _ => ⟨w.heap.size, 0, rfl, by omega, fun j hj => ?_⟩⟩
  have e := cell_of_row _ _ (0 + j) _ _ _ hg
  refine e.trans ?_
  rw [Nat.zero_add]
  simp [bvs, hj]
def awD : List UInt8 := [97, 98, 99]
def aw1 : Nat → Nat := landV 3 (fun _ => 0) 1 (some (0, 2, false))
def aw2 : Nat → Nat := thereV 3 aw1 0 2 false
def aw3 : Nat → Nat := landV 3 aw2 1 (some (2, 3, true))
def aw4 : Nat → Nat := thereV 3 aw3 2 1 true
/-- a text of bytes, as the program lays it -/
theorem lit_conv (w : World) (l : List UInt8) (C : Array Value) (n : Nat) (hC : C = (bvs l).toArray) (hn : l.length = n) :
    ∃ u, (convert 30 30 (.slice (some ⟨w.heap.size, 0, none⟩) n n)).run Tryd.prog (w.alloc (.cells C 5)) = .ok (.slice (some ⟨w.heap.size, 0, none⟩) n n) u ∧ Below w.heap.size w u ∧ Sl u u.heap.size (some ⟨w.heap.size, 0, none⟩) n l ∧ u.heap.size = w.heap.size + 1 := by
  subst hC
  have hcv := Lib.run_convert_bytes_const (P := Tryd.prog) w 30 5 (bvs l).toArray n n Tryd.underlying30 Tryd.underlying5
  have e : (bvs l).toArray.size = n := by rw [List.size_toArray, bvs_length, hn]
  rw [e] at hcv
  refine ⟨_, hcv, (Below.refl w.heap.size w).alloc (Nat.le_refl _) _, ?_, by simp⟩
  have h := sl_const w l n (n + 1) hn
  rw [World.size_alloc]
  exact h
theorem aw_clash : clashV (putS (putS InS.new 2 [99] true) 0 [97, 98] false) 0 [120] false := .inr (.inr ⟨0, by decide, 97, rfl, by decide⟩)
theorem aw_cons : Cons [97, 98, 99] (putS (putS InS.new 2 [99] true) 0 [97, 98] false) ∧ ¬ clashV InS.new 2 [99] true ∧ ¬ clashV (putS InS.new 2 [99] true) 0 [97, 98] false := by
  have h1 := cons_put (d := [99]) (o := 2) (e := true) (cons_new [97, 98, 99]) (by decide) (by decide) (by decide)
  have h2 := cons_put (d := [97, 98]) (o := 0) (e := false) h1.2 (by decide) (by decide) (by decide)
  exact ⟨h2.2, h1.1, h2.1⟩
theorem aw_front0 : readableV (putS InS.new 2 [99] true) = 0 := by decide
theorem aw_front : frontV (putS (putS InS.new 2 [99] true) 0 [97, 98] false) = 3 := by decide
theorem aw_whole : wholeV (putS (putS InS.new 2 [99] true) 0 [97, 98] false) = true := by decide
theorem aw_ended : endedV (putS (putS InS.new 2 [99] true) 0 [97, 98] false) = false := by decide
theorem aw_n : readN (putS (putS InS.new 2 [99] true) 0 [97, 98] false) 9 = 3 := by decide
theorem aw_bytes : bytesV (putS (putS InS.new 2 [99] true) 0 [97, 98] false) 3 = [97, 98, 99] := by decide
theorem aw_ended2 : endedV (readS (putS (putS InS.new 2 [99] true) 0 [97, 98] false) 9) = true := by decide
set_option maxHeartbeats 4000000 in
theorem awake_any (w : World) (hG : Glob w) : Calls Tryd.prog 8 #[] w fun e w' => e = .returned (.bool true) ∧ Below w.heap.size w w' := by
  have HN := Lib.hid (rn_new hG (Below.refl w.heap.size w) hG.pos (z := 10) 10 rfl (by omega))
  have AC := Lib.hid aw_cons
  clear hG
  go_enter Tryd.func8, Tryd.ntmps8
  go_wp2_with fail
  (with_reducible refine (HN.out).mono ?_)
  rintro e1 w1 ⟨F1, g, rfl, R1, hb1, hF1⟩
  obtain ⟨u1, hcv1, bu1, su1, zu1⟩ := lit_conv w1 [99] #[.int .u8 99] 1 rfl rfl
  have hP1 := rn_put_ok (R1.below bu1) (off := 2) (c := 1) (e := true) 2 rfl su1 (fun _ a ha => by cases ha; exact R1.off (.inr (Nat.le_refl _))) (Nat.le_refl _) (by omega) (by omega) (by decide) AC.out.2.1
  have HP1 := Lib.hid hP1
  clear R1 hb1 hF1 bu1 su1 zu1 hP1
  go_wp2_with fail
  (with_reducible refine (HP1.out).mono ?_)
  rintro e2 w2 ⟨F2, rfl, R2, A2⟩
  have HR := Lib.hid (readable_any R2.i)
  have HR2 := Lib.hid R2
  rw [aw_front0] at HR
  clear R2 A2 hcv1
  go_wp2_with fail
  (with_reducible refine (HR.out).mono ?_)
  rintro e3 w3' ⟨rfl, k3, rfl⟩
  obtain ⟨w3, hw3⟩ : ∃ w3, w2.drewN k3 = w3 := ⟨_, rfl⟩
  have R3 : Rn w w3 F2 g 10 (0 + 1) (putS InS.new 2 [99] true) := by rw [← hw3]; exact HR2.out.drewN k3
  rw [hw3]
  obtain ⟨u3, hcv3, bu3, su3, zu3⟩ := lit_conv w3 [97, 98] #[.int .u8 97, .int .u8 98] 2 rfl rfl
  have hP3 := rn_put_ok (R3.below bu3) (off := 0) (c := 2) (e := false) 0 rfl su3 (fun _ a ha => by cases ha; exact R3.off (.inr (Nat.le_refl _))) (Nat.le_refl _) (by omega) (by omega) (by decide) AC.out.2.2
  have HP3 := Lib.hid hP3
  clear R3 bu3 su3 zu3 hP3 hw3 HR HR2
  go_wp2_with fail
  (with_reducible refine (HP3.out).mono ?_)
  rintro e4 w4 ⟨F4, rfl, R4, A4⟩
  obtain ⟨u4, hcv4, bu4, su4, zu4⟩ := lit_conv w4 [120] #[.int .u8 120] 1 rfl rfl
  have hP4 := rn_put_clash (R4.below bu4) (off := 0) (c := 1) (e := false) 0 rfl su4 (fun _ a ha => by cases ha; exact R4.off (.inr (Nat.le_refl _))) (Nat.le_refl _) (by omega) (by omega) (by decide) aw_clash
  have HP4 := Lib.hid hP4
  clear R4 A4 bu4 su4 zu4 hP4 hcv3
  go_wp2_with fail
  (with_reducible refine (HP4.out).mono ?_)
  rintro e5 w5 ⟨F5, rfl, R5, A5⟩
  have HWh := Lib.hid (whole_any R5.i)
  rw [aw_whole] at HWh
  have HR5 := Lib.hid R5
  clear R5 A5 hcv4
  go_wp2_with fail
  (with_reducible refine (HWh.out).mono ?_)
  rintro e6 w6' ⟨rfl, k6, rfl⟩
  have HEn := Lib.hid (ended_any (HR5.out.drewN k6).i)
  rw [aw_ended] at HEn
  go_wp2_with fail
  (with_reducible refine (HEn.out).mono ?_)
  rintro e7 w7' ⟨rfl, k7, rfl⟩
  have hRd := rn_read (HR5.out.drewN (k6 + k7)) 9
  rw [aw_n, aw_bytes] at hRd
  have HRd := Lib.hid hRd
  clear hRd
  go_wp2_with fail
  (with_reducible refine (HRd.out).mono ?_)
  rintro e8 w8 ⟨A8, c8, rfl, ho8, hc8, hm8, R8, hO8⟩
  obtain ⟨u8, hcv8, bu8, su8, zu8⟩ := lit_conv w8 [97, 98, 99] #[.int .u8 97, .int .u8 98, .int .u8 99] 3 rfl rfl
  have hsm := same_yes [97, 98, 99] [97, 98, 99] rfl _ _ 3 3 c8 3 _ _ u8 (ho8.below bu8).sl su8 (by simp [maxLen])
  have HSM := Lib.hid hsm
  have HR8 := Lib.hid (R8.below bu8)
  clear ho8 hc8 hm8 R8 hO8 bu8 su8 zu8 hsm
  go_wp2_with fail
  (with_reducible refine (HSM.out).mono ?_)
  rintro e9 w9' ⟨rfl, k9, rfl⟩
  have HE9 := Lib.hid (ended_any (HR8.out.drewN k9).i)
  rw [aw_ended2] at HE9
  clear hcv8
  go_wp2_with fail
  (with_reducible refine (HE9.out).mono ?_)
  rintro e10 w10' ⟨rfl, k10, rfl⟩
  obtain ⟨w10, hw10⟩ : ∃ w10, (u8.drewN k9).drewN k10 = w10 := ⟨_, rfl⟩
  have R10 : Rn w w10 F5 g 10 (0 + 1 + 2 + 1) (readS (putS (putS InS.new 2 [99] true) 0 [97, 98] false) 9) := by rw [← hw10]; exact (HR8.out.drewN k9).drewN k10
  rw [hw10]
  obtain ⟨u10, hcv10, bu10, su10, zu10⟩ := lit_conv w10 [120, 121] #[.int .u8 120, .int .u8 121] 2 rfl rfl
  have hP10 := rn_put_bound (R10.below bu10) (off := 9) (c := 2) (e := false) 9 rfl su10 (fun _ a ha => by cases ha; exact R10.off (.inr (Nat.le_refl _))) (Nat.le_refl _) (by omega) (by omega) (by decide)
  have HP10 := Lib.hid hP10
  clear R10 bu10 su10 zu10 hP10 hw10
  go_wp2_with fail
  (with_reducible refine (HP10.out).mono ?_)
  rintro e11 w11 ⟨F11, rfl, R11, A11⟩
  have HB := Lib.hid R11.b
  have HNN := Lib.hid (new_no w11 (-1) (.inl (by omega)))
  clear R11 A11 hcv10
  go_wp2_with fail
  (with_reducible refine (HNN.out).mono ?_)
  rintro e12 w12 ⟨rfl, rfl⟩
  go_wp2_with fail
  go_ret
  exact ⟨rfl, HB.out⟩
end Go.Proofs.YtocolaccgoochaaDoor
