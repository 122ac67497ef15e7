/-
  Package outgo: what an Out holds in memory; New, Sent, Left, Done, span, pick.
-/
import Derived.Test.YtkodjajhlcbmkaaDoorOuC
import Derived.Test.YtkodjajhlcbmkaaDoorOuE
namespace Go.Proofs.YtkodjajhlcbmkaaDoor
open Go.RowKit Go.Lib
set_option linter.unusedVariables false

/-- nothing but what lies from B on, below C, has turned of what was there -/
structure Mv (B C : Nat) (w w' : World) : Prop where
  os : w'.os = w.os
  tape : w'.tape = w.tape
  output : w'.output = w.output
  size : w.heap.size ≤ w'.heap.size
  block : ∀ k, k < w.heap.size → (k < B ∨ C ≤ k) → w'.heap[k]? = w.heap[k]?
theorem Mv.refl (B C : Nat) (w : World) : Mv B C w w := ⟨rfl, rfl, rfl, Nat.le_refl _, fun _ _ _ => rfl⟩
theorem Mv.trans {B C : Nat} {a b c : World} (h : Mv B C a b) (k : Mv B C b c) : Mv B C a c :=
  ⟨k.os.trans h.os, k.tape.trans h.tape, k.output.trans h.output, Nat.le_trans h.size k.size, fun i hi hc => (k.block i (Nat.lt_of_lt_of_le hi h.size) hc).trans (h.block i hi hc)⟩
theorem Mv.of_below {B C : Nat} {w w' : World} (h : Below w.heap.size w w') : Mv B C w w' := ⟨h.os, h.tape, h.output, h.size, fun k hk _ => h.block k hk⟩
theorem Mv.of_only {B C g : Nat} {w w' : World} (h : Only g w w') (h1 : B ≤ g) (h2 : g < C) : Mv B C w w' := ⟨h.os, h.tape, h.output, h.size, fun k hk hc => h.block k hk (by omega)⟩
theorem Mv.below {B C : Nat} {w w' : World} (h : Mv B C w w') (hB : B ≤ w.heap.size) : Below B w w' := ⟨h.os, h.tape, h.output, h.size, fun k hk => h.block k (by omega) (.inl hk)⟩
theorem Mv.drewN {B C : Nat} {w w' : World} (h : Mv B C w w') (k : Nat) : Mv B C w (w'.drewN k) := ⟨h.os, h.tape, h.output, h.size, h.block⟩
theorem Mv.drew {B C : Nat} {w w' : World} (h : Mv B C w w') : Mv B C w w'.drew := ⟨h.os, h.tape, h.output, h.size, h.block⟩
theorem Sl.keepR {w w' : World} {B C n : Nat} {A : Option Addr} {l : List UInt8} (h : Sl w B A n l) (hA : ∀ a, A = some a → C ≤ a.block) (hk : ∀ i, C ≤ i → i < B → w'.heap[i]? = w.heap[i]?) : Sl w' B A n l :=
  ⟨h.1, fun hn => by
    obtain ⟨b, off, e, hb, hc⟩ := h.2 hn
    exact ⟨b, off, e, hb, fun j hj => (World.cell?_of_block (hk b (hA _ e) hb)).trans (hc j hj)⟩⟩

/-- the Out at block g: the data's slice, its marks at gl and gt, its numbers -/
structure OutW (w : World) (B g gl gt k : Nat) (A : Option Addr) (n c : Nat) (D : List UInt8) (sent left low e : Nat) (p q : Nat → Bool) : Prop where
  r : Rw w g 53 [.slice A n c, .int .i64 (sent : Int), .int .i64 (left : Int), .slice (some ⟨gl, 0, none⟩) k k, .slice (some ⟨gt, 0, none⟩) k k, .int .i64 (low : Int), .int .i64 (e : Int)]
  d : Sl w gl A n D
  dB : ∀ a, A = some a → B ≤ a.block
  l : MkW w gl k p
  t : MkW w gt k q
  b1 : B ≤ gl
  b2 : gl < gt
  b3 : gt < g
  kn : n ≤ 64 * k
  n6 : n ≤ 1000000
  nc : n ≤ c
  cm : c ≤ maxLen
section
variable {w w' : World} {B g gl gt k n c sent left low e : Nat} {A : Option Addr} {D : List UInt8} {p q : Nat → Bool}
theorem MkW.keep {w w' : World} {g k : Nat} {p : Nat → Bool} (h : MkW w g k p) (hk : w'.heap[g]? = w.heap[g]?) : MkW w' g k p := by
  obtain ⟨ws, h1, h2⟩ := h
  exact ⟨ws, hk.trans h1, h2⟩
theorem OutW.keep (h : OutW w B g gl gt k A n c D sent left low e p q) (hk : ∀ i, B ≤ i → i ≤ g → w'.heap[i]? = w.heap[i]?) : OutW w' B g gl gt k A n c D sent left low e p q := by
  have h1 := h.b1
  have h2 := h.b2
  have h3 := h.b3
  exact ⟨(hk g (by omega) (by omega)).trans h.r, h.d.keepR h.dB fun i a b => hk i a (by omega), h.dB, h.l.keep (hk gl (by omega) (by omega)), h.t.keep (hk gt (by omega) (by omega)), h.b1, h.b2, h.b3, h.kn, h.n6, h.nc, h.cm⟩
theorem OutW.lt (h : OutW w B g gl gt k A n c D sent left low e p q) : g < w.heap.size := h.r.lt
theorem OutW.drewN (h : OutW w B g gl gt k A n c D sent left low e p q) (m : Nat) : OutW (w.drewN m) B g gl gt k A n c D sent left low e p q := h.keep fun _ _ _ => rfl
theorem OutW.cells (h : OutW w B g gl gt k A n c D sent left low e p q) : w.cell? ⟨g, 0, none⟩ = some (.slice A n c) ∧ w.cell? ⟨g, 1, none⟩ = some (.int .i64 (sent : Int)) ∧ w.cell? ⟨g, 2, none⟩ = some (.int .i64 (left : Int)) ∧
    w.cell? ⟨g, 3, none⟩ = some (.slice (some ⟨gl, 0, none⟩) k k) ∧ w.cell? ⟨g, 4, none⟩ = some (.slice (some ⟨gt, 0, none⟩) k k) ∧ w.cell? ⟨g, 5, none⟩ = some (.int .i64 (low : Int)) ∧ w.cell? ⟨g, 6, none⟩ = some (.int .i64 (e : Int)) :=
  ⟨h.r.cell 0 _ rfl, h.r.cell 1 _ rfl, h.r.cell 2 _ rfl, h.r.cell 3 _ rfl, h.r.cell 4 _ rfl, h.r.cell 5 _ rfl, h.r.cell 6 _ rfl⟩
/-- the marks of the lost ones turned -/
theorem OutW.setL {p' : Nat → Bool} (h : OutW w B g gl gt k A n c D sent left low e p q) (hl : MkW w' gl k p') (ho : Only gl w w') : OutW w' B g gl gt k A n c D sent left low e p' q :=
  ⟨h.r.only ho (by have := h.b2; have := h.b3; omega), h.d.only ho (Nat.le_refl _) h.l.lt, h.dB, hl, h.t.only ho (by have := h.b2; omega), h.b1, h.b2, h.b3, h.kn, h.n6, h.nc, h.cm⟩
theorem OutW.setT {q' : Nat → Bool} (h : OutW w B g gl gt k A n c D sent left low e p q) (ht : MkW w' gt k q') (ho : Only gt w w') : OutW w' B g gl gt k A n c D sent left low e p q' :=
  ⟨h.r.only ho (by have := h.b3; omega), h.d.only ho (by have := h.b2; omega) h.t.lt, h.dB, h.l.only ho (by have := h.b2; omega), ht, h.b1, h.b2, h.b3, h.kn, h.n6, h.nc, h.cm⟩
/-- its own cells turned -/
theorem OutW.setR {sent' left' low' e' : Nat} (h : OutW w B g gl gt k A n c D sent left low e p q)
    (hr : Rw w' g 53 [.slice A n c, .int .i64 (sent' : Int), .int .i64 (left' : Int), .slice (some ⟨gl, 0, none⟩) k k, .slice (some ⟨gt, 0, none⟩) k k, .int .i64 (low' : Int), .int .i64 (e' : Int)]) (ho : Only g w w') :
    OutW w' B g gl gt k A n c D sent' left' low' e' p q :=
  ⟨hr, h.d.only ho (by have := h.b2; have := h.b3; omega) h.r.lt, h.dB, h.l.only ho (by have := h.b2; have := h.b3; omega), h.t.only ho (by have := h.b3; omega), h.b1, h.b2, h.b3, h.kn, h.n6, h.nc, h.cm⟩
end
set_option maxHeartbeats 1000000 in
theorem onew_any {w : World} {A0 : Option Addr} {n c0 B0 : Nat} {D : List UInt8} (h : Sl w B0 A0 n D) (hB : B0 ≤ w.heap.size) (hn : n ≤ 1000000) :
    Calls Tryd.prog 10 #[.slice A0 n c0] w fun e w' => ∃ g gl gt k A c, e = .returned (.pointer (some ⟨g, 0, none⟩)) ∧ OutW w' w.heap.size g gl gt k A n c D 0 n 0 0 (fun _ => false) (fun _ => false) ∧ Below w.heap.size w w' ∧ g + 1 = w'.heap.size := by
  have C1 := clone_any A0 n c0 B0 D w h hB hn
  have N1 := newMarks_any n hn
  obtain ⟨k, hk⟩ : ∃ k, (n + 63) / 64 = k := ⟨_, rfl⟩
  rw [hk] at N1
  have HK : Hid (n ≤ 64 * k) := by show _ ≤ _; omega
  have C := Lib.hid C1
  have N := Lib.hid N1
  clear C1 N1 hk h
  go_enter Tryd.func10, Tryd.ntmps10
  go_wp2_with fail
  (with_reducible refine C.out.mono ?_)
  rintro e1 w1 ⟨A, c, rfl, ho, hnc, hcm, b1⟩
  have HO := Lib.hid ho
  have B1 := Lib.hid b1
  have NC := Lib.hid hnc
  have CM := Lib.hid hcm
  clear ho b1 hnc hcm
  go_wp2_with fail
  (with_reducible refine (N.out w1).mono ?_)
  rintro e2 w2 ⟨rfl, m2, b2⟩
  have M2 := Lib.hid m2
  have B2 := Lib.hid b2
  clear m2 b2
  go_wp2_with fail
  (with_reducible refine (N.out w2).mono ?_)
  rintro e3 w3 ⟨rfl, m3, b3⟩
  have M3 := Lib.hid m3
  have B3 := Lib.hid b3
  clear m3 b3
  go_wp2_with fail
  go_ret
  have s1 := M2.out.lt
  have s2 := M3.out.lt
  have s0 := B1.out.size
  have ha := (Below.refl w3.heap.size w3).alloc (Nat.le_refl _) (.cells #[.slice A n c, .int .i64 0, .int .i64 (n : Int), .slice (some ⟨w1.heap.size, 0, none⟩) k k, .slice (some ⟨w2.heap.size, 0, none⟩) k k, .int .i64 0, .int .i64 0] 53)
  exact ⟨w3.heap.size, w1.heap.size, w2.heap.size, k, A, c, rfl, ⟨heap_alloc_new w3 _, ((HO.out.sl.below B2.out).below (B3.out.mono (by omega))).below (ha.mono (by omega)), fun a ha' => (HO.out.blk a ha').1, (M2.out.below B3.out).below ha, M3.out.below ha, s0, s1, s2, HK.out, hn, NC.out, CM.out⟩,
    ((B1.out.trans (B2.out.mono s0)).trans (B3.out.mono (by omega))).trans (ha.mono (by omega)), by simp⟩
section
variable {w : World} {B g gl gt k n c sent left low e : Nat} {A : Option Addr} {D : List UInt8} {p q : Nat → Bool}
theorem osent_any (h : OutW w B g gl gt k A n c D sent left low e p q) : Calls Tryd.prog 21 #[.pointer (some ⟨g, 0, none⟩)] w fun e w' => e = .returned (.int .i64 (sent : Int)) ∧ w = w' := by
  obtain ⟨_, c1, _⟩ := h.cells
  clear h
  go_enter Tryd.func21, Tryd.ntmps21
  go_wp2_with fail
  go_ret
  exact ⟨rfl, rfl⟩
theorem oleft_any (h : OutW w B g gl gt k A n c D sent left low e p q) : Calls Tryd.prog 22 #[.pointer (some ⟨g, 0, none⟩)] w fun e w' => e = .returned (.int .i64 (left : Int)) ∧ w = w' := by
  obtain ⟨_, _, c2, _⟩ := h.cells
  clear h
  go_enter Tryd.func22, Tryd.ntmps22
  go_wp2_with fail
  go_ret
  exact ⟨rfl, rfl⟩
theorem odone_any (h : OutW w B g gl gt k A n c D sent left low e p q) (b : Bool) (hb : (decide (left = 0) && decide (e = 3)) = b) : Calls Tryd.prog 23 #[.pointer (some ⟨g, 0, none⟩)] w fun e w' => e = .returned (.bool b) ∧ w = w' := by
  obtain ⟨_, _, c2, _, _, _, c6⟩ := h.cells
  clear h
  have t1 : ((left : Int) == 0) = decide (left = 0) := by
    rw [Bool.eq_iff_iff]; simp
  have t2 : ((e : Int) == 3) = decide (e = 3) := by
    rw [Bool.eq_iff_iff]; simp; omega
  cases h1 : decide (left = 0)
  · rw [h1] at t1 hb
    obtain rfl : false = b := by simpa using hb
    clear hb h1 t2
    go_enter Tryd.func23, Tryd.ntmps23
    go_wp2_with fail
    go_ret
    exact ⟨rfl, rfl⟩
  · rw [h1] at t1 hb
    rw [Bool.true_and] at hb
    rw [hb] at t2
    clear hb h1
    go_enter Tryd.func23, Tryd.ntmps23
    go_wp2_with fail
    go_ret
    exact ⟨rfl, rfl⟩
set_option maxHeartbeats 1000000 in
theorem span_any (h : OutW w B g gl gt k A n c D sent left low e p q) (hsn : sent ≤ n) (off m : Int) (h1 : (Lit.int .i64 off).wf = true) (h2 : (Lit.int .i64 m).wf = true) :
    Calls Tryd.prog 31 #[.pointer (some ⟨g, 0, none⟩), .int .i64 off, .int .i64 m] w
      fun e w' => ∃ lo hi : Nat, e = .returned (.tuple #[.int .i64 (lo : Int), .int .i64 (hi : Int)]) ∧ SpanV sent off m lo hi ∧ ∃ k, w' = w.drewN k := by
  have b1 := bd_of_i64 h1
  have b2 := bd_of_i64 h2
  have n6 := h.n6
  obtain ⟨_, c1, _⟩ := h.cells
  obtain ⟨M, hM⟩ : ∃ M : Nat, max m 0 = (M : Int) := ⟨(max m 0).toNat, by omega⟩
  have b1l := b1.1
  have b1u := b1.2
  have hMu : (M : Int) ≤ 9223372036854775807 := by omega
  by_cases ho : off < 0
  · obtain ⟨N, hN⟩ : ∃ N : Nat, max ((M : Int) + off) 0 = (N : Int) := ⟨(max ((M : Int) + off) 0).toNat, by omega⟩
    obtain ⟨hi, hhi⟩ : ∃ hi : Nat, min (N : Int) (sent : Int) = (hi : Int) := ⟨min N sent, by omega⟩
    have hS : Hid (SpanV sent off m 0 hi) := ⟨by omega, by omega, fun i => by omega⟩
    have hmin : min (0 : Int) (sent : Int) = 0 := by omega
    have hb1 : (sent : Int) ≤ 1000000 := by omega
    have hsum : -9223372036854775808 ≤ (M : Int) + off ∧ (M : Int) + off ≤ 9223372036854775807 := by omega
    have hw : wrap64 ((M : Int) + off) = (M : Int) + off := by unfold wrap64; omega
    clear h h1 h2 b1 b2 hMu n6 hsn b1l b1u hsum
    go_enter Tryd.func31, Tryd.ntmps31
    go_wp2_with fail
    go_quiet (fail)
    go_wp2_with fail
    refine bodyPost_ret (results_tmp2 rfl _ _ _) rfl ?_
    exact ⟨0, hi, by go_num, hS.out, _, rfl⟩
  · obtain ⟨o, rfl⟩ : ∃ o : Nat, off = (o : Int) := ⟨off.toNat, by omega⟩
    obtain ⟨lo, hlo⟩ : ∃ lo : Nat, min (o : Int) (sent : Int) = (lo : Int) := ⟨min o sent, by omega⟩
    obtain ⟨d, hd⟩ : ∃ d : Nat, min (M : Int) ((sent : Int) - (lo : Int)) = (d : Int) := ⟨min M (sent - lo), by omega⟩
    have hS : Hid (SpanV sent (o : Int) m lo (lo + d)) := ⟨by omega, by omega, fun i => by omega⟩
    have hb1 : (sent : Int) ≤ 1000000 := by omega
    have hb2 : (lo : Int) ≤ 1000000 := by omega
    have hb3 : (d : Int) ≤ 1000000 := by omega
    clear h h1 h2 b1 b2 n6 hsn b1l b1u
    go_enter Tryd.func31, Tryd.ntmps31
    go_wp2_with fail
    go_quiet (fail)
    go_wp2_with fail
    refine bodyPost_ret (results_tmp2 rfl _ _ _) rfl ?_
    exact ⟨lo, lo + d, by go_num, hS.out, _, rfl⟩
end
end Go.Proofs.YtkodjajhlcbmkaaDoor
