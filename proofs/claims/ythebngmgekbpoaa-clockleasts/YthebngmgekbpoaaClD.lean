/-
  The document's PTO; what every program answers that is one.
-/
import Derived.Test.YthebngmgekbpoaaClC
import Derived.LoopTactic
namespace Go.Proofs.Ythebngmgekbpoaa
open Go.RowKit Go.Lib
set_option linter.unusedVariables false

theorem two_pow10 {j : Nat} (h : j ≤ 10) : 2 ^ j ≤ 1024 := by
  have := Nat.pow_le_pow_right (show 0 < 2 by omega) h
  simpa using this
set_option maxHeartbeats 1000000 in
theorem rpto_any {w : World} {g N : Nat} {c : Ck} (h : RcW w g c N) (ok : c.Ok) (t : Int) :
    Calls Try.prog 16 #[.pointer (some ⟨g, 0, none⟩), .int .i64 t] w (Quiet (.int .i64 (ptoV c.s c.v t)) w) := by
  obtain ⟨on, s, v, l⟩ := c
  obtain ⟨⟨s0, s1⟩, ⟨v0, v1⟩, l0, l1⟩ := ok
  have c1 : w.cell? ⟨g, 0, none⟩ = some (.int .i64 s) := Rw.cell h.1 0 _ rfl
  have c2 : w.cell? ⟨g, 1, none⟩ = some (.int .i64 v) := Rw.cell h.1 1 _ rfl
  simp only at s0 s1 v0 v1 l0 l1
  obtain ⟨o, ho⟩ : ∃ o, max (s + max (4 * v) 1) 40 = o := ⟨_, rfl⟩
  obtain ⟨k, hk⟩ : ∃ k, min t 10 = k := ⟨_, rfl⟩
  have ho0 : 40 ≤ o := by omega
  have ho1 : o ≤ 5242880 := by omega
  obtain ⟨p, hp⟩ : ∃ p, ptoV s v t = p := ⟨_, rfl⟩
  have hpq : Hid ((k ≤ 0 ∧ p = min o 64) ∨ (1 ≤ k ∧ p = 64)) := by
    unfold ptoV at hp
    rw [ho] at hp
    by_cases ht : t ≤ 0
    · rw [if_pos ht] at hp; exact .inl ⟨by omega, hp.symm⟩
    · rw [if_neg ht] at hp; exact .inr ⟨by omega, hp.symm⟩
  have hk10 : k ≤ 10 := by omega
  have HZ : Hid ((0 = 0 ∧ o = o) ∨ (1 ≤ 0 ∧ 64 ≤ o)) := .inl ⟨rfl, rfl⟩
  simp only
  rw [hp]
  clear h hp l0 l1
  go_enter Try.func16, Try.ntmps16
  go_wp2_with fail
  go_quiet (fail)
  go_wp2_with fail
  go_loopw [5, 6] (fun n i wr => ∃ (j m : Nat) (z : Int), n = .int .i64 z ∧ i = .int .i64 j ∧ wr = w.drewN m ∧ j ≤ 10 ∧ Hid (j = 0 ∨ (j : Int) ≤ k) ∧ Hid ((j = 0 ∧ z = o) ∨ (1 ≤ j ∧ 64 ≤ z)) ∧ Hid (0 ≤ z ∧ z ≤ 5242880 * ((2 ^ j : Nat) : Int))) (fun _ i _ => 10 - (intOf i).toNat)
  case atStart => exact ⟨0, nq, o, rfl, rfl, rfl, by omega, .inl rfl, .inl ⟨rfl, rfl⟩, ⟨by omega, by simp; omega⟩⟩
  case round =>
    obtain ⟨j, m, z, rfl, rfl, rfl, hj, HJ, HZ, HB⟩ := hrel
    have h10 := two_pow10 hj
    have hz0 := HB.out.1
    have hz1 : z ≤ 5368709120 := by have := HB.out.2; omega
    clear h10
    by_cases hlt : (j : Int) < k
    · go_wp2_with fail
      go_roundw
      case rel => exact ⟨j + 1, m, z * 2, rfl, by go_num, rfl, by omega, .inr (by omega), .inr ⟨by omega, by rcases HZ.out with h | h <;> omega⟩, ⟨by omega, by rw [Nat.pow_succ]; have := HB.out.2; omega⟩⟩
      case measure => simp [intOf]; omega
    · have hz : min z 64 = p := by
        rcases hpq.out with ⟨h1, h2⟩ | ⟨h1, h2⟩ <;> rcases HZ.out with h | h <;> rcases HJ.out with h3 | h3 <;> omega
      go_wp2_with fail
      go_ret
      exact ⟨rfl, _, rfl⟩
theorem CkW.drewN {w : World} {g : Nat} {c : Ck} (h : CkW w g c) (k : Nat) : CkW (w.drewN k) g c := h
theorem RcW.drewN {w : World} {g N : Nat} {c : Ck} (h : RcW w g c N) (k : Nat) : RcW (w.drewN k) g c N := h
theorem below_drewN {B : Nat} {w w' : World} (h : Below B w w') (k : Nat) : Below B w (w'.drewN k) := ⟨h.os, h.tape, h.output, h.size, h.block⟩
theorem CkW.only {w w' : World} {g g' : Nat} {c : Ck} (h : CkW w g c) (ho : Only g' w w') (hne : g ≠ g') : CkW w' g c := Rw.only h ho hne
theorem RcW.only {w w' : World} {g g' N : Nat} {c : Ck} (h : RcW w g c N) (ho : Only g' w w') (hne : g ≠ g') : RcW w' g c N := ⟨Rw.only h.1 ho hne, h.2⟩
theorem CkW.lt {w : World} {g : Nat} {c : Ck} (h : CkW w g c) : g < w.heap.size := Rw.lt h

theorem q_same {P : Program} {f : FuncId} {args : Array Value} {w : World} {n : Nat} {v : Value} (h : Calls P f args (w.drewN n) fun e w' => e = .returned v ∧ w.drewN n = w') :
    Calls P f args (w.drewN n) fun e w'' => e = .returned v ∧ ∃ m, w'' = w.drewN m := h.mono fun _ _ ⟨he, hm⟩ => ⟨he, n, hm.symm⟩
theorem q_more {P : Program} {f : FuncId} {args : Array Value} {w : World} {n : Nat} {v : Value} (h : Calls P f args (w.drewN n) (Quiet v (w.drewN n))) :
    Calls P f args (w.drewN n) fun e w'' => e = .returned v ∧ ∃ m, w'' = w.drewN m := Calls.quiet_of h
/-- a slice of numbers that came in -/
def InI (w : World) (A : Option Addr) (n : Nat) (zs : List Int) : Prop := n ≤ zs.length ∧ (0 < n → ∃ b off, A = some ⟨b, off, none⟩ ∧ b < w.heap.size ∧ ∀ i, i < zs.length → w.cell? ⟨b, off + i, none⟩ = some (.int .i64 (zs.getD i 0)))
theorem InI.at_ {w wr : World} {A : Option Addr} {n j : Nat} {zs : List Int} (h : InI w A n zs) (hb : Below w.heap.size w wr) (hj : j < n) : ∃ b off, A = some ⟨b, off, none⟩ ∧ b < w.heap.size ∧ wr.cell? ⟨b, off + j, none⟩ = some (.int .i64 (zs.getD j 0)) := by
  obtain ⟨b, off, e, hb', hc⟩ := h.2 (by omega)
  exact ⟨b, off, e, hb', (hb.cell (p := ⟨b, off + j, none⟩) hb').trans (hc j (by have := h.1; omega))⟩
theorem addr_at (g j k : Nat) : (⟨g, j, none⟩ : Addr).add k = ⟨g, j + k, none⟩ := by unfold Addr.add; split <;> simp_all
theorem InI.of {w : World} {x : Addr} {n : Nat} {zs : List Int} (h : n ≤ zs.length) (hc : ∀ i, i < zs.length → w.cell? (x.add i) = some (.int .i64 (zs.getD i 0))) : InI w (some x) n zs := by
  refine ⟨h, fun h0 => ?_⟩
  have hc0 := hc 0 (by omega)
  obtain ⟨b, off, spot⟩ := x
  have hspot : spot = none := by simpa [Addr.add] using World.cell?_spot hc0
  subst hspot
  refine ⟨b, off, rfl, World.block_lt_of_cell? w _ (by simpa [Addr.add] using hc0), fun i hi => ?_⟩
  have h1 := hc i hi
  rwa [addr_at] at h1
theorem InI.nil (w : World) : InI w none 0 [] := ⟨Nat.le_refl _, fun h => absurd h (by omega)⟩

theorem aw_tell : Ck.new.tell 10 0 = ⟨true, 10, 5, 10⟩ := by kernel_rfl
theorem aw_pto : ptoV 16 8 0 = 48 ∧ ptoV 10 5 0 = 40 ∧ ptoV 10 5 99 = 64 := ⟨by kernel_rfl, by kernel_rfl, by kernel_rfl⟩
theorem aw_ok : (⟨true, 10, 5, 10⟩ : Ck).Ok := ⟨by decide, by decide, by decide⟩
set_option maxHeartbeats 1000000 in
theorem awake_any (w : World) : Calls Try.prog 7 #[] w fun e w' => e = .returned (.bool true) ∧ Below w.heap.size w w' := by
  go_enter Try.func7, Try.ntmps7
  go_wp2_with fail
  (with_reducible refine (new_any w).mono ?_)
  rintro e1 w1 ⟨rfl, s1, b1⟩
  have S1 := Lib.hid s1
  have B1 := Lib.hid b1
  have P1 : Hid (Calls Try.prog 15 #[.pointer (some ⟨w.heap.size, 0, none⟩), .int .i64 0] w1 (Quiet (.int .i64 48) w1)) := pto_any s1 Ck.new_ok 0
  clear s1 b1
  go_wp2_with fail
  (with_reducible refine P1.out.mono ?_)
  rintro e2 w2 ⟨rfl, m2, rfl⟩
  have T2 := Lib.hid (sample_any (S1.out.drewN m2) Ck.new_ok 10 0)
  rw [aw_tell] at T2
  clear P1
  go_wp2_with fail
  (with_reducible refine T2.out.mono ?_)
  rintro e3 w3 ⟨rfl, s3, o3⟩
  have B3 : Hid (Below w.heap.size w w3) := (below_drewN B1.out m2).trans (o3.below (below_drewN B1.out m2).size (Nat.le_refl _))
  have HS := Lib.hid (fun m => smoothed_any (s3.drewN m))
  have HV := Lib.hid (fun m => varies_any (s3.drewN m))
  have HL := Lib.hid (fun m => least_any (s3.drewN m))
  have P3 : Hid (∀ m, Calls Try.prog 15 #[.pointer (some ⟨w.heap.size, 0, none⟩), .int .i64 0] (w3.drewN m) (Quiet (.int .i64 40) (w3.drewN m))) := fun m => pto_any (s3.drewN m) aw_ok 0
  have P4 : Hid (∀ m, Calls Try.prog 15 #[.pointer (some ⟨w.heap.size, 0, none⟩), .int .i64 99] (w3.drewN m) (Quiet (.int .i64 64) (w3.drewN m))) := fun m => pto_any (s3.drewN m) aw_ok 99
  have HS0 := Lib.hid (HS.out 0)
  have HV0 := Lib.hid (HV.out 0)
  have HL0 := Lib.hid (HL.out 0)
  have P30 := Lib.hid (P3.out 0)
  clear s3 o3 S1 B1 T2
  simp only [World.drewN_zero] at HS0 HV0 HL0 P30
  go_wp2_with fail
  (with_reducible refine HS0.out.mono ?_)
  rintro e4 w4 ⟨rfl, rfl⟩
  go_wp2_with fail
  (with_reducible refine HV0.out.mono ?_)
  rintro e4 w4 ⟨rfl, rfl⟩
  go_wp2_with fail
  (with_reducible refine HL0.out.mono ?_)
  rintro e4 w4 ⟨rfl, rfl⟩
  go_wp2_with fail
  (with_reducible refine P30.out.mono ?_)
  rintro e4 w4 ⟨rfl, m4, rfl⟩
  go_wp2_with fail
  (with_reducible refine (P4.out m4).mono ?_)
  rintro e4 w4 ⟨rfl, m5, rfl⟩
  go_wp2
  go_ret
  exact ⟨rfl, below_drewN B3.out _⟩
end Go.Proofs.Ythebngmgekbpoaa
