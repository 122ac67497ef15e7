/-
  The law OutgoOrder: what is lost goes ahead of what is new.
-/
import Derived.Test.YtkodjajhlcbmkaaDoorOuH
import Derived.Test.YtkodjajhlcbmkaaDoorGrowW
import Derived.Test.YtkodjajhlcbmkaaDoorLow
namespace Go.Proofs.YtkodjajhlcbmkaaDoor
open Go.RowKit Go.Lib
set_option linter.unusedVariables false

theorem ord_s1 {n q : Nat} (hq : q < n) : ∀ i, i ≤ n → landV n (fun _ => 0) 1 (some (0, q, false)) i = (fun i => if i < q then 1 else 0) i := fun i hi => by
  unfold landV
  simp
theorem ord_s2 {n q x y d : Nat} (hxy : x < y) (hyq : y ≤ q) (hq : q < n) (hd : (y : Int) - (x : Int) = (d : Int)) : ∀ i, i ≤ n → lostV n (fun i => if i < q then 1 else 0) (x : Int) (d : Int) false i = (fun i => if x ≤ i ∧ i < y then 2 else if i < q then 1 else 0) i := fun i hi => by
  unfold lostV inV
  simp
  by_cases c : x ≤ i ∧ i < y
  · rw [if_pos c, if_pos ⟨by omega, by omega⟩]
  · rw [if_neg c, if_neg (by omega)]
theorem ord_s3 {n q x y : Nat} (hxy : x < y) (hyq : y ≤ q) (hq : q < n) : ∀ i, i ≤ n → thereV n (fun i => if x ≤ i ∧ i < y then 2 else if i < q then 1 else 0) 0 (x : Int) false i = (fun i => if i < x then 3 else if i < y then 2 else if i < q then 1 else 0) i := fun i hi => by
  unfold thereV inV
  simp
  by_cases c : i < x
  · rw [if_pos c, if_pos ⟨by omega, by rw [if_neg (by omega), if_pos (by omega)]; omega⟩]
  · rw [if_neg c, if_neg (by omega)]
    by_cases c2 : i < y
    · rw [if_pos c2, if_pos (by omega)]
    · rw [if_neg c2, if_neg (by omega)]
theorem ord_s4 {n q x y : Nat} (hxy : x < y) (hyq : y ≤ q) (hq : q < n) : ∀ i, i ≤ n → landV n (fun i => if i < x then 3 else if i < y then 2 else if i < q then 1 else 0) 1 (some (x, y, false)) i = (fun i => if i < x then 3 else if i < q then 1 else 0) i := fun i hi => by
  unfold landV
  simp
  by_cases c : i < x
  · rw [if_neg (by omega), if_pos c, if_pos c]
  · by_cases c2 : i < y
    · rw [if_pos (by omega), if_neg c, if_pos (by omega)]
    · rw [if_neg (by omega), if_neg c, if_neg c2, if_neg c]
theorem ord_l4 {x q : Nat} (i : Nat) : (if i < x then 3 else if i < q then 1 else 0) ≠ 3 ↔ x ≤ i := by
  by_cases c : i < x
  · rw [if_pos c]; omega
  · rw [if_neg c]
    by_cases c2 : i < q
    · rw [if_pos c2]; omega
    · rw [if_neg c2]; omega
theorem ord_s5 {n q x : Nat} (hxq : x ≤ q) (hq : q < n) : ∀ i, i ≤ n → landV n (fun i => if i < x then 3 else if i < q then 1 else 0) 1 (some (q, n, true)) i = (fun i => if i < x then 3 else 1) i := fun i hi => by
  unfold landV
  simp
  by_cases c : i < x
  · rw [if_neg (by omega), if_pos c, if_pos c]
  · rw [if_neg c, if_neg c]
    by_cases c2 : i < q
    · rw [if_neg (by omega), if_pos c2]
    · rw [if_pos (by omega)]
theorem ord_s6 {n x : Nat} : ∀ i, i ≤ n → thereV n (fun i => if i < x then 3 else 1) 0 (n : Int) true i = (fun _ => 3) i := fun i hi => by
  unfold thereV inV
  simp
  by_cases c : i < x
  · simp [c]
  · simp [c]
    omega
set_option maxRecDepth 8000 in
set_option maxHeartbeats 4000000 in
theorem order_any (a0 a1 a2 a3 : Int) (w : World) (hG : Glob w) : Calls Tryd.prog 5 #[.int .i64 a0, .int .i64 a1, .int .i64 a2, .int .i64 a3] w fun e w' => e = .returned (.bool true) ∧ Below w.heap.size w w' := by
  obtain ⟨z0, z00, z01, HA⟩ := low_int a0 91 (by omega) (by omega)
  obtain ⟨n, hn⟩ : ∃ n : Nat, 10 + z0 = (n : Int) := ⟨(10 + z0).toNat, by omega⟩
  obtain ⟨m1, hm1⟩ : ∃ m1 : Int, (n : Int) - 1 = m1 := ⟨_, rfl⟩
  obtain ⟨z1, z10, z11, HB⟩ := low_int a1 m1 (by omega) (by omega)
  obtain ⟨q, hq⟩ : ∃ q : Nat, 1 + z1 = (q : Int) := ⟨(1 + z1).toNat, by omega⟩
  obtain ⟨z2, z20, z21, HC⟩ := low_int a2 (q : Int) (by omega) (by omega)
  obtain ⟨z3, z30, z31, HD⟩ := low_int a3 (q : Int) (by omega) (by omega)
  obtain ⟨x, hx⟩ : ∃ x : Nat, min z2 z3 = (x : Int) := ⟨(min z2 z3).toNat, by omega⟩
  obtain ⟨y0, hy0⟩ : ∃ y0 : Int, max z2 z3 = y0 := ⟨_, rfl⟩
  obtain ⟨y, hy⟩ : ∃ y : Nat, y0 + 1 = (y : Int) := ⟨(y0 + 1).toNat, by omega⟩
  obtain ⟨d, hd⟩ : ∃ d : Nat, (y : Int) - (x : Int) = (d : Int) := ⟨y - x, by omega⟩
  obtain ⟨nx, hnx⟩ : ∃ nx : Int, (n : Int) - (x : Int) = nx := ⟨_, rfl⟩
  have k1 : 10 ≤ n ∧ n < 101 := by omega
  have k2 : 1 ≤ q ∧ q < n := by omega
  have k3 : x < y ∧ y ≤ q := by omega
  have kz : 0 ≤ z0 ∧ z0 < 91 ∧ 0 ≤ z1 ∧ z1 < 101 ∧ 0 ≤ z2 ∧ z2 < 101 ∧ 0 ≤ z3 ∧ z3 < 101 := by omega
  have ky : 0 ≤ y0 ∧ y0 < 101 ∧ 0 ≤ nx ∧ nx < 101 ∧ 9 ≤ m1 ∧ m1 < 101 := by omega
  have wfn : (Lit.int .i64 (n : Int)).wf = true := wf_i64 (by omega) (by omega)
  have wfq : (Lit.int .i64 (q : Int)).wf = true := wf_i64 (by omega) (by omega)
  have wfx : (Lit.int .i64 (x : Int)).wf = true := wf_i64 (by omega) (by omega)
  have wfd : (Lit.int .i64 (d : Int)).wf = true := wf_i64 (by omega) (by omega)
  have WN := Lib.hid wfn
  have WQ := Lib.hid wfq
  have WX := Lib.hid wfx
  have WD := Lib.hid wfd
  have HA := Lib.hid HA
  have HB := Lib.hid HB
  have HC := Lib.hid HC
  have HD := Lib.hid HD
  have HG := Lib.hid hG
  have GR : Hid (∀ u : World, Calls Tryd.prog 25 #[.int .i64 (n : Int), .int .i64 3] u (MakesBytes u n (growL n 3))) := fun u => grow_bytes n 3 (by omega) (by omega) u
  have K1 := Lib.hid k1
  have K2 := Lib.hid k2
  have K3 := Lib.hid k3
  have HDD := Lib.hid hd
  obtain ⟨D, hD⟩ : ∃ D, growL n 3 = D := ⟨_, rfl⟩
  have hDl : D.length = n := by rw [← hD]; exact growL_length n 3
  have HDL := Lib.hid hDl
  rw [hD] at GR
  clear hDl hD
  have b1 := k1.1
  have b2 : (n : Int) < 101 := by omega
  have b3 : (q : Int) < 101 := by omega
  have b4 : (x : Int) < 101 := by omega
  have b5 : (y : Int) < 102 := by omega
  have b6 : (d : Int) < 102 := by omega
  clear hG wfn wfq wfx wfd k2 k3 k1
  go_enter Tryd.func5, Tryd.ntmps5
  go_wp2_with fail
  (with_reducible refine (HA.out _).mono ?_)
  rintro e1 w1 ⟨rfl, rfl⟩
  go_wp2_with fail
  (with_reducible refine (GR.out _).mono ?_)
  rintro e2 w2 ⟨A, c, rfl, ho, hnc, hcm, hb⟩
  have P := Lib.hid (rn_new (w0 := w2) (c0 := c) ho.sl (Nat.le_refl _) (by have := K1.out; omega) (HG.out.below hb HG.out.pos) (Below.refl _ _) (by have := hb.size; have := HG.out.pos; omega))
  have DS : Hid (Sl w2 w2.heap.size A n D) := ho.sl
  have C2 : Hid (n ≤ c ∧ c ≤ maxLen) := ⟨hnc, hcm⟩
  have B2 := Lib.hid hb
  clear ho hnc hcm hb
  go_wp2_with fail
  (with_reducible refine P.out.mono ?_)
  rintro e3 w3 ⟨g, rfl, r3, b3', hg3⟩
  have R3 := Lib.hid r3
  clear r3 b3' hg3 P
  go_wp2_with fail
  (with_reducible refine (HB.out _).mono ?_)
  rintro e4 w4 ⟨rfl, rfl⟩
  have P4 : Hid (Calls Tryd.prog 13 #[.pointer (some ⟨g, 0, none⟩), .int .i64 (n : Int), .int .i64 (q : Int)] w3
      fun e w' => ∃ A1 c1, e = .returned (.tuple #[.int .i64 0, .slice A1 q c1, .bool false, .bool true]) ∧ Own w' w3.heap.size (.slice A1 q c1) q (D.take q) ∧ (q ≤ c1 ∧ c1 ≤ maxLen) ∧ 0 ≤ q ∧ q ≤ n ∧ Rn w2 w' w2.heap.size g n D (fun i => if i < q then 1 else 0) ∧ Mv w2.heap.size (g + 1) w3 w') :=
    rn_some (f := 0) (t := q) R3.out WN.out WQ.out (order_first (fun _ _ => rfl) (by have := K2.out; omega) K2.out.2) (ord_s1 K2.out.2)
  go_wp2_with fail
  (with_reducible refine P4.out.mono ?_)
  rintro e5 w5 ⟨A1, c1, rfl, o5, q5, _, _, r5, m5⟩
  have R5 := Lib.hid r5
  have O5 := Lib.hid o5
  have C5 := Lib.hid q5
  have G5 : Hid (g + 1 ≤ w3.heap.size) := R3.out.o.lt.2
  have P5 := Lib.hid (rn_none r5 WN.out WQ.out (order_wait (fun _ _ => rfl) K2.out.2 _))
  clear r5 o5 q5 m5 P4
  go_wp2_with fail
  (with_reducible refine P5.out.mono ?_)
  rintro e6 w6 ⟨rfl, r6, m6⟩
  have R6 : Hid (∀ j, Rn w2 (w6.drewN j) w2.heap.size g n D (fun i => if i < q then 1 else 0)) := fun j => r6.drewN j
  have hcut6 : ∀ u : World, (Instr.slice 22 (.slice A n c) none (some (.int .i64 (q : Int))) none).run Tryd.prog u = .ok (.slice (if c = 0 then A else A.map (·.add 0)) q c) u := fun u => run_cut_to u A n c q (by have := C2.out; have := K2.out; omega)
  have sl6 : Sl w6 w2.heap.size (if c = 0 then A else A.map (·.add 0)) q (D.take q) := by
    have := ((DS.out.below r6.b).drop (k := 0) (c := c) (Nat.zero_le _) C2.out.1).take (k := q) (by have := K2.out; omega)
    simpa using this
  obtain ⟨A6, hA6⟩ : ∃ A6, (if c = 0 then A else A.map (·.add 0)) = A6 := ⟨_, rfl⟩
  rw [hA6] at hcut6 sl6
  have S6 := Lib.hid (same_yes (D.take q) (D.take q) rfl A1 A6 q q c1 c _ _ w6 (O5.out.mv m6 G5.out).sl sl6 (by have := C5.out; omega))
  have T6 : Hid (∀ j, Calls Tryd.prog 21 #[.pointer (some ⟨g, 0, none⟩)] (w6.drewN j) fun e w' => e = .returned (.int .i64 (q : Int)) ∧ w6.drewN j = w') := fun j => rn_sent (R6.out j) _ (by
    rw [sent_of (a := q) fun i _ => by by_cases h : i < q <;> simp [h]]
    have := K2.out
    omega)
  clear r6 m6 sl6 hA6 P5 O5
  go_wp2_with fail
  (with_reducible refine S6.out.mono ?_)
  rintro e7 w7 ⟨rfl, j7, rfl⟩
  go_wp2_with fail
  (with_reducible refine (T6.out _).mono ?_)
  rintro e8 w8 ⟨rfl, rfl⟩
  go_wp2_with fail
  (with_reducible refine (HC.out _).mono ?_)
  rintro f1 v1 ⟨rfl, rfl⟩
  go_wp2_with fail
  (with_reducible refine (HD.out _).mono ?_)
  rintro f2 v2 ⟨rfl, rfl⟩
  go_wp2_with fail
  (with_reducible refine (HC.out _).mono ?_)
  rintro f3 v3 ⟨rfl, rfl⟩
  go_wp2_with fail
  (with_reducible refine (HD.out _).mono ?_)
  rintro f4 v4 ⟨rfl, rfl⟩
  have P9 := Lib.hid (rn_lost (R6.out j7) false WX.out WD.out (ord_s2 K3.out.1 K3.out.2 K2.out.2 HDD.out))
  have G9 : Hid (Below w2.heap.size w2 w6) := (R6.out 0).b
  clear S6 T6 R6
  go_wp2_with fail
  (with_reducible refine P9.out.mono ?_)
  rintro e10 w10 ⟨rfl, r10, m10⟩
  have P10 := Lib.hid (rn_there (off := 0) r10 false (by decide) WX.out (ord_s3 K3.out.1 K3.out.2 K2.out.2))
  clear r10 m10 P9
  go_wp2_with fail
  (with_reducible refine P10.out.mono ?_)
  rintro e11 w11 ⟨rfl, r11, m11⟩
  have P11 := Lib.hid (rn_some (f := x) (t := y) r11 WN.out WN.out (order_lost (fun _ _ => rfl) K3.out.1 K3.out.2 K2.out.2) (ord_s4 K3.out.1 K3.out.2 K2.out.2))
  clear r11 m11 P10
  go_wp2_with fail
  (with_reducible refine P11.out.mono ?_)
  rintro e12 w12 ⟨A2, c2, rfl, o12, q12, _, _, r12, m12⟩
  have R12 : Hid (∀ j, Rn w2 (w12.drewN j) w2.heap.size g n D (fun i => if i < x then 3 else if i < q then 1 else 0)) := fun j => r12.drewN j
  have hcut12 : ∀ u : World, (Instr.slice 22 (.slice A n c) (some (.int .i64 (x : Int))) (some (.int .i64 (y : Int))) none).run Tryd.prog u = .ok (.slice (if c = x then A else A.map (·.add x)) (y - x) (c - x)) u := fun u => run_cut2 u A n c x y (by have := K3.out; omega) (by have := C2.out; have := K2.out; have := K3.out; omega)
  have sl12 : Sl w12 w2.heap.size (if c = x then A else A.map (·.add x)) (y - x) ((D.drop x).take (y - x)) :=
    ((DS.out.below r12.b).drop (k := x) (c := c) (by have := K2.out; have := K3.out; omega) C2.out.1).take (k := y - x) (by have := K2.out; have := K3.out; omega)
  obtain ⟨A7, hA7⟩ : ∃ A7, (if c = x then A else A.map (·.add x)) = A7 := ⟨_, rfl⟩
  rw [hA7] at hcut12 sl12
  have S12 := Lib.hid (same_yes _ ((D.drop x).take (y - x)) rfl A2 A7 (y - x) (y - x) c2 (c - x) _ _ w12 o12.sl sl12 (by have := q12; omega))
  have L12 : Hid (∀ j, Calls Tryd.prog 22 #[.pointer (some ⟨g, 0, none⟩)] (w12.drewN j) fun e w' => e = .returned (.int .i64 nx) ∧ w12.drewN j = w') := fun j => rn_left (R12.out j) _ (by
    rw [left_of (a := x) fun i _ => ord_l4 i]
    rw [← hnx]
    have := K2.out
    have := K3.out
    omega)
  clear r12 m12 o12 q12 sl12 hA7 P11
  go_wp2_with fail
  (with_reducible refine S12.out.mono ?_)
  rintro e13 w13 ⟨rfl, j13, rfl⟩
  go_wp2_with fail
  (with_reducible refine (L12.out _).mono ?_)
  rintro e14 w14 ⟨rfl, rfl⟩
  have P14 := Lib.hid (rn_some (f := q) (t := n) (R12.out j13) WN.out WN.out (order_new (fun _ _ => rfl) (by have := K3.out; omega) K2.out.2) (ord_s5 (by have := K3.out; omega) K2.out.2))
  clear S12 L12
  go_wp2_with fail
  (with_reducible refine P14.out.mono ?_)
  rintro e15 w15 ⟨A3, c3, rfl, o15, q15, _, _, r15, m15⟩
  have R15 : Hid (∀ j, Rn w2 (w15.drewN j) w2.heap.size g n D (fun i => if i < x then 3 else 1)) := fun j => r15.drewN j
  have hcut15 : ∀ u : World, (Instr.slice 22 (.slice A n c) (some (.int .i64 (q : Int))) none none).run Tryd.prog u = .ok (.slice (if c = q then A else A.map (·.add q)) (n - q) (c - q)) u := fun u => run_cut_bytes u A n c q (by have := K2.out; omega) C2.out.1
  have sl15 : Sl w15 w2.heap.size (if c = q then A else A.map (·.add q)) (n - q) (D.drop q) := (DS.out.below r15.b).drop (k := q) (c := c) (by have := K2.out; omega) C2.out.1
  obtain ⟨A8, hA8⟩ : ∃ A8, (if c = q then A else A.map (·.add q)) = A8 := ⟨_, rfl⟩
  rw [hA8] at hcut15 sl15
  have S15 := Lib.hid (same_yes _ (D.drop q) (List.take_of_length_le (by rw [List.length_drop, HDL.out]; exact Nat.le_refl _)) A3 A8 (n - q) (n - q) c3 (c - q) _ _ w15 o15.sl sl15 (by have := q15; omega))
  clear r15 m15 o15 q15 sl15 hA8 P14
  go_wp2_with fail
  (with_reducible refine S15.out.mono ?_)
  rintro e16 w16 ⟨rfl, j16, rfl⟩
  have P16 := Lib.hid (rn_there (off := 0) (R15.out j16) true (by decide) WN.out ord_s6)
  clear S15
  go_wp2_with fail
  (with_reducible refine P16.out.mono ?_)
  rintro e17 w17 ⟨rfl, r17, m17⟩
  have P17 := Lib.hid (rn_none r17 WN.out WN.out (order_none (fun _ _ => rfl) _ _))
  clear r17 m17 P16
  go_wp2_with fail
  (with_reducible refine P17.out.mono ?_)
  rintro e18 w18 ⟨rfl, r18, m18⟩
  have R18 := Lib.hid r18
  have D18 := Lib.hid (rn_done r18 true (done_of fun _ _ => rfl))
  have L18 : Hid (Calls Tryd.prog 22 #[.pointer (some ⟨g, 0, none⟩)] w18 fun e w' => e = .returned (.int .i64 0) ∧ w18 = w') := rn_left r18 0 (by
    rw [left_of (a := n) fun i hi => ⟨fun h => absurd rfl h, fun h => by omega⟩]
    omega)
  have AW := Lib.hid (awake_any w18 r18.G)
  clear r18 m18 P17
  go_wp2_with fail
  (with_reducible refine D18.out.mono ?_)
  rintro e19 w19 ⟨rfl, rfl⟩
  go_wp2_with fail
  (with_reducible refine L18.out.mono ?_)
  rintro e20 w20 ⟨rfl, rfl⟩
  go_wp2_with fail
  (with_reducible refine AW.out.mono ?_)
  rintro e21 w21 ⟨rfl, b21⟩
  go_wp2_with fail
  go_ret
  exact ⟨rfl, (B2.out.trans (R18.out.b.mono B2.out.size)).trans (b21.mono (Nat.le_trans B2.out.size R18.out.b.size))⟩
end Go.Proofs.YtkodjajhlcbmkaaDoor
