/-
  The walk of VarintRounds.
-/
import Derived.Test.YtnagoababcmkaaaVarintD
namespace Go.Proofs.Ytnagoababcmkaaa
open Go.RowKit
set_option linter.unusedVariables false

set_option maxHeartbeats 400000 in
theorem rounds_long (n : Int) (A1 : Option Addr) (n1 c1 : Nat) (more : Int) (w : World) (h : 40 < n1) :
    Calls Try.prog 4 #[.int .u64 n, .slice A1 n1 c1, .int .i64 more] w fun e w' => e = .returned (.bool true) ∧ Below w.heap.size w w' := by
  have t1 : decide ((40 : Int) < (n1 : Int)) = true := by simp; omega
  clear h
  go_enter Try.func4, Try.ntmps4
  go_wp2_with ((with_reducible refine (awake_any _).mono ?_); rintro e w1 ⟨rfl, hb⟩)
  go_ret
  exact ⟨rfl, hb⟩

set_option maxHeartbeats 1000000 in
theorem rounds_short (n v k s p q t : Nat) (A1 : Option Addr) (n1 c1 : Nat) (l1 : List UInt8) (more : Int) (w : World) (hn : n < 18446744073709551616) (h1 : Sl w w.heap.size A1 n1 l1) (hc1 : n1 ≤ c1) (hm1 : c1 ≤ maxLen) (s1 : n1 ≤ 40)
    (hv : v = n % 4611686018427387904) (hs : lenV v = s) (he : enc v = encV v k) (hks : (k = 0 ∧ s = 1) ∨ (k = 1 ∧ s = 2) ∨ (k = 2 ∧ s = 4) ∨ (k = 3 ∧ s = 8)) (hr : v < 64 * 256 ^ (2 ^ k - 1))
    (hp : lowV more 4 = (p : Int)) (hp4 : p < 4) (hqt : (q = 0 ∧ t = 1) ∨ (q = 1 ∧ t = 2) ∨ (q = 2 ∧ t = 4) ∨ (q = 3 ∧ t = 8)) (hq : q = max k p) :
    Calls Try.prog 4 #[.int .u64 n, .slice A1 n1 c1, .int .i64 more] w fun e w' => e = .returned (.bool true) ∧ Below w.heap.size w w' := by
  have t1 : decide ((40 : Int) < (n1 : Int)) = false := by simp; omega
  have hv62 : v < 4611686018427387904 := by omega
  have hv64 : v < 18446744073709551616 := by omega
  have hand : bits .and .u64 (n : Int) 4611686018427387903 = (v : Int) := by
    have h := u64_and_nat n 4611686018427387903 hn (by omega)
    rw [show n &&& 4611686018427387903 = v by rw [hv]; exact Nat.and_two_pow_sub_one_eq_mod n 62] at h
    exact h
  obtain ⟨hs2, hk3⟩ := two_pow_of hks
  obtain ⟨ht2, hq3⟩ := two_pow_of hqt
  have hst : s ≤ t := by rw [hs2, ht2]; exact Nat.pow_le_pow_right (by omega) (by omega)
  have hP := put_nil v
  rw [hs, he] at hP
  have hL := len_any v
  rw [hs] at hL
  have HP := Lib.hid hP
  have HL := Lib.hid hL
  have H1 := Lib.hid h1
  have HI := Lib.hid (fun u => in_nil v q t u hv62 hqt)
  have g1 : ∀ tl, getV (encV v k ++ tl) = (v, s, 0) := fun tl => by rw [hs2]; exact getV_enc v k hk3 hr tl
  have g2 : getV ((encV v k).take (s - 1)) = (0, 0, 3) := by rw [hs2]; exact getV_less v k hk3
  have g3 : getV (encV v q) = (v, t, 0) := by
    rw [ht2]
    have := getV_enc v q hq3 (room_mono (by omega) hr) []
    rwa [List.append_nil] at this
  have G1 := Lib.hid g1
  have G2 := Lib.hid g2
  have G3 := Lib.hid g3
  have z1 : ((s : Int) == 0) = false := by simp; omega
  have z2 : ((s : Int) != (s : Int)) = false := by simp
  have z3 : ((v : Int) == (v : Int)) = true := by simp
  have z4 : ((s : Int) == (s : Int)) = true := by simp
  have z5 : ((t : Int) == (t : Int)) = true := by simp
  have hs1 : 1 ≤ s := by omega
  have hs8 : s ≤ 8 := by omega
  have ht8 : t ≤ 8 := by omega
  obtain ⟨P, hP2⟩ : ∃ P, P = 2 ^ p := ⟨_, rfl⟩
  have hpP : (p = 0 ∧ P = 1) ∨ (p = 1 ∧ P = 2) ∨ (p = 2 ∧ P = 4) ∨ (p = 3 ∧ P = 8) := by
    have h : p = 0 ∨ p = 1 ∨ p = 2 ∨ p = 3 := by omega
    rcases h with rfl | rfl | rfl | rfl <;> simp [hP2]
  have HPt : Hid ((P < s → t = s) ∧ (¬ P < s → t = P)) := by
    show _ ∧ _
    omega
  have HSh : Hid (wrap64 ((2 : Int) ^ p) = (P : Int)) := by
    show _ = _
    rcases hpP with ⟨rfl, rfl⟩ | ⟨rfl, rfl⟩ | ⟨rfl, rfl⟩ | ⟨rfl, rfl⟩ <;> (unfold wrap64; simp)
  have hlow := fun u => low_any more 4 u (by omega) (by omega)
  rw [hp] at hlow
  have HW := Lib.hid hlow
  clear hpP hP2 h1 hc1 hm1 hv hs he hks hr hp hqt hq hs2 ht2 hk3 hq3 hP hL g1 g2 g3 hlow hn
  go_enter Try.func4, Try.ntmps4
  go_wp2_with fail
  (with_reducible refine (HP.out _ hv64).mono ?_)
  rintro e w1 ⟨B1, d1, rfl, ho1, hle1, hd1, hb1⟩
  go_wp2_with fail
  (with_reducible refine (HL.out _ hv64).mono ?_)
  rintro e w' ⟨rfl, rfl⟩
  go_wp2_with fail
  (with_reducible refine (copied_any (encV v k) B1 s d1 _ _ ho1.sl (by omega)).mono ?_)
  rintro e w2 ⟨B2, d2, rfl, ho2, hle2, hd2, hb2⟩
  have hb2' : Below w.heap.size w w2 := hb1.trans (hb2.mono hb1.size)
  have H12 := Lib.hid (H1.out.below hb2')
  have HO1 := Lib.hid ho1
  have HO2 := Lib.hid ho2
  clear ho1 ho2
  go_wp2_with (at_builtin; (refine wpList_append_bytes rfl _ _ rfl w1.heap.size (.slice B2 s d2) s (encV v k) rfl HO2.out w.heap.size A1 n1 c1 l1 rfl H12.out (by omega) hb2.size w1 hb2 ?_); intro B3 d3 w3 ho3 hle3 hd3 hg3 hb3)
  have HO3 := Lib.hid ho3
  clear ho3
  go_wp2_with fail
  (with_reducible refine (get_is (encV v k ++ l1) v s 0 B3 (s + n1) d3 _ _ HO3.out.sl hle3 hd3 (by simp [G1.out]) (by simp [G1.out]) (by simp [G1.out])).mono ?_)
  rintro e w' ⟨rfl, rfl⟩
  go_wp2_with fail
  (with_reducible refine (get_is ((encV v k).take (s - 1)) 0 0 3 B1 (s - 1) d1 _ _ ((HO1.out.below hb3).sl.take (by omega)) (by omega) hd1 (by simp [G2.out]) (by simp [G2.out]) (by simp [G2.out])).mono ?_)
  rintro e w' ⟨rfl, rfl⟩
  go_wp2_with fail
  (with_reducible refine (HW.out _).mono ?_)
  rintro e w' ⟨rfl, rfl⟩
  have hsh : wrap64 ((2 : Int) ^ p) = (P : Int) := HSh.out
  by_cases hPs : P < s
  · obtain rfl := HPt.out.1 hPs
    go_wp2_with fail
    (with_reducible refine (HI.out _).mono ?_)
    rintro e w4 ⟨B4, d4, rfl, ho4, hle4, hd4, hb4⟩
    go_wp2_with fail
    (with_reducible refine (get_is (encV v q) v t 0 B4 t d4 _ _ ho4.sl hle4 hd4 (by simp [G3.out]) (by simp [G3.out]) (by simp [G3.out])).mono ?_)
    rintro e w' ⟨rfl, rfl⟩
    go_wp2_with fail
    (with_reducible refine (awake_any _).mono ?_)
    rintro e w5 ⟨rfl, hb5⟩
    go_wp2
    go_ret
    have hb3' : Below w.heap.size w w3 := hb1.trans (hb3.mono hb1.size)
    have hb4' : Below w.heap.size w w4 := hb3'.trans (hb4.mono hb3'.size)
    exact ⟨rfl, hb4'.trans (hb5.mono hb4'.size)⟩
  · obtain rfl := HPt.out.2 hPs
    go_wp2_with fail
    (with_reducible refine (HI.out _).mono ?_)
    rintro e w4 ⟨B4, d4, rfl, ho4, hle4, hd4, hb4⟩
    go_wp2_with fail
    (with_reducible refine (get_is (encV v q) v t 0 B4 t d4 _ _ ho4.sl hle4 hd4 (by simp [G3.out]) (by simp [G3.out]) (by simp [G3.out])).mono ?_)
    rintro e w' ⟨rfl, rfl⟩
    go_wp2_with fail
    (with_reducible refine (awake_any _).mono ?_)
    rintro e w5 ⟨rfl, hb5⟩
    go_wp2
    go_ret
    have hb3' : Below w.heap.size w w3 := hb1.trans (hb3.mono hb1.size)
    have hb4' : Below w.heap.size w w4 := hb3'.trans (hb4.mono hb3'.size)
    exact ⟨rfl, hb4'.trans (hb5.mono hb4'.size)⟩
end Go.Proofs.Ytnagoababcmkaaa
