/-
  What is left to read of a header: the contracts of its whole, varint, name, token, told.
-/
import Derived.Test.YtdmjbdbkdjmhfaaHdA
namespace Go.Proofs.Ytdmjbdbkdjmhfaa
open Go.RowKit
set_option linter.unusedVariables false

theorem bytesP_len (s : List UInt8 × Nat) (k : Nat) : (bytesP s k).1.length ≤ k := by
  unfold bytesP
  split
  · simp only [List.length_take]; omega
  · simp
theorem wholeP_lt (s : List UInt8 × Nat) (k : Nat) : (wholeP s k).1 < 256 ^ k := by
  have h := beN_lt 0 (bytesP s k).1 1 (by omega)
  rw [Nat.one_mul] at h
  exact Nat.lt_of_lt_of_le h (Nat.pow_le_pow_right (by omega) (bytesP_len s k))
theorem whole_step {w : World} {b off j : Nat} {L : List UInt8} (hj : j < L.length) (hL : L.length ≤ 7) (hc : ∀ j, (h : j < L.length) → w.cell? ⟨b, off + j, none⟩ = some (bv L[j])) {N : Nat} (hN : beN 0 (L.take j) = N) :
    ∃ X : Nat, X < 256 ∧ N < 18014398509481984 ∧ bits .or .u64 ((N : Int) * 256) (X : Int) = ((N * 256 + X : Nat) : Int) ∧ w.cell? ⟨b, off + j, none⟩ = some (.int .u8 (X : Int)) ∧ Hid (beN 0 (L.take (j + 1)) = N * 256 + X) := by
  subst hN
  have hb : beN 0 (L.take j) < 18014398509481984 := by
    have h := beN_lt 0 (L.take j) 1 (by omega)
    have hle : (L.take j).length ≤ 6 := by rw [List.length_take]; omega
    have := Nat.pow_le_pow_right (show 0 < 256 by omega) hle
    omega
  refine ⟨L[j].toNat, L[j].toNat_lt, hb, ?_, hc j hj, ?_⟩
  · have hx : L[j].toNat < 256 := L[j].toNat_lt
    have h := u64_or_nat (beN 0 (L.take j) * 256) L[j].toNat (by omega) (by omega)
    rw [nat_join 8 _ _ (by omega) (by omega)] at h
    rw [← h]; simp
  · show beN 0 (L.take (j + 1)) = _
    rw [List.take_succ_eq_append_getElem hj, beN_snoc]

set_option maxHeartbeats 1000000 in
theorem whole_any (s : List UInt8 × Nat) (K : Int) (k : Nat) (hK : K = (k : Int)) (hk : k ≤ 7) (B g : Nat) (w : World) (h : PtW w B g s) :
    Calls Try.prog 32 #[.pointer (some ⟨g, 0, none⟩), .int .i64 K] w fun e w' => e = .returned (.int .u64 ((wholeP s k).1 : Nat)) ∧ PtW w' B g (wholeP s k).2 ∧ Only g w w' := by
  have HB := Lib.hid (bytes_any s K k hK (by omega) B g w h)
  have hL := bytesP_len s k
  unfold wholeP
  generalize bytesP s k = r at *
  obtain ⟨L, s'⟩ := r
  simp only at hL ⊢
  clear hK h
  go_enter Try.func32, Try.ntmps32
  go_wp2_with fail
  (with_reducible refine HB.out.mono ?_)
  rintro e1 w1 ⟨A, m, c, rfl, ho, hle, hc, hp, hon⟩
  simp only at ho hp
  have hm := ho.len
  have HP := Lib.hid hp
  have HN := Lib.hid hon
  have HS := Lib.hid ho.sl
  have hm7 : m ≤ 7 := by omega
  have Hm := Lib.hid hm
  clear ho hp hon hle hc hm hL hk
  go_wp2_with fail
  go_loop [5, 7, 12] (fun nn cc i => ∃ j N : Nat, j ≤ m ∧ i = .int .i64 j ∧ nn = .int .u64 (N : Int) ∧ Hid (beN 0 (L.take j) = N)) (fun _ _ i => m - (intOf i).toNat)
  case atStart => exact ⟨0, 0, by omega, rfl, rfl, rfl⟩
  case round =>
    obtain ⟨j, N, hj, rfl, rfl, HNN⟩ := hrel
    by_cases hlt : j < m
    · obtain ⟨b, off, rfl, hb, hcell⟩ := HS.out.2 (by omega)
      obtain ⟨X, hX, hN, hor, hcj, HN'⟩ := whole_step (by rw [Hm.out]; exact hlt) (by rw [Hm.out]; exact hm7) hcell HNN.out
      clear hcell
      go_wp2
      go_round
      case rel => exact ⟨j + 1, N * 256 + X, by omega, by go_num, by go_num, HN'⟩
      case measure => simp [intOf]; omega
    · go_wp2
      go_ret
      obtain rfl : j = m := by omega
      refine ⟨?_, HP.out, HN.out⟩
      rw [← HNN.out, List.take_of_length_le (by rw [Hm.out]; omega)]
      rfl

set_option maxHeartbeats 1000000 in
theorem varintp_any (s : List UInt8 × Nat) (B g : Nat) (w : World) (h : PtW w B g s) :
    Calls Try.prog 48 #[.pointer (some ⟨g, 0, none⟩)] w fun e w' => e = .returned (.int .u64 ((varintP s).1 : Nat)) ∧ PtW w' B g (varintP s).2 ∧ Only g w w' := by
  have H := Lib.hid h
  have HF := fun (k : Nat) => fail_any s (k : Int) k rfl B g w h
  have HF := Lib.hid HF
  obtain ⟨l, cd⟩ := s
  obtain ⟨A, n, c, hr, hs, h1, h2, h3⟩ := h
  have c0 : w.cell? ⟨g, 0, none⟩ = some (.slice A n c) := hr.cell 0 _ rfl
  have f0 := hr.frozen 0
  have HG := Lib.hid (get_any l A n c B w hs h1 h2)
  have hfit := getV_fits l
  have hl := hs.1
  simp only at hl hs
  unfold varintP
  simp only
  obtain ⟨⟨x, y, z⟩, hv⟩ : ∃ v, getV l = v := ⟨_, rfl⟩
  rw [hv] at HG hfit ⊢
  simp only at HG hfit ⊢
  by_cases hz : z = 0
  · subst hz
    rw [if_pos rfl]
    have hy : y ≤ n := by omega
    obtain ⟨A2, eA2⟩ : ∃ v, (if c = y then A else A.map (·.add y)) = v := ⟨_, rfl⟩
    have hcB : ∀ u : World, (Instr.slice 23 (.slice A n c) (some (.int .i64 (y : Int))) none none).run Try.prog u = .ok (.slice A2 (n - y) (c - y)) u := fun u => by
      rw [run_cut_bytes u A n c y hy h1, eA2]
    have HS2 : Hid (Sl w B A2 (n - y) (l.drop y)) := by
      have h1' := hs.drop hy h1
      rwa [eA2] at h1'
    have HR := Lib.hid hr
    have HB := Lib.hid h3
    have HC : Hid (n ≤ c ∧ c ≤ maxLen) := ⟨h1, h2⟩
    clear hv hfit hl hs h1 h2 h3 hr eA2 HF H
    go_enter Try.func48, Try.ntmps48
    go_wp2_with ((with_reducible refine HG.out.mono ?_); rintro e w' ⟨rfl, rfl⟩)
    go_ret
    have hw := (Only.refl g w).setCell 0 (.slice A2 (n - y) (c - y))
    refine ⟨rfl, ⟨A2, n - y, c - y, ?_, HS2.out.only hw HB.out HR.out.lt, by have := HC.out; omega, by have := HC.out; omega, HB.out⟩, hw⟩
    simpa using HR.out.put 0 (.slice A2 (n - y) (c - y))
  · rw [if_neg hz]
    have t1 : ((z : Int) != 0) = true := by simp; omega
    clear hv hfit hl hs h1 h2 h3 hr H hz
    go_enter Try.func48, Try.ntmps48
    go_wp2_with (first | (go_at_call 54; (with_reducible refine HG.out.mono ?_); rintro e w' ⟨rfl, rfl⟩) | ((with_reducible refine (HF.out _).mono ?_); rintro e w' ⟨rfl, hp, ho⟩))
    go_ret
    exact ⟨rfl, hp, ho⟩

set_option maxHeartbeats 1000000 in
theorem name_any (s : List UInt8 × Nat) (LO HI : Int) (lo hi : Nat) (hlo : LO = (lo : Int)) (hhi : HI = (hi : Int)) (B g : Nat) (w : World) (h : PtW w B g s) :
    Calls Try.prog 33 #[.pointer (some ⟨g, 0, none⟩), .int .i64 LO, .int .i64 HI] w (Reads w B g (nameP s lo hi)) := by
  subst hlo hhi
  have HW := Lib.hid (whole_any s 1 1 rfl (by omega) B g w h)
  have hx := wholeP_lt s 1
  rw [Nat.pow_one] at hx
  unfold nameP
  generalize wholeP s 1 = r at *
  obtain ⟨x, s1⟩ := r
  simp only at hx HW ⊢
  have hways : (x < lo) ∨ (¬ x < lo ∧ hi < x) ∨ (¬ x < lo ∧ ¬ hi < x) := by omega
  rcases hways with h1 | ⟨h1, h2⟩ | ⟨h1, h2⟩
  · rw [if_pos (.inl h1)]
    clear h
    go_enter Try.func33, Try.ntmps33
    go_wp2_with fail
    (with_reducible refine HW.out.mono ?_)
    rintro e1 w1 ⟨rfl, hp1, ho1⟩
    have HF := Lib.hid (fail_any s1 5 5 rfl B g w1 hp1)
    have HO1 := Lib.hid ho1
    clear hp1 ho1
    go_wp2_with fail
    (with_reducible refine HF.out.mono ?_)
    rintro e2 w2 ⟨rfl, hp2, ho2⟩
    have HB2 := Lib.hid (bytes_any (failP s1 5) (x : Int) x rfl (by omega) B g w2 hp2)
    have HO2 := Lib.hid ho2
    clear hp2 ho2
    go_wp2_with fail
    (with_reducible refine HB2.out.mono ?_)
    rintro e3 w3 ⟨A, m, c, rfl, ho, hle, hc, hp, hon⟩
    go_wp2_with fail
    go_ret
    exact ⟨A, m, c, rfl, ho.base (Nat.le_trans HO1.out.size HO2.out.size), hle, hc, hp, (HO1.out.trans HO2.out).trans hon⟩
  · rw [if_pos (.inr h2)]
    clear h
    go_enter Try.func33, Try.ntmps33
    go_wp2_with fail
    (with_reducible refine HW.out.mono ?_)
    rintro e1 w1 ⟨rfl, hp1, ho1⟩
    have HF := Lib.hid (fail_any s1 5 5 rfl B g w1 hp1)
    have HO1 := Lib.hid ho1
    clear hp1 ho1
    go_wp2_with fail
    (with_reducible refine HF.out.mono ?_)
    rintro e2 w2 ⟨rfl, hp2, ho2⟩
    have HB2 := Lib.hid (bytes_any (failP s1 5) (x : Int) x rfl (by omega) B g w2 hp2)
    have HO2 := Lib.hid ho2
    clear hp2 ho2
    go_wp2_with fail
    (with_reducible refine HB2.out.mono ?_)
    rintro e3 w3 ⟨A, m, c, rfl, ho, hle, hc, hp, hon⟩
    go_wp2_with fail
    go_ret
    exact ⟨A, m, c, rfl, ho.base (Nat.le_trans HO1.out.size HO2.out.size), hle, hc, hp, (HO1.out.trans HO2.out).trans hon⟩
  · rw [if_neg (by omega)]
    clear h
    go_enter Try.func33, Try.ntmps33
    go_wp2_with fail
    (with_reducible refine HW.out.mono ?_)
    rintro e1 w1 ⟨rfl, hp1, ho1⟩
    have HB2 := Lib.hid (bytes_any s1 (x : Int) x rfl (by omega) B g w1 hp1)
    have HO1 := Lib.hid ho1
    clear hp1 ho1
    go_wp2_with fail
    (with_reducible refine HB2.out.mono ?_)
    rintro e3 w3 ⟨A, m, c, rfl, ho, hle, hc, hp, hon⟩
    go_wp2_with fail
    go_ret
    exact ⟨A, m, c, rfl, ho.base HO1.out.size, hle, hc, hp, HO1.out.trans hon⟩

set_option maxHeartbeats 1000000 in
theorem token_any (s : List UInt8 × Nat) (B g : Nat) (w : World) (h : PtW w B g s) :
    Calls Try.prog 34 #[.pointer (some ⟨g, 0, none⟩)] w (Reads w B g (tokenP s)) := by
  have HW := Lib.hid (varintp_any s B g w h)
  unfold tokenP
  generalize varintP s = r at *
  obtain ⟨x, s1⟩ := r
  simp only at HW ⊢
  by_cases hx : 100 < x
  · rw [if_pos hx]
    clear h
    go_enter Try.func34, Try.ntmps34
    go_wp2_with fail
    (with_reducible refine HW.out.mono ?_)
    rintro e1 w1 ⟨rfl, hp1, ho1⟩
    have HF := Lib.hid (fail_any s1 5 5 rfl B g w1 hp1)
    have HO1 := Lib.hid ho1
    clear hp1 ho1
    go_wp2_with fail
    (with_reducible refine HF.out.mono ?_)
    rintro e2 w2 ⟨rfl, hp2, ho2⟩
    go_wp2_with fail
    go_ret
    exact ⟨none, 0, 0, rfl, Own.nil _ _, Nat.le_refl _, by simp [maxLen], hp2, HO1.out.trans ho2⟩
  · rw [if_neg hx]
    clear h
    go_enter Try.func34, Try.ntmps34
    go_wp2_with fail
    (with_reducible refine HW.out.mono ?_)
    rintro e1 w1 ⟨rfl, hp1, ho1⟩
    have HB2 := Lib.hid (bytes_any s1 (x : Int) x rfl (by omega) B g w1 hp1)
    have HO1 := Lib.hid ho1
    clear hp1 ho1
    go_wp2_with fail
    (with_reducible refine HB2.out.mono ?_)
    rintro e3 w3 ⟨A, m, c, rfl, ho, hle, hc, hp, hon⟩
    go_wp2_with fail
    go_ret
    exact ⟨A, m, c, rfl, ho.base HO1.out.size, hle, hc, hp, HO1.out.trans hon⟩

theorem varintP_lt (s : List UInt8 × Nat) : (varintP s).1 < 4611686018427387904 := by
  have h := (getV_fits s.1).2.1
  unfold varintP
  split
  · exact h
  · simp
set_option maxHeartbeats 1000000 in
theorem told_any (s : List UInt8 × Nat) (K : Int) (k : Nat) (hK : K = (k : Int)) (hk : k ≤ 7) (B g : Nat) (w : World) (h : PtW w B g s) :
    Calls Try.prog 35 #[.pointer (some ⟨g, 0, none⟩), .int .i64 K] w fun e w' => e = .returned (.int .u64 ((toldP s k).1 : Nat)) ∧ PtW w' B g (toldP s k).2 ∧ Only g w w' := by
  subst hK
  have HW := Lib.hid (varintp_any s B g w h)
  have hx62 := varintP_lt s
  unfold toldP
  generalize varintP s = r at *
  obtain ⟨x, s1⟩ := r
  simp only at HW hx62 ⊢
  by_cases hx : x < k
  · rw [if_pos hx]
    clear h
    go_enter Try.func35, Try.ntmps35
    go_wp2_with fail
    (with_reducible refine HW.out.mono ?_)
    rintro e1 w1 ⟨rfl, hp1, ho1⟩
    have HF := Lib.hid (fail_any s1 5 5 rfl B g w1 hp1)
    have HO1 := Lib.hid ho1
    clear hp1 ho1
    go_wp2_with fail
    (with_reducible refine HF.out.mono ?_)
    rintro e2 w2 ⟨rfl, hp2, ho2⟩
    go_wp2_with fail
    go_ret
    exact ⟨rfl, hp2, HO1.out.trans ho2⟩
  · rw [if_neg hx]
    obtain ⟨d, hd⟩ : ∃ d, x - k = d := ⟨_, rfl⟩
    have hd' : (x : Int) - (k : Int) = (d : Int) := by omega
    rw [hd]
    have Hd := Lib.hid hd
    clear h hd
    go_enter Try.func35, Try.ntmps35
    go_wp2_with fail
    (with_reducible refine HW.out.mono ?_)
    rintro e1 w1 ⟨rfl, hp1, ho1⟩
    go_wp2_with fail
    go_ret
    exact ⟨rfl, hp1, ho1⟩
end Go.Proofs.Ytdmjbdbkdjmhfaa
