/-
  What is left to read of a header: the contracts of its name, token, told.
-/
import Derived.Test.YtonoljcgcfjkmaaPtA
namespace Go.Proofs.Ytonoljcgcfjkmaa
open Go.RowKit
set_option linter.unusedVariables false

theorem varintP_fails (s : List UInt8 × Nat) (x : Nat) : bytesP (failP s 5) x = ([], failP s 5) := by
  have h : (failP s 5).2 ≠ 0 := by unfold failP; simp only; split <;> omega
  unfold bytesP expectP
  by_cases hx : (failP s 5).1.length < x
  · rw [if_pos hx]
    have e : failP (failP s 5) 3 = failP s 5 := by
      unfold failP at h ⊢
      simp only at h ⊢
      rw [if_neg h]
    rw [e, if_neg h]
  · rw [if_neg hx, if_neg h]
set_option maxHeartbeats 1000000 in
theorem name_any (s : List UInt8 × Nat) (LO HI : Int) (lo hi : Nat) (hlo : LO = (lo : Int)) (hhi : HI = (hi : Int)) (B g : Nat) (w : World) (h : PtW w B g s) :
    Calls Try.prog 34 #[.pointer (some ⟨g, 0, none⟩), .int .u64 LO, .int .u64 HI] w (Reads w B g (nameP s lo hi)) := by
  subst hlo hhi
  have HW := Lib.hid (whole_any s 1 1 rfl (by omega) B g w h)
  have hx := wholeP_lt s 1
  rw [Nat.pow_one] at hx
  unfold nameP
  generalize wholeP s 1 = r at *
  obtain ⟨x, s1⟩ := r
  simp only at hx HW ⊢
  have hways : (x < lo) ∨ (¬ x < lo ∧ hi < x) ∨ (¬ x < lo ∧ ¬ hi < x) := by omega
  rcases hways with h1 | ⟨h1, h2⟩ | ⟨h1, h2⟩
  · rw [if_pos (.inl h1)]
    clear h
    go_enter Try.func34, Try.ntmps34
    go_wp2_with fail
    (with_reducible refine HW.out.mono ?_)
    rintro e1 w1 ⟨rfl, hp1, ho1⟩
    have HF := Lib.hid (fail_any s1 5 5 rfl B g w1 hp1)
    have HO1 := Lib.hid ho1
    clear hp1 ho1
    go_wp2_with fail
    (with_reducible refine HF.out.mono ?_)
    rintro e2 w2 ⟨rfl, hp2, ho2⟩
    have HB2 := Lib.hid (bytes_any (failP s1 5) (x : Int) x rfl (by omega) (by omega) B g w2 hp2)
    have HO2 := Lib.hid ho2
    clear hp2 ho2
    go_wp2_with fail
    (with_reducible refine HB2.out.mono ?_)
    rintro e3 w3 ⟨A, m, c, rfl, ho, hle, hc, hp, hon⟩
    go_wp2_with fail
    go_ret
    exact ⟨A, m, c, rfl, ho.base (Nat.le_trans HO1.out.size HO2.out.size), hle, hc, hp, (HO1.out.trans HO2.out).trans hon⟩
  · rw [if_pos (.inr h2)]
    clear h
    go_enter Try.func34, Try.ntmps34
    go_wp2_with fail
    (with_reducible refine HW.out.mono ?_)
    rintro e1 w1 ⟨rfl, hp1, ho1⟩
    have HF := Lib.hid (fail_any s1 5 5 rfl B g w1 hp1)
    have HO1 := Lib.hid ho1
    clear hp1 ho1
    go_wp2_with fail
    (with_reducible refine HF.out.mono ?_)
    rintro e2 w2 ⟨rfl, hp2, ho2⟩
    have HB2 := Lib.hid (bytes_any (failP s1 5) (x : Int) x rfl (by omega) (by omega) B g w2 hp2)
    have HO2 := Lib.hid ho2
    clear hp2 ho2
    go_wp2_with fail
    (with_reducible refine HB2.out.mono ?_)
    rintro e3 w3 ⟨A, m, c, rfl, ho, hle, hc, hp, hon⟩
    go_wp2_with fail
    go_ret
    exact ⟨A, m, c, rfl, ho.base (Nat.le_trans HO1.out.size HO2.out.size), hle, hc, hp, (HO1.out.trans HO2.out).trans hon⟩
  · rw [if_neg (by omega)]
    clear h
    go_enter Try.func34, Try.ntmps34
    go_wp2_with fail
    (with_reducible refine HW.out.mono ?_)
    rintro e1 w1 ⟨rfl, hp1, ho1⟩
    have HB2 := Lib.hid (bytes_any s1 (x : Int) x rfl (by omega) (by omega) B g w1 hp1)
    have HO1 := Lib.hid ho1
    clear hp1 ho1
    go_wp2_with fail
    (with_reducible refine HB2.out.mono ?_)
    rintro e3 w3 ⟨A, m, c, rfl, ho, hle, hc, hp, hon⟩
    go_wp2_with fail
    go_ret
    exact ⟨A, m, c, rfl, ho.base HO1.out.size, hle, hc, hp, HO1.out.trans hon⟩

set_option maxHeartbeats 1000000 in
theorem token_any (s : List UInt8 × Nat) (B g : Nat) (w : World) (h : PtW w B g s) :
    Calls Try.prog 35 #[.pointer (some ⟨g, 0, none⟩)] w (Reads w B g (tokenP s)) := by
  have HW := Lib.hid (varintp_any s B g w h)
  have hx62 := varintP_lt s
  unfold tokenP
  generalize varintP s = r at *
  obtain ⟨x, s1⟩ := r
  simp only at HW hx62 ⊢
  by_cases hx : 100 < x
  · rw [if_pos hx]
    have HX := varintP_fails s1 x
    clear h
    go_enter Try.func35, Try.ntmps35
    go_wp2_with fail
    (with_reducible refine HW.out.mono ?_)
    rintro e1 w1 ⟨rfl, hp1, ho1⟩
    have HF := Lib.hid (fail_any s1 5 5 rfl B g w1 hp1)
    have HO1 := Lib.hid ho1
    clear hp1 ho1
    go_wp2_with fail
    (with_reducible refine HF.out.mono ?_)
    rintro e2 w2 ⟨rfl, hp2, ho2⟩
    have HB2 := Lib.hid (bytes_any (failP s1 5) (x : Int) x rfl (by omega) (.inr (by simp [failP])) B g w2 hp2)
    rw [HX] at HB2
    have HO2 := Lib.hid ho2
    clear hp2 ho2 HX
    go_wp2_with fail
    (with_reducible refine HB2.out.mono ?_)
    rintro e3 w3 ⟨A, m, c, rfl, ho, hle, hc, hp, hon⟩
    go_wp2_with fail
    go_ret
    exact ⟨A, m, c, rfl, ho.base (Nat.le_trans HO1.out.size HO2.out.size), hle, hc, hp, (HO1.out.trans HO2.out).trans hon⟩
  · rw [if_neg hx]
    clear h
    go_enter Try.func35, Try.ntmps35
    go_wp2_with fail
    (with_reducible refine HW.out.mono ?_)
    rintro e1 w1 ⟨rfl, hp1, ho1⟩
    have HB2 := Lib.hid (bytes_any s1 (x : Int) x rfl (by omega) (by omega) B g w1 hp1)
    have HO1 := Lib.hid ho1
    clear hp1 ho1
    go_wp2_with fail
    (with_reducible refine HB2.out.mono ?_)
    rintro e3 w3 ⟨A, m, c, rfl, ho, hle, hc, hp, hon⟩
    go_wp2_with fail
    go_ret
    exact ⟨A, m, c, rfl, ho.base HO1.out.size, hle, hc, hp, HO1.out.trans hon⟩

set_option maxHeartbeats 1000000 in
theorem told_any (s : List UInt8 × Nat) (K : Int) (k : Nat) (hK : K = (k : Int)) (hk : k ≤ 7) (B g : Nat) (w : World) (h : PtW w B g s) :
    Calls Try.prog 36 #[.pointer (some ⟨g, 0, none⟩), .int .i64 K] w fun e w' => e = .returned (.int .u64 ((toldP s k).1 : Nat)) ∧ PtW w' B g (toldP s k).2 ∧ Only g w w' := by
  subst hK
  have HW := Lib.hid (varintp_any s B g w h)
  have hx62 := varintP_lt s
  unfold toldP
  generalize varintP s = r at *
  obtain ⟨x, s1⟩ := r
  simp only at HW hx62 ⊢
  by_cases hx : x < k
  · rw [if_pos hx]
    clear h
    go_enter Try.func36, Try.ntmps36
    go_wp2_with fail
    (with_reducible refine HW.out.mono ?_)
    rintro e1 w1 ⟨rfl, hp1, ho1⟩
    have HF := Lib.hid (fail_any s1 5 5 rfl B g w1 hp1)
    have HO1 := Lib.hid ho1
    clear hp1 ho1
    go_wp2_with fail
    (with_reducible refine HF.out.mono ?_)
    rintro e2 w2 ⟨rfl, hp2, ho2⟩
    go_wp2_with fail
    go_ret
    exact ⟨rfl, hp2, HO1.out.trans ho2⟩
  · rw [if_neg hx]
    obtain ⟨d, hd⟩ : ∃ d, x - k = d := ⟨_, rfl⟩
    have hd' : (x : Int) - (k : Int) = (d : Int) := by omega
    rw [hd]
    have Hd := Lib.hid hd
    clear h hd
    go_enter Try.func36, Try.ntmps36
    go_wp2_with fail
    (with_reducible refine HW.out.mono ?_)
    rintro e1 w1 ⟨rfl, hp1, ho1⟩
    go_wp2_with fail
    go_ret
    exact ⟨rfl, hp1, ho1⟩
end Go.Proofs.Ytonoljcgcfjkmaa
