/-
  What a frame is read of: Zeros, and the readers nothing, name, data, below of package frame.
-/
import Derived.Test.YtcipmfhacloegaaFrA
namespace Go.Proofs.Ytcipmfhacloegaa
open Go.RowKit
set_option linter.unusedVariables false

def belowP (s : List UInt8 × Nat) (ah le : Nat) : Nat × (List UInt8 × Nat) :=
  if ah < (varintP s).1 + le then (0, failP (varintP s).2 5) else (ah - ((varintP s).1 + le), (varintP s).2)
def nothingP (s : List UInt8 × Nat) : List UInt8 × Nat := if (varintP s).1 = 0 then (varintP s).2 else failP (varintP s).2 5
def name8P (s : List UInt8 × Nat) : List UInt8 × (List UInt8 × Nat) := bytesP (if (wholeP s 1).1 = 8 then (wholeP s 1).2 else failP (wholeP s 1).2 5) 8
def dataP (s : List UInt8 × Nat) (o : Nat) : List UInt8 × (List UInt8 × Nat) :=
  bytesP (if (varintP s).1 < 16384 ∧ o + (varintP s).1 ≤ maxV then (varintP s).2 else failP (varintP s).2 5) (varintP s).1

set_option maxHeartbeats 1000000 in
theorem nothing_any (s : List UInt8 × Nat) (B g : Nat) (w : World) (h : PtW w B g s) :
    Calls Try.prog 47 #[.pointer (some ⟨g, 0, none⟩)] w fun e w' => e = .returned (.tuple #[]) ∧ PtW w' B g (nothingP s) ∧ Only g w w' := by
  have HW := Lib.hid (varintp_any s B g w h)
  unfold nothingP
  generalize varintP s = r at *
  obtain ⟨x, s1⟩ := r
  simp only at HW ⊢
  by_cases hx : x = 0
  · rw [if_pos hx]
    subst hx
    clear h
    go_enter Try.func47, Try.ntmps47
    go_wp2_with fail
    (with_reducible refine HW.out.mono ?_)
    rintro e1 w1 ⟨rfl, hp1, ho1⟩
    go_wp2_with fail
    refine bodyPost_end (results_none rfl _ _ _) rfl ?_
    exact ⟨rfl, hp1, ho1⟩
  · rw [if_neg hx]
    have t1 : ((x : Int) != 0) = true := by simp; omega
    clear h hx
    go_enter Try.func47, Try.ntmps47
    go_wp2_with fail
    (with_reducible refine HW.out.mono ?_)
    rintro e1 w1 ⟨rfl, hp1, ho1⟩
    have HF := Lib.hid (fail_any s1 5 5 rfl B g w1 hp1)
    have HO1 := Lib.hid ho1
    clear hp1 ho1
    go_wp2_with fail
    (with_reducible refine HF.out.mono ?_)
    rintro e2 w2 ⟨rfl, hp2, ho2⟩
    go_wp2_with fail
    refine bodyPost_end (results_none rfl _ _ _) rfl ?_
    exact ⟨rfl, hp2, HO1.out.trans ho2⟩
set_option maxHeartbeats 1000000 in
theorem name8_any (s : List UInt8 × Nat) (B g : Nat) (w : World) (h : PtW w B g s) :
    Calls Try.prog 48 #[.pointer (some ⟨g, 0, none⟩)] w (Reads w B g (name8P s)) := by
  have HW := Lib.hid (whole_any s 1 1 rfl (by omega) B g w h)
  have hx := wholeP_lt s 1
  rw [Nat.pow_one] at hx
  unfold name8P
  generalize wholeP s 1 = r at *
  obtain ⟨x, s1⟩ := r
  simp only at hx HW ⊢
  by_cases h1 : x = 8
  · rw [if_pos h1]
    subst h1
    clear h
    go_enter Try.func48, Try.ntmps48
    go_wp2_with fail
    (with_reducible refine HW.out.mono ?_)
    rintro e1 w1 ⟨rfl, hp1, ho1⟩
    have HB2 := Lib.hid (bytes_any s1 8 8 rfl (by omega) (by omega) B g w1 hp1)
    have HO1 := Lib.hid ho1
    clear hp1 ho1
    go_wp2_with fail
    (with_reducible refine HB2.out.mono ?_)
    rintro e3 w3 ⟨A, m, c, rfl, ho, hle, hc, hp, hon⟩
    go_wp2_with fail
    go_ret
    exact ⟨A, m, c, rfl, ho.base HO1.out.size, hle, hc, hp, HO1.out.trans hon⟩
  · rw [if_neg h1]
    have t1 : ((x : Int) != 8) = true := by simp; omega
    clear h
    go_enter Try.func48, Try.ntmps48
    go_wp2_with fail
    (with_reducible refine HW.out.mono ?_)
    rintro e1 w1 ⟨rfl, hp1, ho1⟩
    have HF := Lib.hid (fail_any s1 5 5 rfl B g w1 hp1)
    have HO1 := Lib.hid ho1
    clear hp1 ho1
    go_wp2_with fail
    (with_reducible refine HF.out.mono ?_)
    rintro e2 w2 ⟨rfl, hp2, ho2⟩
    have HB2 := Lib.hid (bytes_any (failP s1 5) 8 8 rfl (by omega) (by omega) B g w2 hp2)
    have HO2 := Lib.hid ho2
    clear hp2 ho2
    go_wp2_with fail
    (with_reducible refine HB2.out.mono ?_)
    rintro e3 w3 ⟨A, m, c, rfl, ho, hle, hc, hp, hon⟩
    go_wp2_with fail
    go_ret
    exact ⟨A, m, c, rfl, ho.base (Nat.le_trans HO1.out.size HO2.out.size), hle, hc, hp, (HO1.out.trans HO2.out).trans hon⟩
set_option maxHeartbeats 1000000 in
theorem data_any (s : List UInt8 × Nat) (o : Nat) (ho : o < 18446744073709551616) (B g : Nat) (w : World) (h : PtW w B g s) :
    Calls Try.prog 49 #[.pointer (some ⟨g, 0, none⟩), .int .u64 (o : Int)] w (Reads w B g (dataP s o)) := by
  have HW := Lib.hid (varintp_any s B g w h)
  have hx62 := varintP_lt s
  unfold dataP
  generalize varintP s = r at *
  obtain ⟨x, s1⟩ := r
  simp only at HW hx62 ⊢
  by_cases h1 : x < 16384 ∧ o + x ≤ maxV
  · rw [if_pos h1]
    have HM := Lib.hid (fun u => mayPiece_any o x ho (by omega) true (by simpa using h1) u)
    have hx6 : x ≤ 1000000 := by omega
    clear h h1
    go_enter Try.func49, Try.ntmps49
    go_wp2_with fail
    (with_reducible refine HW.out.mono ?_)
    rintro e1 w1 ⟨rfl, hp1, ho1⟩
    have HB2 := Lib.hid (bytes_any s1 (x : Int) x rfl (by omega) (by omega) B g w1 hp1)
    have HO1 := Lib.hid ho1
    clear hp1 ho1
    go_wp2_with fail
    (with_reducible refine (HM.out _).mono ?_)
    rintro e2 w2 ⟨rfl, rfl⟩
    go_wp2_with fail
    (with_reducible refine HB2.out.mono ?_)
    rintro e3 w3 ⟨A, m, c, rfl, ho, hle, hc, hp, hon⟩
    go_wp2_with fail
    go_ret
    exact ⟨A, m, c, rfl, ho.base HO1.out.size, hle, hc, hp, HO1.out.trans hon⟩
  · rw [if_neg h1]
    have HM := Lib.hid (fun u => mayPiece_any o x ho (by omega) false (by simpa using h1) u)
    clear h h1
    go_enter Try.func49, Try.ntmps49
    go_wp2_with fail
    (with_reducible refine HW.out.mono ?_)
    rintro e1 w1 ⟨rfl, hp1, ho1⟩
    have HF := Lib.hid (fail_any s1 5 5 rfl B g w1 hp1)
    have HO1 := Lib.hid ho1
    clear hp1 ho1
    go_wp2_with fail
    (with_reducible refine (HM.out _).mono ?_)
    rintro e9 w9 ⟨rfl, rfl⟩
    go_wp2_with fail
    (with_reducible refine HF.out.mono ?_)
    rintro e2 w2 ⟨rfl, hp2, ho2⟩
    have HB2 := Lib.hid (bytes_any (failP s1 5) (x : Int) x rfl (by omega) (.inr (by simp [failP])) B g w2 hp2)
    have HO2 := Lib.hid ho2
    clear hp2 ho2
    go_wp2_with fail
    (with_reducible refine HB2.out.mono ?_)
    rintro e3 w3 ⟨A, m, c, rfl, ho, hle, hc, hp, hon⟩
    go_wp2_with fail
    go_ret
    exact ⟨A, m, c, rfl, ho.base (Nat.le_trans HO1.out.size HO2.out.size), hle, hc, hp, (HO1.out.trans HO2.out).trans hon⟩
theorem belowP_lt (s : List UInt8 × Nat) (ah le : Nat) (h : ah < 4611686018427387904) : (belowP s ah le).1 < 4611686018427387904 := by
  unfold belowP
  split
  · simp
  · simp only; omega
set_option maxHeartbeats 1000000 in
theorem below_any (s : List UInt8 × Nat) (ah le : Nat) (L : Int) (hL : L = (le : Int)) (hah : ah < 4611686018427387904) (hle : le ≤ 2) (B g : Nat) (w : World) (h : PtW w B g s) :
    Calls Try.prog 64 #[.pointer (some ⟨g, 0, none⟩), .int .u64 (ah : Int), .int .u64 L] w fun e w' => e = .returned (.int .u64 ((belowP s ah le).1 : Nat)) ∧ PtW w' B g (belowP s ah le).2 ∧ Only g w w' := by
  subst hL
  have HW := Lib.hid (varintp_any s B g w h)
  have hx62 := varintP_lt s
  unfold belowP
  generalize varintP s = r at *
  obtain ⟨x, s1⟩ := r
  simp only at HW hx62 ⊢
  obtain ⟨fa, hfa⟩ : ∃ fa : Nat, x + le = fa := ⟨_, rfl⟩
  have t0 : (x : Int) + (le : Int) = (fa : Int) := by omega
  have hfa2 : fa < 4611686018427387907 := by omega
  rw [hfa]
  by_cases h1 : ah < fa
  · rw [if_pos h1]
    clear h hfa
    go_enter Try.func64, Try.ntmps64
    go_wp2_with fail
    (with_reducible refine HW.out.mono ?_)
    rintro e1 w1 ⟨rfl, hp1, ho1⟩
    have HF := Lib.hid (fail_any s1 5 5 rfl B g w1 hp1)
    have HO1 := Lib.hid ho1
    clear hp1 ho1
    go_wp2_with fail
    (with_reducible refine HF.out.mono ?_)
    rintro e2 w2 ⟨rfl, hp2, ho2⟩
    go_wp2_with fail
    go_ret
    exact ⟨rfl, hp2, HO1.out.trans ho2⟩
  · rw [if_neg h1]
    obtain ⟨d, hd⟩ : ∃ d : Nat, ah - fa = d := ⟨_, rfl⟩
    have hd' : (ah : Int) - (fa : Int) = (d : Int) := by omega
    rw [hd]
    clear h hfa hd
    go_enter Try.func64, Try.ntmps64
    go_wp2_with fail
    (with_reducible refine HW.out.mono ?_)
    rintro e1 w1 ⟨rfl, hp1, ho1⟩
    go_wp2_with fail
    go_ret
    exact ⟨rfl, hp1, ho1⟩
/-- how many zeros are taken -/
def zerosP (s : List UInt8 × Nat) (most : Nat) : Nat × (List UInt8 × Nat) := (min (zerosN s.1) most, (s.1.drop (min (zerosN s.1) most), s.2))
theorem zerosN_cons (b : UInt8) (r : List UInt8) : zerosN (b :: r) = if b = 0 then zerosN r + 1 else 0 := rfl
theorem zerosN_at (l : List UInt8) (j : Nat) (hj : j ≤ zerosN l) : ((h : j < l.length) → l[j] = 0 → j < zerosN l) ∧ ((h : j < l.length) → l[j] ≠ 0 → j = zerosN l) ∧ (j = l.length → j = zerosN l) := by
  induction l generalizing j with
  | nil => refine ⟨fun h => absurd h (by simp), fun h => absurd h (by simp), fun h => ?_⟩; simp [zerosN] at *; exact h
  | cons b r ih =>
    rw [zerosN_cons] at *
    by_cases hb : b = 0
    · rw [if_pos hb] at *
      cases j with
      | zero => exact ⟨fun _ _ => by omega, fun _ h => absurd hb h, fun h => by simp at h⟩
      | succ j =>
        obtain ⟨h1, h2, h3⟩ := ih j (by omega)
        refine ⟨fun h e => ?_, fun h e => ?_, fun h => ?_⟩
        · have := h1 (by simpa using h) (by simpa using e); omega
        · have := h2 (by simpa using h) (by simpa using e); omega
        · have := h3 (by simpa using h); omega
    · rw [if_neg hb] at *
      obtain rfl : j = 0 := by omega
      exact ⟨fun _ h => absurd h hb, fun _ _ => rfl, fun h => by simp at h⟩
theorem zerosN_le (l : List UInt8) : zerosN l ≤ l.length := by
  induction l with
  | nil => simp [zerosN]
  | cons b r ih => unfold zerosN; split <;> simp <;> omega
set_option maxHeartbeats 1000000 in
theorem zeros_any (s : List UInt8 × Nat) (M : Int) (most : Nat) (hM : M = (most : Int)) (hm : most ≤ 1000000) (B g : Nat) (w : World) (h : PtW w B g s) :
    Calls Try.prog 43 #[.pointer (some ⟨g, 0, none⟩), .int .i64 M] w fun e w' => e = .returned (.int .i64 ((zerosP s most).1 : Nat)) ∧ PtW w' B g (zerosP s most).2 ∧ Only g w w' := by
  subst hM
  obtain ⟨l, cd⟩ := s
  obtain ⟨T, A, n, c, hr, hs, h1, h2, h3⟩ := h
  have c0 : w.cell? ⟨g, 0, none⟩ = some (.slice A n c) := hr.cell 0 _ rfl
  have f0 := hr.frozen 0
  have hl := hs.1
  simp only at hl hs
  have hn63 : n ≤ 9223372036854775807 := by unfold maxLen at h2; omega
  have hzl := zerosN_le l
  unfold zerosP
  simp only
  obtain ⟨Z, hZ⟩ : ∃ Z, zerosN l = Z := ⟨_, rfl⟩
  have HZ : Hid (∀ j, j ≤ Z → ((h : j < l.length) → l[j] = 0 → j < Z) ∧ ((h : j < l.length) → l[j] ≠ 0 → j = Z) ∧ (j = l.length → j = Z)) := fun j hj => by
    have := zerosN_at l j (by omega)
    rw [hZ] at this
    exact this
  rw [hZ] at hzl ⊢
  have hcB : ∀ (k : Nat), k ≤ n → ∀ u : World, (Instr.slice 24 (.slice A n c) (some (.int .i64 (k : Int))) none none).run Try.prog u = .ok (.slice (if c = k then A else A.map (·.add k)) (n - k) (c - k)) u := fun k hk u => run_cut_bytes u A n c k hk h1
  have HR := Lib.hid hr
  have HS := Lib.hid hs
  have HB := Lib.hid h3
  have HC : Hid (n ≤ c ∧ c ≤ maxLen) := ⟨h1, h2⟩
  have HL := Lib.hid hl
  have HCB := Lib.hid hcB
  rw [hl] at hzl
  clear hZ hs hr h1 h2 h3 hl hcB
  go_enter Try.func43, Try.ntmps43
  go_wp2_with fail
  go_loop [5] (fun i => ∃ j : Nat, j ≤ Z ∧ j ≤ most ∧ i = .int .i64 j) (fun i => most - (intOf i).toNat)
  case atStart => exact ⟨0, by omega, by omega, rfl⟩
  case round =>
    obtain ⟨j, hj, hjm, rfl⟩ := hrel
    have hq := HZ.out j hj
    have hjl0 := HL.out
    by_cases hlt : j < most
    · by_cases hln : j < n
      · obtain ⟨b, off, rfl, hb, hcell⟩ := HS.out.2 (by omega)
        have hjl : j < l.length := by have := HL.out; omega
        obtain ⟨x, hx⟩ : ∃ x, l[j] = x := ⟨_, rfl⟩
        have cx : w.cell? ⟨b, off + j, none⟩ = some (.int .u8 (x.toNat : Int)) := by rw [← hx]; exact hcell j hjl
        have tm : decide ((j : Int) < (most : Int)) = true := decide_eq_true (by omega)
        have tn : decide ((j : Int) < (n : Int)) = true := decide_eq_true (by omega)
        by_cases h0 : x = 0
        · have hjz : j < Z := hq.1 hjl (hx.trans h0)
          subst h0
          have t0 : (((0 : UInt8).toNat : Int) == 0) = true := by decide
          clear hcell hx hq
          go_wp2
          go_round
          case rel => exact ⟨j + 1, by omega, by omega, by go_num⟩
          case measure => simp [intOf]; omega
        · have hjz : j = Z := hq.2.1 hjl (by rw [hx]; exact h0)
          have t0 : ((x.toNat : Int) == 0) = false := by
            have : x.toNat ≠ 0 := fun h => h0 (UInt8.toNat_inj.1 h)
            simp; omega
          clear hcell hx
          clear hq
          obtain ⟨A2, eA2⟩ : ∃ v, (if c = j then (some (⟨b, off, none⟩ : Addr)) else Option.map (fun x : Addr => x.add j) (some (⟨b, off, none⟩ : Addr))) = v := ⟨_, rfl⟩
          have hcj := HCB.out j (by omega)
          rw [eA2] at hcj
          have HS2 : Hid (Sl w B A2 (n - j) (l.drop j)) := by
            have h1' := HS.out.drop (k := j) (by omega) HC.out.1
            rwa [eA2] at h1'
          have HMN : Hid (min Z most = j) := show _ = _ by omega
          clear eA2 hjl0
          try clear hjz
          go_wp2
          go_ret
          rw [HMN.out]
          have hw := (Only.refl g w).setCell 0 (.slice A2 (n - j) (c - j))
          refine ⟨rfl, ⟨T, A2, n - j, c - j, ?_, HS2.out.only hw HB.out HR.out.lt, by have := HC.out; omega, by have := HC.out; omega, HB.out⟩, hw⟩
          simpa using HR.out.put 0 (.slice A2 (n - j) (c - j))
      · have hjz : j = Z := hq.2.2 (by omega)
        have tm : decide ((j : Int) < (most : Int)) = true := decide_eq_true (by omega)
        have tn : decide ((j : Int) < (n : Int)) = false := decide_eq_false (by omega)
        clear hq
        obtain ⟨A2, eA2⟩ : ∃ v, (if c = j then A else Option.map (·.add j) A) = v := ⟨_, rfl⟩
        have hcj := HCB.out j (by omega)
        rw [eA2] at hcj
        have HS2 : Hid (Sl w B A2 (n - j) (l.drop j)) := by
          have h1' := HS.out.drop (k := j) (by omega) HC.out.1
          rwa [eA2] at h1'
        have HMN : Hid (min Z most = j) := show _ = _ by omega
        clear eA2 hjl0
        try clear hjz
        go_wp2
        go_ret
        rw [HMN.out]
        have hw := (Only.refl g w).setCell 0 (.slice A2 (n - j) (c - j))
        refine ⟨rfl, ⟨T, A2, n - j, c - j, ?_, HS2.out.only hw HB.out HR.out.lt, by have := HC.out; omega, by have := HC.out; omega, HB.out⟩, hw⟩
        simpa using HR.out.put 0 (.slice A2 (n - j) (c - j))
    · have tm : decide ((j : Int) < (most : Int)) = false := decide_eq_false (by omega)
      clear hq
      obtain ⟨A2, eA2⟩ : ∃ v, (if c = j then A else Option.map (·.add j) A) = v := ⟨_, rfl⟩
      have hcj := HCB.out j (by omega)
      rw [eA2] at hcj
      have HS2 : Hid (Sl w B A2 (n - j) (l.drop j)) := by
        have h1' := HS.out.drop (k := j) (by omega) HC.out.1
        rwa [eA2] at h1'
      have HMN : Hid (min Z most = j) := show _ = _ by omega
      clear eA2 hjl0
      try clear hjz
      go_wp2
      go_ret
      rw [HMN.out]
      have hw := (Only.refl g w).setCell 0 (.slice A2 (n - j) (c - j))
      refine ⟨rfl, ⟨T, A2, n - j, c - j, ?_, HS2.out.only hw HB.out HR.out.lt, by have := HC.out; omega, by have := HC.out; omega, HB.out⟩, hw⟩
      simpa using HR.out.put 0 (.slice A2 (n - j) (c - j))
end Go.Proofs.Ytcipmfhacloegaa
