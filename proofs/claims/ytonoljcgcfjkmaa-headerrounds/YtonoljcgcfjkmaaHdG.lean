/-
  Whether a header may be: the contracts of May and of the document's own.
-/
import Derived.Test.YtonoljcgcfjkmaaHdE
namespace Go.Proofs.Ytonoljcgcfjkmaa
open Go.RowKit
set_option linter.unusedVariables false

/-- a header as a value, of its parts -/
def hdrV (L : Bool) (K : Int) (V : Nat) (A1 : Option Addr) (n1 c1 : Nat) (A2 : Option Addr) (n2 c2 : Nat) (A3 : Option Addr) (n3 c3 : Nat) (S P : Bool) (N : Nat) (NL : Int) : List Value :=
  [.bool L, .int .i64 K, .int .u32 (V : Int), .slice A1 n1 c1, .slice A2 n2 c2, .slice A3 n3 c3, .bool S, .bool P, .int .u64 (N : Int), .int .i64 NL]
def LongP (K : Int) (n2 n3 : Nat) (S P : Bool) : Prop := S = false ∧ P = false ∧ (K = 0 ∨ K = 2) ∧ n2 ≤ 20 ∧ n3 ≤ 100 ∧ (K = 2 → n3 = 0)
instance (K : Int) (n2 n3 : Nat) (S P : Bool) : Decidable (LongP K n2 n3 S P) := by unfold LongP; infer_instance
def MayP (L : Bool) (K : Int) (V n1 n2 n3 : Nat) (S P : Bool) (N : Nat) (NL : Int) : Prop :=
  (1 ≤ NL ∧ NL ≤ 4) ∧ N ≤ 4611686018427387903 ∧ n1 = 8 ∧ (if L = true then LongP K n2 n3 S P else K = 0 ∧ V = 0 ∧ n2 = 0 ∧ n3 = 0)
instance (L : Bool) (K : Int) (V n1 n2 n3 : Nat) (S P : Bool) (N : Nat) (NL : Int) : Decidable (MayP L K V n1 n2 n3 S P N NL) := by unfold MayP; infer_instance

theorem mayNumLen_any (K : Int) (w : World) : Calls Try.prog 42 #[.int .i64 K] w fun e w' => e = .returned (.bool (decide (1 ≤ K ∧ K ≤ 4))) ∧ w = w' := by
  go_enter Try.func42, Try.ntmps42
  go_wp2
  all_goals
    go_ret
    refine ⟨congrArg (fun b => Ending.returned (.bool b)) ?_, rfl⟩
    rw [Bool.eq_iff_iff]
    simp
    omega
theorem mayKind_any (K : Int) (w : World) : Calls Try.prog 49 #[.int .i64 K] w fun e w' => e = .returned (.bool (decide (K = 0 ∨ K = 2))) ∧ w = w' := by
  go_enter Try.func49, Try.ntmps49
  go_wp2
  all_goals
    go_ret
    refine ⟨congrArg (fun b => Ending.returned (.bool b)) ?_, rfl⟩
    rw [Bool.eq_iff_iff]
    simp
    try omega
set_option maxHeartbeats 2000000 in
theorem mayLong_any (K : Int) (V : Nat) (A1 : Option Addr) (n1 c1 : Nat) (A2 : Option Addr) (n2 c2 : Nat) (A3 : Option Addr) (n3 c3 : Nat) (S P : Bool) (N : Nat) (NL : Int) (w : World) :
    Calls Try.prog 43 #[.agg (hdrV true K V A1 n1 c1 A2 n2 c2 A3 n3 c3 S P N NL).toArray] w fun e w' => e = .returned (.bool (decide (LongP K n2 n3 S P))) ∧ Below w.heap.size w w' := by
  obtain ⟨r, hr⟩ : ∃ r, decide (LongP K n2 n3 S P) = r := ⟨_, rfl⟩
  rw [hr]
  have HR := Lib.hid hr
  clear hr
  unfold hdrV
  have hK : (K = 0) ∨ (K = 2) ∨ (K ≠ 0 ∧ K ≠ 2) := by omega
  have HM := Lib.hid (mayKind_any K)
  rcases hK with rfl | rfl | hK
  · have e : decide ((0 : Int) = 0 ∨ (0 : Int) = 2) = true := by simp
    rw [e] at HM
    clear e
    cases S <;> cases P
    all_goals
      go_enter Try.func43, Try.ntmps43
      go_wp2_with (go_at_call 49; (with_reducible refine (HM.out _).mono ?_); rintro e w' ⟨rfl, rfl⟩)
      all_goals
        go_ret
        refine ⟨congrArg (fun b => Ending.returned (.bool b)) ?_, (Below.refl _ _).alloc (Nat.le_refl _) _⟩
        rw [← HR.out, Bool.eq_iff_iff]
        simp [LongP]
        try omega
  · have e : decide ((2 : Int) = 0 ∨ (2 : Int) = 2) = true := by simp
    rw [e] at HM
    clear e
    cases S <;> cases P
    all_goals
      go_enter Try.func43, Try.ntmps43
      go_wp2_with (go_at_call 49; (with_reducible refine (HM.out _).mono ?_); rintro e w' ⟨rfl, rfl⟩)
      all_goals
        go_ret
        refine ⟨congrArg (fun b => Ending.returned (.bool b)) ?_, (Below.refl _ _).alloc (Nat.le_refl _) _⟩
        rw [← HR.out, Bool.eq_iff_iff]
        simp [LongP]
        try omega
  · have e : decide (K = 0 ∨ K = 2) = false := by simp; omega
    rw [e] at HM
    have HK := Lib.hid hK
    clear e hK
    cases S <;> cases P
    all_goals
      go_enter Try.func43, Try.ntmps43
      go_wp2_with (go_at_call 49; (with_reducible refine (HM.out _).mono ?_); rintro e w' ⟨rfl, rfl⟩)
      all_goals
        go_ret
        refine ⟨congrArg (fun b => Ending.returned (.bool b)) ?_, (Below.refl _ _).alloc (Nat.le_refl _) _⟩
        rw [← HR.out, Bool.eq_iff_iff]
        have := HK.out
        simp [LongP]
        try omega

set_option maxHeartbeats 4000000 in
theorem may_any (L : Bool) (K : Int) (V : Nat) (A1 : Option Addr) (n1 c1 : Nat) (A2 : Option Addr) (n2 c2 : Nat) (A3 : Option Addr) (n3 c3 : Nat) (S P : Bool) (N : Nat) (NL : Int) (w : World) :
    Calls Try.prog 14 #[.agg (hdrV L K V A1 n1 c1 A2 n2 c2 A3 n3 c3 S P N NL).toArray] w fun e w' => e = .returned (.bool (decide (MayP L K V n1 n2 n3 S P N NL))) ∧ Below w.heap.size w w' := by
  have HN := Lib.hid (mayNumLen_any NL)
  have HL := Lib.hid (mayLong_any K V A1 n1 c1 A2 n2 c2 A3 n3 c3 S P N NL)
  by_cases hNL : 1 ≤ NL ∧ NL ≤ 4
  · rw [decide_eq_true hNL] at HN
    by_cases hN : N ≤ 4611686018427387903
    · by_cases hn1 : n1 = 8
      · cases L
        · have e : decide (MayP false K V n1 n2 n3 S P N NL) = decide (K = 0 ∧ V = 0 ∧ n2 = 0 ∧ n3 = 0) := by simp [MayP, hNL, hN, hn1]
          rw [e]
          obtain ⟨r, hr⟩ : ∃ r, decide (K = 0 ∧ V = 0 ∧ n2 = 0 ∧ n3 = 0) = r := ⟨_, rfl⟩
          rw [hr]
          have HR := Lib.hid hr
          subst hn1
          have hN' : (N : Int) ≤ 4611686018427387903 := by omega
          clear hNL e hr HL hN
          unfold hdrV
          go_enter Try.func14, Try.ntmps14
          go_wp2_with (go_at_call 42; (with_reducible refine (HN.out _).mono ?_); rintro e w' ⟨rfl, rfl⟩)
          all_goals
            go_ret
            refine ⟨congrArg (fun b => Ending.returned (.bool b)) ?_, (Below.refl _ _).alloc (Nat.le_refl _) _⟩
            rw [← HR.out, Bool.eq_iff_iff]
            simp
            try omega
        · have e : decide (MayP true K V n1 n2 n3 S P N NL) = decide (LongP K n2 n3 S P) := by simp [MayP, hNL, hN, hn1]
          rw [e]
          obtain ⟨r, hr⟩ : ∃ r, decide (LongP K n2 n3 S P) = r := ⟨_, rfl⟩
          rw [hr] at HL ⊢
          obtain ⟨vs, hvs⟩ : ∃ vs, hdrV true K V A1 n1 c1 A2 n2 c2 A3 n3 c3 S P N NL = vs := ⟨_, rfl⟩
          have HVS := Lib.hid hvs
          rw [hvs] at HL
          have HSZ : Hid ((Try.prog.info? 26).map (·.size) = some vs.length) := show _ = _ by rw [← hvs]; exact hdr_size
          subst hn1
          have hN' : (N : Int) ≤ 4611686018427387903 := by omega
          clear hNL e hr hN hvs
          unfold hdrV
          go_enter Try.func14, Try.ntmps14
          go_wp2_with (first
            | (go_at_call 42; (with_reducible refine (HN.out _).mono ?_); rintro e w' ⟨rfl, rfl⟩)
            | (go_at_call 43; (with_reducible refine (HL.out _).mono ?_); rintro e w1 ⟨rfl, b1⟩)
            | ((with_reducible refine wpList_load_rw rfl 26 (.tmp 1) rfl w.heap.size ?hx 26 vs ?hB _ Try.underlying26 rfl HSZ.out ?_); (case hx => with_unfolding_all rfl); (case hB => rw [← HVS.out]; exact heap_alloc_new w _)))
          go_ret
          exact ⟨rfl, ((Below.refl _ _).alloc (Nat.le_refl _) _).trans (b1.mono (by simp))⟩
      · rw [decide_eq_false (show ¬ MayP L K V n1 n2 n3 S P N NL from fun h => hn1 h.2.2.1)]
        have t1 : ((n1 : Int) != 8) = true := by simp; omega
        have hN' : (N : Int) ≤ 4611686018427387903 := by omega
        clear hn1 hNL HL hN
        unfold hdrV
        go_enter Try.func14, Try.ntmps14
        go_wp2_with (go_at_call 42; (with_reducible refine (HN.out _).mono ?_); rintro e w' ⟨rfl, rfl⟩)
        go_ret
        exact ⟨rfl, (Below.refl _ _).alloc (Nat.le_refl _) _⟩
    · rw [decide_eq_false (show ¬ MayP L K V n1 n2 n3 S P N NL from fun h => hN h.2.1)]
      have hN' : (4611686018427387903 : Int) < (N : Int) := by omega
      clear hN hNL HL
      unfold hdrV
      go_enter Try.func14, Try.ntmps14
      go_wp2_with (go_at_call 42; (with_reducible refine (HN.out _).mono ?_); rintro e w' ⟨rfl, rfl⟩)
      go_ret
      exact ⟨rfl, (Below.refl _ _).alloc (Nat.le_refl _) _⟩
  · rw [decide_eq_false hNL] at HN
    rw [decide_eq_false (show ¬ MayP L K V n1 n2 n3 S P N NL from fun h => hNL h.1)]
    clear hNL HL
    unfold hdrV
    go_enter Try.func14, Try.ntmps14
    go_wp2_with (go_at_call 42; (with_reducible refine (HN.out _).mono ?_); rintro e w' ⟨rfl, rfl⟩)
    go_ret
    exact ⟨rfl, (Below.refl _ _).alloc (Nat.le_refl _) _⟩

set_option maxHeartbeats 4000000 in
theorem rmay_any (L : Bool) (K : Int) (V : Nat) (A1 : Option Addr) (n1 c1 : Nat) (A2 : Option Addr) (n2 c2 : Nat) (A3 : Option Addr) (n3 c3 : Nat) (S P : Bool) (N : Nat) (NL : Int) (w : World) :
    Calls Try.prog 15 #[.agg (hdrV L K V A1 n1 c1 A2 n2 c2 A3 n3 c3 S P N NL).toArray] w fun e w' => e = .returned (.bool (decide (MayP L K V n1 n2 n3 S P N NL))) ∧ Below w.heap.size w w' := by
  by_cases hNL : 1 ≤ NL ∧ NL ≤ 4
  · obtain ⟨h1, h4⟩ := hNL
    by_cases hN : N ≤ 4611686018427387903
    · have hN' : (N : Int) ≤ 4611686018427387903 := by omega
      by_cases hn1 : n1 = 8
      · cases L
        · have e : decide (MayP false K V n1 n2 n3 S P N NL) = decide (K = 0 ∧ V = 0 ∧ n2 = 0 ∧ n3 = 0) := by simp [MayP, h1, h4, hN, hn1]
          rw [e]
          obtain ⟨r, hr⟩ : ∃ r, decide (K = 0 ∧ V = 0 ∧ n2 = 0 ∧ n3 = 0) = r := ⟨_, rfl⟩
          rw [hr]
          have HR := Lib.hid hr
          subst hn1
          clear e hr hN
          unfold hdrV
          go_enter Try.func15, Try.ntmps15
          go_wp2_with fail
          all_goals
            go_ret
            refine ⟨congrArg (fun b => Ending.returned (.bool b)) ?_, (Below.refl _ _).alloc (Nat.le_refl _) _⟩
            rw [← HR.out, Bool.eq_iff_iff]
            simp
            try omega
        · have e : decide (MayP true K V n1 n2 n3 S P N NL) = decide (LongP K n2 n3 S P) := by simp [MayP, h1, h4, hN, hn1]
          rw [e]
          obtain ⟨r, hr⟩ : ∃ r, decide (LongP K n2 n3 S P) = r := ⟨_, rfl⟩
          rw [hr]
          have HR := Lib.hid hr
          subst hn1
          clear e hr hN
          have hK : (K = 0) ∨ (K = 2 ∧ n3 = 0) ∨ (K = 2 ∧ n3 ≠ 0) ∨ (K ≠ 0 ∧ K ≠ 2) := by omega
          unfold hdrV
          rcases hK with rfl | ⟨rfl, rfl⟩ | ⟨rfl, h3⟩ | ⟨k0, k2⟩
          · by_cases h20 : n2 ≤ 20
            · by_cases h100 : n3 ≤ 100
              · have q1 : (n2 : Int) ≤ 20 := by omega
                have q2 : (n3 : Int) ≤ 100 := by omega
                go_enter Try.func15, Try.ntmps15
                go_wp2_with fail
                all_goals
                  go_ret
                  refine ⟨congrArg (fun b => Ending.returned (.bool b)) ?_, (Below.refl _ _).alloc (Nat.le_refl _) _⟩
                  rw [← HR.out]
                  cases S <;> cases P <;> simp_all [LongP]
              · have q1 : (n2 : Int) ≤ 20 := by omega
                have q2 : (100 : Int) < (n3 : Int) := by omega
                go_enter Try.func15, Try.ntmps15
                go_wp2_with fail
                go_ret
                refine ⟨congrArg (fun b => Ending.returned (.bool b)) ?_, (Below.refl _ _).alloc (Nat.le_refl _) _⟩
                rw [← HR.out]
                simp [LongP]
                omega
            · have q1 : (20 : Int) < (n2 : Int) := by omega
              go_enter Try.func15, Try.ntmps15
              go_wp2_with fail
              go_ret
              refine ⟨congrArg (fun b => Ending.returned (.bool b)) ?_, (Below.refl _ _).alloc (Nat.le_refl _) _⟩
              rw [← HR.out]
              simp [LongP]
              omega
          · by_cases h20 : n2 ≤ 20
            · have q1 : (n2 : Int) ≤ 20 := by omega
              go_enter Try.func15, Try.ntmps15
              go_wp2_with fail
              all_goals
                go_ret
                refine ⟨congrArg (fun b => Ending.returned (.bool b)) ?_, (Below.refl _ _).alloc (Nat.le_refl _) _⟩
                rw [← HR.out]
                cases S <;> cases P <;> simp_all [LongP]
            · have q1 : (20 : Int) < (n2 : Int) := by omega
              go_enter Try.func15, Try.ntmps15
              go_wp2_with fail
              go_ret
              refine ⟨congrArg (fun b => Ending.returned (.bool b)) ?_, (Below.refl _ _).alloc (Nat.le_refl _) _⟩
              rw [← HR.out]
              simp [LongP]
              omega
          · have q3 : ((n3 : Int) == 0) = false := by simp; omega
            go_enter Try.func15, Try.ntmps15
            go_wp2_with fail
            go_ret
            refine ⟨congrArg (fun b => Ending.returned (.bool b)) ?_, (Below.refl _ _).alloc (Nat.le_refl _) _⟩
            rw [← HR.out]
            simp [LongP, h3]
          · have q3 : (K == 0) = false := by simp; omega
            have q4 : (K == 2) = false := by simp; omega
            go_enter Try.func15, Try.ntmps15
            go_wp2_with fail
            go_ret
            refine ⟨congrArg (fun b => Ending.returned (.bool b)) ?_, (Below.refl _ _).alloc (Nat.le_refl _) _⟩
            rw [← HR.out]
            simp [LongP, k0, k2]
      · rw [decide_eq_false (show ¬ MayP L K V n1 n2 n3 S P N NL from fun h => hn1 h.2.2.1)]
        have t1 : ((n1 : Int) != 8) = true := by simp; omega
        clear hn1 hN
        unfold hdrV
        go_enter Try.func15, Try.ntmps15
        go_wp2_with (fail)
        go_ret
        exact ⟨rfl, (Below.refl _ _).alloc (Nat.le_refl _) _⟩
    · rw [decide_eq_false (show ¬ MayP L K V n1 n2 n3 S P N NL from fun h => hN h.2.1)]
      have hN' : (4611686018427387903 : Int) < (N : Int) := by omega
      clear hN
      unfold hdrV
      go_enter Try.func15, Try.ntmps15
      go_wp2_with (fail)
      go_ret
      exact ⟨rfl, (Below.refl _ _).alloc (Nat.le_refl _) _⟩
  · rw [decide_eq_false (show ¬ MayP L K V n1 n2 n3 S P N NL from fun h => hNL h.1)]
    have hw : NL < 1 ∨ (1 ≤ NL ∧ 4 < NL) := by omega
    clear hNL
    rcases hw with h1 | ⟨h1, h4⟩
    all_goals
      unfold hdrV
      go_enter Try.func15, Try.ntmps15
      go_wp2_with (fail)
      go_ret
      exact ⟨rfl, (Below.refl _ _).alloc (Nat.le_refl _) _⟩

end Go.Proofs.Ytonoljcgcfjkmaa
