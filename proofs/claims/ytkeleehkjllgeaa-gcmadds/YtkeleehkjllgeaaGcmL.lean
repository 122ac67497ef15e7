/-
  The contract of awake.
-/
import Derived.Test.YtkeleehkjllgeaaGcmJ
import Derived.Test.YtkeleehkjllgeaaGcmK
import Derived.Lib.SlBytesConst
namespace Go.Proofs.Ytkeleehkjllgeaa
open Go.RowKit
set_option linter.unusedVariables false

theorem sl_abc (w : World) : Sl (w.alloc (.cells #[.int .u8 97, .int .u8 98, .int .u8 99] 5 (3, 4))) (w.heap.size + 1) (some ⟨w.heap.size, 0, none⟩) 3 textA := by
  have hg : (w.alloc (.cells (bvs textA).toArray 5 (3, 4))).heap[w.heap.size]? = some (.cells (bvs textA).toArray 5 (3, 4)) := heap_alloc_new _ _
  refine ⟨rfl, fun _ => ⟨w.heap.size, 0, rfl, by omega, fun j hj => ?_⟩⟩
  have e := cell_of_row _ _ (0 + j) _ _ _ hg
  refine e.trans ?_
  rw [Nat.zero_add]
  simp [bvs, hj]
theorem conv_abc (w : World) : (convert 24 24 (.slice (some ⟨w.heap.size, 0, none⟩) 3 3)).run Try.prog (w.alloc (.cells #[.int .u8 97, .int .u8 98, .int .u8 99] 5)) = .ok (.slice (some ⟨w.heap.size, 0, none⟩) 3 3) (w.alloc (.cells #[.int .u8 97, .int .u8 98, .int .u8 99] 5 (3, 4))) :=
  Lib.run_convert_bytes_const (P := Try.prog) w 24 5 #[.int .u8 97, .int .u8 98, .int .u8 99] 3 3 Try.underlying24 Try.underlying5
/-- the seal of nothing, under a name that no rule opens -/
def zsealV : List UInt8 := [88, 226, 252, 206, 250, 126, 48, 97, 54, 127, 29, 87, 164, 231, 69, 90]
def asealV : List UInt8 := cutA ++ tagA
theorem aseal_length : asealV.length = 19 := rfl
theorem awake_seal (w : World) : Calls Try.prog 10 #[.agg #[.int .u8 0, .int .u8 0, .int .u8 0, .int .u8 0, .int .u8 0, .int .u8 0, .int .u8 0, .int .u8 0, .int .u8 0, .int .u8 0, .int .u8 0, .int .u8 0, .int .u8 0, .int .u8 0, .int .u8 0, .int .u8 0], .agg #[.int .u8 0, .int .u8 0, .int .u8 0, .int .u8 0, .int .u8 0, .int .u8 0, .int .u8 0, .int .u8 0, .int .u8 0, .int .u8 0, .int .u8 0, .int .u8 0], .slice none 0 0, .slice none 0 0] w (MakesBytes w 16 zsealV) := by
  have h := seal_any zG n12 [] [] zG_length rfl none none 0 0 0 0 0 w Sl.nil Sl.nil (Nat.zero_le _) (Nat.le_refl _) (by simp [maxLen]) (by omega) (Nat.le_refl _) (by simp [maxLen]) (by omega)
  rw [sealZ] at h
  exact h
theorem awake_seal2 (A : Option Addr) (B : Nat) (w : World) (hs : Sl w B A 3 textA) (hB : B ≤ w.heap.size) : Calls Try.prog 10 #[.agg #[.int .u8 1, .int .u8 0, .int .u8 0, .int .u8 0, .int .u8 0, .int .u8 0, .int .u8 0, .int .u8 0, .int .u8 0, .int .u8 0, .int .u8 0, .int .u8 0, .int .u8 0, .int .u8 0, .int .u8 0, .int .u8 0], .agg #[.int .u8 2, .int .u8 0, .int .u8 0, .int .u8 0, .int .u8 0, .int .u8 0, .int .u8 0, .int .u8 0, .int .u8 0, .int .u8 0, .int .u8 0, .int .u8 0], .slice A 3 3, .slice none 0 0] w (MakesBytes w 19 asealV) := by
  have h := seal_any keyA nonA textA [] rfl rfl A none 3 3 0 0 B w hs Sl.nil hB (Nat.le_refl _) (by simp [maxLen]) (by omega) (Nat.le_refl _) (by simp [maxLen]) (by omega)
  rw [sealA] at h
  exact h
theorem awake_open (A : Option Addr) (c B : Nat) (w : World) (hs : Sl w B A 19 asealV) (hB : B ≤ w.heap.size) (hc : 19 ≤ c) (hm : c ≤ maxLen) : Calls Try.prog 13 #[.agg #[.int .u8 0, .int .u8 0, .int .u8 0, .int .u8 0, .int .u8 0, .int .u8 0, .int .u8 0, .int .u8 0, .int .u8 0, .int .u8 0, .int .u8 0, .int .u8 0, .int .u8 0, .int .u8 0, .int .u8 0, .int .u8 0], .agg #[.int .u8 0, .int .u8 0, .int .u8 0, .int .u8 0, .int .u8 0, .int .u8 0, .int .u8 0, .int .u8 0, .int .u8 0, .int .u8 0, .int .u8 0, .int .u8 0], .slice A 19 c, .slice none 0 0] w (Opens w ([], 7)) := by
  have h := open_any zG n12 asealV [] zG_length rfl A none 19 c 0 0 B w hs Sl.nil hB hc hm (by omega) (Nat.le_refl _) (by simp [maxLen]) (by omega)
  unfold asealV at h
  rw [openA] at h
  exact h
set_option maxHeartbeats 1000000 in
theorem awake_any (w : World) : Calls Try.prog 9 #[] w fun e w' => e = .returned (.bool true) ∧ Below w.heap.size w w' := by
  have hcv := conv_abc
  go_enter Try.func9, Try.ntmps9
  go_wp2_with (first
    | (go_at_call 10; (first
        | ((with_reducible refine (awake_seal _).mono ?_); rintro e1 w1 ⟨A1, c1, rfl, o1, l1, m1, b1⟩; have O1 := Lib.hid o1; have B1 := Lib.hid b1; clear o1 l1 m1 b1)
        | ((with_reducible refine (awake_seal2 _ (w1.heap.size + 1) _ (sl_abc w1) (by simp)).mono ?_); rintro e2 w2 ⟨A2, c2, rfl, o2, l2, m2, b2⟩; have O2 := Lib.hid o2; have L2 : Hid (19 ≤ c2 ∧ c2 ≤ maxLen) := ⟨l2, m2⟩; have B2 : Hid (Below w1.heap.size w1 w2) := ((Below.refl _ _).alloc (Nat.le_refl _) _).trans (b2.mono (by simp)); clear o2 l2 m2 b2)))
    | (go_at_call 13; (with_reducible refine (awake_open A2 c2 w2.heap.size _ O2.out.sl (Nat.le_refl _) L2.out.1 L2.out.2).mono ?_); rintro e3 w3 ⟨A3, n3, c3, rfl, o3, l3, m3, b3⟩;
        have hb := B2.out.trans (b3.mono B2.out.size); have O3 := Lib.hid (O1.out.below hb); have B3 := Lib.hid (B1.out.trans (hb.mono B1.out.size)); obtain ⟨g, rfl, _, _⟩ := O1.out.at_ (by omega);
        have k0 : w3.cell? ⟨g, 0, none⟩ = some (.int .u8 88) := O3.out.cell 0 (by decide); have k1 : w3.cell? ⟨g, 1, none⟩ = some (.int .u8 226) := O3.out.cell 1 (by decide); have k2 : w3.cell? ⟨g, 15, none⟩ = some (.int .u8 90) := O3.out.cell 15 (by decide);
        have hn3 : n3 = 0 := o3.len.symm; subst hn3; clear o3 l3 m3 b3 hb))
  go_ret
  exact ⟨rfl, B3.out⟩
end Go.Proofs.Ytkeleehkjllgeaa
