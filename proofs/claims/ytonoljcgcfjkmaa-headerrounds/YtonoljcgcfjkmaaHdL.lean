/-
  Two headers that are the same: the contract of SameHeader there.
-/
import Derived.Test.YtonoljcgcfjkmaaHdI
import Derived.Test.YtonoljcgcfjkmaaSame
namespace Go.Proofs.Ytonoljcgcfjkmaa
open Go.RowKit
set_option linter.unusedVariables false

theorem same_w (l : List UInt8) (A A' : Option Addr) (n c c' B B' : Nat) (w : World) (h : Sl w B A n l) (h' : Sl w B' A' n l) (hm : n ≤ maxLen) :
    Calls Try.prog 16 #[.slice A n c, .slice A' n c'] w fun e w' => e = .returned (.bool true) ∧ Below w.heap.size w w' :=
  (same_yes l l rfl A A' n n c c' B B' w h h' hm).mono fun e w' ⟨he, k, hk⟩ => ⟨he, by subst hk; exact ⟨rfl, rfl, rfl, Nat.le_refl _, fun _ _ => rfl⟩⟩
set_option maxHeartbeats 4000000 in
set_option maxRecDepth 4000 in
theorem sameHeader_yes (L : Bool) (K : Int) (V N : Nat) (NL : Int) (S P : Bool) (dst src tok : List UInt8) (A1 : Option Addr) (n1 c1 : Nat) (A2 : Option Addr) (n2 c2 : Nat) (A3 : Option Addr) (n3 c3 : Nat) (A4 : Option Addr) (c4 : Nat) (A5 : Option Addr) (c5 : Nat) (A6 : Option Addr) (c6 : Nat) (w : World)
    (hs1 : Sl w w.heap.size A1 n1 dst) (hs2 : Sl w w.heap.size A2 n2 src) (hs3 : Sl w w.heap.size A3 n3 tok) (hs4 : Sl w w.heap.size A4 n1 dst) (hs5 : Sl w w.heap.size A5 n2 src) (hs6 : Sl w w.heap.size A6 n3 tok) (hm1 : n1 ≤ maxLen) (hm2 : n2 ≤ maxLen) (hm3 : n3 ≤ maxLen) :
    Calls Try.prog 17 #[.agg (hdrV L K V A1 n1 c1 A2 n2 c2 A3 n3 c3 S P N NL).toArray, .agg (hdrV L K V A4 n1 c4 A5 n2 c5 A6 n3 c6 S P N NL).toArray] w fun e w' => e = .returned (.bool true) ∧ Below w.heap.size w w' := by
  have HP : Hid (∀ u : World, Below w.heap.size w u → (Sl u w.heap.size A1 n1 dst ∧ Sl u w.heap.size A4 n1 dst) ∧ (Sl u w.heap.size A2 n2 src ∧ Sl u w.heap.size A5 n2 src) ∧ (Sl u w.heap.size A3 n3 tok ∧ Sl u w.heap.size A6 n3 tok)) := fun u hu =>
    ⟨⟨hs1.below hu, hs4.below hu⟩, ⟨hs2.below hu, hs5.below hu⟩, ⟨hs3.below hu, hs6.below hu⟩⟩
  have HM : Hid (n1 ≤ maxLen ∧ n2 ≤ maxLen ∧ n3 ≤ maxLen) := ⟨hm1, hm2, hm3⟩
  obtain ⟨vs, hvs⟩ : ∃ vs, hdrV L K V A1 n1 c1 A2 n2 c2 A3 n3 c3 S P N NL = vs := ⟨_, rfl⟩
  obtain ⟨us, hus⟩ : ∃ vs, hdrV L K V A4 n1 c4 A5 n2 c5 A6 n3 c6 S P N NL = vs := ⟨_, rfl⟩
  have HVS := Lib.hid hvs
  have HUS := Lib.hid hus
  have tL : (L == L) = true := by simp
  have tS : (S == S) = true := by simp
  have tP : (P == P) = true := by simp
  have tK : (K == K) = true := by simp
  have tV : ((V : Int) == (V : Int)) = true := by simp
  have tN : ((N : Int) == (N : Int)) = true := by simp
  have tNL : (NL == NL) = true := by simp
  clear hs1 hs2 hs3 hs4 hs5 hs6 hm1 hm2 hm3 hvs hus
  unfold hdrV
  go_enter Try.func17, Try.ntmps17
  go_wp2_with fail
  have B0 : Hid (Below w.heap.size w ((w.alloc (.cells (hdrV L K V A1 n1 c1 A2 n2 c2 A3 n3 c3 S P N NL).toArray 26)).alloc (.cells (hdrV L K V A4 n1 c4 A5 n2 c5 A6 n3 c6 S P N NL).toArray 26))) := ((Below.refl _ _).alloc (Nat.le_refl _) _).alloc (by simp) _
  (with_reducible refine (same_w dst A1 A4 n1 c1 c4 w.heap.size w.heap.size _ (HP.out _ ?hb).1.1 (HP.out _ ?hb).1.2 HM.out.1).mono ?_)
  case hb => exact B0.out
  rintro e1 w1 ⟨rfl, b1⟩
  have R1 : Hid (Rw w1 w.heap.size 26 vs) := (show Rw _ _ _ vs by rw [← HVS.out]; exact heap_allocs w [_, _] 0 _ rfl).below b1
  have Q1 : Hid (Rw w1 (w.heap.size + 1) 26 us) := (show Rw _ _ _ us by rw [← HUS.out]; exact heap_allocs w [_, _] 1 _ rfl).below b1
  have B1 : Hid (Below w.heap.size w w1) := B0.out.trans (b1.mono (by simp; omega))
  clear b1
  obtain ⟨k0, k1, k2, k3, k4, k5, k6, k7, k8, k9⟩ := hdr_cells (HVS.out ▸ R1.out)
  obtain ⟨j0, j1, j2, j3, j4, j5, j6, j7, j8, j9⟩ := hdr_cells (HUS.out ▸ Q1.out)
  go_wp2_with fail
  (with_reducible refine (same_w src A2 A5 n2 c2 c5 w.heap.size w.heap.size w1 (HP.out _ B1.out).2.1.1 (HP.out _ B1.out).2.1.2 HM.out.2.1).mono ?_)
  rintro e2 w2 ⟨rfl, b2⟩
  have R2 := Lib.hid (R1.out.below b2)
  have Q2 := Lib.hid (Q1.out.below b2)
  have B2 := Lib.hid (B1.out.trans (b2.mono B1.out.size))
  clear b2
  obtain ⟨k0, k1, k2, k3, k4, k5, k6, k7, k8, k9⟩ := hdr_cells (HVS.out ▸ R2.out)
  obtain ⟨j0, j1, j2, j3, j4, j5, j6, j7, j8, j9⟩ := hdr_cells (HUS.out ▸ Q2.out)
  go_wp2_with fail
  (with_reducible refine (same_w tok A3 A6 n3 c3 c6 w.heap.size w.heap.size w2 (HP.out _ B2.out).2.2.1 (HP.out _ B2.out).2.2.2 HM.out.2.2).mono ?_)
  rintro e3 w3 ⟨rfl, b3⟩
  have R3 := Lib.hid (R2.out.below b3)
  have Q3 := Lib.hid (Q2.out.below b3)
  have B3 := Lib.hid (B2.out.trans (b3.mono B2.out.size))
  clear b3
  obtain ⟨k0, k1, k2, k3, k4, k5, k6, k7, k8, k9⟩ := hdr_cells (HVS.out ▸ R3.out)
  obtain ⟨j0, j1, j2, j3, j4, j5, j6, j7, j8, j9⟩ := hdr_cells (HUS.out ▸ Q3.out)
  go_wp2_with fail
  go_ret
  exact ⟨by first | rfl | simp, B3.out⟩
end Go.Proofs.Ytonoljcgcfjkmaa
