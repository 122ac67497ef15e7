/-
  The contract of header.Put.
-/
import Derived.Test.YtonoljcgcfjkmaaHdH
namespace Go.Proofs.Ytonoljcgcfjkmaa
open Go.RowKit
set_option linter.unusedVariables false

/-- the bytes that are laid, and the code -/
def putR (L : Bool) (K : Int) (V N : Nat) (NL rest : Int) (S P : Bool) (dst src tok : List UInt8) : List UInt8 × Int :=
  if MayP L K V dst.length src.length tok.length S P N NL ∧ 0 ≤ rest ∧ rest ≤ 16383 - NL then
    (if L = true then putLV K.toNat V NL.toNat N rest.toNat dst src tok else putSV S P NL.toNat N dst, 0)
  else ([], 2)
def Puts (w : World) (r : List UInt8 × Int) (e : Ending) (w' : World) : Prop :=
  ∃ A n c, e = .returned (.tuple #[.slice A n c, .int .i64 r.2]) ∧ Own w' w.heap.size (.slice A n c) n r.1 ∧ n ≤ c ∧ c ≤ maxLen ∧ Below w.heap.size w w'
theorem puts_nil (w w' : World) (r : List UInt8 × Int) (hr : r = ([], 2)) (hb : Below w.heap.size w w') : Puts w r (.returned (.tuple #[.slice none 0 0, .int .i64 2])) w' := by
  subst hr
  exact ⟨none, 0, 0, rfl, Own.nil _ _, Nat.le_refl _, by simp [maxLen], hb⟩

set_option maxHeartbeats 4000000 in
theorem hput_any (L : Bool) (K : Int) (V N : Nat) (NL rest : Int) (S P : Bool) (dst src tok : List UInt8) (hV : V < 4294967296) (hN : N < 18446744073709551616) (A1 : Option Addr) (n1 c1 : Nat) (A2 : Option Addr) (n2 c2 : Nat) (A3 : Option Addr) (n3 c3 B : Nat) (w : World) (hs1 : Sl w B A1 n1 dst) (hs2 : Sl w B A2 n2 src) (hs3 : Sl w B A3 n3 tok) (hB : B ≤ w.heap.size) :
    Calls Try.prog 10 #[.agg (hdrV L K V A1 n1 c1 A2 n2 c2 A3 n3 c3 S P N NL).toArray, .int .i64 rest] w (Puts w (putR L K V N NL rest S P dst src tok)) := by
  have hl1 := hs1.1
  have hl2 := hs2.1
  have hl3 := hs3.1
  have HM := Lib.hid (may_any L K V A1 n1 c1 A2 n2 c2 A3 n3 c3 S P N NL)
  have HP : Hid (∀ u : World, Below w.heap.size w u → Sl u B A1 n1 dst ∧ Sl u B A2 n2 src ∧ Sl u B A3 n3 tok) := fun u hu => ⟨hs1.below (hu.mono hB), hs2.below (hu.mono hB), hs3.below (hu.mono hB)⟩
  have HB := Lib.hid hB
  obtain ⟨vs, hvs⟩ : ∃ vs, hdrV L K V A1 n1 c1 A2 n2 c2 A3 n3 c3 S P N NL = vs := ⟨_, rfl⟩
  have HVS := Lib.hid hvs
  have HSZ : Hid ((Try.prog.info? 26).map (·.size) = some vs.length) := show _ = _ by rw [← hvs]; exact hdr_size
  rw [hvs] at HM
  by_cases hM : MayP L K V n1 n2 n3 S P N NL
  · rw [decide_eq_true hM] at HM
    have hNL := hM.1
    obtain ⟨nl, rfl⟩ : ∃ nl : Nat, NL = (nl : Int) := ⟨NL.toNat, by omega⟩
    have h1 : 1 ≤ nl := by omega
    have h4 : nl ≤ 4 := by omega
    have hw : (rest < 0) ∨ (0 ≤ rest ∧ 16383 - (nl : Int) < rest) ∨ (0 ≤ rest ∧ rest ≤ 16383 - (nl : Int)) := by omega
    rcases hw with hr | ⟨hr, hr2⟩ | ⟨hr, hr2⟩
    · obtain ⟨R, hR⟩ : ∃ R, putR L K V N nl rest S P dst src tok = R := ⟨_, rfl⟩
      have HR : Hid (R = ([], 2)) := show _ = _ by rw [← hR]; unfold putR; rw [if_neg (by intro h; omega)]
      rw [hR]
      clear hs1 hs2 hs3 hB hvs hM hR
      unfold hdrV
      go_enter Try.func10, Try.ntmps10
      go_wp2_with (first
        | (go_at_call 14; (with_reducible refine (HM.out _).mono ?_); rintro e1 w1 ⟨rfl, b1⟩)
        | ((with_reducible refine wpList_load_rw rfl 26 (.tmp 2) rfl w.heap.size ?hx 26 vs ?hB _ Try.underlying26 rfl HSZ.out ?_); (case hx => with_unfolding_all rfl); (case hB => rw [← HVS.out]; exact heap_alloc_new w _)))
      go_ret2
      exact puts_nil _ _ _ HR.out (((Below.refl _ _).alloc (Nat.le_refl _) _).trans (b1.mono (by simp)))
    · obtain ⟨R, hR⟩ : ∃ R, putR L K V N nl rest S P dst src tok = R := ⟨_, rfl⟩
      have HR : Hid (R = ([], 2)) := show _ = _ by rw [← hR]; unfold putR; rw [if_neg (by intro h; omega)]
      rw [hR]
      have t1 : decide (16383 - (nl : Int) < rest) = true := by simp; omega
      clear hs1 hs2 hs3 hB hvs hM hR
      unfold hdrV
      go_enter Try.func10, Try.ntmps10
      go_wp2_with (first
        | (go_at_call 14; (with_reducible refine (HM.out _).mono ?_); rintro e1 w1 ⟨rfl, b1⟩; have c19 := ((show Rw (w.alloc _) _ _ vs by rw [← HVS.out]; exact heap_alloc_new w _).below b1); rw [← HVS.out] at c19; have c9 := (hdr_cells c19).2.2.2.2.2.2.2.2.2; clear c19)
        | ((with_reducible refine wpList_load_rw rfl 26 (.tmp 2) rfl w.heap.size ?hx 26 vs ?hB _ Try.underlying26 rfl HSZ.out ?_); (case hx => with_unfolding_all rfl); (case hB => rw [← HVS.out]; exact heap_alloc_new w _)))
      go_ret2
      exact puts_nil _ _ _ HR.out (((Below.refl _ _).alloc (Nat.le_refl _) _).trans (b1.mono (by simp)))
    · obtain ⟨r, rfl⟩ : ∃ r : Nat, rest = (r : Int) := ⟨rest.toNat, by omega⟩
      have hrn : r + nl ≤ 16383 := by omega
      have t1 : decide (16383 - (nl : Int) < (r : Int)) = false := by simp; omega
      have hn1 := hM.2.2.1
      have hN62 := hM.2.1
      have hrest := hM.2.2.2
      have hput : putR L K V N nl r S P dst src tok = (if L = true then putLV K.toNat V nl N r dst src tok else putSV S P nl N dst, 0) := by
        unfold putR
        rw [hl1, hl2, hl3, if_pos ⟨hM, by omega, by omega⟩]
        rfl
      rw [hput]
      subst hn1
      cases L
      · rw [if_neg (by simp)]
        have HC := Lib.hid (fun u hu hb => putShort_any S P nl N ⟨h1, h4⟩ hN dst A1 c1 A2 n2 c2 A3 n3 c3 B K V u hu hb)
        rw [hvs] at HC
        clear hs1 hs2 hs3 hB hvs hM hput hrest
        unfold hdrV
        go_enter Try.func10, Try.ntmps10
        go_wp2_with (first
          | (go_at_call 14; (with_reducible refine (HM.out _).mono ?_); rintro e1 w1 ⟨rfl, b1⟩; have R1 : Hid (Rw w1 w.heap.size 26 vs) := (show Rw (w.alloc _) _ _ vs by rw [← HVS.out]; exact heap_alloc_new w _).below b1; have B1 : Hid (Below w.heap.size w w1) := ((Below.refl _ _).alloc (Nat.le_refl _) _).trans (b1.mono (by simp)); obtain ⟨c0, _, _, _, _, _, _, _, _, c9⟩ := hdr_cells (HVS.out ▸ R1.out); clear b1)
          | ((with_reducible refine wpList_load_rw rfl 26 (.tmp 2) rfl w.heap.size ?hx 26 vs ?hB _ Try.underlying26 rfl HSZ.out ?_); (case hx => with_unfolding_all rfl); (case hB => first | exact R1.out | (rw [← HVS.out]; exact heap_alloc_new w _)))
          | (go_at_call 26; (with_reducible refine (HC.out w1 (HP.out _ B1.out).1 (Nat.le_trans HB.out B1.out.size)).mono ?_); rintro e2 w2 ⟨A4, c4, rfl, ho, hle, hc, hb⟩))
        go_ret2
        exact ⟨A4, _, c4, rfl, ho.base B1.out.size, hle, hc, B1.out.trans (hb.mono B1.out.size)⟩
      · rw [if_pos rfl] at hrest ⊢
        obtain ⟨rfl, rfl, hK, hn2, hn3, h20⟩ := hrest
        clear h20
        rcases hK with rfl | rfl
        · have HC := Lib.hid (fun u hu1 hu2 hu3 hb => putLong0_any V nl N r hV ⟨h1, h4⟩ hN hrn false false dst src tok A1 c1 A2 n2 c2 A3 n3 c3 B u hu1 hu2 hu3 hb hn2 hn3)
          rw [hvs] at HC
          clear hs1 hs2 hs3 hB hvs hM hput
          unfold hdrV
          go_enter Try.func10, Try.ntmps10
          go_wp2_with (first
            | (go_at_call 14; (with_reducible refine (HM.out _).mono ?_); rintro e1 w1 ⟨rfl, b1⟩; have R1 : Hid (Rw w1 w.heap.size 26 vs) := (show Rw (w.alloc _) _ _ vs by rw [← HVS.out]; exact heap_alloc_new w _).below b1; have B1 : Hid (Below w.heap.size w w1) := ((Below.refl _ _).alloc (Nat.le_refl _) _).trans (b1.mono (by simp)); obtain ⟨c0, _, _, _, _, _, _, _, _, c9⟩ := hdr_cells (HVS.out ▸ R1.out); clear b1)
            | ((with_reducible refine wpList_load_rw rfl 26 (.tmp 2) rfl w.heap.size ?hx 26 vs ?hB _ Try.underlying26 rfl HSZ.out ?_); (case hx => with_unfolding_all rfl); (case hB => first | exact R1.out | (rw [← HVS.out]; exact heap_alloc_new w _)))
            | (go_at_call 25; (with_reducible refine (HC.out w1 (HP.out _ B1.out).1 (HP.out _ B1.out).2.1 (HP.out _ B1.out).2.2 (Nat.le_trans HB.out B1.out.size)).mono ?_); rintro e2 w2 ⟨A4, c4, rfl, ho, hle, hc, hb⟩))
          go_ret2
          exact ⟨A4, _, c4, rfl, ho.base B1.out.size, hle, hc, B1.out.trans (hb.mono B1.out.size)⟩
        · have HC := Lib.hid (fun u hu1 hu2 hu3 hb => putLong2_any V nl N r hV ⟨h1, h4⟩ hN hrn false false dst src tok A1 c1 A2 n2 c2 A3 n3 c3 B u hu1 hu2 hu3 hb hn2 hn3)
          rw [hvs] at HC
          clear hs1 hs2 hs3 hB hvs hM hput
          unfold hdrV
          go_enter Try.func10, Try.ntmps10
          go_wp2_with (first
            | (go_at_call 14; (with_reducible refine (HM.out _).mono ?_); rintro e1 w1 ⟨rfl, b1⟩; have R1 : Hid (Rw w1 w.heap.size 26 vs) := (show Rw (w.alloc _) _ _ vs by rw [← HVS.out]; exact heap_alloc_new w _).below b1; have B1 : Hid (Below w.heap.size w w1) := ((Below.refl _ _).alloc (Nat.le_refl _) _).trans (b1.mono (by simp)); obtain ⟨c0, _, _, _, _, _, _, _, _, c9⟩ := hdr_cells (HVS.out ▸ R1.out); clear b1)
            | ((with_reducible refine wpList_load_rw rfl 26 (.tmp 2) rfl w.heap.size ?hx 26 vs ?hB _ Try.underlying26 rfl HSZ.out ?_); (case hx => with_unfolding_all rfl); (case hB => first | exact R1.out | (rw [← HVS.out]; exact heap_alloc_new w _)))
            | (go_at_call 25; (with_reducible refine (HC.out w1 (HP.out _ B1.out).1 (HP.out _ B1.out).2.1 (HP.out _ B1.out).2.2 (Nat.le_trans HB.out B1.out.size)).mono ?_); rintro e2 w2 ⟨A4, c4, rfl, ho, hle, hc, hb⟩))
          go_ret2
          exact ⟨A4, _, c4, rfl, ho.base B1.out.size, hle, hc, B1.out.trans (hb.mono B1.out.size)⟩
  · rw [decide_eq_false hM] at HM
    obtain ⟨R, hR⟩ : ∃ R, putR L K V N NL rest S P dst src tok = R := ⟨_, rfl⟩
    have HR : Hid (R = ([], 2)) := show _ = _ by rw [← hR]; unfold putR; rw [hl1, hl2, hl3, if_neg (fun h => hM h.1)]
    rw [hR]
    clear hs1 hs2 hs3 hB hvs hM hR
    unfold hdrV
    go_enter Try.func10, Try.ntmps10
    go_wp2_with (first
      | (go_at_call 14; (with_reducible refine (HM.out _).mono ?_); rintro e1 w1 ⟨rfl, b1⟩)
      | ((with_reducible refine wpList_load_rw rfl 26 (.tmp 2) rfl w.heap.size ?hx 26 vs ?hB _ Try.underlying26 rfl HSZ.out ?_); (case hx => with_unfolding_all rfl); (case hB => rw [← HVS.out]; exact heap_alloc_new w _)))
    go_ret2
    exact puts_nil _ _ _ HR.out (((Below.refl _ _).alloc (Nat.le_refl _) _).trans (b1.mono (by simp)))
end Go.Proofs.Ytonoljcgcfjkmaa
