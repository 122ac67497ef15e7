/-
  The contract of Seal.
-/
import Derived.Test.YtkeleehkjllgeaaGcmG
import Derived.Test.YtkeleehkjllgeaaOwnW
namespace Go.Proofs.Ytkeleehkjllgeaa
open Go.RowKit
set_option linter.unusedVariables false

set_option maxHeartbeats 2000000 in
theorem seal_any (key nonce text data : List UInt8) (hk : key.length = 16) (hno : nonce.length = 12) (A1 A2 : Option Addr) (n1 c1 n2 c2 B : Nat) (w : World) (hs1 : Sl w B A1 n1 text) (hs2 : Sl w B A2 n2 data) (hB : B ≤ w.heap.size) (hnc1 : n1 ≤ c1) (hcm1 : c1 ≤ maxLen) (hn1 : n1 ≤ 999000) (hnc2 : n2 ≤ c2) (hcm2 : c2 ≤ maxLen) (hn2 : n2 ≤ 1000000) :
    Calls Try.prog 10 #[.agg (bvs key).toArray, .agg (bvs nonce).toArray, .slice A1 n1 c1, .slice A2 n2 c2] w (MakesBytes w (n1 + 16) (sealG key nonce text data)) := by
  have Hk := Lib.hid hk
  have Hno := Lib.hid hno
  have HS1 := Lib.hid hs1
  have HS2 := Lib.hid hs2
  have HB := Lib.hid hB
  have HN1 : Hid (n1 ≤ c1 ∧ c1 ≤ maxLen) := ⟨hnc1, hcm1⟩
  have HN2 : Hid (n2 ≤ c2 ∧ c2 ≤ maxLen) := ⟨hnc2, hcm2⟩
  obtain ⟨T, hT⟩ : ∃ x, turnG key nonce text = x := ⟨_, rfl⟩
  obtain ⟨tg, htg⟩ : ∃ x, tagG key nonce T data = x := ⟨_, rfl⟩
  have HTL : Hid (tg.length = 16) := show _ = _ by rw [← htg]; exact tagG_length _ _ _ _ hk hno
  have hsl : sealG key nonce text data = T ++ tg := by unfold sealG; rw [hT, htg]
  rw [hsl]
  have HT := Lib.hid hT
  have HTG := Lib.hid htg
  have HP : Hid (∀ u : World, Below w.heap.size w u → Sl u B A1 n1 text ∧ Sl u B A2 n2 data) := fun u hu => ⟨hs1.below (hu.mono hB), hs2.below (hu.mono hB)⟩
  clear hk hno hs1 hs2 hB hnc1 hcm1 hnc2 hcm2 hT htg hsl
  go_enter Try.func10, Try.ntmps10
  go_upto_region 1 with fail
  refine wp_forget (fun w1 => Blk w1 w.heap.size 22 key ∧ Blk w1 (w.heap.size + 1) 23 nonce ∧ Below w.heap.size w w1) ⟨heap_allocs w [_, _] 0 _ rfl, heap_allocs w [_, _] 1 _ rfl, ((Below.refl _ _).alloc (Nat.le_refl _) _).alloc (by simp) _⟩ ?_
  intro w1 ⟨h1, h2, h3⟩
  have K1 := Lib.hid h1
  have N1 := Lib.hid h2
  have B1 := Lib.hid h3
  clear h1 h2 h3
  go_wp2_with (first
    | ((with_reducible refine wpList_load_blk rfl 22 (.tmp 4) rfl w.heap.size ?hx 22 key ?hg 16 5 Try.underlying22 16 sizeRow Hk.out ?_); (case hx => with_unfolding_all rfl); (case hg => with_reducible first | exact K1.out | exact K2.out))
    | ((with_reducible refine wpList_load_blk rfl 23 (.tmp 5) rfl (w.heap.size + 1) ?hx 23 nonce ?hg 12 5 Try.underlying23 12 size12 Hno.out ?_); (case hx => with_unfolding_all rfl); (case hg => with_reducible first | exact N1.out | exact N2.out))
    | (go_at_call 22; (with_reducible refine (turned_any key nonce text Hk.out Hno.out A1 n1 c1 B _ (HP.out _ B1.out).1 (Nat.le_trans HB.out B1.out.size) HN1.out.1 HN1.out.2 (by omega)).mono ?_); rintro e2 w2 ⟨A', c', rfl, ho2, hle2, hc2, hb2⟩; rw [HT.out] at ho2;
        have K2 := Lib.hid (K1.out.below hb2); have N2 := Lib.hid (N1.out.below hb2); have B2 := Lib.hid (B1.out.trans (hb2.mono B1.out.size)); have O2 := Lib.hid (ho2.base B1.out.size); have HC2 : Hid (n1 ≤ c' ∧ c' ≤ maxLen) := ⟨hle2, hc2⟩; clear ho2 hb2 hle2 hc2)
    | (go_at_call 23; (with_reducible refine (tagOf_any key nonce T data Hk.out Hno.out A' A2 n1 c' n2 c2 w2.heap.size _ O2.out.sl (((HP.out _ B2.out).2).more (Nat.le_trans HB.out B2.out.size)) (Nat.le_refl _) HC2.out.1 HC2.out.2 (by omega) HN2.out.1 HN2.out.2 hn2).mono ?_); rintro e3 w3 ⟨rfl, hb3⟩; rw [HTG.out];
        have B3 := Lib.hid (B2.out.trans (hb3.mono B2.out.size)); have O3 := Lib.hid (O2.out.below hb3); clear hb3)
    | ((with_reducible refine wpList_store_blk rfl 22 (.tmp 10) (.tmp 19) rfl w3.heap.size tg ?hx ?hy 22 (List.replicate 16 0) ?hg 16 sizeRow HTL.out ?ho ?_); (case hx => with_unfolding_all rfl); (case hy => with_unfolding_all rfl); (case hg => exact heap_alloc_new _ _); (case ho => rfl); intro w4 H4 P4;
        have b4 : Below w3.heap.size w3 w4 := ((Below.refl _ _).alloc (Nat.le_refl _) _).trans (P4.out.below (by simp) (Nat.le_refl _)); have B4 := Lib.hid (B3.out.trans (b4.mono B3.out.size)); have O4 := Lib.hid (O3.out.below b4); clear b4; have hwh := whole16 w3.heap.size)
    | ((with_reducible refine wpList_append_bytes rfl (.tmp 20) (.tmp 21) rfl w.heap.size (.slice A' n1 c') n1 T ?hs O4.out w4.heap.size (some ⟨w3.heap.size, 0, none⟩) 16 16 tg ?hx ?hr (by omega) B4.out.size w B4.out ?_); (case hs => with_unfolding_all rfl); (case hx => with_unfolding_all rfl); (case hr => exact H4.out.sl _ _ H4.out.lt HTL.out); intro A5 c5 w5 ho5 hle5 hc5 hg5 hb5))
  go_ret
  exact ⟨A5, c5, rfl, ho5, hle5, hc5, hb5⟩
end Go.Proofs.Ytkeleehkjllgeaa
