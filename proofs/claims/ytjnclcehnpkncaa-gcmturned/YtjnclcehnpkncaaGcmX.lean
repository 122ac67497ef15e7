/-
  The document's own Seal.
-/
import Derived.Test.YtjnclcehnpkncaaGcmV
import Derived.Test.YtjnclcehnpkncaaGcmJ
namespace Go.Proofs.Ytjnclcehnpkncaa
open Go.RowKit
set_option linter.unusedVariables false

set_option maxHeartbeats 2000000 in
theorem rseal_any (key nonce text data : List UInt8) (hk : key.length = 16) (hno : nonce.length = 12) (A1 A2 : Option Addr) (n1 c1 n2 c2 B : Nat) (w : World) (hs1 : Sl w B A1 n1 text) (hs2 : Sl w B A2 n2 data) (hB : B ≤ w.heap.size) (hnc1 : n1 ≤ c1) (hcm1 : c1 ≤ maxLen) (hn1 : n1 ≤ 999000) (hnc2 : n2 ≤ c2) (hcm2 : c2 ≤ maxLen) (hn2 : n2 ≤ 1000000) :
    Calls Try.prog 12 #[.agg (bvs key).toArray, .agg (bvs nonce).toArray, .slice A1 n1 c1, .slice A2 n2 c2] w (MakesBytes w (n1 + 16) (sealG key nonce text data)) := by
  have Hk := Lib.hid hk
  have Hno := Lib.hid hno
  have HB := Lib.hid hB
  have HN2 : Hid (n2 ≤ c2 ∧ c2 ≤ maxLen) := ⟨hnc2, hcm2⟩
  obtain ⟨T, hT⟩ : ∃ x, turnG key nonce text = x := ⟨_, rfl⟩
  obtain ⟨tg, htg⟩ : ∃ x, tagG key nonce T data = x := ⟨_, rfl⟩
  have HTL : Hid (tg.length = 16) := show _ = _ by rw [← htg]; exact tagG_length _ _ _ _ hk hno
  have hsl : sealG key nonce text data = T ++ tg := by unfold sealG; rw [hT, htg]
  rw [hsl]
  have HT := Lib.hid hT
  have HTG := Lib.hid htg
  have HP : Hid (∀ u : World, Below w.heap.size w u → Sl u B A1 n1 text ∧ Sl u B A2 n2 data) := fun u hu => ⟨hs1.below (hu.mono hB), hs2.below (hu.mono hB)⟩
  clear hk hno hs1 hs2 hB hnc1 hcm1 hnc2 hcm2 hT htg hsl
  go_enter Try.func12, Try.ntmps12
  go_upto_region 1 with fail
  refine wp_forget (fun w1 => Blk w1 w.heap.size 22 key ∧ Blk w1 (w.heap.size + 1) 23 nonce ∧ Below w.heap.size w w1) ⟨heap_allocs w [_, _] 0 _ rfl, heap_allocs w [_, _] 1 _ rfl, ((Below.refl _ _).alloc (Nat.le_refl _) _).alloc (by simp) _⟩ ?_
  intro w1 ⟨h1, h2, h3⟩
  have K1 := Lib.hid h1
  have N1 := Lib.hid h2
  have B1 := Lib.hid h3
  clear h1 h2 h3
  go_wp2_with (first
    | ((with_reducible refine wpList_load_blk rfl 22 (.tmp 4) rfl w.heap.size ?hx 22 key ?hg 16 5 Try.underlying22 16 sizeRow Hk.out ?_); (case hx => with_unfolding_all rfl); (case hg => with_reducible exact K1.out))
    | (go_at_call 24; (with_reducible refine (new_any key Hk.out _).mono ?_); rintro e2 w2 ⟨gc, rfl, hgc2, c2', hb2⟩;
        have N2 := Lib.hid (N1.out.below hb2); have B2 := Lib.hid (B1.out.trans (hb2.mono B1.out.size)); have C2 := Lib.hid c2'; clear c2' hb2)
    | ((with_reducible refine wpList_load_blk rfl 23 (.tmp 5) rfl (w.heap.size + 1) ?hx 23 nonce ?hg 12 5 Try.underlying23 12 size12 Hno.out ?_); (case hx => with_unfolding_all rfl); (case hg => with_reducible first | exact N2.out | exact N3.out))
    | (go_at_call 25; (with_reducible refine (rturn_any key nonce text Hk.out Hno.out gc A1 n1 c1 B _ C2.out (HP.out _ B2.out).1 (Nat.le_trans HB.out B2.out.size) (by omega)).mono ?_); rintro e3 w3 ⟨A', c', rfl, ho3, hle3, hc3, hb3⟩; rw [HT.out] at ho3;
        have N3 := Lib.hid (N2.out.below hb3); have C3 := Lib.hid (C2.out.below hb3); have B3 := Lib.hid (B2.out.trans (hb3.mono B2.out.size)); have O3 := Lib.hid (ho3.base B2.out.size); have HC3 : Hid (n1 ≤ c' ∧ c' ≤ maxLen) := ⟨hle3, hc3⟩; clear ho3 hb3 hle3 hc3)
    | (go_at_call 26; (with_reducible refine (rtag_any key nonce T data Hk.out Hno.out gc A' A2 n1 c' n2 c2 w3.heap.size _ C3.out O3.out.sl (((HP.out _ B3.out).2).more (Nat.le_trans HB.out B3.out.size)) (Nat.le_refl _) HC3.out.1 HC3.out.2 (by omega) HN2.out.1 HN2.out.2 hn2).mono ?_); rintro e4 w4 ⟨rfl, hb4⟩; rw [HTG.out];
        have B4 := Lib.hid (B3.out.trans (hb4.mono B3.out.size)); have O4 := Lib.hid (O3.out.below hb4); clear hb4)
    | ((with_reducible refine wpList_store_blk rfl 22 (.tmp 11) (.tmp 22) rfl w4.heap.size tg ?hx ?hy 22 (List.replicate 16 0) ?hg 16 sizeRow HTL.out ?ho ?_); (case hx => with_unfolding_all rfl); (case hy => with_unfolding_all rfl); (case hg => exact heap_alloc_new _ _); (case ho => rfl); intro w5 H5 P5;
        have b5 : Below w4.heap.size w4 w5 := ((Below.refl _ _).alloc (Nat.le_refl _) _).trans (P5.out.below (by simp) (Nat.le_refl _)); have B5 := Lib.hid (B4.out.trans (b5.mono B4.out.size)); have O5 := Lib.hid (O4.out.below b5); clear b5; have hwh := whole16 w4.heap.size)
    | ((with_reducible refine wpList_append_bytes rfl (.tmp 23) (.tmp 24) rfl w.heap.size (.slice A' n1 c') n1 T ?hs O5.out w5.heap.size (some ⟨w4.heap.size, 0, none⟩) 16 16 tg ?hx ?hr (by omega) B5.out.size w B5.out ?_); (case hs => with_unfolding_all rfl); (case hx => with_unfolding_all rfl); (case hr => exact H5.out.sl _ _ H5.out.lt HTL.out); intro A6 c6 w6 ho6 hle6 hc6 hg6 hb6))
  go_ret
  exact ⟨A6, c6, rfl, ho6, hle6, hc6, hb6⟩
end Go.Proofs.Ytjnclcehnpkncaa
