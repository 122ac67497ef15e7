/-
  The walk through HeaderLongs.
-/
import Derived.Test.YtonoljcgcfjkmaaWHeaderBits
import Derived.Test.YtonoljcgcfjkmaaHdO
import Derived.Test.YtonoljcgcfjkmaaHkZ
namespace Go.Proofs.Ytonoljcgcfjkmaa
open Go.RowKit
set_option linter.unusedVariables false

theorem and_u64L (b m V : Nat) (hb : b < 18446744073709551616) (hm : m < 18446744073709551616) (M : Int) (hM : M = (m : Int)) (hV : b &&& m = V) : bits .and .u64 (b : Int) M = (V : Int) := by
  subst hM
  rw [u64_and_nat b m hb hm, hV]
set_option maxRecDepth 8000 in
theorem longs_great (ver num : Nat) (dst : List UInt8) (A2 A3 : Option Addr) (n2 c2 n3 c3 : Nat) (many rest : Int) (second : Bool) (w : World) (h : 20 < n2 ∨ 60 < n3) :
    Calls Try.prog 8 #[.int .u32 (ver : Int), .agg (bvs dst).toArray, .slice A2 n2 c2, .slice A3 n3 c3, .int .u32 (num : Int), .int .i64 many, .int .i64 rest, .bool second] w fun e w' => e = .returned (.bool true) ∧ Below w.heap.size w w' := by
  by_cases h1 : 20 < n2
  · have t1 : decide ((20 : Int) < (n2 : Int)) = true := by simp; omega
    clear h h1
    go_enter Try.func8, Try.ntmps8
    go_wp2_with (go_at_call 9; (with_reducible refine (awake_any _).mono ?_); rintro e1 w1 ⟨rfl, b1⟩)
    go_ret
    exact ⟨rfl, ((Below.refl _ _).alloc (Nat.le_refl _) _).trans (b1.mono (by simp))⟩
  · have t1 : decide ((20 : Int) < (n2 : Int)) = false := by simp; omega
    have t2 : decide ((60 : Int) < (n3 : Int)) = true := by simp; omega
    clear h h1
    go_enter Try.func8, Try.ntmps8
    go_wp2_with (go_at_call 9; (with_reducible refine (awake_any _).mono ?_); rintro e1 w1 ⟨rfl, b1⟩)
    go_ret
    exact ⟨rfl, ((Below.refl _ _).alloc (Nat.le_refl _) _).trans (b1.mono (by simp))⟩
set_option maxRecDepth 8000 in
set_option maxHeartbeats 16000000 in
theorem longs0_walk (ver num : Nat) (hver : ver < 4294967296) (hnum : num < 4294967296) (dst src tok : List UInt8) (hd : dst.length = 8) (A2 A3 : Option Addr) (n2 c2 n3 c3 : Nat) (many rest : Int) (w : World) (hs2 : Sl w w.heap.size A2 n2 src) (hs3 : Sl w w.heap.size A3 n3 tok) (hn2 : n2 ≤ 20) (hn3 : n3 ≤ 60) :
    Calls Try.prog 8 #[.int .u32 (ver : Int), .agg (bvs dst).toArray, .slice A2 n2 c2, .slice A3 n3 c3, .int .u32 (num : Int), .int .i64 many, .int .i64 rest, .bool false] w fun e w' => e = .returned (.bool true) ∧ Below w.heap.size w w' := by
  obtain ⟨i, hi4, hlow⟩ := low_nat many 4 (by omega) (by omega)
  obtain ⟨r, hr1, hlow2⟩ := low_nat rest 1001 (by omega) (by omega)
  have HL1 : Hid (∀ u : World, Calls Try.prog 19 #[.int .i64 many, .int .i64 4] u fun e w' => e = .returned (.int .i64 (i : Int)) ∧ u = w') := hlow
  have HL2 : Hid (∀ u : World, Calls Try.prog 19 #[.int .i64 rest, .int .i64 1001] u fun e w' => e = .returned (.int .i64 (r : Int)) ∧ u = w') := hlow2
  obtain ⟨nl, hnl⟩ : ∃ nl, 1 + i = nl := ⟨_, rfl⟩
  have e1 : (1 : Int) + (i : Int) = (nl : Int) := by omega
  have h1 : 1 ≤ nl := by omega
  have h4 : nl ≤ 4 := by omega
  have HP : Hid (∀ u : World, Below w.heap.size w u → Sl u w.heap.size A2 n2 src ∧ Sl u w.heap.size A3 n3 tok) := fun u hu => ⟨hs2.below hu, hs3.below hu⟩
  have HDL := Lib.hid hd
  have HSL : Hid (src.length = n2) := hs2.1
  have HTL : Hid (tok.length = n3) := hs3.1
  have t1 : decide ((20 : Int) < (n2 : Int)) = false := by simp; omega
  have t2 : decide ((60 : Int) < (n3 : Int)) = false := by simp; omega
  have hwh := fun g => whole8 g
  obtain ⟨F, hF⟩ : ∃ F, 191 + nl = F := ⟨_, rfl⟩
  have hFb : F < 256 := by omega
  obtain ⟨F1, hF1⟩ : ∃ F, 191 + nl = F := ⟨_, rfl⟩
  have e2 : (191 : Int) + (nl : Int) = (F1 : Int) := by omega
  have hF1b : F1 < 200 := by omega
  obtain rfl : F = F1 := by omega
  obtain ⟨y3, hy3⟩ : ∃ y, ver / 16777216 % 256 = y := ⟨_, rfl⟩
  obtain ⟨y2, hy2⟩ : ∃ y, ver / 65536 % 256 = y := ⟨_, rfl⟩
  obtain ⟨y1, hy1⟩ : ∃ y, ver / 256 % 256 = y := ⟨_, rfl⟩
  obtain ⟨y0, hy0⟩ : ∃ y, ver % 256 = y := ⟨_, rfl⟩
  have q3 : (ver : Int) / 16777216 % 256 = (y3 : Int) := by omega
  have q3' : (ver : Int) / 16777216 = (y3 : Int) := by omega
  have q2 : (ver : Int) / 65536 % 256 = (y2 : Int) := by omega
  have q1 : (ver : Int) / 256 % 256 = (y1 : Int) := by omega
  have q0 : (ver : Int) % 256 = (y0 : Int) := by omega
  have hyb : y3 < 256 ∧ y2 < 256 ∧ y1 < 256 ∧ y0 < 256 := by omega
  have HYB := Lib.hid hyb
  have HV4 : Hid (lowB ver 4 = [UInt8.ofNat y3, UInt8.ofNat y2, UInt8.ofNat y1, UInt8.ofNat y0]) := show _ = _ by
    have hm : ∀ a : Nat, UInt8.ofNat (a % 256) = UInt8.ofNat a := fun a => UInt8.toNat_inj.1 (by simp only [UInt8.toNat_ofNat']; omega)
    rw [← hy3, ← hy2, ← hy1, ← hy0, hm, hm, hm, hm]
    simp [lowB]
  have HLN : Hid (n2 ≤ 20 ∧ n3 ≤ 60) := ⟨hn2, hn3⟩
  clear hlow hlow2 hnl hs2 hs3 hd hF1 hy3 hy2 hy1 hy0 hyb
  go_enter Try.func8, Try.ntmps8
  go_upto_region 9 with (first | (go_at_call 19; first | ((with_reducible refine (HL1.out _).mono ?_); rintro e w' ⟨rfl, rfl⟩) | ((with_reducible refine (HL2.out _).mono ?_); rintro e w' ⟨rfl, rfl⟩)) | (at_builtin; (with_reducible refine wpList_append_bytes rfl (.const (.slice none 0 0)) (.tmp 41) rfl (w.heap.size + 1) (.slice none 0 0) 0 [] rfl (Own.nil _ _) (w.heap.size + 1) (some ⟨w.heap.size, 0, none⟩) 8 8 dst ?hx ?hr (by omega) ?hb _ (Below.refl _ _) ?_); (case hx => with_unfolding_all rfl); (case hr => exact Blk.sl (show Blk _ _ 45 dst from heap_alloc_new w _) _ _ (by omega) HDL.out); (case hb => simp); intro B1 d1 w1 ho1 hle1 hc1 hg1 hb1; simp only [Nat.zero_add, List.nil_append] at ho1 hle1; have BB1 : Hid (Below w.heap.size w w1) := ((Below.refl _ _).alloc (Nat.le_refl _) _).trans (hb1.mono (by omega)); have Z1 : Hid (Blk w1 w.heap.size 45 dst) := (hb1.block w.heap.size (by omega)).trans (heap_alloc_new w _); have O1 := Lib.hid ho1; have C1 : Hid (8 ≤ d1 ∧ d1 ≤ maxLen) := ⟨hle1, hc1⟩; clear ho1 hle1 hc1 hg1 hb1) | (at_builtin; (with_reducible refine wpList_append_bytes rfl (.const (.slice none 0 0)) (.tmp 43) rfl w1.heap.size (.slice none 0 0) 0 [] rfl (Own.nil _ _) w.heap.size A2 n2 c2 src ?hx (HP.out _ BB1.out).1 (by have := HLN.out; omega) (Nat.le_refl _) w1 (Below.refl _ _) ?_); (case hx => with_unfolding_all rfl); intro B2 d2 w2 ho hle hc hg hb; simp only [Nat.zero_add, List.nil_append] at ho hle; have BB2 := Lib.hid (BB1.out.trans (hb.mono BB1.out.size)); have Z2 := Lib.hid (Z1.out.below hb); have O2 := Lib.hid ho; have C2 : Hid (n2 ≤ d2 ∧ d2 ≤ maxLen) := ⟨hle, hc⟩; have P12 := Lib.hid (O1.out.below hb); clear ho hle hc hg hb) | (at_builtin; (with_reducible refine wpList_append_bytes rfl (.const (.slice none 0 0)) (.tmp 45) rfl w2.heap.size (.slice none 0 0) 0 [] rfl (Own.nil _ _) w.heap.size A3 n3 c3 tok ?hx (HP.out _ BB2.out).2 (by have := HLN.out; omega) (Nat.le_refl _) w2 (Below.refl _ _) ?_); (case hx => with_unfolding_all rfl); intro B3 d3 w3 ho hle hc hg hb; simp only [Nat.zero_add, List.nil_append] at ho hle; have BB3 := Lib.hid (BB2.out.trans (hb.mono BB2.out.size)); have Z3 := Lib.hid (Z2.out.below hb); have O3 := Lib.hid ho; have C3 : Hid (n3 ≤ d3 ∧ d3 ≤ maxLen) := ⟨hle, hc⟩; have P13 := Lib.hid (P12.out.below hb); have P23 := Lib.hid (O2.out.below hb); clear ho hle hc hg hb))
  obtain ⟨vs, hvs⟩ : ∃ vs, hdrV true 0 ver B1 8 d1 B2 n2 d2 B3 n3 d3 false false num nl = vs := ⟨_, rfl⟩
  have HVS := Lib.hid hvs
  have HSZ : Hid ((Try.prog.info? 26).map (·.size) = some vs.length) := show _ = _ by rw [← hvs]; exact hdr_size
  refine wp_forget (fun w4 => Rw w4 w3.heap.size 26 vs ∧ Own w4 (w3.heap.size + 1) (.slice (some ⟨w3.heap.size + 1, 0, none⟩) 6 6) 6 ([UInt8.ofNat F] ++ lowB ver 4 ++ [8]) ∧ Below w3.heap.size w3 w4) ⟨?f1, ?f2, ?f3⟩ ?_
  case f1 => rw [← HVS.out]; exact heap_allocs w3 [_, _] 0 _ rfl
  case f2 =>
    refine Blk.own (show Blk _ _ 5 _ from (heap_allocs w3 [_, _] 1 _ rfl).trans (congrArg (fun x => some (Obj.cells x 5 (0, 0))) ?_)) (by simp [lowB_length]) (Nat.le_refl _) (by simp [maxLen])
    rw [HV4.out]
    have := HYB.out
    simp only [bvs, List.map_cons, List.map_nil, List.cons_append, List.nil_append, ← byte_small F hFb, ← byte_small y3 HYB.out.1, ← byte_small y2 HYB.out.2.1, ← byte_small y1 HYB.out.2.2.1, ← byte_small y0 HYB.out.2.2.2]
    rfl
  case f3 => exact ((Below.refl _ _).alloc (Nat.le_refl _) _).alloc (by simp) _
  intro w4 ⟨f1, f2, f3⟩
  have R4 := Lib.hid f1
  have O4 := Lib.hid f2
  have BB4 := Lib.hid (BB3.out.trans (f3.mono BB3.out.size))
  have Z4 := Lib.hid (Z3.out.below f3)
  have P14 := Lib.hid (P13.out.below f3)
  have P24 := Lib.hid (P23.out.below f3)
  have P34 := Lib.hid (O3.out.below f3)
  have hlt4 := f1.lt
  have CC4 := Lib.hid f3
  clear f1 f2 f3
  skip
  obtain ⟨A44, hA44⟩ : ∃ x, (some ⟨w3.heap.size + 1, 0, none⟩ : Option Addr) = x := ⟨_, rfl⟩
  obtain ⟨d44, hd44⟩ : ∃ x, 6 = x := ⟨_, rfl⟩
  obtain ⟨M, hM⟩ : ∃ M, r + nl = M := ⟨_, rfl⟩
  have e5 : (r : Int) + (nl : Int) = (M : Int) := by omega
  obtain ⟨mh, hmh⟩ : ∃ m, 64 + M / 256 = m := ⟨_, rfl⟩
  obtain ⟨ml, hml⟩ : ∃ m, M % 256 = m := ⟨_, rfl⟩
  have e6 : (64 : Int) + (M : Int).tdiv 256 = (mh : Int) := by rw [← hmh]; simp
  have e6' : (64 : Int) + (M : Int) / 256 = (mh : Int) := by omega
  have e7 : (M : Int) % 256 = (ml : Int) := by omega
  have hmb : mh < 256 ∧ ml < 256 ∧ M < 16384 := by omega
  have HMB := Lib.hid hmb
  have hM14 : M < 2000 := by omega
  have HMT : Hid (lowB (16384 + M) 2 = [UInt8.ofNat mh, UInt8.ofNat ml]) := show _ = _ by
    rw [← hmh, ← hml]
    simp only [lowB, Nat.pow_one, Nat.pow_zero, Nat.div_one]
    congr 1
    · congr 1; omega
    · congr 1; apply UInt8.toNat_inj.1; simp only [UInt8.toNat_ofNat']; omega
  have HM := Lib.hid hM
  clear hA44 hd44 hM hmh hml hmb
  go_wp2_with (first | (at_builtin; (with_reducible refine wpList_append_bytes rfl (.tmp 75) (.tmp 76) rfl (w3.heap.size + 1) (.slice (some ⟨w3.heap.size + 1, 0, none⟩) 6 6) 6 _ ?hs O4.out (w.heap.size + 1) (some ⟨w.heap.size, 0, none⟩) 8 8 (dst) ?hx ?hr (by have := HLN.out; omega) ?hb w4 ?hw ?_); (case hs => with_unfolding_all rfl); (case hx => with_unfolding_all rfl); (case hr => exact Z4.out.sl _ _ (by omega) HDL.out); (case hb => first | omega | (simp; omega)); (case hw => exact (Below.refl _ _)); intro A45 d45 w5 ho hle hc hg hb; have BB5 := Lib.hid (BB4.out.trans (hb.mono (by have := BB3.out.size; omega))); have R5 := Lib.hid (R4.out.belowB hb (by omega)); have hlt5 := R5.out.lt; have CC5 := Lib.hid (CC4.out.trans (hb.mono (by omega))); have O5 := Lib.hid ho; have C5 : Hid (_ ∧ _) := ⟨hle, hc⟩; clear ho hle hc hg hb) | (at_builtin; (with_reducible refine wpList_append_bytes rfl (.tmp 77) (.tmp 81) rfl (w3.heap.size + 1) (.slice A45 (6 + 8) d45) (6 + 8) _ ?hs (O5.out.alloc _) (w5.heap.size + 1) (some ⟨w5.heap.size, 0, none⟩) 1 1 ([UInt8.ofNat n2]) ?hx ?hr (by have := HLN.out; omega) ?hb w5 ?hw ?_); (case hs => with_unfolding_all rfl); (case hx => with_unfolding_all rfl); (case hr => exact sl_one _ _ _ (small_bv n2 (by have := HLN.out; omega) _ (by first | rfl | (simp; omega)))); (case hb => first | omega | (simp; omega)); (case hw => exact ((Below.refl _ _).alloc (by omega) _)); intro A46 d46 w6 ho hle hc hg hb; have BB6 := Lib.hid (BB5.out.trans (hb.mono (by have := BB3.out.size; omega))); have R6 := Lib.hid (R5.out.belowB hb (by omega)); have hlt6 := R6.out.lt; have CC6 := Lib.hid (CC5.out.trans (hb.mono (by omega))); have O6 := Lib.hid ho; have C6 : Hid (_ ∧ _) := ⟨hle, hc⟩; clear ho hle hc hg hb) | (at_builtin; (with_reducible refine wpList_append_bytes rfl (.tmp 82) (.tmp 83) rfl (w3.heap.size + 1) (.slice A46 (6 + 8 + 1) d46) (6 + 8 + 1) _ ?hs O6.out w.heap.size A2 n2 c2 (src) ?hx ?hr (by have := HLN.out; omega) ?hb w6 ?hw ?_); (case hs => with_unfolding_all rfl); (case hx => with_unfolding_all rfl); (case hr => exact (HP.out _ BB6.out).1); (case hb => first | omega | (simp; omega)); (case hw => exact (Below.refl _ _)); intro A47 d47 w7 ho hle hc hg hb; have BB7 := Lib.hid (BB6.out.trans (hb.mono (by have := BB3.out.size; omega))); have R7 := Lib.hid (R6.out.belowB hb (by omega)); have hlt7 := R7.out.lt; have CC7 := Lib.hid (CC6.out.trans (hb.mono (by omega))); have O7 := Lib.hid ho; have C7 : Hid (_ ∧ _) := ⟨hle, hc⟩; clear ho hle hc hg hb) | (at_builtin; (with_reducible refine wpList_append_bytes rfl (.tmp 87) (.tmp 91) rfl (w3.heap.size + 1) (.slice A47 (6 + 8 + 1 + n2) d47) (6 + 8 + 1 + n2) _ ?hs (O7.out.alloc _) (w7.heap.size + 1) (some ⟨w7.heap.size, 0, none⟩) 1 1 ([UInt8.ofNat n3]) ?hx ?hr (by have := HLN.out; omega) ?hb w7 ?hw ?_); (case hs => with_unfolding_all rfl); (case hx => with_unfolding_all rfl); (case hr => exact sl_one _ _ _ (small_bv n3 (by have := HLN.out; omega) _ (by first | rfl | (simp; omega)))); (case hb => first | omega | (simp; omega)); (case hw => exact ((Below.refl _ _).alloc (by omega) _)); intro A48 d48 w8 ho hle hc hg hb; have BB8 := Lib.hid (BB7.out.trans (hb.mono (by have := BB3.out.size; omega))); have R8 := Lib.hid (R7.out.belowB hb (by omega)); have hlt8 := R8.out.lt; have CC8 := Lib.hid (CC7.out.trans (hb.mono (by omega))); have O8 := Lib.hid ho; have C8 : Hid (_ ∧ _) := ⟨hle, hc⟩; clear ho hle hc hg hb) | (at_builtin; (with_reducible refine wpList_append_bytes rfl (.tmp 92) (.tmp 93) rfl (w3.heap.size + 1) (.slice A48 (6 + 8 + 1 + n2 + 1) d48) (6 + 8 + 1 + n2 + 1) _ ?hs O8.out w.heap.size A3 n3 c3 (tok) ?hx ?hr (by have := HLN.out; omega) ?hb w8 ?hw ?_); (case hs => with_unfolding_all rfl); (case hx => with_unfolding_all rfl); (case hr => exact (HP.out _ BB8.out).2); (case hb => first | omega | (simp; omega)); (case hw => exact (Below.refl _ _)); intro A49 d49 w9 ho hle hc hg hb; have BB9 := Lib.hid (BB8.out.trans (hb.mono (by have := BB3.out.size; omega))); have R9 := Lib.hid (R8.out.belowB hb (by omega)); have hlt9 := R9.out.lt; have CC9 := Lib.hid (CC8.out.trans (hb.mono (by omega))); have O9 := Lib.hid ho; have C9 : Hid (_ ∧ _) := ⟨hle, hc⟩; clear ho hle hc hg hb) | (at_builtin; (with_reducible refine wpList_append_bytes rfl (.tmp 95) (.tmp 106) rfl (w3.heap.size + 1) (.slice A49 (6 + 8 + 1 + n2 + 1 + n3) d49) (6 + 8 + 1 + n2 + 1 + n3) _ ?hs (O9.out.alloc _) (w9.heap.size + 1) (some ⟨w9.heap.size, 0, none⟩) 2 2 ([UInt8.ofNat mh, UInt8.ofNat ml]) ?hx ?hr (by have := HLN.out; omega) ?hb w9 ?hw ?_); (case hs => with_unfolding_all rfl); (case hx => with_unfolding_all rfl); (case hr => exact sl_lit _ [UInt8.ofNat mh, UInt8.ofNat ml] _ 2 (by simp only [bvs, List.map_cons, List.map_nil, ← byte_small mh HMB.out.1, ← byte_small ml HMB.out.2.1]) rfl); (case hb => first | omega | (simp; omega)); (case hw => exact ((Below.refl _ _).alloc (by omega) _)); intro A410 d410 w10 ho hle hc hg hb; have BB10 := Lib.hid (BB9.out.trans (hb.mono (by have := BB3.out.size; omega))); have R10 := Lib.hid (R9.out.belowB hb (by omega)); have hlt10 := R10.out.lt; have CC10 := Lib.hid (CC9.out.trans (hb.mono (by omega))); have O10 := Lib.hid ho; have C10 : Hid (_ ∧ _) := ⟨hle, hc⟩; clear ho hle hc hg hb))
  skip
  go_loopw [18, 19] (fun out sh wr => ∃ (j m : Nat) (A' : Option Addr) (c' : Nat) (Y : List UInt8), j ≤ nl ∧ m + j ≤ (6 + 8 + 1 + n2 + 1 + n3 + 2) + nl ∧ (6 + 8 + 1 + n2 + 1 + n3 + 2) + nl ≤ m + j ∧ sh = .int .i64 ((j : Int) - 1) ∧ out = .slice A' m c' ∧ Hid (Own wr (w3.heap.size + 1) (.slice A' m c') m (([UInt8.ofNat F] ++ lowB ver 4 ++ [8] ++ dst ++ [UInt8.ofNat n2] ++ src ++ [UInt8.ofNat n3] ++ tok ++ [UInt8.ofNat mh, UInt8.ofNat ml]) ++ Y)) ∧ m ≤ c' ∧ c' ≤ maxLen ∧ Hid (Y ++ lowB num j = lowB num nl) ∧ Hid (Below (w3.heap.size + 1) w10 wr)) (fun _ sh _ => (intOf sh + 1).toNat)
  case atStart => exact ⟨nl, (6 + 8 + 1 + n2 + 1 + n3 + 2), A410, d410, [], by omega, by omega, by omega, by go_num, rfl, (by simpa using O10.out : Own _ _ _ _ _), C10.out.1, C10.out.2, rfl, Below.refl _ _⟩
  case round =>
    obtain ⟨j, m, A', c', Y, hj, hmj, hmj', rfl, rfl, HO, hmc, hcm, HX, hbr⟩ := hrel
    rcases Nat.eq_zero_or_pos j with rfl | hpos
    · have hY : Y = lowB num nl := by
        have h := HX.out
        simpa [lowB] using h
      subst hY
      obtain ⟨X, hX⟩ : ∃ X, putLV 0 ver nl num r dst src tok = X := ⟨_, rfl⟩
      have hXW : ([UInt8.ofNat F] ++ lowB ver 4 ++ [8] ++ dst ++ [UInt8.ofNat n2] ++ src ++ [UInt8.ofNat n3] ++ tok ++ [UInt8.ofNat mh, UInt8.ofNat ml]) ++ lowB num nl = X := by
        rw [← hX]
        unfold putLV
        rw [if_pos rfl, HM.out, HMT.out, HDL.out, HSL.out, HTL.out]
        have he : enc n3 = [UInt8.ofNat n3] := by
          have := HLN.out
          unfold enc
          have hc : cls n3 = 0 := by have := cls_cases n3; omega
          rw [if_pos (by omega), hc]
          simp [encV, lowB]
          congr 1
          omega
        rw [he]
        rw [show 192 + 16 * 0 + (nl - 1) = F by omega]
        simp
      rw [hXW] at HO
      have hXm : X.length = m := HO.out.len
      have HX0 := Lib.hid hX
      have RR := Lib.hid (R10.out.belowB hbr.out (by omega))
      have CR := Lib.hid (CC10.out.trans (hbr.out.mono (by omega)))
      have BR := Lib.hid (BB3.out.trans (CR.out.mono BB3.out.size))
      have HSS : Hid (∀ u : World, Below w3.heap.size w3 u → Sl u w3.heap.size B1 8 dst ∧ Sl u w3.heap.size B2 n2 src ∧ Sl u w3.heap.size B3 n3 tok) := fun u hu => ⟨P13.out.sl.below hu, P23.out.sl.below hu, O3.out.sl.below hu⟩
      have hput : putR true 0 ver num nl r false false dst src tok = (X, 0) := by
        unfold putR
        have := HLN.out
        rw [HDL.out, HSL.out, HTL.out, if_pos ⟨⟨⟨by omega, by omega⟩, by omega, rfl, by rw [if_pos rfl]; exact ⟨rfl, rfl, by omega, by omega, by omega, by omega⟩⟩, by omega, by omega⟩, if_pos rfl, Int.toNat_natCast, Int.toNat_natCast, ← hX]
        rfl
      have HPUT : Hid (∀ u : World, Below w3.heap.size w3 u → Calls Try.prog 10 #[.agg vs.toArray, .int .i64 (r : Int)] u (Puts u (X, 0))) := fun u hu => by
        have h := hput_any true 0 ver num nl r false false dst src tok hver (by omega) B1 8 d1 B2 n2 d2 B3 n3 d3 w3.heap.size u (HSS.out _ hu).1 (HSS.out _ hu).2.1 (HSS.out _ hu).2.2 hu.size
        rw [HVS.out, hput] at h
        exact h
      have hmB : m ≤ 1000 := by have := HLN.out; omega
      clear hX hXW hput hmj hmj' hj
      go_wp2_with ((with_reducible refine wpList_load_rw rfl 26 (.tmp 17) rfl w3.heap.size ?hx 26 vs RR.out _ Try.underlying26 rfl HSZ.out ?_); (case hx => with_unfolding_all rfl))
      (with_reducible refine (HPUT.out _ CR.out).mono ?_)
      rintro e11 w11 ⟨A11, n11, c11, rfl, ho, hle, hc, hb⟩
      simp only at ho
      obtain rfl : n11 = m := by rw [← ho.len, hXm]
      have OB := Lib.hid ho
      have OW := Lib.hid (HO.out.below hb)
      have R11 := Lib.hid (RR.out.below hb)
      have C11 := Lib.hid (CR.out.trans (hb.mono CR.out.size))
      have hm1 : n11 ≤ maxLen := Nat.le_trans hle hc
      have HWR : Hid (w3.heap.size < wr.heap.size) := RR.out.lt
      have HL11 := Lib.hid hb.size
      clear ho hle hc hb HO RR
      go_wp2_with fail
      (with_reducible refine (same_w X A11 A' n11 c11 c' w11.heap.size w11.heap.size w11 OB.out.sl OW.out.sl hm1).mono ?_)
      rintro e12 w12 ⟨rfl, b12⟩
      replace OB := Lib.hid (OB.out.below b12)
      have R12 := Lib.hid (R11.out.below b12)
      have C12 := Lib.hid (C11.out.trans (b12.mono C11.out.size))
      have LW : Hid (wr.heap.size ≤ w12.heap.size) := Nat.le_trans HL11.out b12.size
      clear b12 OW R11
      go_wp2_with fail
      obtain ⟨q, hq⟩ : ∃ q, num % 256 ^ nl = q := ⟨_, rfl⟩
      have HQ := Lib.hid hq
      have hge : X = X := rfl
      have HGET : Hid (∀ (A : Option Addr) (c N k3 : Nat) (u : World), Sl u u.heap.size A N (X ++ List.replicate k3 0) → N ≤ c → c ≤ maxLen → k3 = r + 3 → Calls Try.prog 12 #[.slice A N c] u (Gets u ((⟨true, 0, ver, dst, src, tok, false, false, q, nl⟩, n11, r), 0))) := fun A c N k3 u h h1' h2' hk3 => by
        have h3 := hget_any (X ++ List.replicate k3 0) A N c u.heap.size u h (Nat.le_refl _) h1' h2'
        have := HLN.out
        rw [← HX0.out, get_putL 0 ver nl num r dst src tok (List.replicate k3 0) (by omega) hver h1 h4 (by omega) HDL.out (by rw [HSL.out]; omega) (by rw [HTL.out]; omega) (by omega) (by simp; omega), HX0.out, hXm, hq] at h3
        exact h3
      obtain ⟨k3, hk3⟩ : ∃ k, r + 3 = k := ⟨_, rfl⟩
      have e9 : (r : Int) + 3 = (k3 : Int) := by omega
      obtain ⟨N3, hN3⟩ : ∃ N, n11 + k3 = N := ⟨_, rfl⟩
      have HN3 := Lib.hid hN3
      have HK3 := Lib.hid hk3.symm
      have hN3b : N3 ≤ 70368744177664 := by omega
      have HVL : Hid (vs.length = 10) := show _ = _ by rw [← HVS.out]; rfl
      go_cut [136] from 136 to 143 (fun v136 wx => Hid (Rw wx w3.heap.size 26 (vs.set 8 (.int .u64 (q : Int)))) ∧ Hid (Own wx wr.heap.size (.slice A11 n11 c11) n11 X) ∧ Hid (Below w3.heap.size w3 wx) ∧ Hid (wr.heap.size ≤ wx.heap.size))
      case first =>
        have hn4 : nl = 1 ∨ nl = 2 ∨ nl = 3 ∨ nl = 4 := by omega
        clear HGET e9 hN3b HPUT
        rcases hn4 with rfl | rfl | rfl | rfl
        · have eM := and_u64L num 255 q (by omega) (by omega) 255 rfl (by rw [← HQ.out]; exact Nat.and_two_pow_sub_one_eq_mod num 8)
          have k8 := (hdr_cells (HVS.out ▸ R12.out)).2.2.2.2.2.2.2.2.1
          have f8 := R12.out.frozen 8
          have q3 : IntKind.i64.wrap 8 = 8 := rfl
          have q4 : IntKind.u64.wrap 256 = 256 := rfl
          have q5 : IntKind.u64.wrap 255 = 255 := rfl
          go_region
          all_goals
            go_wp2_with fail
            go_meet
            have hO := (Only.refl w3.heap.size w12.drew).setCell 8 (.int .u64 (q : Int))
            exact ⟨Rw.put (show Rw w12.drew _ _ vs from R12.out) 8 _, Own.onlyA (show Own w12.drew _ _ _ _ from OB.out) hO (fun a ha => by have := (OB.out.blk a ha).1; have := HWR.out; omega), C12.out.drew.trans (hO.below (show w3.heap.size ≤ w12.drew.heap.size from C12.out.size) (Nat.le_refl _)), Nat.le_trans (show wr.heap.size ≤ w12.drew.heap.size from LW.out) hO.size⟩
        · have eM := and_u64L num 65535 q (by omega) (by omega) 65535 rfl (by rw [← HQ.out]; exact Nat.and_two_pow_sub_one_eq_mod num 16)
          have k8 := (hdr_cells (HVS.out ▸ R12.out)).2.2.2.2.2.2.2.2.1
          have f8 := R12.out.frozen 8
          have q3 : IntKind.i64.wrap 16 = 16 := rfl
          have q4 : IntKind.u64.wrap 65536 = 65536 := rfl
          have q5 : IntKind.u64.wrap 65535 = 65535 := rfl
          go_region
          all_goals
            go_wp2_with fail
            go_meet
            have hO := (Only.refl w3.heap.size w12.drew).setCell 8 (.int .u64 (q : Int))
            exact ⟨Rw.put (show Rw w12.drew _ _ vs from R12.out) 8 _, Own.onlyA (show Own w12.drew _ _ _ _ from OB.out) hO (fun a ha => by have := (OB.out.blk a ha).1; have := HWR.out; omega), C12.out.drew.trans (hO.below (show w3.heap.size ≤ w12.drew.heap.size from C12.out.size) (Nat.le_refl _)), Nat.le_trans (show wr.heap.size ≤ w12.drew.heap.size from LW.out) hO.size⟩
        · have eM := and_u64L num 16777215 q (by omega) (by omega) 16777215 rfl (by rw [← HQ.out]; exact Nat.and_two_pow_sub_one_eq_mod num 24)
          have k8 := (hdr_cells (HVS.out ▸ R12.out)).2.2.2.2.2.2.2.2.1
          have f8 := R12.out.frozen 8
          have q3 : IntKind.i64.wrap 24 = 24 := rfl
          have q4 : IntKind.u64.wrap 16777216 = 16777216 := rfl
          have q5 : IntKind.u64.wrap 16777215 = 16777215 := rfl
          go_region
          all_goals
            go_wp2_with fail
            go_meet
            have hO := (Only.refl w3.heap.size w12.drew).setCell 8 (.int .u64 (q : Int))
            exact ⟨Rw.put (show Rw w12.drew _ _ vs from R12.out) 8 _, Own.onlyA (show Own w12.drew _ _ _ _ from OB.out) hO (fun a ha => by have := (OB.out.blk a ha).1; have := HWR.out; omega), C12.out.drew.trans (hO.below (show w3.heap.size ≤ w12.drew.heap.size from C12.out.size) (Nat.le_refl _)), Nat.le_trans (show wr.heap.size ≤ w12.drew.heap.size from LW.out) hO.size⟩
        · have eM := and_u64L num 4294967295 q (by omega) (by omega) 4294967295 rfl (by rw [← HQ.out]; exact Nat.and_two_pow_sub_one_eq_mod num 32)
          have k8 := (hdr_cells (HVS.out ▸ R12.out)).2.2.2.2.2.2.2.2.1
          have f8 := R12.out.frozen 8
          have q3 : IntKind.i64.wrap 32 = 32 := rfl
          have q4 : IntKind.u64.wrap 4294967296 = 4294967296 := rfl
          have q5 : IntKind.u64.wrap 4294967295 = 4294967295 := rfl
          go_region
          all_goals
            go_wp2_with fail
            go_meet
            have hO := (Only.refl w3.heap.size w12.drew).setCell 8 (.int .u64 (q : Int))
            exact ⟨Rw.put (show Rw w12.drew _ _ vs from R12.out) 8 _, Own.onlyA (show Own w12.drew _ _ _ _ from OB.out) hO (fun a ha => by have := (OB.out.blk a ha).1; have := HWR.out; omega), C12.out.drew.trans (hO.below (show w3.heap.size ≤ w12.drew.heap.size from C12.out.size) (Nat.le_refl _)), Nat.le_trans (show wr.heap.size ≤ w12.drew.heap.size from LW.out) hO.size⟩
      case rest =>
        obtain ⟨R13, OB, C13, L13⟩ := hcut
        clear R12 C12
        have vs8 : vs.set 8 (.int .u64 (q : Int)) = hdrV true 0 ver B1 8 d1 B2 n2 d2 B3 n3 d3 false false q nl := by rw [← HVS.out]; rfl
        obtain ⟨us, hus⟩ : ∃ us, vs.set 8 (.int .u64 (q : Int)) = us := ⟨_, rfl⟩
        rw [hus] at R13 vs8
        have HUS := Lib.hid vs8
        have HSZ3 : Hid ((Try.prog.info? 26).map (·.size) = some us.length) := show _ = _ by rw [HUS.out]; exact hdr_size
        clear vs8 hus
        go_wp2_with (at_builtin; (refine wpList_append_zeros rfl (.tmp 145) (.tmp 147) rfl wr.heap.size (.slice A11 n11 c11) n11 k3 N3 X rfl OB.out rfl HN3.out hN3b L13.out _ (Below.refl _ _) ?_); intro A13 c13 w14 O14 hle14 hc14 b14)
        have R14 := Lib.hid (R13.out.belowB b14.out HWR.out)
        have C14 := Lib.hid (C13.out.trans (b14.out.mono (Nat.le_of_lt HWR.out)))
        (with_reducible refine (HGET.out A13 c13 N3 k3 w14 O14.out.sl hle14 hc14 HK3.out).mono ?_)
        rintro e14 w15 ⟨hv, rfl, hw, hb⟩
        have R15 := Lib.hid (R14.out.below hb)
        have C15 := Lib.hid (C14.out.trans (hb.mono C14.out.size))
        have HW := Lib.hid hw
        have HLN2 : Hid (hv.length = 10) := by obtain ⟨_, _, _, _, _, _, _, _, _, rfl, _⟩ := hw; rfl
        have HSZ2 : Hid ((Try.prog.info? 26).map (·.size) = some hv.length) := show _ = _ by rw [HLN2.out]; exact hdr_size
        have HL2 : Hid (hdr0.length = hv.length) := show _ = _ by rw [HLN2.out]; rfl
        have HONE : Hid (∀ v ∈ hv, v.oneCell' = true) := by obtain ⟨_, _, _, _, _, _, _, _, _, rfl, _⟩ := hw; simp [Hid, Value.oneCell']
        clear hw hb
        have tm : ((n11 : Int) == (n11 : Int)) = true := by simp
        have tr : ((r : Int) == (r : Int)) = true := by simp
        go_wp2_with (first
          | ((with_reducible refine wpList_store_rw rfl 26 (.tmp 22) (.tmp 150) rfl w15.heap.size hv ?hx ?hy 26 hdr0 ?hB HSZ2.out HL2.out HONE.out ?_); (case hx => with_unfolding_all rfl); (case hy => with_unfolding_all rfl); (case hB => exact heap_alloc_new w15 _); intro w16 R16 O16; have b16 : Below w15.heap.size w15 w16 := ((Below.refl _ _).alloc (Nat.le_refl _) _).trans (O16.out.below (by simp) (Nat.le_refl _)); have H16 := Lib.hid (R15.out.below b16); have C16 := Lib.hid (C15.out.trans (b16.mono C15.out.size)); have S16 := Lib.hid b16; clear b16)
          | ((with_reducible refine wpList_load_rwG 168 rfl 26 (.tmp 22) rfl ?hw w15.heap.size ?hx 26 hv R16.out _ Try.underlying26 rfl HSZ2.out ?_); (case hw => rfl); (case hx => with_unfolding_all rfl))
          | ((with_reducible refine wpList_load_rwG 169 rfl 26 (.tmp 17) rfl ?hw w3.heap.size ?hx 26 us H16.out _ Try.underlying26 rfl HSZ3.out ?_); (case hw => rfl); (case hx => with_unfolding_all rfl)))
        have HSH : Hid (Calls Try.prog 17 #[.agg hv.toArray, .agg us.toArray] w16 fun e w' => e = .returned (.bool true) ∧ Below w16.heap.size w16 w') := by
          obtain ⟨E1, m1, e1', E2, m2, e2', E3, m3, e3', hhv, ⟨o1, _, _⟩, ⟨o2, _, _⟩, ⟨o3, _, _⟩, _⟩ := HW.out
          have l1 := o1.len
          have l2 := o2.len
          have l3 := o3.len
          simp only at l1 l2 l3
          rw [HDL.out] at l1
          rw [HSL.out] at l2
          rw [HTL.out] at l3
          subst l1 l2 l3
          rw [hhv, HUS.out]
          have hz := HSS.out _ C16.out
          have := HLN.out
          exact sameHeader_yes true 0 ver q nl false false dst src tok E1 8 e1' E2 n2 e2' E3 n3 e3' B1 d1 B2 d2 B3 d3 w16 ((o1.below S16.out).sl) ((o2.below S16.out).sl) ((o3.below S16.out).sl) (hz.1.more C16.out.size) (hz.2.1.more C16.out.size) (hz.2.2.more C16.out.size) (by simp [maxLen]) (by simp [maxLen]; omega) (by simp [maxLen]; omega)
        (with_reducible refine HSH.out.mono ?_)
        rintro e17 w17 ⟨rfl, b17⟩
        have C17 := Lib.hid (C16.out.trans (b17.mono C16.out.size))
        clear b17
        go_wp2_with fail
        (with_reducible refine (awake_any _).mono ?_)
        rintro e18 w18 ⟨rfl, b18⟩
        go_wp2_with fail
        go_ret
        exact ⟨rfl, (BB3.out.trans (C17.out.mono BB3.out.size)).trans (b18.mono (Nat.le_trans BB3.out.size C17.out.size))⟩
    · obtain ⟨t, rfl⟩ : ∃ t, j = t + 1 := ⟨j - 1, by omega⟩
      rw [show (((t + 1 : Nat) : Int) - 1) = (t : Int) by omega]
      have hsz : w3.heap.size + 1 ≤ wr.heap.size := Nat.le_trans hlt10 hbr.out.size
      go_wp2_with (at_builtin; (refine wpList_append_bytes rfl _ _ rfl (w3.heap.size + 1) (.slice A' m c') m _ rfl (HO.out.alloc _) _ _ 1 1 [UInt8.ofNat (num / 256 ^ t)] rfl (sl_one _ _ _ ?hV) (by have := HLN.out; omega) ?hB w10 ?hb ?_); (case hV => exact byte_at num t); (case hB => simp; omega); (case hb => exact hbr.out.alloc hsz _); intro A1' c1' w1' ho1' hle1' hc1' hg1' hb1')
      go_roundw
      case rel =>
        have g1 : Own w1' (w3.heap.size + 1) (.slice A1' (m + 1) c1') (m + 1) (([UInt8.ofNat F] ++ lowB ver 4 ++ [8] ++ dst ++ [UInt8.ofNat n2] ++ src ++ [UInt8.ofNat n3] ++ tok ++ [UInt8.ofNat mh, UInt8.ofNat ml]) ++ (Y ++ [UInt8.ofNat (num / 256 ^ t)])) := by rw [← List.append_assoc]; exact ho1'
        have g2 : (Y ++ [UInt8.ofNat (num / 256 ^ t)]) ++ lowB num t = lowB num nl := by rw [← HX.out]; simp [lowB]
        first
          | exact ⟨t, m + 1, A1', c1', Y ++ [UInt8.ofNat (num / 256 ^ t)], by omega, by omega, by omega, by go_num, rfl, g1, hle1', hc1', g2, hb1'⟩
          | ((repeat apply Exists.intro); exact ⟨⟨t, m + 1, A1', c1', Y ++ [UInt8.ofNat (num / 256 ^ t)], by omega, by omega, by omega, by go_num, rfl, g1, hle1', hc1', g2, hb1'⟩, rfl⟩)
      case measure => simp [intOf] <;> omega
set_option maxRecDepth 8000 in
set_option maxHeartbeats 16000000 in
theorem longs2_walk (ver num : Nat) (hver : ver < 4294967296) (hnum : num < 4294967296) (dst src tok : List UInt8) (hd : dst.length = 8) (A2 A3 : Option Addr) (n2 c2 n3 c3 : Nat) (many rest : Int) (w : World) (hs2 : Sl w w.heap.size A2 n2 src) (hs3 : Sl w w.heap.size A3 n3 tok) (hn2 : n2 ≤ 20) (hn3 : n3 ≤ 60) :
    Calls Try.prog 8 #[.int .u32 (ver : Int), .agg (bvs dst).toArray, .slice A2 n2 c2, .slice A3 n3 c3, .int .u32 (num : Int), .int .i64 many, .int .i64 rest, .bool true] w fun e w' => e = .returned (.bool true) ∧ Below w.heap.size w w' := by
  obtain ⟨i, hi4, hlow⟩ := low_nat many 4 (by omega) (by omega)
  obtain ⟨r, hr1, hlow2⟩ := low_nat rest 1001 (by omega) (by omega)
  have HL1 : Hid (∀ u : World, Calls Try.prog 19 #[.int .i64 many, .int .i64 4] u fun e w' => e = .returned (.int .i64 (i : Int)) ∧ u = w') := hlow
  have HL2 : Hid (∀ u : World, Calls Try.prog 19 #[.int .i64 rest, .int .i64 1001] u fun e w' => e = .returned (.int .i64 (r : Int)) ∧ u = w') := hlow2
  obtain ⟨nl, hnl⟩ : ∃ nl, 1 + i = nl := ⟨_, rfl⟩
  have e1 : (1 : Int) + (i : Int) = (nl : Int) := by omega
  have h1 : 1 ≤ nl := by omega
  have h4 : nl ≤ 4 := by omega
  have HP : Hid (∀ u : World, Below w.heap.size w u → Sl u w.heap.size A2 n2 src ∧ Sl u w.heap.size A3 n3 tok) := fun u hu => ⟨hs2.below hu, hs3.below hu⟩
  have HDL := Lib.hid hd
  have HSL : Hid (src.length = n2) := hs2.1
  have HTL : Hid (tok.length = n3) := hs3.1
  have t1 : decide ((20 : Int) < (n2 : Int)) = false := by simp; omega
  have t2 : decide ((60 : Int) < (n3 : Int)) = false := by simp; omega
  have hwh := fun g => whole8 g
  obtain ⟨F, hF⟩ : ∃ F, 223 + nl = F := ⟨_, rfl⟩
  have hFb : F < 256 := by omega
  obtain ⟨F1, hF1⟩ : ∃ F, 191 + nl = F := ⟨_, rfl⟩
  have e2 : (191 : Int) + (nl : Int) = (F1 : Int) := by omega
  have hF1b : F1 < 200 := by omega
  have e3 : (F1 : Int) + 32 = (F : Int) := by omega
  obtain ⟨y3, hy3⟩ : ∃ y, ver / 16777216 % 256 = y := ⟨_, rfl⟩
  obtain ⟨y2, hy2⟩ : ∃ y, ver / 65536 % 256 = y := ⟨_, rfl⟩
  obtain ⟨y1, hy1⟩ : ∃ y, ver / 256 % 256 = y := ⟨_, rfl⟩
  obtain ⟨y0, hy0⟩ : ∃ y, ver % 256 = y := ⟨_, rfl⟩
  have q3 : (ver : Int) / 16777216 % 256 = (y3 : Int) := by omega
  have q3' : (ver : Int) / 16777216 = (y3 : Int) := by omega
  have q2 : (ver : Int) / 65536 % 256 = (y2 : Int) := by omega
  have q1 : (ver : Int) / 256 % 256 = (y1 : Int) := by omega
  have q0 : (ver : Int) % 256 = (y0 : Int) := by omega
  have hyb : y3 < 256 ∧ y2 < 256 ∧ y1 < 256 ∧ y0 < 256 := by omega
  have HYB := Lib.hid hyb
  have HV4 : Hid (lowB ver 4 = [UInt8.ofNat y3, UInt8.ofNat y2, UInt8.ofNat y1, UInt8.ofNat y0]) := show _ = _ by
    have hm : ∀ a : Nat, UInt8.ofNat (a % 256) = UInt8.ofNat a := fun a => UInt8.toNat_inj.1 (by simp only [UInt8.toNat_ofNat']; omega)
    rw [← hy3, ← hy2, ← hy1, ← hy0, hm, hm, hm, hm]
    simp [lowB]
  have HLN : Hid (n2 ≤ 20 ∧ n3 ≤ 60) := ⟨hn2, hn3⟩
  clear hlow hlow2 hnl hs2 hs3 hd hF hF1 hy3 hy2 hy1 hy0 hyb
  go_enter Try.func8, Try.ntmps8
  go_upto_region 9 with (first | (go_at_call 19; first | ((with_reducible refine (HL1.out _).mono ?_); rintro e w' ⟨rfl, rfl⟩) | ((with_reducible refine (HL2.out _).mono ?_); rintro e w' ⟨rfl, rfl⟩)) | (at_builtin; (with_reducible refine wpList_append_bytes rfl (.const (.slice none 0 0)) (.tmp 41) rfl (w.heap.size + 1) (.slice none 0 0) 0 [] rfl (Own.nil _ _) (w.heap.size + 1) (some ⟨w.heap.size, 0, none⟩) 8 8 dst ?hx ?hr (by omega) ?hb _ (Below.refl _ _) ?_); (case hx => with_unfolding_all rfl); (case hr => exact Blk.sl (show Blk _ _ 45 dst from heap_alloc_new w _) _ _ (by omega) HDL.out); (case hb => simp); intro B1 d1 w1 ho1 hle1 hc1 hg1 hb1; simp only [Nat.zero_add, List.nil_append] at ho1 hle1; have BB1 : Hid (Below w.heap.size w w1) := ((Below.refl _ _).alloc (Nat.le_refl _) _).trans (hb1.mono (by omega)); have Z1 : Hid (Blk w1 w.heap.size 45 dst) := (hb1.block w.heap.size (by omega)).trans (heap_alloc_new w _); have O1 := Lib.hid ho1; have C1 : Hid (8 ≤ d1 ∧ d1 ≤ maxLen) := ⟨hle1, hc1⟩; clear ho1 hle1 hc1 hg1 hb1) | (at_builtin; (with_reducible refine wpList_append_bytes rfl (.const (.slice none 0 0)) (.tmp 43) rfl w1.heap.size (.slice none 0 0) 0 [] rfl (Own.nil _ _) w.heap.size A2 n2 c2 src ?hx (HP.out _ BB1.out).1 (by have := HLN.out; omega) (Nat.le_refl _) w1 (Below.refl _ _) ?_); (case hx => with_unfolding_all rfl); intro B2 d2 w2 ho hle hc hg hb; simp only [Nat.zero_add, List.nil_append] at ho hle; have BB2 := Lib.hid (BB1.out.trans (hb.mono BB1.out.size)); have Z2 := Lib.hid (Z1.out.below hb); have O2 := Lib.hid ho; have C2 : Hid (n2 ≤ d2 ∧ d2 ≤ maxLen) := ⟨hle, hc⟩; have P12 := Lib.hid (O1.out.below hb); clear ho hle hc hg hb) | (at_builtin; (with_reducible refine wpList_append_bytes rfl (.const (.slice none 0 0)) (.tmp 45) rfl w2.heap.size (.slice none 0 0) 0 [] rfl (Own.nil _ _) w.heap.size A3 n3 c3 tok ?hx (HP.out _ BB2.out).2 (by have := HLN.out; omega) (Nat.le_refl _) w2 (Below.refl _ _) ?_); (case hx => with_unfolding_all rfl); intro B3 d3 w3 ho hle hc hg hb; simp only [Nat.zero_add, List.nil_append] at ho hle; have BB3 := Lib.hid (BB2.out.trans (hb.mono BB2.out.size)); have Z3 := Lib.hid (Z2.out.below hb); have O3 := Lib.hid ho; have C3 : Hid (n3 ≤ d3 ∧ d3 ≤ maxLen) := ⟨hle, hc⟩; have P13 := Lib.hid (P12.out.below hb); have P23 := Lib.hid (O2.out.below hb); clear ho hle hc hg hb))
  obtain ⟨vs, hvs⟩ : ∃ vs, hdrV true 2 ver B1 8 d1 B2 n2 d2 none 0 0 false false num nl = vs := ⟨_, rfl⟩
  have HVS := Lib.hid hvs
  have HSZ : Hid ((Try.prog.info? 26).map (·.size) = some vs.length) := show _ = _ by rw [← hvs]; exact hdr_size
  refine wp_forget (fun w4 => Rw w4 w3.heap.size 26 vs ∧ Own w4 (w3.heap.size + 1) (.slice (some ⟨w3.heap.size + 1, 0, none⟩) 6 6) 6 ([UInt8.ofNat F] ++ lowB ver 4 ++ [8]) ∧ Below w3.heap.size w3 w4) ⟨?f1, ?f2, ?f3⟩ ?_
  case f1 => rw [← HVS.out]; exact heap_allocs w3 [_, _] 0 _ rfl
  case f2 =>
    refine Blk.own (show Blk _ _ 5 _ from (heap_allocs w3 [_, _] 1 _ rfl).trans (congrArg (fun x => some (Obj.cells x 5 (0, 0))) ?_)) (by simp [lowB_length]) (Nat.le_refl _) (by simp [maxLen])
    rw [HV4.out]
    have := HYB.out
    simp only [bvs, List.map_cons, List.map_nil, List.cons_append, List.nil_append, ← byte_small F hFb, ← byte_small y3 HYB.out.1, ← byte_small y2 HYB.out.2.1, ← byte_small y1 HYB.out.2.2.1, ← byte_small y0 HYB.out.2.2.2]
    rfl
  case f3 => exact ((Below.refl _ _).alloc (Nat.le_refl _) _).alloc (by simp) _
  intro w4 ⟨f1, f2, f3⟩
  have R4 := Lib.hid f1
  have O4 := Lib.hid f2
  have BB4 := Lib.hid (BB3.out.trans (f3.mono BB3.out.size))
  have Z4 := Lib.hid (Z3.out.below f3)
  have P14 := Lib.hid (P13.out.below f3)
  have P24 := Lib.hid (P23.out.below f3)
  have hlt4 := f1.lt
  have CC4 := Lib.hid f3
  clear f1 f2 f3
  skip
  obtain ⟨A44, hA44⟩ : ∃ x, (some ⟨w3.heap.size + 1, 0, none⟩ : Option Addr) = x := ⟨_, rfl⟩
  obtain ⟨d44, hd44⟩ : ∃ x, 6 = x := ⟨_, rfl⟩
  obtain ⟨M, hM⟩ : ∃ M, r + nl = M := ⟨_, rfl⟩
  have e5 : (r : Int) + (nl : Int) = (M : Int) := by omega
  obtain ⟨mh, hmh⟩ : ∃ m, 64 + M / 256 = m := ⟨_, rfl⟩
  obtain ⟨ml, hml⟩ : ∃ m, M % 256 = m := ⟨_, rfl⟩
  have e6 : (64 : Int) + (M : Int).tdiv 256 = (mh : Int) := by rw [← hmh]; simp
  have e6' : (64 : Int) + (M : Int) / 256 = (mh : Int) := by omega
  have e7 : (M : Int) % 256 = (ml : Int) := by omega
  have hmb : mh < 256 ∧ ml < 256 ∧ M < 16384 := by omega
  have HMB := Lib.hid hmb
  have hM14 : M < 2000 := by omega
  have HMT : Hid (lowB (16384 + M) 2 = [UInt8.ofNat mh, UInt8.ofNat ml]) := show _ = _ by
    rw [← hmh, ← hml]
    simp only [lowB, Nat.pow_one, Nat.pow_zero, Nat.div_one]
    congr 1
    · congr 1; omega
    · congr 1; apply UInt8.toNat_inj.1; simp only [UInt8.toNat_ofNat']; omega
  have HM := Lib.hid hM
  clear hA44 hd44 hM hmh hml hmb
  go_wp2_with (first | (at_builtin; (with_reducible refine wpList_append_bytes rfl (.tmp 75) (.tmp 76) rfl (w3.heap.size + 1) (.slice (some ⟨w3.heap.size + 1, 0, none⟩) 6 6) 6 _ ?hs O4.out (w.heap.size + 1) (some ⟨w.heap.size, 0, none⟩) 8 8 (dst) ?hx ?hr (by have := HLN.out; omega) ?hb w4 ?hw ?_); (case hs => with_unfolding_all rfl); (case hx => with_unfolding_all rfl); (case hr => exact Z4.out.sl _ _ (by omega) HDL.out); (case hb => first | omega | (simp; omega)); (case hw => exact (Below.refl _ _)); intro A45 d45 w5 ho hle hc hg hb; have BB5 := Lib.hid (BB4.out.trans (hb.mono (by have := BB3.out.size; omega))); have R5 := Lib.hid (R4.out.belowB hb (by omega)); have hlt5 := R5.out.lt; have CC5 := Lib.hid (CC4.out.trans (hb.mono (by omega))); have O5 := Lib.hid ho; have C5 : Hid (_ ∧ _) := ⟨hle, hc⟩; clear ho hle hc hg hb) | (at_builtin; (with_reducible refine wpList_append_bytes rfl (.tmp 77) (.tmp 81) rfl (w3.heap.size + 1) (.slice A45 (6 + 8) d45) (6 + 8) _ ?hs (O5.out.alloc _) (w5.heap.size + 1) (some ⟨w5.heap.size, 0, none⟩) 1 1 ([UInt8.ofNat n2]) ?hx ?hr (by have := HLN.out; omega) ?hb w5 ?hw ?_); (case hs => with_unfolding_all rfl); (case hx => with_unfolding_all rfl); (case hr => exact sl_one _ _ _ (small_bv n2 (by have := HLN.out; omega) _ (by first | rfl | (simp; omega)))); (case hb => first | omega | (simp; omega)); (case hw => exact ((Below.refl _ _).alloc (by omega) _)); intro A46 d46 w6 ho hle hc hg hb; have BB6 := Lib.hid (BB5.out.trans (hb.mono (by have := BB3.out.size; omega))); have R6 := Lib.hid (R5.out.belowB hb (by omega)); have hlt6 := R6.out.lt; have CC6 := Lib.hid (CC5.out.trans (hb.mono (by omega))); have O6 := Lib.hid ho; have C6 : Hid (_ ∧ _) := ⟨hle, hc⟩; clear ho hle hc hg hb) | (at_builtin; (with_reducible refine wpList_append_bytes rfl (.tmp 82) (.tmp 83) rfl (w3.heap.size + 1) (.slice A46 (6 + 8 + 1) d46) (6 + 8 + 1) _ ?hs O6.out w.heap.size A2 n2 c2 (src) ?hx ?hr (by have := HLN.out; omega) ?hb w6 ?hw ?_); (case hs => with_unfolding_all rfl); (case hx => with_unfolding_all rfl); (case hr => exact (HP.out _ BB6.out).1); (case hb => first | omega | (simp; omega)); (case hw => exact (Below.refl _ _)); intro A47 d47 w7 ho hle hc hg hb; have BB7 := Lib.hid (BB6.out.trans (hb.mono (by have := BB3.out.size; omega))); have R7 := Lib.hid (R6.out.belowB hb (by omega)); have hlt7 := R7.out.lt; have CC7 := Lib.hid (CC6.out.trans (hb.mono (by omega))); have O7 := Lib.hid ho; have C7 : Hid (_ ∧ _) := ⟨hle, hc⟩; clear ho hle hc hg hb) | (at_builtin; (with_reducible refine wpList_append_bytes rfl (.tmp 95) (.tmp 106) rfl (w3.heap.size + 1) (.slice A47 (6 + 8 + 1 + n2) d47) (6 + 8 + 1 + n2) _ ?hs (O7.out.alloc _) (w7.heap.size + 1) (some ⟨w7.heap.size, 0, none⟩) 2 2 ([UInt8.ofNat mh, UInt8.ofNat ml]) ?hx ?hr (by have := HLN.out; omega) ?hb w7 ?hw ?_); (case hs => with_unfolding_all rfl); (case hx => with_unfolding_all rfl); (case hr => exact sl_lit _ [UInt8.ofNat mh, UInt8.ofNat ml] _ 2 (by simp only [bvs, List.map_cons, List.map_nil, ← byte_small mh HMB.out.1, ← byte_small ml HMB.out.2.1]) rfl); (case hb => first | omega | (simp; omega)); (case hw => exact ((Below.refl _ _).alloc (by omega) _)); intro A48 d48 w8 ho hle hc hg hb; have BB8 := Lib.hid (BB7.out.trans (hb.mono (by have := BB3.out.size; omega))); have R8 := Lib.hid (R7.out.belowB hb (by omega)); have hlt8 := R8.out.lt; have CC8 := Lib.hid (CC7.out.trans (hb.mono (by omega))); have O8 := Lib.hid ho; have C8 : Hid (_ ∧ _) := ⟨hle, hc⟩; clear ho hle hc hg hb))
  skip
  go_loopw [18, 19] (fun out sh wr => ∃ (j m : Nat) (A' : Option Addr) (c' : Nat) (Y : List UInt8), j ≤ nl ∧ m + j ≤ (6 + 8 + 1 + n2 + 2) + nl ∧ (6 + 8 + 1 + n2 + 2) + nl ≤ m + j ∧ sh = .int .i64 ((j : Int) - 1) ∧ out = .slice A' m c' ∧ Hid (Own wr (w3.heap.size + 1) (.slice A' m c') m (([UInt8.ofNat F] ++ lowB ver 4 ++ [8] ++ dst ++ [UInt8.ofNat n2] ++ src ++ [UInt8.ofNat mh, UInt8.ofNat ml]) ++ Y)) ∧ m ≤ c' ∧ c' ≤ maxLen ∧ Hid (Y ++ lowB num j = lowB num nl) ∧ Hid (Below (w3.heap.size + 1) w8 wr)) (fun _ sh _ => (intOf sh + 1).toNat)
  case atStart => exact ⟨nl, (6 + 8 + 1 + n2 + 2), A48, d48, [], by omega, by omega, by omega, by go_num, rfl, (by simpa using O8.out : Own _ _ _ _ _), C8.out.1, C8.out.2, rfl, Below.refl _ _⟩
  case round =>
    obtain ⟨j, m, A', c', Y, hj, hmj, hmj', rfl, rfl, HO, hmc, hcm, HX, hbr⟩ := hrel
    rcases Nat.eq_zero_or_pos j with rfl | hpos
    · have hY : Y = lowB num nl := by
        have h := HX.out
        simpa [lowB] using h
      subst hY
      obtain ⟨X, hX⟩ : ∃ X, putLV 2 ver nl num r dst src [] = X := ⟨_, rfl⟩
      have hXW : ([UInt8.ofNat F] ++ lowB ver 4 ++ [8] ++ dst ++ [UInt8.ofNat n2] ++ src ++ [UInt8.ofNat mh, UInt8.ofNat ml]) ++ lowB num nl = X := by
        rw [← hX]
        unfold putLV
        rw [if_neg (by omega), HM.out, HMT.out, HDL.out, HSL.out]
        rw [show 192 + 16 * 2 + (nl - 1) = F by omega]
        simp
      rw [hXW] at HO
      have hXm : X.length = m := HO.out.len
      have HX0 := Lib.hid hX
      have RR := Lib.hid (R8.out.belowB hbr.out (by omega))
      have CR := Lib.hid (CC8.out.trans (hbr.out.mono (by omega)))
      have BR := Lib.hid (BB3.out.trans (CR.out.mono BB3.out.size))
      have HSS : Hid (∀ u : World, Below w3.heap.size w3 u → Sl u w3.heap.size B1 8 dst ∧ Sl u w3.heap.size B2 n2 src) := fun u hu => ⟨P13.out.sl.below hu, P23.out.sl.below hu⟩
      have hput : putR true 2 ver num nl r false false dst src [] = (X, 0) := by
        unfold putR
        have := HLN.out
        rw [HDL.out, HSL.out, if_pos ⟨⟨⟨by omega, by omega⟩, by omega, rfl, by rw [if_pos rfl]; exact ⟨rfl, rfl, by omega, by omega, by simp, by intro _; rfl⟩⟩, by omega, by omega⟩, if_pos rfl, Int.toNat_natCast, Int.toNat_natCast, ← hX]
        rfl
      have HPUT : Hid (∀ u : World, Below w3.heap.size w3 u → Calls Try.prog 10 #[.agg vs.toArray, .int .i64 (r : Int)] u (Puts u (X, 0))) := fun u hu => by
        have h := hput_any true 2 ver num nl r false false dst src [] hver (by omega) B1 8 d1 B2 n2 d2 none 0 0 w3.heap.size u (HSS.out _ hu).1 (HSS.out _ hu).2 Sl.nil hu.size
        rw [HVS.out, hput] at h
        exact h
      have hmB : m ≤ 1000 := by have := HLN.out; omega
      clear hX hXW hput hmj hmj' hj
      go_wp2_with ((with_reducible refine wpList_load_rw rfl 26 (.tmp 17) rfl w3.heap.size ?hx 26 vs RR.out _ Try.underlying26 rfl HSZ.out ?_); (case hx => with_unfolding_all rfl))
      (with_reducible refine (HPUT.out _ CR.out).mono ?_)
      rintro e11 w11 ⟨A11, n11, c11, rfl, ho, hle, hc, hb⟩
      simp only at ho
      obtain rfl : n11 = m := by rw [← ho.len, hXm]
      have OB := Lib.hid ho
      have OW := Lib.hid (HO.out.below hb)
      have R11 := Lib.hid (RR.out.below hb)
      have C11 := Lib.hid (CR.out.trans (hb.mono CR.out.size))
      have hm1 : n11 ≤ maxLen := Nat.le_trans hle hc
      have HWR : Hid (w3.heap.size < wr.heap.size) := RR.out.lt
      have HL11 := Lib.hid hb.size
      clear ho hle hc hb HO RR
      go_wp2_with fail
      (with_reducible refine (same_w X A11 A' n11 c11 c' w11.heap.size w11.heap.size w11 OB.out.sl OW.out.sl hm1).mono ?_)
      rintro e12 w12 ⟨rfl, b12⟩
      replace OB := Lib.hid (OB.out.below b12)
      have R12 := Lib.hid (R11.out.below b12)
      have C12 := Lib.hid (C11.out.trans (b12.mono C11.out.size))
      have LW : Hid (wr.heap.size ≤ w12.heap.size) := Nat.le_trans HL11.out b12.size
      clear b12 OW R11
      go_wp2_with fail
      obtain ⟨q, hq⟩ : ∃ q, num % 256 ^ nl = q := ⟨_, rfl⟩
      have HQ := Lib.hid hq
      have hge : X = X := rfl
      have HGET : Hid (∀ (A : Option Addr) (c N k3 : Nat) (u : World), Sl u u.heap.size A N (X ++ List.replicate k3 0) → N ≤ c → c ≤ maxLen → k3 = r + 3 → Calls Try.prog 12 #[.slice A N c] u (Gets u ((⟨true, 2, ver, dst, src, [], false, false, q, nl⟩, n11, r), 0))) := fun A c N k3 u h h1' h2' hk3 => by
        have h3 := hget_any (X ++ List.replicate k3 0) A N c u.heap.size u h (Nat.le_refl _) h1' h2'
        have := HLN.out
        rw [← HX0.out, get_putL 2 ver nl num r dst src [] (List.replicate k3 0) (by omega) hver h1 h4 (by omega) HDL.out (by rw [HSL.out]; omega) (by simp) (by intro _; rfl) (by simp; omega), HX0.out, hXm, hq] at h3
        exact h3
      obtain ⟨k3, hk3⟩ : ∃ k, r + 3 = k := ⟨_, rfl⟩
      have e9 : (r : Int) + 3 = (k3 : Int) := by omega
      obtain ⟨N3, hN3⟩ : ∃ N, n11 + k3 = N := ⟨_, rfl⟩
      have HN3 := Lib.hid hN3
      have HK3 := Lib.hid hk3.symm
      have hN3b : N3 ≤ 70368744177664 := by omega
      have HVL : Hid (vs.length = 10) := show _ = _ by rw [← HVS.out]; rfl
      go_cut [136] from 136 to 143 (fun v136 wx => Hid (Rw wx w3.heap.size 26 (vs.set 8 (.int .u64 (q : Int)))) ∧ Hid (Own wx wr.heap.size (.slice A11 n11 c11) n11 X) ∧ Hid (Below w3.heap.size w3 wx) ∧ Hid (wr.heap.size ≤ wx.heap.size))
      case first =>
        have hn4 : nl = 1 ∨ nl = 2 ∨ nl = 3 ∨ nl = 4 := by omega
        clear HGET e9 hN3b HPUT
        rcases hn4 with rfl | rfl | rfl | rfl
        · have eM := and_u64L num 255 q (by omega) (by omega) 255 rfl (by rw [← HQ.out]; exact Nat.and_two_pow_sub_one_eq_mod num 8)
          have k8 := (hdr_cells (HVS.out ▸ R12.out)).2.2.2.2.2.2.2.2.1
          have f8 := R12.out.frozen 8
          have q3 : IntKind.i64.wrap 8 = 8 := rfl
          have q4 : IntKind.u64.wrap 256 = 256 := rfl
          have q5 : IntKind.u64.wrap 255 = 255 := rfl
          go_region
          all_goals
            go_wp2_with fail
            go_meet
            have hO := (Only.refl w3.heap.size w12.drew).setCell 8 (.int .u64 (q : Int))
            exact ⟨Rw.put (show Rw w12.drew _ _ vs from R12.out) 8 _, Own.onlyA (show Own w12.drew _ _ _ _ from OB.out) hO (fun a ha => by have := (OB.out.blk a ha).1; have := HWR.out; omega), C12.out.drew.trans (hO.below (show w3.heap.size ≤ w12.drew.heap.size from C12.out.size) (Nat.le_refl _)), Nat.le_trans (show wr.heap.size ≤ w12.drew.heap.size from LW.out) hO.size⟩
        · have eM := and_u64L num 65535 q (by omega) (by omega) 65535 rfl (by rw [← HQ.out]; exact Nat.and_two_pow_sub_one_eq_mod num 16)
          have k8 := (hdr_cells (HVS.out ▸ R12.out)).2.2.2.2.2.2.2.2.1
          have f8 := R12.out.frozen 8
          have q3 : IntKind.i64.wrap 16 = 16 := rfl
          have q4 : IntKind.u64.wrap 65536 = 65536 := rfl
          have q5 : IntKind.u64.wrap 65535 = 65535 := rfl
          go_region
          all_goals
            go_wp2_with fail
            go_meet
            have hO := (Only.refl w3.heap.size w12.drew).setCell 8 (.int .u64 (q : Int))
            exact ⟨Rw.put (show Rw w12.drew _ _ vs from R12.out) 8 _, Own.onlyA (show Own w12.drew _ _ _ _ from OB.out) hO (fun a ha => by have := (OB.out.blk a ha).1; have := HWR.out; omega), C12.out.drew.trans (hO.below (show w3.heap.size ≤ w12.drew.heap.size from C12.out.size) (Nat.le_refl _)), Nat.le_trans (show wr.heap.size ≤ w12.drew.heap.size from LW.out) hO.size⟩
        · have eM := and_u64L num 16777215 q (by omega) (by omega) 16777215 rfl (by rw [← HQ.out]; exact Nat.and_two_pow_sub_one_eq_mod num 24)
          have k8 := (hdr_cells (HVS.out ▸ R12.out)).2.2.2.2.2.2.2.2.1
          have f8 := R12.out.frozen 8
          have q3 : IntKind.i64.wrap 24 = 24 := rfl
          have q4 : IntKind.u64.wrap 16777216 = 16777216 := rfl
          have q5 : IntKind.u64.wrap 16777215 = 16777215 := rfl
          go_region
          all_goals
            go_wp2_with fail
            go_meet
            have hO := (Only.refl w3.heap.size w12.drew).setCell 8 (.int .u64 (q : Int))
            exact ⟨Rw.put (show Rw w12.drew _ _ vs from R12.out) 8 _, Own.onlyA (show Own w12.drew _ _ _ _ from OB.out) hO (fun a ha => by have := (OB.out.blk a ha).1; have := HWR.out; omega), C12.out.drew.trans (hO.below (show w3.heap.size ≤ w12.drew.heap.size from C12.out.size) (Nat.le_refl _)), Nat.le_trans (show wr.heap.size ≤ w12.drew.heap.size from LW.out) hO.size⟩
        · have eM := and_u64L num 4294967295 q (by omega) (by omega) 4294967295 rfl (by rw [← HQ.out]; exact Nat.and_two_pow_sub_one_eq_mod num 32)
          have k8 := (hdr_cells (HVS.out ▸ R12.out)).2.2.2.2.2.2.2.2.1
          have f8 := R12.out.frozen 8
          have q3 : IntKind.i64.wrap 32 = 32 := rfl
          have q4 : IntKind.u64.wrap 4294967296 = 4294967296 := rfl
          have q5 : IntKind.u64.wrap 4294967295 = 4294967295 := rfl
          go_region
          all_goals
            go_wp2_with fail
            go_meet
            have hO := (Only.refl w3.heap.size w12.drew).setCell 8 (.int .u64 (q : Int))
            exact ⟨Rw.put (show Rw w12.drew _ _ vs from R12.out) 8 _, Own.onlyA (show Own w12.drew _ _ _ _ from OB.out) hO (fun a ha => by have := (OB.out.blk a ha).1; have := HWR.out; omega), C12.out.drew.trans (hO.below (show w3.heap.size ≤ w12.drew.heap.size from C12.out.size) (Nat.le_refl _)), Nat.le_trans (show wr.heap.size ≤ w12.drew.heap.size from LW.out) hO.size⟩
      case rest =>
        obtain ⟨R13, OB, C13, L13⟩ := hcut
        clear R12 C12
        have vs8 : vs.set 8 (.int .u64 (q : Int)) = hdrV true 2 ver B1 8 d1 B2 n2 d2 none 0 0 false false q nl := by rw [← HVS.out]; rfl
        obtain ⟨us, hus⟩ : ∃ us, vs.set 8 (.int .u64 (q : Int)) = us := ⟨_, rfl⟩
        rw [hus] at R13 vs8
        have HUS := Lib.hid vs8
        have HSZ3 : Hid ((Try.prog.info? 26).map (·.size) = some us.length) := show _ = _ by rw [HUS.out]; exact hdr_size
        clear vs8 hus
        go_wp2_with (at_builtin; (refine wpList_append_zeros rfl (.tmp 145) (.tmp 147) rfl wr.heap.size (.slice A11 n11 c11) n11 k3 N3 X rfl OB.out rfl HN3.out hN3b L13.out _ (Below.refl _ _) ?_); intro A13 c13 w14 O14 hle14 hc14 b14)
        have R14 := Lib.hid (R13.out.belowB b14.out HWR.out)
        have C14 := Lib.hid (C13.out.trans (b14.out.mono (Nat.le_of_lt HWR.out)))
        (with_reducible refine (HGET.out A13 c13 N3 k3 w14 O14.out.sl hle14 hc14 HK3.out).mono ?_)
        rintro e14 w15 ⟨hv, rfl, hw, hb⟩
        have R15 := Lib.hid (R14.out.below hb)
        have C15 := Lib.hid (C14.out.trans (hb.mono C14.out.size))
        have HW := Lib.hid hw
        have HLN2 : Hid (hv.length = 10) := by obtain ⟨_, _, _, _, _, _, _, _, _, rfl, _⟩ := hw; rfl
        have HSZ2 : Hid ((Try.prog.info? 26).map (·.size) = some hv.length) := show _ = _ by rw [HLN2.out]; exact hdr_size
        have HL2 : Hid (hdr0.length = hv.length) := show _ = _ by rw [HLN2.out]; rfl
        have HONE : Hid (∀ v ∈ hv, v.oneCell' = true) := by obtain ⟨_, _, _, _, _, _, _, _, _, rfl, _⟩ := hw; simp [Hid, Value.oneCell']
        clear hw hb
        have tm : ((n11 : Int) == (n11 : Int)) = true := by simp
        have tr : ((r : Int) == (r : Int)) = true := by simp
        go_wp2_with (first
          | ((with_reducible refine wpList_store_rw rfl 26 (.tmp 22) (.tmp 150) rfl w15.heap.size hv ?hx ?hy 26 hdr0 ?hB HSZ2.out HL2.out HONE.out ?_); (case hx => with_unfolding_all rfl); (case hy => with_unfolding_all rfl); (case hB => exact heap_alloc_new w15 _); intro w16 R16 O16; have b16 : Below w15.heap.size w15 w16 := ((Below.refl _ _).alloc (Nat.le_refl _) _).trans (O16.out.below (by simp) (Nat.le_refl _)); have H16 := Lib.hid (R15.out.below b16); have C16 := Lib.hid (C15.out.trans (b16.mono C15.out.size)); have S16 := Lib.hid b16; clear b16)
          | ((with_reducible refine wpList_load_rwG 168 rfl 26 (.tmp 22) rfl ?hw w15.heap.size ?hx 26 hv R16.out _ Try.underlying26 rfl HSZ2.out ?_); (case hw => rfl); (case hx => with_unfolding_all rfl))
          | ((with_reducible refine wpList_load_rwG 169 rfl 26 (.tmp 17) rfl ?hw w3.heap.size ?hx 26 us H16.out _ Try.underlying26 rfl HSZ3.out ?_); (case hw => rfl); (case hx => with_unfolding_all rfl)))
        have HSH : Hid (Calls Try.prog 17 #[.agg hv.toArray, .agg us.toArray] w16 fun e w' => e = .returned (.bool true) ∧ Below w16.heap.size w16 w') := by
          obtain ⟨E1, m1, e1', E2, m2, e2', E3, m3, e3', hhv, ⟨o1, _, _⟩, ⟨o2, _, _⟩, ⟨o3, _, _⟩, _⟩ := HW.out
          have l1 := o1.len
          have l2 := o2.len
          have l3 := o3.len
          simp only at l1 l2 l3
          rw [HDL.out] at l1
          rw [HSL.out] at l2
          rw [List.length_nil] at l3
          subst l1 l2 l3
          rw [hhv, HUS.out]
          have hz := HSS.out _ C16.out
          have := HLN.out
          exact sameHeader_yes true 2 ver q nl false false dst src [] E1 8 e1' E2 n2 e2' E3 0 e3' B1 d1 B2 d2 none 0 w16 ((o1.below S16.out).sl) ((o2.below S16.out).sl) ((o3.below S16.out).sl) (hz.1.more C16.out.size) (hz.2.more C16.out.size) Sl.nil (by simp [maxLen]) (by simp [maxLen]; omega) (by simp [maxLen])
        (with_reducible refine HSH.out.mono ?_)
        rintro e17 w17 ⟨rfl, b17⟩
        have C17 := Lib.hid (C16.out.trans (b17.mono C16.out.size))
        clear b17
        go_wp2_with fail
        (with_reducible refine (awake_any _).mono ?_)
        rintro e18 w18 ⟨rfl, b18⟩
        go_wp2_with fail
        go_ret
        exact ⟨rfl, (BB3.out.trans (C17.out.mono BB3.out.size)).trans (b18.mono (Nat.le_trans BB3.out.size C17.out.size))⟩
    · obtain ⟨t, rfl⟩ : ∃ t, j = t + 1 := ⟨j - 1, by omega⟩
      rw [show (((t + 1 : Nat) : Int) - 1) = (t : Int) by omega]
      have hsz : w3.heap.size + 1 ≤ wr.heap.size := Nat.le_trans hlt8 hbr.out.size
      go_wp2_with (at_builtin; (refine wpList_append_bytes rfl _ _ rfl (w3.heap.size + 1) (.slice A' m c') m _ rfl (HO.out.alloc _) _ _ 1 1 [UInt8.ofNat (num / 256 ^ t)] rfl (sl_one _ _ _ ?hV) (by have := HLN.out; omega) ?hB w8 ?hb ?_); (case hV => exact byte_at num t); (case hB => simp; omega); (case hb => exact hbr.out.alloc hsz _); intro A1' c1' w1' ho1' hle1' hc1' hg1' hb1')
      go_roundw
      case rel =>
        have g1 : Own w1' (w3.heap.size + 1) (.slice A1' (m + 1) c1') (m + 1) (([UInt8.ofNat F] ++ lowB ver 4 ++ [8] ++ dst ++ [UInt8.ofNat n2] ++ src ++ [UInt8.ofNat mh, UInt8.ofNat ml]) ++ (Y ++ [UInt8.ofNat (num / 256 ^ t)])) := by rw [← List.append_assoc]; exact ho1'
        have g2 : (Y ++ [UInt8.ofNat (num / 256 ^ t)]) ++ lowB num t = lowB num nl := by rw [← HX.out]; simp [lowB]
        first
          | exact ⟨t, m + 1, A1', c1', Y ++ [UInt8.ofNat (num / 256 ^ t)], by omega, by omega, by omega, by go_num, rfl, g1, hle1', hc1', g2, hb1'⟩
          | ((repeat apply Exists.intro); exact ⟨⟨t, m + 1, A1', c1', Y ++ [UInt8.ofNat (num / 256 ^ t)], by omega, by omega, by omega, by go_num, rfl, g1, hle1', hc1', g2, hb1'⟩, rfl⟩)
      case measure => simp [intOf] <;> omega

theorem longs_all (ver num : Nat) (hver : ver < 4294967296) (hnum : num < 4294967296) (dst src tok : List UInt8) (hd : dst.length = 8) (A2 A3 : Option Addr) (n2 c2 n3 c3 : Nat) (many rest : Int) (second : Bool) (w : World) (hs2 : Sl w w.heap.size A2 n2 src) (hs3 : Sl w w.heap.size A3 n3 tok) :
    Calls Try.prog 8 #[.int .u32 (ver : Int), .agg (bvs dst).toArray, .slice A2 n2 c2, .slice A3 n3 c3, .int .u32 (num : Int), .int .i64 many, .int .i64 rest, .bool second] w fun e w' => e = .returned (.bool true) ∧ Below w.heap.size w w' := by
  by_cases h : 20 < n2 ∨ 60 < n3
  · exact longs_great ver num dst A2 A3 n2 c2 n3 c3 many rest second w h
  · cases second
    · exact longs0_walk ver num hver hnum dst src tok hd A2 A3 n2 c2 n3 c3 many rest w hs2 hs3 (by omega) (by omega)
    · exact longs2_walk ver num hver hnum dst src tok hd A2 A3 n2 c2 n3 c3 many rest w hs2 hs3 (by omega) (by omega)
end Go.Proofs.Ytonoljcgcfjkmaa
