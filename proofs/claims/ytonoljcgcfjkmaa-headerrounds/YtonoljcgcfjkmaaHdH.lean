/-
  Laying a header: the contracts of putWhole, numLenMark, putShort, putLong, Put.
-/
import Derived.Test.YtonoljcgcfjkmaaHdG
import Derived.Test.YtonoljcgcfjkmaaVarintC
import Derived.Test.YtonoljcgcfjkmaaMakeF
import Derived.Test.YtonoljcgcfjkmaaForgetW
namespace Go.Proofs.Ytonoljcgcfjkmaa
open Go.RowKit
set_option linter.unusedVariables false

theorem i64_or_nat (a b : Nat) (ha : a < 9223372036854775808) (hb : b < 9223372036854775808) : bits .or .i64 (a : Int) (b : Int) = ((a ||| b : Nat) : Int) := by
  have hx : a ||| b < 2 ^ 63 := Nat.or_lt_two_pow (by omega) (by omega)
  show IntKind.i64.wrap ((BitVec.ofInt 64 (a : Int) ||| BitVec.ofInt 64 (b : Int)).toNat : Int) = _
  rw [BitVec.toNat_or, ofInt_u64 a (by omega), ofInt_u64 b (by omega)]
  simp only [IntKind.wrap, IntKind.bits, IntKind.signed]
  simp
  omega
theorem or_i64 (a b : Nat) (ha : a < 65536) (hb : b < 65536) (X Y : Int) (hX : X = (a : Int)) (hY : Y = (b : Int)) (V : Nat) (hV : a ||| b = V) : bits .or .i64 X Y = (V : Int) := by
  subst hX hY
  rw [i64_or_nat a b (by omega) (by omega), hV]

set_option maxHeartbeats 1000000 in
theorem putWhole_any (l : List UInt8) (A : Option Addr) (n c base N s : Nat) (w : World) (h : Own w base (.slice A n c) n l) (hB : base ≤ w.heap.size) (hnc : n ≤ c) (hcm : c ≤ maxLen) (hn : n ≤ 35184372088832) (hN : N < 18446744073709551616) (hs : s ≤ 8) :
    Calls Try.prog 46 #[.slice A n c, .int .u64 (N : Int), .int .i64 (s : Int)] w fun e w' => ∃ A' c', e = .returned (.slice A' (n + s) c') ∧ Own w' base (.slice A' (n + s) c') (n + s) (l ++ lowB N s) ∧ n + s ≤ c' ∧ c' ≤ maxLen ∧ Below base w w' := by
  have H := Lib.hid h
  have HBB := Lib.hid hB
  have HC : Hid (n ≤ c ∧ c ≤ maxLen) := ⟨hnc, hcm⟩
  clear h hB hnc hcm
  go_enter Try.func46, Try.ntmps46
  go_wp2_with fail
  go_loopw [0, 7] (fun out sh wr => ∃ (j m : Nat) (A' : Option Addr) (c' : Nat) (X : List UInt8), j ≤ s ∧ m + j ≤ n + s ∧ n + s ≤ m + j ∧ sh = .int .i64 (8 * (j : Int) - 8) ∧ out = .slice A' m c' ∧
      Hid (Own wr base (.slice A' m c') m (l ++ X)) ∧ m ≤ c' ∧ c' ≤ maxLen ∧ Hid (X ++ lowB N j = lowB N s) ∧ Hid (Below base w wr)) (fun _ sh _ => (intOf sh + 8).toNat)
  case atStart => exact ⟨s, n, A, c, [], by omega, by omega, by omega, by go_num, rfl, (by simpa using H.out : Own _ _ _ _ _), HC.out.1, HC.out.2, rfl, Below.refl _ _⟩
  case round =>
    obtain ⟨j, m, A', c', X, hj, hmj, hmj', rfl, rfl, HO, hmc, hcm, HX, hbr⟩ := hrel
    rcases Nat.eq_zero_or_pos j with rfl | hpos
    · go_wp2
      go_ret
      obtain rfl : m = n + s := by omega
      have hX : X = lowB N s := by
        have h := HX.out
        simpa [lowB] using h
      subst hX
      exact ⟨A', c', rfl, HO.out, hmc, hcm, hbr.out⟩
    · obtain ⟨t, rfl⟩ : ∃ t, j = t + 1 := ⟨j - 1, by omega⟩
      rw [show (8 * ((t + 1 : Nat) : Int) - 8) = 8 * (t : Int) by omega]
      go_wp2_with (at_builtin; (refine wpList_append_bytes rfl _ _ rfl base (.slice A' m c') m (l ++ X) rfl (HO.out.alloc _) _ _ 1 1 [UInt8.ofNat (N / 256 ^ t)] rfl (sl_one _ _ _ ?hV) (by omega) ?hB w ?hb ?_); (case hV => exact byte_at N t); (case hB => have := hbr.out.size; have := HBB.out; simp; omega); (case hb => exact hbr.out.alloc (Nat.le_trans HBB.out hbr.out.size) _); intro A1 c1 w1 ho1 hle1 hc1 hg1 hb1)
      go_roundw
      case rel =>
        refine ⟨t, m + 1, A1, c1, X ++ [UInt8.ofNat (N / 256 ^ t)], by omega, by omega, by omega, by go_num, rfl, ?_, hle1, hc1, ?_, hb1⟩
        · show Own _ _ _ _ _
          rw [← List.append_assoc]; exact ho1
        · show _ = _
          rw [← HX.out]; simp [lowB]
      case measure => simp [intOf]; omega
theorem putWhole_is (S : Int) (s : Nat) (hS : S = (s : Int)) (l : List UInt8) (A : Option Addr) (n c base N : Nat) (w : World) (h : Own w base (.slice A n c) n l) (hB : base ≤ w.heap.size) (hnc : n ≤ c) (hcm : c ≤ maxLen) (hn : n ≤ 35184372088832) (hN : N < 18446744073709551616) (hs : s ≤ 8) :
    Calls Try.prog 46 #[.slice A n c, .int .u64 (N : Int), .int .i64 S] w fun e w' => ∃ A' c', e = .returned (.slice A' (n + s) c') ∧ Own w' base (.slice A' (n + s) c') (n + s) (l ++ lowB N s) ∧ n + s ≤ c' ∧ c' ≤ maxLen ∧ Below base w w' := by
  subst hS
  exact putWhole_any l A n c base N s w h hB hnc hcm hn hN hs

theorem numLenMark_any (L : Bool) (K : Int) (V : Nat) (A1 : Option Addr) (n1 c1 : Nat) (A2 : Option Addr) (n2 c2 : Nat) (A3 : Option Addr) (n3 c3 : Nat) (S P : Bool) (N : Nat) (nl : Nat) (hnl : 1 ≤ nl ∧ nl ≤ 4) (z : Nat) (hz : nl - 1 = z) (w : World) :
    Calls Try.prog 45 #[.agg (hdrV L K V A1 n1 c1 A2 n2 c2 A3 n3 c3 S P N nl).toArray] w fun e w' => e = .returned (.int .i64 (z : Int)) ∧ Below w.heap.size w w' := by
  have h : (nl : Int) - 1 = (z : Int) := by omega
  clear hz
  unfold hdrV
  go_enter Try.func45, Try.ntmps45
  go_wp2_with fail
  go_ret
  exact ⟨rfl, (Below.refl _ _).alloc (Nat.le_refl _) _⟩
/-- the cells of a header's variable -/
theorem hdr_cells {w : World} {g : Nat} {t : TypeId} {L : Bool} {K : Int} {V : Nat} {A1 : Option Addr} {n1 c1 : Nat} {A2 : Option Addr} {n2 c2 : Nat} {A3 : Option Addr} {n3 c3 : Nat} {S P : Bool} {N : Nat} {NL : Int} (h : Rw w g t (hdrV L K V A1 n1 c1 A2 n2 c2 A3 n3 c3 S P N NL)) :
    w.cell? ⟨g, 0, none⟩ = some (.bool L) ∧ w.cell? ⟨g, 1, none⟩ = some (.int .i64 K) ∧ w.cell? ⟨g, 2, none⟩ = some (.int .u32 (V : Int)) ∧ w.cell? ⟨g, 3, none⟩ = some (.slice A1 n1 c1) ∧ w.cell? ⟨g, 4, none⟩ = some (.slice A2 n2 c2) ∧ w.cell? ⟨g, 5, none⟩ = some (.slice A3 n3 c3) ∧
      w.cell? ⟨g, 6, none⟩ = some (.bool S) ∧ w.cell? ⟨g, 7, none⟩ = some (.bool P) ∧ w.cell? ⟨g, 8, none⟩ = some (.int .u64 (N : Int)) ∧ w.cell? ⟨g, 9, none⟩ = some (.int .i64 NL) :=
  ⟨h.cell 0 _ rfl, h.cell 1 _ rfl, h.cell 2 _ rfl, h.cell 3 _ rfl, h.cell 4 _ rfl, h.cell 5 _ rfl, h.cell 6 _ rfl, h.cell 7 _ rfl, h.cell 8 _ rfl, h.cell 9 _ rfl⟩
theorem hdrV_one (L : Bool) (K : Int) (V : Nat) (A1 : Option Addr) (n1 c1 : Nat) (A2 : Option Addr) (n2 c2 : Nat) (A3 : Option Addr) (n3 c3 : Nat) (S P : Bool) (N : Nat) (NL : Int) : ∀ v ∈ hdrV L K V A1 n1 c1 A2 n2 c2 A3 n3 c3 S P N NL, v.oneCell' = true := by simp [hdrV, Value.oneCell']

/-- the bytes of a long header -/
def putLV (k ver nl num rest : Nat) (dst src tok : List UInt8) : List UInt8 :=
  (if k = 0 then [UInt8.ofNat (192 + 16 * k + (nl - 1))] ++ lowB ver 4 ++ [UInt8.ofNat dst.length] ++ dst ++ [UInt8.ofNat src.length] ++ src ++ enc tok.length ++ tok
    else [UInt8.ofNat (192 + 16 * k + (nl - 1))] ++ lowB ver 4 ++ [UInt8.ofNat dst.length] ++ dst ++ [UInt8.ofNat src.length] ++ src) ++ lowB (16384 + (rest + nl)) 2 ++ lowB num nl
/-- the bytes of a short header -/
def putSV (S P : Bool) (nl num : Nat) (dst : List UInt8) : List UInt8 :=
  [UInt8.ofNat (64 + (if S = true then 32 else 0) + (if P = true then 4 else 0) + (nl - 1))] ++ dst ++ lowB num nl
theorem or_first : ((List.range 4).all fun z => (64 ||| z == 64 + z) && (64 + z ||| 32 == 96 + z) && (64 + z ||| 4 == 68 + z) && (96 + z ||| 4 == 100 + z) && (192 ||| z == 192 + z) && (224 ||| z == 224 + z)) = true := by kernel_rfl
theorem or_first_at (z : Nat) (hz : z < 4) : 64 ||| z = 64 + z ∧ (64 + z) ||| 32 = 96 + z ∧ (64 + z) ||| 4 = 68 + z ∧ (96 + z) ||| 4 = 100 + z ∧ 192 ||| z = 192 + z ∧ 224 ||| z = 224 + z := by
  have h := List.all_eq_true.1 or_first z (List.mem_range.2 hz)
  simp only [Bool.and_eq_true, beq_iff_eq] at h
  obtain ⟨⟨⟨⟨⟨h1, h2⟩, h3⟩, h4⟩, h5⟩, h6⟩ := h
  exact ⟨h1, h2, h3, h4, h5, h6⟩
theorem small_bv (D : Nat) (h : D < 256) (V : Value) (hV : V = .int .u8 (D : Int)) : V = bv (UInt8.ofNat D) := by rw [hV]; exact byte_small D h

set_option maxHeartbeats 4000000 in
theorem putShort_any (S P : Bool) (nl num : Nat) (hnl : 1 ≤ nl ∧ nl ≤ 4) (hnum : num < 18446744073709551616) (dst : List UInt8) (A1 : Option Addr) (c1 : Nat) (A2 : Option Addr) (n2 c2 : Nat) (A3 : Option Addr) (n3 c3 B : Nat) (K : Int) (V : Nat) (w : World) (hs1 : Sl w B A1 8 dst) (hB : B ≤ w.heap.size) :
    Calls Try.prog 26 #[.agg (hdrV false K V A1 8 c1 A2 n2 c2 A3 n3 c3 S P num nl).toArray] w (MakesBytes w (1 + 8 + nl) (putSV S P nl num dst)) := by
  obtain ⟨z, hz⟩ : ∃ z, nl - 1 = z := ⟨_, rfl⟩
  have hz4 : z < 4 := by omega
  have HMK := Lib.hid (fun u => numLenMark_any false K V A1 8 c1 A2 n2 c2 A3 n3 c3 S P num nl hnl z hz u)
  obtain ⟨h64, h32, h4a, h4b, _, _⟩ := or_first_at z hz4
  obtain ⟨f1, hf1⟩ : ∃ F, 64 + z = F := ⟨_, rfl⟩
  obtain ⟨f2, hf2⟩ : ∃ F, f1 + (if S = true then 32 else 0) = F := ⟨_, rfl⟩
  obtain ⟨F, hF⟩ : ∃ F, f2 + (if P = true then 4 else 0) = F := ⟨_, rfl⟩
  have hFb : F < 256 := by rw [← hF, ← hf2, ← hf1]; cases S <;> cases P <;> simp <;> omega
  have o1 := or_i64 64 z (by omega) (by omega) 64 (z : Int) rfl rfl f1 (by omega)
  have o2 : S = true → bits .or .i64 (f1 : Int) 32 = (f2 : Int) := fun h => or_i64 f1 32 (by omega) (by omega) (f1 : Int) 32 rfl rfl f2 (by rw [← hf2, ← hf1, h32, if_pos h]; omega)
  have o3 : P = true → bits .or .i64 (f2 : Int) 4 = (F : Int) := fun h => or_i64 f2 4 (by omega) (by omega) (f2 : Int) 4 rfl rfl F (by
    rw [← hF, ← hf2, ← hf1, if_pos h]
    cases S
    · simpa using h4a.trans (by omega)
    · have h5 : 64 + z + 32 = 96 + z := by omega
      simp only [if_true]
      rw [h5, h4b]
      omega)
  have e : putSV S P nl num dst = [UInt8.ofNat F] ++ dst ++ lowB num nl := by unfold putSV; rw [hz, ← hF, ← hf2, ← hf1]; congr 4; omega
  rw [e]
  obtain ⟨X, hX⟩ : ∃ X, [UInt8.ofNat F] ++ dst ++ lowB num nl = X := ⟨_, rfl⟩
  obtain ⟨N0, hN0⟩ : ∃ N0, 1 + 8 + nl = N0 := ⟨_, rfl⟩
  rw [hX, hN0]
  have HX := Lib.hid hX
  have HN0 := Lib.hid hN0
  have HS1 : Hid (∀ u : World, Below w.heap.size w u → Sl u B A1 8 dst) := fun u hu => hs1.below (hu.mono hB)
  have HBW := Lib.hid hB
  obtain ⟨vs, hvs⟩ : ∃ vs, hdrV false K V A1 8 c1 A2 n2 c2 A3 n3 c3 S P num nl = vs := ⟨_, rfl⟩
  have HVS := Lib.hid hvs
  have HSZ : Hid ((Try.prog.info? 26).map (·.size) = some vs.length) := show _ = _ by rw [← hvs]; exact hdr_size
  rw [hvs] at HMK
  have HNL := Lib.hid hnl
  have hS : S = false → f2 = f1 := fun h => by rw [← hf2, h]; simp
  have hP : P = false → F = f2 := fun h => by rw [← hF, h]; simp
  clear hs1 hB e hz hvs hX hN0 hnl h64 h32 h4a h4b hF hf2 hf1
  unfold hdrV
  cases S <;> cases P
  all_goals
    first
      | (obtain rfl := hS rfl)
      | (have o2 := o2 rfl)
    first
      | (obtain rfl := hP rfl)
      | (have o3 := o3 rfl)
    clear hS hP
    go_enter Try.func26, Try.ntmps26
    go_wp2_with (first
      | (go_at_call 45; (with_reducible refine (HMK.out _).mono ?_); rintro e1 w1 ⟨rfl, b1⟩; have B1 : Hid (Below w.heap.size w w1) := ((Below.refl _ _).alloc (Nat.le_refl _) _).trans (b1.mono (by simp)); have R1 : Hid (Rw w1 w.heap.size 26 vs) := (show Rw _ _ _ vs by rw [← HVS.out]; exact heap_alloc_new w _).below b1; obtain ⟨c10, c11, c12, c13, c14, c15, c16, c17, c18, c19⟩ := hdr_cells (HVS.out ▸ R1.out); have d13 := fun o => (hdr_cells (HVS.out ▸ (R1.out.alloc o))).2.2.2.1; clear b1)
      | ((with_reducible refine wpList_load_rw rfl 26 (.tmp 1) rfl w.heap.size ?hx 26 vs ?hB _ Try.underlying26 rfl HSZ.out ?_); (case hx => with_unfolding_all rfl); (case hB => rw [← HVS.out]; exact heap_alloc_new w _))
      | (at_builtin; (with_reducible refine wpList_append_bytes rfl (.tmp 18) (.tmp 20) rfl (w.heap.size + 1) (.slice (some ⟨w1.heap.size, 0, none⟩) 1 1) 1 [UInt8.ofNat F] ?hs ?ho B A1 8 c1 dst ?hx ?hr (by omega) ?hb w1 ?hw ?_); (case hs => with_unfolding_all rfl); (case hx => with_unfolding_all rfl); (case ho => exact Blk.own (show Blk _ _ _ [UInt8.ofNat F] by rw [Blk, heap_alloc_new]; exact congrArg some (by rw [byte_small F hFb]; rfl)) rfl R1.out.lt (by simp [maxLen])); (case hr => exact HS1.out _ (B1.out.alloc B1.out.size _)); (case hb => have := R1.out.lt; simp; omega); (case hw => exact (Below.refl _ _).alloc R1.out.lt _); intro A4 c4 w4 ho4 hle4 hc4 hg4 hb4; have R4 := Lib.hid (R1.out.belowB hb4 (by omega)); obtain ⟨_, _, _, _, _, _, _, _, c48, c49⟩ := hdr_cells (HVS.out ▸ R4.out))
      | (go_at_call 46; (with_reducible refine (putWhole_any _ A4 _ c4 (w.heap.size + 1) num nl w4 ho4 ?hb hle4 hc4 (by omega) hnum (by have := HNL.out; omega)).mono ?_); (case hb => exact Nat.le_trans R1.out.lt hb4.size); rintro e5 w5 ⟨A5, c5, rfl, ho5, hle5, hc5, hb5⟩))
    go_ret
    rw [← HX.out, ← HN0.out]
    exact ⟨A5, c5, rfl, ho5.base (by omega), hle5, hc5, (B1.out.trans (hb4.mono (by omega))).trans (hb5.mono (by omega))⟩
set_option maxRecDepth 4000 in
set_option maxHeartbeats 8000000 in
theorem putLong2_any (ver nl num rest : Nat) (hv : ver < 4294967296) (hnl : 1 ≤ nl ∧ nl ≤ 4) (hnum : num < 18446744073709551616) (hrest : rest + nl ≤ 16383) (S P : Bool) (dst src tok : List UInt8) (A1 : Option Addr) (c1 : Nat) (A2 : Option Addr) (n2 c2 : Nat) (A3 : Option Addr) (n3 c3 B : Nat) (w : World) (hs1 : Sl w B A1 8 dst) (hs2 : Sl w B A2 n2 src) (hs3 : Sl w B A3 n3 tok) (hB : B ≤ w.heap.size) (hn2 : n2 ≤ 20) (hn3 : n3 ≤ 100) :
    Calls Try.prog 25 #[.agg (hdrV true 2 ver A1 8 c1 A2 n2 c2 A3 n3 c3 S P num nl).toArray, .int .i64 (rest : Int)] w (MakesBytes w (1 + 4 + 1 + 8 + 1 + n2 + 2 + nl) (putLV 2 ver nl num rest dst src tok)) := by
  obtain ⟨z, hz⟩ : ∃ z, nl - 1 = z := ⟨_, rfl⟩
  have hz4 : z < 4 := by omega
  have HMK := Lib.hid (fun u => numLenMark_any true 2 ver A1 8 c1 A2 n2 c2 A3 n3 c3 S P num nl hnl z hz u)
  obtain ⟨_, _, _, _, h192, h224⟩ := or_first_at z hz4
  obtain ⟨F, hF⟩ : ∃ F, 224 + z = F := ⟨_, rfl⟩
  have hFb : F < 256 := by omega
  have o1 : bits .or .i64 192 32 = 224 := or_i64 192 32 (by omega) (by omega) 192 32 rfl rfl 224 (by decide)
  have o2 : bits .or .i64 224 (z : Int) = (F : Int) := or_i64 224 z (by omega) (by omega) 224 (z : Int) rfl rfl F (by omega)
  obtain ⟨T, hT⟩ : ∃ T, 16384 + (rest + nl) = T := ⟨_, rfl⟩
  obtain ⟨M, hM⟩ : ∃ M, rest + nl = M := ⟨_, rfl⟩
  have hMi : (rest : Int) + (nl : Int) = (M : Int) := by omega
  have o3 : bits .or .i64 16384 (M : Int) = (T : Int) := or_i64 16384 M (by omega) (by omega) 16384 (M : Int) rfl rfl T (by rw [nat_join 14 16384 M (by decide) (by omega)]; omega)
  have hT16 : T < 65536 := by omega
  have HF : Hid (UInt8.ofNat (192 + 16 * 2 + (nl - 1)) = UInt8.ofNat F) := show _ = _ by rw [hz]; exact congrArg UInt8.ofNat (by omega)
  have e : putLV 2 ver nl num rest dst src tok = ([UInt8.ofNat F] ++ lowB ver 4 ++ [UInt8.ofNat dst.length] ++ dst ++ [UInt8.ofNat src.length] ++ src) ++ lowB T 2 ++ lowB num nl := by unfold putLV; rw [if_neg (by omega), HF.out, hT]
  rw [e]
  obtain ⟨X, hX⟩ : ∃ X, ([UInt8.ofNat F] ++ lowB ver 4 ++ [UInt8.ofNat dst.length] ++ dst ++ [UInt8.ofNat src.length] ++ src) ++ lowB T 2 ++ lowB num nl = X := ⟨_, rfl⟩
  obtain ⟨N0, hN0⟩ : ∃ N0, 1 + 4 + 1 + 8 + 1 + n2 + 2 + nl = N0 := ⟨_, rfl⟩
  rw [hX, hN0]
  have HX := Lib.hid hX
  have HN0 := Lib.hid hN0
  have HS1 : Hid (∀ u : World, Below w.heap.size w u → Sl u B A1 8 dst ∧ Sl u B A2 n2 src ∧ Sl u B A3 n3 tok) := fun u hu => ⟨hs1.below (hu.mono hB), hs2.below (hu.mono hB), hs3.below (hu.mono hB)⟩
  have HBW := Lib.hid hB
  have hdl : dst.length = 8 := hs1.1
  have hsl : src.length = n2 := hs2.1
  have htl : tok.length = n3 := hs3.1
  have HD8 := Lib.hid hdl
  have HSL := Lib.hid hsl
  have HTL := Lib.hid htl
  obtain ⟨vs, hvs⟩ : ∃ vs, hdrV true 2 ver A1 8 c1 A2 n2 c2 A3 n3 c3 S P num nl = vs := ⟨_, rfl⟩
  have HVS := Lib.hid hvs
  have HSZ : Hid ((Try.prog.info? 26).map (·.size) = some vs.length) := show _ = _ by rw [← hvs]; exact hdr_size
  rw [hvs] at HMK
  have HNL := Lib.hid hnl
  clear hs1 hs2 hs3 hB e hz hvs hX hN0 h192 h224 hF hT hdl hsl htl hM
  have HLN : Hid (n2 ≤ 20 ∧ n3 ≤ 100) := ⟨hn2, hn3⟩
  unfold hdrV
  go_enter Try.func25, Try.ntmps25
  go_upto_region 1 with fail
  refine wp_forget (fun w1 => Rw w1 w.heap.size 26 vs ∧ Below w.heap.size w w1) ⟨by rw [← HVS.out]; exact heap_alloc_new w _, (Below.refl _ _).alloc (Nat.le_refl _) _⟩ ?_
  intro w1 ⟨h1, h2⟩
  have R1 := Lib.hid h1
  have B1 := Lib.hid h2
  clear h1 h2
  refine wp_held (S := fun u => Below w1.drew.heap.size w1.drew u) (by kernel_rfl) ?_
  replace R1 := Lib.hid R1.out.drew
  replace B1 := Lib.hid B1.out.drew
  obtain ⟨w0, hw0⟩ : ∃ x, w1.drew = x := ⟨_, rfl⟩
  rw [hw0] at R1 B1 ⊢
  clear hw0
  have b0 : Below w0.heap.size w0 w0 := Below.refl _ _
  refine wpAnyH_take (i := 0) (v := ?_) rfl (by kernel_rfl) (by kernel_rfl) (by kernel_rfl) (fun _ _ _ h => h) (Or.inl ⟨by rfl, ?_⟩) b0 ?_
  rotate_left 1
  · intro u hu
    go_simp
    first | done | with_reducible rfl
  go_simp
  refine wpAnyH_take (i := 1) (v := .int .i64 2) rfl (by kernel_rfl) (by kernel_rfl) (by kernel_rfl) (fun _ _ _ h => h) (Or.inl ⟨by rfl, ?_⟩) b0 ?_
  · intro u hu
    have q := (hdr_cells (HVS.out ▸ (R1.out.below hu))).2.1
    go_simp
  go_simp
  refine wpAnyH_take (i := 2) (v := .int .i64 32) rfl (by kernel_rfl) (by kernel_rfl) (by kernel_rfl) (fun _ _ _ h => h) (Or.inl ⟨by rfl, ?_⟩) b0 ?_
  · intro u hu
    have q : IntKind.i64.wrap 32 = 32 := rfl
    go_simp
  go_simp
  refine wpAnyH_take (i := 3) (v := .int .i64 224) rfl (by kernel_rfl) (by kernel_rfl) (by kernel_rfl) (fun _ _ _ h => h) (Or.inl ⟨by rfl, ?_⟩) b0 ?_
  · intro u hu
    go_simp
  go_simp
  refine wpAnyH_pickG 4 (.agg vs.toArray) rfl (by kernel_rfl) (by kernel_rfl) (by kernel_rfl) (by rfl) (fun _ _ _ h => h) (fun u hu => exec_load_mid u 26 (.tmp 2) rfl w.heap.size 0 (by with_unfolding_all rfl) vs _ (range_row (R1.out.below hu)) Try.underlying26 rfl HSZ.out) b0 ?_
  go_simp
  refine wpAnyH_oneG 5 (by kernel_rfl) rfl (by rfl) ?_
  go_wp2_with fail
  (with_reducible refine (HMK.out _).mono ?_)
  rintro e5 w5 ⟨rfl, b5⟩
  have hS := b5
  have R5 := Lib.hid (R1.out.below b5)
  have B5 := Lib.hid (B1.out.trans (b5.mono B1.out.size))
  refine ⟨b5, ?_⟩
  go_simp
  refine wpAnyH_take (i := 6) (v := .int .i64 (F : Int)) rfl (by kernel_rfl) (by kernel_rfl) (by kernel_rfl) (fun _ _ _ h => h) (Or.inl ⟨by rfl, ?_⟩) hS ?_
  · intro u hu
    go_simp
  go_simp
  refine wpAnyH_take (i := 7) (v := ?_) rfl (by kernel_rfl) (by kernel_rfl) (by kernel_rfl) (fun _ _ _ h => h) (Or.inl ⟨by rfl, ?_⟩) hS ?_
  rotate_left 1
  · intro u hu
    go_simp
    first | done | with_reducible rfl
  go_simp
  refine wpAnyH_done (by kernel_rfl) ?_ _
  clear hS b5 b0
  obtain ⟨k0, k1, k2, k3, k4, k5, k6, k7, k8, k9⟩ := hdr_cells (HVS.out ▸ R5.out)
  have j2 := fun o => (hdr_cells (HVS.out ▸ (R5.out.alloc o))).2.2.1
  go_wp2_with fail
  have O6 : Hid (Own (w5.alloc (.cells #[.int .u8 (F : Int)] 5)) (w.heap.size + 1) (.slice (some ⟨w5.heap.size, 0, none⟩) 1 1) 1 [UInt8.ofNat F]) := Blk.own (show Blk _ _ _ [UInt8.ofNat F] by rw [Blk, heap_alloc_new]; exact congrArg some (by rw [byte_small F hFb]; rfl)) rfl R5.out.lt (by simp [maxLen])
  (with_reducible refine (putWhole_is 4 4 rfl _ _ 1 1 (w.heap.size + 1) ver _ O6.out ?hb (Nat.le_refl _) (by simp [maxLen]) (by omega) (by omega) (by omega)).mono ?_)
  case hb => have := R5.out.lt; simp; omega
  rintro e6 w6 ⟨A6, d6, rfl, ho, hle, hc, hb⟩
  have R6 := Lib.hid ((R5.out.alloc (.cells #[.int .u8 (F : Int)] 5)).belowB hb (by omega))
  have B6 := Lib.hid ((B5.out.alloc B5.out.size (.cells #[.int .u8 (F : Int)] 5)).trans (hb.mono (by omega)))
  have O6 := Lib.hid ho
  have C6 : Hid (_ ∧ _) := ⟨hle, hc⟩
  clear ho hle hc hb
  obtain ⟨k0, k1, k2, k3, k4, k5, k6, k7, k8, k9⟩ := hdr_cells (HVS.out ▸ R6.out)
  go_wp2_with (first | (at_builtin; (refine wpList_append_bytes rfl _ _ rfl (w.heap.size + 1) (.slice A6 (1 + 4) d6) (1 + 4) _ rfl (O6.out.alloc _) _ _ 1 1 [UInt8.ofNat dst.length] rfl (sl_one _ _ _ ?hV) (by have := HLN.out; omega) ?hB w6 ?hb ?_); (case hV => rw [HD8.out]; rfl); (case hB => have := R6.out.lt; simp; omega); (case hb => exact (Below.refl _ _).alloc R6.out.lt _); intro A7 d7 w7 ho hle hc hg hb; have R7 := Lib.hid (R6.out.belowB hb (by omega)); have B7 := Lib.hid (B6.out.trans (hb.mono (by omega))); have O7 := Lib.hid ho; have C7 : Hid (_ ∧ _) := ⟨hle, hc⟩; clear ho hle hc hb hg; obtain ⟨k0, k1, k2, k3, k4, k5, k6, k7, k8, k9⟩ := hdr_cells (HVS.out ▸ R7.out)) | (at_builtin; (refine wpList_append_bytes rfl _ _ rfl (w.heap.size + 1) (.slice A7 (1 + 4 + 1) d7) (1 + 4 + 1) _ rfl O7.out B A1 8 c1 dst rfl (HS1.out _ B7.out).1 (by have := HLN.out; omega) ?hB w7 (Below.refl _ _) ?_); (case hB => exact R7.out.lt); intro A8 d8 w8 ho hle hc hg hb; have R8 := Lib.hid (R7.out.belowB hb (by omega)); have B8 := Lib.hid (B7.out.trans (hb.mono (by omega))); have O8 := Lib.hid ho; have C8 : Hid (_ ∧ _) := ⟨hle, hc⟩; clear ho hle hc hb hg; obtain ⟨k0, k1, k2, k3, k4, k5, k6, k7, k8, k9⟩ := hdr_cells (HVS.out ▸ R8.out)) | (at_builtin; (refine wpList_append_bytes rfl _ _ rfl (w.heap.size + 1) (.slice A8 (1 + 4 + 1 + 8) d8) (1 + 4 + 1 + 8) _ rfl (O8.out.alloc _) _ _ 1 1 [UInt8.ofNat src.length] rfl (sl_one _ _ _ ?hV) (by have := HLN.out; omega) ?hB w8 ?hb ?_); (case hV => rw [HSL.out]; exact small_bv n2 (by have := HLN.out; omega) _ (by first | rfl | (simp; omega))); (case hB => have := R8.out.lt; simp; omega); (case hb => exact (Below.refl _ _).alloc R8.out.lt _); intro A9 d9 w9 ho hle hc hg hb; have R9 := Lib.hid (R8.out.belowB hb (by omega)); have B9 := Lib.hid (B8.out.trans (hb.mono (by omega))); have O9 := Lib.hid ho; have C9 : Hid (_ ∧ _) := ⟨hle, hc⟩; clear ho hle hc hb hg; obtain ⟨k0, k1, k2, k3, k4, k5, k6, k7, k8, k9⟩ := hdr_cells (HVS.out ▸ R9.out)) | (at_builtin; (refine wpList_append_bytes rfl _ _ rfl (w.heap.size + 1) (.slice A9 (1 + 4 + 1 + 8 + 1) d9) (1 + 4 + 1 + 8 + 1) _ rfl O9.out B A2 n2 c2 src rfl (HS1.out _ B9.out).2.1 (by have := HLN.out; omega) ?hB w9 (Below.refl _ _) ?_); (case hB => exact R9.out.lt); intro A10 d10 w10 ho hle hc hg hb; have R10 := Lib.hid (R9.out.belowB hb (by omega)); have B10 := Lib.hid (B9.out.trans (hb.mono (by omega))); have O10 := Lib.hid ho; have C10 : Hid (_ ∧ _) := ⟨hle, hc⟩; clear ho hle hc hb hg; obtain ⟨k0, k1, k2, k3, k4, k5, k6, k7, k8, k9⟩ := hdr_cells (HVS.out ▸ R10.out)))
  (with_reducible refine (putWhole_is 2 2 rfl _ A10 (1 + 4 + 1 + 8 + 1 + n2) d10 (w.heap.size + 1) T w10 O10.out (Nat.succ_le_of_lt R10.out.lt) C10.out.1 C10.out.2 (by have := HLN.out; omega) (by omega) (by have := HNL.out; omega)).mono ?_)
  rintro e11 w11 ⟨A11, d11, rfl, ho, hle, hc, hb⟩
  have R11 := Lib.hid (R10.out.belowB hb (by omega))
  have B11 := Lib.hid (B10.out.trans (hb.mono (by omega)))
  have O11 := Lib.hid ho
  have C11 : Hid (_ ∧ _) := ⟨hle, hc⟩
  clear ho hle hc hb
  obtain ⟨k0, k1, k2, k3, k4, k5, k6, k7, k8, k9⟩ := hdr_cells (HVS.out ▸ R11.out)
  go_wp2_with fail
  (with_reducible refine (putWhole_is (nl : Int) nl rfl _ A11 (1 + 4 + 1 + 8 + 1 + n2 + 2) d11 (w.heap.size + 1) num w11 O11.out (Nat.succ_le_of_lt R11.out.lt) C11.out.1 C11.out.2 (by have := HLN.out; omega) hnum (by have := HNL.out; omega)).mono ?_)
  rintro e12 w12 ⟨A12, d12, rfl, ho, hle, hc, hb⟩
  have R12 := Lib.hid (R11.out.belowB hb (by omega))
  have B12 := Lib.hid (B11.out.trans (hb.mono (by omega)))
  have O12 := Lib.hid ho
  have C12 : Hid (_ ∧ _) := ⟨hle, hc⟩
  clear ho hle hc hb
  obtain ⟨k0, k1, k2, k3, k4, k5, k6, k7, k8, k9⟩ := hdr_cells (HVS.out ▸ R12.out)
  go_wp2_with fail
  go_ret
  rw [← HX.out, ← HN0.out]
  exact ⟨A12, d12, rfl, O12.out.base (by omega), C12.out.1, C12.out.2, B12.out⟩
set_option maxRecDepth 4000 in
set_option maxHeartbeats 8000000 in
theorem putLong0_any (ver nl num rest : Nat) (hv : ver < 4294967296) (hnl : 1 ≤ nl ∧ nl ≤ 4) (hnum : num < 18446744073709551616) (hrest : rest + nl ≤ 16383) (S P : Bool) (dst src tok : List UInt8) (A1 : Option Addr) (c1 : Nat) (A2 : Option Addr) (n2 c2 : Nat) (A3 : Option Addr) (n3 c3 B : Nat) (w : World) (hs1 : Sl w B A1 8 dst) (hs2 : Sl w B A2 n2 src) (hs3 : Sl w B A3 n3 tok) (hB : B ≤ w.heap.size) (hn2 : n2 ≤ 20) (hn3 : n3 ≤ 100) :
    Calls Try.prog 25 #[.agg (hdrV true 0 ver A1 8 c1 A2 n2 c2 A3 n3 c3 S P num nl).toArray, .int .i64 (rest : Int)] w (MakesBytes w (1 + 4 + 1 + 8 + 1 + n2 + lenV n3 + n3 + 2 + nl) (putLV 0 ver nl num rest dst src tok)) := by
  obtain ⟨z, hz⟩ : ∃ z, nl - 1 = z := ⟨_, rfl⟩
  have hz4 : z < 4 := by omega
  have HMK := Lib.hid (fun u => numLenMark_any true 0 ver A1 8 c1 A2 n2 c2 A3 n3 c3 S P num nl hnl z hz u)
  obtain ⟨_, _, _, _, h192, h224⟩ := or_first_at z hz4
  obtain ⟨F, hF⟩ : ∃ F, 192 + z = F := ⟨_, rfl⟩
  have hFb : F < 256 := by omega
  have o1 : bits .or .i64 192 0 = 192 := or_i64 192 0 (by omega) (by omega) 192 0 rfl rfl 192 (by decide)
  have o2 : bits .or .i64 192 (z : Int) = (F : Int) := or_i64 192 z (by omega) (by omega) 192 (z : Int) rfl rfl F (by omega)
  obtain ⟨T, hT⟩ : ∃ T, 16384 + (rest + nl) = T := ⟨_, rfl⟩
  obtain ⟨M, hM⟩ : ∃ M, rest + nl = M := ⟨_, rfl⟩
  have hMi : (rest : Int) + (nl : Int) = (M : Int) := by omega
  have o3 : bits .or .i64 16384 (M : Int) = (T : Int) := or_i64 16384 M (by omega) (by omega) 16384 (M : Int) rfl rfl T (by rw [nat_join 14 16384 M (by decide) (by omega)]; omega)
  have hT16 : T < 65536 := by omega
  have HF : Hid (UInt8.ofNat (192 + 16 * 0 + (nl - 1)) = UInt8.ofNat F) := show _ = _ by rw [hz]; exact congrArg UInt8.ofNat (by omega)
  have e : putLV 0 ver nl num rest dst src tok = ([UInt8.ofNat F] ++ lowB ver 4 ++ [UInt8.ofNat dst.length] ++ dst ++ [UInt8.ofNat src.length] ++ src ++ enc tok.length ++ tok) ++ lowB T 2 ++ lowB num nl := by unfold putLV; rw [if_pos rfl, HF.out, hT]
  rw [e]
  obtain ⟨X, hX⟩ : ∃ X, ([UInt8.ofNat F] ++ lowB ver 4 ++ [UInt8.ofNat dst.length] ++ dst ++ [UInt8.ofNat src.length] ++ src ++ enc tok.length ++ tok) ++ lowB T 2 ++ lowB num nl = X := ⟨_, rfl⟩
  obtain ⟨N0, hN0⟩ : ∃ N0, 1 + 4 + 1 + 8 + 1 + n2 + lenV n3 + n3 + 2 + nl = N0 := ⟨_, rfl⟩
  rw [hX, hN0]
  have HX := Lib.hid hX
  have HN0 := Lib.hid hN0
  have HS1 : Hid (∀ u : World, Below w.heap.size w u → Sl u B A1 8 dst ∧ Sl u B A2 n2 src ∧ Sl u B A3 n3 tok) := fun u hu => ⟨hs1.below (hu.mono hB), hs2.below (hu.mono hB), hs3.below (hu.mono hB)⟩
  have HBW := Lib.hid hB
  have hdl : dst.length = 8 := hs1.1
  have hsl : src.length = n2 := hs2.1
  have htl : tok.length = n3 := hs3.1
  have HD8 := Lib.hid hdl
  have HSL := Lib.hid hsl
  have HTL := Lib.hid htl
  obtain ⟨vs, hvs⟩ : ∃ vs, hdrV true 0 ver A1 8 c1 A2 n2 c2 A3 n3 c3 S P num nl = vs := ⟨_, rfl⟩
  have HVS := Lib.hid hvs
  have HSZ : Hid ((Try.prog.info? 26).map (·.size) = some vs.length) := show _ = _ by rw [← hvs]; exact hdr_size
  rw [hvs] at HMK
  have HNL := Lib.hid hnl
  have hl3 : lenV n3 ≤ 8 := by have := cls_cases n3; omega
  clear hs1 hs2 hs3 hB e hz hvs hX hN0 h192 h224 hF hT hdl hsl htl hM
  have HLN : Hid (n2 ≤ 20 ∧ n3 ≤ 100) := ⟨hn2, hn3⟩
  unfold hdrV
  go_enter Try.func25, Try.ntmps25
  go_upto_region 1 with fail
  refine wp_forget (fun w1 => Rw w1 w.heap.size 26 vs ∧ Below w.heap.size w w1) ⟨by rw [← HVS.out]; exact heap_alloc_new w _, (Below.refl _ _).alloc (Nat.le_refl _) _⟩ ?_
  intro w1 ⟨h1, h2⟩
  have R1 := Lib.hid h1
  have B1 := Lib.hid h2
  clear h1 h2
  refine wp_held (S := fun u => Below w1.drew.heap.size w1.drew u) (by kernel_rfl) ?_
  replace R1 := Lib.hid R1.out.drew
  replace B1 := Lib.hid B1.out.drew
  obtain ⟨w0, hw0⟩ : ∃ x, w1.drew = x := ⟨_, rfl⟩
  rw [hw0] at R1 B1 ⊢
  clear hw0
  have b0 : Below w0.heap.size w0 w0 := Below.refl _ _
  refine wpAnyH_take (i := 0) (v := ?_) rfl (by kernel_rfl) (by kernel_rfl) (by kernel_rfl) (fun _ _ _ h => h) (Or.inl ⟨by rfl, ?_⟩) b0 ?_
  rotate_left 1
  · intro u hu
    go_simp
    first | done | with_reducible rfl
  go_simp
  refine wpAnyH_take (i := 1) (v := .int .i64 0) rfl (by kernel_rfl) (by kernel_rfl) (by kernel_rfl) (fun _ _ _ h => h) (Or.inl ⟨by rfl, ?_⟩) b0 ?_
  · intro u hu
    have q := (hdr_cells (HVS.out ▸ (R1.out.below hu))).2.1
    go_simp
  go_simp
  refine wpAnyH_take (i := 2) (v := .int .i64 0) rfl (by kernel_rfl) (by kernel_rfl) (by kernel_rfl) (fun _ _ _ h => h) (Or.inl ⟨by rfl, ?_⟩) b0 ?_
  · intro u hu
    have q : IntKind.i64.wrap 0 = 0 := rfl
    go_simp
  go_simp
  refine wpAnyH_take (i := 3) (v := .int .i64 192) rfl (by kernel_rfl) (by kernel_rfl) (by kernel_rfl) (fun _ _ _ h => h) (Or.inl ⟨by rfl, ?_⟩) b0 ?_
  · intro u hu
    go_simp
  go_simp
  refine wpAnyH_pickG 4 (.agg vs.toArray) rfl (by kernel_rfl) (by kernel_rfl) (by kernel_rfl) (by rfl) (fun _ _ _ h => h) (fun u hu => exec_load_mid u 26 (.tmp 2) rfl w.heap.size 0 (by with_unfolding_all rfl) vs _ (range_row (R1.out.below hu)) Try.underlying26 rfl HSZ.out) b0 ?_
  go_simp
  refine wpAnyH_oneG 5 (by kernel_rfl) rfl (by rfl) ?_
  go_wp2_with fail
  (with_reducible refine (HMK.out _).mono ?_)
  rintro e5 w5 ⟨rfl, b5⟩
  have hS := b5
  have R5 := Lib.hid (R1.out.below b5)
  have B5 := Lib.hid (B1.out.trans (b5.mono B1.out.size))
  refine ⟨b5, ?_⟩
  go_simp
  refine wpAnyH_take (i := 6) (v := .int .i64 (F : Int)) rfl (by kernel_rfl) (by kernel_rfl) (by kernel_rfl) (fun _ _ _ h => h) (Or.inl ⟨by rfl, ?_⟩) hS ?_
  · intro u hu
    go_simp
  go_simp
  refine wpAnyH_take (i := 7) (v := ?_) rfl (by kernel_rfl) (by kernel_rfl) (by kernel_rfl) (fun _ _ _ h => h) (Or.inl ⟨by rfl, ?_⟩) hS ?_
  rotate_left 1
  · intro u hu
    go_simp
    first | done | with_reducible rfl
  go_simp
  refine wpAnyH_done (by kernel_rfl) ?_ _
  clear hS b5 b0
  obtain ⟨k0, k1, k2, k3, k4, k5, k6, k7, k8, k9⟩ := hdr_cells (HVS.out ▸ R5.out)
  have j2 := fun o => (hdr_cells (HVS.out ▸ (R5.out.alloc o))).2.2.1
  go_wp2_with fail
  have O6 : Hid (Own (w5.alloc (.cells #[.int .u8 (F : Int)] 5)) (w.heap.size + 1) (.slice (some ⟨w5.heap.size, 0, none⟩) 1 1) 1 [UInt8.ofNat F]) := Blk.own (show Blk _ _ _ [UInt8.ofNat F] by rw [Blk, heap_alloc_new]; exact congrArg some (by rw [byte_small F hFb]; rfl)) rfl R5.out.lt (by simp [maxLen])
  (with_reducible refine (putWhole_is 4 4 rfl _ _ 1 1 (w.heap.size + 1) ver _ O6.out ?hb (Nat.le_refl _) (by simp [maxLen]) (by omega) (by omega) (by omega)).mono ?_)
  case hb => have := R5.out.lt; simp; omega
  rintro e6 w6 ⟨A6, d6, rfl, ho, hle, hc, hb⟩
  have R6 := Lib.hid ((R5.out.alloc (.cells #[.int .u8 (F : Int)] 5)).belowB hb (by omega))
  have B6 := Lib.hid ((B5.out.alloc B5.out.size (.cells #[.int .u8 (F : Int)] 5)).trans (hb.mono (by omega)))
  have O6 := Lib.hid ho
  have C6 : Hid (_ ∧ _) := ⟨hle, hc⟩
  clear ho hle hc hb
  obtain ⟨k0, k1, k2, k3, k4, k5, k6, k7, k8, k9⟩ := hdr_cells (HVS.out ▸ R6.out)
  go_wp2_with (first | (at_builtin; (refine wpList_append_bytes rfl _ _ rfl (w.heap.size + 1) (.slice A6 (1 + 4) d6) (1 + 4) _ rfl (O6.out.alloc _) _ _ 1 1 [UInt8.ofNat dst.length] rfl (sl_one _ _ _ ?hV) (by have := HLN.out; omega) ?hB w6 ?hb ?_); (case hV => rw [HD8.out]; rfl); (case hB => have := R6.out.lt; simp; omega); (case hb => exact (Below.refl _ _).alloc R6.out.lt _); intro A7 d7 w7 ho hle hc hg hb; have R7 := Lib.hid (R6.out.belowB hb (by omega)); have B7 := Lib.hid (B6.out.trans (hb.mono (by omega))); have O7 := Lib.hid ho; have C7 : Hid (_ ∧ _) := ⟨hle, hc⟩; clear ho hle hc hb hg; obtain ⟨k0, k1, k2, k3, k4, k5, k6, k7, k8, k9⟩ := hdr_cells (HVS.out ▸ R7.out)) | (at_builtin; (refine wpList_append_bytes rfl _ _ rfl (w.heap.size + 1) (.slice A7 (1 + 4 + 1) d7) (1 + 4 + 1) _ rfl O7.out B A1 8 c1 dst rfl (HS1.out _ B7.out).1 (by have := HLN.out; omega) ?hB w7 (Below.refl _ _) ?_); (case hB => exact R7.out.lt); intro A8 d8 w8 ho hle hc hg hb; have R8 := Lib.hid (R7.out.belowB hb (by omega)); have B8 := Lib.hid (B7.out.trans (hb.mono (by omega))); have O8 := Lib.hid ho; have C8 : Hid (_ ∧ _) := ⟨hle, hc⟩; clear ho hle hc hb hg; obtain ⟨k0, k1, k2, k3, k4, k5, k6, k7, k8, k9⟩ := hdr_cells (HVS.out ▸ R8.out)) | (at_builtin; (refine wpList_append_bytes rfl _ _ rfl (w.heap.size + 1) (.slice A8 (1 + 4 + 1 + 8) d8) (1 + 4 + 1 + 8) _ rfl (O8.out.alloc _) _ _ 1 1 [UInt8.ofNat src.length] rfl (sl_one _ _ _ ?hV) (by have := HLN.out; omega) ?hB w8 ?hb ?_); (case hV => rw [HSL.out]; exact small_bv n2 (by have := HLN.out; omega) _ (by first | rfl | (simp; omega))); (case hB => have := R8.out.lt; simp; omega); (case hb => exact (Below.refl _ _).alloc R8.out.lt _); intro A9 d9 w9 ho hle hc hg hb; have R9 := Lib.hid (R8.out.belowB hb (by omega)); have B9 := Lib.hid (B8.out.trans (hb.mono (by omega))); have O9 := Lib.hid ho; have C9 : Hid (_ ∧ _) := ⟨hle, hc⟩; clear ho hle hc hb hg; obtain ⟨k0, k1, k2, k3, k4, k5, k6, k7, k8, k9⟩ := hdr_cells (HVS.out ▸ R9.out)) | (at_builtin; (refine wpList_append_bytes rfl _ _ rfl (w.heap.size + 1) (.slice A9 (1 + 4 + 1 + 8 + 1) d9) (1 + 4 + 1 + 8 + 1) _ rfl O9.out B A2 n2 c2 src rfl (HS1.out _ B9.out).2.1 (by have := HLN.out; omega) ?hB w9 (Below.refl _ _) ?_); (case hB => exact R9.out.lt); intro A10 d10 w10 ho hle hc hg hb; have R10 := Lib.hid (R9.out.belowB hb (by omega)); have B10 := Lib.hid (B9.out.trans (hb.mono (by omega))); have O10 := Lib.hid ho; have C10 : Hid (_ ∧ _) := ⟨hle, hc⟩; clear ho hle hc hb hg; obtain ⟨k0, k1, k2, k3, k4, k5, k6, k7, k8, k9⟩ := hdr_cells (HVS.out ▸ R10.out)))
  (with_reducible refine (put_any _ A10 (1 + 4 + 1 + 8 + 1 + n2) d10 w10.heap.size n3 w10 O10.out.sl (Nat.le_refl _) (by have := HLN.out; omega) (by have := HLN.out; omega)).mono ?_)
  rintro e11 w11 ⟨A11, d11, rfl, ho, hle, hc, hb⟩
  have R11 := Lib.hid (R10.out.below hb)
  have B11 := Lib.hid (B10.out.trans (hb.mono B10.out.size))
  have O11 := Lib.hid (ho.base (show w.heap.size + 1 ≤ w10.heap.size from R10.out.lt))
  have C11 : Hid (_ ∧ _) := ⟨hle, hc⟩
  clear ho hle hc hb
  obtain ⟨k0, k1, k2, k3, k4, k5, k6, k7, k8, k9⟩ := hdr_cells (HVS.out ▸ R11.out)
  go_wp2_with (first | (at_builtin; (refine wpList_append_bytes rfl _ _ rfl (w.heap.size + 1) (.slice A11 (1 + 4 + 1 + 8 + 1 + n2 + lenV n3) d11) (1 + 4 + 1 + 8 + 1 + n2 + lenV n3) _ rfl O11.out B A3 n3 c3 tok rfl (HS1.out _ B11.out).2.2 (by have := HLN.out; omega) ?hB w11 (Below.refl _ _) ?_); (case hB => exact R11.out.lt); intro A12 d12 w12 ho hle hc hg hb; have R12 := Lib.hid (R11.out.belowB hb (by omega)); have B12 := Lib.hid (B11.out.trans (hb.mono (by omega))); have O12 := Lib.hid ho; have C12 : Hid (_ ∧ _) := ⟨hle, hc⟩; clear ho hle hc hb hg; obtain ⟨k0, k1, k2, k3, k4, k5, k6, k7, k8, k9⟩ := hdr_cells (HVS.out ▸ R12.out)))
  (with_reducible refine (putWhole_is 2 2 rfl _ A12 (1 + 4 + 1 + 8 + 1 + n2 + lenV n3 + n3) d12 (w.heap.size + 1) T w12 O12.out (Nat.succ_le_of_lt R12.out.lt) C12.out.1 C12.out.2 (by have := HLN.out; omega) (by omega) (by have := HNL.out; omega)).mono ?_)
  rintro e13 w13 ⟨A13, d13, rfl, ho, hle, hc, hb⟩
  have R13 := Lib.hid (R12.out.belowB hb (by omega))
  have B13 := Lib.hid (B12.out.trans (hb.mono (by omega)))
  have O13 := Lib.hid ho
  have C13 : Hid (_ ∧ _) := ⟨hle, hc⟩
  clear ho hle hc hb
  obtain ⟨k0, k1, k2, k3, k4, k5, k6, k7, k8, k9⟩ := hdr_cells (HVS.out ▸ R13.out)
  go_wp2_with fail
  (with_reducible refine (putWhole_is (nl : Int) nl rfl _ A13 (1 + 4 + 1 + 8 + 1 + n2 + lenV n3 + n3 + 2) d13 (w.heap.size + 1) num w13 O13.out (Nat.succ_le_of_lt R13.out.lt) C13.out.1 C13.out.2 (by have := HLN.out; omega) hnum (by have := HNL.out; omega)).mono ?_)
  rintro e14 w14 ⟨A14, d14, rfl, ho, hle, hc, hb⟩
  have R14 := Lib.hid (R13.out.belowB hb (by omega))
  have B14 := Lib.hid (B13.out.trans (hb.mono (by omega)))
  have O14 := Lib.hid ho
  have C14 : Hid (_ ∧ _) := ⟨hle, hc⟩
  clear ho hle hc hb
  obtain ⟨k0, k1, k2, k3, k4, k5, k6, k7, k8, k9⟩ := hdr_cells (HVS.out ▸ R14.out)
  go_wp2_with fail
  go_ret
  rw [← HX.out, ← HN0.out]
  have hO := O14.out.base (show w.heap.size ≤ w.heap.size + 1 by omega)
  skip
  exact ⟨A14, d14, rfl, by simpa only [HTL.out] using hO, C14.out.1, C14.out.2, B14.out⟩
end Go.Proofs.Ytonoljcgcfjkmaa
