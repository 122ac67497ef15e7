/-
  The document's own laying of a header: the contract of its Put.
-/
import Derived.Test.YtonoljcgcfjkmaaHdO
import Derived.Test.YtonoljcgcfjkmaaAppW
import Derived.Test.YtonoljcgcfjkmaaBlkW
namespace Go.Proofs.Ytonoljcgcfjkmaa
open Go.RowKit
set_option linter.unusedVariables false

theorem in_two (l : List UInt8) (A : Option Addr) (n c B v : Nat) (w : World) (h : Sl w B A n l) (hB : B ≤ w.heap.size) (hm : n ≤ 35184372088832) (hv : v < 4611686018427387904) :
    Calls Try.prog 28 #[.slice A n c, .int .u64 (v : Int), .int .i64 2] w (MakesBytes w (n + 2) (l ++ encV v 1)) :=
  in_some l A n c B v 1 2 w h hB hm hv (.inr (.inl ⟨rfl, rfl⟩))
theorem bit5_any (S : Bool) (w : World) : Calls Try.prog 29 #[.bool S, .int .i64 5] w fun e w' => e = .returned (.int .u8 ((if S = true then 32 else 0 : Nat) : Int)) ∧ w = w' := by
  cases S
  all_goals
    go_enter Try.func29, Try.ntmps29
    go_wp2
    go_ret
    exact ⟨rfl, rfl⟩
theorem bit2_any (S : Bool) (w : World) : Calls Try.prog 29 #[.bool S, .int .i64 2] w fun e w' => e = .returned (.int .u8 ((if S = true then 4 else 0 : Nat) : Int)) ∧ w = w' := by
  cases S
  all_goals
    go_enter Try.func29, Try.ntmps29
    go_wp2
    go_ret
    exact ⟨rfl, rfl⟩
theorem or_u8 (a b V : Nat) (ha : a < 256) (hb : b < 256) (X Y : Int) (hX : X = (a : Int)) (hY : Y = (b : Int)) (hV : a ||| b = V) : bits .or .u8 X Y = (V : Int) := by
  subst hX hY
  rw [u8_or_nat a b ha hb, hV]
/-- a slice of one byte, of the call's own -/
theorem wp_byte_own {o : Oper} {a : Act} {w : World} {K : Act → World → Prop} {Q : Exit → Act → World → Prop} (x : Operand) (ho : o.op = .buildSlice 23 1 #[(0, x)])
    (b : UInt8) (hx : a.eval x = .int .u8 (bn b))
    (h : ∀ g w', Hid (g = w.heap.size) → Hid (Own w' g (.slice (some ⟨g, 0, none⟩) 1 1) 1 [b]) → Hid (Below w.heap.size w w') → K (a.put o.dst (.slice (some ⟨g, 0, none⟩) 1 1)) w') : o.wp Try.prog a w K Q := by
  have h1 := h w.heap.size (w.alloc (.cells #[.int .u8 (bn b)] 5)) rfl (Blk.own (show Blk _ _ _ [b] by rw [Blk, heap_alloc_new]; rfl) rfl (Nat.le_refl _) (by simp [maxLen])) ((Below.refl _ _).alloc (Nat.le_refl _) _)
  have hp : (#[(0, x)].map fun (i, x) => (i, a.eval x)) = #[(0, Value.int .u8 (bn b))] := by simp [hx]
  unfold Oper.wp execOp
  simp only [ho, hp]
  clear h hp hx
  go_simp
  exact h1
theorem byte_at_mod (L j : Nat) : Value.int .u8 ((L : Int) / 2 ^ (8 * j) % 256) = bv (UInt8.ofNat (L / 256 ^ j)) := by
  have h := byte_at L j
  rwa [IntKind.wrap_u8'] at h
theorem bn_small (D : Nat) (h : D < 256) : bn (UInt8.ofNat D) = (D : Int) := by
  have : D % 256 = D := Nat.mod_eq_of_lt h
  simp [bn]
  omega
/-- the bytes of a version -/
theorem ver_bytes (V : Nat) (hV : V < 4294967296) : ∃ x3 x2 x1 x0 : Nat, x3 < 256 ∧ x2 < 256 ∧ x1 < 256 ∧ x0 < 256 ∧ IntKind.u8.wrap ((V : Int) / 16777216) = (x3 : Int) ∧ IntKind.u8.wrap ((V : Int) / 65536) = (x2 : Int) ∧ IntKind.u8.wrap ((V : Int) / 256) = (x1 : Int) ∧ IntKind.u8.wrap (V : Int) = (x0 : Int) ∧
    lowB V 4 = [UInt8.ofNat x3, UInt8.ofNat x2, UInt8.ofNat x1, UInt8.ofNat x0] := by
  have hw : ∀ m : Nat, IntKind.u8.wrap (m : Int) = ((m % 256 : Nat) : Int) := fun m => by rw [IntKind.wrap_u8']; omega
  have hb : ∀ m : Nat, UInt8.ofNat m = UInt8.ofNat (m % 256) := fun m => by apply UInt8.toNat.inj; simp
  refine ⟨V / 16777216 % 256, V / 65536 % 256, V / 256 % 256, V % 256, by omega, by omega, by omega, by omega, ?_, ?_, ?_, ?_, ?_⟩
  · rw [show (V : Int) / 16777216 = ((V / 16777216 : Nat) : Int) by omega]; exact hw _
  · rw [show (V : Int) / 65536 = ((V / 65536 : Nat) : Int) by omega]; exact hw _
  · rw [show (V : Int) / 256 = ((V / 256 : Nat) : Int) by omega]; exact hw _
  · exact hw V
  · simp only [lowB]
    rw [hb (V / 256 ^ 3), hb (V / 256 ^ 2), hb (V / 256 ^ 1), hb (V / 256 ^ 0)]
    simp

set_option maxRecDepth 4000 in
set_option maxHeartbeats 8000000 in
theorem rputShort_any (ver nl num rest : Nat) (hv : ver < 4294967296) (hnl : 1 ≤ nl ∧ nl ≤ 4) (hnum : num < 18446744073709551616) (hrest : rest + nl ≤ 16383) (S P : Bool) (dst src tok : List UInt8) (A1 : Option Addr) (c1 : Nat) (A2 : Option Addr) (n2 c2 : Nat) (A3 : Option Addr) (n3 c3 B : Nat) (w : World) (hs1 : Sl w B A1 8 dst) (hs2 : Sl w B A2 n2 src) (hs3 : Sl w B A3 n3 tok) (hB : B ≤ w.heap.size) (hn2 : n2 ≤ 20) (hn3 : n3 ≤ 100) (K : Int) (hMay : MayP false K ver 8 n2 n3 S P num nl) :
    Calls Try.prog 11 #[.agg (hdrV false K ver A1 8 c1 A2 n2 c2 A3 n3 c3 S P num nl).toArray, .int .i64 (rest : Int)] w (Puts w (putSV S P nl num dst, 0)) := by
  obtain ⟨z, hz⟩ : ∃ z, nl - 1 = z := ⟨_, rfl⟩
  have hz4 : z < 4 := by omega
  have ez : (nl : Int) - 1 = (z : Int) := by omega
  have wz : IntKind.u8.wrap (z : Int) = (z : Int) := IntWalk.u8_in _ (by omega)
  have HS1 : Hid (∀ u : World, Below w.heap.size w u → Sl u B A1 8 dst ∧ Sl u B A2 n2 src ∧ Sl u B A3 n3 tok) := fun u hu => ⟨hs1.below (hu.mono hB), hs2.below (hu.mono hB), hs3.below (hu.mono hB)⟩
  have HBW := Lib.hid hB
  have HD8 := Lib.hid hs1.1
  have HSL := Lib.hid hs2.1
  have HTL := Lib.hid hs3.1
  have HLN : Hid (n2 ≤ 20 ∧ n3 ≤ 100) := ⟨hn2, hn3⟩
  have HM := Lib.hid (rmay_any false K ver A1 8 c1 A2 n2 c2 A3 n3 c3 S P num nl)
  rw [decide_eq_true hMay] at HM
  obtain ⟨vs, hvs⟩ : ∃ vs, hdrV false K ver A1 8 c1 A2 n2 c2 A3 n3 c3 S P num nl = vs := ⟨_, rfl⟩
  have HVS := Lib.hid hvs
  have HSZ : Hid ((Try.prog.info? 26).map (·.size) = some vs.length) := show _ = _ by rw [← hvs]; exact hdr_size
  rw [hvs] at HM
  have HNL := Lib.hid hnl
  have HLT := Lib.hid hs1
  have t1 : decide (16383 - (nl : Int) < (rest : Int)) = false := by simp; omega
  have hnl4 : nl ≤ 4 := by omega
  have hr14 : rest ≤ 16383 := by omega
  obtain ⟨h64, h32, h4a, h4b, _, _⟩ := or_first_at z hz4
  obtain ⟨bS, hbS⟩ : ∃ x : Nat, (if S = true then 32 else 0) = x := ⟨_, rfl⟩
  obtain ⟨bP, hbP⟩ : ∃ x : Nat, (if P = true then 4 else 0) = x := ⟨_, rfl⟩
  have HB5 := Lib.hid (bit5_any S)
  have HB2 := Lib.hid (bit2_any P)
  rw [hbS] at HB5
  rw [hbP] at HB2
  obtain ⟨f1, hf1⟩ : ∃ x, 64 + bS = x := ⟨_, rfl⟩
  obtain ⟨f2, hf2⟩ : ∃ x, f1 + bP = x := ⟨_, rfl⟩
  obtain ⟨F, hF⟩ : ∃ x, f2 + z = x := ⟨_, rfl⟩
  have hbS2 : bS = 0 ∨ bS = 32 := by rw [← hbS]; split <;> omega
  have hbP2 : bP = 0 ∨ bP = 4 := by rw [← hbP]; split <;> omega
  have o1 : bits .or .u8 64 (bS : Int) = (f1 : Int) := or_u8 64 bS f1 (by omega) (by omega) 64 (bS : Int) rfl rfl (by rcases hbS2 with rfl | rfl <;> (subst hf1; decide))
  have o2 : bits .or .u8 (f1 : Int) (bP : Int) = (f2 : Int) := or_u8 f1 bP f2 (by omega) (by omega) _ _ rfl rfl (by rcases hbS2 with rfl | rfl <;> rcases hbP2 with rfl | rfl <;> (subst hf1 hf2; decide))
  have o3 : bits .or .u8 (f2 : Int) (z : Int) = (F : Int) := or_u8 f2 z F (by omega) (by omega) _ _ rfl rfl (by
    have h4 : f2 % 4 = 0 := by omega
    rw [nat_join 2 f2 z h4 (by omega)]; exact hF)
  have hFb : F < 256 := by omega
  have HL3 : Hid (lenV n3 ≤ 8) := show _ ≤ _ by have := cls_cases n3; omega
  have HFIN : Hid ([UInt8.ofNat F] ++ dst ++ lowB num nl = putSV S P nl num dst) := show _ = _ by
    unfold putSV
    rw [hz, hbS, hbP, hf1, hf2, hF]
  clear hs1 hs2 hs3 hB hz hvs h64 h32 h4a h4b hF hf1 hf2 hbS hbP hbS2 hbP2 hMay hrest hn2 hn3 hnl
  unfold hdrV
  go_enter Try.func11, Try.ntmps11
  go_upto_region 11 with (first | (go_at_call 15; (with_reducible refine (HM.out _).mono ?_); rintro e1 w1 ⟨rfl, b1⟩; have R1 : Hid (Rw w1 w.heap.size 26 vs) := (show Rw (w.alloc _) _ _ vs by rw [← HVS.out]; exact heap_alloc_new w _).below b1; have B1 : Hid (Below w.heap.size w w1) := ((Below.refl _ _).alloc (Nat.le_refl _) _).trans (b1.mono (by simp)); obtain ⟨k0, k1, k2, k3, k4, k5, k6, k7, k8, k9⟩ := hdr_cells (HVS.out ▸ R1.out); clear b1) | ((with_reducible refine wpList_load_rw rfl 26 (.tmp 2) rfl w.heap.size ?hx 26 vs ?hB _ Try.underlying26 rfl HSZ.out ?_); (case hx => with_unfolding_all rfl); (case hB => rw [← HVS.out]; exact heap_alloc_new w _)))
  have O1 := Lib.hid (Own.nil w1 (w.heap.size + 1))
  refine wp_held (S := fun u => Rw u w.heap.size 26 vs) (by kernel_rfl) ?_
  replace R1 := Lib.hid R1.out.drew
  replace B1 := Lib.hid B1.out.drew
  replace O1 := Lib.hid O1.out.drew
  obtain ⟨w0, hw0⟩ : ∃ x, w1.drew = x := ⟨_, rfl⟩
  rw [hw0] at R1 B1 O1 ⊢
  clear hw0
  have hS := R1.out
  refine wpAnyH_take (i := 0) (v := ?_) rfl (by kernel_rfl) (by kernel_rfl) (by kernel_rfl) (fun _ _ _ h => h) (Or.inl ⟨by rfl, ?_⟩) hS ?_
  rotate_left 1
  · intro u hu
    obtain ⟨q0, q1, q2, q3, q4, q5, q6, q7, q8, q9⟩ := hdr_cells (HVS.out ▸ hu)
    go_simp
    first | done | with_reducible rfl
  go_simp
  refine wpAnyH_take (i := 1) (v := ?_) rfl (by kernel_rfl) (by kernel_rfl) (by kernel_rfl) (fun _ _ _ h => h) (Or.inl ⟨by rfl, ?_⟩) hS ?_
  rotate_left 1
  · intro u hu
    obtain ⟨q0, q1, q2, q3, q4, q5, q6, q7, q8, q9⟩ := hdr_cells (HVS.out ▸ hu)
    go_simp
    first | done | with_reducible rfl
  go_simp
  refine wpAnyH_take (i := 4) (v := ?_) rfl (by kernel_rfl) (by kernel_rfl) (by kernel_rfl) (fun _ _ _ h => h) (Or.inl ⟨by rfl, ?_⟩) hS ?_
  rotate_left 1
  · intro u hu
    obtain ⟨q0, q1, q2, q3, q4, q5, q6, q7, q8, q9⟩ := hdr_cells (HVS.out ▸ hu)
    go_simp
    first | done | with_reducible rfl
  go_simp
  refine wpAnyH_take (i := 5) (v := ?_) rfl (by kernel_rfl) (by kernel_rfl) (by kernel_rfl) (fun _ _ _ h => h) (Or.inl ⟨by rfl, ?_⟩) hS ?_
  rotate_left 1
  · intro u hu
    obtain ⟨q0, q1, q2, q3, q4, q5, q6, q7, q8, q9⟩ := hdr_cells (HVS.out ▸ hu)
    go_simp
    first | done | with_reducible rfl
  go_simp
  refine wpAnyH_take (i := 8) (v := ?_) rfl (by kernel_rfl) (by kernel_rfl) (by kernel_rfl) (fun _ _ _ h => h) (Or.inl ⟨by rfl, ?_⟩) hS ?_
  rotate_left 1
  · intro u hu
    obtain ⟨q0, q1, q2, q3, q4, q5, q6, q7, q8, q9⟩ := hdr_cells (HVS.out ▸ hu)
    go_simp
    first | done | with_reducible rfl
  go_simp
  refine wpAnyH_take (i := 9) (v := ?_) rfl (by kernel_rfl) (by kernel_rfl) (by kernel_rfl) (fun _ _ _ h => h) (Or.inl ⟨by rfl, ?_⟩) hS ?_
  rotate_left 1
  · intro u hu
    obtain ⟨q0, q1, q2, q3, q4, q5, q6, q7, q8, q9⟩ := hdr_cells (HVS.out ▸ hu)
    go_simp
    first | done | with_reducible rfl
  go_simp
  refine wpAnyH_take (i := 10) (v := ?_) rfl (by kernel_rfl) (by kernel_rfl) (by kernel_rfl) (fun _ _ _ h => h) (Or.inl ⟨by rfl, ?_⟩) hS ?_
  rotate_left 1
  · intro u hu
    obtain ⟨q0, q1, q2, q3, q4, q5, q6, q7, q8, q9⟩ := hdr_cells (HVS.out ▸ hu)
    go_simp
    first | done | with_reducible rfl
  go_simp
  refine wpAnyH_take (i := 11) (v := ?_) rfl (by kernel_rfl) (by kernel_rfl) (by kernel_rfl) (fun _ _ _ h => h) (Or.inl ⟨by rfl, ?_⟩) hS ?_
  rotate_left 1
  · intro u hu
    obtain ⟨q0, q1, q2, q3, q4, q5, q6, q7, q8, q9⟩ := hdr_cells (HVS.out ▸ hu)
    go_simp
    first | done | with_reducible rfl
  go_simp
  refine wpAnyH_take (i := 14) (v := ?_) rfl (by kernel_rfl) (by kernel_rfl) (by kernel_rfl) (fun _ _ _ h => h) (Or.inl ⟨by rfl, ?_⟩) hS ?_
  rotate_left 1
  · intro u hu
    obtain ⟨q0, q1, q2, q3, q4, q5, q6, q7, q8, q9⟩ := hdr_cells (HVS.out ▸ hu)
    go_simp
    first | done | with_reducible rfl
  go_simp
  refine wpAnyH_take (i := 15) (v := ?_) rfl (by kernel_rfl) (by kernel_rfl) (by kernel_rfl) (fun _ _ _ h => h) (Or.inl ⟨by rfl, ?_⟩) hS ?_
  rotate_left 1
  · intro u hu
    obtain ⟨q0, q1, q2, q3, q4, q5, q6, q7, q8, q9⟩ := hdr_cells (HVS.out ▸ hu)
    go_simp
    first | done | with_reducible rfl
  go_simp
  refine wpAnyH_oneG 2 (by kernel_rfl) rfl (by rfl) ?_
  go_wp2_with fail
  (with_reducible refine (HB5.out _).mono ?_)
  rintro e w' ⟨rfl, rfl⟩
  refine ⟨hS, ?_⟩
  go_simp
  refine wpAnyH_take (i := 3) (v := ?_) rfl (by kernel_rfl) (by kernel_rfl) (by kernel_rfl) (fun _ _ _ h => h) (Or.inl ⟨by rfl, ?_⟩) hS ?_
  rotate_left 1
  · intro u hu
    obtain ⟨q0, q1, q2, q3, q4, q5, q6, q7, q8, q9⟩ := hdr_cells (HVS.out ▸ hu)
    go_simp
    first | done | with_reducible rfl
  go_simp
  refine wpAnyH_oneG 6 (by kernel_rfl) rfl (by rfl) ?_
  go_wp2_with fail
  (with_reducible refine (HB2.out _).mono ?_)
  rintro e w' ⟨rfl, rfl⟩
  refine ⟨hS, ?_⟩
  go_simp
  refine wpAnyH_take (i := 7) (v := ?_) rfl (by kernel_rfl) (by kernel_rfl) (by kernel_rfl) (fun _ _ _ h => h) (Or.inl ⟨by rfl, ?_⟩) hS ?_
  rotate_left 1
  · intro u hu
    obtain ⟨q0, q1, q2, q3, q4, q5, q6, q7, q8, q9⟩ := hdr_cells (HVS.out ▸ hu)
    go_simp
    first | done | with_reducible rfl
  go_simp
  refine wpAnyH_take (i := 12) (v := ?_) rfl (by kernel_rfl) (by kernel_rfl) (by kernel_rfl) (fun _ _ _ h => h) (Or.inl ⟨by rfl, ?_⟩) hS ?_
  rotate_left 1
  · intro u hu
    obtain ⟨q0, q1, q2, q3, q4, q5, q6, q7, q8, q9⟩ := hdr_cells (HVS.out ▸ hu)
    go_simp
    first | done | with_reducible rfl
  go_simp
  refine wpAnyH_oneG 13 (by kernel_rfl) rfl (by rfl) ?_
  refine wp_byte_own (.tmp 99) rfl (UInt8.ofNat F) (by rw [bn_small F hFb]; with_unfolding_all rfl) ?_
  intro g4 w4 e4 L4 b4
  have R4 := Lib.hid (R1.out.below b4.out)
  have B4 := Lib.hid (B1.out.trans (b4.out.mono B1.out.size))
  have O4 := Lib.hid (L4.out.base (show w.heap.size + 1 ≤ g4 by rw [e4.out]; exact R1.out.lt))
  refine ⟨R4.out, ?_⟩
  go_simp
  refine wpAnyH_oneG 16 (by kernel_rfl) rfl (by rfl) ?_
  refine wp_append_bytes (.tmp 100) (.tmp 102) rfl (w.heap.size + 1) (.slice (some ⟨g4, 0, none⟩) 1 1) 1 _ (by with_unfolding_all rfl) O4.out B A1 8 c1 dst (by with_unfolding_all rfl) (HS1.out _ B4.out).1 (by omega) R4.out.lt ?_
  intro A9 d9 w9 O9 C9 b9
  have R9 := Lib.hid (R4.out.belowB b9.out (by omega))
  have B9 := Lib.hid (B4.out.trans (b9.out.mono (by omega)))
  refine ⟨R9.out, ?_⟩
  go_simp
  have hS9 := R9.out
  refine wpAnyH_take (i := 17) (v := ?_) rfl (by kernel_rfl) (by kernel_rfl) (by kernel_rfl) (fun _ _ _ h => h) (Or.inl ⟨by rfl, ?_⟩) hS9 ?_
  rotate_left 1
  · intro u hu
    obtain ⟨q0, q1, q2, q3, q4, q5, q6, q7, q8, q9⟩ := hdr_cells (HVS.out ▸ hu)
    go_simp
    first | done | with_reducible rfl
  go_simp
  refine wpAnyH_done (by kernel_rfl) ?_ _
  clear hS hS9 b4 b9 k0 k1 k2 k3 k4 k5 k6 k7 k8 k9 L4 e4 O1
  obtain ⟨k0, k1, k2, k3, k4, k5, k6, k7, k8, k9⟩ := hdr_cells (HVS.out ▸ R9.out)
  obtain ⟨l0, hl0⟩ : ∃ x : List UInt8, [UInt8.ofNat F] ++ dst = x := ⟨_, rfl⟩
  have HX := Lib.hid hl0
  have O9 : Hid (Own w9 (w.heap.size + 1) (.slice A9 9 d9) 9 l0) := show Own _ _ _ _ _ by rw [← hl0]; exact O9.out
  have C9 : Hid (9 ≤ d9 ∧ d9 ≤ maxLen) := C9.out
  clear hl0
  go_wp2_with fail
  go_loopw [6, 7] (fun out sh wr => ∃ (j m : Nat) (A' : Option Addr) (c' : Nat) (X : List UInt8), j ≤ nl ∧ m + j ≤ 9 + nl ∧ 9 + nl ≤ m + j ∧ sh = .int .i64 ((j : Int) - 1) ∧ out = .slice A' m c' ∧
      Hid (Own wr (w.heap.size + 1) (.slice A' m c') m (l0 ++ X)) ∧ m ≤ c' ∧ c' ≤ maxLen ∧ Hid (X ++ lowB num j = lowB num nl) ∧ Hid (Below w.heap.size w wr) ∧ Hid (Rw wr w.heap.size 26 vs)) (fun _ sh _ => (intOf sh + 1).toNat)
  case atStart => exact ⟨nl, 9, A9, d9, [], by omega, by omega, by omega, by rw [← ez], rfl, (by simpa using O9.out : Own _ _ _ _ _), C9.out.1, C9.out.2, rfl, B9.out, R9.out⟩
  case round =>
    obtain ⟨j, m, A', c', X, hj, hmj, hmj', rfl, rfl, HO, hmc, hcm, HXX, hbr, HRr⟩ := hrel
    rcases Nat.eq_zero_or_pos j with rfl | hpos
    · go_wp2
      go_ret2
      obtain rfl : m = 9 + nl := by omega
      have hX : X = lowB num nl := by
        have h := HXX.out
        simpa [lowB] using h
      subst hX
      rw [← HFIN.out, HX.out]
      exact ⟨A', _, c', rfl, HO.out.base (by omega), hmc, hcm, hbr.out⟩
    · obtain ⟨t, rfl⟩ : ∃ t, j = t + 1 := ⟨j - 1, by omega⟩
      rw [show (((t + 1 : Nat) : Int) - 1) = (t : Int) by omega]
      have ht4 : t < 4 := by omega
      have k8 := (hdr_cells (HVS.out ▸ HRr.out)).2.2.2.2.2.2.2.2.1
      go_wp2_with (at_builtin; (refine wpList_append_bytes rfl _ _ rfl (w.heap.size + 1) (.slice A' m c') m (l0 ++ X) rfl (HO.out.alloc _) _ _ 1 1 [UInt8.ofNat (num / 256 ^ t)] rfl (sl_one _ _ _ ?hV) (by omega) ?hB wr ?hb ?_); (case hV => first | exact byte_at num t | exact byte_at_mod num t); (case hB => have := HRr.out.lt; simp; omega); (case hb => exact (Below.refl _ _).alloc HRr.out.lt _); intro A1' c1' w1' ho1 hle1 hc1 hg1 hb1)
      go_roundw
      case rel =>
        refine ⟨t, m + 1, A1', c1', X ++ [UInt8.ofNat (num / 256 ^ t)], by omega, by omega, by omega, by go_num, rfl, ?_, hle1, hc1, ?_, hbr.out.trans (hb1.mono (by omega)), HRr.out.belowB hb1 (by omega)⟩
        · show Own _ _ _ _ _
          rw [← List.append_assoc]; exact ho1
        · show _ = _
          rw [← HXX.out]; simp [lowB]
      case measure => first | (simp [intOf]; done) | (simp [intOf]; omega)
set_option maxRecDepth 4000 in
set_option maxHeartbeats 8000000 in
theorem rputLong2_any (ver nl num rest : Nat) (hv : ver < 4294967296) (hnl : 1 ≤ nl ∧ nl ≤ 4) (hnum : num < 18446744073709551616) (hrest : rest + nl ≤ 16383) (S P : Bool) (dst src tok : List UInt8) (A1 : Option Addr) (c1 : Nat) (A2 : Option Addr) (n2 c2 : Nat) (A3 : Option Addr) (n3 c3 B : Nat) (w : World) (hs1 : Sl w B A1 8 dst) (hs2 : Sl w B A2 n2 src) (hs3 : Sl w B A3 n3 tok) (hB : B ≤ w.heap.size) (hn2 : n2 ≤ 20) (hn3 : n3 ≤ 100) (hMay : MayP true 2 ver 8 n2 n3 S P num nl) :
    Calls Try.prog 11 #[.agg (hdrV true 2 ver A1 8 c1 A2 n2 c2 A3 n3 c3 S P num nl).toArray, .int .i64 (rest : Int)] w (Puts w (putLV 2 ver nl num rest dst src tok, 0)) := by
  obtain ⟨z, hz⟩ : ∃ z, nl - 1 = z := ⟨_, rfl⟩
  have hz4 : z < 4 := by omega
  have ez : (nl : Int) - 1 = (z : Int) := by omega
  have wz : IntKind.u8.wrap (z : Int) = (z : Int) := IntWalk.u8_in _ (by omega)
  have HS1 : Hid (∀ u : World, Below w.heap.size w u → Sl u B A1 8 dst ∧ Sl u B A2 n2 src ∧ Sl u B A3 n3 tok) := fun u hu => ⟨hs1.below (hu.mono hB), hs2.below (hu.mono hB), hs3.below (hu.mono hB)⟩
  have HBW := Lib.hid hB
  have HD8 := Lib.hid hs1.1
  have HSL := Lib.hid hs2.1
  have HTL := Lib.hid hs3.1
  have HLN : Hid (n2 ≤ 20 ∧ n3 ≤ 100) := ⟨hn2, hn3⟩
  have HM := Lib.hid (rmay_any true 2 ver A1 8 c1 A2 n2 c2 A3 n3 c3 S P num nl)
  rw [decide_eq_true hMay] at HM
  obtain ⟨vs, hvs⟩ : ∃ vs, hdrV true 2 ver A1 8 c1 A2 n2 c2 A3 n3 c3 S P num nl = vs := ⟨_, rfl⟩
  have HVS := Lib.hid hvs
  have HSZ : Hid ((Try.prog.info? 26).map (·.size) = some vs.length) := show _ = _ by rw [← hvs]; exact hdr_size
  rw [hvs] at HM
  have HNL := Lib.hid hnl
  have HLT := Lib.hid hs1
  have t1 : decide (16383 - (nl : Int) < (rest : Int)) = false := by simp; omega
  have hnl4 : nl ≤ 4 := by omega
  have hr14 : rest ≤ 16383 := by omega
  obtain ⟨_, _, _, _, h192, h224⟩ := or_first_at z hz4
  obtain ⟨F, hF⟩ : ∃ F, 224 + z = F := ⟨_, rfl⟩
  have hFb : F < 256 := by omega
  have o1 : bits .or .u8 192 32 = 224 := or_u8 192 32 224 (by omega) (by omega) 192 32 rfl rfl (by decide)
  have o2 : bits .or .u8 224 (z : Int) = (F : Int) := or_u8 224 z F (by omega) (by omega) 224 (z : Int) rfl rfl (by omega)
  obtain ⟨x3, x2, x1, x0, hx3, hx2, hx1, hx0, ex3, ex2, ex1, ex0, elow⟩ := ver_bytes ver hv
  obtain ⟨M, hM⟩ : ∃ M, rest + nl = M := ⟨_, rfl⟩
  have hMi : (rest : Int) + (nl : Int) = (M : Int) := by omega
  have hMb : M < 16384 := by omega
  have wn2 : IntKind.u8.wrap (n2 : Int) = (n2 : Int) := IntWalk.u8_in _ (by omega)
  have wn3 : IntKind.u64.wrap (n3 : Int) = (n3 : Int) := IntWalk.u64_in _ (by omega)
  have HL3 : Hid (lenV n3 ≤ 8) := show _ ≤ _ by have := cls_cases n3; omega
  have HFIN : Hid ([UInt8.ofNat F, UInt8.ofNat x3, UInt8.ofNat x2, UInt8.ofNat x1, UInt8.ofNat x0, UInt8.ofNat 8] ++ dst ++ [UInt8.ofNat n2] ++ src ++ encV M 1 ++ lowB num nl = putLV 2 ver nl num rest dst src tok) := show _ = _ by
    unfold putLV
    rw [if_neg (by omega), hz, hM, low_told M (by omega), elow, HD8.out, HSL.out, show 192 + 16 * 2 + z = F by omega]
    simp only [List.append_assoc, List.cons_append, List.nil_append]
  clear hs1 hs2 hs3 hB hz hvs h192 h224 hF elow hM hMay hrest hn2 hn3 hnl
  unfold hdrV
  go_enter Try.func11, Try.ntmps11
  go_upto_region 6 with (first | (go_at_call 15; (with_reducible refine (HM.out _).mono ?_); rintro e1 w1 ⟨rfl, b1⟩; have R1 : Hid (Rw w1 w.heap.size 26 vs) := (show Rw (w.alloc _) _ _ vs by rw [← HVS.out]; exact heap_alloc_new w _).below b1; have B1 : Hid (Below w.heap.size w w1) := ((Below.refl _ _).alloc (Nat.le_refl _) _).trans (b1.mono (by simp)); obtain ⟨k0, k1, k2, k3, k4, k5, k6, k7, k8, k9⟩ := hdr_cells (HVS.out ▸ R1.out); clear b1) | ((with_reducible refine wpList_load_rw rfl 26 (.tmp 2) rfl w.heap.size ?hx 26 vs ?hB _ Try.underlying26 rfl HSZ.out ?_); (case hx => with_unfolding_all rfl); (case hB => rw [← HVS.out]; exact heap_alloc_new w _)))
  refine wp_forget (fun w2 => Rw w2 w.heap.size 26 vs ∧ Below w.heap.size w w2 ∧ Own w2 (w.heap.size + 1) (.slice (some ⟨w1.heap.size, 0, none⟩) 6 6) 6 [UInt8.ofNat F, UInt8.ofNat x3, UInt8.ofNat x2, UInt8.ofNat x1, UInt8.ofNat x0, UInt8.ofNat 8]) ⟨R1.out.alloc _, B1.out.alloc B1.out.size _, ?_⟩ ?_
  · refine Blk.own (show Blk _ _ _ [UInt8.ofNat F, UInt8.ofNat x3, UInt8.ofNat x2, UInt8.ofNat x1, UInt8.ofNat x0, UInt8.ofNat 8] from ?_) rfl R1.out.lt (by simp [maxLen])
    rw [Blk, heap_alloc_new]
    refine congrArg some ?_
    rw [byte_small F hFb, byte_small x3 hx3, byte_small x2 hx2, byte_small x1 hx1, byte_small x0 hx0]
    rfl
  intro w2 ⟨h1, h2, h3⟩
  have R2 := Lib.hid h1
  have B2 := Lib.hid h2
  have O2 := Lib.hid h3
  clear h1 h2 h3 k0 k1 k2 k3 k4 k5 k6 k7 k8 k9
  obtain ⟨k0, k1, k2, k3, k4, k5, k6, k7, k8, k9⟩ := hdr_cells (HVS.out ▸ R2.out)
  go_upto_region 7 with (at_builtin; (with_reducible refine wpList_append_bytes rfl (.tmp 54) (.tmp 56) rfl (w.heap.size + 1) (.slice (some ⟨w1.heap.size, 0, none⟩) 6 6) 6 _ ?hs O2.out B A1 8 c1 dst ?hx (HS1.out _ B2.out).1 (by omega) ?hb w2 (Below.refl _ _) ?_); (case hs => with_unfolding_all rfl); (case hx => with_unfolding_all rfl); (case hb => exact R2.out.lt); intro A3' d3 w3 ho hle hc hg hb; have R3 := Lib.hid (R2.out.belowB hb (by omega)); have B3 := Lib.hid (B2.out.trans (hb.mono (by omega))); have O3 : Hid (Own w3 (w.heap.size + 1) (.slice A3' 14 d3) 14 _) := ho; have C3 : Hid (14 ≤ d3 ∧ d3 ≤ maxLen) := ⟨hle, hc⟩; clear ho hle hc hb hg)
  refine wp_held (S := fun u => Rw u w.heap.size 26 vs) (by kernel_rfl) ?_
  replace R3 := Lib.hid R3.out.drew
  replace B3 := Lib.hid B3.out.drew
  replace O3 := Lib.hid O3.out.drew
  obtain ⟨w0, hw0⟩ : ∃ x, w3.drew = x := ⟨_, rfl⟩
  rw [hw0] at R3 B3 O3 ⊢
  clear hw0
  have hS := R3.out
  refine wpAnyH_take (i := 0) (v := ?_) rfl (by kernel_rfl) (by kernel_rfl) (by kernel_rfl) (fun _ _ _ h => h) (Or.inl ⟨by rfl, ?_⟩) hS ?_
  rotate_left 1
  · intro u hu
    obtain ⟨q0, q1, q2, q3, q4, q5, q6, q7, q8, q9⟩ := hdr_cells (HVS.out ▸ hu)
    go_simp
    first | done | with_reducible rfl
  go_simp
  refine wpAnyH_take (i := 1) (v := ?_) rfl (by kernel_rfl) (by kernel_rfl) (by kernel_rfl) (fun _ _ _ h => h) (Or.inl ⟨by rfl, ?_⟩) hS ?_
  rotate_left 1
  · intro u hu
    obtain ⟨q0, q1, q2, q3, q4, q5, q6, q7, q8, q9⟩ := hdr_cells (HVS.out ▸ hu)
    go_simp
    first | done | with_reducible rfl
  go_simp
  refine wpAnyH_take (i := 2) (v := ?_) rfl (by kernel_rfl) (by kernel_rfl) (by kernel_rfl) (fun _ _ _ h => h) (Or.inl ⟨by rfl, ?_⟩) hS ?_
  rotate_left 1
  · intro u hu
    obtain ⟨q0, q1, q2, q3, q4, q5, q6, q7, q8, q9⟩ := hdr_cells (HVS.out ▸ hu)
    go_simp
    first | done | with_reducible rfl
  go_simp
  refine wpAnyH_take (i := 3) (v := ?_) rfl (by kernel_rfl) (by kernel_rfl) (by kernel_rfl) (fun _ _ _ h => h) (Or.inl ⟨by rfl, ?_⟩) hS ?_
  rotate_left 1
  · intro u hu
    obtain ⟨q0, q1, q2, q3, q4, q5, q6, q7, q8, q9⟩ := hdr_cells (HVS.out ▸ hu)
    go_simp
    first | done | with_reducible rfl
  go_simp
  refine wpAnyH_take (i := 4) (v := ?_) rfl (by kernel_rfl) (by kernel_rfl) (by kernel_rfl) (fun _ _ _ h => h) (Or.inl ⟨by rfl, ?_⟩) hS ?_
  rotate_left 1
  · intro u hu
    obtain ⟨q0, q1, q2, q3, q4, q5, q6, q7, q8, q9⟩ := hdr_cells (HVS.out ▸ hu)
    go_simp
    first | done | with_reducible rfl
  go_simp
  refine wpAnyH_take (i := 7) (v := ?_) rfl (by kernel_rfl) (by kernel_rfl) (by kernel_rfl) (fun _ _ _ h => h) (Or.inl ⟨by rfl, ?_⟩) hS ?_
  rotate_left 1
  · intro u hu
    obtain ⟨q0, q1, q2, q3, q4, q5, q6, q7, q8, q9⟩ := hdr_cells (HVS.out ▸ hu)
    go_simp
    first | done | with_reducible rfl
  go_simp
  refine wpAnyH_take (i := 8) (v := ?_) rfl (by kernel_rfl) (by kernel_rfl) (by kernel_rfl) (fun _ _ _ h => h) (Or.inl ⟨by rfl, ?_⟩) hS ?_
  rotate_left 1
  · intro u hu
    obtain ⟨q0, q1, q2, q3, q4, q5, q6, q7, q8, q9⟩ := hdr_cells (HVS.out ▸ hu)
    go_simp
    first | done | with_reducible rfl
  go_simp
  refine wpAnyH_oneG 5 (by kernel_rfl) rfl (by rfl) ?_
  refine wp_byte (.tmp 62) rfl (UInt8.ofNat n2) (by rw [bn_small n2 (by have := HLN.out; omega)]; with_unfolding_all rfl) ?_
  intro g4 w4 e4 L4 b4
  have R4 := Lib.hid (R3.out.below b4.out)
  have B4 := Lib.hid (B3.out.trans (b4.out.mono B3.out.size))
  have O4 := Lib.hid (O3.out.below b4.out)
  refine ⟨R4.out, ?_⟩
  go_simp
  refine wpAnyH_oneG 6 (by kernel_rfl) rfl (by rfl) ?_
  refine wp_append_bytes (.tmp 58) (.tmp 63) rfl (w.heap.size + 1) (.slice A3' 14 d3) 14 _ (by with_unfolding_all rfl) O4.out _ _ 1 1 _ (by with_unfolding_all rfl) L4.out (by omega) R4.out.lt ?_
  intro A5 d5 w5 O5 C5 b5
  have O5 : Hid (Own w5 (w.heap.size + 1) (.slice A5 15 d5) 15 _) := O5.out
  have R5 := Lib.hid (R4.out.belowB b5.out (by omega))
  have B5 := Lib.hid (B4.out.trans (b5.out.mono (by omega)))
  refine ⟨R5.out, ?_⟩
  go_simp
  refine wpAnyH_oneG 9 (by kernel_rfl) rfl (by rfl) ?_
  refine wp_append_bytes (.tmp 64) (.tmp 66) rfl (w.heap.size + 1) (.slice A5 15 d5) 15 _ (by with_unfolding_all rfl) O5.out B A2 n2 c2 src (by with_unfolding_all rfl) (HS1.out _ B5.out).2.1 (by have := HLN.out; omega) R5.out.lt ?_
  intro A6 d6 w6 O6 C6 b6
  obtain ⟨m6, hm6⟩ : ∃ x, 15 + n2 = x := ⟨_, rfl⟩
  rw [hm6] at O6 C6 ⊢
  have hm6b : m6 ≤ 100 := by have := HLN.out; omega
  clear hm6
  have R6 := Lib.hid (R5.out.belowB b6.out (by omega))
  have B6 := Lib.hid (B5.out.trans (b6.out.mono (by omega)))
  refine ⟨R6.out, ?_⟩
  go_simp
  have hS6 := R6.out
  refine wpAnyH_take (i := 10) (v := ?_) rfl (by kernel_rfl) (by kernel_rfl) (by kernel_rfl) (fun _ _ _ h => h) (Or.inl ⟨by rfl, ?_⟩) hS6 ?_
  rotate_left 1
  · intro u hu
    obtain ⟨q0, q1, q2, q3, q4, q5, q6, q7, q8, q9⟩ := hdr_cells (HVS.out ▸ hu)
    go_simp
    first | done | with_reducible rfl
  go_simp
  refine wpAnyH_done (by kernel_rfl) ?_ _
  clear hS hS6 b4 b5 b6 k0 k1 k2 k3 k4 k5 k6 k7 k8 k9 L4 e4
  obtain ⟨k0, k1, k2, k3, k4, k5, k6, k7, k8, k9⟩ := hdr_cells (HVS.out ▸ R6.out)
  go_wp2_with fail
  (with_reducible refine (in_two _ A6 (m6) d6 _ M _ O6.out.sl (Nat.le_refl _) (by have := HLN.out; have := HL3.out; omega) (by omega)).mono ?_)
  rintro e9 w9 ⟨A9, d9, rfl, ho, hle, hc, hb⟩
  obtain ⟨m9, hm9⟩ : ∃ x, m6 + 2 = x := ⟨_, rfl⟩
  rw [hm9] at ho hle ⊢
  have hm9b : m9 ≤ 400 := by omega
  clear hm9
  have R9 := Lib.hid (R6.out.below hb)
  have B9 := Lib.hid (B6.out.trans (hb.mono B6.out.size))
  have O9 := Lib.hid (ho.base (show w.heap.size + 1 ≤ _ from R6.out.lt))
  have C9 : Hid (_ ∧ _) := ⟨hle, hc⟩
  clear ho hle hc hb k0 k1 k2 k3 k4 k5 k6 k7 k8 k9
  obtain ⟨k0, k1, k2, k3, k4, k5, k6, k7, k8, k9⟩ := hdr_cells (HVS.out ▸ R9.out)
  obtain ⟨l0, hl0⟩ : ∃ x : List UInt8, [UInt8.ofNat F, UInt8.ofNat x3, UInt8.ofNat x2, UInt8.ofNat x1, UInt8.ofNat x0, UInt8.ofNat 8] ++ dst ++ [UInt8.ofNat n2] ++ src ++ encV M 1 = x := ⟨_, rfl⟩
  have HX := Lib.hid hl0
  have O9 : Hid (Own w9 (w.heap.size + 1) (.slice A9 m9 d9) m9 l0) := show Own _ _ _ _ _ by rw [← hl0]; exact O9.out
  have C9 : Hid (m9 ≤ d9 ∧ d9 ≤ maxLen) := C9.out
  clear hl0
  go_wp2_with fail
  go_loopw [6, 7] (fun out sh wr => ∃ (j m : Nat) (A' : Option Addr) (c' : Nat) (X : List UInt8), j ≤ nl ∧ m + j ≤ m9 + nl ∧ m9 + nl ≤ m + j ∧ sh = .int .i64 ((j : Int) - 1) ∧ out = .slice A' m c' ∧
      Hid (Own wr (w.heap.size + 1) (.slice A' m c') m (l0 ++ X)) ∧ m ≤ c' ∧ c' ≤ maxLen ∧ Hid (X ++ lowB num j = lowB num nl) ∧ Hid (Below w.heap.size w wr) ∧ Hid (Rw wr w.heap.size 26 vs)) (fun _ sh _ => (intOf sh + 1).toNat)
  case atStart => exact ⟨nl, m9, A9, d9, [], by omega, by omega, by omega, by rw [← ez], rfl, (by simpa using O9.out : Own _ _ _ _ _), C9.out.1, C9.out.2, rfl, B9.out, R9.out⟩
  case round =>
    obtain ⟨j, m, A', c', X, hj, hmj, hmj', rfl, rfl, HO, hmc, hcm, HXX, hbr, HRr⟩ := hrel
    rcases Nat.eq_zero_or_pos j with rfl | hpos
    · go_wp2
      go_ret2
      obtain rfl : m = m9 + nl := by omega
      have hX : X = lowB num nl := by
        have h := HXX.out
        simpa [lowB] using h
      subst hX
      rw [← HFIN.out, HX.out]
      exact ⟨A', _, c', rfl, HO.out.base (by omega), hmc, hcm, hbr.out⟩
    · obtain ⟨t, rfl⟩ : ∃ t, j = t + 1 := ⟨j - 1, by omega⟩
      rw [show (((t + 1 : Nat) : Int) - 1) = (t : Int) by omega]
      have ht4 : t < 4 := by omega
      have k8 := (hdr_cells (HVS.out ▸ HRr.out)).2.2.2.2.2.2.2.2.1
      go_wp2_with (at_builtin; (refine wpList_append_bytes rfl _ _ rfl (w.heap.size + 1) (.slice A' m c') m (l0 ++ X) rfl (HO.out.alloc _) _ _ 1 1 [UInt8.ofNat (num / 256 ^ t)] rfl (sl_one _ _ _ ?hV) (by omega) ?hB wr ?hb ?_); (case hV => first | exact byte_at num t | exact byte_at_mod num t); (case hB => have := HRr.out.lt; simp; omega); (case hb => exact (Below.refl _ _).alloc HRr.out.lt _); intro A1' c1' w1' ho1 hle1 hc1 hg1 hb1)
      go_roundw
      case rel =>
        refine ⟨t, m + 1, A1', c1', X ++ [UInt8.ofNat (num / 256 ^ t)], by omega, by omega, by omega, by go_num, rfl, ?_, hle1, hc1, ?_, hbr.out.trans (hb1.mono (by omega)), HRr.out.belowB hb1 (by omega)⟩
        · show Own _ _ _ _ _
          rw [← List.append_assoc]; exact ho1
        · show _ = _
          rw [← HXX.out]; simp [lowB]
      case measure => first | (simp [intOf]; done) | (simp [intOf]; omega)
set_option maxRecDepth 4000 in
set_option maxHeartbeats 8000000 in
theorem rputLong0_any (ver nl num rest : Nat) (hv : ver < 4294967296) (hnl : 1 ≤ nl ∧ nl ≤ 4) (hnum : num < 18446744073709551616) (hrest : rest + nl ≤ 16383) (S P : Bool) (dst src tok : List UInt8) (A1 : Option Addr) (c1 : Nat) (A2 : Option Addr) (n2 c2 : Nat) (A3 : Option Addr) (n3 c3 B : Nat) (w : World) (hs1 : Sl w B A1 8 dst) (hs2 : Sl w B A2 n2 src) (hs3 : Sl w B A3 n3 tok) (hB : B ≤ w.heap.size) (hn2 : n2 ≤ 20) (hn3 : n3 ≤ 100) (hMay : MayP true 0 ver 8 n2 n3 S P num nl) :
    Calls Try.prog 11 #[.agg (hdrV true 0 ver A1 8 c1 A2 n2 c2 A3 n3 c3 S P num nl).toArray, .int .i64 (rest : Int)] w (Puts w (putLV 0 ver nl num rest dst src tok, 0)) := by
  obtain ⟨z, hz⟩ : ∃ z, nl - 1 = z := ⟨_, rfl⟩
  have hz4 : z < 4 := by omega
  have ez : (nl : Int) - 1 = (z : Int) := by omega
  have wz : IntKind.u8.wrap (z : Int) = (z : Int) := IntWalk.u8_in _ (by omega)
  have HS1 : Hid (∀ u : World, Below w.heap.size w u → Sl u B A1 8 dst ∧ Sl u B A2 n2 src ∧ Sl u B A3 n3 tok) := fun u hu => ⟨hs1.below (hu.mono hB), hs2.below (hu.mono hB), hs3.below (hu.mono hB)⟩
  have HBW := Lib.hid hB
  have HD8 := Lib.hid hs1.1
  have HSL := Lib.hid hs2.1
  have HTL := Lib.hid hs3.1
  have HLN : Hid (n2 ≤ 20 ∧ n3 ≤ 100) := ⟨hn2, hn3⟩
  have HM := Lib.hid (rmay_any true 0 ver A1 8 c1 A2 n2 c2 A3 n3 c3 S P num nl)
  rw [decide_eq_true hMay] at HM
  obtain ⟨vs, hvs⟩ : ∃ vs, hdrV true 0 ver A1 8 c1 A2 n2 c2 A3 n3 c3 S P num nl = vs := ⟨_, rfl⟩
  have HVS := Lib.hid hvs
  have HSZ : Hid ((Try.prog.info? 26).map (·.size) = some vs.length) := show _ = _ by rw [← hvs]; exact hdr_size
  rw [hvs] at HM
  have HNL := Lib.hid hnl
  have HLT := Lib.hid hs1
  have t1 : decide (16383 - (nl : Int) < (rest : Int)) = false := by simp; omega
  have hnl4 : nl ≤ 4 := by omega
  have hr14 : rest ≤ 16383 := by omega
  obtain ⟨_, _, _, _, h192, h224⟩ := or_first_at z hz4
  obtain ⟨F, hF⟩ : ∃ F, 192 + z = F := ⟨_, rfl⟩
  have hFb : F < 256 := by omega
  have o1 : bits .or .u8 192 0 = 192 := or_u8 192 0 192 (by omega) (by omega) 192 0 rfl rfl (by decide)
  have o2 : bits .or .u8 192 (z : Int) = (F : Int) := or_u8 192 z F (by omega) (by omega) 192 (z : Int) rfl rfl (by omega)
  obtain ⟨x3, x2, x1, x0, hx3, hx2, hx1, hx0, ex3, ex2, ex1, ex0, elow⟩ := ver_bytes ver hv
  obtain ⟨M, hM⟩ : ∃ M, rest + nl = M := ⟨_, rfl⟩
  have hMi : (rest : Int) + (nl : Int) = (M : Int) := by omega
  have hMb : M < 16384 := by omega
  have wn2 : IntKind.u8.wrap (n2 : Int) = (n2 : Int) := IntWalk.u8_in _ (by omega)
  have wn3 : IntKind.u64.wrap (n3 : Int) = (n3 : Int) := IntWalk.u64_in _ (by omega)
  have HL3 : Hid (lenV n3 ≤ 8) := show _ ≤ _ by have := cls_cases n3; omega
  have HFIN : Hid ([UInt8.ofNat F, UInt8.ofNat x3, UInt8.ofNat x2, UInt8.ofNat x1, UInt8.ofNat x0, UInt8.ofNat 8] ++ dst ++ [UInt8.ofNat n2] ++ src ++ enc n3 ++ tok ++ encV M 1 ++ lowB num nl = putLV 0 ver nl num rest dst src tok) := show _ = _ by
    unfold putLV
    rw [if_pos rfl, hz, hM, low_told M (by omega), elow, HD8.out, HSL.out, HTL.out, show 192 + 16 * 0 + z = F by omega]
    simp only [List.append_assoc, List.cons_append, List.nil_append]
  clear hs1 hs2 hs3 hB hz hvs h192 h224 hF elow hM hMay hrest hn2 hn3 hnl
  unfold hdrV
  go_enter Try.func11, Try.ntmps11
  go_upto_region 6 with (first | (go_at_call 15; (with_reducible refine (HM.out _).mono ?_); rintro e1 w1 ⟨rfl, b1⟩; have R1 : Hid (Rw w1 w.heap.size 26 vs) := (show Rw (w.alloc _) _ _ vs by rw [← HVS.out]; exact heap_alloc_new w _).below b1; have B1 : Hid (Below w.heap.size w w1) := ((Below.refl _ _).alloc (Nat.le_refl _) _).trans (b1.mono (by simp)); obtain ⟨k0, k1, k2, k3, k4, k5, k6, k7, k8, k9⟩ := hdr_cells (HVS.out ▸ R1.out); clear b1) | ((with_reducible refine wpList_load_rw rfl 26 (.tmp 2) rfl w.heap.size ?hx 26 vs ?hB _ Try.underlying26 rfl HSZ.out ?_); (case hx => with_unfolding_all rfl); (case hB => rw [← HVS.out]; exact heap_alloc_new w _)))
  refine wp_forget (fun w2 => Rw w2 w.heap.size 26 vs ∧ Below w.heap.size w w2 ∧ Own w2 (w.heap.size + 1) (.slice (some ⟨w1.heap.size, 0, none⟩) 6 6) 6 [UInt8.ofNat F, UInt8.ofNat x3, UInt8.ofNat x2, UInt8.ofNat x1, UInt8.ofNat x0, UInt8.ofNat 8]) ⟨R1.out.alloc _, B1.out.alloc B1.out.size _, ?_⟩ ?_
  · refine Blk.own (show Blk _ _ _ [UInt8.ofNat F, UInt8.ofNat x3, UInt8.ofNat x2, UInt8.ofNat x1, UInt8.ofNat x0, UInt8.ofNat 8] from ?_) rfl R1.out.lt (by simp [maxLen])
    rw [Blk, heap_alloc_new]
    refine congrArg some ?_
    rw [byte_small F hFb, byte_small x3 hx3, byte_small x2 hx2, byte_small x1 hx1, byte_small x0 hx0]
    rfl
  intro w2 ⟨h1, h2, h3⟩
  have R2 := Lib.hid h1
  have B2 := Lib.hid h2
  have O2 := Lib.hid h3
  clear h1 h2 h3 k0 k1 k2 k3 k4 k5 k6 k7 k8 k9
  obtain ⟨k0, k1, k2, k3, k4, k5, k6, k7, k8, k9⟩ := hdr_cells (HVS.out ▸ R2.out)
  go_upto_region 7 with (at_builtin; (with_reducible refine wpList_append_bytes rfl (.tmp 54) (.tmp 56) rfl (w.heap.size + 1) (.slice (some ⟨w1.heap.size, 0, none⟩) 6 6) 6 _ ?hs O2.out B A1 8 c1 dst ?hx (HS1.out _ B2.out).1 (by omega) ?hb w2 (Below.refl _ _) ?_); (case hs => with_unfolding_all rfl); (case hx => with_unfolding_all rfl); (case hb => exact R2.out.lt); intro A3' d3 w3 ho hle hc hg hb; have R3 := Lib.hid (R2.out.belowB hb (by omega)); have B3 := Lib.hid (B2.out.trans (hb.mono (by omega))); have O3 : Hid (Own w3 (w.heap.size + 1) (.slice A3' 14 d3) 14 _) := ho; have C3 : Hid (14 ≤ d3 ∧ d3 ≤ maxLen) := ⟨hle, hc⟩; clear ho hle hc hb hg)
  refine wp_held (S := fun u => Rw u w.heap.size 26 vs) (by kernel_rfl) ?_
  replace R3 := Lib.hid R3.out.drew
  replace B3 := Lib.hid B3.out.drew
  replace O3 := Lib.hid O3.out.drew
  obtain ⟨w0, hw0⟩ : ∃ x, w3.drew = x := ⟨_, rfl⟩
  rw [hw0] at R3 B3 O3 ⊢
  clear hw0
  have hS := R3.out
  refine wpAnyH_take (i := 0) (v := ?_) rfl (by kernel_rfl) (by kernel_rfl) (by kernel_rfl) (fun _ _ _ h => h) (Or.inl ⟨by rfl, ?_⟩) hS ?_
  rotate_left 1
  · intro u hu
    obtain ⟨q0, q1, q2, q3, q4, q5, q6, q7, q8, q9⟩ := hdr_cells (HVS.out ▸ hu)
    go_simp
    first | done | with_reducible rfl
  go_simp
  refine wpAnyH_take (i := 1) (v := ?_) rfl (by kernel_rfl) (by kernel_rfl) (by kernel_rfl) (fun _ _ _ h => h) (Or.inl ⟨by rfl, ?_⟩) hS ?_
  rotate_left 1
  · intro u hu
    obtain ⟨q0, q1, q2, q3, q4, q5, q6, q7, q8, q9⟩ := hdr_cells (HVS.out ▸ hu)
    go_simp
    first | done | with_reducible rfl
  go_simp
  refine wpAnyH_take (i := 2) (v := ?_) rfl (by kernel_rfl) (by kernel_rfl) (by kernel_rfl) (fun _ _ _ h => h) (Or.inl ⟨by rfl, ?_⟩) hS ?_
  rotate_left 1
  · intro u hu
    obtain ⟨q0, q1, q2, q3, q4, q5, q6, q7, q8, q9⟩ := hdr_cells (HVS.out ▸ hu)
    go_simp
    first | done | with_reducible rfl
  go_simp
  refine wpAnyH_take (i := 3) (v := ?_) rfl (by kernel_rfl) (by kernel_rfl) (by kernel_rfl) (fun _ _ _ h => h) (Or.inl ⟨by rfl, ?_⟩) hS ?_
  rotate_left 1
  · intro u hu
    obtain ⟨q0, q1, q2, q3, q4, q5, q6, q7, q8, q9⟩ := hdr_cells (HVS.out ▸ hu)
    go_simp
    first | done | with_reducible rfl
  go_simp
  refine wpAnyH_take (i := 4) (v := ?_) rfl (by kernel_rfl) (by kernel_rfl) (by kernel_rfl) (fun _ _ _ h => h) (Or.inl ⟨by rfl, ?_⟩) hS ?_
  rotate_left 1
  · intro u hu
    obtain ⟨q0, q1, q2, q3, q4, q5, q6, q7, q8, q9⟩ := hdr_cells (HVS.out ▸ hu)
    go_simp
    first | done | with_reducible rfl
  go_simp
  refine wpAnyH_take (i := 7) (v := ?_) rfl (by kernel_rfl) (by kernel_rfl) (by kernel_rfl) (fun _ _ _ h => h) (Or.inl ⟨by rfl, ?_⟩) hS ?_
  rotate_left 1
  · intro u hu
    obtain ⟨q0, q1, q2, q3, q4, q5, q6, q7, q8, q9⟩ := hdr_cells (HVS.out ▸ hu)
    go_simp
    first | done | with_reducible rfl
  go_simp
  refine wpAnyH_take (i := 8) (v := ?_) rfl (by kernel_rfl) (by kernel_rfl) (by kernel_rfl) (fun _ _ _ h => h) (Or.inl ⟨by rfl, ?_⟩) hS ?_
  rotate_left 1
  · intro u hu
    obtain ⟨q0, q1, q2, q3, q4, q5, q6, q7, q8, q9⟩ := hdr_cells (HVS.out ▸ hu)
    go_simp
    first | done | with_reducible rfl
  go_simp
  refine wpAnyH_oneG 5 (by kernel_rfl) rfl (by rfl) ?_
  refine wp_byte (.tmp 62) rfl (UInt8.ofNat n2) (by rw [bn_small n2 (by have := HLN.out; omega)]; with_unfolding_all rfl) ?_
  intro g4 w4 e4 L4 b4
  have R4 := Lib.hid (R3.out.below b4.out)
  have B4 := Lib.hid (B3.out.trans (b4.out.mono B3.out.size))
  have O4 := Lib.hid (O3.out.below b4.out)
  refine ⟨R4.out, ?_⟩
  go_simp
  refine wpAnyH_oneG 6 (by kernel_rfl) rfl (by rfl) ?_
  refine wp_append_bytes (.tmp 58) (.tmp 63) rfl (w.heap.size + 1) (.slice A3' 14 d3) 14 _ (by with_unfolding_all rfl) O4.out _ _ 1 1 _ (by with_unfolding_all rfl) L4.out (by omega) R4.out.lt ?_
  intro A5 d5 w5 O5 C5 b5
  have O5 : Hid (Own w5 (w.heap.size + 1) (.slice A5 15 d5) 15 _) := O5.out
  have R5 := Lib.hid (R4.out.belowB b5.out (by omega))
  have B5 := Lib.hid (B4.out.trans (b5.out.mono (by omega)))
  refine ⟨R5.out, ?_⟩
  go_simp
  refine wpAnyH_oneG 9 (by kernel_rfl) rfl (by rfl) ?_
  refine wp_append_bytes (.tmp 64) (.tmp 66) rfl (w.heap.size + 1) (.slice A5 15 d5) 15 _ (by with_unfolding_all rfl) O5.out B A2 n2 c2 src (by with_unfolding_all rfl) (HS1.out _ B5.out).2.1 (by have := HLN.out; omega) R5.out.lt ?_
  intro A6 d6 w6 O6 C6 b6
  obtain ⟨m6, hm6⟩ : ∃ x, 15 + n2 = x := ⟨_, rfl⟩
  rw [hm6] at O6 C6 ⊢
  have hm6b : m6 ≤ 100 := by have := HLN.out; omega
  clear hm6
  have R6 := Lib.hid (R5.out.belowB b6.out (by omega))
  have B6 := Lib.hid (B5.out.trans (b6.out.mono (by omega)))
  refine ⟨R6.out, ?_⟩
  go_simp
  have hS6 := R6.out
  refine wpAnyH_take (i := 10) (v := ?_) rfl (by kernel_rfl) (by kernel_rfl) (by kernel_rfl) (fun _ _ _ h => h) (Or.inl ⟨by rfl, ?_⟩) hS6 ?_
  rotate_left 1
  · intro u hu
    obtain ⟨q0, q1, q2, q3, q4, q5, q6, q7, q8, q9⟩ := hdr_cells (HVS.out ▸ hu)
    go_simp
    first | done | with_reducible rfl
  go_simp
  refine wpAnyH_done (by kernel_rfl) ?_ _
  clear hS hS6 b4 b5 b6 k0 k1 k2 k3 k4 k5 k6 k7 k8 k9 L4 e4
  obtain ⟨k0, k1, k2, k3, k4, k5, k6, k7, k8, k9⟩ := hdr_cells (HVS.out ▸ R6.out)
  go_upto_region 9 with fail
  refine wp_held (S := fun u => Rw u w.heap.size 26 vs) (by kernel_rfl) ?_
  replace R6 := Lib.hid R6.out.drew
  replace B6 := Lib.hid B6.out.drew
  replace O6 := Lib.hid O6.out.drew
  obtain ⟨w0, hw0⟩ : ∃ x, w6.drew = x := ⟨_, rfl⟩
  rw [hw0] at R6 B6 O6 ⊢
  clear hw0
  have hS := R6.out
  refine wpAnyH_take (i := 0) (v := ?_) rfl (by kernel_rfl) (by kernel_rfl) (by kernel_rfl) (fun _ _ _ h => h) (Or.inl ⟨by rfl, ?_⟩) hS ?_
  rotate_left 1
  · intro u hu
    obtain ⟨q0, q1, q2, q3, q4, q5, q6, q7, q8, q9⟩ := hdr_cells (HVS.out ▸ hu)
    go_simp
    first | done | with_reducible rfl
  go_simp
  refine wpAnyH_take (i := 1) (v := ?_) rfl (by kernel_rfl) (by kernel_rfl) (by kernel_rfl) (fun _ _ _ h => h) (Or.inl ⟨by rfl, ?_⟩) hS ?_
  rotate_left 1
  · intro u hu
    obtain ⟨q0, q1, q2, q3, q4, q5, q6, q7, q8, q9⟩ := hdr_cells (HVS.out ▸ hu)
    go_simp
    first | done | with_reducible rfl
  go_simp
  refine wpAnyH_take (i := 2) (v := ?_) rfl (by kernel_rfl) (by kernel_rfl) (by kernel_rfl) (fun _ _ _ h => h) (Or.inl ⟨by rfl, ?_⟩) hS ?_
  rotate_left 1
  · intro u hu
    obtain ⟨q0, q1, q2, q3, q4, q5, q6, q7, q8, q9⟩ := hdr_cells (HVS.out ▸ hu)
    go_simp
    first | done | with_reducible rfl
  go_simp
  refine wpAnyH_take (i := 3) (v := ?_) rfl (by kernel_rfl) (by kernel_rfl) (by kernel_rfl) (fun _ _ _ h => h) (Or.inl ⟨by rfl, ?_⟩) hS ?_
  rotate_left 1
  · intro u hu
    obtain ⟨q0, q1, q2, q3, q4, q5, q6, q7, q8, q9⟩ := hdr_cells (HVS.out ▸ hu)
    go_simp
    first | done | with_reducible rfl
  go_simp
  refine wpAnyH_take (i := 4) (v := ?_) rfl (by kernel_rfl) (by kernel_rfl) (by kernel_rfl) (fun _ _ _ h => h) (Or.inl ⟨by rfl, ?_⟩) hS ?_
  rotate_left 1
  · intro u hu
    obtain ⟨q0, q1, q2, q3, q4, q5, q6, q7, q8, q9⟩ := hdr_cells (HVS.out ▸ hu)
    go_simp
    first | done | with_reducible rfl
  go_simp
  refine wpAnyH_take (i := 6) (v := ?_) rfl (by kernel_rfl) (by kernel_rfl) (by kernel_rfl) (fun _ _ _ h => h) (Or.inl ⟨by rfl, ?_⟩) hS ?_
  rotate_left 1
  · intro u hu
    obtain ⟨q0, q1, q2, q3, q4, q5, q6, q7, q8, q9⟩ := hdr_cells (HVS.out ▸ hu)
    go_simp
    first | done | with_reducible rfl
  go_simp
  refine wpAnyH_take (i := 7) (v := ?_) rfl (by kernel_rfl) (by kernel_rfl) (by kernel_rfl) (fun _ _ _ h => h) (Or.inl ⟨by rfl, ?_⟩) hS ?_
  rotate_left 1
  · intro u hu
    obtain ⟨q0, q1, q2, q3, q4, q5, q6, q7, q8, q9⟩ := hdr_cells (HVS.out ▸ hu)
    go_simp
    first | done | with_reducible rfl
  go_simp
  refine wpAnyH_oneG 5 (by kernel_rfl) rfl (by rfl) ?_
  go_wp2_with fail
  (with_reducible refine (rput_any _ A6 m6 d6 _ n3 _ O6.out.sl (Nat.le_refl _) (by have := HLN.out; omega) (by have := HLN.out; omega)).mono ?_)
  rintro e7 w7 ⟨A7, d7, rfl, ho, hle, hc, hb⟩
  obtain ⟨m7, hm7⟩ : ∃ x, m6 + lenV n3 = x := ⟨_, rfl⟩
  rw [hm7] at ho hle ⊢
  have hm7b : m7 ≤ 200 := by have := HL3.out; omega
  clear hm7
  have R7 := Lib.hid (R6.out.below hb)
  have B7 := Lib.hid (B6.out.trans (hb.mono B6.out.size))
  have O7 := Lib.hid (ho.base (show w.heap.size + 1 ≤ _ from R6.out.lt))
  clear ho hle hc hb
  refine ⟨R7.out, ?_⟩
  go_simp
  refine wpAnyH_oneG 8 (by kernel_rfl) rfl (by rfl) ?_
  refine wp_append_bytes (.tmp 76) (.tmp 78) rfl (w.heap.size + 1) (.slice A7 m7 d7) m7 _ (by with_unfolding_all rfl) O7.out B A3 n3 c3 tok (by with_unfolding_all rfl) (HS1.out _ B7.out).2.2 (by have := HLN.out; have := HL3.out; omega) R7.out.lt ?_
  intro A8 d8 w8 O8 C8 b8
  obtain ⟨m8, hm8⟩ : ∃ x, m7 + n3 = x := ⟨_, rfl⟩
  rw [hm8] at O8 C8 ⊢
  have hm8b : m8 ≤ 300 := by have := HLN.out; omega
  clear hm8
  have R8 := Lib.hid (R7.out.belowB b8.out (by omega))
  have B8 := Lib.hid (B7.out.trans (b8.out.mono (by omega)))
  refine ⟨R8.out, ?_⟩
  go_simp
  have hS8 := R8.out
  refine wpAnyH_take (i := 9) (v := ?_) rfl (by kernel_rfl) (by kernel_rfl) (by kernel_rfl) (fun _ _ _ h => h) (Or.inl ⟨by rfl, ?_⟩) hS8 ?_
  rotate_left 1
  · intro u hu
    obtain ⟨q0, q1, q2, q3, q4, q5, q6, q7, q8, q9⟩ := hdr_cells (HVS.out ▸ hu)
    go_simp
    first | done | with_reducible rfl
  go_simp
  refine wpAnyH_done (by kernel_rfl) ?_ _
  clear hS hS8 b8 k0 k1 k2 k3 k4 k5 k6 k7 k8 k9
  obtain ⟨k0, k1, k2, k3, k4, k5, k6, k7, k8, k9⟩ := hdr_cells (HVS.out ▸ R8.out)
  go_wp2_with fail
  (with_reducible refine (in_two _ A8 (m8) d8 _ M _ O8.out.sl (Nat.le_refl _) (by have := HLN.out; have := HL3.out; omega) (by omega)).mono ?_)
  rintro e9 w9 ⟨A9, d9, rfl, ho, hle, hc, hb⟩
  obtain ⟨m9, hm9⟩ : ∃ x, m8 + 2 = x := ⟨_, rfl⟩
  rw [hm9] at ho hle ⊢
  have hm9b : m9 ≤ 400 := by omega
  clear hm9
  have R9 := Lib.hid (R8.out.below hb)
  have B9 := Lib.hid (B8.out.trans (hb.mono B8.out.size))
  have O9 := Lib.hid (ho.base (show w.heap.size + 1 ≤ _ from R8.out.lt))
  have C9 : Hid (_ ∧ _) := ⟨hle, hc⟩
  clear ho hle hc hb k0 k1 k2 k3 k4 k5 k6 k7 k8 k9
  obtain ⟨k0, k1, k2, k3, k4, k5, k6, k7, k8, k9⟩ := hdr_cells (HVS.out ▸ R9.out)
  obtain ⟨l0, hl0⟩ : ∃ x : List UInt8, [UInt8.ofNat F, UInt8.ofNat x3, UInt8.ofNat x2, UInt8.ofNat x1, UInt8.ofNat x0, UInt8.ofNat 8] ++ dst ++ [UInt8.ofNat n2] ++ src ++ enc n3 ++ tok ++ encV M 1 = x := ⟨_, rfl⟩
  have HX := Lib.hid hl0
  have O9 : Hid (Own w9 (w.heap.size + 1) (.slice A9 m9 d9) m9 l0) := show Own _ _ _ _ _ by rw [← hl0]; exact O9.out
  have C9 : Hid (m9 ≤ d9 ∧ d9 ≤ maxLen) := C9.out
  clear hl0
  go_wp2_with fail
  go_loopw [6, 7] (fun out sh wr => ∃ (j m : Nat) (A' : Option Addr) (c' : Nat) (X : List UInt8), j ≤ nl ∧ m + j ≤ m9 + nl ∧ m9 + nl ≤ m + j ∧ sh = .int .i64 ((j : Int) - 1) ∧ out = .slice A' m c' ∧
      Hid (Own wr (w.heap.size + 1) (.slice A' m c') m (l0 ++ X)) ∧ m ≤ c' ∧ c' ≤ maxLen ∧ Hid (X ++ lowB num j = lowB num nl) ∧ Hid (Below w.heap.size w wr) ∧ Hid (Rw wr w.heap.size 26 vs)) (fun _ sh _ => (intOf sh + 1).toNat)
  case atStart => exact ⟨nl, m9, A9, d9, [], by omega, by omega, by omega, by rw [← ez], rfl, (by simpa using O9.out : Own _ _ _ _ _), C9.out.1, C9.out.2, rfl, B9.out, R9.out⟩
  case round =>
    obtain ⟨j, m, A', c', X, hj, hmj, hmj', rfl, rfl, HO, hmc, hcm, HXX, hbr, HRr⟩ := hrel
    rcases Nat.eq_zero_or_pos j with rfl | hpos
    · go_wp2
      go_ret2
      obtain rfl : m = m9 + nl := by omega
      have hX : X = lowB num nl := by
        have h := HXX.out
        simpa [lowB] using h
      subst hX
      rw [← HFIN.out, HX.out]
      exact ⟨A', _, c', rfl, HO.out.base (by omega), hmc, hcm, hbr.out⟩
    · obtain ⟨t, rfl⟩ : ∃ t, j = t + 1 := ⟨j - 1, by omega⟩
      rw [show (((t + 1 : Nat) : Int) - 1) = (t : Int) by omega]
      have ht4 : t < 4 := by omega
      have k8 := (hdr_cells (HVS.out ▸ HRr.out)).2.2.2.2.2.2.2.2.1
      go_wp2_with (at_builtin; (refine wpList_append_bytes rfl _ _ rfl (w.heap.size + 1) (.slice A' m c') m (l0 ++ X) rfl (HO.out.alloc _) _ _ 1 1 [UInt8.ofNat (num / 256 ^ t)] rfl (sl_one _ _ _ ?hV) (by omega) ?hB wr ?hb ?_); (case hV => first | exact byte_at num t | exact byte_at_mod num t); (case hB => have := HRr.out.lt; simp; omega); (case hb => exact (Below.refl _ _).alloc HRr.out.lt _); intro A1' c1' w1' ho1 hle1 hc1 hg1 hb1)
      go_roundw
      case rel =>
        refine ⟨t, m + 1, A1', c1', X ++ [UInt8.ofNat (num / 256 ^ t)], by omega, by omega, by omega, by go_num, rfl, ?_, hle1, hc1, ?_, hbr.out.trans (hb1.mono (by omega)), HRr.out.belowB hb1 (by omega)⟩
        · show Own _ _ _ _ _
          rw [← List.append_assoc]; exact ho1
        · show _ = _
          rw [← HXX.out]; simp [lowB]
      case measure => first | (simp [intOf]; done) | (simp [intOf]; omega)
set_option maxRecDepth 4000 in
set_option maxHeartbeats 4000000 in
theorem rhput_any (L : Bool) (K : Int) (V N : Nat) (NL rest : Int) (S P : Bool) (dst src tok : List UInt8) (hV : V < 4294967296) (hN : N < 18446744073709551616) (A1 : Option Addr) (n1 c1 : Nat) (A2 : Option Addr) (n2 c2 : Nat) (A3 : Option Addr) (n3 c3 B : Nat) (w : World) (hs1 : Sl w B A1 n1 dst) (hs2 : Sl w B A2 n2 src) (hs3 : Sl w B A3 n3 tok) (hB : B ≤ w.heap.size) :
    Calls Try.prog 11 #[.agg (hdrV L K V A1 n1 c1 A2 n2 c2 A3 n3 c3 S P N NL).toArray, .int .i64 rest] w (Puts w (putR L K V N NL rest S P dst src tok)) := by
  have hl1 := hs1.1
  have hl2 := hs2.1
  have hl3 := hs3.1
  have HM := Lib.hid (rmay_any L K V A1 n1 c1 A2 n2 c2 A3 n3 c3 S P N NL)
  have HP : Hid (∀ u : World, Below w.heap.size w u → Sl u B A1 n1 dst ∧ Sl u B A2 n2 src ∧ Sl u B A3 n3 tok) := fun u hu => ⟨hs1.below (hu.mono hB), hs2.below (hu.mono hB), hs3.below (hu.mono hB)⟩
  have HB := Lib.hid hB
  obtain ⟨vs, hvs⟩ : ∃ vs, hdrV L K V A1 n1 c1 A2 n2 c2 A3 n3 c3 S P N NL = vs := ⟨_, rfl⟩
  have HVS := Lib.hid hvs
  have HSZ : Hid ((Try.prog.info? 26).map (·.size) = some vs.length) := show _ = _ by rw [← hvs]; exact hdr_size
  rw [hvs] at HM
  by_cases hM : MayP L K V n1 n2 n3 S P N NL
  · rw [decide_eq_true hM] at HM
    have hNL := hM.1
    obtain ⟨nl, rfl⟩ : ∃ nl : Nat, NL = (nl : Int) := ⟨NL.toNat, by omega⟩
    have h1 : 1 ≤ nl := by omega
    have h4 : nl ≤ 4 := by omega
    have hw : (rest < 0) ∨ (0 ≤ rest ∧ 16383 - (nl : Int) < rest) ∨ (0 ≤ rest ∧ rest ≤ 16383 - (nl : Int)) := by omega
    rcases hw with hr | ⟨hr, hr2⟩ | ⟨hr, hr2⟩
    · obtain ⟨R, hR⟩ : ∃ R, putR L K V N nl rest S P dst src tok = R := ⟨_, rfl⟩
      have HR : Hid (R = ([], 2)) := show _ = _ by rw [← hR]; unfold putR; rw [if_neg (by intro h; omega)]
      rw [hR]
      clear hs1 hs2 hs3 hB hvs hM hR
      unfold hdrV
      go_enter Try.func11, Try.ntmps11
      go_wp2_with (first
        | (go_at_call 15; (with_reducible refine (HM.out _).mono ?_); rintro e1 w1 ⟨rfl, b1⟩)
        | ((with_reducible refine wpList_load_rw rfl 26 (.tmp 2) rfl w.heap.size ?hx 26 vs ?hB _ Try.underlying26 rfl HSZ.out ?_); (case hx => with_unfolding_all rfl); (case hB => rw [← HVS.out]; exact heap_alloc_new w _)))
      go_ret2
      exact puts_nil _ _ _ HR.out (((Below.refl _ _).alloc (Nat.le_refl _) _).trans (b1.mono (by simp)))
    · obtain ⟨R, hR⟩ : ∃ R, putR L K V N nl rest S P dst src tok = R := ⟨_, rfl⟩
      have HR : Hid (R = ([], 2)) := show _ = _ by rw [← hR]; unfold putR; rw [if_neg (by intro h; omega)]
      rw [hR]
      have t1 : decide (16383 - (nl : Int) < rest) = true := by simp; omega
      clear hs1 hs2 hs3 hB hvs hM hR
      unfold hdrV
      go_enter Try.func11, Try.ntmps11
      go_wp2_with (first
        | (go_at_call 15; (with_reducible refine (HM.out _).mono ?_); rintro e1 w1 ⟨rfl, b1⟩; have c19 := ((show Rw (w.alloc _) _ _ vs by rw [← HVS.out]; exact heap_alloc_new w _).below b1); rw [← HVS.out] at c19; have c9 := (hdr_cells c19).2.2.2.2.2.2.2.2.2; clear c19)
        | ((with_reducible refine wpList_load_rw rfl 26 (.tmp 2) rfl w.heap.size ?hx 26 vs ?hB _ Try.underlying26 rfl HSZ.out ?_); (case hx => with_unfolding_all rfl); (case hB => rw [← HVS.out]; exact heap_alloc_new w _)))
      go_ret2
      exact puts_nil _ _ _ HR.out (((Below.refl _ _).alloc (Nat.le_refl _) _).trans (b1.mono (by simp)))
    · obtain ⟨r, rfl⟩ : ∃ r : Nat, rest = (r : Int) := ⟨rest.toNat, by omega⟩
      have hrn : r + nl ≤ 16383 := by omega
      have t1 : decide (16383 - (nl : Int) < (r : Int)) = false := by simp; omega
      have hn1 := hM.2.2.1
      have hN62 := hM.2.1
      have hrest := hM.2.2.2
      have hput : putR L K V N nl r S P dst src tok = (if L = true then putLV K.toNat V nl N r dst src tok else putSV S P nl N dst, 0) := by
        unfold putR
        rw [hl1, hl2, hl3, if_pos ⟨hM, by omega, by omega⟩]
        rfl
      rw [hput]
      subst hn1
      cases L
      · rw [if_neg (by simp)]
        simp only [Bool.false_eq_true, if_false] at hrest
        exact rputShort_any V nl N r hV ⟨h1, h4⟩ hN hrn S P dst src tok A1 c1 A2 n2 c2 A3 n3 c3 B w hs1 hs2 hs3 hB (by omega) (by omega) K hM
      · rw [if_pos rfl] at hrest ⊢
        obtain ⟨rfl, rfl, hK, hn2, hn3, h20⟩ := hrest
        rcases hK with rfl | rfl
        · exact rputLong0_any V nl N r hV ⟨h1, h4⟩ hN hrn false false dst src tok A1 c1 A2 n2 c2 A3 n3 c3 B w hs1 hs2 hs3 hB hn2 hn3 hM
        · exact rputLong2_any V nl N r hV ⟨h1, h4⟩ hN hrn false false dst src tok A1 c1 A2 n2 c2 A3 n3 c3 B w hs1 hs2 hs3 hB hn2 hn3 hM
  · rw [decide_eq_false hM] at HM
    obtain ⟨R, hR⟩ : ∃ R, putR L K V N NL rest S P dst src tok = R := ⟨_, rfl⟩
    have HR : Hid (R = ([], 2)) := show _ = _ by rw [← hR]; unfold putR; rw [hl1, hl2, hl3, if_neg (fun h => hM h.1)]
    rw [hR]
    clear hs1 hs2 hs3 hB hvs hM hR
    unfold hdrV
    go_enter Try.func11, Try.ntmps11
    go_wp2_with (first
      | (go_at_call 15; (with_reducible refine (HM.out _).mono ?_); rintro e1 w1 ⟨rfl, b1⟩)
      | ((with_reducible refine wpList_load_rw rfl 26 (.tmp 2) rfl w.heap.size ?hx 26 vs ?hB _ Try.underlying26 rfl HSZ.out ?_); (case hx => with_unfolding_all rfl); (case hB => rw [← HVS.out]; exact heap_alloc_new w _)))
    go_ret2
    exact puts_nil _ _ _ HR.out (((Below.refl _ _).alloc (Nat.le_refl _) _).trans (b1.mono (by simp)))
end Go.Proofs.Ytonoljcgcfjkmaa
