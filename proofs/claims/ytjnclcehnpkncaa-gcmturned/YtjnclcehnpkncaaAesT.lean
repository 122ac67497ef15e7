/-
  The document's own boxes.
-/
import Derived.Test.YtjnclcehnpkncaaAesH
namespace Go.Proofs.Ytjnclcehnpkncaa
open Go.RowKit
set_option linter.unusedVariables false

/-- zeros, under a name that no rule opens -/
def z256 : List UInt8 := List.replicate 256 0
theorem z256_length : z256.length = 256 := List.length_replicate
theorem size256 : (Try.prog.info? 62).map (·.size) = some 256 := by kernel_rfl
theorem zero256v (u : World) : (zeroValue 62).run Try.prog u = .ok (.agg (bvs z256).toArray) u := (zero_of_info (n := 256) (by kernel_rfl)).1 u
theorem powL_zero : powL 0 = z256 := rfl
theorem logL_zero : logL 0 = z256 := rfl
theorem powL_length (n : Nat) (h : n ≤ 256) : (powL n).length = 256 := by
  unfold powL
  rw [List.length_append, List.length_map, List.length_range, List.length_replicate]
  omega
theorem logL_length (n : Nat) : (logL n).length = 256 := by
  induction n with
  | zero => exact z256_length
  | succ n ih => rw [logL, List.length_set, ih]
theorem powL_set (n : Nat) (h : n < 256) : (powL n).set n (powU n) = powL (n + 1) := by
  unfold powL
  obtain ⟨k, hk⟩ : ∃ k, 256 - n = k + 1 := ⟨255 - n, by omega⟩
  rw [List.set_append, if_neg (by rw [List.length_map, List.length_range]; omega), List.length_map, List.length_range, Nat.sub_self, hk, List.replicate_succ, List.set_cons_zero, List.range_succ, List.map_append, show 256 - (n + 1) = k by omega]
  simp only [List.map_cons, List.map_nil, List.append_assoc, List.cons_append, List.nil_append]
theorem bn_toNat (x : UInt8) : (bn x).toNat = x.toNat := rfl
theorem powT_length : powT.length = 256 := by kernel_rfl
theorem logT_length : logT.length = 256 := by kernel_rfl

structure Bxs (w wr : World) (g b : Nat) : Prop where
  r : Blk wr w.heap.size 62 z256
  p : Blk wr (w.heap.size + 1) 62 powT
  l : Blk wr (w.heap.size + 1 + 1) 62 logT
  o : Blk wr g 62 (mixr boxT z256 b)
  b : Below w.heap.size w wr
  og : w.heap.size + 1 + 1 < g
theorem Bxs.drewN {w wr : World} {g b : Nat} (h : Bxs w wr g b) (n : Nat) : Bxs w (wr.drewN n) g b := ⟨h.r, h.p, h.l, h.o, below_drewN h.b n, h.og⟩
theorem Bxs.put {w wr : World} {g b : Nat} (h : Bxs w wr g b) (hb : b < 256) (x : UInt8) (hx : x = boxT.getD b 0) : Bxs w (wr.setCell ⟨g, b, none⟩ (.int .u8 (bn x))) g (b + 1) := by
  have ho := h.og
  subst hx
  refine ⟨h.r.other _ _ _ (by omega), h.p.other _ _ _ (by omega), h.l.other _ _ _ (by omega), ?_, h.b.setCell (by show _ ≤ g; omega) _, ho⟩
  rw [← mixr_set _ _ _ (by rw [boxT_length, z256_length]) (by rw [z256_length]; exact hb)]
  exact h.o.put _ _

attribute [local go_sem] u8_xor' u8_or'
set_option maxRecDepth 4000 in
set_option maxHeartbeats 4000000 in
theorem boxes_any (w : World) : Calls Try.prog 36 #[] w fun e w' => e = .returned (.agg (bvs boxT).toArray) ∧ Below w.heap.size w w' := by
  have HZ := zero256v
  go_enter Try.func36, Try.ntmps36
  go_wp2_with fail
  go_loopw [3, 4] (fun vx vi wr => ∃ i : Nat, i ≤ 255 ∧ vi = .int .i64 i ∧ vx = .int .u8 (bn (powU i)) ∧ Hid (Blk wr (w.heap.size + 1) 62 (powL i)) ∧ Hid (Blk wr (w.heap.size + 1 + 1) 62 (logL i)) ∧ Hid (Blk wr w.heap.size 62 z256) ∧ Hid (Below w.heap.size w wr)) (fun _ vi _ => 255 - (intOf vi).toNat)
  case atStart =>
    refine ⟨0, by omega, rfl, rfl, ?_, ?_, ?_, (((Below.refl _ _).alloc (Nat.le_refl _) _).alloc (by simp) _).alloc (by simp; omega) _⟩
    · rw [powL_zero]; exact heap_allocs w [_, _, _] 1 _ rfl
    · rw [logL_zero]; exact heap_allocs w [_, _, _] 2 _ rfl
    · exact heap_allocs w [_, _, _] 0 _ rfl
  case round =>
    obtain ⟨i, hi, rfl, rfl, HP, HL, HR, HB⟩ := hrel
    by_cases hit : i < 255
    · have li : (i : Int) < 255 := by omega
      have li2 : (i : Int) < 256 := by omega
      obtain ⟨x, hx⟩ : ∃ x, powU i = x := ⟨_, rfl⟩
      have Hx := Lib.hid hx
      rw [hx]
      have hxb := bn_bd x
      have hcv := byte_conv i (by omega)
      have hcm : (i : Int) % 256 = bn (UInt8.ofNat i) := by rw [← hcv]; simp [IntKind.wrap, IntKind.bits, IntKind.signed]
      have HPN : Hid ((powL i).set i x = powL (i + 1)) := show _ = _ by rw [← hx]; exact powL_set i (by omega)
      have HLN : Hid ((logL i).set (bn x).toNat (UInt8.ofNat i) = logL (i + 1)) := show _ = _ by rw [bn_toNat, ← hx]; rfl
      have HE : Hid (x ^^^ dblV x = powU (i + 1)) := show _ = _ by rw [← hx]; rfl
      have HXB : Hid ((bn x).toNat < 256) := show _ < _ by rw [bn_toNat]; exact x.toNat_lt
      clear hx
      go_wp2_with (first
        | ((with_reducible refine wpList_put_blk rfl 5 (.tmp 19) (.tmp 16) rfl (w.heap.size + 1) i x ?hx ?hy 62 (powL i) HP.out size1 ?hl ?_); (case hx => with_unfolding_all rfl); (case hy => with_unfolding_all rfl); (case hl => rw [powL_length i (by omega)]; omega); rw [HPN.out]; intro w1 P1 O1; have L1 : Hid (Blk w1 (w.heap.size + 1 + 1) 62 (logL i)) := HL.out.only O1.out (by omega))
        | ((with_reducible refine wpList_put_blk rfl 5 (.tmp 20) (.tmp 18) rfl (w.heap.size + 1 + 1) (bn x).toNat (UInt8.ofNat i) ?hx ?hy 62 (logL i) L1.out size1 ?hl ?_); (case hx => with_unfolding_all rfl); (case hy => with_unfolding_all rfl); (case hl => rw [logL_length]; exact HXB.out); rw [HLN.out]; intro w2 L2 O2)
        | (go_at_call 46; (with_reducible refine (rdbl_any _ _).mono ?_); rintro e1 w3 ⟨rfl, rfl⟩))
      go_roundw
      case rel =>
        have P2 : Hid (Blk w2 (w.heap.size + 1) 62 (powL (i + 1))) := P1.out.only O2.out (by omega)
        have R2 : Hid (Blk w2 w.heap.size 62 z256) := (HR.out.only O1.out (by omega)).only O2.out (by omega)
        have B1 : Below w.heap.size w w1 := HB.out.trans (O1.out.below HB.out.size (by omega))
        have B2 : Hid (Below w.heap.size w w2) := B1.trans (O2.out.below B1.size (by omega))
        exact ⟨i + 1, by omega, by go_num, by rw [HE.out], P2, L2, R2, B2⟩
      case measure => simp [intOf]; omega
    · obtain rfl : i = 255 := by omega
      rw [pow_all] at HP
      rw [log_all] at HL
      obtain ⟨px, hpx⟩ : ∃ x, powU 255 = x := ⟨_, rfl⟩
      rw [hpx]
      clear hpx
      obtain ⟨g, eg⟩ : ∃ g, wr.heap.size = g := ⟨_, rfl⟩
      have HS : Hid (Bxs w (wr.alloc (.cells (bvs z256).toArray 62)) g 0) := by
        refine ⟨HR.out.alloc _, HP.out.alloc _, HL.out.alloc _, ?_, HB.out.alloc HB.out.size _, ?_⟩
        · rw [mixr_zero, ← eg]; exact blk_new _ _ _
        · rw [← eg]; exact HL.out.lt
      have Heg := Lib.hid eg
      clear HP HL HR HB eg
      go_wp2_with fail
      rw [Heg.out]
      go_loopw [6] (fun vb wx => ∃ b : Nat, b ≤ 256 ∧ vb = .int .i64 b ∧ Hid (Bxs w wx g b)) (fun vb _ => 256 - (intOf vb).toNat)
      case atStart => exact ⟨0, by omega, rfl, HS⟩
      case round =>
        clear HS
        obtain ⟨b, hb, rfl, HS⟩ := hrel
        by_cases hbt : b < 256
        · have lb : (b : Int) < 256 := by omega
          obtain ⟨L, hL⟩ : ∃ x, logT.getD b 0 = x := ⟨_, rfl⟩
          have hLb := bn_bd L
          obtain ⟨q, eq, hq⟩ : ∃ q : Nat, (255 - bn L).tmod 255 = (q : Int) ∧ Hid ((255 - L.toNat) % 255 = q) := ⟨(255 - L.toNat) % 255, by
            have h1 : L.toNat < 256 := L.toNat_lt
            rw [show 255 - bn L = ((255 - L.toNat : Nat) : Int) by unfold bn; omega]; rfl, rfl⟩
          have lq : (q : Int) < 256 := by have := hq.out; omega
          obtain ⟨v, hv⟩ : ∃ x, invP b = x := ⟨_, rfl⟩
          have cl : wr.cell? ⟨w.heap.size + 1 + 1, b, none⟩ = some (.int .u8 (bn L)) := by rw [HS.out.l.cell b (by rw [logT_length]; exact hbt), hL]
          have cp : 0 < b → wr.cell? ⟨w.heap.size + 1, q, none⟩ = some (.int .u8 (bn v)) := fun h0 => by
            rw [HS.out.p.cell q (by rw [powT_length]; omega), ← hv, invP, if_neg (by omega), hL, hq.out]
          have HV : Hid (affU v 5 = boxT.getD b 0) := show _ = _ by rw [← hv]; exact box_powers b hbt
          obtain ⟨old, cd⟩ : ∃ old, wr.cell? ⟨g, b, none⟩ = some old := ⟨_, HS.out.o.cell b (by rw [mixr_length _ _ _ (by rw [boxT_length, z256_length]), z256_length]; exact hbt)⟩
          have cf := HS.out.o.frozen b
          have hcase : (0 < b ∧ decide (0 < b) = true ∧ wr.cell? ⟨w.heap.size + 1, q, none⟩ = some (.int .u8 (bn v))) ∨ (b = 0 ∧ v = 0) := by
            by_cases h0 : 0 < b
            · exact .inl ⟨h0, by simp; omega, cp h0⟩
            · obtain rfl : b = 0 := by omega
              exact .inr ⟨rfl, by rw [← hv]; rfl⟩
          have a0 := lo_0 v
          have b0 := hi_0 v
          have a1 := lo_1 v
          have b1 := hi_1 v
          have a2 := lo_2 v
          have b2 := hi_2 v
          have a3 := lo_3 v
          have b3 := hi_3 v
          have a4 := lo_4 v
          have b4 := hi_4 v
          have w4 : IntKind.i64.wrap 4 = 4 := by decide
          have w5 : IntKind.i64.wrap 5 = 5 := by decide
          have w6 : IntKind.i64.wrap 6 = 6 := by decide
          have w7 : IntKind.i64.wrap 7 = 7 := by decide
          have w8 : IntKind.i64.wrap 8 = 8 := by decide
          clear hL hv cp
          rcases hcase with ⟨h0, t0, cp⟩ | ⟨hb0, hv0⟩
          · go_wp2_with fail
            go_loopw [8, 9] (fun vs vi wx => ∃ i n : Nat, i ≤ 5 ∧ vi = .int .i64 i ∧ vs = .int .u8 (bn (affU v i)) ∧ wx = wr.drewN n) (fun _ vi _ => 5 - (intOf vi).toNat)
            case atStart => exact ⟨0, 0, by omega, rfl, rfl, rfl⟩
            case round =>
              obtain ⟨i, n, hi, rfl, rfl, rfl⟩ := hrel
              by_cases hit : i < 5
              · have HAN := Lib.hid (aff_next v i hit)
                have hcase : i = 0 ∨ i = 1 ∨ i = 2 ∨ i = 3 ∨ i = 4 := by omega
                clear cl cp cd cf
                rcases hcase with rfl | rfl | rfl | rfl | rfl
                all_goals
                  go_wp2_with fail
                  refine wp_tail 10 (by kernel_rfl) (by kernel_rfl) ?_
                  simp only [List.take_succ_cons, List.take_zero, List.drop_succ_cons, List.drop_zero]
                  repeat still_step
                  refine wpStill_nil ?_
                  go_wp2
                  go_roundw
                  case rel => first | exact ⟨_, n + 1, hit, by go_num, by rw [HAN.out], rfl⟩ | ((repeat apply Exists.intro); exact ⟨⟨_, n + 1, hit, by go_num, by rw [HAN.out], rfl⟩, rfl⟩)
                  case measure => simp [intOf]
              · obtain rfl : i = 5 := by omega
                obtain ⟨y, hy⟩ : ∃ y, boxT.getD b 0 = y := ⟨_, rfl⟩
                have HY := Lib.hid hy
                rw [HV.out, hy]
                clear hy
                go_wp2_with fail
                go_roundw
                case rel =>
                  first
                    | exact ⟨b + 1, by omega, by go_num, (HS.out.drewN n).put hbt _ HY.out.symm⟩
                    | ((repeat apply Exists.intro); exact ⟨⟨b + 1, by omega, by go_num, (HS.out.drewN n).put hbt _ HY.out.symm⟩, rfl⟩)
                case measure => simp [intOf]; omega
          · subst hv0
            subst hb0
            have z1 : ∀ y : UInt8, bits .xor .u8 (bn y) 0 = bn y := fun y => by have h := u8_xor' y 0; rw [UInt8.xor_zero] at h; exact h
            have z3 : bits .or .u8 (IntKind.u8.wrap 0) 0 = 0 := by kernel_rfl
            have Z1 := Lib.hid z1
            have Z3 := Lib.hid z3
            clear z1 z3
            go_wp2_with fail
            go_loopw [8, 9] (fun vs vi wx => ∃ i n : Nat, i ≤ 5 ∧ vi = .int .i64 i ∧ vs = .int .u8 (bn (affU 0 i)) ∧ wx = wr.drewN n) (fun _ vi _ => 5 - (intOf vi).toNat)
            case atStart => exact ⟨0, 0, by omega, rfl, rfl, rfl⟩
            case round =>
              obtain ⟨i, n, hi, rfl, rfl, rfl⟩ := hrel
              by_cases hit : i < 5
              · have HAN : Hid (affU 0 (i + 1) = affU 0 i) := by
                  show _ = _
                  have hcase : i = 0 ∨ i = 1 ∨ i = 2 ∨ i = 3 ∨ i = 4 := by omega
                  rcases hcase with rfl | rfl | rfl | rfl | rfl <;> rfl
                have hcase : i = 0 ∨ i = 1 ∨ i = 2 ∨ i = 3 ∨ i = 4 := by omega
                clear cl cd cf
                rcases hcase with rfl | rfl | rfl | rfl | rfl
                all_goals
                  go_wp2_with fail
                  refine wp_tail 10 (by kernel_rfl) (by kernel_rfl) ?_
                  simp only [List.take_succ_cons, List.take_zero, List.drop_succ_cons, List.drop_zero]
                  repeat still_step
                  refine wpStill_nil ?_
                  go_wp2
                  go_roundw
                  case rel => first | exact ⟨_, n + 1, hit, by go_num, by rw [HAN.out, Z3.out, Z1.out], rfl⟩ | ((repeat apply Exists.intro); exact ⟨⟨_, n + 1, hit, by go_num, by rw [HAN.out, Z3.out, Z1.out], rfl⟩, rfl⟩)
                  case measure => simp [intOf]
              · obtain rfl : i = 5 := by omega
                obtain ⟨y, hy⟩ : ∃ y, boxT.getD 0 0 = y := ⟨_, rfl⟩
                have HY := Lib.hid hy
                rw [HV.out, hy]
                clear hy
                go_wp2_with fail
                go_roundw
                case rel =>
                  first
                    | exact ⟨0 + 1, by omega, by go_num, (HS.out.drewN n).put hbt _ HY.out.symm⟩
                    | ((repeat apply Exists.intro); exact ⟨⟨0 + 1, by omega, by go_num, (HS.out.drewN n).put hbt _ HY.out.symm⟩, rfl⟩)
                case measure => simp [intOf]
        · obtain rfl : b = 256 := by omega
          have HO : Hid (Blk wr g 62 boxT) := by
            have h := HS.out.o
            rw [mixr_full _ _ _ (by rw [boxT_length, z256_length]) (by rw [z256_length]; exact Nat.le_refl _)] at h
            exact h
          have HR : Hid (Blk wr w.heap.size 62 z256) := HS.out.r
          have HB : Hid (Below w.heap.size w wr) := HS.out.b
          clear HS
          go_wp2_with (first
            | ((with_reducible refine wpList_load_blk rfl 62 (.tmp 5) rfl g ?hx 62 boxT HO.out 256 5 Try.underlying62 256 size256 boxT_length ?_); (case hx => with_unfolding_all rfl))
            | ((with_reducible refine wpList_store_blk rfl 62 (.tmp 0) (.tmp 56) rfl w.heap.size boxT ?hx ?hy 62 z256 HR.out 256 size256 boxT_length z256_length ?_); (case hx => with_unfolding_all rfl); (case hy => with_unfolding_all rfl); intro w2 H2 HO2))
          refine ret_blk Try.results36 w.heap.size 62 boxT 256 5 rfl H2.out Try.underlying62 256 size256 boxT_length rfl ⟨rfl, ?_⟩
          exact HB.out.trans (HO2.out.below HB.out.size (Nat.le_refl _))
end Go.Proofs.Ytjnclcehnpkncaa
