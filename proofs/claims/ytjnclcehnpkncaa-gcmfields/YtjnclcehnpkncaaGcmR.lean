/-
  The document's own product: the contract of its Times.
-/
import Derived.Test.YtjnclcehnpkncaaGcmC
import Derived.Test.YtjnclcehnpkncaaAesH
import Derived.Test.YtjnclcehnpkncaaSame
import Derived.Deep.CutRange
namespace Go.Proofs.Ytjnclcehnpkncaa
open Go.RowKit
set_option linter.unusedVariables false

/-- a row of which the bytes from j on are doubled -/
def dRow (v : List UInt8) (j : Nat) : List UInt8 := (List.range 16).map fun k => if j ≤ k ∧ 0 < k then dblB (v.getD k 0) (v.getD (k - 1) 0) else v.getD k 0
theorem dRow_length (v : List UInt8) (j : Nat) : (dRow v j).length = 16 := by simp [dRow]
theorem dRow_getD (v : List UInt8) (j k : Nat) (hk : k < 16) : (dRow v j).getD k 0 = if j ≤ k ∧ 0 < k then dblB (v.getD k 0) (v.getD (k - 1) 0) else v.getD k 0 := by
  unfold dRow
  rw [List.getD_eq_getElem?_getD, List.getElem?_map, List.getElem?_range hk]
  rfl
theorem getD_set (l : List UInt8) (i k : Nat) (x : UInt8) (hi : i < l.length) : (l.set i x).getD k 0 = if k = i then x else l.getD k 0 := by
  rw [List.getD_eq_getElem?_getD, List.getElem?_set]
  by_cases h : i = k
  · subst h
    rw [if_pos rfl, if_pos hi, if_pos rfl]
    rfl
  · rw [if_neg h, if_neg (fun e => h e.symm), ← List.getD_eq_getElem?_getD]
theorem dRow_start (v : List UInt8) (h : v.length = 16) : dRow v 16 = v := by
  refine list_ext16 _ _ (dRow_length _ _) h fun k hk => ?_
  rw [dRow_getD _ _ _ hk, if_neg (by omega)]
theorem dRow_set (v : List UInt8) (k : Nat) (h0 : 0 < k) (hk : k < 16) : (dRow v (k + 1)).set k (dblB (v.getD k 0) (v.getD (k - 1) 0)) = dRow v k := by
  refine list_ext16 _ _ (by rw [List.length_set, dRow_length]) (dRow_length _ _) fun j hj => ?_
  rw [getD_set _ _ _ _ (by rw [dRow_length]; exact hk), dRow_getD _ _ _ hj, dRow_getD _ _ _ hj]
  by_cases e : j = k
  · subst e
    rw [if_pos rfl, if_pos ⟨Nat.le_refl _, h0⟩]
  · rw [if_neg e]
    by_cases h1 : k ≤ j ∧ 0 < j
    · rw [if_pos h1, if_pos (by omega)]
    · rw [if_neg h1, if_neg (by omega)]
theorem dRow_even (v : List UInt8) (h : lowG v = 0) : (dRow v 1).set 0 (v.getD 0 0 >>> 1) = dblG v := by
  refine list_ext16 _ _ (by rw [List.length_set, dRow_length]) (dblG_length _) fun j hj => ?_
  rw [getD_set _ _ _ _ (by rw [dRow_length]; omega), dRow_getD _ _ _ hj, dblG_getD _ _ hj]
  by_cases e : j = 0
  · rw [if_pos e, if_pos e, h, UInt8.xor_zero]
  · rw [if_neg e, if_neg e, if_pos (by omega)]
theorem dRow_odd (v : List UInt8) (h : lowG v = 225) : ((dRow v 1).set 0 (v.getD 0 0 >>> 1)).set 0 ((v.getD 0 0 >>> 1) ^^^ 225) = dblG v := by
  refine list_ext16 _ _ (by rw [List.length_set, List.length_set, dRow_length]) (dblG_length _) fun j hj => ?_
  rw [getD_set _ _ _ _ (by rw [List.length_set, dRow_length]; omega), getD_set _ _ _ _ (by rw [dRow_length]; omega), dRow_getD _ _ _ hj, dblG_getD _ _ hj]
  by_cases e : j = 0
  · rw [if_pos e, if_pos e, h]
  · rw [if_neg e, if_neg e, if_neg e, if_pos (by omega)]
theorem shl7_bits (b : UInt8) : bn b * 128 % 256 = bn (b <<< 7) := bn_all (p := fun z b => z * 128 % 256 = bn (b <<< 7)) (by kernel_rfl) b
theorem shl7_wrap (b : UInt8) : IntKind.u8.wrap (bn b * 128) = bn (b <<< 7) := bn_all (p := fun z b => IntKind.u8.wrap (z * 128) = bn (b <<< 7)) (by kernel_rfl) b
theorem shr_bits (b : UInt8) (k : Nat) : bn b / 2 ^ k = bn (UInt8.ofNat (b.toNat / 2 ^ k)) := by
  have e : ((2 ^ k : Nat) : Int) = (2 : Int) ^ k := by simp
  unfold bn
  have h1 := b.toNat_lt
  have h2 : b.toNat / 2 ^ k ≤ b.toNat := Nat.div_le_self _ _
  rw [UInt8.toNat_ofNat', ← e, ← Int.natCast_ediv, Nat.mod_eq_of_lt (by omega)]
theorem ofNat_div (b : UInt8) (k : Nat) : (UInt8.ofNat (b.toNat / 2 ^ k)).toNat = b.toNat / 2 ^ k := by
  have h1 := b.toNat_lt
  have h2 : b.toNat / 2 ^ k ≤ b.toNat := Nat.div_le_self _ _
  rw [UInt8.toNat_ofNat', Nat.mod_eq_of_lt (by omega)]
theorem last_bit (v : List UInt8) : (v.getD (127 / 8) 0).toNat / 2 ^ (7 - 127 % 8) % 2 = (v.getD 15 0).toNat % 2 := by
  show (v.getD 15 0).toNat / 1 % 2 = _
  rw [Nat.div_one]
theorem xor225 (a : UInt8) : bits .xor .u8 (bn a) 225 = bn (a ^^^ 225) := u8_xor' a 225
theorem low_odd (v : List UInt8) (h : (v.getD 15 0).toNat % 2 = 1) : lowG v = 225 := by
  unfold lowG
  rw [if_pos]
  have e := bitG_low v
  rw [bitG_test] at e
  have e2 : (v.getD (127 / 8) 0).toNat.testBit (7 - 127 % 8) = true := by
    rw [Nat.testBit_eq_decide_div_mod_eq]
    rw [last_bit]
    exact decide_eq_true h
  rw [e2] at e
  exact of_decide_eq_true e.symm
theorem low_even (v : List UInt8) (h : (v.getD 15 0).toNat % 2 = 0) : lowG v = 0 := by
  unfold lowG
  rw [if_neg]
  have e := bitG_low v
  rw [bitG_test] at e
  have e2 : (v.getD (127 / 8) 0).toNat.testBit (7 - 127 % 8) = false := by
    rw [Nat.testBit_eq_decide_div_mod_eq]
    rw [last_bit]
    exact decide_eq_false (by omega)
  rw [e2] at e
  exact of_decide_eq_false e.symm
/-- what stands in memory while the document multiplies -/
structure TmW (w wr : World) (x z v : List UInt8) : Prop where
  x : Blk wr w.heap.size 22 x
  r : Blk wr (w.heap.size + 1 + 1) 22 (List.replicate 16 0)
  z : Blk wr (w.heap.size + 1 + 1 + 1) 22 z
  v : Blk wr (w.heap.size + 1 + 1 + 1 + 1) 22 v
  b : Below w.heap.size w wr
theorem TmW.drew {w wr : World} {x z v : List UInt8} (h : TmW w wr x z v) : TmW w wr.drew x z v := ⟨h.x, h.r, h.z, h.v, h.b.drew⟩
theorem TmW.putZ {w wr : World} {x z v : List UInt8} (h : TmW w wr x z v) (i : Nat) (y : UInt8) (z' : List UInt8) (e : z.set i y = z') : TmW w (wr.setCell ⟨w.heap.size + 1 + 1 + 1, i, none⟩ (.int .u8 (bn y))) x z' v :=
  ⟨h.x.other _ _ _ (by omega), h.r.other _ _ _ (by omega), by rw [← e]; exact h.z.put i y, h.v.other _ _ _ (by omega), h.b.setCell (by show _ ≤ w.heap.size + 1 + 1 + 1; omega) _⟩
theorem TmW.putV {w wr : World} {x z v : List UInt8} (h : TmW w wr x z v) (i : Nat) (y : UInt8) (v' : List UInt8) (e : v.set i y = v') : TmW w (wr.setCell ⟨w.heap.size + 1 + 1 + 1 + 1, i, none⟩ (.int .u8 (bn y))) x z v' :=
  ⟨h.x.other _ _ _ (by omega), h.r.other _ _ _ (by omega), h.z.other _ _ _ (by omega), by rw [← e]; exact h.v.put i y, h.b.setCell (by show _ ≤ w.heap.size + 1 + 1 + 1 + 1; omega) _⟩

attribute [local go_sem] u8_xor' u8_or' xor225
set_option maxRecDepth 4000 in
set_option maxHeartbeats 4000000 in
theorem rtimes_any (x y : List UInt8) (hx : x.length = 16) (hy : y.length = 16) (w : World) :
    Calls Try.prog 20 #[.agg (bvs x).toArray, .agg (bvs y).toArray] w fun e w' => e = .returned (.agg (bvs (timesG x y)).toArray) ∧ Below w.heap.size w w' := by
  have Hx := Lib.hid hx
  have Hy := Lib.hid hy
  have HZL : Hid (∀ n, (tG x y n).length = 16) := tG_length x y hy
  have HVL : Hid (∀ n, (vG y n).length = 16) := vG_length y hy
  clear hx hy
  go_enter Try.func20, Try.ntmps20
  go_wp2_with (first
    | ((with_reducible refine wpList_load_blk rfl 22 (.tmp 3) rfl (w.heap.size + 1) ?hx 22 y ?hg 16 5 Try.underlying22 16 sizeRow Hy.out ?_); (case hx => with_unfolding_all rfl); (case hg => exact heap_allocs w [_, _, _, _] 1 _ rfl))
    | ((with_reducible refine wpList_store_blk rfl 22 (.tmp 6) (.tmp 11) rfl (w.heap.size + 1 + 1 + 1 + 1) y ?hx ?hy 22 (List.replicate 16 0) ?hg 16 sizeRow Hy.out ?ho ?_); (case hx => with_unfolding_all rfl); (case hy => with_unfolding_all rfl); (case hg => exact heap_allocs w [_, _, _, _, _] 4 _ (by rw [← zeros_bvs]; rfl)); (case ho => rfl); intro w1 V1 O1))
  have HW0 : Hid (TmW w w1 x zG y) := by
    refine ⟨Blk.only (heap_allocs w [_, _, _, _, _] 0 _ rfl) O1.out (by omega), Blk.only (heap_allocs w [_, _, _, _, _] 2 _ (by rw [← zeros_bvs]; rfl)) O1.out (by omega), Blk.only (heap_allocs w [_, _, _, _, _] 3 _ rfl) O1.out (by omega), V1.out, ?_⟩
    exact ((((((Below.refl _ _).alloc (Nat.le_refl _) _).alloc (by simp) _).alloc (by simp; omega) _).alloc (by simp; omega) _).alloc (by simp; omega) _).trans (O1.out.below (by simp; omega) (by omega))
  clear V1 O1
  go_loopw [7] (fun v7 wr => ∃ n : Nat, n ≤ 128 ∧ v7 = .int .i64 n ∧ Hid (TmW w wr x (tG x y n) (vG y n))) (fun v7 _ => 128 - (intOf v7).toNat)
  case atStart => exact ⟨0, by omega, rfl, HW0⟩
  case round =>
    clear HW0
    obtain ⟨n, hn, rfl, HW⟩ := hrel
    by_cases hlt : n < 128
    · obtain ⟨q, hq⟩ : ∃ q : Nat, (n : Int).tdiv 8 = (q : Int) ∧ q = n / 8 := ⟨n / 8, rfl, rfl⟩
      obtain ⟨r, hr⟩ : ∃ r : Nat, (n : Int).tmod 8 = (r : Int) ∧ r = n % 8 := ⟨n % 8, rfl, rfl⟩
      obtain ⟨k, hk⟩ : ∃ k : Nat, 7 - (r : Int) = (k : Int) ∧ k = 7 - n % 8 := ⟨7 - n % 8, by omega, rfl⟩
      obtain ⟨hq, hq2⟩ := hq
      obtain ⟨hr, hr2⟩ := hr
      obtain ⟨hk, hk2⟩ := hk
      have lq : (q : Int) < 16 := by omega
      have vq : IntKind.i64.wrap (q : Int) = (q : Int) := IntWalk.i64_in _ (by omega)
      obtain ⟨X, hX⟩ : ∃ b, x.getD q 0 = b := ⟨_, rfl⟩
      have cx : wr.cell? ⟨w.heap.size, q, none⟩ = some (.int .u8 (bn X)) := by rw [HW.out.x.cell q (by rw [Hx.out]; omega), hX]
      obtain ⟨Y, hY⟩ : ∃ b, UInt8.ofNat (X.toNat / 2 ^ k) = b := ⟨_, rfl⟩
      have hv : bn X / 2 ^ k = bn Y := by rw [shr_bits, hY]
      have ha := and_bits Y
      have HBIT : Hid (bitG x n = decide (Y.toNat % 2 = 1)) := show _ = _ by
        unfold bitG
        rw [← hY, ofNat_div, ← hX, hq2, hk2]
      have ln : (n : Int) < 128 := by omega
      have HQ : Hid (q = n / 8 ∧ r = n % 8 ∧ k = 7 - n % 8) := ⟨hq2, hr2, hk2⟩
      clear hq2 hr2 hk2 hX hY
      obtain ⟨Z, hZ⟩ : ∃ z, tG x y n = z := ⟨_, rfl⟩
      obtain ⟨V, hV⟩ : ∃ z, vG y n = z := ⟨_, rfl⟩
      obtain ⟨Z', hZ'⟩ : ∃ z, tG x y (n + 1) = z := ⟨_, rfl⟩
      have HZl : Hid (Z.length = 16) := show _ = _ by rw [← hZ]; exact HZL.out n
      have HVl : Hid (V.length = 16) := show _ = _ by rw [← hV]; exact HVL.out n
      have HE : Hid (Z' = if Y.toNat % 2 = 1 then crossV Z V else Z) := show _ = _ by
        rw [← hZ', tG, HBIT.out, hZ, hV]
        by_cases h : Y.toNat % 2 = 1
        · rw [if_pos h, if_pos (decide_eq_true h)]
        · rw [if_neg h, if_neg (by simpa using h)]
      have HZ' := Lib.hid hZ'
      have HV := Lib.hid hV
      rw [hZ, hV] at HW
      clear hZ hV hZ'
      obtain ⟨bit, hbit⟩ : ∃ b : Bool, ((Y.toNat : Int) % 2 == 1) = b := ⟨_, rfl⟩
      go_upto_if 25 with fail
      go_cut [8] from 12 to 67 (fun v8 wx => Hid (TmW w wx x Z' V))
      case first =>
        cases bit
        · have h0 : ¬ Y.toNat % 2 = 1 := by simp at hbit; omega
          have hE : Z' = Z := by rw [HE.out, if_neg h0]
          subst hE
          clear hbit HE HBIT h0 ha hq hr hk hv vq cx HQ HZ' HV lq
          go_wp2_with fail
          go_meet
          exact HW
        · have h0 : Y.toNat % 2 = 1 := by simp at hbit; omega
          have hE : Z' = crossV Z V := by rw [HE.out, if_pos h0]
          subst hE
          clear hbit HE HBIT h0 ha hq hr hk hv vq cx HQ HZ' HV lq
          go_wp2_with fail
          go_loopw [8] (fun v8 wi => ∃ j : Nat, j ≤ 16 ∧ v8 = .int .i64 j ∧ Hid (TmW w wi x (mixr (crossV Z V) Z j) V)) (fun v8 _ => 16 - (intOf v8).toNat)
          case atStart => exact ⟨0, by omega, rfl, by rw [mixr_zero]; exact HW⟩
          case round =>
            clear HW
            obtain ⟨j, hj, rfl, HW⟩ := hrel
            have hzl := HZl.out
            have hvl := HVl.out
            have hcl := crossV_length Z V hzl hvl
            by_cases hlj : j < 16
            · obtain ⟨a, hA⟩ : ∃ b, Z.getD j 0 = b := ⟨_, rfl⟩
              obtain ⟨b, hB⟩ : ∃ b, V.getD j 0 = b := ⟨_, rfl⟩
              have ca : wr.cell? ⟨w.heap.size + 1 + 1 + 1, j, none⟩ = some (.int .u8 (bn a)) := by rw [HW.out.z.cell j (by rw [mixr_length _ _ _ (by omega)]; omega), mixr_old _ _ _ _ (by omega) (by omega) (Nat.le_refl _), hA]
              have cb : wr.cell? ⟨w.heap.size + 1 + 1 + 1 + 1, j, none⟩ = some (.int .u8 (bn b)) := by rw [HW.out.v.cell j (by omega), hB]
              have cf := HW.out.z.frozen j
              have HN : Hid ((mixr (crossV Z V) Z j).set j (a ^^^ b) = mixr (crossV Z V) Z (j + 1)) := show _ = _ by
                rw [← hA, ← hB, ← mixr_set _ _ _ (by omega) (by omega)]
                congr 1
                exact (crossV_getD Z V (by omega) j).symm
              have lj : (j : Int) < 16 := by omega
              have vj : IntKind.i64.wrap (j : Int) = (j : Int) := IntWalk.i64_in _ (by omega)
              clear hA hB hzl hvl hcl
              go_wp2_with fail
              refine wp_tail 9 (by kernel_rfl) (by kernel_rfl) ?_
              simp only [List.take_succ_cons, List.take_zero, List.drop_succ_cons, List.drop_zero]
              repeat still_step
              refine wpStill_nil ?_
              go_wp2
              go_roundw
              case rel =>
                have hfin : Hid (TmW w (wr.setCell ⟨w.heap.size + 1 + 1 + 1, j, none⟩ (.int .u8 (bn (a ^^^ b)))).drew x (mixr (crossV Z V) Z (j + 1)) V) := (HW.out.putZ j (a ^^^ b) _ HN.out).drew
                first
                  | exact ⟨j + 1, by omega, by go_num, hfin⟩
                  | ((repeat apply Exists.intro); exact ⟨⟨j + 1, by omega, by go_num, hfin⟩, rfl⟩)
              case measure => simp [intOf]; omega
            · obtain rfl : j = 16 := by omega
              rw [mixr_full _ _ _ (by omega) (by omega)] at HW
              clear hzl hvl hcl
              go_wp2_with fail
              go_meet
              exact HW
      case rest =>
        replace HW := hcut
        obtain ⟨p, hp⟩ : ∃ b, V.getD 15 0 = b := ⟨_, rfl⟩
        have cp : wc.cell? ⟨w.heap.size + 1 + 1 + 1 + 1, 15, none⟩ = some (.int .u8 (bn p)) := by rw [HW.out.v.cell 15 (by rw [HVl.out]; omega), hp]
        have hap := and_bits p
        have HVN : Hid (vG y (n + 1) = dblG V) := show _ = _ by rw [vG, HV.out]
        have HP := Lib.hid hp
        clear hbit hp HE HBIT ha hq hr hk hv vq cx HQ HV lq
        go_wp2_with fail
        clear cp
        go_loopw [10] (fun v10 wi => ∃ j : Nat, 1 ≤ j ∧ j ≤ 16 ∧ v10 = .int .i64 ((j : Int) - 1) ∧ Hid (TmW w wi x Z' (dRow V j))) (fun v10 _ => (intOf v10).toNat)
        case atStart => exact ⟨16, by omega, by omega, rfl, by rw [dRow_start V HVl.out]; exact HW⟩
        case round =>
          clear HW
          obtain ⟨j, hj1, hj, rfl, HW⟩ := hrel
          obtain ⟨m, hm⟩ : ∃ m, j = m + 1 := ⟨j - 1, by omega⟩
          subst hm
          have em : (((m + 1 : Nat) : Int) - 1) = (m : Int) := by omega
          rw [em]
          clear em
          by_cases hlm : 0 < m
          · obtain ⟨m', hm'⟩ : ∃ m', m = m' + 1 := ⟨m - 1, by omega⟩
            have hmi : (m : Int) - 1 = (m' : Int) := by omega
            obtain ⟨a, hA⟩ : ∃ b, V.getD m 0 = b := ⟨_, rfl⟩
            obtain ⟨b, hB⟩ : ∃ b, V.getD m' 0 = b := ⟨_, rfl⟩
            have ca : wr.cell? ⟨w.heap.size + 1 + 1 + 1 + 1, m, none⟩ = some (.int .u8 (bn a)) := by rw [HW.out.v.cell m (by rw [dRow_length]; omega), dRow_getD _ _ _ (by omega), if_neg (by omega), hA]
            have cb : wr.cell? ⟨w.heap.size + 1 + 1 + 1 + 1, m', none⟩ = some (.int .u8 (bn b)) := by rw [HW.out.v.cell m' (by rw [dRow_length]; omega), dRow_getD _ _ _ (by omega), if_neg (by omega), hB]
            have cf := HW.out.v.frozen m
            have h1 := half_bits a
            have h2 := shl7_bits b
            have h3 := shl7_wrap b
            have HN : Hid ((dRow V (m + 1)).set m ((a >>> 1) ||| (b <<< 7)) = dRow V m) := show _ = _ by
              rw [← dRow_set V m hlm (by omega), ← hA, ← hB, show m - 1 = m' by omega]
              rfl
            have lm : (m : Int) < 16 := by omega
            have lm2 : (m' : Int) < 16 := by omega
            have t2 : decide ((0 : Int) < (m : Int)) = true := by simp; omega
            have vm : IntKind.i64.wrap (m : Int) = (m : Int) := IntWalk.i64_in _ (by omega)
            have vm2 : IntKind.i64.wrap (m' : Int) = (m' : Int) := IntWalk.i64_in _ (by omega)
            have HM := Lib.hid hm'
            clear hA hB hm'
            go_wp2_with fail
            refine wp_tail 12 (by kernel_rfl) (by kernel_rfl) ?_
            simp only [List.take_succ_cons, List.take_zero, List.drop_succ_cons, List.drop_zero]
            repeat still_step
            refine wpStill_nil ?_
            go_wp2
            go_roundw
            case rel =>
              have hfin : Hid (TmW w (wr.setCell ⟨w.heap.size + 1 + 1 + 1 + 1, m, none⟩ (.int .u8 (bn ((a >>> 1) ||| (b <<< 7))))).drew x Z' (dRow V m)) := (HW.out.putV m _ _ HN.out).drew
              have hmm := HM.out
              first
                | exact ⟨m, by omega, by omega, rfl, hfin⟩
                | exact ⟨m, by omega, by omega, by congr 1; omega, hfin⟩
                | ((repeat apply Exists.intro); exact ⟨⟨m, by omega, by omega, rfl, hfin⟩, rfl⟩)
                | ((repeat apply Exists.intro); exact ⟨⟨m, by omega, by omega, by congr 1; omega, hfin⟩, rfl⟩)
            case measure => simp [intOf]; omega
          · obtain rfl : m = 0 := by omega
            obtain ⟨a, hA⟩ : ∃ b, V.getD 0 0 = b := ⟨_, rfl⟩
            have ca : wr.cell? ⟨w.heap.size + 1 + 1 + 1 + 1, 0, none⟩ = some (.int .u8 (bn a)) := by rw [HW.out.v.cell 0 (by rw [dRow_length]; omega), dRow_getD _ _ _ (by omega), if_neg (by omega), hA]
            have cf := HW.out.v.frozen 0
            have h1 := half_bits a
            rcases Nat.mod_two_eq_zero_or_one p.toNat with h0 | h0
            · have HN : Hid ((dRow V (0 + 1)).set 0 (a >>> 1) = dblG V) := show _ = _ by
                rw [← hA]
                exact dRow_even V (low_even V (by rw [HP.out]; exact h0))
              have t2 : ((p.toNat : Int) % 2 == 1) = false := by simp; omega
              clear hA h0
              go_wp2_with fail
              go_roundw
              case rel =>
                have hfin : Hid (TmW w (wr.setCell ⟨w.heap.size + 1 + 1 + 1 + 1, 0, none⟩ (.int .u8 (bn (a >>> 1)))) x (tG x y (n + 1)) (vG y (n + 1))) := show TmW _ _ _ _ _ by
                  rw [HZ'.out, HVN.out]
                  exact HW.out.putV 0 _ _ HN.out
                first
                  | exact ⟨n + 1, by omega, by go_num, hfin⟩
                  | ((repeat apply Exists.intro); exact ⟨⟨n + 1, by omega, by go_num, hfin⟩, rfl⟩)
              case measure => simp [intOf]; omega
            · have HN : Hid (((dRow V (0 + 1)).set 0 (a >>> 1)).set 0 ((a >>> 1) ^^^ 225) = dblG V) := show _ = _ by
                rw [← hA]
                exact dRow_odd V (low_odd V (by rw [HP.out]; exact h0))
              have t2 : ((p.toNat : Int) % 2 == 1) = true := by simp; omega
              clear hA h0
              go_wp2_with fail
              go_roundw
              case rel =>
                have hfin : Hid (TmW w ((wr.setCell ⟨w.heap.size + 1 + 1 + 1 + 1, 0, none⟩ (.int .u8 (bn (a >>> 1)))).setCell ⟨w.heap.size + 1 + 1 + 1 + 1, 0, none⟩ (.int .u8 (bn ((a >>> 1) ^^^ 225)))) x (tG x y (n + 1)) (vG y (n + 1))) := show TmW _ _ _ _ _ by
                  rw [HZ'.out, HVN.out]
                  exact (HW.out.putV 0 _ _ rfl).putV 0 _ _ HN.out
                first
                  | exact ⟨n + 1, by omega, by go_num, hfin⟩
                  | ((repeat apply Exists.intro); exact ⟨⟨n + 1, by omega, by go_num, hfin⟩, rfl⟩)
              case measure => simp [intOf]; omega
    · obtain rfl : n = 128 := by omega
      have HTL : Hid ((timesG x y).length = 16) := HZL.out 128
      have HZ : Hid (Blk wr (w.heap.size + 1 + 1 + 1) 22 (timesG x y)) := HW.out.z
      go_wp2_with (first
        | ((with_reducible refine wpList_load_blk rfl 22 (.tmp 5) rfl (w.heap.size + 1 + 1 + 1) ?hx 22 _ HZ.out 16 5 Try.underlying22 16 sizeRow HTL.out ?_); (case hx => with_unfolding_all rfl))
        | ((with_reducible refine wpList_store_blk rfl 22 (.tmp 4) (.tmp 68) rfl (w.heap.size + 1 + 1) (timesG x y) ?hx ?hy 22 (List.replicate 16 0) HW.out.r 16 sizeRow HTL.out ?ho ?_); (case hx => with_unfolding_all rfl); (case hy => with_unfolding_all rfl); (case ho => rfl); intro w2 H2 O2))
      refine ret_blk Try.results20 (w.heap.size + 1 + 1) 22 _ 16 5 rfl H2.out Try.underlying22 16 sizeRow HTL.out rfl ⟨rfl, ?_⟩
      exact HW.out.b.trans (O2.out.below HW.out.b.size (by omega))
end Go.Proofs.Ytjnclcehnpkncaa
