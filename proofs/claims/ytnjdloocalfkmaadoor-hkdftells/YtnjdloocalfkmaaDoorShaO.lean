/-
  The contract of the document's own Sum.
-/
import Derived.Test.YtnjdloocalfkmaaDoorShaN
namespace Go.Proofs.YtnjdloocalfkmaaDoor
open Go.RowKit Go.Joins
set_option linter.unusedVariables false

structure RSum (w wx : World) (gk gh ga N : Nat) (all : List UInt8) (s : List UInt32) : Prop where
  res : ∃ cs, wx.heap[w.heap.size]? = some (.cells cs 27 (0, 0)) ∧ cs.size = 32
  kk : wx.heap[gk]? = some (.cells (wvs kV).toArray 50 (0, 0))
  hh : wx.heap[gh]? = some (.cells (wvs s).toArray 45 (0, 0))
  al : Sl wx gh (some ⟨ga, 0, none⟩) N all
  sz : w.heap.size < gk ∧ gk < gh ∧ ga < gh ∧ gh < wx.heap.size
  bl : Below w.heap.size w wx
theorem RSum.only {w wx w' : World} {gk gh ga N : Nat} {all : List UInt8} {s s' : List UInt32} (k : RSum w wx gk gh ga N all s) (ho : Only gh wx w') (hv : w'.heap[gh]? = some (.cells (wvs s').toArray 45 (0, 0))) : RSum w w' gk gh ga N all s' := by
  obtain ⟨q1, q2, q3, q4⟩ := k.sz
  obtain ⟨cs, h1, h1s⟩ := k.res
  have hs := ho.size
  refine ⟨⟨cs, by rw [ho.block _ (by omega) (by omega)]; exact h1, h1s⟩, by rw [ho.block _ (by omega) (by omega)]; exact k.kk, hv, ?_, ⟨q1, q2, q3, by omega⟩, k.bl.trans (ho.below (by omega) (by omega))⟩
  exact ho.sl k.al (by omega) (fun b off e => by injection e with e; injection e with e; omega)
theorem RSum.drew {w wx : World} {gk gh ga N : Nat} {all : List UInt8} {s : List UInt32} (k : RSum w wx gk gh ga N all s) : RSum w wx.drew gk gh ga N all s := ⟨k.res, k.kk, k.hh, k.al, k.sz, k.bl.drew⟩
theorem RSum.below {w wx w' : World} {gk gh ga N : Nat} {all : List UInt8} {s : List UInt32} (k : RSum w wx gk gh ga N all s) (hb : Below wx.heap.size wx w') : RSum w w' gk gh ga N all s :=
  k.only (.of_below hb) (by rw [hb.block _ k.sz.2.2.2]; exact k.hh)

set_option maxHeartbeats 1000000 in
theorem rsum_any (l : List UInt8) (A : Option Addr) (n c B : Nat) (w : World) (hs : Sl w B A n l) (hB : B ≤ w.heap.size) (hn : n ≤ 35184372088832) :
    Calls Tryd.prog 25 #[.slice A n c] w fun e w' => e = .returned (.agg (bvs (sumV l)).toArray) ∧ Below w.heap.size w w' := by
  have hl := hs.1
  have hpb := padN_bd n
  obtain ⟨N, hN⟩ : ∃ N, n + padN n = N := ⟨_, rfl⟩
  have HS := Lib.hid hs
  have Hl := Lib.hid hl
  have HN := Lib.hid hN
  have hp9 : 9 ≤ padN n := hpb.1
  have hp72 : padN n ≤ 72 := hpb.2.1
  have hNm : N % 64 = 0 := by rw [← hN]; exact hpb.2.2
  have hNb : N ≤ 35184372088904 := by omega
  have hN9 : 9 ≤ N := by omega
  clear hs hl hN hpb
  go_enter Tryd.func25, Tryd.ntmps25
  go_wp2_with (first
    | (at_builtin; (refine wpList_append_bytes rfl (.const (.slice none 0 0)) (.tmp 9) rfl (w.heap.size + 1) (.slice none 0 0) 0 [] rfl (Own.nil _ _) B A n c l rfl ?hsl (by omega) ?hba (w.alloc (.cells (List.replicate 32 (.int .u8 0)).toArray 27)) ?hbe ?_); (case hsl => exact HS.out.below ((Below.refl _ _).alloc hB _)); (case hba => simp); (case hbe => exact Below.refl _ _); intro A1 c1 w1 ho1 hle1 hc1 hg1 hb1; simp only [Nat.zero_add, List.nil_append] at ho1 hle1; rw [Nat.zero_add]; have HO1 := Lib.hid ho1; have HB1 := Lib.hid hb1; clear ho1 hg1 hb1)
    | (go_at_call 28; (with_reducible refine (rpad_any n (by omega) _).mono ?_); rintro e2 w2 ⟨A2, c2, rfl, ho2, hle2, hc2, hb2⟩; have HO2 := Lib.hid ho2; have HB2 := Lib.hid hb2; clear ho2 hb2)
    | (at_builtin; (refine wpList_append_bytes rfl (.tmp 10) (.tmp 13) rfl (w.heap.size + 1) (.slice A1 n c1) n l rfl ?how w2.heap.size A2 (padN n) c2 (padV n) rfl HO2.out.sl (by omega) ?hba w2 ?hbe ?_); (case how => exact HO1.out.below HB2.out); (case hba => have h1 := HB1.out.size; have h2 := HB2.out.size; simp at h1; omega); (case hbe => exact Below.refl _ _); intro A3 c3 w3 ho3 hle3 hc3 hg3 hb3; have HO3 := Lib.hid ho3; have HB3 := Lib.hid hb3; clear ho3 hg3 hb3))
  have hN := HN.out
  obtain ⟨ga, hga, hga1, hga2⟩ := HO3.out.at_ (by omega)
  obtain ⟨al, hal⟩ : ∃ al, l ++ padV n = al := ⟨_, rfl⟩
  have HSl : Hid (Sl w3 w3.heap.size (some ⟨ga, 0, none⟩) N al) := by
    have h := HO3.out.sl
    rw [hga, hN, hal] at h
    exact h
  have hall : al.length = N := HSl.out.1
  have HAl := Lib.hid hal
  have HB : Hid (Below w.heap.size w w3) := by
    show Below _ _ _
    have h1 := HB1.out.size
    have h2 := HB2.out.size
    simp at h1
    exact ((((Below.refl _ _).alloc (Nat.le_refl _) _).trans (HB1.out.mono (by omega))).trans (HB2.out.mono (by omega))).trans (HB3.out.mono (by omega))
  have HRes : Hid (w3.heap[w.heap.size]? = some (.cells (List.replicate 32 (.int .u8 0)).toArray 27 (0, 0))) := by
    show _ = _
    have h1 := HB1.out.size
    simp at h1
    rw [HB3.out.block _ (by omega), HB2.out.block _ (by omega), HB1.out.block _ (by omega)]
    exact heap_alloc_new _ _
  have hs3 : w.heap.size + 1 ≤ w3.heap.size := by
    have h1 := HB1.out.size
    have h2 := HB2.out.size
    have h3 := HB3.out.size
    simp at h1; omega
  rw [hga, hN]
  rw [hN] at hle3
  clear hal hga HO3 HB1 HB2 HB3 HO1 HO2 hN
  go_wp2_with (first
    | (go_at_call 29; (with_reducible refine (consts_any _).mono ?_); rintro e4 w4 ⟨rfl, hb4⟩; have HB4 := Lib.hid hb4; clear hb4)
    | ((with_reducible refine wpList_store_only rfl 50 (.tmp 4) (.tmp 15) rfl w4.heap.size (wvs kV) ?hx ?hy 50 (List.replicate 64 (.int .u32 0)).toArray ?hg ?hi ?ho (wvs_one _) ?_); (case hx => with_unfolding_all rfl); (case hy => with_unfolding_all rfl); (case hg => exact heap_alloc_new _ _); (case hi => exact size64); (case ho => rfl); intro w5 H5 HO5)
    | (go_at_call 30; (with_reducible refine (start_any _).mono ?_); rintro e6 w6 ⟨rfl, hb6⟩; have HB6 := Lib.hid hb6; clear hb6)
    | ((with_reducible refine wpList_store_only rfl 45 (.tmp 5) (.tmp 16) rfl w6.heap.size (wvs startV) ?hx ?hy 45 (List.replicate 8 (.int .u32 0)).toArray ?hg ?hi ?ho (wvs_one _) ?_); (case hx => with_unfolding_all rfl); (case hy => with_unfolding_all rfl); (case hg => exact heap_alloc_new _ _); (case hi => exact size8); (case ho => rfl); intro w7 H7 HO7))
  have hR : RSum w w7 w4.heap.size w6.heap.size ga N al startV := by
    have s4 := HB4.out.size
    have s5 := HO5.out.size
    have s6 := HB6.out.size
    have s7 := HO7.out.size
    simp at s5 s7
    have b5 : Below w4.heap.size w4 w5 := ((Below.refl _ _).alloc (Nat.le_refl _) _).trans (HO5.out.below (by simp) (Nat.le_refl _))
    have b7 : Below w6.heap.size w6 w7 := ((Below.refl _ _).alloc (Nat.le_refl _) _).trans (HO7.out.below (by simp) (Nat.le_refl _))
    have b37 : Below w3.heap.size w3 w7 := ((HB4.out.trans (b5.mono s4)).trans (HB6.out.mono (by omega))).trans (b7.mono (by omega))
    refine ⟨⟨_, by rw [b37.block _ (by omega)]; exact HRes.out, rfl⟩, ?_, H7.out, ?_, ⟨by omega, by omega, by omega, by omega⟩, HB.out.trans (b37.mono (by omega))⟩
    · rw [b7.block _ (by omega), HB6.out.block _ (by omega)]; exact H5.out
    · exact (HSl.out.below b37).more (by omega)
  have HR := Lib.hid hR
  obtain ⟨gk, hgk⟩ : ∃ gk, w4.heap.size = gk := ⟨_, rfl⟩
  obtain ⟨gh, hgh⟩ : ∃ gh, w6.heap.size = gh := ⟨_, rfl⟩
  rw [hgk, hgh] at HR ⊢
  clear hR hgk hgh H5 H7 HO5 HO7 HB4 HB6 HB HRes HSl
  go_loopw [6] (fun i wx => ∃ j : Nat, 64 * j ≤ N ∧ i = .int .i64 (64 * j : Nat) ∧ Hid (RSum w wx gk gh ga N al (digs startV j al))) (fun i _ => N - (intOf i).toNat)
  case atStart => exact ⟨0, by omega, rfl, HR⟩
  case round =>
    clear HR
    obtain ⟨j, hj, rfl, HR⟩ := hrel
    by_cases hlt : 64 * j + 64 ≤ N
    · obtain ⟨s, hs⟩ : ∃ s, digs startV j al = s := ⟨_, rfl⟩
      have hsl : s.length = 8 := by rw [← hs]; exact digs_length _ _ _ rfl
      have HN' : Hid (digs startV (j + 1) al = stepV s ((al.drop (64 * j)).take 64)) := by
        show _ = _
        rw [digs_succ, hs]
      rw [hs] at HR
      obtain ⟨q, hq⟩ : ∃ q, 64 * j = q := ⟨_, rfl⟩
      obtain ⟨q', hq'⟩ : ∃ q', q + 64 = q' := ⟨_, rfl⟩
      rw [hq] at HN' hlt ⊢
      have hqI : (q : Int) + 64 = (q' : Int) := by omega
      have hle : (q' : Int) ≤ (N : Int) := by omega
      have hwrap : IntKind.i64.wrap ((q : Int) + 64) = (q' : Int) := by rw [IntWalk.i64_in _ (by omega)]; omega
      have hwrap2 : IntKind.i64.wrap (q' : Int) = (q' : Int) := IntWalk.i64_in _ (by omega)
      have hcut : ∀ u : World, (Instr.slice 22 (.slice (some ⟨ga, 0, none⟩) N c3) (some (.int .i64 (q : Int))) (some (.int .i64 (q' : Int))) none).run Tryd.prog u = .ok (.slice (some ⟨ga, 0 + q, none⟩) 64 (c3 - q)) u := fun u => by
        rw [run_cut2 u _ N c3 q q' (by omega) (by omega), if_neg (by omega)]
        simp only [Option.map_some, addr_add]
        rw [show q' - q = 64 by omega]
      have Hsl := Lib.hid hsl
      clear hs hsl
      go_wp2_with fail
      have h8 : (wvs s).length = 8 := by rw [wvs_length]; exact Hsl.out
      have H8 := Lib.hid h8
      clear h8
      refine wp_tail 6 (by kernel_rfl) (by kernel_rfl) ?_
      simp only [List.take_succ_cons, List.take_zero, List.drop_succ_cons, List.drop_zero]
      refine wpStill_load_row rfl 45 (.tmp 5) rfl gh (by with_unfolding_all rfl) 45 (wvs s).toArray (0, 0) _ HR.out.hh Tryd.underlying45 rfl (by rw [List.size_toArray, H8.out]; exact size8) ?_
      repeat still_step
      refine wpStill_nil ?_
      go_wp2_with fail
      (with_reducible refine (rstep_any s ((al.drop q).take 64) ga q (c3 - q) gk 50 (0, 0) Hsl.out _ ?q1 ?q2).mono ?_)
      case q1 =>
        have h1 := HR.out.al
        have hz := HR.out.sz
        have h2 := (h1.drop (k := q) (c := N + 1) (by omega) (by omega)).take (k := 64) (by omega)
        rw [if_neg (by omega)] at h2
        simp only [Option.map_some, addr_add, Nat.zero_add] at h2
        exact (h2.drew).more (by show gh ≤ wr.heap.size; omega)
      case q2 => exact HR.out.kk
      rintro e8 w8 ⟨rfl, hb8⟩
      have HR8 : Hid (RSum w w8 gk gh ga N al s) := HR.out.drew.below hb8
      have hvl : (wvs (stepV s ((al.drop q).take 64))).length = 8 := by rw [wvs_length]; exact stepV_length _ _ Hsl.out
      have HVl := Lib.hid hvl
      clear hb8 hvl
      go_wp2_with ((with_reducible refine wpList_store_only rfl 45 (.tmp 5) (.tmp 30) rfl gh (wvs (stepV s ((al.drop q).take 64))) ?hx ?hy 45 (wvs s).toArray HR8.out.hh ?hi ?ho (wvs_one _) ?_); (case hx => with_unfolding_all rfl); (case hy => with_unfolding_all rfl); (case hi => rw [HVl.out]; exact size8); (case ho => rw [HVl.out, List.size_toArray, H8.out]); intro w9 H9 HO9)
      go_roundw
      case rel =>
        have h9 := H9.out
        rw [← HN'.out] at h9
        have hfin := HR8.out.only HO9.out h9
        first
          | exact ⟨j + 1, by omega, by go_num, hfin⟩
          | ((repeat apply Exists.intro); exact ⟨⟨j + 1, by omega, by go_num, hfin⟩, rfl⟩)
      case measure => simp [intOf]; omega
    · have hjN : j = N / 64 := by omega
      obtain ⟨s, hs⟩ : ∃ s, digs startV j al = s := ⟨_, rfl⟩
      have hsl : s.length = 8 := by rw [← hs]; exact digs_length _ _ _ rfl
      have HV : Hid (sumV l = outV s) := by
        show _ = _
        unfold sumV
        rw [Hl.out, HAl.out, stV, hall, ← hjN, hs]
      rw [hs] at HR
      have Hsl := Lib.hid hsl
      obtain ⟨q, hq⟩ : ∃ q, 64 * j = q := ⟨_, rfl⟩
      rw [hq]
      obtain rfl : q = N := by omega
      clear hs hsl
      obtain ⟨wz, rfl⟩ : ∃ wz, wz = wr := ⟨_, rfl⟩
      go_wp2_with fail
      go_loopw [8] (fun i wr => ∃ j : Nat, j ≤ 32 ∧ i = .int .i64 j ∧ Hid (wr.heap[wz.heap.size]? = some (.cells (orow s j).toArray 27 (0, 0))) ∧ Hid (Below wz.heap.size wz wr)) (fun i _ => 32 - (intOf i).toNat)
      case atStart => exact ⟨0, by omega, rfl, heap_alloc_new _ _, (Below.refl _ _).alloc (Nat.le_refl _) _⟩
      case round =>
        obtain ⟨i, hi, rfl, HQ, HBr⟩ := hrel
        have hsz2 := HR.out.sz
        by_cases hlt : i < 32
        · obtain ⟨d, hd⟩ : ∃ q, i / 4 = q := ⟨_, rfl⟩
          obtain ⟨m, hm⟩ : ∃ m, i % 4 = m := ⟨_, rfl⟩
          obtain ⟨sh, hsh⟩ : ∃ sh : Nat, 24 - 8 * (m : Int) = (sh : Int) := ⟨24 - 8 * m, by omega⟩
          obtain ⟨x, hx⟩ : ∃ x, s.getD d 0 = x := ⟨_, rfl⟩
          have hqI : (i : Int) / 4 = (d : Int) := by omega
          have hmI : (i : Int) % 4 = (m : Int) := by omega
          have hq8 : (d : Int) < 8 := by omega
          have hm4 : (m : Int) < 4 := by omega
          have hsh32 : (sh : Int) ≤ 24 := by omega
          have cq : wr.cell? ⟨gh, d, none⟩ = some (.int .u32 (wn x)) := by
            rw [HBr.out.cell (show gh < wz.heap.size by omega), cell_of_row _ _ _ _ _ _ HR.out.hh, List.getElem?_toArray, ← hx]
            exact wvs_get _ _ (by rw [Hsl.out]; omega)
          have hor := orow_length s i hi
          obtain ⟨old, co⟩ : ∃ v, wr.cell? ⟨wz.heap.size, i, none⟩ = some v := by
            rw [cell_of_row _ _ _ _ _ _ HQ.out, List.getElem?_toArray]
            exact ⟨(orow s i)[i], by simp⟩
          have cf : wr.frozen? ⟨wz.heap.size, i, none⟩ = false := frozen_of_row _ _ _ _ _ HQ.out
          have li : (i : Int) < 32 := by omega
          have hwb := wn_bd x
          have HNx : Hid (Value.int .u8 (wn x / 2 ^ sh % 256) = bv (((s.getD (i / 4) 0) >>> UInt32.ofNat (24 - 8 * (i % 4))).toUInt8)) := by
            show _ = _
            rw [byte_out x sh (by omega), hd, hx, hm, show sh = 24 - 8 * m by omega]
          clear hd hm hx hor
          go_wp2_with fail
          go_roundw
          case rel =>
            have hfin : Hid ((wr.setCell ⟨wz.heap.size, i, none⟩ (Value.int .u8 (wn x / 2 ^ sh % 256))).heap[wz.heap.size]? = some (.cells (orow s (i + 1)).toArray 27 (0, 0))) := by
              show _ = _
              rw [heap_setCell_same _ _ _ _ _ _ HQ.out, HNx.out, List.setIfInBounds_toArray, orow_set s i hlt]
            exact ⟨i + 1, by omega, by go_num, hfin, HBr.out.setCell (Nat.le_refl _) _⟩
          case measure => simp [intOf]; omega
        · obtain rfl : i = 32 := by omega
          rw [orow_full, ← HV.out] at HQ
          obtain ⟨cs, h2, h2s⟩ := HR.out.res
          have h2' : wr.heap[w.heap.size]? = some (.cells cs 27 (0, 0)) := by
            rw [HBr.out.block _ (by omega)]; exact h2
          have H2' := Lib.hid h2'
          have HBl := Lib.hid HR.out.bl
          clear h2' h2
          have hol : (bvs (sumV l)).length = 32 := by rw [bvs_length, sumV_length]
          have HOl := Lib.hid hol
          clear hol
          go_wp2_with (first
            | ((with_reducible refine wpList_load_row rfl 27 (.tmp 7) rfl wz.heap.size ?hx 27 _ (0, 0) _ HQ.out Tryd.underlying27 rfl ?hi ?_); (case hx => with_unfolding_all rfl); (case hi => rw [size32, List.size_toArray, HOl.out]))
            | ((with_reducible refine wpList_store_vals rfl 27 (.tmp 2) (.tmp 47) rfl w.heap.size (bvs (sumV l)) ?hx ?hy 27 cs H2'.out ?hi ?ho (bvs_one _) ?_); (case hx => with_unfolding_all rfl); (case hy => with_unfolding_all rfl); (case hi => rw [size32, HOl.out]); (case ho => rw [HOl.out, h2s])))
          refine ret_row Tryd.results25 w.heap.size 27 _ (0, 0) 32 5 rfl (setRow_heap _ _ _ _ _ _ H2'.out) Tryd.underlying27 ?hi rfl ⟨rfl, ?_⟩
          · rw [size32, List.size_toArray, HOl.out]
          · exact below_setRow (HBl.out.trans (HBr.out.mono (by omega))) (Nat.le_refl _) _
end Go.Proofs.YtnjdloocalfkmaaDoor
