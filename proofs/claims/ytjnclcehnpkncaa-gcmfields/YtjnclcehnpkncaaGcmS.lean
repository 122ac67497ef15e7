/-
  The document's own hash: the contract of its Hash.
-/
import Derived.Test.YtjnclcehnpkncaaGcmR
import Derived.Test.YtjnclcehnpkncaaGcmD
import Derived.Test.YtjnclcehnpkncaaPieces
import Derived.Test.YtjnclcehnpkncaaGcmE
namespace Go.Proofs.Ytjnclcehnpkncaa
open Go.RowKit
set_option linter.unusedVariables false

/-- what stands in memory while the document hashes -/
structure RhW (w wr : World) (h y : List UInt8) : Prop where
  h : Blk wr w.heap.size 22 h
  r : Blk wr (w.heap.size + 1) 22 (List.replicate 16 0)
  y : Blk wr (w.heap.size + 1 + 1) 22 y
  b : Below w.heap.size w wr
theorem RhW.drew {w wr : World} {h y : List UInt8} (k : RhW w wr h y) : RhW w wr.drew h y := ⟨k.h, k.r, k.y, k.b.drew⟩
theorem RhW.put {w wr : World} {h y : List UInt8} (k : RhW w wr h y) (i : Nat) (x : UInt8) (y' : List UInt8) (e : y.set i x = y') : RhW w (wr.setCell ⟨w.heap.size + 1 + 1, i, none⟩ (.int .u8 (bn x))) h y' :=
  ⟨k.h.other _ _ _ (by omega), k.r.other _ _ _ (by omega), by rw [← e]; exact k.y.put i x, k.b.setCell (by show _ ≤ w.heap.size + 1 + 1; omega) _⟩
theorem mix_end (Y F : List UInt8) (hY : Y.length = 16) (hF : F.length = 16) (j : Nat) (h : ∀ i, j ≤ i → i < 16 → F.getD i 0 = 0) : mixr (crossV Y F) Y j = crossV Y F := by
  have hc := crossV_length Y F hY hF
  refine list_ext16 _ _ (by rw [mixr_length _ _ _ (by omega), hY]) hc fun i hi => ?_
  by_cases hij : i < j
  · rw [mixr_new _ _ _ _ (by omega) (by omega) hij]
  · rw [mixr_old _ _ _ _ (by omega) (by omega) (by omega), crossV_getD _ _ (by omega), h i (by omega) hi, UInt8.xor_zero]

attribute [local go_sem] u8_xor'
set_option maxHeartbeats 4000000 in
theorem rhash_any (h : List UInt8) (hh : h.length = 16) (ps : List Piece) (A : Option Addr) (n c B : Nat) (w : World) (hs : Slw w B A n ps) (hB : B ≤ w.heap.size) (hn : n ≤ maxLen) (hlen : ∀ p ∈ ps, p.n ≤ 70368744177664) :
    Calls Try.prog 21 #[.agg (bvs h).toArray, .slice A n c] w fun e w' => e = .returned (.agg (bvs (hashG h (ps.map (·.l)))).toArray) ∧ Below w.heap.size w w' := by
  have Hh := Lib.hid hh
  have HS := Lib.hid hs
  have HLen := Lib.hid hlen
  have HB := Lib.hid hB
  have HFJ : Hid (∀ j, (foldJ h ps j).length = 16) := fun j => fold_length h hh _ zG zG_length
  have hn63 : n ≤ 9223372036854775807 := by unfold maxLen at hn; omega
  clear hh hs hlen hB
  go_enter Try.func21, Try.ntmps21
  go_wp2_with fail
  go_loopw [6] (fun v6 wr => ∃ (j : Nat), j ≤ n ∧ v6 = .int .i64 j ∧ Hid (RhW w wr h (foldJ h ps j))) (fun v6 _ => n - (intOf v6).toNat)
  case atStart =>
    exact ⟨0, by omega, rfl, heap_allocs w [_, _, _] 0 _ rfl, heap_allocs w [_, _, _] 1 _ (by rw [← zeros_bvs]; rfl), heap_allocs w [_, _, _] 2 _ rfl, (((Below.refl _ _).alloc (Nat.le_refl _) _).alloc (by simp) _).alloc (by simp; omega) _⟩
  case round =>
    obtain ⟨j, hj, rfl, HW⟩ := hrel
    have hpl := HS.out.len
    by_cases hlt : j < n
    · obtain ⟨b, off, rfl, hbB, hcell⟩ := HS.out.at_ (by omega)
      have hjp : j < ps.length := by omega
      obtain ⟨p, hp⟩ : ∃ p, ps[j] = p := ⟨_, rfl⟩
      have hB := HB.out
      have HCj : Hid (∀ u : World, Below w.heap.size w u → u.cell? ⟨b, off + j, none⟩ = some (.slice p.A p.n p.c)) := fun u hu => by
        rw [hu.cell (p := ⟨b, off + j, none⟩) (show b < w.heap.size by omega), hcell j hjp, hp]
      obtain ⟨hps, hpc, hpm⟩ := HS.out.each p (by rw [← hp]; exact List.getElem_mem hjp)
      have hpn : p.n ≤ 70368744177664 := HLen.out p (by rw [← hp]; exact List.getElem_mem hjp)
      have HSL := Lib.hid hps
      have hpl2 := hps.1
      have HJ : Hid (foldJ h ps (j + 1) = partG h (foldJ h ps j) p.l) := show _ = _ by rw [foldJ_next h ps j hjp, hp]
      have ljn : (j : Int) < (n : Int) := by omega
      obtain ⟨y0, hy0⟩ : ∃ y, foldJ h ps j = y := ⟨_, rfl⟩
      have HYL : Hid (y0.length = 16) := show _ = _ by rw [← hy0]; exact HFJ.out j
      rw [hy0] at HJ HW
      obtain ⟨⟨pA, pn, pc, l⟩, ep⟩ : ∃ q : Piece, p = q := ⟨_, rfl⟩
      subst ep
      simp only at HCj hpc hpm hpn HSL hpl2 HJ
      have HPL := Lib.hid hpl2
      clear hcell hp hps hpl hy0 hpl2
      go_wp2_with fail
      go_loopw [7] (fun v7 wr => ∃ (k : Nat), 16 * k < pn + 16 ∧ v7 = .int .i64 (16 * k : Nat) ∧ Hid (RhW w wr h (hpG h y0 l k))) (fun v7 _ => pn + 16 - (intOf v7).toNat)
      case atStart => exact ⟨0, by omega, rfl, HW⟩
      case round =>
        clear HW
        obtain ⟨k, hk, rfl, HW⟩ := hrel
        obtain ⟨m, hm⟩ : ∃ m, 16 * k = m := ⟨_, rfl⟩
        rw [hm] at hk ⊢
        have cj := HCj.out _ HW.out.b
        by_cases hlm : m < pn
        · obtain ⟨pb, poff, rfl, hpB, hpcell⟩ := HSL.out.2 (by omega)
          have HPC : Hid (∀ u : World, Below w.heap.size w u → ∀ i, i < pn → u.cell? ⟨pb, poff + i, none⟩ = some (.int .u8 (bn (l.getD i 0)))) := fun u hu i hi =>
            (HSL.out.below (hu.mono hB)).cellD i (by have := HPL.out; omega)
          obtain ⟨Y, hY⟩ : ∃ y, hpG h y0 l k = y := ⟨_, rfl⟩
          obtain ⟨F, hF⟩ : ∃ f, blkG l k = f := ⟨_, rfl⟩
          have HYl : Hid (Y.length = 16) := show _ = _ by rw [← hY]; exact hpG_length h y0 l Hh.out HYL.out k
          have HFl : Hid (F.length = 16) := show _ = _ by rw [← hF]; exact blkG_length _ _
          have HFg : Hid (∀ i, i < 16 → F.getD i 0 = l.getD (m + i) 0) := fun i hi => by rw [← hF, blkG_getD _ _ _ hi, hm]
          have HN : Hid (hpG h y0 l (k + 1) = timesG (crossV Y F) h) := show _ = _ by rw [hpG, hY, hF]
          have HTl : Hid ((timesG (crossV Y F) h).length = 16) := timesG_length _ _ Hh.out
          have HCl : Hid ((crossV Y F).length = 16) := crossV_length _ _ HYl.out HFl.out
          rw [hY] at HW
          have lm : (m : Int) < (pn : Int) := by omega
          have HM := Lib.hid hm
          clear hY hF hm hpcell
          go_wp2_with fail
          clear cj
          go_loopw [8] (fun v8 wi => ∃ i : Nat, i ≤ 16 ∧ v8 = .int .i64 i ∧ Hid (RhW w wi h (mixr (crossV Y F) Y i))) (fun v8 _ => 16 - (intOf v8).toNat)
          case atStart => exact ⟨0, by omega, rfl, by rw [mixr_zero]; exact HW⟩
          case round =>
            clear HW
            obtain ⟨i, hi, rfl, HW⟩ := hrel
            have cj := HCj.out _ HW.out.b
            have hyl := HYl.out
            have hfl := HFl.out
            have hcl := HCl.out
            by_cases hgo : i < 16 ∧ m + i < pn
            · obtain ⟨a, hA⟩ : ∃ b, Y.getD i 0 = b := ⟨_, rfl⟩
              obtain ⟨d, hD⟩ : ∃ b, l.getD (m + i) 0 = b := ⟨_, rfl⟩
              have ca : wr.cell? ⟨w.heap.size + 1 + 1, i, none⟩ = some (.int .u8 (bn a)) := by rw [HW.out.y.cell i (by rw [mixr_length _ _ _ (by omega)]; omega), mixr_old _ _ _ _ (by omega) (by omega) (Nat.le_refl _), hA]
              have cb : wr.cell? ⟨pb, poff + (m + i), none⟩ = some (.int .u8 (bn d)) := by rw [HPC.out _ HW.out.b (m + i) hgo.2, hD]
              have cf := HW.out.y.frozen i
              have HN2 : Hid ((mixr (crossV Y F) Y i).set i (a ^^^ d) = mixr (crossV Y F) Y (i + 1)) := show _ = _ by
                rw [← hA, ← hD, ← HFg.out i hgo.1, ← mixr_set _ _ _ (by omega) (by omega)]
                congr 1
                exact (crossV_getD Y F (by omega) i).symm
              obtain ⟨mi, hmi⟩ : ∃ x, m + i = x := ⟨_, rfl⟩
              have emi : (m : Int) + (i : Int) = (mi : Int) := by omega
              rw [hmi] at cb
              have t1 : decide ((i : Int) < 16) = true := by simp; omega
              have t2 : decide ((mi : Int) < (pn : Int)) = true := by simp; omega
              have lmi : (mi : Int) < (pn : Int) := by omega
              have li : (i : Int) < 16 := by omega
              have vmi : IntKind.i64.wrap (mi : Int) = (mi : Int) := IntWalk.i64_in _ (by omega)
              have Hgo := Lib.hid hgo
              clear hA hD hyl hfl hcl hgo hmi
              go_wp2_with fail
              refine wp_tail 15 (by kernel_rfl) (by kernel_rfl) ?_
              simp only [List.take_succ_cons, List.take_zero, List.drop_succ_cons, List.drop_zero]
              repeat still_step
              refine wpStill_nil ?_
              go_wp2
              go_roundw
              case rel =>
                have hfin : Hid (RhW w (wr.setCell ⟨w.heap.size + 1 + 1, i, none⟩ (.int .u8 (bn (a ^^^ d)))).drew h (mixr (crossV Y F) Y (i + 1))) := (HW.out.put i _ _ HN2.out).drew
                first
                  | exact ⟨i + 1, by omega, by go_num, hfin⟩
                  | ((repeat apply Exists.intro); exact ⟨⟨i + 1, by omega, by go_num, hfin⟩, rfl⟩)
              case measure => simp [intOf]; omega
            · have HE : Hid (mixr (crossV Y F) Y i = crossV Y F) := by
                refine mix_end Y F hyl hfl i fun i' h1 h2 => ?_
                rw [HFg.out i' h2, List.getD_eq_getElem?_getD, List.getElem?_eq_none (by have := HPL.out; omega)]
                rfl
              rw [HE.out] at HW
              clear hyl hfl hcl
              have Hgo := Lib.hid hgo
              have hways : (decide ((i : Int) < 16) = false) ∨ (decide ((i : Int) < 16) = true ∧ decide ((m : Int) + (i : Int) < (pn : Int)) = false) := by
                by_cases h16 : i < 16
                · exact .inr ⟨by simp; omega, by simp; omega⟩
                · exact .inl (by simp; omega)
              have vmi : IntKind.i64.wrap ((m : Int) + (i : Int)) = (m : Int) + (i : Int) := IntWalk.i64_in _ (by omega)
              clear hgo
              rcases hways with t1 | ⟨t1, t2⟩
              all_goals
                go_wp2_with (first
                  | ((with_reducible refine wpList_load_blk rfl 22 (.tmp 5) rfl (w.heap.size + 1 + 1) ?hx 22 _ HW.out.y 16 5 Try.underlying22 16 sizeRow HCl.out ?_); (case hx => with_unfolding_all rfl))
                  | ((with_reducible refine wpList_load_blk rfl 22 (.tmp 2) rfl w.heap.size ?hx 22 _ HW.out.h 16 5 Try.underlying22 16 sizeRow Hh.out ?_); (case hx => with_unfolding_all rfl))
                  | (go_at_call 20; (with_reducible refine (rtimes_any (crossV Y F) h HCl.out Hh.out _).mono ?_); rintro e1 w1 ⟨rfl, hb1⟩; have YB := Lib.hid (HW.out.y.below hb1); have HB1 := Lib.hid (HW.out.h.below hb1); have RB := Lib.hid (HW.out.r.below hb1); have BB := Lib.hid (HW.out.b.trans (hb1.mono HW.out.b.size)); clear hb1)
                  | ((with_reducible refine wpList_store_blk rfl 22 (.tmp 5) (.tmp 56) rfl (w.heap.size + 1 + 1) (timesG (crossV Y F) h) ?hx ?hy 22 (crossV Y F) YB.out 16 sizeRow HTl.out HCl.out ?_); (case hx => with_unfolding_all rfl); (case hy => with_unfolding_all rfl); intro w2 Y2 O2))
                go_roundw
                case rel =>
                  have hfin : Hid (RhW w w2 h (hpG h y0 l (k + 1))) := show RhW _ _ _ _ by
                    rw [HN.out]
                    exact ⟨HB1.out.only O2.out (by omega), RB.out.only O2.out (by omega), Y2.out, BB.out.trans (O2.out.below BB.out.size (by omega))⟩
                  have hmm := HM.out
                  first
                    | exact ⟨k + 1, by omega, by rw [← hmm]; go_num, hfin⟩
                    | ((repeat apply Exists.intro); exact ⟨⟨k + 1, by omega, by rw [← hmm]; go_num, hfin⟩, rfl⟩)
                case measure => simp [intOf]; omega
        · have HE : Hid (hpG h y0 l k = foldJ h ps (j + 1)) := show _ = _ by
            rw [HJ.out, partG, HPL.out, show k = (pn + 15) / 16 by omega]
          rw [HE.out] at HW
          clear hm
          go_wp2_with fail
          go_roundw
          case rel =>
            first
              | exact ⟨j + 1, by omega, by go_num, HW⟩
              | ((repeat apply Exists.intro); exact ⟨⟨j + 1, by omega, by go_num, HW⟩, rfl⟩)
          case measure => simp [intOf]; omega
    · have e : foldJ h ps j = hashG h (ps.map (·.l)) := foldJ_all h ps j (by omega)
      have HHL : Hid ((hashG h (ps.map (·.l))).length = 16) := hashG_length _ _ Hh.out
      rw [e] at HW
      clear hpl e
      go_wp2_with (first
        | ((with_reducible refine wpList_load_blk rfl 22 (.tmp 5) rfl (w.heap.size + 1 + 1) ?hx 22 _ HW.out.y 16 5 Try.underlying22 16 sizeRow HHL.out ?_); (case hx => with_unfolding_all rfl))
        | ((with_reducible refine wpList_store_blk rfl 22 (.tmp 4) (.tmp 57) rfl (w.heap.size + 1) (hashG h (ps.map (·.l))) ?hx ?hy 22 (List.replicate 16 0) HW.out.r 16 sizeRow HHL.out ?ho ?_); (case hx => with_unfolding_all rfl); (case hy => with_unfolding_all rfl); (case ho => rfl); intro w4 H4 O4))
      refine ret_blk Try.results21 (w.heap.size + 1) 22 _ 16 5 rfl H4.out Try.underlying22 16 sizeRow HHL.out rfl ⟨rfl, ?_⟩
      exact HW.out.b.trans (O4.out.below HW.out.b.size (by omega))
end Go.Proofs.Ytjnclcehnpkncaa
