/-
  The contract of add.
-/
import Derived.Test.YtnjdloocalfkmaaDoorShaF
namespace Go.Proofs.YtnjdloocalfkmaaDoor
open Go.RowKit
set_option linter.unusedVariables false

theorem Glob.only {w w' : World} {g : Nat} (h : Glob w) (hg : 2 ≤ g) (ho : Only g w w') : Glob w' := by
  have hs := h.size
  obtain ⟨t0, f0, h0⟩ := h.st
  obtain ⟨t1, f1, h1⟩ := h.ks
  exact ⟨⟨t0, f0, by rw [ho.block 0 (by omega) (by omega)]; exact h0⟩, ⟨t1, f1, by rw [ho.block 1 (by omega) (by omega)]; exact h1⟩⟩
def lenOf : Value → Nat | .slice _ n _ => n | _ => 0

theorem wpStill_load_mid {P : Program} {ops : Array Oper} {w : World} {Q : Act → Prop} {o : Oper} {rest : List Oper} {a : Act} (hgd : o.guard = none) (ty : TypeId) (x : Operand) (ho : o.op = .load ty x)
    (g off : Nat) (hx : a.eval x = .pointer (some ⟨g, off, none⟩)) (cs : List Value) (d : TypeDesc) (hc : w.rangeAt g off cs)
    (hu : P.underlying ty = some d) (hd : d.isRow = true) (hi : (P.info? ty).map (·.size) = some cs.length)
    (h : wpStill P ops w Q rest (a.put o.dst (.agg cs.toArray))) : wpStill P ops w Q (o :: rest) a := by
  unfold wpStill
  have hw : Region.wanted o (yielded ops a.tmps) = true := by simp [Region.wanted, hgd]
  rw [if_pos hw]
  unfold Oper.still execOp
  simp only [ho, hx, Instr.loadAt, Instr.sureAddr, Sem.run_bind, Sem.run_pure, Result.andThen_ok, run_loadVar_mid w g off ty cs d hc hu hd hi]
  exact ⟨rfl, h⟩

theorem range_state {w : World} {g : Nat} {s : List UInt32} {buf : List UInt8} {v : Value} {t : TypeId} (hg : w.heap[g]? = some (.cells (digRow s buf v).toArray t (0, 0))) : w.rangeAt g 0 (wvs s) := by
  intro j u hu
  have hj := (List.getElem?_eq_some_iff.1 hu).1
  rw [Nat.zero_add, cell_of_row _ _ _ _ _ _ hg, List.getElem?_toArray, ← hu]
  unfold digRow
  rw [List.getElem?_append_left hj]
theorem range_block {w : World} {g : Nat} {s : List UInt32} {buf : List UInt8} {v : Value} {t : TypeId} (hs : s.length = 8) (hg : w.heap[g]? = some (.cells (digRow s buf v).toArray t (0, 0))) : w.rangeAt g 8 (bvs buf) := by
  intro j u hu
  have hj := (List.getElem?_eq_some_iff.1 hu).1
  rw [cell_of_row _ _ _ _ _ _ hg, List.getElem?_toArray, ← hu]
  unfold digRow
  rw [List.getElem?_append_right (by rw [wvs_length]; omega), wvs_length, hs, show 8 + j - 8 = j by omega, List.getElem?_append_left hj]
theorem there_state {w : World} {g : Nat} {s : List UInt32} {buf : List UInt8} {v : Value} {t : TypeId} (hs : s.length = 8) (hb : buf.length = 64) (hg : w.heap[g]? = some (.cells (digRow s buf v).toArray t (0, 0))) : w.there g 0 8 := by
  intro j hj
  refine ⟨?_, frozen_of_row _ _ _ _ _ hg⟩
  rw [Nat.zero_add, cell_of_row _ _ _ _ _ _ hg, List.getElem?_toArray, digRow_at _ _ _ _ hs hj]
  rfl

/-- a digest's state stored -/
theorem wp_store_state {w : World} {o : Oper} {a : Act} {K : Act → World → Prop} {Q : Exit → Act → World → Prop} (x y : Operand) (ho : o.op = .store 45 x y)
    (g : Nat) (s s' : List UInt32) (buf : List UInt8) (v : Value) (hx : a.eval x = .pointer (some ⟨g, 0, none⟩)) (hy : a.eval y = .agg (wvs s').toArray) (hs : s.length = 8) (hs' : s'.length = 8) (hb : buf.length = 64)
    (hg : w.heap[g]? = some (.cells (digRow s buf v).toArray 47 (0, 0)))
    (h : ∀ w', Hid (w'.heap[g]? = some (.cells (digRow s' buf v).toArray 47 (0, 0))) → Hid (Only g w w') → K (a.put o.dst undef) w') : o.wp Tryd.prog a w K Q := by
  have hl : (wvs s').toArray.size = 8 := by simp [wvs_length, hs']
  refine wp_store_mid 45 x y ho g 0 (wvs s').toArray hx hy (by rw [hl]; exact there_state hs hb hg) (by rw [hl]; exact size8) (all_oneCell_toArray (wvs_one _)) ?_
  have e := setCells_row (wvs s') 0 _ w hg (by rw [wvs_length, digRow_length _ _ _ hs hb]; omega)
  rw [digRow_state _ _ _ _ hs hs'] at e
  exact h _ e (setCells_only _ _ _ (Only.refl g w))
theorem add_block (a : Addr) (k : Nat) : (a.add k).block = a.block := by unfold Addr.add; split <;> rfl
theorem splice_take {α : Type} (q x : List α) (r : Nat) (h : r ≤ q.length) : (splice q r x).take (r + x.length) = q.take r ++ x := by
  unfold splice
  rw [← List.append_assoc, List.take_left' (by rw [List.length_append, List.length_take]; omega)]

set_option maxHeartbeats 1000000 in
theorem add_any (t l : List UInt8) (g n c B : Nat) (A : Option Addr) (w : World) (hG : Glob w) (hg2 : 2 ≤ g) (hgs : g < w.heap.size) (hD : Dig w g t) (hs : Sl w B A n l) (hB : B ≤ w.heap.size) (hnc : n ≤ c) (hcm : c ≤ maxLen)
    (hne : 0 < n → ∀ a, A = some a → a.block ≠ g) (hlen : t.length + l.length ≤ 4611686018427387904) :
    Calls Tryd.prog 26 #[.pointer (some ⟨g, 0, none⟩), .slice A n c] w fun e w' => e = .returned (.tuple #[]) ∧ Dig w' g (t ++ l) ∧ Only g w w' := by
  have HG := Lib.hid hG
  have HD := Lib.hid hD
  have HS := Lib.hid hs
  have HNe := Lib.hid hne
  have HLen := Lib.hid hlen
  clear hG hD hs hne hlen
  go_enter Tryd.func26, Tryd.ntmps26
  go_wp2_with fail
  go_loopw [1] (fun part wr => ∃ (t' l' : List UInt8) (A' : Option Addr) (n' c' : Nat), part = .slice A' n' c' ∧ n' ≤ c' ∧ c' ≤ maxLen ∧ Hid (Sl wr B A' n' l') ∧ Hid (t' ++ l' = t ++ l) ∧ Hid (Dig wr g t') ∧ Hid (Only g w wr) ∧
    Hid (0 < n' → ∀ a, A' = some a → a.block ≠ g)) (fun part _ => lenOf part)
  case atStart => exact ⟨t, l, A, n, c, rfl, hnc, hcm, HS, rfl, HD, Only.refl _ _, HNe⟩
  case round =>
    obtain ⟨t', l', A', n', c', rfl, hnc', hcm', HS', HT, HD', HO, HNe'⟩ := hrel
    clear HD HS HNe
    have hc63 : c' ≤ 9223372036854775807 := by unfold maxLen at hcm'; omega
    rcases Nat.eq_zero_or_pos n' with rfl | hpos
    · go_wp2
      go_end0
      have hl0 : l' = [] := List.eq_nil_of_length_eq_zero HS'.out.1
      have hT := HT.out
      rw [hl0, List.append_nil] at hT
      rw [← hT]
      exact ⟨rfl, HD'.out, HO.out⟩
    · have hposI : (0 : Int) < (n' : Int) := by omega
      obtain ⟨buf, hbl, hbt, hgb⟩ := HD'.out
      obtain ⟨T, hT⟩ : ∃ T, t'.length = T := ⟨_, rfl⟩
      obtain ⟨r, hr⟩ : ∃ r, T % 64 = r := ⟨_, rfl⟩
      obtain ⟨k, hk⟩ : ∃ k, k = min n' (64 - r) := ⟨_, rfl⟩
      rw [hT] at hgb hbt
      have hl' := HS'.out.1
      have hTl : T + n' ≤ 4611686018427387904 := by
        have h1 := congrArg List.length HT.out
        have h2 := HLen.out
        simp only [List.length_append] at h1
        omega
      have hr64 : r < 64 := by omega
      have c72 : wr.cell? ⟨g, 72, none⟩ = some (.int .i64 (T : Int)) := by
        rw [cell_of_row _ _ _ _ _ _ hgb, List.getElem?_toArray]
        exact digRow_last _ _ _ (stV_length _) hbl
      have hrI : (T : Int) % 64 = (r : Int) := by omega
      have hrT : (T : Int).tmod 64 = (r : Int) := by rw [Int.tmod_eq_emod_of_nonneg (by omega)]; exact hrI
      have hcut : ∀ u : World, (Instr.sliceAt 40 (.pointer (some ⟨g, 8, none⟩)) (some (.int .i64 (r : Int))) none none).run Tryd.prog u = .ok (.slice (some ⟨g, 8 + r, none⟩) (64 - r) (64 - r)) u := fun u =>
        run_cut_array_from u 40 5 64 Tryd.underlying40 size1 g 8 r hr64
      have Hgb := Lib.hid hgb
      have Hbl := Lib.hid hbl
      have Hbt := Lib.hid hbt
      have Hk := Lib.hid hk
      have HT2 := Lib.hid hT
      have Hr := Lib.hid hr
      have Hl' := Lib.hid hl'
      have hk1 : k ≤ n' := by omega
      have hk2 : k ≤ 64 := by omega
      have hk0 : 0 < k := by omega
      clear hgb hbl hbt hk hT hr hl'
      go_wp2_with fail
      refine wp_tail 10 (by kernel_rfl) (by kernel_rfl) ?_
      simp only [List.take_succ_cons, List.take_zero, List.drop_succ_cons, List.drop_zero]
      repeat still_step
      refine wpStill_nil ?_
      refine wpList_copy_dig rfl (.tmp 16) (.tmp 17) rfl g r n' c' k B A' l' (stV t') buf (.int .i64 (T : Int)) (by with_unfolding_all rfl) (by with_unfolding_all rfl) HS'.out.drew Hgb.out (stV_length _) Hbl.out hr64 Hk.out hpos ?_
      have hb1 : (splice buf r (l'.take k)).length = 64 := by
        have h1 := Hbl.out
        have h2 := Hl'.out
        rw [length_splice _ _ _ (by rw [List.length_take]; have := Hk.out; omega), h1]
      have hg1 : (wr.drew.setRow g (digRow (stV t') (splice buf r (l'.take k)) (.int .i64 (T : Int))).toArray).heap[g]? = some (.cells (digRow (stV t') (splice buf r (l'.take k)) (.int .i64 (T : Int))).toArray 47 (0, 0)) :=
        setRow_heap _ _ _ _ _ _ Hgb.out
      have HO1 := Lib.hid (HO.out.drew.setRow (digRow (stV t') (splice buf r (l'.take k)) (.int .i64 (T : Int))).toArray)
      have HS1 : Hid (Sl (wr.drew.setRow g (digRow (stV t') (splice buf r (l'.take k)) (.int .i64 (T : Int))).toArray) B A' n' l') :=
        ((Only.refl g wr).drew.setRow _).sl HS'.out (Nat.le_trans hB HO.out.size) (fun b off e => HNe'.out hpos _ e)
      obtain ⟨bf, hbf⟩ : ∃ bf, splice buf r (l'.take k) = bf := ⟨_, rfl⟩
      rw [hbf] at hb1 hg1 HO1 HS1 ⊢
      obtain ⟨w1, hw1⟩ : ∃ w1, wr.drew.setRow g (digRow (stV t') bf (.int .i64 (T : Int))).toArray = w1 := ⟨_, rfl⟩
      rw [hw1] at hg1 HO1 HS1 ⊢
      have d72 : w1.cell? ⟨g, 72, none⟩ = some (.int .i64 (T : Int)) := by
        rw [cell_of_row _ _ _ _ _ _ hg1, List.getElem?_toArray]
        exact digRow_last _ _ _ (stV_length _) hb1
      have f72 : w1.frozen? ⟨g, 72, none⟩ = false := frozen_of_row _ _ _ _ _ hg1
      have Hg1 := Lib.hid hg1
      have Hb1 := Lib.hid hb1
      have Hbf := Lib.hid hbf
      clear hg1 hb1 hbf hw1 c72 hcut
      have hkn : (k : Int) ≤ (n' : Int) := by omega
      have hnc'I : (n' : Int) ≤ (c' : Int) := by omega
      have hTk : (T : Int) + (k : Int) ≤ 4611686018427387904 := by omega
      have h2g : Hid ((w1.setCell ⟨g, 72, none⟩ (.int .i64 ((T : Int) + (k : Int)))).heap[g]? = some (.cells (digRow (stV t') bf (.int .i64 ((T : Int) + (k : Int)))).toArray 47 (0, 0))) := by
        show _ = _
        have e := digRow_size (stV t') bf (.int .i64 (T : Int)) (.int .i64 ((T : Int) + (k : Int))) (stV_length _) Hb1.out
        rw [heap_setCell_same _ _ _ _ _ _ Hg1.out, List.setIfInBounds_toArray, e]
      have h2s : Hid (Sl (w1.setCell ⟨g, 72, none⟩ (.int .i64 ((T : Int) + (k : Int)))) B A' n' l') := ((Only.refl g w1).setCell _ _).sl HS1.out (Nat.le_trans hB HO1.out.size) (fun b off e => HNe'.out hpos _ e)
      have h2o := Lib.hid (HO1.out.setCell 72 (.int .i64 ((T : Int) + (k : Int))))
      have htk : Hid (bf.take (r + k) = t'.drop (64 * (T / 64)) ++ l'.take k) := by
        show _ = _
        have h1 := Hbt.out
        have h2 := Hl'.out
        have h3 := Hbl.out
        have h4 := Hr.out
        have e := splice_take buf (l'.take k) r (by omega)
        rw [List.length_take, show min k l'.length = k by omega] at e
        rw [← Hbf.out, e, ← h1, h4]
      obtain ⟨A2, hA2⟩ : ∃ A2, (if c' = k then A' else A'.map (·.add k)) = A2 := ⟨_, rfl⟩
      have hsl2 : ∀ u : World, (Instr.slice 22 (.slice A' n' c') (some (.int .i64 (k : Int))) none none).run Tryd.prog u = .ok (.slice A2 (n' - k) (c' - k)) u := fun u => by
        rw [← hA2]; exact run_cut_bytes u A' n' c' k hk1 hnc'
      have HA2 := Lib.hid hA2
      clear hA2
      have HN2 : Hid (0 < n' - k → ∀ a, A2 = some a → a.block ≠ g) := fun _ a e => by
        rw [← HA2.out] at e
        split at e
        · exact HNe'.out hpos a e
        · obtain ⟨a', e1, e2⟩ := Option.map_eq_some_iff.1 e
          rw [← e2, add_block]
          exact HNe'.out hpos a' e1
      have HT' : Hid ((t' ++ l'.take k) ++ l'.drop k = t ++ l) := by
        show _ = _
        rw [List.append_assoc, List.take_append_drop]; exact HT.out
      have HLt : Hid ((t' ++ l'.take k).length = T + k) := by
        show _ = _
        have h2 := Hl'.out
        have h3 := HT2.out
        rw [List.length_append, List.length_take]; omega
      have hmx : c' - k ≤ maxLen := by omega
      by_cases hfull : r + k = 64
      · have ht1 : (((T : Int) + (k : Int)) % 64 == 0) = true := by
          have h4 := Hr.out
          simp; omega
        go_wp2_with fail
        refine wp_held (S := fun u => u.rangeAt g 8 (bvs bf)) (by kernel_rfl) ?_
        refine wpAnyH_pick 0 (.pointer (some ⟨g, 0, none⟩)) rfl (by kernel_rfl) (by kernel_rfl) (by kernel_rfl) rfl (fun _ _ _ h => h) (fun u _ => by go_simp) (range_block (stV_length _) h2g.out) ?_
        go_simp
        refine wpAnyH_pick 1 (.pointer (some ⟨g, 0, none⟩)) rfl (by kernel_rfl) (by kernel_rfl) (by kernel_rfl) rfl (fun _ _ _ h => h) (fun u _ => by go_simp) (range_block (stV_length _) h2g.out) ?_
        go_simp
        refine wpAnyH_pick 2 (.pointer (some ⟨g, 0, none⟩)) rfl (by kernel_rfl) (by kernel_rfl) (by kernel_rfl) rfl (fun _ _ _ h => h) (fun u _ => by go_simp) (range_block (stV_length _) h2g.out) ?_
        go_simp
        refine wpAnyH_pick 3 (.pointer (some ⟨g, 0, none⟩)) rfl (by kernel_rfl) (by kernel_rfl) (by kernel_rfl) rfl (fun _ _ _ h => h) (fun u _ => by go_simp) (range_block (stV_length _) h2g.out) ?_
        go_simp
        refine wpAnyH_pick 5 (.pointer (some ⟨g, 0, none⟩)) rfl (by kernel_rfl) (by kernel_rfl) (by kernel_rfl) rfl (fun _ _ _ h => h) (fun u _ => by go_simp) (range_block (stV_length _) h2g.out) ?_
        go_simp
        refine wpAnyH_pick 6 (.pointer (some ⟨g, 0, none⟩)) rfl (by kernel_rfl) (by kernel_rfl) (by kernel_rfl) rfl (fun _ _ _ h => h) (fun u _ => by go_simp) (range_block (stV_length _) h2g.out) ?_
        go_simp
        refine wpAnyH_pick 7 (.pointer (some ⟨g, 8, none⟩)) rfl (by kernel_rfl) (by kernel_rfl) (by kernel_rfl) rfl (fun _ _ _ h => h) (fun u _ => by go_simp) (range_block (stV_length _) h2g.out) ?_
        go_simp
        refine wpAnyH_pick 8 (.agg (bvs bf).toArray) rfl (by kernel_rfl) (by kernel_rfl) (by kernel_rfl) rfl (fun _ _ _ h => h) (fun u hu => ?_) (range_block (stV_length _) h2g.out) ?_
        · exact exec_load_mid u 40 (.tmp 43) rfl g 8 (by with_unfolding_all rfl) (bvs bf) _ hu Tryd.underlying40 rfl (by rw [bvs_length, Hb1.out]; exact size64b)
        go_simp
        refine wpAnyH_one 4 (by kernel_rfl) rfl rfl ?_
        refine wp_load_mid 45 (.tmp 39) rfl g 0 (by with_unfolding_all rfl) (wvs (stV t')) _ (range_state h2g.out) Tryd.underlying45 rfl (by rw [wvs_length, stV_length]; exact size8) ?_
        refine ⟨range_block (stV_length _) h2g.out, ?_⟩
        go_simp
        refine wpAnyH_one 9 (by kernel_rfl) rfl rfl ?_
        go_wp2_with fail
        (with_reducible refine (step_any (stV t') bf (stV_length _) Hb1.out _ ?hGl).mono ?_)
        case hGl => exact HG.out.only hg2 h2o.out.drew
        rintro e3 w3 ⟨rfl, hb3⟩
        have h3g : w3.heap[g]? = some (.cells (digRow (stV t') bf (.int .i64 ((T : Int) + (k : Int)))).toArray 47 (0, 0)) := by
          rw [hb3.block g (Nat.lt_of_lt_of_le hgs h2o.out.size)]
          exact h2g.out
        have H3g := Lib.hid h3g
        have H3b := Lib.hid hb3
        clear h3g hb3
        refine ⟨range_block (stV_length _) H3g.out, ?_⟩
        go_simp
        refine wpAnyH_pick 10 (.pointer (some ⟨g, 0, none⟩)) rfl (by kernel_rfl) (by kernel_rfl) (by kernel_rfl) rfl (fun _ _ _ h => h) (fun u _ => by go_simp) (range_block (stV_length _) H3g.out) ?_
        go_simp
        refine wpAnyH_pick 11 (.pointer (some ⟨g, 0, none⟩)) rfl (by kernel_rfl) (by kernel_rfl) (by kernel_rfl) rfl (fun _ _ _ h => h) (fun u _ => by go_simp) (range_block (stV_length _) H3g.out) ?_
        go_simp
        refine wpAnyH_one 12 (by kernel_rfl) rfl rfl ?_
        refine wp_store_state (.tmp 47) (.tmp 45) rfl g (stV t') (stepV (stV t') bf) bf (.int .i64 ((T : Int) + (k : Int))) (by with_unfolding_all rfl) (by with_unfolding_all rfl) (stV_length _) (stepV_length _ _ (stV_length _)) Hb1.out H3g.out ?_
        intro w4 H4g H4o
        refine ⟨range_block (stepV_length _ _ (stV_length _)) H4g.out, ?_⟩
        refine wpAnyH_done (by kernel_rfl) ?_ _
        go_simp
        go_wp2_with fail
        go_roundw
        case rel =>
          have hO4 : Only g (w1.setCell ⟨g, 72, none⟩ (.int .i64 ((T : Int) + (k : Int)))) w4 := ((Only.refl g _).drew.trans (Only.of_below H3b.out)).trans H4o.out
          have hS4 := hO4.sl h2s.out (Nat.le_trans hB h2o.out.size) (fun b off e => HNe'.out hpos _ e)
          have hD4 := hS4.drop hk1 hnc'
          rw [HA2.out] at hD4
          have hDig : Dig w4 g (t' ++ l'.take k) := by
            have h1 := HLt.out
            have h2 := Hr.out
            have h3 := HT2.out
            have h4 := Hl'.out
            refine ⟨bf, Hb1.out, ?_, ?_⟩
            · rw [h1, show (T + k) % 64 = 0 by omega, List.take_zero, List.drop_of_length_le (by rw [h1]; omega)]
            · rw [stV_full t' (l'.take k) (by rw [h3, List.length_take]; omega), h3, ← htk.out, h1, List.take_of_length_le (by rw [Hb1.out]; omega)]
              have h5 := H4g.out
              rw [← Int.natCast_add] at h5
              exact h5
          have hrel2 : ∃ (t'' l'' : List UInt8) (A'' : Option Addr) (n'' c'' : Nat), Value.slice A2 (n' - k) (c' - k) = .slice A'' n'' c'' ∧ n'' ≤ c'' ∧ c'' ≤ maxLen ∧ Hid (Sl w4 B A'' n'' l'') ∧ Hid (t'' ++ l'' = t ++ l) ∧ Hid (Dig w4 g t'') ∧ Hid (Only g w w4) ∧
              Hid (0 < n'' → ∀ a, A'' = some a → a.block ≠ g) := ⟨_, _, _, _, _, rfl, by omega, hmx, hD4, HT'.out, hDig, h2o.out.trans hO4, HN2.out⟩
          first
            | exact hrel2
            | ((repeat apply Exists.intro); exact ⟨hrel2, rfl⟩)
        case measure => simp [lenOf]; omega
      · have ht1 : (((T : Int) + (k : Int)) % 64 == 0) = false := by
          have h4 := Hr.out
          have h5 := Hk.out
          simp; omega
        go_wp2_with fail
        go_roundw
        case rel =>
          have hD4 := h2s.out.drop hk1 hnc'
          rw [HA2.out] at hD4
          have hDig : Dig (w1.setCell ⟨g, 72, none⟩ (.int .i64 ((T : Int) + (k : Int)))) g (t' ++ l'.take k) := by
            have h1 := HLt.out
            have h2 := Hr.out
            have h3 := HT2.out
            have h4 := Hl'.out
            have h6 := Hk.out
            refine ⟨bf, Hb1.out, ?_, ?_⟩
            · rw [h1, show (T + k) % 64 = r + k by omega, show (T + k) / 64 = T / 64 by omega, htk.out, List.drop_append_of_le_length (by rw [h3]; omega)]
            · rw [stV_less t' (l'.take k) (by rw [h3, List.length_take]; omega), h1]
              have h5 := h2g.out
              rw [← Int.natCast_add] at h5 ⊢
              exact h5
          have hrel2 : ∃ (t'' l'' : List UInt8) (A'' : Option Addr) (n'' c'' : Nat), Value.slice A2 (n' - k) (c' - k) = .slice A'' n'' c'' ∧ n'' ≤ c'' ∧ c'' ≤ maxLen ∧ Hid (Sl (w1.setCell ⟨g, 72, none⟩ (.int .i64 ((T : Int) + (k : Int)))) B A'' n'' l'') ∧ Hid (t'' ++ l'' = t ++ l) ∧
              Hid (Dig (w1.setCell ⟨g, 72, none⟩ (.int .i64 ((T : Int) + (k : Int)))) g t'') ∧ Hid (Only g w (w1.setCell ⟨g, 72, none⟩ (.int .i64 ((T : Int) + (k : Int))))) ∧
              Hid (0 < n'' → ∀ a, A'' = some a → a.block ≠ g) := ⟨_, _, _, _, _, rfl, by omega, hmx, hD4, HT'.out, hDig, h2o.out, HN2.out⟩
          first
            | exact hrel2
            | ((repeat apply Exists.intro); exact ⟨hrel2, rfl⟩)
        case measure => simp [lenOf]; omega
end Go.Proofs.YtnjdloocalfkmaaDoor
