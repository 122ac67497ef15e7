/-
  The contracts of MAC and Extract.
-/
import Derived.Test.YtnjdloocalfkmaaDoorHkA
namespace Go.Proofs.YtnjdloocalfkmaaDoor
open Go.RowKit Go.Joins
set_option linter.unusedVariables false

def pv (p : Piece) : Value := .slice p.A p.n p.c
theorem pv_one (ps : List Piece) : ∀ u ∈ ps.map pv, u.oneCell' = true := by
  intro u hu
  obtain ⟨b, _, rfl⟩ := List.mem_map.1 hu
  rfl
theorem run_append_pieces (w : World) (base : Nat) (ty : TypeId) (v : Value) (n : Nat) (vs : List Value) (hown : OwnR w base v n vs) (B : Nat) (A : Option Addr) (m c : Nat) (ps : List Piece) (hr : Slw w B A m ps)
    (hlen : n + m ≤ 4398046511104) (hbase : base ≤ w.heap.size) :
    ∃ v' w', (Builtin.append_ #[39, 39] ty #[v, .slice A m c]).run Tryd.prog w = .ok v' w' ∧ OwnR w' base v' (n + m) (vs ++ ps.map pv) ∧ w.grownBy w' v.ownBlock := by
  obtain ⟨i, hi, hz0, hz1, hz2⟩ := info_parts row_info
  have hm := hr.len
  by_cases h0 : m = 0
  · subst h0
    obtain rfl : ps = [] := List.eq_nil_of_length_eq_zero hm
    refine ⟨v, w, ?_, by simpa using hown, ⟨rfl, rfl, rfl, Nat.le_refl _, fun _ _ _ => rfl⟩⟩
    rcases hown.2 with ⟨rfl, rfl⟩ | ⟨g, cap, cur, rfl, _, _, hnc, _⟩ <;> cases A <;>
      simp [Builtin.append_, run_underlying Tryd.underlying39, sizeOf, typeInfo, Builtin.lenOf, Builtin.firstCells, loadCells, loadCellsFrom, storeCells, *]
  · obtain ⟨b, off, rfl, hb, hc⟩ := hr.at_ (by omega)
    have hcells : ∀ j u, (ps.map pv)[j]? = some u → w.cell? ((⟨b, off, none⟩ : Addr).add j) = some u := by
      intro j u hu
      have hj : j < ps.length := by
        have := (List.getElem?_eq_some_iff.1 hu).1
        rwa [List.length_map] at this
      rw [addr_add, hc j hj, ← hu]
      simp [pv, hj]
    obtain ⟨v', w', hrun, h2, h3, _, h5⟩ := run_append_own_at (P := Tryd.prog) w base 39 ty 22 i (.slice none 0 0) 1 24 Tryd.underlying39 hi hz0 hz1 hz2 rfl (by omega) v n vs hown ⟨b, off, none⟩ m c (ps.map pv)
      (by rw [List.length_map]; omega) hcells (pv_one ps) (by simp only [maxLen]; omega) (by omega) hbase
    exact ⟨v', w', hrun, h2, h3⟩
theorem wpList_append_pieces {w : World} {ops : Array Oper} {rest : List Oper} {o : Oper} {a : Act} {Q : Exit → Act → World → Prop} (hgd : o.guard = none) (s x : Operand)
    (ho : o.op = .call { callee := .builtin .append, args := #[s, x], argTypes := #[39, 39] })
    (base : Nat) (v : Value) (n : Nat) (vs : List Value) (hs : a.eval s = v) (hown : OwnR w base v n vs) (B : Nat) (A : Option Addr) (m c : Nat) (ps : List Piece) (hx : a.eval x = .slice A m c) (hr : Slw w B A m ps)
    (hlen : n + m ≤ 4398046511104) (hbase : base ≤ w.heap.size) (w0 : World) (hb : Below base w0 w)
    (h : ∀ A' c' w', Hid (OwnR w' base (.slice A' (n + m) c') (n + m) (vs ++ ps.map pv)) → Hid (Below base w0 w') → wpList Tryd.prog ops Q rest (a.put o.dst (.slice A' (n + m) c')) w') :
    wpList Tryd.prog ops Q (o :: rest) a w := by
  refine wpList_plain hgd fun K hK => ?_
  obtain ⟨v', w', hrun, h2, h3⟩ := run_append_pieces w base o.type v n vs hown B A m c ps hr hlen hbase
  obtain ⟨A', c', rfl, hle, hcm⟩ := OwnR.form h2
  unfold Oper.wp execOp
  simp only [ho, resolve, invoke, builtin, Sem.run_bind, Sem.run_pure, Result.andThen_ok, List.map_toArray, List.map_cons, List.map_nil, hs, hx, hrun]
  exact hK _ _ (h A' c' w' h2 (hb.grown h3 hbase fun k hk => (World.ownsRow.lt hown k hk).1))
theorem OwnR.slw {w : World} {B n c : Nat} {A : Option Addr} {ps : List Piece} (h : OwnR w B (.slice A n c) n (ps.map pv)) (hl : ps.length = n)
    (hp : ∀ p ∈ ps, Sl w w.heap.size p.A p.n p.l ∧ p.n ≤ p.c ∧ p.c ≤ maxLen) : Slw w w.heap.size A n ps := by
  refine ⟨hl, fun hj => ?_, hp⟩
  rcases h.2 with ⟨_, h0⟩ | ⟨g, cap, cur, hv, hB, hg, _⟩
  · omega
  · injection hv with hA
    subst hA
    refine ⟨g, 0, rfl, (Array.getElem?_eq_some_iff.1 hg).1, fun i hi => ?_⟩
    have := World.ownsRow.cells (w := w) h (g := g) rfl i (pv ps[i]) (by simp [hi])
    rw [addr_add] at this
    exact this
/-- a row of one piece in a block of its own -/
theorem ownR_one {w : World} {base g : Nat} {v : Value} (hg : w.heap[g]? = some (.cells #[v] 22 (0, 0))) (hb : base ≤ g) : OwnR w base (.slice (some ⟨g, 0, none⟩) 1 1) 1 [v] :=
  ⟨rfl, .inr ⟨g, 1, _, rfl, hb, hg, Nat.le_refl _, by simp [maxLen], rfl, rfl⟩⟩
theorem Slw.below {w w' : World} {B n : Nat} {A : Option Addr} {ps : List Piece} (h : Slw w B A n ps) (hb : Below B w w') : Slw w' B A n ps :=
  ⟨h.len, fun hn => by
    obtain ⟨b, off, e, hB, hc⟩ := h.at_ hn
    exact ⟨b, off, e, hB, fun j hj => (hb.cell hB).trans (hc j hj)⟩, fun p hp => ⟨(h.each p hp).1.below hb, (h.each p hp).2⟩⟩

structure MacW (w wx : World) (g5 g6 : Nat) (kb h : List UInt8) : Prop where
  res : wx.heap[w.heap.size]? = some (.cells (List.replicate 32 (.int .u8 0)).toArray 27 (0, 0))
  b5 : wx.heap[g5]? = some (.cells (bvs kb).toArray 40 (0, 0))
  b6 : wx.heap[g6]? = some (.cells (bvs h).toArray 40 (0, 0))
  sz : w.heap.size < g5 ∧ g5 < g6 ∧ g6 < wx.heap.size
  bl : Below w.heap.size w wx
theorem MacW.only {w wx w' : World} {g5 g6 : Nat} {kb h h' : List UInt8} (k : MacW w wx g5 g6 kb h) (ho : Only g6 wx w') (hv : w'.heap[g6]? = some (.cells (bvs h').toArray 40 (0, 0))) : MacW w w' g5 g6 kb h' := by
  obtain ⟨q1, q2, q3⟩ := k.sz
  have hs := ho.size
  exact ⟨by rw [ho.block _ (by omega) (by omega)]; exact k.res, by rw [ho.block _ (by omega) (by omega)]; exact k.b5, hv, ⟨q1, q2, by omega⟩, k.bl.trans (ho.below (by omega) (by omega))⟩
theorem MacW.below {w wx w' : World} {g5 g6 : Nat} {kb h : List UInt8} (k : MacW w wx g5 g6 kb h) (hb : Below wx.heap.size wx w') : MacW w w' g5 g6 kb h :=
  k.only (.of_below hb) (by rw [hb.block _ k.sz.2.2]; exact k.b6)

theorem macW_start {w w3 w4 : World} {g5 : Nat} {kb x : List UInt8} {o : Obj} (r3 : w3.heap[w.heap.size]? = some (.cells (List.replicate 32 (.int .u8 0)).toArray 27 (0, 0))) (b53 : w3.heap[g5]? = some (.cells (bvs kb).toArray 40 (0, 0)))
    (hb3 : Below w.heap.size w w3) (hz : w.heap.size < g5 ∧ g5 < w3.heap.size) (h4 : w4.heap[w3.heap.size]? = some (.cells (bvs x).toArray 40 (0, 0))) (ho4 : Only w3.heap.size (w3.alloc o) w4) : MacW w w4 g5 w3.heap.size kb x := by
  have hs := ho4.size
  simp at hs
  refine ⟨?_, ?_, h4, ⟨hz.1, hz.2, by omega⟩, (hb3.alloc hb3.size _).trans (ho4.below (by simp; omega) (by omega))⟩
  · rw [ho4.block _ (by simp; omega) (by omega), Below.heap_alloc _ _ _ (by omega)]; exact r3
  · rw [ho4.block _ (by simp; omega) (by omega), Below.heap_alloc _ _ _ (by omega)]; exact b53
theorem bn54 : (54 : Int) = bn 54 := rfl
theorem bn92 : (92 : Int) = bn 92 := rfl

set_option maxHeartbeats 1000000 in
theorem mac_any (key : List UInt8) (ps : List Piece) (A Ap : Option Addr) (n c m cp B : Nat) (w : World) (hG : Glob w) (hs : Sl w B A n key) (hp : Slw w B Ap m ps) (hB : B ≤ w.heap.size) (hnc : n ≤ c) (hcm : c ≤ maxLen)
    (hn : n ≤ 1152921504606846976) (hm : m ≤ 1000000) (hlen : (joined ps).length ≤ 1152921504606846976) :
    Calls Tryd.prog 12 #[.slice A n c, .slice Ap m cp] w fun e w' => e = .returned (.agg (bvs (macV key (joined ps))).toArray) ∧ Below w.heap.size w w' := by
  have HG := Lib.hid hG
  have HS := Lib.hid hs
  have HP := Lib.hid hp
  have HLen := Lib.hid hlen
  obtain ⟨kb, hkb⟩ : ∃ kb, kbV key = kb := ⟨_, rfl⟩
  obtain ⟨x1, hx1⟩ : ∃ x1, xV 54 kb = x1 := ⟨_, rfl⟩
  obtain ⟨x2, hx2⟩ : ∃ x2, xV 92 kb = x2 := ⟨_, rfl⟩
  obtain ⟨s1, hs1⟩ : ∃ s1, sumV (x1 ++ joined ps) = s1 := ⟨_, rfl⟩
  obtain ⟨s2, hs2⟩ : ∃ s2, sumV (x2 ++ s1) = s2 := ⟨_, rfl⟩
  have HV : Hid (macV key (joined ps) = s2) := by
    show _ = _
    unfold macV
    rw [hkb, hx1, hx2, hs1, hs2]
  have hkl : kb.length = 64 := by rw [← hkb]; exact kbV_length _
  have hl1 : x1.length = 64 := by rw [← hx1, xV_length]; exact hkl
  have hl2 : x2.length = 64 := by rw [← hx2, xV_length]; exact hkl
  have hl3 : s1.length = 32 := by rw [← hs1]; exact sumV_length _
  have hl4 : s2.length = 32 := by rw [← hs2]; exact sumV_length _
  have hkbv : (bvs kb).length = 64 := by rw [bvs_length]; exact hkl
  have hb1v : (bvs x1).length = 64 := by rw [bvs_length]; exact hl1
  have hb2v : (bvs x2).length = 64 := by rw [bvs_length]; exact hl2
  have hb3v : (bvs s1).length = 32 := by rw [bvs_length]; exact hl3
  have hb4v : (bvs s2).length = 32 := by rw [bvs_length]; exact hl4
  have HK := Lib.hid hkb
  have HX1 := Lib.hid hx1
  have HX2 := Lib.hid hx2
  have HS1 := Lib.hid hs1
  have HS2 := Lib.hid hs2
  have HKl := Lib.hid hkl
  have HL1 := Lib.hid hl1
  have HL2 := Lib.hid hl2
  have HL3 := Lib.hid hl3
  have HKv := Lib.hid hkbv
  have HB1v := Lib.hid hb1v
  have HB2v := Lib.hid hb2v
  have HB3v := Lib.hid hb3v
  have HB4v := Lib.hid hb4v
  clear hG hs hp hlen hkb hx1 hx2 hs1 hs2 hkl hl1 hl2 hl3 hl4 hkbv hb1v hb2v hb3v hb4v
  go_enter Tryd.func12, Tryd.ntmps12
  go_wp2_with fail
  (with_reducible refine (key_any key A n c B _ ?q1 ?q2 ?q3 hnc hcm hn).mono ?_)
  case q1 => exact HG.out.below ((Below.refl _ _).alloc (Nat.le_refl _) _)
  case q2 => exact HS.out.below ((Below.refl _ _).alloc hB _)
  case q3 => simp; omega
  rintro e1 w1 ⟨rfl, hb1⟩
  rw [HK.out]
  have hz1 := hb1.size
  simp at hz1
  have r1 : w1.heap[w.heap.size]? = some (.cells (List.replicate 32 (.int .u8 0)).toArray 27 (0, 0)) := by
    rw [hb1.block _ (by simp)]; exact heap_alloc_new _ _
  have R1 := Lib.hid r1
  have HB1 : Hid (Below w.heap.size w w1) := ((Below.refl _ _).alloc (Nat.le_refl _) _).trans (hb1.mono (by simp))
  clear hb1 r1
  go_wp2_with (first
    | ((with_reducible refine wpList_store_only rfl 40 (.tmp 5) (.tmp 9) rfl w1.heap.size (bvs kb) ?hx ?hy 40 (List.replicate 64 (.int .u8 0)).toArray ?hg ?hi ?ho (bvs_one _) ?_); (case hx => with_unfolding_all rfl); (case hy => with_unfolding_all rfl); (case hg => exact heap_alloc_new _ _); (case hi => rw [size64b, HKv.out]); (case ho => rw [HKv.out]; rfl); intro w2 H2 HO2)
    | ((with_reducible refine wpList_load_row rfl 40 (.tmp 5) rfl w1.heap.size ?hx 40 _ (0, 0) _ H2.out Tryd.underlying40 rfl ?hi ?_); (case hx => with_unfolding_all rfl); (case hi => rw [size64b, List.size_toArray, HKv.out])))
  have hz2 := HO2.out.size
  simp at hz2
  (with_reducible refine (crossed_any kb 54 54 bn54 HKl.out _).mono ?_)
  rintro e3 w3 ⟨rfl, hb3⟩
  rw [HX1.out]
  have hz3 := hb3.size
  have HB2 : Hid (Below w.heap.size w w2) := (HB1.out.alloc HB1.out.size _).trans (HO2.out.below (by have := HB1.out.size; simp; omega) HB1.out.size)
  have r3 : w3.heap[w.heap.size]? = some (.cells (List.replicate 32 (.int .u8 0)).toArray 27 (0, 0)) := by
    rw [hb3.block _ (by omega), HO2.out.block _ (by simp; omega) (by omega), Below.heap_alloc _ _ _ (by omega)]; exact R1.out
  have b53 : w3.heap[w1.heap.size]? = some (.cells (bvs kb).toArray 40 (0, 0)) := by
    rw [hb3.block _ (by omega)]; exact H2.out
  have HB3 : Hid (Below w.heap.size w w3) := HB2.out.trans (hb3.mono HB2.out.size)
  have R3 := Lib.hid r3
  have B53 := Lib.hid b53
  clear hb3 r3 b53
  have hcut6 := whole64 w3.heap.size
  go_wp2_with (first
    | ((with_reducible refine wpList_store_only rfl 40 (.tmp 6) (.tmp 11) rfl w3.heap.size (bvs x1) ?hx ?hy 40 (List.replicate 64 (.int .u8 0)).toArray ?hg ?hi ?ho (bvs_one _) ?_); (case hx => with_unfolding_all rfl); (case hy => with_unfolding_all rfl); (case hg => exact heap_alloc_new _ _); (case hi => rw [size64b, HB1v.out]); (case ho => rw [HB1v.out]; rfl); intro w4 H4 HO4; have HM : Hid (MacW w w4 w1.heap.size w3.heap.size kb x1) := macW_start R3.out B53.out HB3.out ⟨by omega, by omega⟩ H4.out HO4.out; clear H4 HO4)
    | (at_builtin; (refine wpList_append_pieces rfl (.tmp 13) (.tmp 14) rfl w4.heap.size (.slice (some ⟨w4.heap.size, 0, none⟩) 1 1) 1 [.slice (some ⟨w3.heap.size, 0, none⟩) 64 64] rfl ?how B Ap m cp ps rfl ?hr (by omega) ?hba w4 ?hbe ?_); (case how => exact ownR_one (heap_alloc_new _ _) (Nat.le_refl _)); (case hr => exact HP.out.below ((HM.out.bl.alloc HM.out.bl.size _).mono hB)); (case hba => simp); (case hbe => exact (Below.refl _ _).alloc (Nat.le_refl _) _); intro A5 c5 w5 HO5 HB5))
  have HM5 := Lib.hid (HM.out.below HB5.out)
  have hsl6 : Sl w5 w5.heap.size (some ⟨w3.heap.size, 0, none⟩) 64 x1 := by
    have h := sl_block (B := w5.heap.size) HM5.out.b6 HM5.out.sz.2.2
    rw [HL1.out] at h
    exact h
  have hj5 : joined (⟨some ⟨w3.heap.size, 0, none⟩, 64, 64, x1⟩ :: ps) = x1 ++ joined ps := by simp [joined]
  have hbB : Below B w w5 := HM5.out.bl.mono hB
  (with_reducible refine (sum_weak (⟨some ⟨w3.heap.size, 0, none⟩, 64, 64, x1⟩ :: ps) _ (1 + m) c5 w5.heap.size _ ?q1 ?q2 ?q3 ?q4 ?q5).mono ?_)
  case q1 => exact HG.out.below HM5.out.bl
  case q2 =>
    refine OwnR.slw (c := c5) (B := w4.heap.size) ?_ ?_ ?_
    · exact HO5.out
    · have := HP.out.len; simp; omega
    · intro p hp
      rcases List.mem_cons.1 hp with rfl | hp
      · exact ⟨hsl6, Nat.le_refl _, by simp [maxLen]⟩
      · obtain ⟨q1, q2, q3⟩ := HP.out.each p hp
        exact ⟨(q1.below hbB).more (Nat.le_trans hB HM5.out.bl.size), q2, q3⟩
  case q3 => exact Nat.le_refl _
  case q4 => simp [maxLen]; omega
  case q5 => rw [hj5, List.length_append, HL1.out]; have := HLen.out; omega
  rintro e6 w6 ⟨rfl, hb6⟩
  rw [hj5, HS1.out]
  have HM6 := Lib.hid (HM5.out.below hb6)
  clear hsl6 hj5 hbB hb6 HM5 HM HB5 HO5 H2 HO2 R3 B53 R1
  have hsz6 := HM6.out.sz
  go_wp2_with (first
    | ((with_reducible refine wpList_store_only rfl 27 (.tmp 7) (.tmp 16) rfl w6.heap.size (bvs s1) ?hx ?hy 27 (List.replicate 32 (.int .u8 0)).toArray ?hg ?hi ?ho (bvs_one _) ?_); (case hx => with_unfolding_all rfl); (case hy => with_unfolding_all rfl); (case hg => exact heap_alloc_new _ _); (case hi => rw [size32, HB3v.out]); (case ho => rw [HB3v.out]; rfl); intro w7 H7 HO7; have hb7 : Below w6.heap.size w6 w7 := (((Below.refl _ _).alloc (Nat.le_refl _) _).trans (HO7.out.below (by simp) (Nat.le_refl _))); have HM7 := Lib.hid (HM6.out.below hb7))
    | ((with_reducible refine wpList_load_row rfl 40 (.tmp 5) rfl w1.heap.size ?hx 40 _ (0, 0) _ HM7.out.b5 Tryd.underlying40 rfl ?hi ?_); (case hx => with_unfolding_all rfl); (case hi => rw [size64b, List.size_toArray, HKv.out])))
  have hz7 := HO7.out.size
  simp at hz7
  (with_reducible refine (crossed_any kb 92 92 bn92 HKl.out _).mono ?_)
  rintro e8 w8 ⟨rfl, hb8⟩
  rw [HX2.out]
  have HM8 := Lib.hid (HM7.out.below hb8)
  have hz8 := hb8.size
  have h7 : w8.heap[w6.heap.size]? = some (.cells (bvs s1).toArray 27 (0, 0)) := by
    rw [hb8.block _ (by omega)]; exact H7.out
  have H78 := Lib.hid h7
  clear h7 hb8 hb7 HM7 HM6 H7 HO7
  go_wp2_with ((with_reducible refine wpList_store_only rfl 40 (.tmp 6) (.tmp 18) rfl w3.heap.size (bvs x2) ?hx ?hy 40 _ HM8.out.b6 ?hi ?ho (bvs_one _) ?_); (case hx => with_unfolding_all rfl); (case hy => with_unfolding_all rfl); (case hi => rw [size64b, HB2v.out]); (case ho => rw [HB2v.out, List.size_toArray, HB1v.out]); intro w9 H9 HO9)
  have HM9 := Lib.hid (HM8.out.only HO9.out H9.out)
  have hz9 := HO9.out.size
  have h79 : w9.heap[w6.heap.size]? = some (.cells (bvs s1).toArray 27 (0, 0)) := by
    rw [HO9.out.block _ (by omega) (by omega)]; exact H78.out
  have H79 := Lib.hid h79
  clear h79 H78 HM8 H9 HO9
  have hcut7 := whole32 w6.heap.size
  refine wp_tail 2 (by kernel_rfl) (by kernel_rfl) ?_
  simp only [List.take_succ_cons, List.take_zero, List.drop_succ_cons, List.drop_zero]
  repeat still_step
  refine wpStill_nil ?_
  go_wp2_with fail
  have hsz9 := HM9.out.sz
  have hbr : ∀ o, Below w9.heap.size w9 (w9.drew.alloc o) := fun o => ((Below.refl _ _).drew).alloc (Nat.le_refl _) _
  have hsa : Sl w9 w9.heap.size (some ⟨w3.heap.size, 0, none⟩) 64 x2 := by
    have h := sl_block (B := w9.heap.size) HM9.out.b6 HM9.out.sz.2.2
    rw [HL2.out] at h
    exact h
  have hsb : Sl w9 w9.heap.size (some ⟨w6.heap.size, 0, none⟩) 32 s1 := by
    have h := sl_block (B := w9.heap.size) H79.out (by omega)
    rw [HL3.out] at h
    exact h
  have hj9 : joined [⟨some ⟨w3.heap.size, 0, none⟩, 64, 64, x2⟩, ⟨some ⟨w6.heap.size, 0, none⟩, 32, 32, s1⟩] = x2 ++ s1 := by simp [joined]
  (with_reducible refine (sum_weak [⟨some ⟨w3.heap.size, 0, none⟩, 64, 64, x2⟩, ⟨some ⟨w6.heap.size, 0, none⟩, 32, 32, s1⟩] _ 2 2 (w9.heap.size + 1) _ ?q1 ?q2 ?q3 ?q4 ?q5).mono ?_)
  case q1 => exact (HG.out.below HM9.out.bl).below (hbr _)
  case q2 =>
    refine slw_block (g := w9.heap.size) (ps := [⟨some ⟨w3.heap.size, 0, none⟩, 64, 64, x2⟩, ⟨some ⟨w6.heap.size, 0, none⟩, 32, 32, s1⟩]) (t := 22) (fr := (0, 0)) (heap_alloc_new w9.drew _) (by omega) (fun p hp => ?_)
    simp only [List.mem_cons, List.not_mem_nil, or_false] at hp
    rcases hp with rfl | rfl
    · exact ⟨(hsa.below (hbr _)).more (by omega), Nat.le_refl _, by simp [maxLen]⟩
    · exact ⟨(hsb.below (hbr _)).more (by omega), Nat.le_refl _, by simp [maxLen]⟩
  case q3 => simp
  case q4 => simp [maxLen]
  case q5 => rw [hj9, List.length_append, HL2.out, HL3.out]; omega
  rintro ea wa ⟨rfl, hba⟩
  rw [hj9, HS2.out]
  have HMa := Lib.hid ((HM9.out.below (hbr _)).below hba)
  clear hbr hsa hsb hj9 hba HM9
  go_wp2_with ((with_reducible refine wpList_store_vals rfl 27 (.tmp 4) (.tmp 22) rfl w.heap.size (bvs s2) ?hx ?hy 27 _ HMa.out.res ?hi ?ho (bvs_one _) ?_); (case hx => with_unfolding_all rfl); (case hy => with_unfolding_all rfl); (case hi => rw [size32, HB4v.out]); (case ho => rw [HB4v.out]; rfl))
  rw [HV.out]
  refine ret_row Tryd.results12 w.heap.size 27 _ (0, 0) 32 5 rfl (setRow_heap _ _ _ _ _ _ HMa.out.res) Tryd.underlying27 ?hi rfl ⟨rfl, ?_⟩
  · rw [size32, List.size_toArray, HB4v.out]
  · exact below_setRow HMa.out.bl (Nat.le_refl _) _

set_option maxHeartbeats 1000000 in
theorem extract_any (key text : List UInt8) (A Ap : Option Addr) (n c m cp B : Nat) (w : World) (hG : Glob w) (hs : Sl w B A n key) (hp : Sl w B Ap m text) (hB : B ≤ w.heap.size) (hnc : n ≤ c) (hcm : c ≤ maxLen)
    (hnp : m ≤ cp) (hcp : cp ≤ maxLen) (hn : n ≤ 1152921504606846976) (hm : m ≤ 1152921504606846976) :
    Calls Tryd.prog 14 #[.slice A n c, .slice Ap m cp] w fun e w' => e = .returned (.agg (bvs (macV key text)).toArray) ∧ Below w.heap.size w w' := by
  have HG := Lib.hid hG
  have HS := Lib.hid hs
  have HP := Lib.hid hp
  have hbv : (bvs (macV key text)).length = 32 := by rw [bvs_length]; exact macV_length _ _
  have HBv := Lib.hid hbv
  clear hG hs hp hbv
  go_enter Tryd.func14, Tryd.ntmps14
  go_wp2_with fail
  have hbr : ∀ o o', Below w.heap.size w ((w.alloc o).alloc o') := fun o o' => ((Below.refl _ _).alloc (Nat.le_refl _) _).alloc (by simp) _
  have hj : joined [⟨Ap, m, cp, text⟩] = text := by simp [joined]
  (with_reducible refine (mac_any key [⟨Ap, m, cp, text⟩] A _ n c 1 1 (w.heap.size + 2) _ ?q1 ?q2 ?q3 ?q4 hnc hcm hn ?q5 ?q6).mono ?_)
  case q1 => exact HG.out.below (hbr _ _)
  case q2 => exact (HS.out.below ((hbr _ _).mono hB)).more (by omega)
  case q3 =>
    refine slw_block (g := w.heap.size + 1) (ps := [⟨Ap, m, cp, text⟩]) (t := 22) (fr := (0, 0)) (heap_allocs w [_, _] 1 _ rfl) (by omega) (fun p hp => ?_)
    simp only [List.mem_cons, List.not_mem_nil, or_false] at hp
    subst hp
    exact ⟨(HP.out.below ((hbr _ _).mono hB)).more (by omega), hnp, hcp⟩
  case q4 => simp
  case q5 => omega
  case q6 => rw [hj, HP.out.1]; omega
  rintro e1 w1 ⟨rfl, hb1⟩
  rw [hj]
  have hz1 := hb1.size
  simp at hz1
  have r1 : w1.heap[w.heap.size]? = some (.cells (List.replicate 32 (.int .u8 0)).toArray 27 (0, 0)) := by
    rw [hb1.block _ (by simp; omega)]; exact heap_allocs w [_, _] 0 _ rfl
  have R1 := Lib.hid r1
  have HB1 : Hid (Below w.heap.size w w1) := (hbr _ _).trans (hb1.mono (by simp; omega))
  clear hbr hj hb1 r1
  go_wp2_with ((with_reducible refine wpList_store_vals rfl 27 (.tmp 4) (.tmp 8) rfl w.heap.size (bvs (macV key text)) ?hx ?hy 27 _ R1.out ?hi ?ho (bvs_one _) ?_); (case hx => with_unfolding_all rfl); (case hy => with_unfolding_all rfl); (case hi => rw [size32, HBv.out]); (case ho => rw [HBv.out]; rfl))
  refine ret_row Tryd.results14 w.heap.size 27 _ (0, 0) 32 5 rfl (setRow_heap _ _ _ _ _ _ R1.out) Tryd.underlying27 ?hi rfl ⟨rfl, ?_⟩
  · rw [size32, List.size_toArray, HBv.out]
  · exact below_setRow HB1.out (Nat.le_refl _) _
end Go.Proofs.YtnjdloocalfkmaaDoor
