/-
  slices.Insert of one range.
-/
import Derived.Test.YtjbhhmjkdhkhaaaRgF
import Derived.Lib.AppendZerosOnto
namespace Go.Proofs.Ytjbhhmjkdhkhaaa
open Go.RowKit Go.Lib
set_option linter.unusedVariables false

theorem Moves.grown {g : Nat} {A A' : Option Addr} {n c n' c' : Nat} {w w' : World} (h : w.grownBy w' (Value.slice A n c).ownBlock) (h' : (Value.slice A' n' c').ownBlock = (Value.slice A n c).ownBlock ∨ (Value.slice A' n' c').ownBlock = some w.heap.size) : Moves g A A' w w' :=
  ⟨h.os, h.tape, h.output, h.size, fun k hk _ h2 => h.block k hk (fun e => by
    cases A with
    | none => simp [Value.ownBlock] at e
    | some a => exact h2 a rfl (by simpa [Value.ownBlock] using e)), fun a ha => by
    subst ha
    rcases h' with h' | h'
    · cases A with
      | none => simp [Value.ownBlock] at h'
      | some a0 => exact .inl ⟨a0, rfl, by simpa [Value.ownBlock] using h'⟩
    · exact .inr (by have : a.block = w.heap.size := by simpa [Value.ownBlock] using h'
                     omega)⟩
/-- an append onto a slice of the call's own, and where the row lies then -/
theorem wpList_append_rangesM {w : World} {ops : Array Oper} {rest : List Oper} {o : Oper} {a : Act} {Q : Exit → Act → World → Prop} (hgd : o.guard = none) (s x : Operand)
    (ho : o.op = .call { callee := .builtin .append, args := #[s, x], argTypes := #[31, 31] })
    (base : Nat) (A : Option Addr) (n0 c0 : Nat) (n : Nat) (l : List (Nat × Nat)) (hs : a.eval s = .slice A n0 c0) (hown : OwnR w base (.slice A n0 c0) n l)
    (b off m c : Nat) (r : List (Nat × Nat)) (hx : a.eval x = .slice (some ⟨b, off, none⟩) m c) (hr : SlR w (b + 1) (some ⟨b, off, none⟩) m r) (hm : 0 < m)
    (hlen : n + m ≤ 1000000) (hbase : base ≤ w.heap.size)
    (h : ∀ A' c' w', Hid (OwnR w' base (.slice A' (n + m) c') (n + m) (l ++ r)) → Hid (∀ g, Moves g A A' w w') → wpList Try.prog ops Q rest (a.put o.dst (.slice A' (n + m) c')) w') :
    wpList Try.prog ops Q (o :: rest) a w := by
  refine wpList_plain hgd fun K hK => ?_
  obtain ⟨v', w', hrun, h2, h3, h4⟩ := run_append_ranges w base o.type _ n l hown b off m c hm r hr hlen hbase
  obtain ⟨A', c', rfl, hle, hcm⟩ := h2.form
  unfold Oper.wp execOp
  simp only [ho, resolve, invoke, builtin, Sem.run_bind, Sem.run_pure, Result.andThen_ok, List.map_toArray, List.map_cons, List.map_nil, hs, hx, hrun]
  exact hK _ _ (h A' c' w' h2 (fun g => Moves.grown h3 h4))
/-- the range x alone, in a block of its own -/
def One (w : World) (gv : Nat) (x : Nat × Nat) : Prop := Rw w gv 39 [.int .u64 (x.1 : Int), .int .u64 (x.2 : Int)]
theorem One.sl {w : World} {gv : Nat} {x : Nat × Nat} (h : One w gv x) : SlR w (gv + 1) (some ⟨gv, 0, none⟩) 1 [x] := by
  refine ⟨rfl, fun _ => ⟨gv, 0, rfl, by omega, fun j hj => ?_⟩⟩
  obtain rfl : j = 0 := by simp at hj; omega
  exact ⟨h.cell 0 _ rfl, h.cell 1 _ rfl⟩
set_option maxHeartbeats 2000000 in
/-- at the end -/
theorem insert_end (A : Option Addr) (n c B gv : Nat) (x : Nat × Nat) (l : RL) (w : World) (h : OwnR w B (.slice A n c) n l) (hv : One w gv x) (hB : B ≤ w.heap.size) (hn : n ≤ 1000) :
    Calls Try.prog 28 #[.slice A n c, .int .i64 (n : Int), .slice (some ⟨gv, 0, none⟩) 1 1] w fun e w' => ∃ A' c', e = .returned (.slice A' (n + 1) c') ∧ OwnR w' B (.slice A' (n + 1) c') (n + 1) (l ++ [x]) ∧ ∀ g, Moves g A A' w w' := by
  have hb := h.bnd
  have H := Lib.hid h
  have HV := Lib.hid hv
  have i3 : (n : Int) ≤ (c : Int) := by omega
  clear h hv
  go_enter Try.func28, Try.ntmps28
  go_wp2_with (at_builtin; refine wpList_append_rangesM rfl _ _ rfl B A n c n l rfl H.out gv 0 1 1 [x] rfl HV.out.sl (by omega) (by omega) hB ?_; intro A7 c7 w7 O7 M7)
  all_goals
    go_ret
    exact ⟨A7, c7, rfl, O7.out, M7.out⟩
/-- a copy of ranges into a row -/
theorem wpList_copyR {w : World} {ops : Array Oper} {rest : List Oper} {o : Oper} {a : Act} {Q : Exit → Act → World → Prop} (hgd : o.guard = none) (d s : Operand)
    (ho : o.op = .call { callee := .builtin .copy, args := #[d, s], argTypes := #[31, 31] })
    (gd od dn dc : Nat) (hd : a.eval d = .slice (some ⟨gd, od, none⟩) dn dc) (ad : Addr) (sn sc : Nat) (hs : a.eval s = .slice (some ad) sn sc) (k : Nat) (hk : Nat.min sn dn = k)
    (cur : List Value) (hR : Rw w gd 39 cur) (cs : List Value) (hn : cs.length = k * 2) (hsrc : ∀ j v, cs[j]? = some v → w.cell? (ad.add j) = some v) (h1 : ∀ v ∈ cs, v.oneCell' = true) (hfit : od + cs.length ≤ cur.length)
    (h : ∀ w', Hid (Rw w' gd 39 (splice cur od cs)) → Hid (Only gd w w') → wpList Try.prog ops Q rest (a.put o.dst (goInt k)) w') : wpList Try.prog ops Q (o :: rest) a w := by
  subst hk
  have hrun := run_copyR w o.type gd od dn dc ad sn sc cs hn hsrc (fun j hj => hR.some _ (by omega)) (fun j hj => hR.frozen _) h1
  obtain ⟨r1, r2⟩ := rw_sets hR od cs hfit
  refine wpList_plain hgd fun K hK => ?_
  unfold Oper.wp execOp
  simp only [ho, resolve, invoke, builtin, Sem.run_bind, Sem.run_pure, Result.andThen_ok, List.map_toArray, List.map_cons, List.map_nil, hd, hs, hrun]
  exact hK _ _ (h _ r1 r2)
theorem one_src {w : World} {gv : Nat} {x : Nat × Nat} (h : One w gv x) : ∀ j v, (rvs [x])[j]? = some v → w.cell? ((⟨gv, 0, none⟩ : Addr).add j) = some v := fun j v hv => by
  rw [addr_at, Nat.zero_add]
  exact h.cell j v hv
theorem overlaps_run (w : World) (gv gl off ln lc : Nat) (x : Nat × Nat) (cur : List Value) (hv : One w gv x) (hR : Rw w gl 39 cur) (hne : gv ≠ gl) (h0 : cur.length ≠ 0) :
    (callFunc 30 #[.slice (some ⟨gv, 0, none⟩) 1 1, .slice (some ⟨gl, off, none⟩) ln lc]).run Try.prog w = .ok (.value (.bool false)) w := by
  have hz : ∀ w, (Go.sizeOf 39).run Try.prog w = .ok 2 w := fun w => by
    obtain ⟨i, hi, _, hz1, _⟩ := info_parts range_info
    simp [sizeOf, typeInfo, hi, hz1]
  rw [run_callFunc_extern Try.func30 (by kernel_rfl) (by kernel_rfl) (by kernel_rfl) (e := Extern.SlicesOverlaps.overlaps #[31, 31] #[4]) (by kernel_rfl),
    Lib.run_overlaps_apart w 31 4 39 Try.underlying31 2 hz ⟨gv, 0, none⟩ ⟨gl, off, none⟩ 1 1 ln lc hne 39 39 2 cur.length hv.shape hR.shape h0 (hv.frozen 0) (hv.frozen 2)]
  rfl
theorem splice_two (cur : List Value) (i n : Nat) (l : RL) (x : Nat × Nat) (hl : l.length = n) (hi : i < n) (ht : cur.take (n * 2) = rvs l) (hc : (n + 1) * 2 ≤ cur.length) :
    (splice (splice cur ((i + 1) * 2) (rvs (l.drop i))) (i * 2) (rvs [x])).take ((n + 1) * 2) = rvs (l.take i ++ x :: l.drop i) := by
  have h1 : (rvs (l.drop i)).length = (n - i) * 2 := by rw [rvs_length, List.length_drop, hl]
  have h2 := splice_to cur ((i + 1) * 2) (rvs (l.drop i)) (by rw [h1]; omega)
  rw [h1, show (i + 1) * 2 + (n - i) * 2 = (n + 1) * 2 by omega] at h2
  have h3 := splice_len cur ((i + 1) * 2) (rvs (l.drop i)) (by rw [h1]; omega)
  generalize splice cur ((i + 1) * 2) (rvs (l.drop i)) = c1 at h2 h3 ⊢
  have h4 : (rvs [x]).length = 2 := rfl
  have h5 : splice c1 (i * 2) (rvs [x]) = c1.take (i * 2) ++ (rvs [x] ++ c1.drop ((i + 1) * 2)) := by
    unfold splice
    rw [h4, show i * 2 + 2 = (i + 1) * 2 by omega]
  rw [h5]
  have e1 : c1.take (i * 2) = rvs (l.take i) := by
    rw [show c1.take (i * 2) = (c1.take ((n + 1) * 2)).take (i * 2) by rw [List.take_take, Nat.min_eq_left (by omega)], h2, List.take_append_of_le_length (by rw [List.length_take]; omega), List.take_take, Nat.min_eq_left (by omega), ← rvs_take, ← ht, List.take_take, Nat.min_eq_left (by omega)]
  have e2 : (c1.drop ((i + 1) * 2)).take ((n - i) * 2) = rvs (l.drop i) := by
    rw [show (c1.drop ((i + 1) * 2)).take ((n - i) * 2) = (c1.take ((n + 1) * 2)).drop ((i + 1) * 2) by rw [List.drop_take]; congr 1; omega, h2]
    exact List.drop_left' (by rw [List.length_take]; omega)
  rw [show rvs (l.take i ++ x :: l.drop i) = c1.take (i * 2) ++ (rvs [x] ++ (c1.drop ((i + 1) * 2)).take ((n - i) * 2)) by rw [rvs_append, e1, e2]; rfl]
  have e3 : (c1.take (i * 2)).length = i * 2 := by rw [List.length_take]; omega
  rw [List.take_append, e3, List.take_of_length_le (l := c1.take (i * 2)) (by omega), List.take_append, h4, List.take_of_length_le (l := rvs [x]) (by rw [h4]; omega), show (n + 1) * 2 - i * 2 - 2 = (n - i) * 2 by omega]
set_option maxHeartbeats 4000000 in
/-- ahead of the end, with room -/
theorem insert_room (gl n c B gv i : Nat) (x : Nat × Nat) (l : RL) (w : World) (h : OwnR w B (.slice (some ⟨gl, 0, none⟩) n c) n l) (hv : One w gv x) (hne : gv ≠ gl) (hi : i < n) (hroom : n + 1 ≤ c) (hn : n ≤ 1000) :
    Calls Try.prog 28 #[.slice (some ⟨gl, 0, none⟩) n c, .int .i64 (i : Int), .slice (some ⟨gv, 0, none⟩) 1 1] w fun e w' => e = .returned (.slice (some ⟨gl, 0, none⟩) (n + 1) c) ∧ OwnR w' B (.slice (some ⟨gl, 0, none⟩) (n + 1) c) (n + 1) (l.take i ++ x :: l.drop i) ∧ Only gl w w' := by
  have hl := h.len
  obtain ⟨cur, hR, hB, hc, hnc, hm, ht⟩ := ownR_cur h
  have i1 : (i : Int) ≤ (n : Int) := by omega
  have i2 : ¬ ((i : Int) = (n : Int)) := by omega
  have i3 : (n : Int) ≤ (c : Int) := by omega
  have i4 : ¬ ((c : Int) < (n : Int) + 1) := by omega
  have hcA : ∀ u, (Instr.slice 31 (.slice (some ⟨gl, 0, none⟩) n c) none (some (.int .i64 ((n : Int) + 1))) none).run Try.prog u = .ok (.slice (some ⟨gl, 0, none⟩) (n + 1) c) u := fun u => run_cutR u _ (fun a ha => by cases ha; rfl) n c (n + 1) hroom
  have hcB : ∀ u, (Instr.slice 31 (.slice (some ⟨gl, 0, none⟩) (n + 1) c) (some (.int .i64 ((i : Int) + 1))) none none).run Try.prog u = .ok (.slice (some ⟨gl, (i + 1) * 2, none⟩) (n - i) (c - (i + 1))) u := fun u => by
    have h1 := run_cutR_from u gl 0 (n + 1) c (i + 1) (by omega) hroom
    rw [if_neg (by omega), show n + 1 - (i + 1) = n - i by omega, Nat.zero_add] at h1
    exact h1
  have hcC : ∀ u, (Instr.slice 31 (.slice (some ⟨gl, 0, none⟩) (n + 1) c) (some (.int .i64 (i : Int))) none none).run Try.prog u = .ok (.slice (some ⟨gl, i * 2, none⟩) (n + 1 - i) (c - i)) u := fun u => by
    have h1 := run_cutR_from u gl 0 (n + 1) c i (by omega) hroom
    rw [if_neg (by omega), Nat.zero_add] at h1
    exact h1
  have hw1 : IntKind.i64.wrap ((i : Int) + 1) = (i : Int) + 1 := by rw [IntKind.wrap_i64]; omega
  have hov : ∀ ln lc, (callFunc 30 #[.slice (some ⟨gv, 0, none⟩) 1 1, .slice (some ⟨gl, (i + 1) * 2, none⟩) ln lc]).run Try.prog w = .ok (.value (.bool false)) w := fun ln lc => overlaps_run w gv gl _ ln lc x cur hv hR hne (by omega)
  have HR := Lib.hid hR
  have HV := Lib.hid hv
  have HC := Lib.hid hc
  have HT := Lib.hid ht
  have hlen : (rvs (l.drop i)).length = (n - i) * 2 := by rw [rvs_length, List.length_drop, hl]
  have HLEN := Lib.hid hlen
  have HLN := Lib.hid hl
  clear h hR hv hc ht hl hlen
  go_enter Try.func28, Try.ntmps28
  go_wp2_with fail
  refine wp_tail 8 (by kernel_rfl) (by kernel_rfl) ?_
  simp only [List.take_succ_cons, List.take_zero, List.drop_succ_cons, List.drop_zero]
  repeat still_step
  refine wpStill_nil ?_
  go_wp2_with (first
    | ((with_reducible refine wpList_copyR rfl (.tmp 73) (.tmp 76) rfl gl ((i + 1) * 2) (n - i) (c - (i + 1)) ?hx ⟨gl, i * 2, none⟩ (n + 1 - i) (c - i) ?hy (n - i) ?hk cur HR.out.drew (rvs (l.drop i)) HLEN.out ?hs (rvs_one _) ?hr ?_); (case hx => with_unfolding_all rfl); (case hy => with_unfolding_all rfl); (case hk => exact Nat.min_eq_right (by omega)); (case hs => exact fun j v hv => (by rw [addr_at]; exact row_at HR.out.drew HT.out i j v hv)); (case hr => rw [HLEN.out, HC.out]; omega); intro w2 R2 O2)
    | ((with_reducible refine wpList_copyR rfl (.tmp 80) (.tmp 81) rfl gl (i * 2) (n + 1 - i) (c - i) ?hx ⟨gv, 0, none⟩ 1 1 ?hy 1 ?hk (splice cur ((i + 1) * 2) (rvs (l.drop i))) R2.out (rvs [x]) rfl ?hs (rvs_one _) ?hr ?_); (case hx => with_unfolding_all rfl); (case hy => with_unfolding_all rfl); (case hk => exact Nat.min_eq_left (by omega)); (case hs => exact one_src (HV.out.drew.only O2.out hne)); (case hr => rw [splice_len _ _ _ (by rw [HLEN.out, HC.out]; omega), HC.out]; simp [rvs]; omega); intro w3 R3 O3))
  go_ret
  have e2 := splice_len cur ((i + 1) * 2) (rvs (l.drop i)) (by rw [HLEN.out, HC.out]; omega)
  refine ⟨rfl, ownR_row R3.out hB ?_ hroom hm ?_ (splice_two cur i n l x HLN.out hi HT.out (by rw [HC.out]; omega)), ((Only.refl gl w).drew.trans O2.out).trans O3.out⟩
  · rw [splice_len _ _ _ (by rw [e2, HC.out]; simp [rvs]; omega), e2, HC.out]
  · have := HLN.out
    simp
    omega
/-- an append of zeros where there is no room -/
theorem zeros_run (w : World) (gl n c i : Nat) (l : RL) (B : Nat) (h : OwnR w B (.slice (some ⟨gl, 0, none⟩) n c) n l) (hi : i < n) (hroom : c < n + 1) (hn : n ≤ 1000) :
    ∃ c' cur' w1, (∀ ty, (Builtin.append_ #[31, 3] ty #[.slice (some ⟨gl, 0, none⟩) i c, .int .i64 ((n : Int) + 1 - (i : Int))]).run Try.prog w = .ok (.slice (some ⟨w.heap.size, 0, none⟩) (n + 1) c') w1) ∧
      Rw w1 w.heap.size 39 cur' ∧ cur'.length = c' * 2 ∧ n + 1 ≤ c' ∧ c' ≤ maxLen ∧ cur'.take (i * 2) = rvs (l.take i) ∧ Below w.heap.size w w1 := by
  obtain ⟨i0, hi0, hz0, hzs, hzb⟩ := info_parts range_info
  obtain ⟨cur, hR, hB, hc, hnc, hm, ht⟩ := ownR_cur h
  have hl := h.len
  have h48 : (n + 1) * 16 ≤ 140737488355328 := by omega
  have hold : (Builtin.firstCells i0.size i (.slice (some ⟨gl, 0, none⟩) i c)).run Try.prog w.drew = .ok (rvs (l.take i)).toArray w.drew := by
    rw [hzs]
    refine run_firstCells_some w.drew 2 i ⟨gl, 0, none⟩ i c (rvs (l.take i)) (by rw [rvs_length, List.length_take]; omega) fun j v hj => ?_
    rw [addr_at]
    have h1 : (rvs (l.drop 0))[j]? = some v := by
      rw [List.drop_zero]
      rw [← rvs_take, List.getElem?_take] at hj
      split at hj
      · exact hj
      · cases hj
    have := row_at hR.drew ht 0 j v h1
    simpa using this
  have e := fun ty => Lib.run_append_grow_zeros (P := Try.prog) w 31 3 ty 39 i0 _ .i64 .i64 Try.underlying31 Try.underlying3 hi0 hz0 (some ⟨gl, 0, none⟩) i c (rvs (l.take i)) hold (n + 1 - i) (by omega) (by rw [hzs]; omega) (by omega) (by omega) (by rw [hzb]; omega)
    (by rw [hzb, show i + (n + 1 - i) = n + 1 by omega]; exact growslice_fits hroom h48)
  have ek : (n : Int) + 1 - (i : Int) = ((n + 1 - i : Nat) : Int) := by omega
  have es : i + (n + 1 - i) = n + 1 := by omega
  rw [es] at e
  have hge := grownCap_ge w (n + 1) c 39
  have hle := grownCap_le_maxLen w (n + 1) c 39 (by simp [maxLen]; omega)
  generalize hG : grownCap w (n + 1) c 39 = G at e hge hle
  generalize hZ1 : Builtin.zeroCells (Value.agg #[.int .u64 0, .int .u64 0]).cells (n + 1 - i) = Z1 at e
  generalize hZ2 : Builtin.zeroCells (Value.agg #[.int .u64 0, .int .u64 0]).cells (G - (n + 1)) = Z2 at e
  have s1 : Z1.size = (n + 1 - i) * 2 := by rw [← hZ1]; simp [Builtin.zeroCells, Value.cells]
  have s2 : Z2.size = (G - (n + 1)) * 2 := by rw [← hZ2]; simp [Builtin.zeroCells, Value.cells]
  have s3 : (rvs (l.take i)).length = i * 2 := by rw [rvs_length, List.length_take]; omega
  refine ⟨G, rvs (l.take i) ++ (Z1.toList ++ Z2.toList), w.drew.alloc (.cells ((rvs (l.take i)).toArray ++ Z1 ++ Z2) 39), fun ty => ?_, ?_, ?_, hge, hle, ?_, ?_⟩
  · rw [ek]; exact e ty
  · unfold Rw
    have h1 := heap_alloc_new w.drew (.cells ((rvs (l.take i)).toArray ++ Z1 ++ Z2) 39)
    refine Eq.trans h1 ?_
    congr 2
    simp
  · simp only [List.length_append, s3, Array.length_toList, s1, s2]; omega
  · exact List.take_left' s3
  · exact (Below.refl _ w).trans ((Below.refl _ w.drew).alloc (Nat.le_refl _) _ |> fun b => ⟨b.os, b.tape, b.output, b.size, b.block⟩)
theorem wpList_app_run {w : World} {ops : Array Oper} {rest : List Oper} {o : Oper} {a : Act} {Q : Exit → Act → World → Prop} (hgd : o.guard = none) (s x : Operand) (t t' : TypeId)
    (ho : o.op = .call { callee := .builtin .append, args := #[s, x], argTypes := #[t, t'] }) (v u : Value) (hs : a.eval s = v) (hx : a.eval x = u) {v' : Value} {w' : World}
    (hr : ∀ ty, (Builtin.append_ #[t, t'] ty #[v, u]).run Try.prog w = .ok v' w') (h : wpList Try.prog ops Q rest (a.put o.dst v') w') : wpList Try.prog ops Q (o :: rest) a w := by
  refine wpList_plain hgd fun K hK => ?_
  unfold Oper.wp execOp
  simp only [ho, resolve, invoke, builtin, Sem.run_bind, Sem.run_pure, Result.andThen_ok, List.map_toArray, List.map_cons, List.map_nil, hs, hx, hr]
  exact hK _ _ h
set_option maxHeartbeats 4000000 in
/-- ahead of the end, without room -/
theorem insert_grow (gl n c B gv i : Nat) (x : Nat × Nat) (l : RL) (w : World) (h : OwnR w B (.slice (some ⟨gl, 0, none⟩) n c) n l) (hv : One w gv x) (hi : i < n) (hroom : c < n + 1) (hn : n ≤ 1000) (hBw : B ≤ w.heap.size) :
    Calls Try.prog 28 #[.slice (some ⟨gl, 0, none⟩) n c, .int .i64 (i : Int), .slice (some ⟨gv, 0, none⟩) 1 1] w fun e w' => ∃ c', e = .returned (.slice (some ⟨w.heap.size, 0, none⟩) (n + 1) c') ∧ OwnR w' B (.slice (some ⟨w.heap.size, 0, none⟩) (n + 1) c') (n + 1) (l.take i ++ x :: l.drop i) ∧ Below w.heap.size w w' := by
  have hl := h.len
  obtain ⟨c', cur', w1, hz, hR1, hc1, hge, hle, ht1, hb1⟩ := zeros_run w gl n c i l B h hi hroom hn
  obtain ⟨cur, hR, hB, hc, hnc, hm, ht⟩ := ownR_cur h
  have i1 : (i : Int) ≤ (n : Int) := by omega
  have i2 : ¬ ((i : Int) = (n : Int)) := by omega
  have i3 : (n : Int) ≤ (c : Int) := by omega
  have i4 : (c : Int) < (n : Int) + 1 := by omega
  have i7 : i ≤ c := by omega
  have hw1 : IntKind.i64.wrap ((i : Int) + 1) = (i : Int) + 1 := by rw [IntKind.wrap_i64]; omega
  have hcA : ∀ u, (Instr.slice 31 (.slice (some ⟨gl, 0, none⟩) n c) none (some (.int .i64 (i : Int))) none).run Try.prog u = .ok (.slice (some ⟨gl, 0, none⟩) i c) u := fun u => run_cutR u _ (fun a ha => by cases ha; rfl) n c i i7
  have hcB : ∀ u, (Instr.slice 31 (.slice (some ⟨w.heap.size, 0, none⟩) (n + 1) c') (some (.int .i64 ((i : Int) + 1))) none none).run Try.prog u = .ok (.slice (some ⟨w.heap.size, (i + 1) * 2, none⟩) (n - i) (c' - (i + 1))) u := fun u => by
    have h1 := run_cutR_from u w.heap.size 0 (n + 1) c' (i + 1) (by omega) hge
    rw [if_neg (by omega), show n + 1 - (i + 1) = n - i by omega, Nat.zero_add] at h1
    exact h1
  have hcC : ∀ u, (Instr.slice 31 (.slice (some ⟨w.heap.size, 0, none⟩) (n + 1) c') (some (.int .i64 (i : Int))) none none).run Try.prog u = .ok (.slice (some ⟨w.heap.size, i * 2, none⟩) (n + 1 - i) (c' - i)) u := fun u => by
    have h1 := run_cutR_from u w.heap.size 0 (n + 1) c' i (by omega) hge
    rw [if_neg (by omega), Nat.zero_add] at h1
    exact h1
  have hcD : ∀ u, (Instr.slice 31 (.slice (some ⟨gl, 0, none⟩) n c) (some (.int .i64 (i : Int))) none none).run Try.prog u = .ok (.slice (some ⟨gl, i * 2, none⟩) (n - i) (c - i)) u := fun u => by
    have h1 := run_cutR_from u gl 0 n c i (by omega) hnc
    rw [if_neg (by omega), Nat.zero_add] at h1
    exact h1
  have HR := Lib.hid (hR.below hb1)
  have HV := Lib.hid (hv.below hb1)
  have HR1 := Lib.hid hR1
  have HB1 := Lib.hid hb1
  have HLT := Lib.hid (show gl < w.heap.size from hR.lt)
  have HLV := Lib.hid (show gv < w.heap.size from Rw.lt hv)
  have HC := Lib.hid hc1
  have HT := Lib.hid ht
  have HT1 := Lib.hid ht1
  have hlen : (rvs (l.drop i)).length = (n - i) * 2 := by rw [rvs_length, List.length_drop, hl]
  have HLEN := Lib.hid hlen
  have HLN := Lib.hid hl
  clear h hR hv hc ht hl hlen hR1 hb1 hc1 ht1
  generalize hs0 : w.heap.size = s0 at *
  go_enter Try.func28, Try.ntmps28
  go_wp2_with (first
    | ((with_reducible refine wpList_app_run rfl (.tmp 34) (.tmp 39) 31 3 rfl (.slice (some ⟨gl, 0, none⟩) i c) (.int .i64 ((n : Int) + 1 - (i : Int))) ?hx ?hy hz ?_); (case hx => with_unfolding_all rfl); (case hy => with_unfolding_all rfl))
    | ((with_reducible refine wpList_copyR rfl (.tmp 43) (.tmp 44) rfl s0 (i * 2) (n + 1 - i) (c' - i) ?hx ⟨gv, 0, none⟩ 1 1 ?hy 1 ?hk cur' HR1.out (rvs [x]) rfl ?hs (rvs_one _) ?hr ?_); (case hx => with_unfolding_all rfl); (case hy => with_unfolding_all rfl); (case hk => exact Nat.min_eq_left (by omega)); (case hs => exact one_src HV.out); (case hr => rw [HC.out]; simp [rvs]; omega); intro w2 R2 O2))
  refine wp_tail 8 (by kernel_rfl) (by kernel_rfl) ?_
  simp only [List.take_succ_cons, List.take_zero, List.drop_succ_cons, List.drop_zero]
  repeat still_step
  refine wpStill_nil ?_
  have HR2 : Hid (Rw w2 gl 39 cur) := HR.out.only O2.out (by have := HLT.out; omega)
  go_wp2_with ((with_reducible refine wpList_copyR rfl (.tmp 50) (.tmp 53) rfl s0 ((i + 1) * 2) (n - i) (c' - (i + 1)) ?hx ⟨gl, i * 2, none⟩ (n - i) (c - i) ?hy (n - i) ?hk (splice cur' (i * 2) (rvs [x])) R2.out.drew (rvs (l.drop i)) HLEN.out ?hs (rvs_one _) ?hr ?_); (case hx => with_unfolding_all rfl); (case hy => with_unfolding_all rfl); (case hk => exact Nat.min_self _); (case hs => exact fun j v hv => (by rw [addr_at]; exact row_at HR2.out.drew HT.out i j v hv)); (case hr => rw [splice_len _ _ _ (by rw [HC.out]; simp [rvs]; omega), HLEN.out, HC.out]; omega); intro w3 R3 O3)
  go_ret
  have e2 := splice_len cur' (i * 2) (rvs [x]) (by rw [HC.out]; simp [rvs]; omega)
  have e4 : (rvs (l.drop i)).length = (n - i) * 2 := HLEN.out
  refine ⟨c', rfl, ownR_row R3.out (by omega) ?_ hge hle ?_ ?_, HB1.out.trans ((((Only.refl s0 w1).trans O2.out).drew.trans O3.out).below (by have := HB1.out.size; omega) (Nat.le_refl _))⟩
  · rw [splice_len _ _ _ (by rw [e2, HC.out, e4]; omega), e2, HC.out]
  · have := HLN.out
    simp
    omega
  · have e3 := splice_to (splice cur' (i * 2) (rvs [x])) ((i + 1) * 2) (rvs (l.drop i)) (by rw [e2, HC.out, e4]; omega)
    rw [e4, show (i + 1) * 2 + (n - i) * 2 = (n + 1) * 2 by omega] at e3
    have e5 := splice_to cur' (i * 2) (rvs [x]) (by rw [HC.out]; simp [rvs]; omega)
    rw [show i * 2 + (rvs [x]).length = (i + 1) * 2 by simp [rvs]; omega] at e5
    rw [e3, e5, HT1.out, List.append_assoc, rvs_append]
    rfl
end Go.Proofs.Ytjbhhmjkdhkhaaa
