/-
  Contracts of crossed, keyBlock and Equal.
-/
import Derived.Test.YtnjdloocalfkmaaDoorHkP
import Derived.Test.YtnjdloocalfkmaaDoorShaJ
namespace Go.Proofs.YtnjdloocalfkmaaDoor
open Go.RowKit Go.Joins
set_option linter.unusedVariables false

theorem u8_xor' (x y : UInt8) : bits .xor .u8 (bn x) (bn y) = bn (x ^^^ y) := by
  unfold bn
  rw [u8_xor_nat _ _ x.toNat_lt y.toNat_lt, UInt8.toNat_xor]
theorem u8_or' (x y : UInt8) : bits .or .u8 (bn x) (bn y) = bn (x ||| y) := by
  unfold bn
  rw [u8_or_nat _ _ x.toNat_lt y.toNat_lt, UInt8.toNat_or]
/-- an array in memory as a slice -/
theorem run_whole {P : Program} (u : World) (t e : TypeId) (n : Nat) (hu : P.underlying t = some (.array n e)) (hs : (P.info? e).map (·.size) = some 1) (g : Nat) :
    (Instr.sliceAt t (.pointer (some ⟨g, 0, none⟩)) none none none).run P u = .ok (.slice (some ⟨g, 0, none⟩) n n) u := by
  have ha : P.arrayLen t = n := by simp [Program.arrayLen, hu]
  have he : P.elem t = e := by simp [Program.elem, hu]
  have h := run_sliceAt_array_all (P := P) u t ⟨g, 0, none⟩ (by rw [ha, he]; exact hu)
  rw [h, he]
  cases hq : P.info? e with
  | none => simp [hq] at hs
  | some i =>
    have h1 : i.size = 1 := by simpa [hq] using hs
    simp [sizeOf, typeInfo, hq, h1, slicedAt, ha, addr_add]
theorem whole64 (g : Nat) (u : World) : (Instr.sliceAt 40 (.pointer (some ⟨g, 0, none⟩)) none none none).run Tryd.prog u = .ok (.slice (some ⟨g, 0, none⟩) 64 64) u := run_whole u _ _ 64 Tryd.underlying40 size1 g
theorem whole32 (g : Nat) (u : World) : (Instr.sliceAt 27 (.pointer (some ⟨g, 0, none⟩)) none none none).run Tryd.prog u = .ok (.slice (some ⟨g, 0, none⟩) 32 32) u := run_whole u _ _ 32 Tryd.underlying27 size1 g

/-- the first j bytes crossed -/
def xrow (x : UInt8) (l : List UInt8) (j : Nat) : List UInt8 := xV x (l.take j) ++ l.drop j
theorem xrow_length (x : UInt8) (l : List UInt8) (j : Nat) : (xrow x l j).length = l.length := by simp [xrow, xV]; omega
theorem xrow_set (x : UInt8) (l : List UInt8) (j : Nat) (h : j < l.length) : (xrow x l j).set j (l[j] ^^^ x) = xrow x l (j + 1) := by
  unfold xrow
  rw [List.set_append, if_neg (by simp [xV]; omega)]
  have e : j - (xV x (l.take j)).length = 0 := by simp [xV]; omega
  rw [e, List.drop_eq_getElem_cons h, List.set_cons_zero, List.take_succ_eq_append_getElem h]
  simp only [xV, List.map_append, List.map_cons, List.map_nil, List.append_assoc, List.cons_append, List.nil_append]
theorem xrow_get (x : UInt8) (l : List UInt8) (j : Nat) (h : j < l.length) : (xrow x l j)[j]? = some l[j] := by
  unfold xrow
  rw [List.getElem?_append_right (by simp [xV]; omega)]
  simp [xV, show min j l.length = j by omega, h]
theorem xrow_full (x : UInt8) (l : List UInt8) (j : Nat) (h : l.length ≤ j) : xrow x l j = xV x l := by
  unfold xrow
  rw [List.take_of_length_le h, List.drop_of_length_le h, List.append_nil]

attribute [local go_sem] u8_xor' u8_or'
set_option maxHeartbeats 1000000 in
theorem crossed_any (l : List UInt8) (z : Int) (x : UInt8) (hz : z = bn x) (hl : l.length = 64) (w : World) :
    Calls Tryd.prog 24 #[.agg (bvs l).toArray, .int .u8 z] w fun e w' => e = .returned (.agg (bvs (xV x l)).toArray) ∧ Below w.heap.size w w' := by
  subst hz
  have Hl := Lib.hid hl
  clear hl
  go_enter Tryd.func24, Tryd.ntmps24
  go_wp2_with fail
  go_loopw [6] (fun i wr => ∃ j : Nat, j ≤ 64 ∧ i = .int .i64 j ∧ Hid (wr.heap[w.heap.size]? = some (.cells (bvs (xrow x l j)).toArray 40 (0, 0))) ∧
    Hid (wr.heap[w.heap.size + 1]? = some (.cells (List.replicate 64 (.int .u8 0)).toArray 40 (0, 0))) ∧ Hid (Below w.heap.size w wr)) (fun i _ => 64 - (intOf i).toNat)
  case atStart =>
    refine ⟨0, by omega, rfl, ?_, heap_allocs w [_, _] 1 _ rfl, ((Below.refl _ _).alloc (Nat.le_refl _) _).alloc (by simp) _⟩
    exact heap_allocs w [_, _] 0 _ (by simp [xrow, xV])
  case round =>
    obtain ⟨j, hj, rfl, H0, H1, HB⟩ := hrel
    have hl := Hl.out
    by_cases hlt : j < 64
    · have hjl : j < l.length := by omega
      obtain ⟨y, hy⟩ : ∃ y, l[j] = y := ⟨_, rfl⟩
      have cj : wr.cell? ⟨w.heap.size, j, none⟩ = some (.int .u8 (bn y)) := by
        rw [cell_of_row _ _ _ _ _ _ H0.out, List.getElem?_toArray]
        unfold bvs
        rw [List.getElem?_map, xrow_get x l j hjl, hy]
        rfl
      have cf : wr.frozen? ⟨w.heap.size, j, none⟩ = false := frozen_of_row _ _ _ _ _ H0.out
      have li : (j : Int) < 64 := by omega
      have HY := Lib.hid hy
      clear hy hl
      go_wp2_with fail
      go_roundw
      case rel =>
        refine ⟨j + 1, by omega, by go_num, ?_, ?_, HB.out.setCell (Nat.le_refl _) _⟩
        · show _ = _
          rw [heap_setCell_same _ _ _ _ _ _ H0.out, List.setIfInBounds_toArray]
          have e := xrow_set x l j hjl
          rw [HY.out] at e
          rw [← e]
          simp [bvs, bv, bn, List.map_set]
        · show _ = _
          rw [heap_setCell_other _ _ _ _ (by simp)]
          exact H1.out
      case measure => simp [intOf]; omega
    · obtain rfl : j = 64 := by omega
      rw [xrow_full x l 64 (by omega)] at H0
      have hol : (bvs (xV x l)).length = 64 := by rw [bvs_length, xV_length, hl]
      have HOl := Lib.hid hol
      clear hol hl
      go_wp2_with (first
        | ((with_reducible refine wpList_load_row rfl 40 (.tmp 2) rfl w.heap.size ?hx 40 _ (0, 0) _ H0.out Tryd.underlying40 rfl ?hi ?_); (case hx => with_unfolding_all rfl); (case hi => rw [size64b, List.size_toArray, HOl.out]))
        | ((with_reducible refine wpList_store_vals rfl 40 (.tmp 4) (.tmp 16) rfl (w.heap.size + 1) (bvs (xV x l)) ?hx ?hy 40 _ H1.out ?hi ?ho (bvs_one _) ?_); (case hx => with_unfolding_all rfl); (case hy => with_unfolding_all rfl); (case hi => rw [size64b, HOl.out]); (case ho => rw [HOl.out]; rfl)))
      refine ret_row Tryd.results24 (w.heap.size + 1) 40 _ (0, 0) 64 5 rfl (setRow_heap _ _ _ _ _ _ H1.out) Tryd.underlying40 ?hi rfl ⟨rfl, ?_⟩
      · rw [size64b, List.size_toArray, HOl.out]
      · exact below_setRow HB.out (by omega) _

/-- copy into a block of bytes that is known whole -/
theorem wpList_copy_over {w : World} {ops : Array Oper} {rest : List Oper} {o : Oper} {a : Act} {Q : Exit → Act → World → Prop} (hgd : o.guard = none) (d s : Operand)
    (ho : o.op = .call { callee := .builtin .copy, args := #[d, s], argTypes := #[22, 22] })
    (g off dn dc m c B k : Nat) (dp A : Option Addr) (l old : List UInt8) (t : TypeId) (hd : a.eval d = .slice dp dn dc) (hs : a.eval s = .slice A m c)
    (hr : Sl w B A m l) (hg : w.heap[g]? = some (.cells (bvs old).toArray t (0, 0))) (hk : k = min m dn) (hdp : 0 < k → dp = some ⟨g, off, none⟩) (hfit : off + k ≤ old.length)
    (h : ∀ w', Hid (w'.heap[g]? = some (.cells (bvs (splice old off (l.take k))).toArray t (0, 0))) → Hid (Only g w w') → wpList Tryd.prog ops Q rest (a.put o.dst (goInt k)) w') : wpList Tryd.prog ops Q (o :: rest) a w := by
  have hl := hr.1
  have hlen : (bvs (l.take k)).length = k := by rw [bvs_length, List.length_take]; omega
  rcases Nat.eq_zero_or_pos k with h0 | h0
  · subst h0
    refine wpList_copy_nothing hgd d s 22 22 ho 5 Tryd.underlying22 size1 dp A dn dc m c hd hs hk.symm ?_
    exact h w (show _ = _ by simpa [splice] using hg) (Only.refl _ _)
  · obtain ⟨b, o', rfl, hbB, hc⟩ := hr.2 (by omega)
    obtain rfl := hdp h0
    refine wpList_copy_own hgd d s 22 22 ho 5 Tryd.underlying22 size1 g off dn dc ⟨b, o', none⟩ m c hd hs _ t hg (bvs (l.take k)) (by rw [hlen]; exact hk) ?_ ?_ (bvs_one _) ?_
    · intro j u hu
      have hj : j < (l.take k).length := by
        have := (List.getElem?_eq_some_iff.1 hu).1
        rwa [bvs_length] at this
      have hj' : j < l.length := by rw [List.length_take] at hj; omega
      have hjk : j < k := by rw [List.length_take] at hj; omega
      rw [addr_add, hc j hj', ← hu]
      simp [bvs, hjk, hj']
    · rw [hlen]; simpa [bvs_length] using hfit
    · have e : (bvs old).toArray.toList.take off ++ (bvs (l.take k) ++ (bvs old).toArray.toList.drop (off + (bvs (l.take k)).length)) = bvs (splice old off (l.take k)) := by
        rw [← bvs_splice]
        rfl
      rw [e, hlen]
      exact h _ (setRow_heap _ _ _ _ _ _ hg) ((Only.refl g w).setRow _)
theorem zeros_bvs (n : Nat) : List.replicate n (Value.int .u8 0) = bvs (List.replicate n 0) := by simp [bvs, bv]
theorem kb_splice (k : List UInt8) (h : k.length ≤ 64) : splice (List.replicate 64 0) 0 k = k ++ List.replicate (64 - k.length) 0 := by
  unfold splice
  rw [List.take_zero, List.nil_append, Nat.zero_add, List.drop_replicate]

set_option maxHeartbeats 1000000 in
theorem key_short (key : List UInt8) (A : Option Addr) (n c B : Nat) (w : World) (hs : Sl w B A n key) (hB : B ≤ w.heap.size) (hn : n ≤ 64) :
    Calls Tryd.prog 23 #[.slice A n c] w fun e w' => e = .returned (.agg (bvs (kbV key)).toArray) ∧ Below w.heap.size w w' := by
  have hl := hs.1
  have HV : Hid (splice (List.replicate 64 0) 0 (key.take n) = kbV key) := by
    show _ = _
    rw [List.take_of_length_le (by omega), kb_splice _ (by omega)]
    unfold kbV keyV
    rw [if_neg (by omega)]
  have HS := Lib.hid hs
  have t1 : decide ((64 : Int) < (n : Int)) = false := by simp; omega
  have hcut := whole64 (w.heap.size + 1)
  have hol : (bvs (kbV key)).length = 64 := by rw [bvs_length, kbV_length]
  have HOl := Lib.hid hol
  clear hl hs hol
  go_enter Tryd.func23, Tryd.ntmps23
  go_wp2_with (first
    | ((with_reducible refine wpList_copy_over rfl (.tmp 12) (.tmp 13) rfl (w.heap.size + 1) 0 64 64 n c B n _ A key (List.replicate 64 0) 40 ?hd ?hs ?hr ?hg ?hk (fun _ => rfl) ?hf ?_); (case hd => with_unfolding_all rfl); (case hs => with_unfolding_all rfl); (case hr => exact HS.out.below (((Below.refl _ _).alloc hB _).alloc (by simp; omega) _)); (case hg => exact heap_allocs w [_, _] 1 _ (by rw [← zeros_bvs]; rfl)); (case hk => omega); (case hf => simp; omega); rw [HV.out]; intro w1 H1 HO1; have h0 : w1.heap[w.heap.size]? = some (.cells (List.replicate 64 (.int .u8 0)).toArray 40 (0, 0)) := (by rw [HO1.out.block _ (by simp; omega) (by omega)]; exact heap_allocs w [_, _] 0 _ rfl); have H0 := Lib.hid h0; clear h0)
    | ((with_reducible refine wpList_load_row rfl 40 (.tmp 3) rfl (w.heap.size + 1) ?hx 40 _ (0, 0) _ H1.out Tryd.underlying40 rfl ?hi ?_); (case hx => with_unfolding_all rfl); (case hi => rw [size64b, List.size_toArray, HOl.out]))
    | ((with_reducible refine wpList_store_vals rfl 40 (.tmp 2) (.tmp 15) rfl w.heap.size (bvs (kbV key)) ?hx ?hy 40 _ H0.out ?hi ?ho (bvs_one _) ?_); (case hx => with_unfolding_all rfl); (case hy => with_unfolding_all rfl); (case hi => rw [size64b, HOl.out]); (case ho => rw [HOl.out]; rfl)))
  refine ret_row Tryd.results23 w.heap.size 40 _ (0, 0) 64 5 rfl (setRow_heap _ _ _ _ _ _ H0.out) Tryd.underlying40 ?hi rfl ⟨rfl, ?_⟩
  · rw [size64b, List.size_toArray, HOl.out]
  · exact below_setRow ((((Below.refl _ _).alloc (Nat.le_refl _) _).alloc (by simp) _).trans (HO1.out.below (by simp; omega) (by omega))) (Nat.le_refl _) _

set_option maxHeartbeats 1000000 in
theorem key_long (key : List UInt8) (A : Option Addr) (n c B : Nat) (w : World) (hG : Glob w) (hs : Sl w B A n key) (hB : B ≤ w.heap.size) (hnc : n ≤ c) (hcm : c ≤ maxLen) (hm : n ≤ 1152921504606846976) (hn : 64 < n) :
    Calls Tryd.prog 23 #[.slice A n c] w fun e w' => e = .returned (.agg (bvs (kbV key)).toArray) ∧ Below w.heap.size w w' := by
  have hl := hs.1
  have hsl := sumV_length key
  have HV : Hid (splice (List.replicate 64 0) 0 ((sumV key).take 32) = kbV key) := by
    show _ = _
    rw [List.take_of_length_le (by omega), kb_splice _ (by omega)]
    unfold kbV keyV
    rw [if_pos (by omega)]
  have HG := Lib.hid hG
  have HS := Lib.hid hs
  have t1 : decide ((64 : Int) < (n : Int)) = true := by simp; omega
  have hcut := whole64 (w.heap.size + 1)
  have hol : (bvs (kbV key)).length = 64 := by rw [bvs_length, kbV_length]
  have HOl := Lib.hid hol
  have hsl' : (bvs (sumV key)).length = 32 := by rw [bvs_length, sumV_length]
  have HSl := Lib.hid hsl'
  clear hl hs hol hG hsl hsl'
  go_enter Tryd.func23, Tryd.ntmps23
  go_wp2_with fail
  (with_reducible refine (sum_weak [⟨A, n, c, key⟩] _ 1 1 (w.heap.size + 3) _ ?q1 ?q2 ?q3 (by simp [maxLen]) ?q4).mono ?_)
  case q1 => exact HG.out.below ((((Below.refl _ _).alloc (Nat.le_refl _) _).alloc (by simp) _).alloc (by simp; omega) _)
  case q2 =>
    refine slw_block (g := w.heap.size + 2) (ps := [⟨A, n, c, key⟩]) (t := 22) (fr := (0, 0)) (heap_allocs w [_, _, _] 2 _ rfl) (by omega) (fun p hp => ?_)
    simp only [List.mem_cons, List.not_mem_nil, or_false] at hp
    subst hp
    exact ⟨(HS.out.below ((((Below.refl _ _).alloc hB _).alloc (by simp; omega) _).alloc (by simp; omega) _)).more (by omega), hnc, hcm⟩
  case q3 => simp
  case q4 => have := HS.out.1; simp [joined]; omega
  rintro e1 w1 ⟨rfl, hb1⟩
  have hj : joined [⟨A, n, c, key⟩] = key := by simp [joined]
  rw [hj]
  have hs1 := hb1.size
  simp at hs1
  have hblk : ∀ k, k < 3 → w1.heap[w.heap.size + k]? = (((w.alloc (.cells (List.replicate 64 (.int .u8 0)).toArray 40)).alloc (.cells (List.replicate 64 (.int .u8 0)).toArray 40)).alloc (.cells #[.slice A n c] 22)).heap[w.heap.size + k]? := fun k hk => hb1.block _ (by simp; omega)
  have g0 := (hblk 0 (by omega)).trans (heap_allocs w [_, _, _] 0 _ rfl)
  have g1 := (hblk 1 (by omega)).trans (heap_allocs w [_, _, _] 1 _ rfl)
  rw [Nat.add_zero] at g0
  have HB1 : Hid (Below w.heap.size w w1) := (((((Below.refl _ _).alloc (Nat.le_refl _) _).alloc (by simp) _).alloc (by simp; omega) _)).trans (hb1.mono (by simp; omega))
  have G0 := Lib.hid g0
  have G1 := Lib.hid g1
  have hcut2 := whole32 w1.heap.size
  clear hblk g0 g1 hb1 hj
  go_wp2_with (first
    | ((with_reducible refine wpList_store_only rfl 27 (.tmp 4) (.tmp 10) rfl w1.heap.size (bvs (sumV key)) ?hx ?hy 27 (List.replicate 32 (.int .u8 0)).toArray ?hg ?hi ?ho (bvs_one _) ?_); (case hx => with_unfolding_all rfl); (case hy => with_unfolding_all rfl); (case hg => exact heap_alloc_new _ _); (case hi => rw [size32, HSl.out]); (case ho => rw [HSl.out]; rfl); intro w2 H2 HO2; have hsz2 : w1.heap.size + 1 ≤ w2.heap.size := (by have := HO2.out.size; simp at this; omega); have hsl2 : Sl w2 w2.heap.size (some ⟨w1.heap.size, 0, none⟩) 32 (sumV key) := (by have h := sl_block (B := w2.heap.size) H2.out (by omega); rw [sumV_length] at h; exact h); have HS2 := Lib.hid hsl2; have k0 : w2.heap[w.heap.size]? = some (.cells (List.replicate 64 (.int .u8 0)).toArray 40 (0, 0)) := (by rw [HO2.out.block _ (by simp; omega) (by omega), Below.heap_alloc _ _ _ (by omega)]; exact G0.out); have k1 : w2.heap[w.heap.size + 1]? = some (.cells (List.replicate 64 (.int .u8 0)).toArray 40 (0, 0)) := (by rw [HO2.out.block _ (by simp; omega) (by omega), Below.heap_alloc _ _ _ (by omega)]; exact G1.out); have K0 := Lib.hid k0; have K1 := Lib.hid k1; clear k0 k1 hsl2)
    | ((with_reducible refine wpList_copy_over rfl (.tmp 12) (.tmp 13) rfl (w.heap.size + 1) 0 64 64 32 32 w2.heap.size 32 _ _ (sumV key) (List.replicate 64 0) 40 ?hd ?hs HS2.out ?hg ?hk (fun _ => rfl) ?hf ?_); (case hd => with_unfolding_all rfl); (case hs => with_unfolding_all rfl); (case hg => rw [← zeros_bvs]; exact K1.out); (case hk => rfl); (case hf => simp); rw [HV.out]; intro w3 H3 HO3; have h0 : w3.heap[w.heap.size]? = some (.cells (List.replicate 64 (.int .u8 0)).toArray 40 (0, 0)) := (by rw [HO3.out.block _ (by omega) (by omega)]; exact K0.out); have H0 := Lib.hid h0; clear h0)
    | ((with_reducible refine wpList_load_row rfl 40 (.tmp 3) rfl (w.heap.size + 1) ?hx 40 _ (0, 0) _ H3.out Tryd.underlying40 rfl ?hi ?_); (case hx => with_unfolding_all rfl); (case hi => rw [size64b, List.size_toArray, HOl.out]))
    | ((with_reducible refine wpList_store_vals rfl 40 (.tmp 2) (.tmp 15) rfl w.heap.size (bvs (kbV key)) ?hx ?hy 40 _ H0.out ?hi ?ho (bvs_one _) ?_); (case hx => with_unfolding_all rfl); (case hy => with_unfolding_all rfl); (case hi => rw [size64b, HOl.out]); (case ho => rw [HOl.out]; rfl)))
  refine ret_row Tryd.results23 w.heap.size 40 _ (0, 0) 64 5 rfl (setRow_heap _ _ _ _ _ _ H0.out) Tryd.underlying40 ?hi rfl ⟨rfl, ?_⟩
  · rw [size64b, List.size_toArray, HOl.out]
  · exact below_setRow (((HB1.out.alloc HB1.out.size _).trans (HO2.out.below (by simp; omega) (by omega))).trans (HO3.out.below (by omega) (by omega))) (Nat.le_refl _) _

theorem key_any (key : List UInt8) (A : Option Addr) (n c B : Nat) (w : World) (hG : Glob w) (hs : Sl w B A n key) (hB : B ≤ w.heap.size) (hnc : n ≤ c) (hcm : c ≤ maxLen) (hm : n ≤ 1152921504606846976) :
    Calls Tryd.prog 23 #[.slice A n c] w fun e w' => e = .returned (.agg (bvs (kbV key)).toArray) ∧ Below w.heap.size w w' := by
  by_cases h : 64 < n
  · exact key_long key A n c B w hG hs hB hnc hcm hm h
  · exact key_short key A n c B w hs hB (by omega)
end Go.Proofs.YtnjdloocalfkmaaDoor
