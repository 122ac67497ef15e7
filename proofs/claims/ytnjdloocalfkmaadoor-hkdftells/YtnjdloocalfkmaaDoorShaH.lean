/-
  The contract of Sum.
-/
import Derived.Test.YtnjdloocalfkmaaDoorShaG
namespace Go.Proofs.YtnjdloocalfkmaaDoor
open Go.RowKit
set_option linter.unusedVariables false

/-- a slice of bytes that lies among others -/
structure Piece where
  A : Option Addr
  n : Nat
  c : Nat
  l : List UInt8
/-- the pieces that a slice of slices holds -/
structure Sls (w : World) (B : Nat) (A : Option Addr) (n : Nat) (ps : List Piece) : Prop where
  len : ps.length = n
  at_ : 0 < n → ∃ b off, A = some ⟨b, off, none⟩ ∧ b < B ∧ ∀ j, (h : j < ps.length) → w.cell? ⟨b, off + j, none⟩ = some (.slice ps[j].A ps[j].n ps[j].c)
  each : ∀ p ∈ ps, Sl w B p.A p.n p.l ∧ p.n ≤ p.c ∧ p.c ≤ maxLen ∧ ∀ a, p.A = some a → a.block < B
/-- the same, wherever empty pieces point -/
structure Slw (w : World) (B : Nat) (A : Option Addr) (n : Nat) (ps : List Piece) : Prop where
  len : ps.length = n
  at_ : 0 < n → ∃ b off, A = some ⟨b, off, none⟩ ∧ b < B ∧ ∀ j, (h : j < ps.length) → w.cell? ⟨b, off + j, none⟩ = some (.slice ps[j].A ps[j].n ps[j].c)
  each : ∀ p ∈ ps, Sl w B p.A p.n p.l ∧ p.n ≤ p.c ∧ p.c ≤ maxLen
theorem Sls.weak {w : World} {B : Nat} {A : Option Addr} {n : Nat} {ps : List Piece} (h : Sls w B A n ps) : Slw w B A n ps := ⟨h.len, h.at_, fun p hp => ⟨(h.each p hp).1, (h.each p hp).2.1, (h.each p hp).2.2.1⟩⟩
def joined (ps : List Piece) : List UInt8 := ps.flatMap (·.l)
theorem joined_take (ps : List Piece) (j : Nat) (h : j < ps.length) : joined (ps.take (j + 1)) = joined (ps.take j) ++ ps[j].l := by
  unfold joined
  rw [List.take_succ_eq_append_getElem h, List.flatMap_append]
  simp
theorem joined_le (ps : List Piece) (j : Nat) : (joined (ps.take j)).length ≤ (joined ps).length := by
  have h : joined ps = joined (ps.take j) ++ joined (ps.drop j) := by
    unfold joined
    rw [← List.flatMap_append, List.take_append_drop]
  rw [h, List.length_append]; omega
theorem piece_le (ps : List Piece) (j : Nat) (h : j < ps.length) : (joined (ps.take j)).length + ps[j].l.length ≤ (joined ps).length := by
  have := joined_le ps (j + 1)
  rw [joined_take ps j h, List.length_append] at this
  exact this

theorem size73 : (Tryd.prog.info? 47).map (·.size) = some 73 := by kernel_rfl
theorem size32 : (Tryd.prog.info? 27).map (·.size) = some 32 := by kernel_rfl
def dig0 : List Value := digRow startV (List.replicate 64 0) (.int .i64 0)
theorem built_dig : Tryd.prog.built 47 [(0, .agg (wvs startV).toArray)] = some dig0.toArray := by kernel_rfl
theorem wpList_build_dig {w : World} {ops : Array Oper} {rest : List Oper} {o : Oper} {a : Act} {Q : Exit → Act → World → Prop} (hg : o.guard = none) (x : Operand) (ho : o.op = .build 47 #[(0, x)]) (hx : a.eval x = .agg (wvs startV).toArray)
    (h : wpList Tryd.prog ops Q rest (a.put o.dst (.agg dig0.toArray)) w) : wpList Tryd.prog ops Q (o :: rest) a w := by
  have e : (#[(0, x)].map fun (i, x) => (i, a.eval x)).toList = [(0, .agg (wvs startV).toArray)] := by simp [hx]
  refine wpList_build hg 47 #[(0, x)] ho (by rw [e, built_dig]; rfl) ?_
  rw [e, built_dig]
  exact h
def digZ : Array Value := (digRow (List.replicate 8 0) (List.replicate 64 0) (.int .i64 0)).toArray
theorem digZ_size : digZ.size = 73 := rfl
theorem zero_dig (u : World) : (zeroValue 47).run Tryd.prog u = .ok (.agg digZ) u := (zero_of_info (n := 73) (by kernel_rfl)).1 u
theorem dig0_dig : dig0 = digRow (stV []) (List.replicate 64 0) (.int .i64 (([] : List UInt8).length : Int)) := rfl

/-- the first i bytes of what is told -/
def orow (s : List UInt32) (i : Nat) : List Value := bvs ((outV s).take i) ++ List.replicate (32 - i) (.int .u8 0)
theorem orow_length (s : List UInt32) (i : Nat) (h : i ≤ 32) : (orow s i).length = 32 := by
  simp [orow, bvs_length, outV_length]; omega
theorem orow_full (s : List UInt32) : orow s 32 = bvs (outV s) := by
  unfold orow
  rw [List.take_of_length_le (by rw [outV_length]; omega)]
  simp
theorem orow_set (s : List UInt32) (i : Nat) (h : i < 32) : (orow s i).set i (bv (((s.getD (i / 4) 0) >>> UInt32.ofNat (24 - 8 * (i % 4))).toUInt8)) = orow s (i + 1) := by
  have hl : (bvs ((outV s).take i)).length = i := by rw [bvs_length, List.length_take, outV_length]; omega
  unfold orow
  rw [List.set_append, if_neg (by omega), hl, Nat.sub_self]
  obtain ⟨k, hk⟩ : ∃ k, 32 - i = k + 1 := ⟨31 - i, by omega⟩
  rw [hk, List.replicate_succ, List.set_cons_zero, List.take_succ_eq_append_getElem (by rw [outV_length]; exact h), show 32 - (i + 1) = k by omega]
  simp [bvs, outV]
theorem byte_out (x : UInt32) (k : Nat) (hk : k < 32) : Value.int .u8 (wn x / 2 ^ k % 256) = bv ((x >>> UInt32.ofNat k).toUInt8) := by
  have h := u32_shr x k hk
  have e : ((2 ^ k : Nat) : Int) = (2 : Int) ^ k := by simp
  rw [e] at h
  rw [h]
  simp only [bv, wn, UInt32.toNat_toUInt8]
  congr 1

structure SumW (w wr : World) (t : List UInt8) : Prop where
  dig : Dig wr (w.heap.size + 1) t
  res : ∃ cs, wr.heap[w.heap.size]? = some (.cells cs 27 (0, 0)) ∧ cs.size = 32
  bl : Below w.heap.size w wr
  sz : w.heap.size + 2 ≤ wr.heap.size
theorem SumW.only {w wr w' : World} {t t' : List UInt8} (h : SumW w wr t) (ho : Only (w.heap.size + 1) wr w') (hd : Dig w' (w.heap.size + 1) t') : SumW w w' t' := by
  have hs := h.sz
  obtain ⟨cs, h1, h2⟩ := h.res
  refine ⟨hd, ⟨cs, by rw [ho.block _ (by omega) (by omega)]; exact h1, h2⟩, h.bl.trans (ho.below (by omega) (by omega)), ?_⟩
  have := ho.size; omega
theorem SumW.below {w wr w' : World} {t : List UInt8} (h : SumW w wr t) (hb : Below wr.heap.size wr w') : SumW w w' t := by
  have hs := h.sz
  obtain ⟨buf, h1, h2, h3⟩ := h.dig
  exact h.only (.of_below hb) ⟨buf, h1, h2, by rw [hb.block _ (by omega)]; exact h3⟩

set_option maxHeartbeats 1000000 in
theorem sum_weak (ps : List Piece) (A : Option Addr) (n c B : Nat) (w : World) (hG : Glob w) (hs : Slw w B A n ps) (hB : B ≤ w.heap.size) (hn : n ≤ maxLen) (hlen : (joined ps).length ≤ 2305843009213693952) :
    Calls Tryd.prog 21 #[.slice A n c] w fun e w' => e = .returned (.agg (bvs (sumV (joined ps))).toArray) ∧ Below w.heap.size w w' := by
  obtain ⟨t0, f0, h0⟩ := hG.st
  have H0 := Lib.hid h0
  have HG := Lib.hid hG
  have HS := Lib.hid hs
  have HLen := Lib.hid hlen
  have hn63 : n ≤ 9223372036854775807 := by unfold maxLen at hn; omega
  have hg0 : 0 < w.heap.size := by have := hG.size; omega
  have hz := zero_dig
  clear hG hs hlen h0
  go_enter Tryd.func21, Tryd.ntmps21
  go_wp2_with (first
    | ((with_reducible refine wpList_load_row rfl 45 (.global 0) rfl 0 ?hx t0 (wvs startV).toArray f0 _ ?hg Tryd.underlying45 rfl ?hi ?_); (case hi => exact size8); (case hx => with_unfolding_all rfl); (case hg => rw [Below.heap_alloc _ _ _ hg0]; exact H0.out))
    | ((with_reducible refine wpList_build_dig rfl (.tmp 8) rfl ?hx ?_); (case hx => with_unfolding_all rfl))
    | ((with_reducible refine wpList_store_vals rfl 47 (.tmp 3) (.tmp 9) rfl (w.heap.size + 1) dig0 ?hx ?hy 47 digZ ?hg ?hi ?ho ?h1 ?_); (case hi => exact size73); (case ho => rfl); (case hx => with_unfolding_all rfl); (case hy => with_unfolding_all rfl); (case hg => exact heap_allocs w [_, _] 1 _ rfl); (case h1 => decide)))
  have hW : ∀ w2, w2 = ((w.alloc (.cells (List.replicate 32 (.int .u8 0)).toArray 27)).alloc (.cells digZ 47)).setRow (w.heap.size + 1) dig0.toArray → SumW w w2 [] := by
    intro w2 e
    subst e
    refine ⟨⟨List.replicate 64 0, by simp, by simp, ?_⟩, ⟨(List.replicate 32 (.int .u8 0)).toArray, ?_, rfl⟩, ?_, ?_⟩
    · exact setRow_heap _ _ _ _ _ _ (heap_allocs w [_, _] 1 _ rfl)
    · rw [setRow_other _ _ _ _ (by omega)]
      exact heap_allocs w [_, _] 0 _ rfl
    · exact below_setRow (((Below.refl _ _).alloc (Nat.le_refl _) _).alloc (by simp) _) (by omega) _
    · simp
  have HW := Lib.hid (hW _ rfl)
  clear hW hz
  go_loopw [12] (fun i wr => ∃ j : Nat, j ≤ n ∧ i = .int .i64 j ∧ Hid (SumW w wr (joined (ps.take j)))) (fun i _ => n - (intOf i).toNat)
  case atStart => exact ⟨0, by omega, rfl, HW⟩
  case round =>
    clear HW
    obtain ⟨j, hj, rfl, HW⟩ := hrel
    have hpl := HS.out.len
    by_cases hlt : j < n
    · obtain ⟨b, off, rfl, hbB, hcell⟩ := HS.out.at_ (by omega)
      have hjp : j < ps.length := by omega
      obtain ⟨p, hp⟩ : ∃ p, ps[j] = p := ⟨_, rfl⟩
      have cj : wr.cell? ⟨b, off + j, none⟩ = some (.slice p.A p.n p.c) := by
        rw [HW.out.bl.cell (show b < w.heap.size by omega), hcell j hjp, hp]
      obtain ⟨hps, hpc, hpm⟩ := HS.out.each p (by rw [← hp]; exact List.getElem_mem hjp)
      have HP := Lib.hid (hps.below (HW.out.bl.mono hB))
      have HPa : Hid (0 < p.n → ∀ a, p.A = some a → a.block < B) := fun h0 a ha => by
        obtain ⟨b', off', e, hb', _⟩ := hps.2 h0
        rw [e] at ha
        injection ha with ha
        subst ha
        exact hb'
      have HJ : Hid (joined (ps.take (j + 1)) = joined (ps.take j) ++ p.l) := by
        show _ = _
        rw [joined_take ps j hjp, hp]
      have HL : Hid ((joined (ps.take j)).length + p.l.length ≤ 4611686018427387904) := by
        have h1 := piece_le ps j hjp
        have h2 := HLen.out
        rw [hp] at h1
        show _ ≤ _
        omega
      have ljn : (j : Int) < (n : Int) := by omega
      clear hcell hp hps hpl
      go_wp2_with fail
      (with_reducible refine (add_any (joined (ps.take j)) p.l (w.heap.size + 1) p.n p.c B p.A _ ?q1 ?q2 ?q3 ?q4 ?q5 ?q6 hpc hpm ?q7 HL.out).mono ?_)
      case q1 => exact HG.out.below HW.out.bl
      case q2 => have := HG.out.size; omega
      case q3 => have := HW.out.sz; omega
      case q4 => exact HW.out.dig
      case q5 => exact HP.out
      case q6 => have := HW.out.sz; omega
      case q7 => intro h0 a ha; have := HPa.out h0 a ha; omega
      rintro e1 w1 ⟨rfl, hd1, ho1⟩
      have HW1 := Lib.hid (HW.out.only ho1 hd1)
      clear hd1 ho1
      go_wp2_with fail
      go_roundw
      case rel =>
        have hfin : Hid (SumW w w1 (joined (ps.take (j + 1)))) := by rw [HJ.out]; exact HW1.out
        first
          | exact ⟨j + 1, by omega, by go_num, hfin⟩
          | ((repeat apply Exists.intro); exact ⟨⟨j + 1, by omega, by go_num, hfin⟩, rfl⟩)
      case measure => simp [intOf]; omega
    · obtain rfl : j = n := by omega
      rw [List.take_of_length_le (by omega)] at HW
      obtain ⟨T, hT⟩ : ∃ T, (joined ps).length = T := ⟨_, rfl⟩
      obtain ⟨buf, hb1, hb2, hb3⟩ := HW.out.dig
      have c72 : wr.cell? ⟨w.heap.size + 1, 72, none⟩ = some (.int .i64 (T : Int)) := by
        rw [cell_of_row _ _ _ _ _ _ hb3, List.getElem?_toArray, ← hT]
        exact digRow_last _ _ _ (stV_length _) hb1
      have hTl : T ≤ 2305843009213693952 := by rw [← hT]; exact HLen.out
      have HT := Lib.hid hT
      clear hb1 hb2 hb3 hT hpl
      go_wp2_with fail
      (with_reducible refine (pad_any T (by omega) _).mono ?_)
      rintro e1 w1 ⟨A1, c1, rfl, ho1, hle1, hc1, hb1⟩
      have HW1 := Lib.hid (HW.out.below hb1)
      have HO1 := Lib.hid ho1
      have HB1 := Lib.hid hb1
      clear ho1 hb1
      go_wp2_with fail
      (with_reducible refine (add_any (joined ps) (padV T) (w.heap.size + 1) (padN T) c1 w1.heap.size A1 _ ?q1 ?q2 ?q3 ?q4 ?q5 ?q6 hle1 hc1 ?q7 ?q8).mono ?_)
      case q1 => exact HG.out.below HW1.out.bl
      case q2 => have := HG.out.size; omega
      case q3 => have := HW1.out.sz; omega
      case q4 => exact HW1.out.dig
      case q5 => exact HO1.out.sl
      case q6 => exact Nat.le_refl _
      case q7 =>
        intro _ a ha
        obtain ⟨g, hg, hg1, hg2⟩ := HO1.out.at_ (by have := padN_bd T; omega)
        rw [ha] at hg
        injection hg with hg
        rw [hg]
        have := HW.out.sz
        show g ≠ _
        omega
      case q8 => have := padV_length T; have := padN_bd T; have := HT.out; omega
      rintro e2 w2 ⟨rfl, hd2, ho2⟩
      have HW2 := Lib.hid (HW1.out.only ho2 hd2)
      clear hd2 ho2
      obtain ⟨s, hs⟩ : ∃ s, stV (joined ps ++ padV T) = s := ⟨_, rfl⟩
      have hsl : s.length = 8 := by rw [← hs]; exact stV_length _
      have HV : Hid (sumV (joined ps) = outV s) := by
        show _ = _
        unfold sumV
        rw [HT.out, hs]
      obtain ⟨buf2, hb1, hb2, hb3⟩ := HW2.out.dig
      rw [hs] at hb3
      have H3 := Lib.hid hb3
      have Hsl := Lib.hid hsl
      have hsz2 := HW2.out.sz
      obtain ⟨cs, h2, h2s⟩ := HW2.out.res
      have H2 := Lib.hid h2
      have HBl := Lib.hid HW2.out.bl
      clear hb1 hb2 hb3 hs hsl h2 HW HW1 HW2 HO1 HB1 c72
      go_wp2_with fail
      go_loopw [23] (fun i wr => ∃ j : Nat, j ≤ 32 ∧ i = .int .i64 j ∧ Hid (wr.heap[w2.heap.size]? = some (.cells (orow s j).toArray 27 (0, 0))) ∧ Hid (Below w2.heap.size w2 wr)) (fun i _ => 32 - (intOf i).toNat)
      case atStart => exact ⟨0, by omega, rfl, heap_alloc_new _ _, (Below.refl _ _).alloc (Nat.le_refl _) _⟩
      case round =>
        obtain ⟨i, hi, rfl, HR, HBr⟩ := hrel
        by_cases hlt : i < 32
        · obtain ⟨q, hq⟩ : ∃ q, i / 4 = q := ⟨_, rfl⟩
          obtain ⟨m, hm⟩ : ∃ m, i % 4 = m := ⟨_, rfl⟩
          obtain ⟨sh, hsh⟩ : ∃ sh : Nat, 24 - 8 * (m : Int) = (sh : Int) := ⟨24 - 8 * m, by omega⟩
          obtain ⟨x, hx⟩ : ∃ x, s.getD q 0 = x := ⟨_, rfl⟩
          have hqI : (i : Int) / 4 = (q : Int) := by omega
          have hmI : (i : Int) % 4 = (m : Int) := by omega
          have hq8 : (q : Int) < 8 := by omega
          have hm4 : (m : Int) < 4 := by omega
          have hsh32 : (sh : Int) ≤ 24 := by omega
          have cq : wr.cell? ⟨w.heap.size + 1, q, none⟩ = some (.int .u32 (wn x)) := by
            rw [HBr.out.cell (show w.heap.size + 1 < w2.heap.size by omega), cell_of_row _ _ _ _ _ _ H3.out, List.getElem?_toArray, ← hx]
            exact digRow_at _ _ _ _ Hsl.out (by omega)
          have hor := orow_length s i hi
          obtain ⟨old, co⟩ : ∃ v, wr.cell? ⟨w2.heap.size, i, none⟩ = some v := by
            rw [cell_of_row _ _ _ _ _ _ HR.out, List.getElem?_toArray]
            exact ⟨(orow s i)[i], by simp⟩
          have cf : wr.frozen? ⟨w2.heap.size, i, none⟩ = false := frozen_of_row _ _ _ _ _ HR.out
          have li : (i : Int) < 32 := by omega
          have hwb := wn_bd x
          have HN : Hid (Value.int .u8 (wn x / 2 ^ sh % 256) = bv (((s.getD (i / 4) 0) >>> UInt32.ofNat (24 - 8 * (i % 4))).toUInt8)) := by
            show _ = _
            rw [byte_out x sh (by omega), hq, hx, hm, show sh = 24 - 8 * m by omega]
          clear hq hm hx hor
          go_wp2_with fail
          go_roundw
          case rel =>
            have hfin : Hid ((wr.setCell ⟨w2.heap.size, i, none⟩ (Value.int .u8 (wn x / 2 ^ sh % 256))).heap[w2.heap.size]? = some (.cells (orow s (i + 1)).toArray 27 (0, 0))) := by
              show _ = _
              rw [heap_setCell_same _ _ _ _ _ _ HR.out, HN.out, List.setIfInBounds_toArray, orow_set s i hlt]
            exact ⟨i + 1, by omega, by go_num, hfin, HBr.out.setCell (Nat.le_refl _) _⟩
          case measure => simp [intOf]; omega
        · obtain rfl : i = 32 := by omega
          rw [orow_full, ← HV.out] at HR
          have h2' : wr.heap[w.heap.size]? = some (.cells cs 27 (0, 0)) := by
            rw [HBr.out.block _ (by omega)]; exact H2.out
          have H2' := Lib.hid h2'
          clear h2'
          have hol : (bvs (sumV (joined ps))).length = 32 := by rw [bvs_length, sumV_length]
          have HOl := Lib.hid hol
          clear hol
          go_wp2_with (first
            | ((with_reducible refine wpList_load_row rfl 27 (.tmp 6) rfl w2.heap.size ?hx 27 _ (0, 0) _ HR.out Tryd.underlying27 rfl ?hi ?_); (case hx => with_unfolding_all rfl); (case hi => rw [size32, List.size_toArray, HOl.out]))
            | ((with_reducible refine wpList_store_vals rfl 27 (.tmp 2) (.tmp 40) rfl w.heap.size (bvs (sumV (joined ps))) ?hx ?hy 27 cs H2'.out ?hi ?ho (bvs_one _) ?_); (case hx => with_unfolding_all rfl); (case hy => with_unfolding_all rfl); (case hi => rw [size32, HOl.out]); (case ho => rw [HOl.out, h2s])))
          refine ret_row Tryd.results21 w.heap.size 27 _ (0, 0) 32 5 rfl (setRow_heap _ _ _ _ _ _ H2'.out) Tryd.underlying27 ?hi rfl ⟨rfl, ?_⟩
          · rw [size32, List.size_toArray, HOl.out]
          · exact below_setRow (HBl.out.trans (HBr.out.mono (by omega))) (Nat.le_refl _) _
theorem sum_any (ps : List Piece) (A : Option Addr) (n c B : Nat) (w : World) (hG : Glob w) (hs : Sls w B A n ps) (hB : B ≤ w.heap.size) (hn : n ≤ maxLen) (hlen : (joined ps).length ≤ 2305843009213693952) :
    Calls Tryd.prog 21 #[.slice A n c] w fun e w' => e = .returned (.agg (bvs (sumV (joined ps))).toArray) ∧ Below w.heap.size w w' := sum_weak ps A n c B w hG hs.weak hB hn hlen
end Go.Proofs.YtnjdloocalfkmaaDoor
