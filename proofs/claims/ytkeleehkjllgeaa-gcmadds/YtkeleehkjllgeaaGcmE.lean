/-
  The contract of Hash.
-/
import Derived.Test.YtkeleehkjllgeaaPieces
import Derived.Test.YtkeleehkjllgeaaGcmD
namespace Go.Proofs.Ytkeleehkjllgeaa
open Go.RowKit
set_option linter.unusedVariables false

theorem wp_load_blq {P : Program} {o : Oper} {a : Act} {w : World} {K : Act → World → Prop} {Q : Exit → Act → World → Prop} (ty : TypeId) (x : Operand) (ho : o.op = .load ty x)
    (g : Nat) (hx : a.eval x = .pointer (some ⟨g, 0, none⟩)) (t : TypeId) (l : List UInt64) (hB : Blq w g t l) (n : Nat) (e : TypeId) (hu : P.underlying ty = some (.array n e)) (s : Nat) (hi : (P.info? ty).map (·.size) = some s) (hl : l.length = s)
    (h : K (a.put o.dst (.agg (qvs l).toArray)) w) : o.wp P a w K Q :=
  wp_load_mid ty x ho g 0 hx (qvs l) _ hB.range hu rfl (by rw [hi, qvs_length, hl]) h
theorem wp_store_blq {P : Program} {o : Oper} {a : Act} {w : World} {K : Act → World → Prop} {Q : Exit → Act → World → Prop} (ty : TypeId) (x y : Operand) (ho : o.op = .store ty x y)
    (g : Nat) (l : List UInt64) (hx : a.eval x = .pointer (some ⟨g, 0, none⟩)) (hy : a.eval y = .agg (qvs l).toArray) (t : TypeId) (old : List UInt64) (hB : Blq w g t old) (s : Nat) (hi : (P.info? ty).map (·.size) = some s) (hl : l.length = s) (hold : old.length = s)
    (h : ∀ w', Hid (Blq w' g t l) → Hid (Only g w w') → K (a.put o.dst undef) w') : o.wp P a w K Q :=
  wp_store_row ty x y ho g (qvs l).toArray hx hy t (qvs old).toArray hB (by rw [hi, List.size_toArray, qvs_length, hl]) (by simp [qvs_length, hl, hold]) (all_oneCell_toArray (qvs_one _))
    (h _ (setRow_heap _ _ _ _ _ _ hB) ((Only.refl g w).setRow _))

/-- a pair loaded, its two words written out -/
theorem exec_load_pair {P : Program} {o : Oper} {a : Act} (u : World) (ty : TypeId) (x : Operand) (ho : o.op = .load ty x) (g : Nat) (hx : a.eval x = .pointer (some ⟨g, 0, none⟩)) (t : TypeId) (c d : UInt64) (hc : Blq u g t [c, d]) (n : Nat) (e : TypeId)
    (hu : P.underlying ty = some (.array n e)) (hi : (P.info? ty).map (·.size) = some 2) : (execOp a.eval o).run P u = .ok (.value (.agg #[.int .u64 (qn c), .int .u64 (qn d)])) u :=
  exec_load_blq u ty x ho g hx t [c, d] hc n e hu 2 hi rfl
theorem wp_load_pair {P : Program} {o : Oper} {a : Act} {w : World} {K : Act → World → Prop} {Q : Exit → Act → World → Prop} (ty : TypeId) (x : Operand) (ho : o.op = .load ty x)
    (g : Nat) (hx : a.eval x = .pointer (some ⟨g, 0, none⟩)) (t : TypeId) (c d : UInt64) (hB : Blq w g t [c, d]) (n : Nat) (e : TypeId) (hu : P.underlying ty = some (.array n e)) (hi : (P.info? ty).map (·.size) = some 2)
    (h : K (a.put o.dst (.agg #[.int .u64 (qn c), .int .u64 (qn d)])) w) : o.wp P a w K Q := wp_load_blq ty x ho g hx t [c, d] hB n e hu 2 hi rfl h
theorem wpList_load_pair {P : Program} {ops : Array Oper} {rest : List Oper} {o : Oper} {a : Act} {w : World} {Q : Exit → Act → World → Prop} (hgd : o.guard = none) (ty : TypeId) (x : Operand) (ho : o.op = .load ty x)
    (g : Nat) (hx : a.eval x = .pointer (some ⟨g, 0, none⟩)) (t : TypeId) (c d : UInt64) (hB : Blq w g t [c, d]) (n : Nat) (e : TypeId) (hu : P.underlying ty = some (.array n e)) (hi : (P.info? ty).map (·.size) = some 2)
    (h : wpList P ops Q rest (a.put o.dst (.agg #[.int .u64 (qn c), .int .u64 (qn d)])) w) : wpList P ops Q (o :: rest) a w := wpList_load_blq hgd ty x ho g hx t [c, d] hB n e hu 2 hi rfl h

/-- one block more, in halves -/
def stepQ (s1 s2 : UInt64) (f h : List UInt8) : UInt64 × UInt64 := tQ (s1 ^^^ hiQ f, s2 ^^^ loQ f) (hiQ h, loQ h) 128
theorem stepQ_eq (s1 s2 : UInt64) (f h y : List UInt8) (hf : f.length = 16) (hh : h.length = 16) (hy : pairB s1 s2 = y) : pairB (stepQ s1 s2 f h).1 (stepQ s1 s2 f h).2 = timesG (crossV y f) h := by
  unfold stepQ
  rw [timesQ_eq, pair_halves h hh]
  show timesG (pairB (s1 ^^^ hiQ f) (s2 ^^^ loQ f)) h = _
  rw [pairB_xor, hy, pair_halves f hf]
/-- what stands in memory while parts are hashed -/
structure HsW (w wr : World) (g5 g6 : Nat) (k1 k2 s1 s2 : UInt64) : Prop where
  r : Blk wr (w.heap.size + 1) 22 (List.replicate 16 0)
  k : Blq wr g5 51 [k1, k2]
  s : Blq wr g6 51 [s1, s2]
  b : Below w.heap.size w wr
  o5 : w.heap.size + 1 < g5
  o6 : g5 < g6
theorem HsW.drew {w wr : World} {g5 g6 : Nat} {k1 k2 s1 s2 : UInt64} (h : HsW w wr g5 g6 k1 k2 s1 s2) : HsW w wr.drew g5 g6 k1 k2 s1 s2 := ⟨h.r, h.k, h.s, h.b.drew, h.o5, h.o6⟩
theorem HsW.below {w wr wx : World} {g5 g6 : Nat} {k1 k2 s1 s2 : UInt64} (h : HsW w wr g5 g6 k1 k2 s1 s2) (hb : Below wr.heap.size wr wx) : HsW w wx g5 g6 k1 k2 s1 s2 := ⟨h.r.below hb, h.k.below hb, h.s.below hb, h.b.trans (hb.mono h.b.size), h.o5, h.o6⟩
theorem HsW.only {w wr wx : World} {g5 g6 : Nat} {k1 k2 s1 s2 t1 t2 : UInt64} (h : HsW w wr g5 g6 k1 k2 s1 s2) (ho : Only g6 wr wx) (hs : Blq wx g6 51 [t1, t2]) : HsW w wx g5 g6 k1 k2 t1 t2 := by
  have h5 := h.o5
  have h6 := h.o6
  exact ⟨h.r.only ho (by omega), h.k.only ho (by omega), hs, h.b.trans (ho.below h.b.size (by omega)), h5, h6⟩
/-- the hash behind the first j parts -/
def foldJ (h : List UInt8) (ps : List Piece) (j : Nat) : List UInt8 := ((ps.take j).map (·.l)).foldl (partG h) zG
theorem foldJ_next (h : List UInt8) (ps : List Piece) (j : Nat) (hj : j < ps.length) : foldJ h ps (j + 1) = partG h (foldJ h ps j) ps[j].l := by
  unfold foldJ
  rw [List.take_succ_eq_append_getElem hj, List.map_append, List.foldl_append]
  rfl
theorem foldJ_all (h : List UInt8) (ps : List Piece) (j : Nat) (hj : ps.length ≤ j) : foldJ h ps j = hashG h (ps.map (·.l)) := by
  unfold foldJ hashG
  rw [List.take_of_length_le hj]

set_option maxHeartbeats 4000000 in
theorem hash_any (h : List UInt8) (hh : h.length = 16) (ps : List Piece) (A : Option Addr) (n c B : Nat) (w : World) (hs : Slw w B A n ps) (hB : B ≤ w.heap.size) (hn : n ≤ maxLen) (hlen : ∀ p ∈ ps, p.n ≤ 70368744177664) :
    Calls Try.prog 19 #[.agg (bvs h).toArray, .slice A n c] w fun e w' => e = .returned (.agg (bvs (hashG h (ps.map (·.l)))).toArray) ∧ Below w.heap.size w w' := by
  have Hh := Lib.hid hh
  have HS := Lib.hid hs
  have HLen := Lib.hid hlen
  have HB := Lib.hid hB
  have HPK := Lib.hid (pair_halves h hh)
  have hn63 : n ≤ 9223372036854775807 := by unfold maxLen at hn; omega
  clear hh hs hlen hB
  go_enter Try.func19, Try.ntmps19
  go_wp2_with (first
    | ((with_reducible refine wpList_load_blk rfl 22 (.tmp 2) rfl w.heap.size ?hx 22 h ?hg 16 5 Try.underlying22 16 sizeRow Hh.out ?_); (case hx => with_unfolding_all rfl); (case hg => exact heap_allocs w [_, _] 0 _ rfl))
    | (go_at_call 27; (with_reducible refine (halves_any h Hh.out _).mono ?_); rintro e1 w1 ⟨rfl, hb1⟩;
        have R1 : Hid (Blk w1 (w.heap.size + 1) 22 (List.replicate 16 0)) := Blk.below (heap_allocs w [_, _] 1 _ (by rw [← zeros_bvs]; rfl)) hb1;
        have B1 : Hid (Below w.heap.size w w1) := (((Below.refl _ _).alloc (Nat.le_refl _) _).alloc (by simp) _).trans (hb1.mono (by simp; omega));
        clear hb1)
    | ((with_reducible refine wpList_store_blq rfl 51 (.tmp 5) (.tmp 11) rfl w1.heap.size [hiQ h, loQ h] ?hx ?hy 51 [0, 0] ?hg 2 sizePair rfl rfl ?_); (case hx => with_unfolding_all rfl); (case hy => with_unfolding_all rfl); (case hg => exact heap_alloc_new _ _); intro w2 K2 O2))
  have HW0 : Hid (HsW w (w2.alloc (.cells #[.int .u64 0, .int .u64 0] 51)) w1.heap.size w2.heap.size (hiQ h) (loQ h) 0 0) := by
    have hb : Below w.heap.size w w2 := (B1.out.alloc B1.out.size _).trans (O2.out.below (by have := B1.out.size; simp; omega) B1.out.size)
    refine ⟨((R1.out.alloc _).only O2.out (by have := R1.out.lt; omega)).alloc _, K2.out.alloc _, heap_alloc_new _ _, hb.alloc hb.size _, R1.out.lt, K2.out.lt⟩
  clear R1 B1 K2 O2
  obtain ⟨g5, eg5⟩ : ∃ g, w1.heap.size = g := ⟨_, rfl⟩
  obtain ⟨g6, eg6⟩ : ∃ g, w2.heap.size = g := ⟨_, rfl⟩
  rw [eg5, eg6] at HW0
  rw [eg5, eg6]
  clear eg5 eg6
  go_loopw [14] (fun v14 wr => ∃ (j : Nat) (s1 s2 : UInt64), j ≤ n ∧ v14 = .int .i64 j ∧ Hid (pairB s1 s2 = foldJ h ps j) ∧ Hid (HsW w wr g5 g6 (hiQ h) (loQ h) s1 s2)) (fun v14 _ => n - (intOf v14).toNat)
  case atStart => exact ⟨0, 0, 0, by omega, rfl, pairB_zero, HW0⟩
  case round =>
    clear HW0
    obtain ⟨j, s1, s2, hj, rfl, HP, HW⟩ := hrel
    have hpl := HS.out.len
    by_cases hlt : j < n
    · obtain ⟨b, off, rfl, hbB, hcell⟩ := HS.out.at_ (by omega)
      have hjp : j < ps.length := by omega
      obtain ⟨p, hp⟩ : ∃ p, ps[j] = p := ⟨_, rfl⟩
      have hB := HB.out
      have cj : wr.cell? ⟨b, off + j, none⟩ = some (.slice p.A p.n p.c) := by
        rw [HW.out.b.cell (show b < w.heap.size by omega), hcell j hjp, hp]
      obtain ⟨hps, hpc, hpm⟩ := HS.out.each p (by rw [← hp]; exact List.getElem_mem hjp)
      have hpn : p.n ≤ 70368744177664 := HLen.out p (by rw [← hp]; exact List.getElem_mem hjp)
      have HSL := Lib.hid hps
      have hpl2 := hps.1
      have HJ : Hid (foldJ h ps (j + 1) = partG h (foldJ h ps j) p.l) := show _ = _ by rw [foldJ_next h ps j hjp, hp]
      have ljn : (j : Int) < (n : Int) := by omega
      obtain ⟨y0, hy0⟩ : ∃ y, foldJ h ps j = y := ⟨_, rfl⟩
      rw [hy0] at HJ HP
      obtain ⟨⟨pA, pn, pc, l⟩, ep⟩ : ∃ q : Piece, p = q := ⟨_, rfl⟩
      subst ep
      simp only at cj hpc hpm hpn HSL hpl2 HJ
      have HPL := Lib.hid hpl2
      clear hcell hp hps hpl hy0 hpl2
      go_wp2_with fail
      go_loopw [9] (fun v9 wr => ∃ (k : Nat) (s1 s2 : UInt64), 16 * k < pn + 16 ∧ v9 = .int .i64 (16 * k : Nat) ∧ Hid (pairB s1 s2 = hpG h y0 l k) ∧ Hid (HsW w wr g5 g6 (hiQ h) (loQ h) s1 s2)) (fun v9 _ => pn + 16 - (intOf v9).toNat)
      case atStart => exact ⟨0, s1, s2, by omega, rfl, HP, HW⟩
      case round =>
        clear HP HW cj
        obtain ⟨k, s1, s2, hk, rfl, HP, HW⟩ := hrel
        obtain ⟨m, hm⟩ : ∃ m, 16 * k = m := ⟨_, rfl⟩
        rw [hm] at hk ⊢
        by_cases hlm : m < pn
        · have HC : Hid (∀ u : World, (Instr.slice 24 (.slice pA pn pc) (some (.int .i64 (m : Int))) none none).run Try.prog u = .ok (.slice (if pc = m then pA else pA.map (·.add m)) (pn - m) (pc - m)) u) := fun u => run_cut_bytes u pA pn pc m (by omega) hpc
          have HD : Hid (∀ u : World, Below w.heap.size w u → Sl u B (if pc = m then pA else pA.map (·.add m)) (pn - m) (l.drop m)) := fun u hu => (HSL.out.drop (by omega) hpc).below (hu.mono hB)
          obtain ⟨f, hf⟩ : ∃ f, fillG (l.drop m) = f := ⟨_, rfl⟩
          have Hf := Lib.hid hf
          have HFL : Hid (f.length = 16) := show _ = _ by rw [← hf]; exact fillG_length _
          obtain ⟨A', hA'⟩ : ∃ A', (if pc = m then pA else pA.map (·.add m)) = A' := ⟨_, rfl⟩
          rw [hA'] at HC HD
          have HSN : Hid (pairB (stepQ s1 s2 f h).1 (stepQ s1 s2 f h).2 = hpG h y0 l (k + 1)) := show _ = _ by
            rw [stepQ_eq s1 s2 f h _ HFL.out Hh.out HP.out, hpG, blkG_fill, hm, hf]
          have lm : (m : Int) < (pn : Int) := by omega
          have HM := Lib.hid hm
          clear hf hA' hm
          go_wp2_with fail
          have hW := HW.out.drew
          have HW := Lib.hid hW
          clear hW
          obtain ⟨w3, hw3⟩ : ∃ w3, wr.drew = w3 := ⟨_, rfl⟩
          rw [hw3] at HW
          refine wp_held (S := fun u => Blq u g5 51 [hiQ h, loQ h]) (by kernel_rfl) ?_
          rw [hw3]
          clear hw3
          have hS : Blq w3 g5 51 [hiQ h, loQ h] := HW.out.k
          refine wpAnyH_pickG 7 (.agg #[.int .u64 (qn (hiQ h)), .int .u64 (qn (loQ h))]) rfl (by kernel_rfl) (by kernel_rfl) (by kernel_rfl) (by rfl) (fun _ _ _ h => h) (fun u hu => exec_load_pair u 51 (.tmp 5) rfl g5 (by with_unfolding_all rfl) 51 (hiQ h) (loQ h) hu 2 49 Try.underlying51 sizePair) hS ?_
          go_simp
          refine wpAnyH_take (i := 1) (v := ?_) rfl (by kernel_rfl) (by kernel_rfl) (by kernel_rfl) (fun _ _ _ h => h) (Or.inl ⟨by rfl, ?_⟩) hS ?_
          rotate_left 1
          · intro u hu
            go_simp
            first | done | with_reducible rfl
          go_simp
          refine wpAnyH_take (i := 2) (v := ?_) rfl (by kernel_rfl) (by kernel_rfl) (by kernel_rfl) (fun _ _ _ h => h) (Or.inl ⟨by rfl, ?_⟩) hS ?_
          rotate_left 1
          · intro u hu
            go_simp
            first | done | with_reducible rfl
          go_simp
          refine wpAnyH_take (i := 3) (v := .slice A' (pn - m) (pc - m)) rfl (by kernel_rfl) (by kernel_rfl) (by kernel_rfl) (fun _ _ _ h => h) (Or.inl ⟨by rfl, ?_⟩) hS ?_
          · intro u hu
            have hc := HC.out u
            go_simp
          go_simp
          have HW3 := HW
          clear HW hS
          refine wpAnyH_twoG 0 4 (by kernel_rfl) rfl (by rfl) rfl (by rfl) ?_ ?_
          · refine wp_load_pair 51 (.tmp 6) rfl g6 (by with_unfolding_all rfl) 51 s1 s2 HW3.out.s 2 49 Try.underlying51 sizePair ?_
            refine ⟨HW3.out.k, ?_⟩
            go_simp
            refine wpAnyH_oneG 4 (by kernel_rfl) rfl (by rfl) ?_
            go_wp2_with fail
            (with_reducible refine (filled_any (l.drop m) _ (pn - m) (pc - m) B _ (HD.out _ HW3.out.b) (by have := HW3.out.b.size; omega)).mono ?_)
            rintro e4 w4 ⟨rfl, b4⟩
            have HW4 := Lib.hid (HW3.out.below b4)
            refine ⟨HW4.out.k, ?_⟩
            clear b4
            rw [Hf.out]
            refine wpAnyH_oneG 5 (by kernel_rfl) rfl (by rfl) ?_
            go_wp2_with fail
            (with_reducible refine (halves_any f HFL.out _).mono ?_)
            rintro e5 w5 ⟨rfl, b5⟩
            have HW5 := Lib.hid (HW4.out.below b5)
            refine ⟨HW5.out.k, ?_⟩
            clear b5
            refine wpAnyH_oneG 6 (by kernel_rfl) rfl (by rfl) ?_
            go_wp2_with fail
            (with_reducible refine (pcross_any _ _ _ _ _).mono ?_)
            rintro e6 w6 ⟨rfl, b6⟩
            have HW6 := Lib.hid (HW5.out.below b6)
            refine ⟨HW6.out.k, ?_⟩
            clear b6
            refine wpAnyH_oneG 8 (by kernel_rfl) rfl (by rfl) ?_
            go_wp2_with fail
            (with_reducible refine (ptimes_any _ _ _ _ _).mono ?_)
            rintro e7 w7 ⟨rfl, b7⟩
            have HW7 := Lib.hid (HW6.out.below b7)
            refine ⟨HW7.out.k, ?_⟩
            clear b7
            refine wpAnyH_oneG 9 (by kernel_rfl) rfl (by rfl) ?_
            refine wp_store_blq 51 (.tmp 6) (.tmp 32) rfl g6 [(stepQ s1 s2 f h).1, (stepQ s1 s2 f h).2] (by with_unfolding_all rfl) (by with_unfolding_all rfl) 51 [s1, s2] HW7.out.s 2 sizePair rfl rfl ?_
            intro w8 S8 O8
            have HW8 := Lib.hid (HW7.out.only O8.out S8.out)
            refine ⟨HW8.out.k, ?_⟩
            refine wpAnyH_done (by kernel_rfl) ?_ _
            go_wp2_with fail
            go_roundw
            case rel =>
              first
                | exact ⟨k + 1, (stepQ s1 s2 f h).1, (stepQ s1 s2 f h).2, by have := HM.out; omega, by have := HM.out; go_num, HSN, HW8⟩
                | ((repeat apply Exists.intro); exact ⟨⟨k + 1, (stepQ s1 s2 f h).1, (stepQ s1 s2 f h).2, by have := HM.out; omega, by have := HM.out; go_num, HSN, HW8⟩, rfl⟩)
            case measure => simp [intOf]; omega
          · go_wp2_with fail
            (with_reducible refine (filled_any (l.drop m) _ (pn - m) (pc - m) B _ (HD.out _ HW3.out.b) (by have := HW3.out.b.size; omega)).mono ?_)
            rintro e4 w4 ⟨rfl, b4⟩
            have HW4 := Lib.hid (HW3.out.below b4)
            refine ⟨HW4.out.k, ?_⟩
            clear b4
            rw [Hf.out]
            refine wpAnyH_twoG 0 5 (by kernel_rfl) rfl (by rfl) rfl (by rfl) ?_ ?_
            · refine wp_load_pair 51 (.tmp 6) rfl g6 (by with_unfolding_all rfl) 51 s1 s2 HW4.out.s 2 49 Try.underlying51 sizePair ?_
              refine ⟨HW4.out.k, ?_⟩
              go_simp
              refine wpAnyH_oneG 5 (by kernel_rfl) rfl (by rfl) ?_
              go_wp2_with fail
              (with_reducible refine (halves_any f HFL.out _).mono ?_)
              rintro e5 w5 ⟨rfl, b5⟩
              have HW5 := Lib.hid (HW4.out.below b5)
              refine ⟨HW5.out.k, ?_⟩
              clear b5
              refine wpAnyH_oneG 6 (by kernel_rfl) rfl (by rfl) ?_
              go_wp2_with fail
              (with_reducible refine (pcross_any _ _ _ _ _).mono ?_)
              rintro e6 w6 ⟨rfl, b6⟩
              have HW6 := Lib.hid (HW5.out.below b6)
              refine ⟨HW6.out.k, ?_⟩
              clear b6
              refine wpAnyH_oneG 8 (by kernel_rfl) rfl (by rfl) ?_
              go_wp2_with fail
              (with_reducible refine (ptimes_any _ _ _ _ _).mono ?_)
              rintro e7 w7 ⟨rfl, b7⟩
              have HW7 := Lib.hid (HW6.out.below b7)
              refine ⟨HW7.out.k, ?_⟩
              clear b7
              refine wpAnyH_oneG 9 (by kernel_rfl) rfl (by rfl) ?_
              refine wp_store_blq 51 (.tmp 6) (.tmp 32) rfl g6 [(stepQ s1 s2 f h).1, (stepQ s1 s2 f h).2] (by with_unfolding_all rfl) (by with_unfolding_all rfl) 51 [s1, s2] HW7.out.s 2 sizePair rfl rfl ?_
              intro w8 S8 O8
              have HW8 := Lib.hid (HW7.out.only O8.out S8.out)
              refine ⟨HW8.out.k, ?_⟩
              refine wpAnyH_done (by kernel_rfl) ?_ _
              go_wp2_with fail
              go_roundw
              case rel =>
                first
                  | exact ⟨k + 1, (stepQ s1 s2 f h).1, (stepQ s1 s2 f h).2, by have := HM.out; omega, by have := HM.out; go_num, HSN, HW8⟩
                  | ((repeat apply Exists.intro); exact ⟨⟨k + 1, (stepQ s1 s2 f h).1, (stepQ s1 s2 f h).2, by have := HM.out; omega, by have := HM.out; go_num, HSN, HW8⟩, rfl⟩)
              case measure => simp [intOf]; omega
            · go_wp2_with fail
              (with_reducible refine (halves_any f HFL.out _).mono ?_)
              rintro e5 w5 ⟨rfl, b5⟩
              have HW5 := Lib.hid (HW4.out.below b5)
              refine ⟨HW5.out.k, ?_⟩
              clear b5
              refine wpAnyH_oneG 0 (by kernel_rfl) rfl (by rfl) ?_
              refine wp_load_pair 51 (.tmp 6) rfl g6 (by with_unfolding_all rfl) 51 s1 s2 HW5.out.s 2 49 Try.underlying51 sizePair ?_
              refine ⟨HW5.out.k, ?_⟩
              go_simp
              refine wpAnyH_oneG 6 (by kernel_rfl) rfl (by rfl) ?_
              go_wp2_with fail
              (with_reducible refine (pcross_any _ _ _ _ _).mono ?_)
              rintro e6 w6 ⟨rfl, b6⟩
              have HW6 := Lib.hid (HW5.out.below b6)
              refine ⟨HW6.out.k, ?_⟩
              clear b6
              refine wpAnyH_oneG 8 (by kernel_rfl) rfl (by rfl) ?_
              go_wp2_with fail
              (with_reducible refine (ptimes_any _ _ _ _ _).mono ?_)
              rintro e7 w7 ⟨rfl, b7⟩
              have HW7 := Lib.hid (HW6.out.below b7)
              refine ⟨HW7.out.k, ?_⟩
              clear b7
              refine wpAnyH_oneG 9 (by kernel_rfl) rfl (by rfl) ?_
              refine wp_store_blq 51 (.tmp 6) (.tmp 32) rfl g6 [(stepQ s1 s2 f h).1, (stepQ s1 s2 f h).2] (by with_unfolding_all rfl) (by with_unfolding_all rfl) 51 [s1, s2] HW7.out.s 2 sizePair rfl rfl ?_
              intro w8 S8 O8
              have HW8 := Lib.hid (HW7.out.only O8.out S8.out)
              refine ⟨HW8.out.k, ?_⟩
              refine wpAnyH_done (by kernel_rfl) ?_ _
              go_wp2_with fail
              go_roundw
              case rel =>
                first
                  | exact ⟨k + 1, (stepQ s1 s2 f h).1, (stepQ s1 s2 f h).2, by have := HM.out; omega, by have := HM.out; go_num, HSN, HW8⟩
                  | ((repeat apply Exists.intro); exact ⟨⟨k + 1, (stepQ s1 s2 f h).1, (stepQ s1 s2 f h).2, by have := HM.out; omega, by have := HM.out; go_num, HSN, HW8⟩, rfl⟩)
              case measure => simp [intOf]; omega
        · have HE : Hid (pairB s1 s2 = foldJ h ps (j + 1)) := show _ = _ by
            rw [HJ.out, HP.out, partG, HPL.out, show k = (pn + 15) / 16 by omega]
          clear hm
          go_wp2_with fail
          go_roundw
          case rel =>
            first
              | exact ⟨j + 1, s1, s2, by omega, by go_num, HE, HW⟩
              | ((repeat apply Exists.intro); exact ⟨⟨j + 1, s1, s2, by omega, by go_num, HE, HW⟩, rfl⟩)
          case measure => simp [intOf]; omega
    · have e : foldJ h ps j = hashG h (ps.map (·.l)) := foldJ_all h ps j (by omega)
      rw [e] at HP
      have HHL : Hid ((hashG h (ps.map (·.l))).length = 16) := hashG_length _ _ Hh.out
      clear hpl e
      go_wp2_with (first
        | ((with_reducible refine wpList_load_pair rfl 51 (.tmp 6) rfl g6 ?hx 51 s1 s2 HW.out.s 2 49 Try.underlying51 sizePair ?_); (case hx => with_unfolding_all rfl))
        | (go_at_call 30; (with_reducible refine (pbytes_any s1 s2 _).mono ?_); rintro e3 w3 ⟨rfl, hb3⟩; rw [HP.out]; have HW3 := Lib.hid (HW.out.below hb3); clear hb3)
        | ((with_reducible refine wpList_store_blk rfl 22 (.tmp 4) (.tmp 35) rfl (w.heap.size + 1) (hashG h (ps.map (·.l))) ?hx ?hy 22 (List.replicate 16 0) HW3.out.r 16 sizeRow HHL.out ?ho ?_); (case hx => with_unfolding_all rfl); (case hy => with_unfolding_all rfl); (case ho => rfl); intro w4 H4 O4))
      refine ret_blk Try.results19 (w.heap.size + 1) 22 _ 16 5 rfl H4.out Try.underlying22 16 sizeRow HHL.out rfl ⟨rfl, ?_⟩
      exact HW3.out.b.trans (O4.out.below HW3.out.b.size (by omega))
end Go.Proofs.Ytkeleehkjllgeaa
