/-
  The document's In: Put.
-/
import Derived.Test.YtocolaccgoochaaDoorIrC
namespace Go.Proofs.YtocolaccgoochaaDoor
open Go.RowKit Go.Lib
set_option linter.unusedVariables false

/-- under way: the two rows, in a world that has gone on from w -/
structure St (w : World) (F : Nat → Prop) (u : World) (g : Nat) (row : List Value) (vb vi : Value) (nb nz : Nat) (bs : List UInt8) (zs : List Bool) : Prop where
  t : Two u g row vb vi nb nz bs zs
  m : Mvd F w u
  f : ∀ k, vb.ownBlock = some k ∨ vi.ownBlock = some k → F k ∨ w.heap.size ≤ k
  g : F g
section
variable {w u u' : World} {F : Nat → Prop} {g nb nz : Nat} {row : List Value} {vb vb' vi vi' : Value} {bs bs' : List UInt8} {zs zs' : List Bool}
theorem St.below (h : St w F u g row vb vi nb nz bs zs) (hb : Below u.heap.size u u') : St w F u' g row vb vi nb nz bs zs :=
  ⟨h.t.below hb, ⟨hb.os.trans h.m.os, hb.tape.trans h.m.tape, hb.output.trans h.m.output, Nat.le_trans h.m.size hb.size, fun k hk hn => (hb.block k (Nat.lt_of_lt_of_le hk h.m.size)).trans (h.m.block k hk hn)⟩, h.f, h.g⟩
theorem St.appB (h : St w F u g row vb vi nb nz bs zs) (ho : Own u' 0 vb' (nb + 1) bs') (hg : u.grownBy u' vb.ownBlock) (hv : vb'.ownBlock = vb.ownBlock ∨ vb'.ownBlock = some u.heap.size) : St w F u' g row vb' vi (nb + 1) nz bs' zs := by
  refine ⟨h.t.appB ho hg hv, h.m.grown hg fun r hr hl => ?_, fun k hk => ?_, h.g⟩
  · rcases h.f r (.inl hr) with h1 | h1
    · exact h1
    · omega
  · rcases hk with hk | hk
    · rcases hv with e | e
      · exact h.f k (.inl (e ▸ hk))
      · rw [e] at hk
        injection hk with hk
        have := h.m.size
        exact .inr (by omega)
    · exact h.f k (.inr hk)
theorem St.appZ (h : St w F u g row vb vi nb nz bs zs) (ho : OwnZ u' 0 vi' (nz + 1) zs') (hg : u.grownBy u' vi.ownBlock) (hv : vi'.ownBlock = vi.ownBlock ∨ vi'.ownBlock = some u.heap.size) : St w F u' g row vb vi' nb (nz + 1) bs zs' := by
  refine ⟨h.t.appZ ho hg hv, h.m.grown hg fun r hr hl => ?_, fun k hk => ?_, h.g⟩
  · rcases h.f r (.inr hr) with h1 | h1
    · exact h1
    · omega
  · rcases hk with hk | hk
    · exact h.f k (.inl hk)
    · rcases hv with e | e
      · exact h.f k (.inr (e ▸ hk))
      · rw [e] at hk
        injection hk with hk
        have := h.m.size
        exact .inr (by omega)
theorem St.put (h : St w F u g row vb vi nb nz bs zs) (i : Nat) (v : Value) : St w F (u.setCell ⟨g, i, none⟩ v) g (row.set i v) vb vi nb nz bs zs :=
  ⟨h.t.put i v, h.m.only ((Only.refl g u).setCell i _) (fun _ => h.g), h.f, h.g⟩
theorem St.setB {gb c : Nat} (h : St w F u g row (.slice (some ⟨gb, 0, none⟩) nb c) vi nb nz bs zs) (j : Nat) (y : UInt8) : St w F (u.setCell ⟨gb, j, none⟩ (.int .u8 (bn y))) g row (.slice (some ⟨gb, 0, none⟩) nb c) vi nb nz (bs.set j y) zs :=
  ⟨h.t.setB j y, h.m.only ((Only.refl gb u).setCell j _) (fun hl => by
    rcases h.f gb (.inl rfl) with h1 | h1
    · exact h1
    · omega), h.f, h.g⟩
theorem St.setZ {gz c : Nat} (h : St w F u g row vb (.slice (some ⟨gz, 0, none⟩) nz c) nb nz bs zs) (j : Nat) (y : Bool) : St w F (u.setCell ⟨gz, j, none⟩ (.bool y)) g row vb (.slice (some ⟨gz, 0, none⟩) nz c) nb nz bs (zs.set j y) :=
  ⟨h.t.setZ j y, h.m.only ((Only.refl gz u).setCell j _) (fun hl => by
    rcases h.f gz (.inr rfl) with h1 | h1
    · exact h1
    · omega), h.f, h.g⟩
end
theorem size_slB : (Tryd.prog.info? 30).map (·.size) = some 1 := by kernel_rfl
theorem size_slZ : (Tryd.prog.info? 49).map (·.size) = some 1 := by kernel_rfl
theorem size_bool : (Tryd.prog.info? 4).map (·.size) = some 1 := by kernel_rfl
theorem wp_put_cell {P : Program} {o : Oper} {a : Act} {w : World} {K : Act → World → Prop} {Q : Exit → Act → World → Prop} (ty : TypeId) (x y : Operand) (ho : o.op = .store ty x y)
    (g i : Nat) (v : Value) (hx : a.eval x = .pointer (some ⟨g, i, none⟩)) (hy : a.eval y = v) (hv : v.cells = #[v]) (h1 : v.oneCell' = true) (t : TypeId) (vs : List Value) (hB : Rw w g t vs) (hi : (P.info? ty).map (·.size) = some 1) (hl : i < vs.length)
    (h : K (a.put o.dst undef) (w.setCell ⟨g, i, none⟩ v)) : o.wp P a w K Q := by
  unfold Oper.wp execOp
  simp only [ho, hx, hy, Instr.storeAt, Instr.sureAddr, Sem.run_bind, Sem.run_pure, Result.andThen_ok, run_put_rw hi hB hl v hv h1]
  exact h
theorem owns_rw {w : World} {B n c g : Nat} {e : TypeId} {xs : List Value} (h : w.ownsRow B e 1 (.slice (some ⟨g, 0, none⟩) n c) n xs) : ∃ vs, Rw w g e vs ∧ n ≤ vs.length := by
  rcases h.2 with ⟨h1, h2⟩ | ⟨g', cap, cur, hv, _, hg, hn, _, hs, _⟩
  · cases h1
  · injection hv with hA _ hC
    injection hA with hA
    injection hA with hA
    subst hA hC
    refine ⟨cur.toList, by simpa [Rw] using hg, ?_⟩
    rw [Array.length_toList]
    omega
theorem cell_grown {w w' : World} {row : Option Nat} {p : Addr} {v : Value} (hg : w.grownBy w' row) (hc : w.cell? p = some v) (hne : row ≠ some p.block) : w'.cell? p = some v :=
  (World.cell?_of_block (hg.block p.block (World.block_lt_of_cell? w _ hc) (fun e => hne e.symm))).trans hc
/-- a slice of one byte -/
theorem wp_byteG {o : Oper} {a : Act} {w : World} {K : Act → World → Prop} {Q : Exit → Act → World → Prop} (x : Operand) (ho : o.op = .buildSlice 30 1 #[(0, x)])
    (b : UInt8) (hx : a.eval x = .int .u8 (bn b))
    (h : ∀ g w', Hid (g = w.heap.size) → Hid (Sl w' w'.heap.size (some ⟨g, 0, none⟩) 1 [b]) → Hid (Below w.heap.size w w') → K (a.put o.dst (.slice (some ⟨g, 0, none⟩) 1 1)) w') : o.wp Tryd.prog a w K Q := by
  have hs : Sl (w.alloc (.cells #[.int .u8 (bn b)] 5)) (w.alloc (.cells #[.int .u8 (bn b)] 5)).heap.size (some ⟨w.heap.size, 0, none⟩) 1 [b] := by
    rw [World.size_alloc]
    exact sl_one w _ b rfl
  have h1 := h w.heap.size (w.alloc (.cells #[.int .u8 (bn b)] 5)) rfl hs ((Below.refl _ _).alloc (Nat.le_refl _) _)
  have hp : (#[(0, x)].map fun (i, x) => (i, a.eval x)) = #[(0, Value.int .u8 (bn b))] := by simp [hx]
  unfold Oper.wp execOp
  simp only [ho, hp]
  clear h hp hx hs
  go_simp
  exact h1
theorem bn_injR {x y : UInt8} (h : bn x = bn y) : x = y := by
  unfold bn at h
  exact UInt8.toNat_inj.1 (by omega)
theorem px_set {p : Nat → Option UInt8} {o j N : Nat} {l bs : List UInt8} {zs : List Bool} (hp : ∀ i, i < N → pxV p o l (o + j) i = if zs.getD i false = true then some (bs.getD i 0) else none) (hj : o + j < N) (hb : bs.length = N) (hz : zs.length = N) :
    ∀ i, i < N → pxV p o l (o + (j + 1)) i = if (zs.set (o + j) true).getD i false = true then some ((bs.set (o + j) (l.getD j 0)).getD i 0) else none := fun i hi => by
  by_cases e : i = o + j
  · subst e
    unfold pxV
    rw [if_pos (by omega), Nat.add_sub_cancel_left]
    simp [hb, hz, hj]
  · have h1 : (zs.set (o + j) true).getD i false = zs.getD i false := by simp [List.getD_eq_getElem?_getD, Ne.symm e]
    have h2 : (bs.set (o + j) (l.getD j 0)).getD i 0 = bs.getD i 0 := by simp only [List.getD_eq_getElem?_getD, List.getElem?_set, Ne.symm e, if_false]
    rw [h1, h2, ← hp i hi]
    unfold pxV
    by_cases c : o ≤ i ∧ i < o + j
    · rw [if_pos c, if_pos (by omega)]
    · rw [if_neg c, if_neg (by omega)]
theorem p_more {p : Nat → Option UInt8} {N : Nat} {bs : List UInt8} {zs : List Bool} (hp : ∀ i, i < N → p i = if zs.getD i false = true then some (bs.getD i 0) else none) (hn : p N = none) (hb : bs.length = N) (hz : zs.length = N) :
    ∀ i, i < N + 1 → p i = if (zs ++ [false]).getD i false = true then some ((bs ++ [0]).getD i 0) else none := fun i hi => by
  by_cases e : i = N
  · subst e
    rw [hn]
    simp [List.getD_eq_getElem?_getD, ← hz]
  · have h1 : (zs ++ [false]).getD i false = zs.getD i false := by simp [List.getD_eq_getElem?_getD, List.getElem?_append, show i < zs.length by omega]
    have h2 : (bs ++ [0]).getD i 0 = bs.getD i 0 := by simp [List.getD_eq_getElem?_getD, List.getElem?_append, show i < bs.length by omega]
    rw [h1, h2]
    exact hp i (by omega)
/-- it is the document's In again -/
theorem st_ref {w u : World} {F : Nat → Prop} {g most N : Nat} {vb vi : Value} {bs : List UInt8} {zs : List Bool} {en rd : Int} (H : St w F u g [.int .i64 (most : Int), vb, vi, .int .i64 en, .int .i64 rd] vb vi N N bs zs) (s' : InS) (hhi : s'.hi = N) (hen : enI s' = en) (hrd : (s'.rd : Int) = rd)
    (hp : ∀ i, i < N → s'.p i = if zs.getD i false = true then some (bs.getD i 0) else none) (hok : s'.Ok most) (hmo : most ≤ 1048576) : RefW u (fun k => F k ∨ (w.heap.size ≤ k ∧ k < u.heap.size)) g most s' := by
  subst hhi hen hrd
  refine ⟨vb, vi, bs, zs, ⟨H.t.r, H.t.b, H.t.z, H.t.gb, H.t.gz, H.t.bz⟩, hp, hok, hmo, .inl H.g, fun k hk => ?_⟩
  rcases H.f k hk with h1 | h1
  · exact .inl h1
  · refine .inr ⟨h1, ?_⟩
    rcases hk with hk | hk
    · exact (World.ownsRow.lt H.t.b k hk).2
    · exact (World.ownsRow.lt H.t.z k hk).2
/-- what Put gives -/
def RPutW (w : World) (F : Nat → Prop) (g most : Nat) (s : InS) (off : Int) (l : List UInt8) (e : Bool) (r : Ending) (w' : World) : Prop :=
  ∃ (cd : Nat) (s' : InS), r = .returned (.int .i64 (cd : Int)) ∧ PutR most s off l e cd s' ∧ RefW w' (fun k => F k ∨ (w.heap.size ≤ k ∧ k < w'.heap.size)) g most s' ∧ Mvd F w w'
theorem RefW.fmore {w : World} {F F' : Nat → Prop} {g most : Nat} {s : InS} (h : RefW w F g most s) (hF : ∀ k, F k → F' k) : RefW w F' g most s := by
  obtain ⟨vb, vi, bs, zs, h1, h2, h3, h4, h5, h6⟩ := h
  exact ⟨vb, vi, bs, zs, h1, h2, h3, h4, hF _ h5, fun k hk => hF k (h6 k hk)⟩
theorem rput_same {w : World} {F : Nat → Prop} {g most : Nat} {s : InS} {off : Int} {l : List UInt8} {e : Bool} (h : RefW w F g most s) (cd : Nat) (hP : PutR most s off l e cd s) (k : Nat) : RPutW w F g most s off l e (.returned (.int .i64 (cd : Int))) (w.drewN k) :=
  ⟨cd, s, rfl, hP, (h.drewN k).fmore fun _ hk => .inl hk, ⟨rfl, rfl, rfl, Nat.le_refl _, fun _ _ _ => rfl⟩⟩
set_option maxRecDepth 8000 in
theorem rput_arg {w : World} {F : Nat → Prop} {g most n c : Nat} {s : InS} {off : Int} {A : Option Addr} {l : List UInt8} {e : Bool} (h : RefW w F g most s) (ho : off < 0) :
    Calls Tryd.prog 15 #[.pointer (some ⟨g, 0, none⟩), .int .i64 off, .slice A n c, .bool e] w (RPutW w F g most s off l e) := by
  have HH := Lib.hid (rput_same (l := l) (e := e) h 2 (.inl ⟨ho, rfl, rfl⟩) 0)
  clear h
  go_enter Tryd.func15, Tryd.ntmps15
  go_wp2
  go_ret
  exact HH.out
set_option maxRecDepth 8000 in
theorem rput_bound {w : World} {F : Nat → Prop} {g most n c o : Nat} {s : InS} {A : Option Addr} {l : List UInt8} {e : Bool} (h : RefW w F g most s) (hl : l.length = n) (hn : n ≤ 1048576) (hm : most < o + n) :
    Calls Tryd.prog 15 #[.pointer (some ⟨g, 0, none⟩), .int .i64 (o : Int), .slice A n c, .bool e] w (RPutW w F g most s (o : Int) l e) := by
  have HH := Lib.hid (rput_same (l := l) (e := e) h 11 (.inr ⟨o, rfl, .inl ⟨by omega, rfl, rfl⟩⟩) 0)
  obtain ⟨vb, vi, bs, zs, h1, _, hok, hmo, _⟩ := h
  have c0 := h1.r.cell 0 _ rfl
  have b0 : (most : Int) ≤ 1048576 := by omega
  have b1 : (n : Int) ≤ 1048576 := by omega
  clear h1 hok
  by_cases ho : most < o
  · have ho1 : ((most : Int) < (o : Int)) := by omega
    go_enter Tryd.func15, Tryd.ntmps15
    go_wp2
    go_ret
    exact HH.out
  · have ho1 : ¬ ((most : Int) < (o : Int)) := by omega
    obtain ⟨d, hd⟩ : ∃ d, most - o = d := ⟨_, rfl⟩
    have hd1 : ((most : Int) - (o : Int)) = (d : Int) := by omega
    have b2 : (d : Int) ≤ 1048576 := by omega
    have hd2 : ((d : Int) < (n : Int)) := by omega
    clear hd
    go_enter Tryd.func15, Tryd.ntmps15
    go_wp2
    go_ret
    exact HH.out
set_option maxRecDepth 8000 in
set_option maxHeartbeats 8000000 in
theorem rput_in {w : World} {F : Nat → Prop} {g most n c o : Nat} {s : InS} {A : Option Addr} {l : List UInt8} {e : Bool} (h : RefW w F g most s) (hs : Sl w w.heap.size A n l) (hA : 0 < n → ∀ a, A = some a → ¬ F a.block) (hnc : n ≤ c) (hm : o + n ≤ most) :
    Calls Tryd.prog 15 #[.pointer (some ⟨g, 0, none⟩), .int .i64 (o : Int), .slice A n c, .bool e] w (RPutW w F g most s (o : Int) l e) := by
  have hll := hs.len
  have hok := h.ok
  have hmo : most ≤ 1048576 := by
    obtain ⟨_, _, _, _, _, _, _, h, _⟩ := h
    exact h
  obtain ⟨t, ht⟩ : ∃ t, o + n = t := ⟨_, rfl⟩
  have hcl := clash_is s o l e
  rw [hll, ht] at hcl
  have HCL := Lib.hid hcl
  have HOK := Lib.hid hok
  have HNO : Hid (clashV s o l e → ∀ k, RPutW w F g most s (o : Int) l e (.returned (.int .i64 12)) (w.drewN k)) := fun hc k => rput_same h 12 (.inr ⟨o, rfl, .inr (.inl ⟨by omega, hc, rfl, rfl⟩)⟩) k
  have HYES : Hid (¬ clashV s o l e → PutR most s (o : Int) l e 0 (putS s o l e) ∧ (putS s o l e).Ok most) := fun hc => ⟨.inr ⟨o, rfl, .inr (.inr ⟨by omega, hc, rfl, rfl⟩)⟩, putS_ok hok (by omega) hc⟩
  have hd := h.d
  obtain ⟨vb, vi, bs, zs, T, hP, hFg, hFk⟩ := hd
  obtain ⟨Ab, cb, rfl, hb1, hb2⟩ := T.b.form
  obtain ⟨Az, cz, rfl, hz1, hz2⟩ := T.z.form
  have c0 := T.r.cell 0 _ rfl
  have c1 := T.r.cell 1 _ rfl
  have c2 := T.r.cell 2 _ rfl
  have c3 := T.r.cell 3 _ rfl
  have hen := enI_bd hok hmo
  have hhi := hok.most
  obtain ⟨y, hy⟩ : ∃ y, enI s = y := ⟨_, rfl⟩
  obtain ⟨N, hN⟩ : ∃ N, s.hi = N := ⟨_, rfl⟩
  obtain ⟨d, hdd⟩ : ∃ d, most - o = d := ⟨_, rfl⟩
  rw [hy] at c3 hen
  rw [hN] at c1 c2 hhi hb1 hz1
  have HT := Lib.hid T
  have HP := Lib.hid hP
  rw [hy, hN] at HT
  rw [hN] at HP
  have HF : Hid (F g ∧ ∀ k, (Value.slice Ab N cb).ownBlock = some k ∨ (Value.slice Az N cz).ownBlock = some k → F k) := ⟨hFg, by rw [hN] at hFk; exact hFk⟩
  have HSl := Lib.hid hs
  have HA := Lib.hid hA
  have HLL := Lib.hid hll
  have HY := Lib.hid hy
  have HN := Lib.hid hN
  have ho1 : ¬ ((most : Int) < (o : Int)) := by omega
  have hd1 : ((most : Int) - (o : Int)) = (d : Int) := by omega
  have hd2 : ¬ ((d : Int) < (n : Int)) := by omega
  have hti : ((o : Int) + (n : Int)) = (t : Int) := by omega
  have b0 : (most : Int) ≤ 1048576 := by omega
  have b1 : (n : Int) ≤ 1048576 := by omega
  have b2 : (d : Int) ≤ 1048576 := by omega
  have b3 : (t : Int) ≤ 1048576 := by omega
  have b4 : (o : Int) ≤ 1048576 := by omega
  have b5 : (N : Int) ≤ 1048576 := by omega
  have y1 := hen.1
  have y2 := hen.2
  have HTT := Lib.hid ht
  clear hcl hok h T hP hFg hFk hen hy hN hdd hs hA hll ht hm
  go_enter Tryd.func15, Tryd.ntmps15
  go_upto_region 6 with fail
  go_cut [70] from 35 to 69 (fun v wx => v = .bool (cl1V s t e) ∧ wx = w)
  case first =>
    have HC : Hid (cl1V s t e = ((decide (0 ≤ y) && (decide (y < (t : Int)) || (e && !decide ((t : Int) = y)))) || (e && decide (t < N)))) := by
      show _ = _
      unfold cl1V
      rw [HY.out, HN.out]
    obtain ⟨v, hv⟩ : ∃ v, cl1V s t e = v := ⟨_, rfl⟩
    rw [hv] at HC
    have HV := Lib.hid hv
    clear hv
    by_cases d1 : 0 ≤ y
    · by_cases d2 : y < (t : Int)
      · obtain rfl : v = true := by rw [HC.out]; simp [d1, d2]
        go_wp2_with fail
        go_meet
        exact ⟨by rw [HV.out], rfl⟩
      · cases e
        · obtain rfl : v = false := by rw [HC.out]; simp [d2]
          go_wp2_with fail
          go_meet
          exact ⟨by rw [HV.out], rfl⟩
        · by_cases d3 : (t : Int) = y
          · have d4 : ((t : Int) == y) = true := by simp [d3]
            have d5 : ((t : Int) != y) = false := by simp [d3]
            by_cases d6 : (t : Int) < (N : Int)
            · obtain rfl : v = true := by rw [HC.out]; simp; right; omega
              have HD3 := Lib.hid d3
              clear d3
              go_wp2_with fail
              go_meet
              exact ⟨by rw [HV.out], rfl⟩
            · obtain rfl : v = false := by rw [HC.out]; simp [d3]; omega
              have HD3 := Lib.hid d3
              clear d3
              go_wp2_with fail
              go_meet
              exact ⟨by rw [HV.out], rfl⟩
          · have d4 : ((t : Int) == y) = false := by simp [d3]
            have d5 : ((t : Int) != y) = true := by simp [d3]
            obtain rfl : v = true := by rw [HC.out]; simp [d1, d3]
            go_wp2_with fail
            go_meet
            exact ⟨by rw [HV.out], rfl⟩
    · have d0 : decide (0 ≤ y) = false := by simpa using d1
      cases e
      · obtain rfl : v = false := by rw [HC.out, d0]; rfl
        go_wp2_with fail
        go_meet
        exact ⟨by rw [HV.out], rfl⟩
      · by_cases d6 : (t : Int) < (N : Int)
        · obtain rfl : v = true := by rw [HC.out]; simp; right; omega
          go_wp2_with fail
          go_meet
          exact ⟨by rw [HV.out], rfl⟩
        · obtain rfl : v = false := by rw [HC.out, d0]; simp; omega
          go_wp2_with fail
          go_meet
          exact ⟨by rw [HV.out], rfl⟩
  case rest =>
    obtain ⟨rfl, hwx⟩ := hcut
    replace hwx := hwx.symm
    subst hwx
    obtain ⟨v, hv⟩ : ∃ v, cl1V s t e = v := ⟨_, rfl⟩
    rw [hv] at HCL
    rw [hv]
    clear hv
    cases v
    case true =>
      have HR := Lib.hid (HNO.out (HCL.out.2 (.inl rfl)) 0)
      clear HNO HYES HCL
      go_wp2_with fail
      go_ret
      exact HR.out
    case false =>
      have HNC : Hid (clashV s o l e ↔ ∃ k, k < n ∧ ∃ b, s.p (o + k) = some b ∧ b ≠ l.getD k 0) := by
        have h := HCL.out
        exact h.trans ⟨fun h => h.resolve_left (by simp), .inr⟩
      clear HCL
      go_wp2_with fail
      go_loopg [10] n (fun kx s10 wr => ∃ j q : Nat, s10 = .int .i64 (j : Int) ∧ wr = w.drewN q ∧ j ≤ n ∧ n - j ≤ kx ∧ Hid (∀ k, k < j → ∀ b, s.p (o + k) = some b → b = l.getD k 0))
      case atStart => exact ⟨0, 0, rfl, rfl, Nat.zero_le _, by omega, fun k hk => absurd hk (Nat.not_lt_zero _)⟩
      case round =>
        obtain ⟨j, q, rfl, rfl, hj, hk, HB⟩ := hrel
        by_cases hjn : j < n
        · have hjl : ((j : Int) < (n : Int)) := by omega
          obtain ⟨i, hi⟩ : ∃ i, o + j = i := ⟨_, rfl⟩
          have hij : ((o : Int) + (j : Int)) = (i : Int) := by omega
          have bi : (i : Int) ≤ 1048576 := by omega
          have bj : (j : Int) ≤ 1048576 := by omega
          have HI := Lib.hid hi
          by_cases hiN : i < N
          · have hiN1 : ((i : Int) < (N : Int)) := by omega
            obtain ⟨gb, rfl, _, _⟩ := HT.out.b.at_ (by omega)
            obtain ⟨gz, rfl, _⟩ := HT.out.z.at_ (by omega)
            have zc := HT.out.z.cell i hiN
            have hPi := HP.out i hiN
            obtain ⟨z, hz⟩ : ∃ z, zs.getD i false = z := ⟨_, rfl⟩
            rw [hz] at zc hPi
            cases z
            · have HPI := Lib.hid hPi
              clear hPi hz hi
              go_wp2_with fail
              go_quiet (fail)
              go_wp2_with fail
              go_roundg (n - (j + 1))
              case measure => omega
              case rel => exact ⟨j + 1, _, by go_num, by first | rfl | exact World.drewN_drewN .., by omega, Nat.le_refl _, fun k hk b hb => by
                by_cases ek : k = j
                · subst ek
                  rw [HI.out, HPI.out] at hb
                  cases hb
                · exact HB.out k (by omega) b hb⟩
            · have bc := (HT.out.b.sl).cellD i (by rw [HT.out.b.len]; exact hiN)
              rw [Nat.zero_add] at bc
              obtain ⟨bd, od, rfl, hbd, _⟩ := HSl.out.2 (by omega)
              have dc := HSl.out.cellD j (by rw [HLL.out]; exact hjn)
              obtain ⟨x, hx⟩ : ∃ x, bs.getD i 0 = x := ⟨_, rfl⟩
              obtain ⟨yb, hyb⟩ : ∃ yb, l.getD j 0 = yb := ⟨_, rfl⟩
              rw [hx] at bc hPi
              rw [hyb] at dc
              have HPI := Lib.hid hPi
              have HYB := Lib.hid hyb
              clear hPi hz hi hx hyb
              by_cases hxy : x = yb
              · subst hxy
                go_wp2_with fail
                go_quiet (fail)
                go_wp2_with fail
                go_roundg (n - (j + 1))
                case measure => omega
                case rel => exact ⟨j + 1, _, by go_num, by first | rfl | exact World.drewN_drewN .., by omega, Nat.le_refl _, fun k hk b hb => by
                  by_cases ek : k = j
                  · subst ek
                    rw [HI.out, HPI.out] at hb
                    injection hb with hb
                    rw [← hb, HYB.out]
                  · exact HB.out k (by omega) b hb⟩
              · have hne : ¬ bn x = bn yb := fun e => hxy (bn_injR e)
                have hne2 : (bn x == bn yb) = false := by simp [hne]
                have hne3 : (bn x != bn yb) = true := by simp [hne]
                have HR : Hid (∀ k, RPutW w F g most s (o : Int) l e (.returned (.int .i64 12)) (w.drewN k)) := HNO.out (HNC.out.2 ⟨j, hjn, x, by rw [HI.out]; exact HPI.out, by rw [HYB.out]; exact hxy⟩)
                go_wp2_with fail
                go_quiet (fail)
                go_wp2_with fail
                go_ret
                rw [World.drewN_drewN]
                exact HR.out _
          · have hiN1 : ¬ ((i : Int) < (N : Int)) := by omega
            have HPI : Hid (s.p i = none) := by
              show s.p i = none
              cases hp : s.p i with
              | none => rfl
              | some b => exact absurd (HOK.out.top i (by rw [hp]; simp)) (by rw [HN.out]; omega)
            clear hi
            go_wp2_with fail
            go_quiet (fail)
            go_wp2_with fail
            go_roundg (n - (j + 1))
            case measure => omega
            case rel => exact ⟨j + 1, _, by go_num, by first | rfl | exact World.drewN_drewN .., by omega, Nat.le_refl _, fun k hk b hb => by
              by_cases ek : k = j
              · subst ek
                rw [HI.out, HPI.out] at hb
                cases hb
              · exact HB.out k (by omega) b hb⟩
        · have hjl : ¬ ((j : Int) < (n : Int)) := by omega
          obtain rfl : n = j := by omega
          have hnc : ¬ clashV s o l e := fun hc => by
            obtain ⟨k, hk, b, hb, hne⟩ := HNC.out.1 hc
            exact hne (HB.out k hk b hb)
          have HYS := Lib.hid (HYES.out hnc)
          clear HNC HNO HYES hnc HB
          go_wp2_with fail
          have HST : Hid (St w F (w.drewN q) g [.int .i64 (most : Int), .slice Ab N cb, .slice Az N cz, .int .i64 y, .int .i64 (s.rd : Int)] (.slice Ab N cb) (.slice Az N cz) N N bs zs) := ⟨HT.out.below ⟨rfl, rfl, rfl, Nat.le_refl _, fun _ _ => rfl⟩, Mvd.of_below ⟨rfl, rfl, rfl, Nat.le_refl _, fun _ _ => rfl⟩, fun k hk => .inl (HF.out.2 k hk), HF.out.1⟩
          clear HT c0 c1 c2 c3
          go_loopg [] (t - N) (fun kx wr => ∃ (N' : Nat) (vb vi : Value) (bs' : List UInt8) (zs' : List Bool), Hid (St w F wr g [.int .i64 (most : Int), vb, vi, .int .i64 y, .int .i64 (s.rd : Int)] vb vi N' N' bs' zs') ∧ N ≤ N' ∧ (N' ≤ N ∨ (0 < n ∧ N' ≤ t)) ∧ t - N' ≤ kx ∧ Hid (∀ i, i < N' → s.p i = if zs'.getD i false = true then some (bs'.getD i 0) else none))
          case atStart => exact ⟨N, _, _, bs, zs, HST, Nat.le_refl _, .inl (Nat.le_refl _), Nat.le_refl _, HP⟩
          case round =>
            clear HST HP
            obtain ⟨N', vb, vi, bs', zs', H, hN1, hN2, hk, HP'⟩ := hrel
            obtain ⟨A1, k1, rfl, _, _⟩ := H.out.t.b.form
            obtain ⟨A2, k2, rfl, _, _⟩ := H.out.t.z.form
            have d1 := H.out.t.r.cell 1 _ rfl
            have d2 := H.out.t.r.cell 2 _ rfl
            have bN : (N' : Int) ≤ 1048576 := by omega
            by_cases hn0 : 0 < n
            · have hn1 : ((0 : Int) < (n : Int)) := by omega
              by_cases hNt : N' < t
              · have hNt1 : ((N' : Int) < (t : Int)) := by omega
                have HPM : Hid (∀ i, i < N' + 1 → s.p i = if (zs' ++ [false]).getD i false = true then some ((bs' ++ [0]).getD i 0) else none) := p_more HP'.out (by
                  cases hp : s.p N' with
                  | none => rfl
                  | some b => exact absurd (HOK.out.top N' (by rw [hp]; simp)) (by rw [HN.out]; omega)) H.out.t.b.len H.out.t.z.len
                clear HP'
                go_wp2_with fail
                refine wp_part (n := 16) (S := fun u => Rw u g 51 [.int .i64 (most : Int), .slice A1 N' k1, .slice A2 N' k2, .int .i64 y, .int .i64 (s.rd : Int)]) (by kernel_rfl) ?_
                replace H := Lib.hid (H.out.below (⟨rfl, rfl, rfl, Nat.le_refl _, fun _ _ => rfl⟩ : Below wr.heap.size wr wr.drew))
                have hS := H.out.t.r
                refine HP.pure (by kernel_rfl) (i := 0) (v := ?_) rfl (by decide) (by kernel_rfl) (by kernel_rfl) (fun _ _ _ h => h) (Or.inl ⟨by rfl, ?_⟩) (fun _ => hS) ?_
                rotate_left 1
                · intro u hu
                  go_simp
                  first | done | with_reducible rfl
                go_simp
                refine HP.pure (by kernel_rfl) (i := 1) (v := ?_) rfl (by decide) (by kernel_rfl) (by kernel_rfl) (fun _ _ _ h => h) (Or.inl ⟨by rfl, ?_⟩) (fun _ => hS) ?_
                rotate_left 1
                · intro u hu
                  go_simp
                  first | done | with_reducible rfl
                go_simp
                refine HP.pure (by kernel_rfl) (i := 2) (v := ?_) rfl (by decide) (by kernel_rfl) (by kernel_rfl) (fun _ _ _ h => h) (Or.inl ⟨by rfl, ?_⟩) (fun _ => hS) ?_
                rotate_left 1
                · intro u hu
                  go_simp
                  first | done | with_reducible rfl
                go_simp
                refine HP.pure (by kernel_rfl) (i := 3) (v := ?_) rfl (by decide) (by kernel_rfl) (by kernel_rfl) (fun _ _ _ h => h) (Or.inl ⟨by rfl, ?_⟩) (fun _ => hS) ?_
                rotate_left 1
                · intro u hu
                  go_simp
                  first | done | with_reducible rfl
                go_simp
                refine HP.pure (by kernel_rfl) (i := 4) (v := ?_) rfl (by decide) (by kernel_rfl) (by kernel_rfl) (fun _ _ _ h => h) (Or.inl ⟨by rfl, ?_⟩) (fun _ => hS) ?_
                rotate_left 1
                · intro u hu
                  go_simp
                  first | done | with_reducible rfl
                go_simp
                refine HP.take [5] (by kernel_rfl) (i := 5) (v := ?_) rfl (by decide) (by kernel_rfl) (by kernel_rfl) (by kernel_rfl) (fun _ _ _ h => h) (Or.inl ⟨by rfl, ?_⟩) hS ?_
                rotate_left 1
                · intro u hu
                  have q1 := Rw.cell hu 1 _ rfl
                  go_simp
                  first | done | with_reducible rfl
                go_simp
                refine HP.pure (by kernel_rfl) (i := 8) (v := ?_) rfl (by decide) (by kernel_rfl) (by kernel_rfl) (fun _ _ _ h => h) (Or.inl ⟨by rfl, ?_⟩) (fun _ => hS) ?_
                rotate_left 1
                · intro u hu
                  go_simp
                  first | done | with_reducible rfl
                go_simp
                refine HP.pure (by kernel_rfl) (i := 9) (v := ?_) rfl (by decide) (by kernel_rfl) (by kernel_rfl) (fun _ _ _ h => h) (Or.inl ⟨by rfl, ?_⟩) (fun _ => hS) ?_
                rotate_left 1
                · intro u hu
                  go_simp
                  first | done | with_reducible rfl
                go_simp
                refine HP.pure (by kernel_rfl) (i := 10) (v := ?_) rfl (by decide) (by kernel_rfl) (by kernel_rfl) (fun _ _ _ h => h) (Or.inl ⟨by rfl, ?_⟩) (fun _ => hS) ?_
                rotate_left 1
                · intro u hu
                  go_simp
                  first | done | with_reducible rfl
                go_simp
                refine HP.take [11] (by kernel_rfl) (i := 11) (v := ?_) rfl (by decide) (by kernel_rfl) (by kernel_rfl) (by kernel_rfl) (fun _ _ _ h => h) (Or.inl ⟨by rfl, ?_⟩) hS ?_
                rotate_left 1
                · intro u hu
                  have q1 := Rw.cell hu 2 _ rfl
                  go_simp
                  first | done | with_reducible rfl
                go_simp
                refine HP.two 6 12 (by kernel_rfl) rfl (by rfl) rfl (by rfl) ?_ ?_
                · refine wp_byteG _ rfl 0 (by with_unfolding_all rfl) ?_
                  intro q6 u6 e6 s6 b6
                  replace H := Lib.hid (H.out.below b6.out)
                  refine ⟨H.out.t.r, ?_⟩
                  have hS := H.out.t.r
                  clear b6 e6
                  refine HP.two 7 12 (by kernel_rfl) rfl (by rfl) rfl (by rfl) ?_ ?_
                  · refine wp_append_byteG (.tmp 130) (.tmp 131) rfl 0 (.slice A1 N' k1) N' bs' (by with_unfolding_all rfl) H.out.t.b _ (some ⟨q6, 0, none⟩) 1 1 [0] (by with_unfolding_all rfl) s6.out (by omega) (Nat.zero_le _) ?_
                    intro A7 k7 u7 o7 g7 v7
                    replace H := Lib.hid (H.out.appB o7.out g7.out v7.out)
                    refine ⟨H.out.t.r, ?_⟩
                    have hS := H.out.t.r
                    clear s6 o7 g7 v7
                    refine HP.one 12 (by kernel_rfl) rfl (by rfl) ?_
                    refine wp_boolS _ rfl false (by with_unfolding_all rfl) ?_
                    intro q12 u12 e12 z12 b12
                    have n12 : Hid ((Value.slice A7 (N' + 1) k7).ownBlock ≠ some q12) := fun hh => by
                      have h1 := (World.ownsRow.lt H.out.t.b _ hh).2
                      have h2 := e12.out
                      omega
                    replace H := Lib.hid (H.out.below b12.out)
                    refine ⟨H.out.t.r, ?_⟩
                    have hS := H.out.t.r
                    clear b12 e12
                    clear n12
                    refine HP.one 13 (by kernel_rfl) rfl (by rfl) ?_
                    refine wp_append_bool (.tmp 136) (.tmp 137) rfl 0 (.slice A2 N' k2) N' zs' (by with_unfolding_all rfl) H.out.t.z q12 false (by with_unfolding_all rfl) z12.out (by omega) (Nat.zero_le _) ?_
                    intro A8 k8 u8 o8 g8 v8
                    replace H := Lib.hid (H.out.appZ o8.out g8.out v8.out)
                    refine ⟨H.out.t.r, ?_⟩
                    have hS := H.out.t.r
                    clear o8 g8 v8 z12
                    refine HP.pure (by kernel_rfl) (i := 14) (v := ?_) rfl (by decide) (by kernel_rfl) (by kernel_rfl) (fun _ _ _ h => h) (Or.inl ⟨by rfl, ?_⟩) (fun _ => hS) ?_
                    rotate_left 1
                    · intro u hu
                      go_simp
                      first | done | with_reducible rfl
                    go_simp
                    refine HP.pure (by kernel_rfl) (i := 15) (v := ?_) rfl (by decide) (by kernel_rfl) (by kernel_rfl) (fun _ _ _ h => h) (Or.inl ⟨by rfl, ?_⟩) (fun _ => hS) ?_
                    rotate_left 1
                    · intro u hu
                      go_simp
                      first | done | with_reducible rfl
                    go_simp
                    refine HP.free 16 (by kernel_rfl) (by kernel_rfl) rfl (by rfl) ?_
                    refine wp_put_cell 30 (.tmp 140) (.tmp 132) rfl g 1 (.slice A7 (N' + 1) k7) (by with_unfolding_all rfl) (by with_unfolding_all rfl) rfl rfl 51 _ H.out.t.r size_slB (by simp) ?_
                    replace H := Lib.hid (H.out.put 1 (.slice A7 (N' + 1) k7))
                    clear hS
                    refine HP.pureF (by kernel_rfl) (i := 17) (v := ?_) (by kernel_rfl) rfl (by decide) (by kernel_rfl) (by kernel_rfl) (fun _ _ _ h => h) (Or.inl ⟨by rfl, ?_⟩) ?_
                    rotate_left 1
                    · intro u hu
                      go_simp
                      first | done | with_reducible rfl
                    go_simp
                    refine HP.pureF (by kernel_rfl) (i := 18) (v := ?_) (by kernel_rfl) rfl (by decide) (by kernel_rfl) (by kernel_rfl) (fun _ _ _ h => h) (Or.inl ⟨by rfl, ?_⟩) ?_
                    rotate_left 1
                    · intro u hu
                      go_simp
                      first | done | with_reducible rfl
                    go_simp
                    refine HP.free 19 (by kernel_rfl) (by kernel_rfl) rfl (by rfl) ?_
                    refine wp_put_cell 49 (.tmp 142) (.tmp 138) rfl g 2 (.slice A8 (N' + 1) k8) (by with_unfolding_all rfl) (by with_unfolding_all rfl) rfl rfl 51 _ H.out.t.r size_slZ (by simp) ?_
                    replace H := Lib.hid (H.out.put 2 (.slice A8 (N' + 1) k8))
                    refine HP.done (by kernel_rfl) ?_
                    go_wp2_with fail
                    go_roundg (t - (N' + 1))
                    case measure => omega
                    case rel => exact ⟨N' + 1, _, _, bs' ++ [0], zs' ++ [false], H, by omega, .inr ⟨by omega, by omega⟩, Nat.le_refl _, HPM⟩
                  · refine wp_boolS _ rfl false (by with_unfolding_all rfl) ?_
                    intro q12 u12 e12 z12 b12
                    have n12 : Hid ((Value.slice A1 N' k1).ownBlock ≠ some q12) := fun hh => by
                      have h1 := (World.ownsRow.lt H.out.t.b _ hh).2
                      have h2 := e12.out
                      omega
                    replace H := Lib.hid (H.out.below b12.out)
                    refine ⟨H.out.t.r, ?_⟩
                    have hS := H.out.t.r
                    replace s6 := Lib.hid ((s6.out.below b12.out).more b12.out.size)
                    clear b12 e12
                    refine HP.one 7 (by kernel_rfl) rfl (by rfl) ?_
                    refine wp_append_byteG (.tmp 130) (.tmp 131) rfl 0 (.slice A1 N' k1) N' bs' (by with_unfolding_all rfl) H.out.t.b _ (some ⟨q6, 0, none⟩) 1 1 [0] (by with_unfolding_all rfl) s6.out (by omega) (Nat.zero_le _) ?_
                    intro A7 k7 u7 o7 g7 v7
                    replace H := Lib.hid (H.out.appB o7.out g7.out v7.out)
                    refine ⟨H.out.t.r, ?_⟩
                    have hS := H.out.t.r
                    have z12' := Lib.hid (cell_grown g7.out z12.out n12.out)
                    clear z12 n12
                    clear s6 o7 g7 v7
                    refine HP.one 13 (by kernel_rfl) rfl (by rfl) ?_
                    refine wp_append_bool (.tmp 136) (.tmp 137) rfl 0 (.slice A2 N' k2) N' zs' (by with_unfolding_all rfl) H.out.t.z q12 false (by with_unfolding_all rfl) z12'.out (by omega) (Nat.zero_le _) ?_
                    intro A8 k8 u8 o8 g8 v8
                    replace H := Lib.hid (H.out.appZ o8.out g8.out v8.out)
                    refine ⟨H.out.t.r, ?_⟩
                    have hS := H.out.t.r
                    clear o8 g8 v8 z12'
                    refine HP.pure (by kernel_rfl) (i := 14) (v := ?_) rfl (by decide) (by kernel_rfl) (by kernel_rfl) (fun _ _ _ h => h) (Or.inl ⟨by rfl, ?_⟩) (fun _ => hS) ?_
                    rotate_left 1
                    · intro u hu
                      go_simp
                      first | done | with_reducible rfl
                    go_simp
                    refine HP.pure (by kernel_rfl) (i := 15) (v := ?_) rfl (by decide) (by kernel_rfl) (by kernel_rfl) (fun _ _ _ h => h) (Or.inl ⟨by rfl, ?_⟩) (fun _ => hS) ?_
                    rotate_left 1
                    · intro u hu
                      go_simp
                      first | done | with_reducible rfl
                    go_simp
                    refine HP.free 16 (by kernel_rfl) (by kernel_rfl) rfl (by rfl) ?_
                    refine wp_put_cell 30 (.tmp 140) (.tmp 132) rfl g 1 (.slice A7 (N' + 1) k7) (by with_unfolding_all rfl) (by with_unfolding_all rfl) rfl rfl 51 _ H.out.t.r size_slB (by simp) ?_
                    replace H := Lib.hid (H.out.put 1 (.slice A7 (N' + 1) k7))
                    clear hS
                    refine HP.pureF (by kernel_rfl) (i := 17) (v := ?_) (by kernel_rfl) rfl (by decide) (by kernel_rfl) (by kernel_rfl) (fun _ _ _ h => h) (Or.inl ⟨by rfl, ?_⟩) ?_
                    rotate_left 1
                    · intro u hu
                      go_simp
                      first | done | with_reducible rfl
                    go_simp
                    refine HP.pureF (by kernel_rfl) (i := 18) (v := ?_) (by kernel_rfl) rfl (by decide) (by kernel_rfl) (by kernel_rfl) (fun _ _ _ h => h) (Or.inl ⟨by rfl, ?_⟩) ?_
                    rotate_left 1
                    · intro u hu
                      go_simp
                      first | done | with_reducible rfl
                    go_simp
                    refine HP.free 19 (by kernel_rfl) (by kernel_rfl) rfl (by rfl) ?_
                    refine wp_put_cell 49 (.tmp 142) (.tmp 138) rfl g 2 (.slice A8 (N' + 1) k8) (by with_unfolding_all rfl) (by with_unfolding_all rfl) rfl rfl 51 _ H.out.t.r size_slZ (by simp) ?_
                    replace H := Lib.hid (H.out.put 2 (.slice A8 (N' + 1) k8))
                    refine HP.done (by kernel_rfl) ?_
                    go_wp2_with fail
                    go_roundg (t - (N' + 1))
                    case measure => omega
                    case rel => exact ⟨N' + 1, _, _, bs' ++ [0], zs' ++ [false], H, by omega, .inr ⟨by omega, by omega⟩, Nat.le_refl _, HPM⟩
                · refine wp_boolS _ rfl false (by with_unfolding_all rfl) ?_
                  intro q12 u12 e12 z12 b12
                  have n12 : Hid ((Value.slice A1 N' k1).ownBlock ≠ some q12) := fun hh => by
                    have h1 := (World.ownsRow.lt H.out.t.b _ hh).2
                    have h2 := e12.out
                    omega
                  replace H := Lib.hid (H.out.below b12.out)
                  refine ⟨H.out.t.r, ?_⟩
                  have hS := H.out.t.r
                  clear b12 e12
                  refine HP.one 6 (by kernel_rfl) rfl (by rfl) ?_
                  refine wp_byteG _ rfl 0 (by with_unfolding_all rfl) ?_
                  intro q6 u6 e6 s6 b6
                  replace H := Lib.hid (H.out.below b6.out)
                  refine ⟨H.out.t.r, ?_⟩
                  have hS := H.out.t.r
                  have z12' := Lib.hid (b6.out.cell (p := ⟨q12, 0, none⟩) (World.block_lt_of_cell? _ _ z12.out) |>.trans z12.out)
                  clear z12
                  clear b6 e6
                  refine HP.one 7 (by kernel_rfl) rfl (by rfl) ?_
                  refine wp_append_byteG (.tmp 130) (.tmp 131) rfl 0 (.slice A1 N' k1) N' bs' (by with_unfolding_all rfl) H.out.t.b _ (some ⟨q6, 0, none⟩) 1 1 [0] (by with_unfolding_all rfl) s6.out (by omega) (Nat.zero_le _) ?_
                  intro A7 k7 u7 o7 g7 v7
                  replace H := Lib.hid (H.out.appB o7.out g7.out v7.out)
                  refine ⟨H.out.t.r, ?_⟩
                  have hS := H.out.t.r
                  have z12'' := Lib.hid (cell_grown g7.out z12'.out n12.out)
                  clear z12' n12
                  clear s6 o7 g7 v7
                  refine HP.one 13 (by kernel_rfl) rfl (by rfl) ?_
                  refine wp_append_bool (.tmp 136) (.tmp 137) rfl 0 (.slice A2 N' k2) N' zs' (by with_unfolding_all rfl) H.out.t.z q12 false (by with_unfolding_all rfl) z12''.out (by omega) (Nat.zero_le _) ?_
                  intro A8 k8 u8 o8 g8 v8
                  replace H := Lib.hid (H.out.appZ o8.out g8.out v8.out)
                  refine ⟨H.out.t.r, ?_⟩
                  have hS := H.out.t.r
                  clear o8 g8 v8 z12''
                  refine HP.pure (by kernel_rfl) (i := 14) (v := ?_) rfl (by decide) (by kernel_rfl) (by kernel_rfl) (fun _ _ _ h => h) (Or.inl ⟨by rfl, ?_⟩) (fun _ => hS) ?_
                  rotate_left 1
                  · intro u hu
                    go_simp
                    first | done | with_reducible rfl
                  go_simp
                  refine HP.pure (by kernel_rfl) (i := 15) (v := ?_) rfl (by decide) (by kernel_rfl) (by kernel_rfl) (fun _ _ _ h => h) (Or.inl ⟨by rfl, ?_⟩) (fun _ => hS) ?_
                  rotate_left 1
                  · intro u hu
                    go_simp
                    first | done | with_reducible rfl
                  go_simp
                  refine HP.free 16 (by kernel_rfl) (by kernel_rfl) rfl (by rfl) ?_
                  refine wp_put_cell 30 (.tmp 140) (.tmp 132) rfl g 1 (.slice A7 (N' + 1) k7) (by with_unfolding_all rfl) (by with_unfolding_all rfl) rfl rfl 51 _ H.out.t.r size_slB (by simp) ?_
                  replace H := Lib.hid (H.out.put 1 (.slice A7 (N' + 1) k7))
                  clear hS
                  refine HP.pureF (by kernel_rfl) (i := 17) (v := ?_) (by kernel_rfl) rfl (by decide) (by kernel_rfl) (by kernel_rfl) (fun _ _ _ h => h) (Or.inl ⟨by rfl, ?_⟩) ?_
                  rotate_left 1
                  · intro u hu
                    go_simp
                    first | done | with_reducible rfl
                  go_simp
                  refine HP.pureF (by kernel_rfl) (i := 18) (v := ?_) (by kernel_rfl) rfl (by decide) (by kernel_rfl) (by kernel_rfl) (fun _ _ _ h => h) (Or.inl ⟨by rfl, ?_⟩) ?_
                  rotate_left 1
                  · intro u hu
                    go_simp
                    first | done | with_reducible rfl
                  go_simp
                  refine HP.free 19 (by kernel_rfl) (by kernel_rfl) rfl (by rfl) ?_
                  refine wp_put_cell 49 (.tmp 142) (.tmp 138) rfl g 2 (.slice A8 (N' + 1) k8) (by with_unfolding_all rfl) (by with_unfolding_all rfl) rfl rfl 51 _ H.out.t.r size_slZ (by simp) ?_
                  replace H := Lib.hid (H.out.put 2 (.slice A8 (N' + 1) k8))
                  refine HP.done (by kernel_rfl) ?_
                  go_wp2_with fail
                  go_roundg (t - (N' + 1))
                  case measure => omega
                  case rel => exact ⟨N' + 1, _, _, bs' ++ [0], zs' ++ [false], H, by omega, .inr ⟨by omega, by omega⟩, Nat.le_refl _, HPM⟩
              · have hNt1 : ¬ ((N' : Int) < (t : Int)) := by omega
                go_wp2_with fail
                go_loopg [11] n (fun kx s11 wr => ∃ (j : Nat) (bs3 : List UInt8) (zs3 : List Bool), s11 = .int .i64 (j : Int) ∧ j ≤ n ∧ n - j ≤ kx ∧ Hid (St w F wr g [.int .i64 (most : Int), .slice A1 N' k1, .slice A2 N' k2, .int .i64 y, .int .i64 (s.rd : Int)] (.slice A1 N' k1) (.slice A2 N' k2) N' N' bs3 zs3) ∧ Hid (∀ i, i < N' → pxV s.p o l (o + j) i = if zs3.getD i false = true then some (bs3.getD i 0) else none))
                case atStart => exact ⟨0, bs', zs', rfl, Nat.zero_le _, by omega, H, fun i hi => by
                  have e : pxV s.p o l (o + 0) i = s.p i := by unfold pxV; rw [if_neg (by omega)]
                  rw [e]
                  exact HP'.out i hi⟩
                case round =>
                  clear H HP' d1 d2
                  obtain ⟨j, bs3, zs3, rfl, hj, hk3, H, HP3⟩ := hrel
                  have d1 := H.out.t.r.cell 1 _ rfl
                  have d2 := H.out.t.r.cell 2 _ rfl
                  by_cases hjn : j < n
                  · have hjl : ((j : Int) < (n : Int)) := by omega
                    obtain ⟨i, hi⟩ : ∃ i, o + j = i := ⟨_, rfl⟩
                    have hij : ((o : Int) + (j : Int)) = (i : Int) := by omega
                    have hiN : i < N' := by omega
                    have hiN1 : ((i : Int) < (N' : Int)) := by omega
                    have bi : (i : Int) ≤ 1048576 := by omega
                    have bj : (j : Int) ≤ 1048576 := by omega
                    have hwi : IntKind.i64.wrap (i : Int) = (i : Int) := by rw [IntKind.wrap_i64]; omega
                    obtain ⟨gb, rfl, _, _⟩ := H.out.t.b.at_ (by omega)
                    obtain ⟨gz, rfl, _⟩ := H.out.t.z.at_ (by omega)
                    have hsl := H.out.m.sl HSl.out HA.out
                    obtain ⟨bd, od, rfl, hbd, _⟩ := hsl.2 (by omega)
                    have dc := hsl.cellD j (by rw [HLL.out]; exact hjn)
                    obtain ⟨yb, hyb⟩ : ∃ yb, l.getD j 0 = yb := ⟨_, rfl⟩
                    rw [hyb] at dc
                    have HPX := px_set HP3.out (by omega) H.out.t.b.len H.out.t.z.len
                    rw [hyb, hi] at HPX
                    have HP4 := Lib.hid HPX
                    clear HPX hsl hyb hi HP3
                    go_wp2_with fail
                    refine wp_part (n := 19) (S := fun u => u = wr.drew) (by kernel_rfl) ?_
                    replace H := Lib.hid (H.out.below (⟨rfl, rfl, rfl, Nat.le_refl _, fun _ _ => rfl⟩ : Below wr.heap.size wr wr.drew))
                    have hS : wr.drew = wr.drew := rfl
                    refine HP.pure (by kernel_rfl) (i := 0) (v := ?_) rfl (by decide) (by kernel_rfl) (by kernel_rfl) (fun _ _ _ h => h) (Or.inl ⟨by rfl, ?_⟩) (fun _ => hS) ?_
                    rotate_left 1
                    · intro u hu
                      go_simp
                      first | done | with_reducible rfl
                    go_simp
                    refine HP.pure (by kernel_rfl) (i := 1) (v := ?_) rfl (by decide) (by kernel_rfl) (by kernel_rfl) (fun _ _ _ h => h) (Or.inl ⟨by rfl, ?_⟩) (fun _ => hS) ?_
                    rotate_left 1
                    · intro u hu
                      go_simp
                      first | done | with_reducible rfl
                    go_simp
                    refine HP.pure (by kernel_rfl) (i := 2) (v := ?_) rfl (by decide) (by kernel_rfl) (by kernel_rfl) (fun _ _ _ h => h) (Or.inl ⟨by rfl, ?_⟩) (fun _ => hS) ?_
                    rotate_left 1
                    · intro u hu
                      go_simp
                      first | done | with_reducible rfl
                    go_simp
                    refine HP.take [3] (by kernel_rfl) (i := 3) (v := ?_) rfl (by decide) (by kernel_rfl) (by kernel_rfl) (by kernel_rfl) (fun _ _ _ h => h) (Or.inl ⟨by rfl, ?_⟩) hS ?_
                    rotate_left 1
                    · intro u hu
                      subst hu
                      go_simp
                      first | done | with_reducible rfl
                    go_simp
                    refine HP.pure (by kernel_rfl) (i := 4) (v := ?_) rfl (by decide) (by kernel_rfl) (by kernel_rfl) (fun _ _ _ h => h) (Or.inl ⟨by rfl, ?_⟩) (fun _ => hS) ?_
                    rotate_left 1
                    · intro u hu
                      go_simp
                      first | done | with_reducible rfl
                    go_simp
                    refine HP.pure (by kernel_rfl) (i := 5) (v := ?_) rfl (by decide) (by kernel_rfl) (by kernel_rfl) (fun _ _ _ h => h) (Or.inl ⟨by rfl, ?_⟩) (fun _ => hS) ?_
                    rotate_left 1
                    · intro u hu
                      go_simp
                      first | done | with_reducible rfl
                    go_simp
                    refine HP.pure (by kernel_rfl) (i := 6) (v := ?_) rfl (by decide) (by kernel_rfl) (by kernel_rfl) (fun _ _ _ h => h) (Or.inl ⟨by rfl, ?_⟩) (fun _ => hS) ?_
                    rotate_left 1
                    · intro u hu
                      go_simp
                      first | done | with_reducible rfl
                    go_simp
                    refine HP.pure (by kernel_rfl) (i := 7) (v := ?_) rfl (by decide) (by kernel_rfl) (by kernel_rfl) (fun _ _ _ h => h) (Or.inl ⟨by rfl, ?_⟩) (fun _ => hS) ?_
                    rotate_left 1
                    · intro u hu
                      go_simp
                      first | done | with_reducible rfl
                    go_simp
                    refine HP.pure (by kernel_rfl) (i := 8) (v := ?_) rfl (by decide) (by kernel_rfl) (by kernel_rfl) (fun _ _ _ h => h) (Or.inl ⟨by rfl, ?_⟩) (fun _ => hS) ?_
                    rotate_left 1
                    · intro u hu
                      go_simp
                      first | done | with_reducible rfl
                    go_simp
                    refine HP.pure (by kernel_rfl) (i := 9) (v := ?_) rfl (by decide) (by kernel_rfl) (by kernel_rfl) (fun _ _ _ h => h) (Or.inl ⟨by rfl, ?_⟩) (fun _ => hS) ?_
                    rotate_left 1
                    · intro u hu
                      go_simp
                      first | done | with_reducible rfl
                    go_simp
                    refine HP.take [10] (by kernel_rfl) (i := 10) (v := ?_) rfl (by decide) (by kernel_rfl) (by kernel_rfl) (by kernel_rfl) (fun _ _ _ h => h) (Or.inl ⟨by rfl, ?_⟩) hS ?_
                    rotate_left 1
                    · intro u hu
                      subst hu
                      go_simp
                      first | done | with_reducible rfl
                    go_simp
                    refine HP.pure (by kernel_rfl) (i := 11) (v := ?_) rfl (by decide) (by kernel_rfl) (by kernel_rfl) (fun _ _ _ h => h) (Or.inl ⟨by rfl, ?_⟩) (fun _ => hS) ?_
                    rotate_left 1
                    · intro u hu
                      go_simp
                      first | done | with_reducible rfl
                    go_simp
                    refine HP.pure (by kernel_rfl) (i := 12) (v := ?_) rfl (by decide) (by kernel_rfl) (by kernel_rfl) (fun _ _ _ h => h) (Or.inl ⟨by rfl, ?_⟩) (fun _ => hS) ?_
                    rotate_left 1
                    · intro u hu
                      go_simp
                      first | done | with_reducible rfl
                    go_simp
                    refine HP.pure (by kernel_rfl) (i := 13) (v := ?_) rfl (by decide) (by kernel_rfl) (by kernel_rfl) (fun _ _ _ h => h) (Or.inl ⟨by rfl, ?_⟩) (fun _ => hS) ?_
                    rotate_left 1
                    · intro u hu
                      go_simp
                      first | done | with_reducible rfl
                    go_simp
                    refine HP.pure (by kernel_rfl) (i := 14) (v := ?_) rfl (by decide) (by kernel_rfl) (by kernel_rfl) (fun _ _ _ h => h) (Or.inl ⟨by rfl, ?_⟩) (fun _ => hS) ?_
                    rotate_left 1
                    · intro u hu
                      go_simp
                      first | done | with_reducible rfl
                    go_simp
                    refine HP.pure (by kernel_rfl) (i := 15) (v := ?_) rfl (by decide) (by kernel_rfl) (by kernel_rfl) (fun _ _ _ h => h) (Or.inl ⟨by rfl, ?_⟩) (fun _ => hS) ?_
                    rotate_left 1
                    · intro u hu
                      go_simp
                      first | done | with_reducible rfl
                    go_simp
                    refine HP.pure (by kernel_rfl) (i := 16) (v := ?_) rfl (by decide) (by kernel_rfl) (by kernel_rfl) (fun _ _ _ h => h) (Or.inl ⟨by rfl, ?_⟩) (fun _ => hS) ?_
                    rotate_left 1
                    · intro u hu
                      go_simp
                      first | done | with_reducible rfl
                    go_simp
                    refine HP.take [17] (by kernel_rfl) (i := 17) (v := ?_) rfl (by decide) (by kernel_rfl) (by kernel_rfl) (by kernel_rfl) (fun _ _ _ h => h) (Or.inl ⟨by rfl, ?_⟩) hS ?_
                    rotate_left 1
                    · intro u hu
                      subst hu
                      go_simp
                      first | done | with_reducible rfl
                    go_simp
                    refine HP.pure (by kernel_rfl) (i := 18) (v := ?_) rfl (by decide) (by kernel_rfl) (by kernel_rfl) (fun _ _ _ h => h) (Or.inl ⟨by rfl, ?_⟩) (fun _ => hS) ?_
                    rotate_left 1
                    · intro u hu
                      go_simp
                      first | done | with_reducible rfl
                    go_simp
                    refine HP.free 19 (by kernel_rfl) (by kernel_rfl) rfl (by rfl) ?_
                    obtain ⟨vsb, rb, lb⟩ := owns_rw H.out.t.b
                    refine wp_put_cell 5 (.tmp 167) (.tmp 166) rfl gb i (.int .u8 (bn yb)) (by with_unfolding_all rfl) (by with_unfolding_all rfl) rfl rfl 5 vsb rb size1 (by omega) ?_
                    replace H := Lib.hid (H.out.setB i yb)
                    clear rb lb hS
                    refine HP.pureF (by kernel_rfl) (i := 20) (v := ?_) (by kernel_rfl) rfl (by decide) (by kernel_rfl) (by kernel_rfl) (fun _ _ _ h => h) (Or.inl ⟨by rfl, ?_⟩) ?_
                    rotate_left 1
                    · intro u hu
                      go_simp
                      first | done | with_reducible rfl
                    go_simp
                    refine HP.free 21 (by kernel_rfl) (by kernel_rfl) rfl (by rfl) ?_
                    obtain ⟨vsz, rz, lz⟩ := owns_rw H.out.t.z
                    refine wp_put_cell 4 (.tmp 168) _ rfl gz i (.bool true) (by with_unfolding_all rfl) (by with_unfolding_all rfl) rfl rfl 4 vsz rz size_bool (by omega) ?_
                    replace H := Lib.hid (H.out.setZ i true)
                    clear rz lz
                    refine HP.done (by kernel_rfl) ?_
                    go_wp2_with fail
                    go_roundg (n - (j + 1))
                    case measure => omega
                    case rel => exact ⟨j + 1, _, _, by go_num, by omega, Nat.le_refl _, H, HP4⟩
                  · have hjl : ¬ ((j : Int) < (n : Int)) := by omega
                    obtain rfl : n = j := by omega
                    have d3 := H.out.t.r.cell 3 _ rfl
                    have f3 := H.out.t.r.frozen 3
                    have hhi : (putS s o l e).hi = N' := by
                      have e1 : (putS s o l e).hi = if l.length = 0 then s.hi else max s.hi (o + l.length) := rfl
                      rw [e1, HLL.out, HN.out, HTT.out]
                      split <;> omega
                    have hp : ∀ i, i < N' → (putS s o l e).p i = if zs3.getD i false = true then some (bs3.getD i 0) else none := fun i hi => by
                      have e1 : (putS s o l e).p i = if o ≤ i ∧ i < o + l.length then some (l.getD (i - o) 0) else s.p i := rfl
                      rw [e1, HLL.out, ← HP3.out i hi]
                      rfl
                    have HHI := Lib.hid hhi
                    have HPP := Lib.hid hp
                    clear hhi hp HP3
                    cases e
                    · have HR : Hid (RPutW w F g most s (o : Int) l false (.returned (.int .i64 (0 : Int))) wr) := ⟨0, _, rfl, HYS.out.1, st_ref H.out _ HHI.out HY.out rfl HPP.out HYS.out.2 hmo, H.out.m⟩
                      go_wp2_with fail
                      go_ret
                      exact HR.out
                    · have H2 := H.out.put 3 (.int .i64 (t : Int))
                      have HR : Hid (RPutW w F g most s (o : Int) l true (.returned (.int .i64 (0 : Int))) (wr.setCell ⟨g, 3, none⟩ (.int .i64 (t : Int)))) := ⟨0, _, rfl, HYS.out.1, st_ref H2 _ HHI.out (enI_some (by rw [put_en, if_pos rfl, HLL.out, HTT.out])) rfl HPP.out HYS.out.2 hmo, H2.m⟩
                      clear H2
                      go_wp2_with fail
                      go_ret
                      exact HR.out
            · have hn1 : ¬ ((0 : Int) < (n : Int)) := by omega
              go_wp2_with fail
              go_loopg [11] n (fun kx s11 wr => ∃ (j : Nat) (bs3 : List UInt8) (zs3 : List Bool), s11 = .int .i64 (j : Int) ∧ j ≤ n ∧ n - j ≤ kx ∧ Hid (St w F wr g [.int .i64 (most : Int), .slice A1 N' k1, .slice A2 N' k2, .int .i64 y, .int .i64 (s.rd : Int)] (.slice A1 N' k1) (.slice A2 N' k2) N' N' bs3 zs3) ∧ Hid (∀ i, i < N' → pxV s.p o l (o + j) i = if zs3.getD i false = true then some (bs3.getD i 0) else none))
              case atStart => exact ⟨0, bs', zs', rfl, Nat.zero_le _, by omega, H, fun i hi => by
                have e : pxV s.p o l (o + 0) i = s.p i := by unfold pxV; rw [if_neg (by omega)]
                rw [e]
                exact HP'.out i hi⟩
              case round =>
                clear H HP' d1 d2
                obtain ⟨j, bs3, zs3, rfl, hj, hk3, H, HP3⟩ := hrel
                have d1 := H.out.t.r.cell 1 _ rfl
                have d2 := H.out.t.r.cell 2 _ rfl
                by_cases hjn : j < n
                · exact absurd hjn (by omega)
                · have hjl : ¬ ((j : Int) < (n : Int)) := by omega
                  obtain rfl : n = j := by omega
                  have d3 := H.out.t.r.cell 3 _ rfl
                  have f3 := H.out.t.r.frozen 3
                  have hhi : (putS s o l e).hi = N' := by
                    have e1 : (putS s o l e).hi = if l.length = 0 then s.hi else max s.hi (o + l.length) := rfl
                    rw [e1, HLL.out, HN.out, HTT.out]
                    split <;> omega
                  have hp : ∀ i, i < N' → (putS s o l e).p i = if zs3.getD i false = true then some (bs3.getD i 0) else none := fun i hi => by
                    have e1 : (putS s o l e).p i = if o ≤ i ∧ i < o + l.length then some (l.getD (i - o) 0) else s.p i := rfl
                    rw [e1, HLL.out, ← HP3.out i hi]
                    rfl
                  have HHI := Lib.hid hhi
                  have HPP := Lib.hid hp
                  clear hhi hp HP3
                  cases e
                  · have HR : Hid (RPutW w F g most s (o : Int) l false (.returned (.int .i64 (0 : Int))) wr) := ⟨0, _, rfl, HYS.out.1, st_ref H.out _ HHI.out HY.out rfl HPP.out HYS.out.2 hmo, H.out.m⟩
                    go_wp2_with fail
                    go_ret
                    exact HR.out
                  · have H2 := H.out.put 3 (.int .i64 (t : Int))
                    have HR : Hid (RPutW w F g most s (o : Int) l true (.returned (.int .i64 (0 : Int))) (wr.setCell ⟨g, 3, none⟩ (.int .i64 (t : Int)))) := ⟨0, _, rfl, HYS.out.1, st_ref H2 _ HHI.out (enI_some (by rw [put_en, if_pos rfl, HLL.out, HTT.out])) rfl HPP.out HYS.out.2 hmo, H2.m⟩
                    clear H2
                    go_wp2_with fail
                    go_ret
                    exact HR.out
end Go.Proofs.YtocolaccgoochaaDoor
