/-
  Package income: keep.
-/
import Derived.Test.YtocolaccgoochaaDoorInC
namespace Go.Proofs.YtocolaccgoochaaDoor
open Go.RowKit Go.Lib Go.Maps Go.Shelf
set_option linter.unusedVariables false
attribute [local go_sem] Oper.semAt_some

/-- a page that nothing came of -/
def zC : Array Value := (Value.int .u64 (qn 0) :: bvs zPg).toArray
theorem zero_page (u : World) : (zeroValue 62).run Tryd.prog u = .ok (.agg zC) u := by kernel_rfl
theorem Only.below' {g B : Nat} {w w' : World} (h : Only g w w') (hB : B ≤ w.heap.size) (hg : B ≤ g) : Below B w w' := h.below hB hg
set_option maxHeartbeats 4000000 in
set_option maxRecDepth 8000 in
theorem ikeep_any {w : World} {F : Nat → Prop} {g b N o n c : Nat} {M : Nat → Option Nat} {p : Nat → Option UInt8} {A : Option Addr} {l : List UInt8}
    (hc : w.cell? ⟨g, 1, none⟩ = some (.map (some b))) (hgF : ¬ F g) (hp : PagesW w F b N M p) (hs : Sl w w.heap.size A n l) (hA : 0 < n → ∀ a, A = some a → ¬ F a.block) (hnc : n ≤ c) (hon : o + n ≤ 1048576) (hN : N + n ≤ 1073741824) :
    Calls Tryd.prog 30 #[.pointer (some ⟨g, 0, none⟩), .int .i64 (o : Int), .slice A n c] w fun e w' => e = .returned (.tuple #[]) ∧ Mvd F w w' ∧
      ∃ M', PagesW w' (fun k => F k ∨ (w.heap.size ≤ k ∧ k < w'.heap.size)) b (N + n) M' (pxV p o l (o + n)) := by
  have hl := hs.len
  have hgl := World.block_lt_of_cell? w _ hc
  have HS := Lib.hid hs
  have HP := Lib.hid hp
  have HC := Lib.hid hc
  have HA := Lib.hid hA
  have HG := Lib.hid hgF
  have hbl := hp.ltb
  have HPC : Hid (∀ u : World, Calls Tryd.prog 32 #[.int .i64 (o : Int), .int .i64 ((o + n : Nat) : Int)] u fun e w' =>
    e = .returned (.func (.func 36) #[] #[.pointer (some ⟨u.heap.size, 0, none⟩), .pointer (some ⟨u.heap.size + 1, 0, none⟩)]) ∧
      w' = (u.alloc (.cells #[.int .i64 (o : Int)] 3)).alloc (.cells #[.int .i64 ((o + n : Nat) : Int)] 3)) := fun u => pieces_any u _ _
  obtain ⟨h, hh⟩ : ∃ h, o + n = h := ⟨_, rfl⟩
  rw [hh] at HPC
  rw [hh]
  have e1 : (o : Int) + (n : Int) = (h : Int) := by omega
  have b1 : (o : Int) ≤ 1048576 := by omega
  have b2 : (n : Int) ≤ 1048576 := by omega
  clear hs hp hc hA hgF
  refine (callsIn_wide (n := 0)).1 ?_
  refine callsIn_of_wp_marks Tryd.func30 rfl trivial ?_ rfl
  simp only [Tryd.ntmps30, List.size_toArray, List.length_cons, List.length_nil, Nat.reduceAdd, Nat.reduceSub, Array.replicate_succ, Array.replicate_zero, List.push_toArray, List.append_toArray, List.nil_append, List.cons_append]
  gi_wp2
  refine ⟨trivial, rfl, (callsIn_wide.2 (HPC.out _)).mono ?_⟩
  rintro e2 w1 ⟨rfl, rfl⟩
  gi_wp2
  refine wpIn_pieces (b1 := w.heap.size + 1 + 1 + 1) (b2 := w.heap.size + 1 + 1 + 1 + 1) (lo := o) (hi := h) ?hg rfl (by omega) (by omega) (by omega) ?h1 ?h2
    (fun x W => Mvd F w W ∧ Rw W w.heap.size 24 [.pointer (some ⟨g, 0, none⟩)] ∧ Rw W (w.heap.size + 1) 3 [.int .i64 (o : Int)] ∧ Rw W (w.heap.size + 1 + 1) 30 [.slice A n c] ∧ ∃ M', PagesW W (fun k => (F k ∧ k < w.heap.size) ∨ w.heap.size + 5 ≤ k) b (N + (x - o)) M' (pxV p o l x))
    (fun cd W => False)
    ?hI ?hIx ?h0 ?hround ?hdone ?hstop
  case hg => rfl
  case h1 =>
    refine Rw.alloc ?_ _
    have h := heap_alloc_new (((w.alloc (.cells #[.pointer (some ⟨g, 0, none⟩)] 24)).alloc (.cells #[.int .i64 (o : Int)] 3)).alloc (.cells #[.slice A n c] 30)) (.cells #[.int .i64 (o : Int)] 3)
    simp only [World.size_alloc] at h
    exact h
  case h2 =>
    have h := heap_alloc_new ((((w.alloc (.cells #[.pointer (some ⟨g, 0, none⟩)] 24)).alloc (.cells #[.int .i64 (o : Int)] 3)).alloc (.cells #[.slice A n c] 30)).alloc (.cells #[.int .i64 (o : Int)] 3)) (.cells #[.int .i64 (h : Int)] 3)
    simp only [World.size_alloc] at h
    exact h
  case hI =>
    rintro s W W' row ⟨hbl, r0, r1, r2, M', hp⟩ hg hr
    have hlt : ∀ r, row = some r → w.heap.size + 1 + 1 < r ∧ (r < w.heap.size + 5 ∨ ∃ o : Obj, W.heap[r]? = some o ∧ o.isCells = false) := fun r e => by
      rcases hr r e with h | ⟨h, h'⟩
      · omega
      · simp at h
        exact ⟨by omega, .inr h'⟩
    refine ⟨hbl.grown hg (fun k e h => by have := hlt k e; omega), r0.turned hg (fun e => by have := hlt _ e.symm; omega), r1.turned hg (fun e => by have := hlt _ e.symm; omega), r2.turned hg (fun e => by have := hlt _ e.symm; omega), M', hp.kept hg (fun e => by have := hlt _ e.symm; omega) (fun k x hx e => ?_)⟩
    obtain ⟨hF1, hne, q, d, hpg, _⟩ := hp.pg k x hx
    obtain ⟨h1, h2⟩ := hlt x e.symm
    rcases h2 with h2 | ⟨o', ho', hc'⟩
    · rcases hF1 with hF1 | hF1 <;> omega
    · have := hpg.1
      have e2 : W.heap[x]? = some (.cells _ _ _) := this
      rw [ho'] at e2
      injection e2 with e2
      subst e2
      cases hc'
  case hIx => exact fun _ _ _ _ h _ _ => h
  case h0 =>
    have hbw : Below w.heap.size w (((((w.alloc (.cells #[.pointer (some ⟨g, 0, none⟩)] 24)).alloc (.cells #[.int .i64 (o : Int)] 3)).alloc (.cells #[.slice A n c] 30)).alloc (.cells #[.int .i64 (o : Int)] 3)).alloc (.cells #[.int .i64 (h : Int)] 3)) :=
      (((((Below.refl _ w).alloc (Nat.le_refl _) _).alloc (by simp) _).alloc (by simp; omega) _).alloc (by simp; omega) _).alloc (by simp; omega) _
    refine ⟨Mvd.of_below hbw, ?_, ?_, ?_, M, ?_⟩
    · exact Rw.alloc (Rw.alloc (Rw.alloc (Rw.alloc (heap_alloc_new w _) _) _) _) _
    · have h := heap_alloc_new (w.alloc (.cells #[.pointer (some ⟨g, 0, none⟩)] 24)) (.cells #[.int .i64 (o : Int)] 3)
      simp only [World.size_alloc] at h
      exact Rw.alloc (Rw.alloc (Rw.alloc h _) _) _
    · have h := heap_alloc_new ((w.alloc (.cells #[.pointer (some ⟨g, 0, none⟩)] 24)).alloc (.cells #[.int .i64 (o : Int)] 3)) (.cells #[.slice A n c] 30)
      simp only [World.size_alloc] at h
      exact Rw.alloc (Rw.alloc h _) _
    · refine ((HP.out.mono (N' := N + (o - o)) (F' := fun k => (F k ∧ k < w.heap.size) ∨ w.heap.size + 5 ≤ k) (by omega) (fun k h1 h2 => .inl ⟨h2, h1⟩)).below hbw).cong (fun i => ?_)
      unfold pxV
      rw [if_neg (by omega)]
  case hround =>
    intro m lp x W hox hxh hsz
    gi_wp2
    refine ⟨trivial, ?_⟩
    rintro W2 ⟨hmv, r0, r1, r2, M', hp2⟩ hsz2
    simp only [World.size_alloc] at hsz2
    have c0 := Rw.cell r0 0 _ rfl
    have c1 := Rw.cell r1 0 _ rfl
    have c2 := Rw.cell r2 0 _ rfl
    have cg : W2.cell? ⟨g, 1, none⟩ = some (.map (some b)) := hmv.cell HC.out HG.out
    have HMV := Lib.hid hmv
    have HP2 := Lib.hid hp2
    have HS2 := Lib.hid (hmv.sl HS.out HA.out)
    have R0 := Lib.hid r0
    have R1 := Lib.hid r1
    have R2 := Lib.hid r2
    obtain ⟨k, hk⟩ : ∃ k, x / 64 = k := ⟨_, rfl⟩
    have ek : (x : Int) / 64 = (k : Int) := by omega
    have hlook := HP2.out.look k (by omega)
    obtain ⟨z, hz⟩ : ∃ z, cutP h x = z := ⟨_, rfl⟩
    have hzb : x < z ∧ z ≤ h := by rw [← hz]; exact cutP_gt hxh
    have hz64 : z ≤ 64 * k + 64 := by rw [← hz]; unfold cutP; omega
    obtain ⟨r, hr⟩ : ∃ r, x % 64 = r := ⟨_, rfl⟩
    have er : (x : Int) % 64 = (r : Int) := by omega
    obtain ⟨a, ha⟩ : ∃ a, x - o = a := ⟨_, rfl⟩
    have ea : (x : Int) - (o : Int) = (a : Int) := by omega
    obtain ⟨v, hv⟩ : ∃ v, z - o = v := ⟨_, rfl⟩
    have ev : (z : Int) - (o : Int) = (v : Int) := by omega
    obtain ⟨A', hsl, hsx⟩ := sl_piece A (a := a) (b := v) (n := n) (by omega) (by omega) hnc
    have HSX := Lib.hid hsx
    have hs' := hsx _ _ _ HS2.out
    clear hsx
    have hxb : (x : Int) ≤ 1048576 := by omega
    have hzb' : (z : Int) ≤ 1048576 := by omega
    have hrv : Hid (0 < v - a ∧ r + (v - a) ≤ 64) := ⟨by omega, by omega⟩
    have HS' := Lib.hid hs'
    have HK := Lib.hid hk
    have HR := Lib.hid hr
    have HAo := Lib.hid ha
    have HV := Lib.hid hv
    have HZB := Lib.hid hzb
    have HZ6 := Lib.hid hz64
    have hbK : Hid (∀ i, i / 64 ≠ k → pxV p o l z i = pxV p o l x i) := fun i hi => by
      unfold pxV
      by_cases c2 : o ≤ i ∧ i < x
      · rw [if_pos c2, if_pos (by omega)]
      · rw [if_neg c2, if_neg (by omega)]
    rw [hz]
    clear hs' hz hzb hz64 hk hr ha hv hmv hp2 r0 r1 r2
    cases hM : M' k with
    | none =>
      rw [hM] at hlook
      have hlook' : (Instr.lookup 46 (.map (some b)) (.int .i64 (k : Int)) false).run Tryd.prog W2 = .ok (.pointer none) W2 := hlook
      clear hlook
      obtain ⟨nn, D, hnn, hown, hat⟩ := HP2.out.own
      have hnm : nn < maxLen := by
        have := HZB.out
        unfold maxLen
        omega
      have HOWN := Lib.hid hown
      have HNN := Lib.hid hnm
      have HAT := Lib.hid hat
      have HN1 := Lib.hid hnn
      have hkb : (k : Int) ≤ 1048576 := by
        have := HK.out
        omega
      have hwf : (Lit.int .i64 (k : Int)).wf = true := wf_of (by omega) (by omega)
      have hzv := zero_page
      have hbb := (Below.refl W2.heap.size W2).alloc (Nat.le_refl _) (.cells zC 62)
      have c0a : (W2.alloc (.cells zC 62)).cell? ⟨w.heap.size, 0, none⟩ = some (.pointer (some ⟨g, 0, none⟩)) := Rw.cell (R0.out.alloc _) 0 _ rfl
      have cga : (W2.alloc (.cells zC 62)).cell? ⟨g, 1, none⟩ = some (.map (some b)) := (hbb.cell (p := ⟨g, 1, none⟩) (by show g < W2.heap.size; omega)).trans cg
      have hneb : Hid (some (w.heap.size + 1) ≠ some b ∧ some (w.heap.size + 1 + 1) ≠ some b ∧ some w.heap.size ≠ some b) := ⟨fun e => by injection e; omega, fun e => by injection e; omega, fun e => by injection e; omega⟩
      clear hown hnm hat hnn hbb
      gi_wp2_with (gi_at_mapUpdate; refine wpListIn_mapUpdate_own _ rfl _ _ _ 46 rfl 3 58 lawK Tryd.underlying46 ptrR b nn D rfl (HOWN.out.alloc _) HNN.out _ _ _ rfl rfl (keyI hwf) (pgD (some W2.heap.size)) [] (ptrR_of _) ?_; intro w3 hown3 hgrow3; have c1w := Rw.cell (Rw.turned (R1.out.alloc (.cells zC 62)) hgrow3 hneb.out.1) 0 _ rfl; have c2w := Rw.cell (Rw.turned (R2.out.alloc (.cells zC 62)) hgrow3 hneb.out.2.1) 0 _ rfl)
      have hF1 : (F W2.heap.size ∧ W2.heap.size < w.heap.size) ∨ w.heap.size + 5 ≤ W2.heap.size := .inr (by omega)
      obtain ⟨hA1, hPg⟩ := PagesW.add HP2.out hM rfl hF1 rfl HN1.out HAT.out HOWN.out.isMap hown3 hgrow3
      have hgm : W2.heap.size ≠ b := by have := HP2.out.ltb; omega
      have hbb : Below W2.heap.size W2 (W2.alloc (.cells zC 62)) := (Below.refl _ W2).alloc (Nat.le_refl _) _
      have hmv3 : Mvd F w w3 := (HMV.out.grown (World.grownBy_alloc W2 (.cells zC 62) none) (fun r e => by cases e)).grown hgrow3 (fun r e h => by
        injection e with e
        subst e
        exact HP.out.fb)
      have hlen3 := hgrow3.size
      rw [World.size_alloc] at hlen3
      have hk3 : KeepsR (w.heap.size + 5) (w.heap.size + 1 + 1 + 1) (w.heap.size + 1 + 1 + 1 + 1) W2 w3 := (KeepsR.below hbb (by omega) (by omega)).trans (KeepsR.only (Only.of_grown hgrow3) (.inl (by omega)) (by rw [World.size_alloc]; omega) (by rw [World.size_alloc]; omega) (by omega) (by omega))
      have hs3 : Sl w3 w3.heap.size A' (v - a) ((l.drop a).take (v - a)) := HSX.out _ _ _ (hmv3.sl HS.out HA.out)
      have hpk := pkeep_any (c := c - a) hPg hs3 hrv.out.1 hrv.out.2
      have HPK := Lib.hid hpk
      have HA1 := Lib.hid hA1
      have HM3 := Lib.hid hmv3
      have HK3 := Lib.hid hk3
      have HPg := Lib.hid hPg
      have HG3 := Lib.hid hgrow3
      clear hpk hA1 hmv3 hk3 hPg hs3 hown3 hgrow3 hbb
      refine ⟨trivial, fun h => by (cases h), (CallsIn.inRound lp (callsIn_wide.2 HPK.out)).mono ?_⟩
      rintro e4 w4 ⟨rfl, hP4, hO4⟩
      have HP4 := Lib.hid hP4
      have HO4 := Lib.hid hO4
      clear hP4 hO4
      gi_wp2
      have hl4 := HO4.out.size
      have hz1 := HZB.out
      have hz6 := HZ6.out
      have hwb := HK.out
      have hr0 := Rw.turned (R0.out.alloc (.cells zC 62)) HG3.out hneb.out.2.2
      have hr1 := Rw.turned (R1.out.alloc (.cells zC 62)) HG3.out hneb.out.1
      have hr2 := Rw.turned (R2.out.alloc (.cells zC 62)) HG3.out hneb.out.2.1
      have hkr := HK3.out.trans (KeepsR.only HO4.out (.inr ⟨_, HPg.out.1, rfl⟩) (by omega) (by omega) (by omega) (by omega))
      refine ⟨by simp only [World.size_alloc]; exact hkr, HM3.out.only HO4.out (fun h => by omega), hr0.only HO4.out (by omega), hr1.only HO4.out (by omega), hr2.only HO4.out (by omega), _, ((HA1.out.upd (k := k) (by simp) HP4.out HO4.out (fun j hj => ?_) hbK.out).mono (by omega) (fun _ _ h => h))⟩
      have hq0 : ∀ j, j < 64 → pxV p o l x (64 * k + j) = if bitQ 0 j = true then some (zPg.getD j 0) else none := fun j hj => by rw [HP2.out.no k hM j hj, bit_zero]; rfl
      have := page_put (t := z) (by simp [zPg]) hq0 hwb hox hz1.1 hz6 (by omega) hj
      rw [this, HR.out, HAo.out, show v - a = z - x by have := HV.out; have := HAo.out; omega]
    | some pg =>
      rw [hM] at hlook
      have hlook' : (Instr.lookup 46 (.map (some b)) (.int .i64 (k : Int)) false).run Tryd.prog W2 = .ok (.pointer (some ⟨pg, 0, none⟩)) W2 := hlook
      clear hlook
      obtain ⟨hF2, hne2, q, d, hpg, hq⟩ := HP2.out.pg k pg hM
      have HPK := Lib.hid (pkeep_any (c := c - a) hpg HS'.out hrv.out.1 hrv.out.2)
      have HPg := Lib.hid hpg
      have HQ := Lib.hid hq
      clear hpg hq
      gi_wp2
      refine ⟨trivial, fun h => by (cases h), (CallsIn.inRound lp (callsIn_wide.2 HPK.out)).mono ?_⟩
      rintro e4 w4 ⟨rfl, hP4, hO4⟩
      have HP4 := Lib.hid hP4
      have HO4 := Lib.hid hO4
      clear hP4 hO4
      gi_wp2
      have hl4 := HO4.out.size
      have hz1 := HZB.out
      have hz6 := HZ6.out
      have hwb := HK.out
      have hpl := HPg.out.lt
      have hkr : KeepsR (w.heap.size + 5) (w.heap.size + 1 + 1 + 1) (w.heap.size + 1 + 1 + 1 + 1) W2 w4 := KeepsR.only HO4.out (.inr ⟨_, HPg.out.1, rfl⟩) (by omega) (by omega) (by omega) (by omega)
      refine ⟨by simp only [World.size_alloc]; exact hkr, HMV.out.only HO4.out (fun h => by rcases hF2 with h2 | h2; exact h2.1; omega), R0.out.only HO4.out (by omega), R1.out.only HO4.out (by omega), R2.out.only HO4.out (by omega), _, ((HP2.out.upd (k := k) hM HP4.out HO4.out (fun j hj => ?_) hbK.out).mono (by omega) (fun _ _ h => h))⟩
      have := page_put (t := z) HPg.out.2 HQ.out hwb hox hz1.1 hz6 (by omega) hj
      rw [this, HR.out, HAo.out, show v - a = z - x by have := HV.out; have := HAo.out; omega]
  case hdone =>
    rintro D W hD ⟨hmv, r0, r1, r2, M', hp2⟩ hK
    have HD : Hid (w.heap.size + 5 ≤ D) := by
      simp only [World.size_alloc] at hD
      exact hD
    have hKl := (Array.getElem?_eq_some_iff.1 hK).1
    have HK := Lib.hid hK
    have HMV := Lib.hid hmv
    have HP2 := Lib.hid hp2
    clear hK hmv hp2 r0 r1 r2 hD
    gi_wp2
    refine ⟨by simp, .inl ⟨_, _, rfl, run_takeDeferred HK.out, ?_⟩⟩
    refine ⟨_, results_none rfl _ _ _, rfl, HMV.out.grown (grownBy_putObj' W D _) (fun r e h => by injection e with e; have := HD.out; omega), M', ?_⟩
    have hkp := HP2.out.kept (grownBy_putObj' W D (.deferred none)) (fun e => by injection e with e; have := HD.out; omega) (fun k x hx e => by
      injection e with e
      subst e
      obtain ⟨_, _, q, d, hpg, _⟩ := HP2.out.pg k x hx
      have e2 : W.heap[x]? = some (.cells _ _ _) := hpg.1
      rw [HK.out] at e2
      cases e2)
    have hmx : max o h = h := by omega
    rw [hmx] at hkp
    exact hkp.mono (by omega) (fun k h1 h2 => by
      rcases h2 with h2 | h2
      · exact .inl h2.1
      · exact .inr ⟨by omega, h1⟩)
  case hstop => exact fun _ _ _ _ h _ => h.elim
end Go.Proofs.YtocolaccgoochaaDoor
