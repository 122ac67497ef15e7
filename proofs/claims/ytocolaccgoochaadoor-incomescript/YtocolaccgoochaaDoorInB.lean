/-
  Package income: whether a byte came as another one.
-/
import Derived.Test.YtocolaccgoochaaDoorPcA
import Derived.Test.YtocolaccgoochaaDoorInA
namespace Go.Proofs.YtocolaccgoochaaDoor
open Go.RowKit Go.Lib Go.Maps Go.Shelf
set_option linter.unusedVariables false
attribute [local go_sem] Oper.semAt_some

/-- one of them came as another one -/
def clB (p : Nat → Option UInt8) (o : Nat) (l : List UInt8) : Bool := (List.range l.length).any fun k => match p (o + k) with | some b => !(b == l.getD k 0) | none => false
theorem clB_iff {p : Nat → Option UInt8} {o : Nat} {l : List UInt8} : clB p o l = true ↔ ∃ k, k < l.length ∧ ∃ b, p (o + k) = some b ∧ b ≠ l.getD k 0 := by
  unfold clB
  rw [List.any_eq_true]
  constructor
  · rintro ⟨k, hk, h⟩
    refine ⟨k, by simpa using hk, ?_⟩
    cases hp : p (o + k) with
    | none => rw [hp] at h; cases h
    | some b =>
      rw [hp] at h
      have h' : (!(b == l.getD k 0)) = true := h
      exact ⟨b, rfl, by intro e; rw [e] at h'; simp at h'⟩
  · rintro ⟨k, hk, b, hp, hne⟩
    refine ⟨k, by simpa using hk, ?_⟩
    rw [hp]
    have : (b == l.getD k 0) = false := beq_false_of_ne hne
    show (!(b == l.getD k 0)) = true
    rw [this]
    rfl
/-- a piece of a slice -/
theorem sl_piece {n c a b : Nat} (A : Option Addr) (h1 : a ≤ b) (h2 : b ≤ n) (hc : n ≤ c) : ∃ A', (∀ u : World, (Instr.slice 30 (.slice A n c) (some (.int .i64 (a : Int))) (some (.int .i64 (b : Int))) none).run Tryd.prog u = .ok (.slice A' (b - a) (c - a)) u) ∧ ∀ (w : World) (B : Nat) (l : List UInt8), Sl w B A n l → Sl w B A' (b - a) ((l.drop a).take (b - a)) :=
  ⟨_, fun u => run_cut2 u A n c a b h1 (by omega), fun w B l hs => (hs.drop (c := c) (by omega) hc).take (by omega)⟩
/-- of one page -/
theorem page_clash {p : Nat → Option UInt8} {q : UInt64} {d l : List UInt8} {x t o k : Nat} (hq : ∀ j, j < 64 → p (64 * k + j) = if bitQ q j = true then some (d.getD j 0) else none) (hk : x / 64 = k) (hx : o ≤ x) (hxt : x < t) (ht : t ≤ 64 * k + 64) (hl : t ≤ o + l.length) :
    diffP q d (x % 64) ((l.drop (x - o)).take (t - x)) = true ↔ ∃ i, x ≤ i ∧ i < t ∧ ∃ b, p i = some b ∧ b ≠ l.getD (i - o) 0 := by
  have hxk : 64 * k + x % 64 = x := by omega
  have hlen : ((l.drop (x - o)).take (t - x)).length = t - x := by simp; omega
  have hget : ∀ j, j < t - x → ((l.drop (x - o)).take (t - x)).getD j 0 = l.getD (x + j - o) 0 := fun j hj => by
    have h1 : x - o + j = x + j - o := by omega
    simp [List.getD_eq_getElem?_getD, hj, h1]
  unfold diffP
  rw [List.any_eq_true]
  constructor
  · rintro ⟨j, hj, h⟩
    have hj' : j < t - x := by rw [← hlen]; simpa using hj
    rw [Bool.and_eq_true] at h
    refine ⟨x + j, by omega, by omega, d.getD (x % 64 + j) 0, ?_, ?_⟩
    · have := hq (x % 64 + j) (by omega)
      rw [h.1, show 64 * k + (x % 64 + j) = x + j by omega] at this
      simpa using this
    · have h2 := h.2
      rw [hget j hj'] at h2
      intro e
      rw [e] at h2
      simp at h2
  · rintro ⟨i, h1, h2, b, hb, hne⟩
    refine ⟨i - x, by rw [hlen]; simp; omega, ?_⟩
    have h3 := hq (x % 64 + (i - x)) (by omega)
    rw [show 64 * k + (x % 64 + (i - x)) = i by omega, hb] at h3
    rw [hget _ (by omega), show x + (i - x) - o = i - o by omega]
    cases hbq : bitQ q (x % 64 + (i - x)) with
    | false => rw [hbq] at h3; simp at h3
    | true =>
      rw [hbq] at h3
      have e : b = d.getD (x % 64 + (i - x)) 0 := by simpa using h3
      rw [← e]
      have : (b == l.getD (i - o) 0) = false := beq_false_of_ne hne
      rw [this]
      rfl
theorem Rw.turned {w w' : World} {g : Nat} {t : TypeId} {vs : List Value} {row : Option Nat} (h : Rw w g t vs) (hg : w.grownBy w' row) (hne : some g ≠ row) : Rw w' g t vs := (hg.block g h.lt hne).trans h
theorem bool_result {fn : Func} {p : Tmp} (h : fn.results = #[.cell p 4]) (tmps : Array Value) (w : World) (g : Nat) (v : Bool) (hp : tmps.getD p undef = .pointer (some ⟨g, 0, none⟩)) (hc : w.cell? ⟨g, 0, none⟩ = some (.bool v)) :
    (results fn tmps).run Tryd.prog w = .ok (.bool v) w := by
  have hp' : tmps[p]?.getD undef = .pointer (some ⟨g, 0, none⟩) := by simpa using hp
  simp [results, h, hp', asAddr, go_sem, hc]
set_option maxHeartbeats 4000000 in
set_option maxRecDepth 8000 in
theorem idiff_any {w : World} {F : Nat → Prop} {g b N o n c : Nat} {M : Nat → Option Nat} {p : Nat → Option UInt8} {A : Option Addr} {l : List UInt8}
    (hc : w.cell? ⟨g, 1, none⟩ = some (.map (some b))) (hp : PagesW w F b N M p) (hs : Sl w w.heap.size A n l) (hnc : n ≤ c) (hon : o + n ≤ 1048576) :
    Calls Tryd.prog 29 #[.pointer (some ⟨g, 0, none⟩), .int .i64 (o : Int), .slice A n c] w fun e w' => e = .returned (.bool (clB p o l)) ∧ Below w.heap.size w w' := by
  have hl := hs.len
  have hgl := World.block_lt_of_cell? w _ hc
  have HS := Lib.hid hs
  have HP := Lib.hid hp
  have HC := Lib.hid hc
  have HPC : Hid (∀ u : World, Calls Tryd.prog 32 #[.int .i64 (o : Int), .int .i64 ((o + n : Nat) : Int)] u fun e w' =>
    e = .returned (.func (.func 36) #[] #[.pointer (some ⟨u.heap.size, 0, none⟩), .pointer (some ⟨u.heap.size + 1, 0, none⟩)]) ∧
      w' = (u.alloc (.cells #[.int .i64 (o : Int)] 3)).alloc (.cells #[.int .i64 ((o + n : Nat) : Int)] 3)) := fun u => pieces_any u _ _
  obtain ⟨h, hh⟩ : ∃ h, o + n = h := ⟨_, rfl⟩
  rw [hh] at HPC
  have e1 : (o : Int) + (n : Int) = (h : Int) := by omega
  have b1 : (o : Int) ≤ 1048576 := by omega
  have b2 : (n : Int) ≤ 1048576 := by omega
  clear hs hp hc
  refine (callsIn_wide (n := 0)).1 ?_
  refine callsIn_of_wp_marks Tryd.func29 rfl trivial ?_ rfl
  simp only [Tryd.ntmps29, List.size_toArray, List.length_cons, List.length_nil, Nat.reduceAdd, Nat.reduceSub, Array.replicate_succ, Array.replicate_zero, List.push_toArray, List.append_toArray, List.nil_append, List.cons_append]
  gi_wp2
  refine ⟨trivial, rfl, (callsIn_wide.2 (HPC.out _)).mono ?_⟩
  rintro e2 w1 ⟨rfl, rfl⟩
  gi_wp2
  refine wpIn_pieces (b1 := w.heap.size + 1 + 1 + 1 + 1) (b2 := w.heap.size + 1 + 1 + 1 + 1 + 1) (lo := o) (hi := h) ?hg rfl (by omega) (by omega) (by omega) ?h1 ?h2
    (fun x W => Below w.heap.size w W ∧ Rw W w.heap.size 24 [.pointer (some ⟨g, 0, none⟩)] ∧ Rw W (w.heap.size + 1) 3 [.int .i64 (o : Int)] ∧ Rw W (w.heap.size + 1 + 1) 30 [.slice A n c] ∧ Rw W (w.heap.size + 1 + 1 + 1) 4 [.bool false] ∧ Hid (o ≤ x ∧ ∀ i, o ≤ i → i < x → ∀ b, p i = some b → b = l.getD (i - o) 0))
    (fun cd W => cd = .ret ∧ Below w.heap.size w W ∧ Rw W (w.heap.size + 1 + 1 + 1) 4 [.bool true] ∧ clB p o l = true)
    ?hI ?hIx ?h0 ?hround ?hdone ?hstop
  case hg => rfl
  case h1 =>
    refine Rw.alloc ?_ _
    have h := heap_alloc_new ((((w.alloc (.cells #[.pointer (some ⟨g, 0, none⟩)] 24)).alloc (.cells #[.int .i64 (o : Int)] 3)).alloc (.cells #[.slice A n c] 30)).alloc (.cells #[.bool false] 4)) (.cells #[.int .i64 (o : Int)] 3)
    simp only [World.size_alloc] at h
    exact h
  case h2 =>
    have h := heap_alloc_new (((((w.alloc (.cells #[.pointer (some ⟨g, 0, none⟩)] 24)).alloc (.cells #[.int .i64 (o : Int)] 3)).alloc (.cells #[.slice A n c] 30)).alloc (.cells #[.bool false] 4)).alloc (.cells #[.int .i64 (o : Int)] 3)) (.cells #[.int .i64 (h : Int)] 3)
    simp only [World.size_alloc] at h
    exact h
  case hI =>
    rintro s W W' row ⟨hbl, r0, r1, r2, r3, HI⟩ hg hr
    have hlt : ∀ r, row = some r → w.heap.size + 1 + 1 + 1 < r := fun r e => by
      rcases hr r e with h | ⟨h, _⟩
      · omega
      · simp at h
        omega
    exact ⟨hbl.grown hg hbl.size (fun k e => by have := hlt k e; omega), r0.turned hg (fun e => by have := hlt _ e.symm; omega), r1.turned hg (fun e => by have := hlt _ e.symm; omega), r2.turned hg (fun e => by have := hlt _ e.symm; omega), r3.turned hg (fun e => by have := hlt _ e.symm; omega), HI⟩
  case hIx =>
    rintro s W W' row ⟨hcd, hbl, r3, hy⟩ hg hr
    have hlt : ∀ r, row = some r → w.heap.size + 1 + 1 + 1 < r := fun r e => by
      rcases hr r e with h | ⟨h, _⟩
      · omega
      · simp at h
        omega
    exact ⟨hcd, hbl.grown hg hbl.size (fun k e => by have := hlt k e; omega), r3.turned hg (fun e => by have := hlt _ e.symm; omega), hy⟩
  case h0 =>
    refine ⟨(((((Below.refl _ w).alloc (Nat.le_refl _) _).alloc (by simp) _).alloc (by simp; omega) _).alloc (by simp; omega) _ |>.alloc (by simp; omega) _).alloc (by simp; omega) _, ?_, ?_, ?_, ?_, Nat.le_refl _, fun i h1 h2 => absurd h2 (by omega)⟩
    · exact Rw.alloc (Rw.alloc (Rw.alloc (Rw.alloc (Rw.alloc (heap_alloc_new w _) _) _) _) _) _
    · have h := heap_alloc_new (w.alloc (.cells #[.pointer (some ⟨g, 0, none⟩)] 24)) (.cells #[.int .i64 (o : Int)] 3)
      simp only [World.size_alloc] at h
      exact Rw.alloc (Rw.alloc (Rw.alloc (Rw.alloc h _) _) _) _
    · have h := heap_alloc_new ((w.alloc (.cells #[.pointer (some ⟨g, 0, none⟩)] 24)).alloc (.cells #[.int .i64 (o : Int)] 3)) (.cells #[.slice A n c] 30)
      simp only [World.size_alloc] at h
      exact Rw.alloc (Rw.alloc (Rw.alloc h _) _) _
    · have h := heap_alloc_new (((w.alloc (.cells #[.pointer (some ⟨g, 0, none⟩)] 24)).alloc (.cells #[.int .i64 (o : Int)] 3)).alloc (.cells #[.slice A n c] 30)) (.cells #[.bool false] 4)
      simp only [World.size_alloc] at h
      exact Rw.alloc (Rw.alloc h _) _
  case hround =>
    intro m lp x W hox hxh hsz
    gi_wp2
    refine ⟨trivial, ?_⟩
    rintro W2 ⟨hbl, r0, r1, r2, r3, HI⟩ hsz2
    have c0 := Rw.cell r0 0 _ rfl
    have c1 := Rw.cell r1 0 _ rfl
    have c2 := Rw.cell r2 0 _ rfl
    have c3 := Rw.cell r3 0 _ rfl
    have f3 := Rw.frozen r3 0
    have cg : W2.cell? ⟨g, 1, none⟩ = some (.map (some b)) := (hbl.cell (p := ⟨g, 1, none⟩) hgl).trans HC.out
    have HP2 := Lib.hid (HP.out.below hbl)
    have HS2 := Lib.hid (HS.out.below hbl)
    obtain ⟨k, hk⟩ : ∃ k, x / 64 = k := ⟨_, rfl⟩
    have ek : (x : Int) / 64 = (k : Int) := by omega
    have hlook := HP2.out.look k (by omega)
    obtain ⟨z, hz⟩ : ∃ z, cutP h x = z := ⟨_, rfl⟩
    have hzb : x < z ∧ z ≤ h := by rw [← hz]; exact cutP_gt hxh
    have hz64 : z ≤ 64 * k + 64 := by rw [← hz]; unfold cutP; omega
    obtain ⟨r, hr⟩ : ∃ r, x % 64 = r := ⟨_, rfl⟩
    have er : (x : Int) % 64 = (r : Int) := by omega
    obtain ⟨a, ha⟩ : ∃ a, x - o = a := ⟨_, rfl⟩
    have ea : (x : Int) - (o : Int) = (a : Int) := by omega
    obtain ⟨v, hv⟩ : ∃ v, z - o = v := ⟨_, rfl⟩
    have ev : (z : Int) - (o : Int) = (v : Int) := by omega
    obtain ⟨A', hsl, hsx⟩ := sl_piece A (a := a) (b := v) (n := n) (by omega) (by omega) hnc
    have hs' := hsx _ _ _ HS2.out
    clear hsx
    have hxb : (x : Int) ≤ 1048576 := by omega
    have hzb' : (z : Int) ≤ 1048576 := by omega
    have HS' := Lib.hid hs'
    have HZ := Lib.hid hz
    have HZB := Lib.hid hzb
    have HZ6 := Lib.hid hz64
    rw [hz]
    clear hs' hz hzb hz64
    cases hM : M k with
    | none =>
      rw [hM] at hlook
      have hlook' : (Instr.lookup 46 (.map (some b)) (.int .i64 (k : Int)) false).run Tryd.prog W2 = .ok (.pointer none) W2 := hlook
      have HI' : Hid (o ≤ z ∧ ∀ i, o ≤ i → i < z → ∀ b, p i = some b → b = l.getD (i - o) 0) := by
        have h1 := HZB.out
        have h2 := HZ6.out
        refine ⟨by omega, fun i hi1 hi2 y hy => ?_⟩
        rcases Nat.lt_or_ge i x with c | c
        · exact HI.out.2 i hi1 c y hy
        · have := HP2.out.no k hM (i - 64 * k) (by omega)
          rw [show 64 * k + (i - 64 * k) = i by omega, hy] at this
          cases this
      clear hlook hk hr ha hv
      gi_wp2
      refine ⟨trivial, ?_⟩
      gi_wp2
      exact ⟨KeepsR.refl _ _ _ _, hbl, r0, r1, r2, r3, HI'⟩
    | some pg =>
      rw [hM] at hlook
      have hlook' : (Instr.lookup 46 (.map (some b)) (.int .i64 (k : Int)) false).run Tryd.prog W2 = .ok (.pointer (some ⟨pg, 0, none⟩)) W2 := hlook
      clear hlook
      obtain ⟨hF, hne, q, d, hpg, hq⟩ := HP2.out.pg k pg hM
      obtain ⟨u, hu⟩ : ∃ u, diffP q d r ((l.drop a).take (v - a)) = u := ⟨_, rfl⟩
      have h1 := HZB.out
      have h2 := HZ6.out
      have HD := Lib.hid (pdiff_any (c := c - a) hpg HS'.out (by omega : r + (v - a) ≤ 64))
      rw [hu] at HD
      have HQ : Hid (u = true ↔ ∃ i, x ≤ i ∧ i < z ∧ ∃ b, p i = some b ∧ b ≠ l.getD (i - o) 0) := by
        rw [← hu, ← hr, ← ha, ← hv, show z - o - (x - o) = z - x by omega]
        exact page_clash hq hk hox (by omega) (by omega) (by omega)
      clear hk hr ha hv hu h1 h2 hq hpg
      gi_wp2
      refine ⟨trivial, fun h => by (cases h), (CallsIn.inRound lp (callsIn_wide.2 HD.out)).mono ?_⟩
      rintro e3 w3 ⟨rfl, rfl⟩
      cases u with
      | false =>
        have HI' : Hid (o ≤ z ∧ ∀ i, o ≤ i → i < z → ∀ b, p i = some b → b = l.getD (i - o) 0) := by
          have h1 := HZB.out
          refine ⟨by omega, fun i hi1 hi2 y hy => ?_⟩
          rcases Nat.lt_or_ge i x with c | c
          · exact HI.out.2 i hi1 c y hy
          · refine Classical.byContradiction fun hh => ?_
            have := HQ.out.2 ⟨i, c, hi2, y, hy, hh⟩
            cases this
        gi_wp2
        exact ⟨KeepsR.refl _ _ _ _, hbl, r0, r1, r2, r3, HI'⟩
      | true =>
        have HY : Hid (clB p o l = true) := by
          obtain ⟨i, h1, h2, y, hy, hne⟩ := HQ.out.1 rfl
          have h3 := HZB.out
          refine clB_iff.2 ⟨i - o, by omega, y, ?_, hne⟩
          rw [show o + (i - o) = i by omega]
          exact hy
        gi_wp2
        refine ⟨?_, rfl, hbl.setCell (by simp; omega) _, Rw.put r3 0 _, HY.out⟩
        have l3 := Rw.lt r3
        simp at hsz2
        exact KeepsR.only ((Only.refl _ _).setCell _ _) (.inl (by simp)) (by omega) (by omega) (by omega) (by omega)
  case hdone =>
    rintro D W hD ⟨hbl, r0, r1, r2, r3, HI⟩ hK
    have c3 := Rw.cell r3 0 _ rfl
    have f3 := Rw.frozen r3 0
    have HY : Hid (clB p o l = false) := by
      have hh2 := HI.out.2
      cases hcl : clB p o l with
      | false => rfl
      | true =>
        obtain ⟨k, hk, y, hy, hne⟩ := clB_iff.1 hcl
        have := hh2 (o + k) (by omega) (by omega) y hy
        rw [show o + k - o = k by omega] at this
        exact absurd this hne
    have hDl := (Array.getElem?_eq_some_iff.1 hK).1
    have hK' : (W.setCell ⟨w.heap.size + 1 + 1 + 1, 0, none⟩ (.bool false)).heap[D]? = some (.deferred (some [])) := (Below.heap_setCell W ⟨w.heap.size + 1 + 1 + 1, 0, none⟩ _ D (by simp at hD; simp; omega)).trans hK
    have hr' : Rw ((W.setCell ⟨w.heap.size + 1 + 1 + 1, 0, none⟩ (.bool false)).putObj D (.deferred none)) (w.heap.size + 1 + 1 + 1) 4 [.bool false] := (World.putObj_heap_other (by simp at hD; omega)).trans (Rw.put r3 0 (.bool false))
    have hb' : Below w.heap.size w ((W.setCell ⟨w.heap.size + 1 + 1 + 1, 0, none⟩ (.bool false)).putObj D (.deferred none)) :=
      (hbl.setCell (by simp; omega) _).trans (belowK_b (w := w) (Nat.le_refl _) _ D _ _ (by simp at hD; omega) hK' rfl rfl)
    gi_wp2
    refine ⟨by simp, .inl ⟨_, _, rfl, run_takeDeferred hK', ?_⟩⟩
    exact ⟨_, bool_result rfl _ _ _ _ rfl (Rw.cell hr' 0 _ rfl), by rw [HY.out], hb'⟩
  case hstop =>
    rintro D cd W hD ⟨rfl, hbl, r3, hy⟩ hK
    have HY := Lib.hid hy
    clear hy
    have hr' : Rw (W.putObj D (.deferred none)) (w.heap.size + 1 + 1 + 1) 4 [.bool true] := (World.putObj_heap_other (by simp at hD; omega)).trans r3
    have hb' : Below w.heap.size w (W.putObj D (.deferred none)) := hbl.trans (belowK_b (w := w) (Nat.le_refl _) _ D _ _ (by simp at hD; omega) hK rfl rfl)
    gi_wp2
    refine ⟨by simp, .inl ⟨_, _, rfl, run_takeDeferred hK, ?_⟩⟩
    exact ⟨_, bool_result rfl _ _ _ _ rfl (Rw.cell hr' 0 _ rfl), by rw [HY.out], hb'⟩
end Go.Proofs.YtocolaccgoochaaDoor
