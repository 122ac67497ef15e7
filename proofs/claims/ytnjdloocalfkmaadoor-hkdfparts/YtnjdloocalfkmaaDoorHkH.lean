/-
  Regions that draw their order, with calls and whole arrays read; MAC of one piece.
-/
import Derived.Test.YtnjdloocalfkmaaDoorHkF
namespace Go.Proofs.YtnjdloocalfkmaaDoor
open Go.RowKit Go.Joins
set_option linter.unusedVariables false

/-- an operation that is wanted, and yields in every such world, taken first -/
theorem wpAnyH_pickG {P : Program} {md : Region.Mode} {ops : Array Oper} {Q : Exit → Act → World → Prop} {S : World → Prop} {fuel : Nat} {listed : Array Bool} {a : Act} {w : World} (i : Nat) {oi : Oper} (v : Value) (hi : ops[i]? = some oi)
    (hs : Region.noSelect ops = true) (hf : Region.free md ops listed i = true) (hr : (Region.ready md ops listed).contains i = true) (hw : Region.wanted oi (yielded ops a.tmps) = true)
    (hQ : ∀ c a w, Q (.panic c) (a.put oi.dst v) w → Q (.panic c) a w) (hy : ∀ u, S u → (execOp a.eval oi).run P u = .ok (.value v) u) (hS : S w)
    (h : wpAnyH P md ops Q S fuel (listed.setIfInBounds i true) (a.put oi.dst v) w) : wpAnyH P md ops Q S (fuel + 1) listed a w :=
  wpAnyH_take hi hs hf hr hQ (.inl ⟨hw, hy⟩) hS h
theorem wpOp_of_wpG {P : Program} {ops : Array Oper} {Q : Exit → Act → World → Prop} {K : Act → World → Prop} {a : Act} {w : World} {i : Nat} {o : Oper} (hi : ops[i]? = some o) (hw : Region.wanted o (yielded ops a.tmps) = true) (h : o.wp P a w K Q) : wpOp P ops Q i K a w := by
  unfold wpOp
  simp only [hi]
  rw [if_pos hw]
  exact .inl h
theorem wpAnyH_oneG {P : Program} {md : Region.Mode} {ops : Array Oper} {Q : Exit → Act → World → Prop} {S : World → Prop} {fuel : Nat} {listed : Array Bool} {a : Act} {w : World} (i : Nat) {o : Oper} (hr : Region.ready md ops listed = [i]) (hi : ops[i]? = some o) (hw : Region.wanted o (yielded ops a.tmps) = true)
    (h : o.wp P a w (fun a' w' => S w' ∧ wpAnyH P md ops Q S fuel (listed.setIfInBounds i true) a' w') Q) : wpAnyH P md ops Q S (fuel + 1) listed a w :=
  wpAnyH_all hr (by simp) fun j hj => by
    obtain rfl : j = i := by simpa using hj
    exact wpOp_of_wpG hi hw h
theorem range_alloc {u : World} {g : Nat} {cs : List Value} (h : u.rangeAt g 0 cs) (o : Obj) : (u.alloc o).rangeAt g 0 cs := by
  intro j v hv
  have hc := h j v hv
  have hlt := World.block_lt_of_cell? u _ hc
  exact (World.cell?_of_block (Below.heap_alloc u o g hlt)).trans hc
theorem range_row {u : World} {g : Nat} {cs : List Value} {t : TypeId} {fr : Nat × Nat} (h : u.heap[g]? = some (.cells cs.toArray t fr)) : u.rangeAt g 0 cs := by
  intro j v hv
  rw [Nat.zero_add, cell_of_row _ _ _ _ _ _ h, List.getElem?_toArray]
  exact hv
/-- MAC of a text that is one piece -/
theorem mac_one (key text : List UInt8) (A A2 : Option Addr) (n c n2 c2 g B : Nat) (v : World) (hG : Glob v) (h1 : Sl v B A n key) (h2 : Sl v B A2 n2 text) (hB : B ≤ v.heap.size) (hn : n ≤ c) (hc : c ≤ maxLen) (hn2 : n2 ≤ c2) (hc2 : c2 ≤ maxLen) (hm : n ≤ 1000000) (hm2 : n2 ≤ 1000000)
    (hg : v.heap[g]? = some (.cells #[.slice A2 n2 c2] 22 (0, 0))) :
    Calls Tryd.prog 12 #[.slice A n c, .slice (some ⟨g, 0, none⟩) 1 1] v fun e w' => e = .returned (.agg (bvs (macV key text)).toArray) ∧ Below v.heap.size v w' := by
  have hgv := (Array.getElem?_eq_some_iff.1 hg).1
  have hj : joined [⟨A2, n2, c2, text⟩] = text := by simp [joined]
  have h := mac_any key [⟨A2, n2, c2, text⟩] A (some ⟨g, 0, none⟩) n c 1 1 v.heap.size v hG (h1.more hB)
    (slw_block (g := g) (ps := [⟨A2, n2, c2, text⟩]) (t := 22) (fr := (0, 0)) hg hgv (fun p hp => by
      simp only [List.mem_cons, List.not_mem_nil, or_false] at hp
      subst hp
      exact ⟨h2.more hB, hn2, hc2⟩)) (Nat.le_refl _) hn hc (by omega) (by omega) (by rw [hj, h2.1]; omega)
  rw [hj] at h
  exact h

end Go.Proofs.YtnjdloocalfkmaaDoor
