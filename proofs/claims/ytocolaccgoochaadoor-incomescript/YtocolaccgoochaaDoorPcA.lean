/-
  A range over pieces: the iterator keeps its place in a variable of its own. Its contract, and the law for whoever ranges over it.
-/
import Derived.RangeFuncNested
import Derived.RangeFuncBound
import Derived.RangeFuncCalls
import Derived.RangeFuncLeaves
import Derived.RangeFuncBox
import Derived.Shelf.Abstract
import Derived.Shelf.RegionOpen
import Derived.WalkKit
import Derived.OwnWalkIn
import Derived.TacticsInMore
import Derived.LoopNIn
import Derived.LoopIn
import Derived.Lib.MinMax
import Derived.Test.YtocolaccgoochaaDoorRwC
namespace Go.Proofs.YtocolaccgoochaaDoor
open Go.RowKit Go.Shelf
set_option linter.unusedVariables false

theorem pieces_any (w : World) (lo hi : Int) : Calls Tryd.prog 32 #[.int .i64 lo, .int .i64 hi] w fun e w' =>
    e = .returned (.func (.func 36) #[] #[.pointer (some ⟨w.heap.size, 0, none⟩), .pointer (some ⟨w.heap.size + 1, 0, none⟩)]) ∧
      w' = (w.alloc (.cells #[.int .i64 lo] 3)).alloc (.cells #[.int .i64 hi] 3) := by
  go_enter Tryd.func32, Tryd.ntmps32
  go_wp2
  go_ret
  exact ⟨by simp, rfl⟩
/-- a variable of the iterator's: a number in a block of its own -/
def Bx (w : World) (b x : Nat) : Prop := Rw w b 3 [.int .i64 (x : Int)]
/-- where a piece that begins at x ends -/
def cutP (hi x : Nat) : Nat := min hi ((x / 64 + 1) * 64)
theorem cutP_gt {hi x : Nat} (h : x < hi) : x < cutP hi x ∧ cutP hi x ≤ hi := by
  unfold cutP
  omega
noncomputable def leftP (hi b : Nat) (w : World) : Nat := hi - (match w.cell? ⟨b, 0, none⟩ with | some v => (intOf v).toNat | none => 0)
theorem leftP_eq {hi b x : Nat} {w : World} (h : Bx w b x) : leftP hi b w = hi - x := by
  unfold leftP
  rw [Rw.cell h 0 _ rfl]
  simp [intOf]
attribute [local go_sem] Oper.semAt_some
set_option maxHeartbeats 1000000 in
theorem each_any (n l b1 b2 lo hi : Nat) (hb : b1 ≠ b2) (hhi : hi ≤ 1152921504606846976) (hlo : lo ≤ 1152921504606846976) (J : Nat → World → Prop) (Jx : World → Prop)
    (hJ : ∀ s W (x y : Nat), J s W → Bx W b1 x → J s (W.setCell ⟨b1, 0, none⟩ (.int .i64 (y : Int))))
    (hY : ∀ x W, J x W → lo ≤ x → x < hi → Bx W b1 x → Bx W b2 hi → YieldAt Fence.wide (n - 1) Tryd.prog l #[.int .i64 (x : Int), .int .i64 (cutP hi x : Nat)] W fun e W' =>
      (e = .returned (.bool true) ∧ J (cutP hi x) W' ∧ Bx W' b1 x ∧ Bx W' b2 hi) ∨ (e = .returned (.bool false) ∧ Jx W'))
    (W : World) (h1 : Bx W b1 lo) (h2 : Bx W b2 hi) (h0 : J lo W) :
    CallsIn Fence.wide n Tryd.prog 36 #[.func (.yield l) #[] #[], .pointer (some ⟨b1, 0, none⟩), .pointer (some ⟨b2, 0, none⟩)] W fun e W' =>
      (∃ v, e = .returned v) ∧ (J (max lo hi) W' ∨ Jx W') := by
  refine callsIn_of_wp Tryd.func36 rfl trivial ?_ rfl
  simp only [Tryd.ntmps36, List.size_toArray, List.length_cons, List.length_nil, Nat.reduceAdd, Nat.reduceSub, Array.replicate_succ, Array.replicate_zero, List.push_toArray, List.append_toArray, List.nil_append, List.cons_append]
  gi_wp2
  gi_loopw [4] (fun t wr => ∃ x : Nat, lo ≤ x ∧ x ≤ max lo hi ∧ Bx wr b1 x ∧ Bx wr b2 hi ∧ J x wr) (fun _ wr => leftP hi b1 wr)
  case atStart => exact ⟨lo, by omega, by omega, h1, h2, h0⟩
  case round =>
    obtain ⟨x, hx0, hx1, hb1, hb2, hj⟩ := hrel
    have c1 := Rw.cell hb1 0 _ rfl
    have c2 := Rw.cell hb2 0 _ rfl
    have f1 := Rw.frozen hb1 0
    by_cases hlt : x < hi
    · obtain ⟨fn, tmps, assign, body, hy, hR⟩ := hY x wr hj hx0 hlt hb1 hb2
      have d1 : decide ((x : Int) < (hi : Int)) = true := by simp; omega
      have e1 : min (hi : Int) (((x : Int) / 64 + 1) * 64) = (cutP hi x : Nat) := by unfold cutP; omega
      obtain ⟨z, hz⟩ : ∃ z, cutP hi x = z := ⟨_, rfl⟩
      rw [hz] at hy hR e1
      gi_wp2
      refine ⟨fun h => by (cases h), hR.mono ?_⟩
      rintro e W3 (⟨rfl, hJ3, hk1, hk2⟩ | ⟨rfl, hJx3⟩)
      · have c3 := Rw.cell hk1 0 _ rfl
        have f3 := Rw.frozen hk1 0
        gi_wp2
        go_roundw
        case rel =>
          have hz' : x < z ∧ z ≤ hi := by rw [← hz]; exact cutP_gt hlt
          exact ⟨z, by omega, by omega, Rw.put hk1 0 _, (Below.heap_setCell W3 ⟨b1, 0, none⟩ _ b2 (fun e => hb e.symm)).trans hk2, hJ z W3 x z hJ3 hk1⟩
        case measure =>
          have hz' : x < z ∧ z ≤ hi := by rw [← hz]; exact cutP_gt hlt
          have hb3 : Bx (W3.setCell ⟨b1, 0, none⟩ (.int .i64 (z : Int))) b1 z := Rw.put hk1 0 _
          rw [leftP_eq hb3, leftP_eq hb1]
          omega
      · gi_wp2
        refine bodyPost_ret (results_none rfl _ _ _) rfl ?_
        exact ⟨⟨_, rfl⟩, .inr hJx3⟩
    · have d1 : decide ((x : Int) < (hi : Int)) = false := by simp; omega
      gi_wp2
      go_end0
      obtain rfl : x = max lo hi := by omega
      exact ⟨⟨_, rfl⟩, .inl hj⟩
/-- what a round keeps of what the loop itself has laid -/
structure KeepsR (B b1 b2 : Nat) (W W' : World) : Prop where
  size : W.heap.size ≤ W'.heap.size
  same : ∀ (k : Nat) (o : Obj), B ≤ k → W.heap[k]? = some o → o.isCells = false → W'.heap[k]? = some o
  box1 : W'.heap[b1]? = W.heap[b1]?
  box2 : W'.heap[b2]? = W.heap[b2]?
theorem KeepsR.refl (B b1 b2 : Nat) (W : World) : KeepsR B b1 b2 W W := ⟨Nat.le_refl _, fun _ _ _ h _ => h, rfl, rfl⟩
theorem KeepsR.trans {B b1 b2 : Nat} {X Y Z : World} (h : KeepsR B b1 b2 X Y) (k : KeepsR B b1 b2 Y Z) : KeepsR B b1 b2 X Z :=
  ⟨Nat.le_trans h.size k.size, fun i o hB hi ho => k.same i o hB (h.same i o hB hi ho) ho, k.box1.trans h.box1, k.box2.trans h.box2⟩
/-- one block turned, of cells or of what lay ahead of the loop -/
theorem KeepsR.only {B b1 b2 g : Nat} {W W' : World} (h : Only g W W') (hg : g < B ∨ ∃ o : Obj, W.heap[g]? = some o ∧ o.isCells = true) (h1 : b1 < W.heap.size) (h2 : b2 < W.heap.size) (n1 : b1 ≠ g) (n2 : b2 ≠ g) : KeepsR B b1 b2 W W' :=
  ⟨h.size, fun k o hB hk ho => (h.block k (Array.getElem?_eq_some_iff.1 hk).1 fun e => (by
    subst e
    rcases hg with hg | ⟨o', h', h''⟩
    · omega
    · rw [hk] at h'
      injection h' with h'
      subst h'
      rw [ho] at h''
      cases h'')).trans hk, h.block b1 h1 n1, h.block b2 h2 n2⟩
theorem KeepsR.below {B b1 b2 : Nat} {W W' : World} (h : Below W.heap.size W W') (h1 : b1 < W.heap.size) (h2 : b2 < W.heap.size) : KeepsR B b1 b2 W W' :=
  ⟨h.size, fun k o hB hk ho => (h.block k (Array.getElem?_eq_some_iff.1 hk).1).trans hk, h.block b1 h1, h.block b2 h2⟩
/-- what the loop's own doings do not touch -/
def OwnIt {β : Type} (B b1 : Nat) (I : β → World → Prop) : Prop :=
  ∀ s W W' row, I s W → W.grownBy W' row → (∀ r, row = some r → r = b1 ∨ (B ≤ r ∧ ∃ o : Obj, W.heap[r]? = some o ∧ o.isCells = false)) → I s W'
theorem OwnIt.putObj {β : Type} {B b1 : Nat} {I : β → World → Prop} (h : OwnIt B b1 I) {s : β} {W : World} {l : Nat} {o : Obj} (o' : Obj) (hs : I s W) (hB : B ≤ l) (hl : W.heap[l]? = some o) (ho : o.isCells = false) : I s (W.putObj l o') :=
  h s W _ (some l) hs (grownBy_putObj' W l o') (fun r e => by cases e; exact .inr ⟨hB, o, hl, ho⟩)
theorem OwnIt.alloc {β : Type} {B b1 : Nat} {I : β → World → Prop} (h : OwnIt B b1 I) {s : β} {W : World} (o : Obj) (hs : I s W) : I s (W.alloc o) :=
  h s W _ none hs (World.grownBy_alloc W o none) (fun r e => by cases e)
/-- how a round may end -/
def postR (B b1 b2 : Nat) (I : Nat → World → Prop) (Ix : Code → World → Prop) (t : Nat) (W : World) : Exit → Act → World → Prop
  | .normal, _, W' => KeepsR B b1 b2 W W' ∧ I t W'
  | .ret, _, W' => KeepsR B b1 b2 W W' ∧ Ix .ret W'
  | .exit id, _, W' => KeepsR B b1 b2 W W' ∧ Ix (.exit id) W'
  | .goto t, _, W' => KeepsR B b1 b2 W W' ∧ Ix (.goto t) W'
  | .panic _, _, _ => False
  | .outgrown, _, _ => False
theorem wpIn_pieces {n : Nat} {g : Operand} {ps : Array Tmp} {assign body : Code} {Q : Exit → Act → World → Prop} {a : Act} {w : World} {b1 b2 lo hi : Nat}
    (hg : a.eval g = .func (.func 36) #[] #[.pointer (some ⟨b1, 0, none⟩), .pointer (some ⟨b2, 0, none⟩)]) (hps : ps.size = 2)
    (hb : b1 ≠ b2) (hhi : hi ≤ 1152921504606846976) (hlo : lo ≤ 1152921504606846976) (h1 : Bx w b1 lo) (h2 : Bx w b2 hi)
    (I : Nat → World → Prop) (Ix : Code → World → Prop) (hI : OwnIt w.heap.size b1 I) (hIx : OwnIt w.heap.size b1 Ix) (h0 : I lo w)
    (hround : ∀ (m l x : Nat) (W : World), lo ≤ x → x < hi → w.heap.size ≤ W.heap.size → assign.wpIn (Fence.wide.inRound l) m Tryd.prog
      (Exit.then (fun a1 w1 => w1 = W ∧ ∀ W2, I x W2 → w.heap.size ≤ W2.heap.size → body.wpIn (Fence.wide.inRound l) m Tryd.prog (postR w.heap.size b1 b2 I Ix (cutP hi x) W2) a1 W2) (fun _ _ _ => False))
      { tmps := (ps.zip #[Value.int .i64 (x : Int), Value.int .i64 (cutP hi x : Nat)]).foldl (fun t (p, v) => t.setIfInBounds p v) a.tmps, defers := [] } W)
    (hdone : ∀ (D : Nat) (W : World), w.heap.size ≤ D → I (max lo hi) W → W.heap[D]? = some (.deferred (some [])) → Q .normal { a with defers := { target := .collected D, args := #[] } :: a.defers } W)
    (hstop : ∀ (D : Nat) (c : Code) (W : World), w.heap.size ≤ D → Ix c W → W.heap[D]? = some (.deferred (some [])) → c.wpIn Fence.wide n Tryd.prog Q { a with defers := { target := .collected D, args := #[] } :: a.defers } W) :
    (Code.rangeFunc g ps assign body).wpIn Fence.wide n Tryd.prog Q a w := by
  refine wpIn_rangeFunc ?_
  intro fn hfn
  obtain ⟨rec, hrec⟩ : ∃ rec : LoopState → Option Code → Loop, rec = fun st pe => { state := st, pending := pe, fn, tmps := a.tmps, params := ps, assign, body, defers := w.heap.size } := ⟨_, rfl⟩
  obtain ⟨W1, hW1⟩ : ∃ W1, (w.alloc (.deferred (some []))).alloc (.loop (rec .ready none)) = W1 := ⟨_, rfl⟩
  have hL1 : W1.heap[w.heap.size + 1]? = some (.loop (rec .ready none)) := by
    rw [← hW1]; have := World.alloc_heap_new (w.alloc (.deferred (some []))) (.loop (rec .ready none)); rwa [World.size_alloc] at this
  have hK1 : W1.heap[w.heap.size]? = some (.deferred (some [])) := by
    rw [← hW1]; exact (Below.heap_alloc _ _ _ (by simp)).trans (World.alloc_heap_new w _)
  have hI1 : I lo W1 := by rw [← hW1]; exact hI.alloc _ (hI.alloc _ h0)
  have hx1 : Bx W1 b1 lo := by rw [← hW1]; exact (Rw.alloc (Rw.alloc h1 _) _)
  have hx2 : Bx W1 b2 hi := by rw [← hW1]; exact (Rw.alloc (Rw.alloc h2 _) _)
  have l1 := Rw.lt h1
  have l2 := Rw.lt h2
  refine ⟨w.heap.size + 1, [{ target := .collected w.heap.size, args := #[] }], W1, { target := .fn (.func 36) #[.pointer (some ⟨b1, 0, none⟩), .pointer (some ⟨b2, 0, none⟩)], args := #[.func (.yield (w.heap.size + 1)) #[] #[]] }, W1, 36,
    #[.func (.yield (w.heap.size + 1)) #[] #[]] ++ #[.pointer (some ⟨b1, 0, none⟩), .pointer (some ⟨b2, 0, none⟩)], W1, ?_, ?_, ?_, ?_, fun h => by (cases h), ?_⟩
  · rw [← hW1, hrec]; exact run_enterLoop_outer _ _ _ _ _
  · simp only [resolve, hg]
    simp [go_sem]
  · intro f' hf'; trivial
  · have eg : ∀ args w, (callFunc 36 args).run Tryd.prog w = .ok (.enter 36 args) w := enters_of Tryd.func36 (by kernel_rfl) rfl
    simp [invoke, go_sem, eg]
  · refine (each_any (n - 1) (w.heap.size + 1) b1 b2 lo hi hb hhi hlo
      (fun x W => I x W ∧ W.heap[w.heap.size + 1]? = some (.loop (rec .ready none)) ∧ W.heap[w.heap.size]? = some (.deferred (some [])) ∧ w.heap.size ≤ W.heap.size)
      (fun W => ∃ c, Ix c W ∧ W.heap[w.heap.size + 1]? = some (.loop (rec .done (some c))) ∧ W.heap[w.heap.size]? = some (.deferred (some [])))
      ?_ ?_ W1 hx1 hx2 ⟨hI1, hL1, hK1, by rw [← hW1]; simp; omega⟩).mono ?_
    · rintro s W x y ⟨hi1, hi2, hi3, hi4⟩ hB
      refine ⟨hI s W _ (some b1) hi1 (grownBy_setCell' W b1 _) (fun r e => by cases e; exact .inl rfl), ?_, ?_, ?_⟩
      · exact (Below.heap_setCell W ⟨b1, 0, none⟩ _ (w.heap.size + 1) (by show w.heap.size + 1 ≠ b1; omega)).trans hi2
      · exact (Below.heap_setCell W ⟨b1, 0, none⟩ _ w.heap.size (by show w.heap.size ≠ b1; omega)).trans hi3
      · rw [World.size_setCell]; exact hi4
    · rintro x W ⟨hi1, hl, hk, hsz⟩ hlox hxhi hB1 hB2
      have hlt : w.heap.size + 1 < W.heap.size := (Array.getElem?_eq_some_iff.1 hl).1
      have hy := run_yield (P := Tryd.prog) (args := #[Value.int .i64 (x : Int), Value.int .i64 (cutP hi x : Nat)]) hl (by rw [hrec]; exact hps.symm)
      rw [hrec] at hy
      refine ⟨fn, _, assign, body, hy, roundIn_of_wpIn (F := Fence.wide) (n := n - 1 - 1) hfn ?_⟩
      refine wpIn_mono ((hround (n - 1 - 1) (w.heap.size + 1) x W hlox hxhi hsz)) ?_
      rintro e a1 w1 hp
      cases e with
      | normal =>
        obtain ⟨rfl, hp⟩ : w1 = W ∧ _ := hp
        refine ⟨_, run_beginRound hl (by rw [hrec]), ?_⟩
        have hl2 : (w1.putObj (w.heap.size + 1) (.loop { rec .ready none with state := .busy })).heap[w.heap.size + 1]? = some (.loop { rec .ready none with state := .busy }) := World.putObj_heap_same hlt
        have hk2 : (w1.putObj (w.heap.size + 1) (.loop { rec .ready none with state := .busy })).heap[w.heap.size]? = some (.deferred (some [])) := (World.putObj_heap_other (by omega)).trans hk
        have hB1' : Bx (w1.putObj (w.heap.size + 1) (.loop { rec .ready none with state := .busy })) b1 x := (World.putObj_heap_other (by omega)).trans hB1
        have hB2' : Bx (w1.putObj (w.heap.size + 1) (.loop { rec .ready none with state := .busy })) b2 hi := (World.putObj_heap_other (by omega)).trans hB2
        refine wpIn_mono (hp _ (hI.putObj _ hi1 (by omega) hl rfl) (by rw [World.putObj_size]; exact hsz)) ?_
        have fin : ∀ (jump : Option Code) (W3 : World), KeepsR w.heap.size b1 b2 (w1.putObj (w.heap.size + 1) (.loop { rec .ready none with state := .busy })) W3 →
            (Instr.endRound (w.heap.size + 1) jump).run Tryd.prog W3 = .ok (.bool jump.isNone) (W3.putObj (w.heap.size + 1) (.loop (rec (if jump.isNone then .ready else .done) jump))) ∧
            W3.heap[w.heap.size + 1]? = some (.loop { rec .ready none with state := .busy }) ∧
            (W3.putObj (w.heap.size + 1) (.loop (rec (if jump.isNone then .ready else .done) jump))).heap[w.heap.size + 1]? = some (.loop (rec (if jump.isNone then .ready else .done) jump)) ∧
            (W3.putObj (w.heap.size + 1) (.loop (rec (if jump.isNone then .ready else .done) jump))).heap[w.heap.size]? = some (.deferred (some [])) := fun jump W3 hk3 => by
          have hl3 := hk3.same _ _ (by omega) hl2 rfl
          have := run_endRound (P := Tryd.prog) jump hl3
          rw [hrec] at this ⊢
          exact ⟨this, by rw [hrec] at hl3; exact hl3, World.putObj_heap_same (Array.getElem?_eq_some_iff.1 hl3).1, (World.putObj_heap_other (by omega)).trans (hk3.same _ _ (Nat.le_refl _) hk2 rfl)⟩
        rintro e a3 W3 hp
        cases e with
        | normal =>
          obtain ⟨hk3, hi3⟩ := hp
          obtain ⟨hr, hl3, hl4, hk4⟩ := fin none W3 hk3
          refine ⟨_, _, hr, .inl ⟨rfl, ⟨hI.putObj _ hi3 (by omega) hl3 rfl, hl4, hk4, ?_⟩, ?_, ?_⟩⟩
          · rw [World.putObj_size]
            have := hk3.size
            rw [World.putObj_size] at this
            omega
          · exact (World.putObj_heap_other (by omega)).trans (hk3.box1.trans hB1')
          · exact (World.putObj_heap_other (by omega)).trans (hk3.box2.trans hB2')
        | ret =>
          obtain ⟨hk3, hi3⟩ := hp
          obtain ⟨hr, hl3, hl4, hk4⟩ := fin (some .ret) W3 hk3
          exact ⟨_, _, hr, .inr ⟨rfl, .ret, hIx.putObj _ hi3 (by omega) hl3 rfl, hl4, hk4⟩⟩
        | exit id =>
          obtain ⟨hk3, hi3⟩ := hp
          obtain ⟨hr, hl3, hl4, hk4⟩ := fin (some (.exit id)) W3 hk3
          exact ⟨_, _, hr, .inr ⟨rfl, .exit id, hIx.putObj _ hi3 (by omega) hl3 rfl, hl4, hk4⟩⟩
        | goto t =>
          obtain ⟨hk3, hi3⟩ := hp
          obtain ⟨hr, hl3, hl4, hk4⟩ := fin (some (.goto t)) W3 hk3
          exact ⟨_, _, hr, .inr ⟨rfl, .goto t, hIx.putObj _ hi3 (by omega) hl3 rfl, hl4, hk4⟩⟩
        | panic ch => exact hp.elim
        | outgrown => exact hp.elim
      | _ => exact hp.elim
    · rintro e W2 ⟨⟨v, rfl⟩, (⟨hi1, hl, hk, _⟩ | ⟨c, hi1, hl, hk⟩)⟩
      · exact ⟨none, _, by have := run_endLoop (P := Tryd.prog) hl (by rw [hrec]; simp); rw [hrec] at this; exact this, hdone _ _ (Nat.le_refl _) (hI.putObj _ hi1 (by omega) hl rfl) ((World.putObj_heap_other (by omega)).trans hk)⟩
      · exact ⟨some c, _, by have := run_endLoop (P := Tryd.prog) hl (by rw [hrec]; simp); rw [hrec] at this; exact this, hstop _ c _ (Nat.le_refl _) (hIx.putObj _ hi1 (by omega) hl rfl) ((World.putObj_heap_other (by omega)).trans hk)⟩
end Go.Proofs.YtocolaccgoochaaDoor
