/-
  Package income: bytes laid into their pages.
-/
import Derived.Test.YtocolaccgoochaaDoorInB
import Derived.Test.YtocolaccgoochaaDoorRoom
import Derived.Maps.OwnIn
namespace Go.Proofs.YtocolaccgoochaaDoor
open Go.RowKit Go.Lib Go.Maps Go.Shelf
set_option linter.unusedVariables false
attribute [local go_sem] Oper.semAt_some

/-- no block that lay has turned, but those in F -/
structure Mvd (F : Nat → Prop) (w w' : World) : Prop where
  os : w'.os = w.os
  tape : w'.tape = w.tape
  output : w'.output = w.output
  size : w.heap.size ≤ w'.heap.size
  block : ∀ k, k < w.heap.size → ¬ F k → w'.heap[k]? = w.heap[k]?
section
variable {F F' : Nat → Prop} {w w' w'' : World}
theorem Mvd.of_below (h : Below w.heap.size w w') : Mvd F w w' := ⟨h.os, h.tape, h.output, h.size, fun k hk _ => h.block k hk⟩
theorem Mvd.refl (F : Nat → Prop) (w : World) : Mvd F w w := ⟨rfl, rfl, rfl, Nat.le_refl _, fun _ _ _ => rfl⟩
theorem Mvd.trans (h : Mvd F w w') (k : Mvd F' w' w'') (hF : ∀ i, i < w.heap.size → F' i → F i) : Mvd F w w'' :=
  ⟨k.os.trans h.os, k.tape.trans h.tape, k.output.trans h.output, Nat.le_trans h.size k.size, fun i hi hn => (k.block i (Nat.lt_of_lt_of_le hi h.size) (fun e => hn (hF i hi e))).trans (h.block i hi hn)⟩
theorem Mvd.more (h : Mvd F w w') (hF : ∀ i, i < w.heap.size → F i → F' i) : Mvd F' w w' := ⟨h.os, h.tape, h.output, h.size, fun i hi hn => h.block i hi (fun e => hn (hF i hi e))⟩
theorem Mvd.grown (h : Mvd F w w') {row : Option Nat} (hg : w'.grownBy w'' row) (hr : ∀ r, row = some r → r < w.heap.size → F r) : Mvd F w w'' :=
  ⟨hg.os.trans h.os, hg.tape.trans h.tape, hg.output.trans h.output, Nat.le_trans h.size hg.size, fun i hi hn => (hg.block i (Nat.lt_of_lt_of_le hi h.size) (fun e => hn (hr i e.symm hi))).trans (h.block i hi hn)⟩
theorem Mvd.only (h : Mvd F w w') {g : Nat} (ho : Only g w' w'') (hr : g < w.heap.size → F g) : Mvd F w w'' :=
  ⟨ho.os.trans h.os, ho.tape.trans h.tape, ho.output.trans h.output, Nat.le_trans h.size ho.size, fun i hi hn => (ho.block i (Nat.lt_of_lt_of_le hi h.size) (fun e => hn (by subst e; exact hr hi))).trans (h.block i hi hn)⟩
theorem Mvd.below {B : Nat} (h : Mvd F w w') (hB : B ≤ w.heap.size) (hF : ∀ k, F k → B ≤ k) : Below B w w' :=
  ⟨h.os, h.tape, h.output, h.size, fun k hk => h.block k (by omega) (fun e => by have := hF k e; omega)⟩
theorem Mvd.cell (h : Mvd F w w') {p : Addr} {v : Value} (hc : w.cell? p = some v) (hn : ¬ F p.block) : w'.cell? p = some v := by
  have hlt := World.block_lt_of_cell? w _ hc
  have e := h.block p.block hlt hn
  unfold World.cell? at hc ⊢
  rw [e]
  exact hc
theorem Mvd.sl (h : Mvd F w w') {A : Option Addr} {n : Nat} {l : List UInt8} (hs : Sl w w.heap.size A n l) (hA : 0 < n → ∀ a, A = some a → ¬ F a.block) : Sl w' w'.heap.size A n l := by
  refine ⟨hs.1, fun h0 => ?_⟩
  obtain ⟨b, off, e, hb, hc⟩ := hs.2 h0
  exact ⟨b, off, e, Nat.lt_of_lt_of_le hb h.size, fun j hj => h.cell (hc j hj) (by have := hA h0 _ e; exact this)⟩
end
/-- what came, and the bytes l from o up to x -/
def pxV (p : Nat → Option UInt8) (o : Nat) (l : List UInt8) (x i : Nat) : Option UInt8 := if o ≤ i ∧ i < x then some (l.getD (i - o) 0) else p i
theorem splice_at (d m : List UInt8) (r j : Nat) (h : r + m.length ≤ d.length) : (splice d r m).getD j 0 = if r ≤ j ∧ j < r + m.length then m.getD (j - r) 0 else d.getD j 0 := by
  unfold splice
  rw [List.getD_eq_getElem?_getD, List.getD_eq_getElem?_getD, List.getD_eq_getElem?_getD]
  rcases Nat.lt_or_ge j r with c | c
  · rw [List.getElem?_append_left (by simp; omega), if_neg (by omega)]
    simp [c]
  · rw [List.getElem?_append_right (by simp; omega)]
    have e : j - (d.take r).length = j - r := by simp; omega
    rw [e]
    rcases Nat.lt_or_ge j (r + m.length) with c2 | c2
    · rw [List.getElem?_append_left (by omega), if_pos (by omega)]
    · rw [List.getElem?_append_right (by omega), if_neg (by omega), List.getElem?_drop]
      congr 2
      omega
/-- of one page -/
theorem page_put {p : Nat → Option UInt8} {q : UInt64} {d l : List UInt8} {x t o k j : Nat} (hd : d.length = 64) (hq : ∀ j, j < 64 → pxV p o l x (64 * k + j) = if bitQ q j = true then some (d.getD j 0) else none) (hk : x / 64 = k) (hx : o ≤ x) (hxt : x < t) (ht : t ≤ 64 * k + 64) (hl : t ≤ o + l.length) (hj : j < 64) :
    pxV p o l t (64 * k + j) = if bitQ (q ||| markP (x % 64) (t - x)) j = true then some ((splice d (x % 64) ((l.drop (x - o)).take (t - x))).getD j 0) else none := by
  have hxk : 64 * k + x % 64 = x := by omega
  have hlen : ((l.drop (x - o)).take (t - x)).length = t - x := by simp; omega
  have hget : ∀ j, j < t - x → ((l.drop (x - o)).take (t - x)).getD j 0 = l.getD (x + j - o) 0 := fun j hj => by
    have h1 : x - o + j = x + j - o := by omega
    simp [List.getD_eq_getElem?_getD, hj, h1]
  rw [bit_or, bit_mark (by omega) hj, splice_at _ _ _ _ (by omega), hlen]
  by_cases c : x % 64 ≤ j ∧ j < x % 64 + (t - x)
  · have e1 : (decide (x % 64 ≤ j) && decide (j < x % 64 + (t - x))) = true := by simp [c.1, c.2]
    rw [e1, Bool.or_true, if_pos rfl, if_pos c, hget _ (by omega)]
    unfold pxV
    rw [if_pos (by omega), show x + (j - x % 64) - o = 64 * k + j - o by omega]
  · have e1 : (decide (x % 64 ≤ j) && decide (j < x % 64 + (t - x))) = false := by
      simp only [Bool.and_eq_false_iff, decide_eq_false_iff_not]
      omega
    rw [e1, Bool.or_false, if_neg c, ← hq j hj]
    unfold pxV
    by_cases c2 : o ≤ 64 * k + j ∧ 64 * k + j < x
    · rw [if_pos c2, if_pos (by omega)]
    · rw [if_neg c2, if_neg (by omega)]
section
variable {w w' : World} {F F' : Nat → Prop} {b N : Nat} {M : Nat → Option Nat} {p p' : Nat → Option UInt8}
/-- one page turned -/
theorem PagesW.upd {k pg : Nat} {q : UInt64} {d : List UInt8} (h : PagesW w F b N M p) (hM : M k = some pg) (hP : Pg w' pg q d) (ho : Only pg w w') (h1 : ∀ j, j < 64 → p' (64 * k + j) = if bitQ q j = true then some (d.getD j 0) else none) (h2 : ∀ i, i / 64 ≠ k → p' i = p i) : PagesW w' F b N M p' := by
  obtain ⟨n, D, hn, hD, hat⟩ := h.own
  refine ⟨⟨n, D, hn, ?_, hat⟩, h.fb, fun i x hx => ?_, fun i hi j hj => ?_, h.inj⟩
  · obtain ⟨es, ck, hh, hrest⟩ := hD
    exact ⟨es, ck, (ho.block b h.ltb (Ne.symm (h.pg k pg hM).2.1)).trans hh, hrest⟩
  · obtain ⟨h3, h4, q', d', hp, h5⟩ := h.pg i x hx
    refine ⟨h3, h4, ?_⟩
    by_cases e : i = k
    · subst e
      rw [hM] at hx
      injection hx with hx
      subst hx
      exact ⟨q, d, hP, h1⟩
    · have hne : x ≠ pg := fun e2 => e (h.inj i k x hx (by rw [e2]; exact hM))
      exact ⟨q', d', hp.only ho hne, fun j hj => by rw [h2 _ (by omega)]; exact h5 j hj⟩
  · have hne : i ≠ k := fun e => by rw [e, hM] at hi; cases hi
    rw [h2 _ (by omega)]
    exact h.no i hi j hj
def zPg : List UInt8 := List.replicate 64 0
/-- a page more -/
theorem PagesW.add {k pg n : Nat} {D : DataW Unit} {w0 : World} (h : PagesW w F b N M p) (hM : M k = none) (hpg : pg = w.heap.size) (hF : F pg) (h0 : w0 = w.alloc (.cells (Value.int .u64 (qn 0) :: bvs zPg).toArray 62))
    (hn : n ≤ N) (hat : ∀ k : Nat, D.atKey (.int .i64 (k : Int)) .nil = pgD (M k)) (hM1 : IsMap D) (hown : w'.ownsMap Tryd.prog 3 ptrR b (n + 1) (D.put (.int .i64 (k : Int)) (pgD (some pg)))) (hg : w0.grownBy w' (some b)) :
    PagesW w' F b (N + 1) (fun i => if i = k then some pg else M i) p ∧ Pg w' pg 0 zPg := by
  have hb := h.ltb
  have hbp : pg ≠ b := by omega
  have hnew : Pg w0 pg 0 zPg := ⟨by subst h0 hpg; exact heap_alloc_new _ _, by simp [zPg]⟩
  have hP : Pg w' pg 0 zPg := ⟨(hg.block pg hnew.lt (fun e => hbp (by injection e))).trans hnew.1, hnew.2⟩
  have hold : ∀ x, x < w.heap.size → x ≠ b → w'.heap[x]? = w.heap[x]? := fun x hx hne => by
    have h1 : x < w0.heap.size := by subst h0; simp; omega
    refine (hg.block x h1 (fun e => hne (by injection e))).trans ?_
    subst h0
    exact Below.heap_alloc w _ x hx
  refine ⟨⟨⟨n + 1, _, by omega, hown, fun i => ?_⟩, h.fb, fun i x hx => ?_, fun i hi j hj => ?_, fun i i' x hx hx' => ?_⟩, hP⟩
  · by_cases e : i = k
    · subst e
      rw [if_pos rfl, atKey_put_same hM1 (by trivial)]
    · rw [if_neg e, atKey_put_other (by simpa using (by omega : (i : Int) ≠ (k : Int)))]
      exact hat i
  · by_cases e : i = k
    · subst e
      simp only [if_pos] at hx
      injection hx with hx
      subst hx
      exact ⟨hF, hbp, 0, zPg, hP, fun j hj => by rw [h.no i hM j hj, bit_zero]; rfl⟩
    · simp only [if_neg e] at hx
      obtain ⟨h3, h4, q', d', hp, h5⟩ := h.pg i x hx
      exact ⟨h3, h4, q', d', ⟨(hold x hp.lt h4).trans hp.1, hp.2⟩, h5⟩
  · by_cases e : i = k
    · subst e
      simp at hi
    · simp only [if_neg e] at hi
      exact h.no i hi j hj
  · have hne : ∀ i x, M i = some x → x ≠ pg := fun i x hx e => by have := h.ltp hx; omega
    by_cases e : i = k
    · by_cases e' : i' = k
      · omega
      · subst e
        simp only [if_pos] at hx
        simp only [if_neg e'] at hx'
        injection hx with hx
        exact absurd hx.symm (hne i' x hx')
    · simp only [if_neg e] at hx
      by_cases e' : i' = k
      · subst e'
        simp only [if_pos] at hx'
        injection hx' with hx'
        exact absurd hx'.symm (hne i x hx)
      · simp only [if_neg e'] at hx'
        exact h.inj i i' x hx hx'
end
end Go.Proofs.YtocolaccgoochaaDoor
