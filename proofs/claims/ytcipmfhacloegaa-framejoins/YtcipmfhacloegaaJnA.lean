/-
  FrameJoins: what the region that tells a frame of a number makes, one operation at a time.
-/
import Derived.Test.YtcipmfhacloegaaJnP
import Derived.Test.YtcipmfhacloegaaFrJ
import Derived.Test.YtcipmfhacloegaaFrAll
namespace Go.Proofs.Ytcipmfhacloegaa
open Go.RowKit
set_option linter.unusedVariables false

theorem and_u64J (b m V : Nat) (hb : b < 18446744073709551616) (hm : m < 18446744073709551616) (M : Int) (hM : M = (m : Int)) (hV : b &&& m = V) : bits .and .u64 (b : Int) M = (V : Int) := by
  subst hM
  rw [u64_and_nat b m hb hm, hV]
theorem tmodJ (q m a : Nat) (M : Int) (hM : M = (m : Int)) (h : q % m = a) : (q : Int).tmod M = (a : Int) := by
  subst hM h
  rw [Int.tmod_eq_emod_of_nonneg (Int.natCast_nonneg _)]
  rfl
theorem tdivJ (q m a : Nat) (M : Int) (hM : M = (m : Int)) (h : q / m = a) : (q : Int).tdiv M = (a : Int) := by
  subst hM h
  rw [Int.tdiv_eq_ediv_of_nonneg (Int.natCast_nonneg _)]
  rfl
theorem wrapJ (a : Nat) (h : a < 1000000) : IntKind.i64.wrap (a : Int) = (a : Int) := IntWalk.i64_in _ (by omega)
theorem wrapUJ (a : Nat) (h : a < 18446744073709551616) : IntKind.u64.wrap (a : Int) = (a : Int) := by
  simp [IntKind.wrap, IntKind.bits, IntKind.signed]
  omega
/-- one of three that may come up -/
theorem wpAnyH_threeG {P : Program} {md : Region.Mode} {ops : Array Oper} {Q : Exit → Act → World → Prop} {S : World → Prop} {fuel : Nat} {listed : Array Bool} {a : Act} {w : World} (i j k : Nat) {oi oj ok : Oper} (hr : Region.ready md ops listed = [i, j, k])
    (hi : ops[i]? = some oi) (hwi : Region.wanted oi (yielded ops a.tmps) = true) (hj : ops[j]? = some oj) (hwj : Region.wanted oj (yielded ops a.tmps) = true) (hk : ops[k]? = some ok) (hwk : Region.wanted ok (yielded ops a.tmps) = true)
    (h1 : oi.wp P a w (fun a' w' => S w' ∧ wpAnyH P md ops Q S fuel (listed.setIfInBounds i true) a' w') Q)
    (h2 : oj.wp P a w (fun a' w' => S w' ∧ wpAnyH P md ops Q S fuel (listed.setIfInBounds j true) a' w') Q)
    (h3 : ok.wp P a w (fun a' w' => S w' ∧ wpAnyH P md ops Q S fuel (listed.setIfInBounds k true) a' w') Q) : wpAnyH P md ops Q S (fuel + 1) listed a w :=
  wpAnyH_all hr (by simp) fun n hn => by
    have hn' : n = i ∨ n = j ∨ n = k := by simpa using hn
    rcases hn' with rfl | rfl | rfl
    · exact wpOp_of_wpG hi hwi h1
    · exact wpOp_of_wpG hj hwj h2
    · exact wpOp_of_wpG hk hwk h3
theorem zero_fr (u : World) : (zeroValue 26).run Try.prog u = .ok (.agg fr0.toArray) u := by with_unfolding_all rfl
/-- a frame's variable -/
theorem wp_alloc_fr {o : Oper} {a : Act} {w : World} {K : Act → World → Prop} {Q : Exit → Act → World → Prop} (ho : o.op = .alloc 26)
    (h : ∀ g w', Hid (g = w.heap.size) → Hid (Rw w' g 26 fr0) → Hid (Below w.heap.size w w') → K (a.put o.dst (.pointer (some ⟨g, 0, none⟩))) w') : o.wp Try.prog a w K Q := by
  have h1 := h w.heap.size (w.alloc (.cells fr0.toArray 26)) rfl (heap_alloc_new w _) ((Below.refl _ _).alloc (Nat.le_refl _) _)
  unfold Oper.wp execOp
  simp only [ho, Instr.alloc, newVar, newRow, Value.cells, Sem.run_bind, Sem.run_pure, Result.andThen_ok, zero_fr]
  exact h1
/-- a slice of one pair -/
theorem wp_pair {o : Oper} {a : Act} {w : World} {K : Act → World → Prop} {Q : Exit → Act → World → Prop} (x : Operand) (ho : o.op = .buildSlice 23 1 #[(0, x)])
    (lo hi : Nat) (base : Nat) (hb : base ≤ w.heap.size) (hx : a.eval x = .agg #[.int .u64 (lo : Int), .int .u64 (hi : Int)])
    (h : ∀ A c w', Hid (OwnR w' base (.slice A 1 c) 1 [(lo, hi)]) → Hid (Below w.heap.size w w') → K (a.put o.dst (.slice A 1 c)) w') : o.wp Try.prog a w K Q := by
  have h1 := h _ _ _ (ownR_lit w base hb lo hi) ((Below.refl _ _).alloc (Nat.le_refl _) _)
  have hp : (#[(0, x)].map fun (i, x) => (i, a.eval x)) = #[(0, Value.agg #[.int .u64 (lo : Int), .int .u64 (hi : Int)])] := by simp [hx]
  unfold Oper.wp execOp
  simp only [ho, hp]
  clear h hp hx
  go_simp
  exact h1
/-- a slice of eight frames -/
theorem wp_eight {o : Oper} {a : Act} {w : World} {K : Act → World → Prop} {Q : Exit → Act → World → Prop} (x0 x1 x2 x3 x4 x5 x6 x7 : Operand) (ho : o.op = .buildSlice 37 8 #[(0, x0), (1, x1), (2, x2), (3, x3), (4, x4), (5, x5), (6, x6), (7, x7)])
    (n : Nat) (p : Nat → Fp) (h0 : a.eval x0 = .agg (frV (jK 0 n) (p 0)).toArray) (h1 : a.eval x1 = .agg (frV (jK 1 n) (p 1)).toArray) (h2 : a.eval x2 = .agg (frV (jK 2 n) (p 2)).toArray) (h3 : a.eval x3 = .agg (frV (jK 3 n) (p 3)).toArray)
    (h4 : a.eval x4 = .agg (frV (jK 4 n) (p 4)).toArray) (h5 : a.eval x5 = .agg (frV (jK 5 n) (p 5)).toArray) (h6 : a.eval x6 = .agg (frV (jK 6 n) (p 6)).toArray) (h7 : a.eval x7 = .agg (frV (jK 7 n) (p 7)).toArray)
    (h : ∀ g w', Hid (∀ k, k < 8 → w'.rangeAt g (k * 10) (frV (jK k n) (p k))) → Hid (g < w'.heap.size) → Hid (Below w.heap.size w w') → K (a.put o.dst (.slice (some ⟨g, 0, none⟩) 8 8)) w') : o.wp Try.prog a w K Q := by
  have hk := h w.heap.size (w.alloc (.cells (fvs ((List.range 8).map fun k => (jK k n, p k))).toArray 26)) (fun k hk j v hv => by
    have hj : j < 10 := by
      have := (List.getElem?_eq_some_iff.1 hv).1
      rwa [frV_len] at this
    have hr := range_row (t := 26) (fr := (0, 0)) (heap_alloc_new w (.cells (fvs ((List.range 8).map fun k => (jK k n, p k))).toArray 26))
    have := hr (k * 10 + j) v (by rw [fvs_at _ k j (by simpa using hk) hj]; simpa using hv)
    rw [Nat.zero_add] at this
    exact this) (show w.heap.size < _ by simp) ((Below.refl _ _).alloc (Nat.le_refl _) _)
  have hp : (#[(0, x0), (1, x1), (2, x2), (3, x3), (4, x4), (5, x5), (6, x6), (7, x7)].map fun (i, x) => (i, a.eval x)) = #[(0, Value.agg (frV (jK 0 n) (p 0)).toArray), (1, Value.agg (frV (jK 1 n) (p 1)).toArray), (2, Value.agg (frV (jK 2 n) (p 2)).toArray), (3, Value.agg (frV (jK 3 n) (p 3)).toArray), (4, Value.agg (frV (jK 4 n) (p 4)).toArray), (5, Value.agg (frV (jK 5 n) (p 5)).toArray), (6, Value.agg (frV (jK 6 n) (p 6)).toArray), (7, Value.agg (frV (jK 7 n) (p 7)).toArray)] := by simp [h0, h1, h2, h3, h4, h5, h6, h7]
  unfold Oper.wp execOp
  simp only [ho, hp]
  clear h hp h0 h1 h2 h3 h4 h5 h6 h7
  unfold frV
  go_simp
  exact hk
/-- a struct out of the middle of a block -/
theorem wp_load_at {o : Oper} {a : Act} {w : World} {K : Act → World → Prop} {Q : Exit → Act → World → Prop} (x : Operand) (ho : o.op = .load 26 x) (g off : Nat) (hx : a.eval x = .pointer (some ⟨g, off, none⟩)) (f : Fr) (p : Fp) (hc : w.rangeAt g off (frV f p))
    (h : K (a.put o.dst (.agg (frV f p).toArray)) w) : o.wp Try.prog a w K Q := by
  unfold Oper.wp
  rw [exec_load_mid w 26 x ho g off hx (frV f p) _ hc Try.underlying26 rfl (frV_size f p)]
  exact h
/-- a frame laid into its variable -/
theorem wp_store_fr {o : Oper} {a : Act} {w : World} {K : Act → World → Prop} {Q : Exit → Act → World → Prop} (x y : Operand) (ho : o.op = .store 26 x y)
    (g : Nat) (f : Fr) (p : Fp) (hx : a.eval x = .pointer (some ⟨g, 0, none⟩)) (hy : a.eval y = .agg (frV f p).toArray) (hB : Rw w g 26 fr0)
    (h : ∀ w', Hid (Rw w' g 26 (frV f p)) → Hid (Only g w w') → K (a.put o.dst undef) w') : o.wp Try.prog a w K Q :=
  wp_store_row 26 x y ho g (frV f p).toArray hx hy 26 fr0.toArray hB (by rw [List.size_toArray]; exact frV_size f p) rfl (all_oneCell_toArray (frV_one f p))
    (h _ (setRow_heap _ _ _ _ _ _ hB) ((Only.refl g w).setRow _))
theorem range_belowJ {w u : World} {g off : Nat} {cs : List Value} (h : w.rangeAt g off cs) (hg : g < w.heap.size) (hb : Below w.heap.size w u) : u.rangeAt g off cs := fun j v hv => (Below.cell hb (p := ⟨g, off + j, none⟩) hg).trans (h j v hv)
theorem own_apart {w : World} {B n c g sz : Nat} {A : Option Addr} {xs vs : List Value} {t t' : TypeId} (ht : t ≠ t') (h : w.ownsRow B t sz (.slice A n c) n xs) (hr : Rw w g t' vs) : ∀ a, A = some a → a.block ≠ g := by
  rintro a rfl e
  rcases h.2 with ⟨hv, _⟩ | ⟨g', cap, cur, hv, _, hg, _⟩
  · injection hv with hA
    cases hA
  · injection hv with hA
    injection hA with hA
    subst hA
    simp only at e
    subst e
    have hr' : w.heap[g']? = some (.cells vs.toArray t' (0, 0)) := hr
    rw [hr'] at hg
    injection hg with hg
    injection hg with _ h2
    exact ht h2.symm
/-- a frame's lists stay when its variable is written -/
theorem FrO.var {w w' : World} {B g : Nat} {f : Fr} {p : Fp} {vs : List Value} (h : FrO w B f p) (hr : Rw w g 26 vs) (ho : Only g w w') : FrO w' B f p :=
  ⟨h.r.onlyA ho (own_apart (by decide) h.r hr), h.d.onlyA ho (own_apart (by decide) h.d hr), h.c.onlyA ho (own_apart (by decide) h.c hr), h.t.onlyA ho (own_apart (by decide) h.t hr)⟩
/-- where the eight frames' lists lie -/
def jP (D3 : Option Addr) (n3 c3 : Nat) (D4 : Option Addr) (n4 c4 : Nat) (D6 : Option Addr) (n6 c6 : Nat) (Ar : Option Addr) (cr : Nat) (k : Nat) : Fp :=
  match k with
  | 3 => { Fp.nil with da := D3, dn := n3, dc := c3 }
  | 4 => { Fp.nil with da := D4, dn := n4, dc := c4 }
  | 5 => { Fp.nil with ra := Ar, rn := 1, rc := cr }
  | 6 => { Fp.nil with da := D6, dn := n6, dc := c6 }
  | _ => Fp.nil
theorem jP_nil (D3 : Option Addr) (n3 c3 : Nat) (D4 : Option Addr) (n4 c4 : Nat) (D6 : Option Addr) (n6 c6 : Nat) (Ar : Option Addr) (cr : Nat) (k : Nat) : (jP D3 n3 c3 D4 n4 c4 D6 n6 c6 Ar cr k).ca = none ∧ (jP D3 n3 c3 D4 n4 c4 D6 n6 c6 Ar cr k).ta = none := by
  unfold jP
  split <;> exact ⟨rfl, rfl⟩
theorem jP_own {D3 : Option Addr} {n3 c3 : Nat} {D4 : Option Addr} {n4 c4 : Nat} {D6 : Option Addr} {n6 c6 : Nat} {Ar : Option Addr} {cr : Nat} {w : World} {B q : Nat} (h3 : Own w B (.slice D3 n3 c3) n3 (growL (q % 70) (q % 1000))) (h4 : Own w B (.slice D4 n4 c4) n4 (growL (q % 9) 3)) (h6 : Own w B (.slice D6 n6 c6) n6 (growL 8 (q % 300))) (h5 : OwnR w B (.slice Ar 1 cr) 1 [(q / 2, q)]) (k : Nat) :
    FrO w B (jK k q) (jP D3 n3 c3 D4 n4 c4 D6 n6 c6 Ar cr k) := by
  match k with
  | 0 | 1 | 2 => exact ⟨OwnR.nil _ _, Own.nil _ _, Own.nil _ _, Own.nil _ _⟩
  | 3 => exact ⟨OwnR.nil _ _, h3, Own.nil _ _, Own.nil _ _⟩
  | 4 => exact ⟨OwnR.nil _ _, h4, Own.nil _ _, Own.nil _ _⟩
  | 5 => exact ⟨h5, Own.nil _ _, Own.nil _ _, Own.nil _ _⟩
  | 6 => exact ⟨OwnR.nil _ _, h6, Own.nil _ _, Own.nil _ _⟩
  | k + 7 => exact ⟨OwnR.nil _ _, Own.nil _ _, Own.nil _ _, Own.nil _ _⟩
end Go.Proofs.Ytcipmfhacloegaa
