/-
  Package income: an In that came to hold all of one text; what lies beside it.
-/
import Derived.Test.YtocolaccgoochaaDoorInH
import Derived.Test.YtocolaccgoochaaDoorOwnW
import Derived.Test.YtocolaccgoochaaDoorRwC
namespace Go.Proofs.YtocolaccgoochaaDoor
open Go.RowKit Go.Lib
set_option linter.unusedVariables false

section
variable {w0 w w' : World} {F F' : Nat → Prop} {g most N : Nat} {s s' : InS}
theorem Rn.grown (R : Rn w0 w F g most N s) {row : Option Nat} (h : w.grownBy w' row) (hr : ∀ r, row = some r → ¬ F r ∧ w0.heap.size ≤ r) : Rn w0 w' F g most N s := by
  have hb : Below w0.heap.size w w' := ⟨h.os, h.tape, h.output, h.size, fun k hk => h.block k (by have := R.size; omega) (fun e => by have := (hr k e.symm).2; omega)⟩
  exact ⟨R.i.still h.size (fun k hk hl => h.block k hl (fun e => (hr k e.symm).1 hk)), R.lo, fun k hk => Nat.lt_of_lt_of_le (R.hi k hk) h.size, R.G.below hb R.pos, R.b.trans hb, R.pos⟩
theorem Rn.ok (R : Rn w0 w F g most N s) : s.Ok most := R.i.ok
/-- own bytes that lie beside it -/
theorem After.own (h : After F F' w w') {A : Option Addr} {B n c : Nat} {l : List UInt8} (ho : Own w B (.slice A n c) n l) (hA : ∀ a, A = some a → ¬ F a.block) : Own w' B (.slice A n c) n l := by
  rcases ho.2 with ⟨hv, h0⟩ | ⟨g1, cap, cur, hv, hB, hg, r⟩
  · exact ⟨ho.1, .inl ⟨hv, h0⟩⟩
  · have hv' := hv
    injection hv with hA1 _ hc
    have hn := hA _ hA1
    exact ⟨ho.1, .inr ⟨g1, cap, cur, hv', hB, (h.m.block g1 (Array.getElem?_eq_some_iff.1 hg).1 hn).trans hg, r⟩⟩
end
/-- a piece of a slice, and where it lies -/
theorem sl_piece_at {n c a b : Nat} (A : Option Addr) (h1 : a ≤ b) (h2 : b ≤ n) (hc : n ≤ c) : ∃ A', (∀ u : World, (Instr.slice 30 (.slice A n c) (some (.int .i64 (a : Int))) (some (.int .i64 (b : Int))) none).run Tryd.prog u = .ok (.slice A' (b - a) (c - a)) u) ∧
    (∀ (w : World) (B : Nat) (l : List UInt8), Sl w B A n l → Sl w B A' (b - a) ((l.drop a).take (b - a))) ∧ ∀ x, A' = some x → ∃ y, A = some y ∧ x.block = y.block := by
  refine ⟨_, fun u => run_cut2 u A n c a b h1 (by omega), fun w B l hs => (hs.drop (c := c) (by omega) hc).take (by omega), fun x hx => ?_⟩
  split at hx
  · exact ⟨x, hx, rfl⟩
  · cases A with
    | none => cases hx
    | some y =>
      refine ⟨y, rfl, ?_⟩
      simp only [Option.map_some, Option.some.injEq] at hx
      rw [← hx]
      unfold Addr.add
      split <;> rfl
theorem one_sl (w : World) (b : UInt8) : Sl (w.alloc (.cells #[.int .u8 (bn b)] 5)) (w.alloc (.cells #[.int .u8 (bn b)] 5)).heap.size (some ⟨w.heap.size, 0, none⟩) 1 [b] := by
  have := sl_one w (.int .u8 (bn b)) b rfl
  rw [World.size_alloc]
  exact this
/-- an append behind a guard that lets it -/
theorem wpList_append_bytesG {w : World} {ops : Array Oper} {rest : List Oper} {o : Oper} {a : Act} {Q : Exit → Act → World → Prop} (k : Tmp) (hk : o.dst = some k) (s x : Operand)
    (ho : o.op = .call { callee := .builtin .append, args := #[s, x], argTypes := #[30, 30] }) (hw : Region.wanted o (yielded ops a.tmps) = true)
    (base : Nat) (v : Value) (n : Nat) (l : List UInt8) (hs : a.eval s = v) (hown : Own w base v n l)
    (B : Nat) (A : Option Addr) (m c : Nat) (r : List UInt8) (hx : a.eval x = .slice A m c) (hr : Sl w B A m r)
    (hlen : n + m ≤ 70368744177664) (hbase : base ≤ w.heap.size)
    (h : ∀ A' c' w', Hid (Own w' base (.slice A' (n + m) c') (n + m) (l ++ r)) → Hid (n + m ≤ c' ∧ c' ≤ maxLen) → Hid (w.grownBy w' v.ownBlock) → wpList Tryd.prog ops Q rest (a.put o.dst (.slice A' (n + m) c')) w') :
    wpList Tryd.prog ops Q (o :: rest) a w := by
  refine wpList_wanted hw fun K hK => ?_
  obtain ⟨v', w', hrun, h2, h3, _⟩ := run_append_bytes w base o.type v n l hown B A m c r hr hlen hbase
  obtain ⟨A', c', rfl, hle, hcm⟩ := h2.form
  unfold Oper.wp execOp
  simp only [ho, resolve, invoke, builtin, Sem.run_bind, Sem.run_pure, Result.andThen_ok, List.map_toArray, List.map_cons, List.map_nil, hs, hx, hrun]
  exact hK _ _ (h A' c' w' h2 ⟨hle, hcm⟩ h3)
/-- all of D came, and the end -/
structure Full (D : List UInt8) (s : InS) : Prop where
  c : Cons D s
  all : ∀ i, i < D.length → s.p i ≠ none
  en : s.en = some D.length
section
variable {D : List UInt8} {s : InS} {most : Nat}
theorem Full.start (D : List UInt8) : ¬ clashV InS.new 0 D true ∧ Full D (putS InS.new 0 D true) := by
  obtain ⟨h1, h2⟩ := cons_put (d := D) (o := 0) (e := true) (cons_new D) (fun k _ => by rw [Nat.zero_add]) (by omega) (fun _ => by omega)
  exact ⟨h1, h2, fun i hi => put_has (.inr ⟨by omega, by omega⟩), by rw [put_en]; simp⟩
theorem Full.put (h : Full D s) {o : Nat} {d : List UInt8} {e : Bool} (hd : ∀ k, k < d.length → d.getD k 0 = D.getD (o + k) 0) (hl : o + d.length ≤ D.length) (he : e = true → o + d.length = D.length) : ¬ clashV s o d e ∧ Full D (putS s o d e) := by
  obtain ⟨h1, h2⟩ := cons_put h.c hd hl he
  refine ⟨h1, h2, fun i hi => put_has (.inl (h.all i hi)), ?_⟩
  rw [put_en]
  split
  · rename_i h3
    rw [he h3]
  · exact h.en
theorem Full.read (h : Full D s) (n : Int) : Full D (readS s n) := ⟨cons_read h.c n, h.all, h.en⟩
theorem Full.front (h : Full D s) (hok : s.Ok most) : frontV s = D.length := all_front hok h.c h.all
theorem Full.high (h : Full D s) (hok : s.Ok most) : highestV s = D.length := high_en hok h.en
theorem Full.whole (h : Full D s) (hok : s.Ok most) : wholeV s = true := by
  unfold wholeV
  rw [h.en, h.front hok]
  simp
theorem Full.ended (h : Full D s) (hr : s.rd = D.length) : endedV s = true := by
  unfold endedV
  rw [h.en, hr]
  simp
theorem Full.readable (h : Full D s) (hok : s.Ok most) : readableV s = D.length - s.rd := by
  unfold readableV
  rw [h.front hok]
theorem Full.readN (h : Full D s) (hok : s.Ok most) {z : Int} (n : Nat) (hz : z = (n : Int)) : readN s z = min n (D.length - s.rd) := by
  subst hz
  unfold Go.Proofs.YtocolaccgoochaaDoor.readN
  rw [h.readable hok]
  have : (max (n : Int) 0).toNat = n := by omega
  rw [this]
theorem Full.bytes (h : Full D s) (hok : s.Ok most) {m : Nat} (hm : s.rd + m ≤ D.length) : bytesV s m = (D.drop s.rd).take m := bytes_of_cons hok h.c (by rw [h.front hok]; exact hm)
/-- behind the end -/
theorem Full.behind (h : Full D s) {o : Nat} {d : List UInt8} {e : Bool} (hl : D.length < o + d.length) : clashV s o d e := .inl ⟨_, h.en, .inl hl⟩
/-- the end elsewhere -/
theorem Full.elsewhere (h : Full D s) {o : Nat} {d : List UInt8} (hl : o + d.length ≠ D.length) : clashV s o d true := .inl ⟨_, h.en, .inr ⟨rfl, hl⟩⟩
/-- another byte -/
theorem Full.another (h : Full D s) {o : Nat} {b : UInt8} {e : Bool} (ho : o < D.length) (hb : D.getD o 0 ≠ b) : clashV s o [b] e := by
  refine .inr (.inr ⟨0, by simp, ?_⟩)
  cases hp : s.p o with
  | none => exact absurd hp (h.all o ho)
  | some x =>
    refine ⟨x, rfl, ?_⟩
    have := (h.c.same o x hp).2
    rw [this]
    simpa using hb
end
end Go.Proofs.YtocolaccgoochaaDoor
