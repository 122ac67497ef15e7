/-
  Digests held against each other; slices appended to a slice of slices of the call's own.
-/
import Derived.Test.YtnjdloocalfkmaaDoorShaR
import Derived.Test.YtnjdloocalfkmaaDoorArrEq
namespace Go.Proofs.YtnjdloocalfkmaaDoor
open Go.RowKit Go.Joins
set_option linter.unusedVariables false

theorem bvs_ints (l : List UInt8) : bvs l = (l.map fun b => (b.toNat : Int)).map (Value.int .u8) := by simp [bvs, bv, Function.comp_def]
theorem toInts_inj (l r : List UInt8) : (l.map (fun b => (b.toNat : Int)) = r.map fun b => (b.toNat : Int)) ↔ l = r := by
  constructor
  · intro h
    refine List.map_inj_right (f := fun b : UInt8 => (b.toNat : Int)) (fun x y hxy => UInt8.toNat_inj.1 (by have hxy : (x.toNat : Int) = (y.toNat : Int) := hxy; omega)) |>.1 h
  · rintro rfl; rfl
theorem run_eql_digests (l r : List UInt8) (hl : l.length = 32) (hr : r.length = 32) (u : World) :
    (binOp .eql 27 (.agg (bvs l).toArray) (.agg (bvs r).toArray)).run Tryd.prog u = .ok (.bool (decide (l = r))) u := by
  have h := run_eql_ints (P := Tryd.prog) u 27 5 32 .u8 Tryd.underlying27 Tryd.underlying5 size1 (l.map fun b => (b.toNat : Int)) (r.map fun b => (b.toNat : Int)) (by simpa using hl) (by simpa using hr)
  rw [bvs_ints, bvs_ints, h]
  simp only [toInts_inj]

theorem row_info : (Tryd.prog.info? 22).map (fun i => (i.zero, i.size, i.bytes)) = some (some (.slice none 0 0), 1, 24) := by kernel_rfl
/-- a slice of slices of the call's own -/
def OwnR (w : World) (B : Nat) (v : Value) (n : Nat) (vs : List Value) : Prop := w.ownsRow B 22 1 v n vs
theorem OwnR.nil (w : World) (B : Nat) : OwnR w B (.slice none 0 0) 0 [] := World.ownsRow_nil w B _ _
theorem OwnR.form {w : World} {B n : Nat} {v : Value} {vs : List Value} (h : OwnR w B v n vs) : ∃ A c, v = .slice A n c ∧ n ≤ c ∧ c ≤ maxLen := by
  rcases h.2 with ⟨rfl, rfl⟩ | ⟨g, cap, cur, rfl, _, _, hn, hm, _⟩
  · exact ⟨none, 0, rfl, Nat.le_refl _, by simp [maxLen]⟩
  · exact ⟨_, cap, rfl, hn, hm⟩
theorem OwnR.below {w w' : World} {B n : Nat} {v : Value} {vs : List Value} (h : OwnR w B v n vs) (hb : Below w.heap.size w w') : OwnR w' B v n vs :=
  World.ownsRow.kept (row := none) h ⟨hb.os, hb.tape, hb.output, hb.size, fun k hk _ => hb.block k hk⟩ (by cases v.ownBlock <;> simp)
theorem OwnR.lt {w : World} {B n : Nat} {v : Value} {vs : List Value} (h : OwnR w B v n vs) : ∀ k, v.ownBlock = some k → B ≤ k ∧ k < w.heap.size := fun k hk => World.ownsRow.lt h k hk

/-- one slice more -/
theorem wpList_append_piece {w : World} {ops : Array Oper} {rest : List Oper} {o : Oper} {a : Act} {Q : Exit → Act → World → Prop} (hgd : o.guard = none) (s x : Operand)
    (ho : o.op = .call { callee := .builtin .append, args := #[s, x], argTypes := #[39, 39] })
    (base : Nat) (v : Value) (n : Nat) (vs : List Value) (hs : a.eval s = v) (hown : OwnR w base v n vs) (g c : Nat) (p : Value) (hx : a.eval x = .slice (some ⟨g, 0, none⟩) 1 c) (hp : w.cell? ⟨g, 0, none⟩ = some p) (h1 : p.oneCell' = true)
    (hlen : n ≤ 1000) (hbase : base ≤ w.heap.size) (w0 : World) (hb : Below base w0 w)
    (h : ∀ A' c' w', Hid (OwnR w' base (.slice A' (n + 1) c') (n + 1) (vs ++ [p])) → Hid (w.grownBy w' v.ownBlock) → ((Value.slice A' (n + 1) c').ownBlock = v.ownBlock ∨ (Value.slice A' (n + 1) c').ownBlock = some w.heap.size) → Hid (Below base w0 w') →
      wpList Tryd.prog ops Q rest (a.put o.dst (.slice A' (n + 1) c')) w') :
    wpList Tryd.prog ops Q (o :: rest) a w := by
  obtain ⟨i, hi, hz0, hz1, hz2⟩ := info_parts row_info
  refine wpList_plain hgd fun K hK => ?_
  obtain ⟨v', w', hrun, h2, h3, _, h5⟩ := run_append_own_at (P := Tryd.prog) w base 39 o.type 22 i (.slice none 0 0) 1 24 Tryd.underlying39 hi hz0 hz1 hz2 rfl (by omega) v n vs hown ⟨g, 0, none⟩ 1 c [p] rfl
    (fun j u hu => by
      cases j with
      | zero => simp at hu; subst hu; exact hp
      | succ j => simp at hu)
    (by intro u hu; simp at hu; subst hu; exact h1) (by simp only [maxLen]; omega) (by omega) hbase
  obtain ⟨A', c', rfl, hle, hcm⟩ := OwnR.form h2
  unfold Oper.wp execOp
  simp only [ho, resolve, invoke, builtin, Sem.run_bind, Sem.run_pure, Result.andThen_ok, List.map_toArray, List.map_cons, List.map_nil, hs, hx, hrun]
  exact hK _ _ (h A' c' w' h2 h3 h5 (hb.grown h3 hbase fun k hk => (World.ownsRow.lt hown k hk).1))
end Go.Proofs.YtnjdloocalfkmaaDoor
