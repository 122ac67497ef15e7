/-
  '==' and '!=' on arrays of integers.
-/
import Derived.Test.YtkeleehkjllgeaaArr
import Derived.Laws.StructEq
namespace Go.Proofs.Ytkeleehkjllgeaa
open Go.RowKit
set_option linter.unusedVariables false

theorem run_equalIn_ints {P : Program} (w : World) (d : Nat) (t e : TypeId) (n : Nat) (k : IntKind) (ht : P.underlying t = some (.array n e)) (he : P.underlying e = some (.int k)) (hs : (P.info? e).map (·.size) = some 1)
    (l r : List Int) (hl : l.length = n) (hr : r.length = n) :
    (Op.equalIn (d + 2) t (.agg (l.map (Value.int k)).toArray) (.agg (r.map (Value.int k)).toArray)).run P w = .ok (decide (l = r)) w := by
  cases hq : P.info? e with
  | none => simp [hq] at hs
  | some i =>
    have h1 : i.size = 1 := by simpa [hq] using hs
    have ha : (isAgg e).run P w = .ok false w := by
      unfold isAgg
      rw [Sem.run_bind, run_underlying he w]
      rfl
    have hp : ∀ (x : List Int) j, (hj : j < x.length) → (part e (x.map (Value.int k)).toArray (j * 1)).run P w = .ok (.int k x[j]) w := fun x j hj => by
      simp [part, Sem.run_bind, ha, hj]
    have hi : ∀ a b : Int, (Op.equalIn (d + 1) e (.int k a) (.int k b)).run P w = .ok (a == b) w := fun a b => by
      simp [Op.equalIn, Sem.run_bind, run_underlying he]
    have hz : (sizeOf e).run P w = .ok 1 w := by simp [sizeOf, typeInfo, hq, h1]
    have loop : ∀ m s, s + m = n → (forIn (m := Sem) (List.range' s m) ((none, ()) : Option Bool × Unit) fun i __s => do
          let __do_lift ← part e (List.map (Value.int k) l).toArray (i * 1)
          let __do_lift_1 ← part e (List.map (Value.int k) r).toArray (i * 1)
          let __do_lift ← Op.equalIn (d + 1) e __do_lift __do_lift_1
          if (!__do_lift) = true then pure (ForInStep.done (some false, ())) else pure (ForInStep.yield (none, ()))).run P w =
        .ok (if l.drop s = r.drop s then (none, ()) else (some false, ())) w := by
      intro m
      induction m with
      | zero =>
        intro s hsn
        have e1 : l.drop s = [] := List.drop_of_length_le (by omega)
        have e2 : r.drop s = [] := List.drop_of_length_le (by omega)
        rw [e1, e2]
        simp
      | succ m ih =>
        intro s hsn
        have h1 : s < l.length := by omega
        have h2 : s < r.length := by omega
        rw [List.range'_succ, List.forIn_cons]
        simp only [Sem.run_bind, hp l s h1, hp r s h2, hi, Result.andThen_ok]
        have key : (l.drop s = r.drop s) = (l[s] = r[s] ∧ l.drop (s + 1) = r.drop (s + 1)) := by
          rw [List.drop_eq_getElem_cons h1, List.drop_eq_getElem_cons h2, List.cons.injEq]
        by_cases hab : l[s] = r[s]
        · have hb : (l[s] == r[s]) = true := by simp [hab]
          rw [hb]
          simp only [Bool.not_true, Bool.false_eq_true, if_false, Sem.run_pure, Result.andThen_ok]
          rw [ih (s + 1) (by omega)]
          simp only [key, hab, true_and]
        · have hb : (l[s] == r[s]) = false := by simp [hab]
          rw [hb]
          simp only [Bool.not_false, if_true, Sem.run_pure, Result.andThen_ok, key, hab, false_and, if_false]
    rw [Op.equalIn]
    simp only [Sem.run_bind, run_underlying ht, Result.andThen_ok, hz]
    rw [Std.Legacy.Range.forIn_eq_forIn_range']
    have h := loop n 0 (by omega)
    simp only [List.drop_zero] at h
    have e0 : List.range' 0 (Std.Legacy.Range.size [:n]) 1 = List.range' 0 n := by simp [Std.Legacy.Range.size]
    rw [e0, h]
    by_cases hlr : l = r
    · simp [hlr]
    · simp [hlr]
theorem run_equal_ints {P : Program} (w : World) (t e : TypeId) (n : Nat) (k : IntKind) (ht : P.underlying t = some (.array n e)) (he : P.underlying e = some (.int k)) (hs : (P.info? e).map (·.size) = some 1)
    (l r : List Int) (hl : l.length = n) (hr : r.length = n) :
    (Op.equal t (.agg (l.map (Value.int k)).toArray) (.agg (r.map (Value.int k)).toArray)).run P w = .ok (decide (l = r)) w := run_equalIn_ints w 9998 t e n k ht he hs l r hl hr
theorem run_eql_ints {P : Program} (w : World) (t e : TypeId) (n : Nat) (k : IntKind) (ht : P.underlying t = some (.array n e)) (he : P.underlying e = some (.int k)) (hs : (P.info? e).map (·.size) = some 1)
    (l r : List Int) (hl : l.length = n) (hr : r.length = n) :
    (binOp .eql t (.agg (l.map (Value.int k)).toArray) (.agg (r.map (Value.int k)).toArray)).run P w = .ok (.bool (decide (l = r))) w := by
  simp only [binOp, Sem.run_bind, run_equal_ints w t e n k ht he hs l r hl hr, Result.andThen_ok, Sem.run_pure]
theorem run_neq_ints {P : Program} (w : World) (t e : TypeId) (n : Nat) (k : IntKind) (ht : P.underlying t = some (.array n e)) (he : P.underlying e = some (.int k)) (hs : (P.info? e).map (·.size) = some 1)
    (l r : List Int) (hl : l.length = n) (hr : r.length = n) :
    (binOp .neq t (.agg (l.map (Value.int k)).toArray) (.agg (r.map (Value.int k)).toArray)).run P w = .ok (.bool (!decide (l = r))) w := by
  simp only [binOp, Sem.run_bind, run_equal_ints w t e n k ht he hs l r hl hr, Result.andThen_ok, Sem.run_pure]
end Go.Proofs.Ytkeleehkjllgeaa
