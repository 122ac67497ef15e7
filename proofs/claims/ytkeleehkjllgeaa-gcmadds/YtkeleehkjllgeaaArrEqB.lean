/-
  '==' on arrays of bytes, and on arrays of such.
-/
import Derived.Test.YtkeleehkjllgeaaArrEq
import Derived.Test.YtkeleehkjllgeaaBlkW
namespace Go.Proofs.Ytkeleehkjllgeaa
open Go.RowKit
set_option linter.unusedVariables false

theorem bvs_bns (l : List UInt8) : bvs l = (l.map bn).map (Value.int .u8) := by
  unfold bvs
  rw [List.map_map]
  rfl
theorem bn_injective {x y : UInt8} (h : bn x = bn y) : x = y := by
  unfold bn at h
  exact UInt8.toNat_inj.1 (by omega)
theorem map_bn_inj (l r : List UInt8) : l.map bn = r.map bn ↔ l = r := by
  constructor
  · intro h
    exact List.map_inj_right (fun x y e => bn_injective e) |>.1 h
  · rintro rfl; rfl
theorem run_eql_bytes {P : Program} (w : World) (t e : TypeId) (n : Nat) (ht : P.underlying t = some (.array n e)) (he : P.underlying e = some (.int .u8)) (hs : (P.info? e).map (·.size) = some 1) (l r : List UInt8) (hl : l.length = n) (hr : r.length = n) :
    (binOp .eql t (.agg (bvs l).toArray) (.agg (bvs r).toArray)).run P w = .ok (.bool (decide (l = r))) w := by
  rw [bvs_bns, bvs_bns, run_eql_ints w t e n .u8 ht he hs (l.map bn) (r.map bn) (by simpa using hl) (by simpa using hr)]
  have h := map_bn_inj l r
  by_cases h' : l = r
  · simp [h']
  · have : ¬ l.map bn = r.map bn := fun x => h' (h.1 x)
    simp [h', this]
/-- rows of bytes, alike -/
theorem run_eql_rows {P : Program} (w : World) (t e e' : TypeId) (n m : Nat) (ht : P.underlying t = some (.array n e)) (he : P.underlying e = some (.array m e')) (he' : P.underlying e' = some (.int .u8)) (hs : (P.info? e).map (·.size) = some m) (hs' : (P.info? e').map (·.size) = some 1)
    (l : List UInt8) (hl : l.length = n * m) : (binOp .eql t (.agg (bvs l).toArray) (.agg (bvs l).toArray)).run P w = .ok (.bool true) w := by
  cases hq : P.info? e with
  | none => simp [hq] at hs
  | some i =>
    have h1 : i.size = m := by simpa [hq] using hs
    have ha : (isAgg e).run P w = .ok true w := by
      unfold isAgg
      rw [Sem.run_bind, run_underlying he w]
      rfl
    have hz : (sizeOf e).run P w = .ok m w := by simp [sizeOf, typeInfo, hq, h1]
    have hp : ∀ j, j < n → (part e (bvs l).toArray (j * m)).run P w = .ok (.agg (bvs ((l.drop (j * m)).take m)).toArray) w := fun j hj => by
      simp [part, Sem.run_bind, ha, hz, bvs, List.map_take, List.map_drop, List.extract_eq_take_drop]
    have hpl : ∀ j, j < n → ((l.drop (j * m)).take m).length = m := fun j hj => by
      have := Nat.mul_le_mul_right m (show j + 1 ≤ n by omega)
      rw [Nat.succ_mul] at this
      rw [List.length_take, List.length_drop]
      omega
    have he2 : ∀ (c : List UInt8), c.length = m → (Op.equalIn 9999 e (.agg (bvs c).toArray) (.agg (bvs c).toArray)).run P w = .ok true w := fun c hc => by
      rw [bvs_bns, run_equalIn_ints w 9997 e e' m .u8 he he' hs' (c.map bn) (c.map bn) (by simpa using hc) (by simpa using hc)]
      simp
    have loop : ∀ k s, s + k = n → (forIn (m := Sem) (List.range' s k) ((none, ()) : Option Bool × Unit) fun i __s => do
          let __do_lift ← part e (bvs l).toArray (i * m)
          let __do_lift_1 ← part e (bvs l).toArray (i * m)
          let __do_lift ← Op.equalIn 9999 e __do_lift __do_lift_1
          if (!__do_lift) = true then pure (ForInStep.done (some false, ())) else pure (ForInStep.yield (none, ()))).run P w = .ok (none, ()) w := by
      intro k
      induction k with
      | zero => intro s _; simp
      | succ k ih =>
        intro s hsn
        rw [List.range'_succ, List.forIn_cons]
        simp only [Sem.run_bind, hp s (by omega), Result.andThen_ok, he2 _ (hpl s (by omega))]
        simp only [Bool.not_true, Bool.false_eq_true, if_false, Sem.run_pure, Result.andThen_ok]
        exact ih (s + 1) (by omega)
    have key : (Op.equalIn (9999 + 1) t (.agg (bvs l).toArray) (.agg (bvs l).toArray)).run P w = .ok true w := by
      rw [Op.equalIn]
      simp only [Sem.run_bind, run_underlying ht, Result.andThen_ok, hz]
      rw [Std.Legacy.Range.forIn_eq_forIn_range']
      have h := loop n 0 (by omega)
      have e0 : List.range' 0 (Std.Legacy.Range.size [:n]) 1 = List.range' 0 n := by simp [Std.Legacy.Range.size]
      rw [e0, h]
      simp
    have key' : (Op.equal t (.agg (bvs l).toArray) (.agg (bvs l).toArray)).run P w = .ok true w := key
    simp only [binOp, Sem.run_bind, key', Result.andThen_ok, Sem.run_pure]
end Go.Proofs.Ytkeleehkjllgeaa
