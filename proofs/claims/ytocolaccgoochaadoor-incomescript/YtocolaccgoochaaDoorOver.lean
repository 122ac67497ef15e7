/-
  An array in memory as a slice; copy into a block of bytes that is known whole.
-/
import Derived.Test.YtocolaccgoochaaDoorBase
import Derived.Test.YtocolaccgoochaaDoorBlkW
namespace Go.Proofs.YtocolaccgoochaaDoor
open Go.RowKit
set_option linter.unusedVariables false

/-- an array in memory as a slice -/
theorem run_whole {P : Program} (u : World) (t e : TypeId) (n : Nat) (hu : P.underlying t = some (.array n e)) (hs : (P.info? e).map (·.size) = some 1) (g : Nat) :
    (Instr.sliceAt t (.pointer (some ⟨g, 0, none⟩)) none none none).run P u = .ok (.slice (some ⟨g, 0, none⟩) n n) u := by
  have ha : P.arrayLen t = n := by simp [Program.arrayLen, hu]
  have he : P.elem t = e := by simp [Program.elem, hu]
  have h := run_sliceAt_array_all (P := P) u t ⟨g, 0, none⟩ (by rw [ha, he]; exact hu)
  rw [h, he]
  cases hq : P.info? e with
  | none => simp [hq] at hs
  | some i =>
    have h1 : i.size = 1 := by simpa [hq] using hs
    simp [sizeOf, typeInfo, hq, h1, slicedAt, ha, addr_add]
/-- copy into a block of bytes that is known whole -/
theorem wpList_copy_over {w : World} {ops : Array Oper} {rest : List Oper} {o : Oper} {a : Act} {Q : Exit → Act → World → Prop} (hgd : o.guard = none) (d s : Operand)
    (ho : o.op = .call { callee := .builtin .copy, args := #[d, s], argTypes := #[30, 30] })
    (g off dn dc m c B k : Nat) (dp A : Option Addr) (l old : List UInt8) (t : TypeId) (hd : a.eval d = .slice dp dn dc) (hs : a.eval s = .slice A m c)
    (hr : Sl w B A m l) (hg : w.heap[g]? = some (.cells (bvs old).toArray t (0, 0))) (hk : k = min m dn) (hdp : 0 < k → dp = some ⟨g, off, none⟩) (hfit : off + k ≤ old.length)
    (h : ∀ w', Hid (w'.heap[g]? = some (.cells (bvs (splice old off (l.take k))).toArray t (0, 0))) → Hid (Only g w w') → wpList Tryd.prog ops Q rest (a.put o.dst (goInt k)) w') : wpList Tryd.prog ops Q (o :: rest) a w := by
  have hl := hr.1
  have hlen : (bvs (l.take k)).length = k := by rw [bvs_length, List.length_take]; omega
  rcases Nat.eq_zero_or_pos k with h0 | h0
  · subst h0
    refine wpList_copy_nothing hgd d s 30 30 ho 5 Tryd.underlying30 size1 dp A dn dc m c hd hs hk.symm ?_
    exact h w (show _ = _ by simpa [splice] using hg) (Only.refl _ _)
  · obtain ⟨b, o', rfl, hbB, hc⟩ := hr.2 (by omega)
    obtain rfl := hdp h0
    refine wpList_copy_own hgd d s 30 30 ho 5 Tryd.underlying30 size1 g off dn dc ⟨b, o', none⟩ m c hd hs _ t hg (bvs (l.take k)) (by rw [hlen]; exact hk) ?_ ?_ (bvs_one _) ?_
    · intro j u hu
      have hj : j < (l.take k).length := by
        have := (List.getElem?_eq_some_iff.1 hu).1
        rwa [bvs_length] at this
      have hj' : j < l.length := by rw [List.length_take] at hj; omega
      have hjk : j < k := by rw [List.length_take] at hj; omega
      rw [addr_add, hc j hj', ← hu]
      simp [bvs, hjk, hj']
    · rw [hlen]; simpa [bvs_length] using hfit
    · have e : (bvs old).toArray.toList.take off ++ (bvs (l.take k) ++ (bvs old).toArray.toList.drop (off + (bvs (l.take k)).length)) = bvs (splice old off (l.take k)) := by
        rw [← bvs_splice]
        rfl
      rw [e, hlen]
      exact h _ (setRow_heap _ _ _ _ _ _ hg) ((Only.refl g w).setRow _)
/-- a block of bytes as a slice -/
theorem Blk.sl {w : World} {g : Nat} {t : TypeId} {l : List UInt8} (h : Blk w g t l) (B n : Nat) (hB : g < B) (hn : l.length = n) : Sl w B (some ⟨g, 0, none⟩) n l := by
  refine ⟨hn, fun _ => ⟨g, 0, rfl, hB, fun j hj => ?_⟩⟩
  have e := h.cell j hj
  rw [Nat.zero_add, e]
  simp [bv, bn, hj]
theorem Sl.range {w : World} {B b off n : Nat} {l : List UInt8} (h : Sl w B (some ⟨b, off, none⟩) n l) : w.rangeAt b off (bvs l) := by
  intro j v hv
  have hj : j < l.length := by
    have := (List.getElem?_eq_some_iff.1 hv).1
    rwa [bvs_length] at this
  obtain ⟨b', off', e, _, hc⟩ := h.2 (by have := h.1; omega)
  injection e with e
  injection e with e1 e2
  subst e1 e2
  rw [hc j hj, ← hv]
  simp [bvs, hj]
theorem Sl.cellD {w : World} {B b off n : Nat} {l : List UInt8} (h : Sl w B (some ⟨b, off, none⟩) n l) (j : Nat) (hj : j < l.length) : w.cell? ⟨b, off + j, none⟩ = some (.int .u8 (bn (l.getD j 0))) := by
  have e := h.range j (bv l[j]) (by simp [bvs, hj])
  rw [e]
  simp [bv, bn, hj]
end Go.Proofs.YtocolaccgoochaaDoor
