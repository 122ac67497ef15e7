/-
  Appends onto a slice of ranges of the call's own.
-/
import Derived.Test.YtcipmfhacloegaaRgW
import Derived.Maps.AppendAt
import Derived.Deep.AppendLies
namespace Go.Proofs.Ytcipmfhacloegaa
open Go.RowKit
set_option linter.unusedVariables false

theorem range_info : (Try.prog.info? 44).map (fun i => (i.zero, i.size, i.bytes)) = some (some (.agg #[.int .u64 0, .int .u64 0]), 2, 16) := by kernel_rfl
/-- an append of ranges onto a slice of the call's own -/
theorem run_append_ranges (w : World) (base : Nat) (ty : TypeId) (v : Value) (n : Nat) (l : List (Nat × Nat)) (hown : OwnR w base v n l) (b off m c : Nat) (hm : 0 < m) (r : List (Nat × Nat)) (hr : SlR w (b + 1) (some ⟨b, off, none⟩) m r)
    (hlen : n + m ≤ 1000000) (hbase : base ≤ w.heap.size) :
    ∃ v' w', (Builtin.append_ #[23, 23] ty #[v, .slice (some ⟨b, off, none⟩) m c]).run Try.prog w = .ok v' w' ∧ OwnR w' base v' (n + m) (l ++ r) ∧ w.grownBy w' v.ownBlock ∧
      (v'.ownBlock = v.ownBlock ∨ v'.ownBlock = some w.heap.size) := by
  obtain ⟨i, hi, hz0, hz1, hz2⟩ := info_parts range_info
  have hml := hr.1
  obtain ⟨b', off', e, hb, hc⟩ := hr.2 hm
  have e : b = b' ∧ off = off' := by simpa using e
  obtain ⟨rfl, rfl⟩ := e
  have hcells : ∀ j u, (rvs r)[j]? = some u → w.cell? ((⟨b, off, none⟩ : Addr).add j) = some u := by
    intro j u hu
    have hj : j < r.length * 2 := by
      have := (List.getElem?_eq_some_iff.1 hu).1
      rwa [rvs_length] at this
    have hadd : (⟨b, off, none⟩ : Addr).add j = ⟨b, off + j, none⟩ := by unfold Addr.add; split <;> simp_all
    rw [hadd]
    obtain ⟨h1, h2⟩ := hc (j / 2) (by omega)
    obtain ⟨g1, g2⟩ := rvs_at r (j / 2) (by omega)
    rcases (show j = j / 2 * 2 ∨ j = j / 2 * 2 + 1 by omega) with hj2 | hj2
    · rw [hj2] at hu ⊢
      rw [g1] at hu
      rw [h1, hu]
    · rw [hj2] at hu ⊢
      rw [g2] at hu
      rw [show off + (j / 2 * 2 + 1) = off + j / 2 * 2 + 1 by omega, h2, hu]
  obtain ⟨v', w', hrun, h2, h3, _, h5⟩ := run_append_own_at (P := Try.prog) w base 23 ty 44 i (.agg #[.int .u64 0, .int .u64 0]) 2 16 Try.underlying23 hi hz0 hz1 hz2 rfl (by omega) v n (rvs l) hown ⟨b, off, none⟩ m c (rvs r)
    (by rw [rvs_length]; omega) hcells (rvs_one r) (by simp only [maxLen]; omega) (by omega) hbase
  exact ⟨v', w', hrun, by unfold OwnR; rw [rvs_append]; exact h2, h3, h5⟩
theorem OwnR.form {w : World} {B n : Nat} {v : Value} {l : List (Nat × Nat)} (h : OwnR w B v n l) : ∃ A c, v = .slice A n c ∧ n ≤ c ∧ c ≤ maxLen := by
  rcases h.2 with ⟨rfl, rfl⟩ | ⟨g, cap, cur, rfl, _, _, hn, hm, _⟩
  · exact ⟨none, 0, rfl, Nat.le_refl _, by simp [maxLen]⟩
  · exact ⟨_, cap, rfl, hn, hm⟩
theorem OwnR.alloc {w : World} {B n : Nat} {v : Value} {l : List (Nat × Nat)} (h : OwnR w B v n l) (o : Obj) : OwnR (w.alloc o) B v n l := World.ownsRow.alloc h o
theorem wpList_append_ranges {w : World} {ops : Array Oper} {rest : List Oper} {o : Oper} {a : Act} {Q : Exit → Act → World → Prop} (hgd : o.guard = none) (s x : Operand)
    (ho : o.op = .call { callee := .builtin .append, args := #[s, x], argTypes := #[23, 23] })
    (base : Nat) (v : Value) (n : Nat) (l : List (Nat × Nat)) (hs : a.eval s = v) (hown : OwnR w base v n l)
    (b off m c : Nat) (r : List (Nat × Nat)) (hx : a.eval x = .slice (some ⟨b, off, none⟩) m c) (hr : SlR w (b + 1) (some ⟨b, off, none⟩) m r) (hm : 0 < m)
    (hlen : n + m ≤ 1000000) (hbase : base ≤ w.heap.size) (w0 : World) (hb : Below base w0 w)
    (h : ∀ A' c' w', Hid (OwnR w' base (.slice A' (n + m) c') (n + m) (l ++ r)) → Hid (w.grownBy w' v.ownBlock) → Hid (Below base w0 w') → wpList Try.prog ops Q rest (a.put o.dst (.slice A' (n + m) c')) w') :
    wpList Try.prog ops Q (o :: rest) a w := by
  refine wpList_plain hgd fun K hK => ?_
  obtain ⟨v', w', hrun, h2, h3, _⟩ := run_append_ranges w base o.type v n l hown b off m c hm r hr hlen hbase
  obtain ⟨A', c', rfl, hle, hcm⟩ := h2.form
  unfold Oper.wp execOp
  simp only [ho, resolve, invoke, builtin, Sem.run_bind, Sem.run_pure, Result.andThen_ok, List.map_toArray, List.map_cons, List.map_nil, hs, hx, hrun]
  exact hK _ _ (h A' c' w' h2 h3 (hb.grown h3 hbase fun k hk => (World.ownsRow.lt hown k hk).1))
theorem slR_lit (w : World) (x y : Nat) : SlR (w.alloc (.cells #[.int .u64 (x : Int), .int .u64 (y : Int)] 44)) (w.heap.size + 1) (some ⟨w.heap.size, 0, none⟩) 1 [(x, y)] := by
  refine ⟨rfl, fun _ => ⟨w.heap.size, 0, rfl, by omega, fun j hj => ?_⟩⟩
  obtain rfl : j = 0 := by simp at hj; omega
  simp
theorem ownR_lit (w : World) (base : Nat) (hb : base ≤ w.heap.size) (x y : Nat) : OwnR (w.alloc (.cells #[.int .u64 (x : Int), .int .u64 (y : Int)] 44)) base (.slice (some ⟨w.heap.size, 0, none⟩) 1 1) 1 [(x, y)] :=
  ⟨rfl, .inr ⟨w.heap.size, 1, _, rfl, hb, heap_alloc_new w _, Nat.le_refl _, by simp [maxLen], rfl, rfl⟩⟩
end Go.Proofs.Ytcipmfhacloegaa
