/-
  Rows of numbers of 64 bits: one of the call's own, appends, slices cut. The document's set with all that one knows of it.
-/
import Derived.Test.YtjbhhmjkdhkhaaaRfD
namespace Go.Proofs.Ytjbhhmjkdhkhaaa
open Go.RowKit Go.Lib
set_option linter.unusedVariables false

def uvs (l : List Nat) : List Value := l.map fun x => .int .u64 ((x : Nat) : Int)
theorem uvs_length (l : List Nat) : (uvs l).length = l.length := by simp [uvs]
theorem uvs_append (a b : List Nat) : uvs (a ++ b) = uvs a ++ uvs b := by simp [uvs]
theorem uvs_one (l : List Nat) : ∀ v ∈ uvs l, v.oneCell' = true := by
  intro v hv
  obtain ⟨x, _, rfl⟩ := List.mem_map.1 hv
  rfl
theorem uvs_at (l : List Nat) (j : Nat) (h : j < l.length) : (uvs l)[j]? = some (.int .u64 ((l.getD j 0 : Nat) : Int)) := by
  simp [uvs, h]
/-- the call's own row of numbers -/
def OwnU (w : World) (B : Nat) (v : Value) (n : Nat) (l : List Nat) : Prop := w.ownsRow B 27 1 v n (uvs l)
section
variable {w w' : World} {B n : Nat} {v : Value} {l : List Nat}
theorem OwnU.len (h : OwnU w B v n l) : l.length = n := by have := h.1; rw [uvs_length] at this; omega
theorem OwnU.nil (w : World) (B : Nat) : OwnU w B (.slice none 0 0) 0 [] := World.ownsRow_nil w B _ _
theorem OwnU.form (h : OwnU w B v n l) : ∃ A c, v = .slice A n c ∧ n ≤ c ∧ c ≤ maxLen := by
  rcases h.2 with ⟨rfl, rfl⟩ | ⟨g, cap, cur, rfl, _, _, hn, hm, _⟩
  · exact ⟨none, 0, rfl, Nat.le_refl _, by simp [maxLen]⟩
  · exact ⟨_, cap, rfl, hn, hm⟩
theorem OwnU.blk {A : Option Addr} {c : Nat} (h : OwnU w B (.slice A n c) n l) : ∀ a, A = some a → B ≤ a.block ∧ a.block < w.heap.size := by
  rintro a rfl
  rcases h.2 with ⟨hv, _⟩ | ⟨g, cap, cur, hv, hB, hg, _⟩
  · injection hv with hA
    cases hA
  · injection hv with hA
    injection hA with hA
    subst hA
    exact ⟨hB, (Array.getElem?_eq_some_iff.1 hg).1⟩
theorem OwnU.sl {A : Option Addr} {c : Nat} (h : OwnU w B (.slice A n c) n l) : SlU w w.heap.size A n l := by
  refine ⟨h.len, fun hn => ?_⟩
  rcases h.2 with ⟨_, rfl⟩ | ⟨g, cap, cur, hv, hB, hg, hnc, hm, hs, ht⟩
  · omega
  · injection hv with hA
    subst hA
    refine ⟨g, 0, rfl, (Array.getElem?_eq_some_iff.1 hg).1, fun j hj => ?_⟩
    have h1 := World.ownsRow.cells (w := w) h (g := g) rfl j _ (uvs_at l j hj)
    rw [addr_at] at h1
    exact h1
theorem OwnU.below (h : OwnU w B v n l) (hb : Below w.heap.size w w') : OwnU w' B v n l :=
  World.ownsRow.kept (row := none) h ⟨hb.os, hb.tape, hb.output, hb.size, fun k hk _ => hb.block k hk⟩ (by cases v.ownBlock <;> simp)
theorem OwnU.base {B' : Nat} (h : OwnU w B v n l) (hB : B' ≤ B) : OwnU w B' v n l :=
  ⟨h.1, h.2.imp id fun ⟨g, cap, cur, e, hb, r⟩ => ⟨g, cap, cur, e, Nat.le_trans hB hb, r⟩⟩
theorem OwnU.alloc (h : OwnU w B v n l) (o : Obj) : OwnU (w.alloc o) B v n l := World.ownsRow.alloc h o
end
theorem num_info : (Try.prog.info? 27).map (fun i => (i.zero, i.size, i.bytes)) = some (some (.int .u64 0), 1, 8) := by kernel_rfl
theorem run_append_nums (w : World) (base : Nat) (ty : TypeId) (v : Value) (n : Nat) (l : List Nat) (hown : OwnU w base v n l) (B : Nat) (A : Option Addr) (m c : Nat) (r : List Nat) (hr : SlU w B A m r)
    (hlen : n + m ≤ 1000000) (hbase : base ≤ w.heap.size) :
    ∃ v' w', (Builtin.append_ #[22, 22] ty #[v, .slice A m c]).run Try.prog w = .ok v' w' ∧ OwnU w' base v' (n + m) (l ++ r) ∧ w.grownBy w' v.ownBlock ∧
      (v'.ownBlock = v.ownBlock ∨ v'.ownBlock = some w.heap.size) := by
  obtain ⟨i, hi, hz0, hz1, hz2⟩ := info_parts num_info
  have hm := hr.1
  by_cases h0 : m = 0
  · subst h0
    obtain rfl : r = [] := List.eq_nil_of_length_eq_zero hm
    refine ⟨v, w, ?_, by simpa using hown, ⟨rfl, rfl, rfl, Nat.le_refl _, fun _ _ _ => rfl⟩, .inl rfl⟩
    rcases hown.2 with ⟨rfl, rfl⟩ | ⟨g, cap, cur, rfl, _, _, hnc, _⟩ <;> cases A <;>
      simp [Builtin.append_, run_underlying Try.underlying22, sizeOf, typeInfo, Builtin.lenOf, Builtin.firstCells, loadCells, loadCellsFrom, storeCells, *]
  · obtain ⟨b, off, rfl, hb, hc⟩ := hr.2 (by omega)
    have hcells : ∀ j u, (uvs r)[j]? = some u → w.cell? ((⟨b, off, none⟩ : Addr).add j) = some u := by
      intro j u hu
      have hj : j < r.length := by
        have := (List.getElem?_eq_some_iff.1 hu).1
        rwa [uvs_length] at this
      rw [addr_at, hc j hj, ← hu, uvs_at r j hj]
    obtain ⟨v', w', hrun, h2, h3, _, h5⟩ := run_append_own_at (P := Try.prog) w base 22 ty 27 i (.int .u64 0) 1 8 Try.underlying22 hi hz0 hz1 hz2 rfl (by omega) v n (uvs l) hown ⟨b, off, none⟩ m c (uvs r)
      (by rw [uvs_length]; omega) hcells (uvs_one r) (by simp only [maxLen]; omega) (by omega) hbase
    exact ⟨v', w', hrun, by unfold OwnU; rw [uvs_append]; exact h2, h3, h5⟩
theorem wp_append_nums {w : World} {o : Oper} {a : Act} {K : Act → World → Prop} {Q : Exit → Act → World → Prop} (s x : Operand)
    (ho : o.op = .call { callee := .builtin .append, args := #[s, x], argTypes := #[22, 22] })
    (base : Nat) (v : Value) (n : Nat) (l : List Nat) (hs : a.eval s = v) (hown : OwnU w base v n l)
    (B : Nat) (A : Option Addr) (m c : Nat) (r : List Nat) (hx : a.eval x = .slice A m c) (hr : SlU w B A m r)
    (hlen : n + m ≤ 1000000) (hbase : base ≤ w.heap.size)
    (h : ∀ A' c' w', Hid (OwnU w' base (.slice A' (n + m) c') (n + m) (l ++ r)) → Hid (n + m ≤ c' ∧ c' ≤ maxLen) → Hid (Below base w w') → K (a.put o.dst (.slice A' (n + m) c')) w') : o.wp Try.prog a w K Q := by
  obtain ⟨v', w', hrun, h2, h3, _⟩ := run_append_nums w base o.type v n l hown B A m c r hr hlen hbase
  obtain ⟨A', c', rfl, hle, hcm⟩ := h2.form
  unfold Oper.wp execOp
  simp only [ho, resolve, invoke, builtin, Sem.run_bind, Sem.run_pure, Result.andThen_ok, List.map_toArray, List.map_cons, List.map_nil, hs, hx, hrun]
  exact h A' c' w' h2 ⟨hle, hcm⟩ ((Below.refl base w).grown h3 hbase fun k hk => (World.ownsRow.lt hown k hk).1)
theorem slU_one (w : World) (x : Nat) : SlU (w.alloc (.cells #[.int .u64 (x : Int)] 27)) (w.heap.size + 1) (some ⟨w.heap.size, 0, none⟩) 1 [x] := by
  refine ⟨rfl, fun _ => ⟨w.heap.size, 0, rfl, by omega, fun j hj => ?_⟩⟩
  obtain rfl : j = 0 := by simp at hj; omega
  simp
/-- a slice of one number -/
theorem wp_num {o : Oper} {a : Act} {w : World} {K : Act → World → Prop} {Q : Exit → Act → World → Prop} (x : Operand) (ho : o.op = .buildSlice 22 1 #[(0, x)])
    (b : Nat) (hx : a.eval x = .int .u64 (b : Int))
    (h : ∀ g w', Hid (w.heap.size ≤ g ∧ g < w'.heap.size) → Hid (SlU w' (g + 1) (some ⟨g, 0, none⟩) 1 [b]) → Hid (Below w.heap.size w w') → K (a.put o.dst (.slice (some ⟨g, 0, none⟩) 1 1)) w') : o.wp Try.prog a w K Q := by
  have h1 := h w.heap.size (w.alloc (.cells #[.int .u64 (b : Int)] 27)) ⟨Nat.le_refl _, by simp⟩ (slU_one w b) ((Below.refl _ _).alloc (Nat.le_refl _) _)
  have hp : (#[(0, x)].map fun (i, x) => (i, a.eval x)) = #[(0, Value.int .u64 (b : Int))] := by simp [hx]
  unfold Oper.wp execOp
  simp only [ho, hp]
  clear h hp hx
  go_simp
  exact h1
/-- slices of numbers cut -/
theorem num_elem : Try.prog.elem 22 = 27 := by simp [Program.elem, Try.underlying22]
theorem run_cutU (u : World) (A : Option Addr) (hA : ∀ a, A = some a → a.spot = none) (n c i : Nat) (hi : i ≤ c) : (Instr.slice 22 (.slice A n c) none (some (.int .i64 (i : Int))) none).run Try.prog u = .ok (.slice A i c) u := by
  obtain ⟨d, hd, _, hz1, _⟩ := info_parts num_info
  have h := run_slice_h (P := Try.prog) u 22 A n c (by rw [num_elem]; exact Try.underlying22) .i64 (i : Int) (by omega) (by omega)
  rw [h, num_elem]
  cases A with
  | none => simp [sizeOf, typeInfo, hd, hz1, sliced]
  | some a =>
    obtain ⟨b, o, sp⟩ := a
    have : sp = none := hA _ rfl
    subst this
    simp [sizeOf, typeInfo, hd, hz1, sliced, addr_at]
theorem run_cutU_from (u : World) (A : Option Addr) (n c i : Nat) (hi : i ≤ n) (hn : n ≤ c) (z : Int) (hz : z = (i : Int)) : (Instr.slice 22 (.slice A n c) (some (.int .i64 z)) none none).run Try.prog u = .ok (.slice (if c = i then A else A.map (·.add i)) (n - i) (c - i)) u := by
  subst hz
  obtain ⟨d, hd, _, hz1, _⟩ := info_parts num_info
  have h := run_slice_l (P := Try.prog) u 22 A n c (by rw [num_elem]; exact Try.underlying22) .i64 (i : Int) (by omega) (by omega)
  rw [h, num_elem]
  simp [sizeOf, typeInfo, hd, hz1, sliced]
theorem SlU.drop {w : World} {B n : Nat} {A : Option Addr} {l : List Nat} (h : SlU w B A n l) (i c : Nat) (hi : i ≤ n) (hn : n ≤ c) : SlU w B (if c = i then A else A.map (·.add i)) (n - i) (l.drop i) := by
  refine ⟨by rw [List.length_drop, h.1], fun h0 => ?_⟩
  obtain ⟨b, off, rfl, hb, hc⟩ := h.2 (by omega)
  rw [if_neg (by omega)]
  refine ⟨b, off + i, by simp [addr_at], hb, fun j hj => ?_⟩
  rw [List.length_drop] at hj
  have := hc (i + j) (by omega)
  rw [show off + i + j = off + (i + j) by omega, this, getD_drop]
theorem SlU.take {w : World} {B n : Nat} {A : Option Addr} {l : List Nat} (h : SlU w B A n l) (i : Nat) (hi : i ≤ n) : SlU w B A i (l.take i) := by
  have hl := h.1
  refine ⟨by rw [List.length_take]; omega, fun h0 => ?_⟩
  obtain ⟨b, off, e, hb, hc⟩ := h.2 (by omega)
  refine ⟨b, off, e, hb, fun j hj => ?_⟩
  rw [List.length_take] at hj
  have := hc j (by omega)
  rw [this]
  rw [List.getD_eq_getElem?_getD, List.getD_eq_getElem?_getD, List.getElem?_take, if_pos (by omega)]
/-- the document's set at block g: what s has; at most so many numbers -/
structure RefS (w : World) (g : Nat) (A : Option Addr) (cnt : Nat) (s : RS) : Prop where
  ex : ∃ n c N, RefW w g A n c s.most s.fl N ∧ OfS s N ∧ n ≤ cnt
  at_ : ∀ a, A = some a → a.block < w.heap.size ∧ a.block ≠ g ∧ a.spot = none
theorem RefS.below {w w' : World} {g cnt : Nat} {A : Option Addr} {s : RS} (h : RefS w g A cnt s) (hb : Below w.heap.size w w') : RefS w' g A cnt s := by
  obtain ⟨n, c, N, h1, h2, h3⟩ := h.ex
  exact ⟨⟨n, c, N, h1.below hb, h2, h3⟩, fun a ha => ⟨Nat.lt_of_lt_of_le (h.at_ a ha).1 hb.size, (h.at_ a ha).2⟩⟩
theorem RefS.drewN {w : World} {g cnt : Nat} {A : Option Addr} {s : RS} (h : RefS w g A cnt s) (k : Nat) : RefS (w.drewN k) g A cnt s := by
  obtain ⟨n, c, N, h1, h2, h3⟩ := h.ex
  exact ⟨⟨n, c, N, ⟨h1.r, h1.s, h1.le⟩, h2, h3⟩, h.at_⟩
theorem RefS.lt {w : World} {g cnt : Nat} {A : Option Addr} {s : RS} (h : RefS w g A cnt s) : g < w.heap.size := by
  obtain ⟨n, c, N, h1, h2, h3⟩ := h.ex
  exact h1.r.lt
/-- what a call on the other set leaves of it -/
theorem RefS.moves {w w' : World} {g cnt g1 : Nat} {A A1 A1' : Option Addr} {s : RS} (h : RefS w g A cnt s) (m : Moves g1 A1 A1' w w') (h1 : g ≠ g1) (h2 : ∀ b, A1 = some b → b.block ≠ g) (h3 : ∀ a, A = some a → a.block ≠ g1 ∧ ∀ b, A1 = some b → a.block ≠ b.block) : RefS w' g A cnt s := by
  obtain ⟨n, c, N, k1, k2, k3⟩ := h.ex
  refine ⟨⟨n, c, N, ⟨(m.block g k1.r.lt h1 (fun a ha e => h2 a ha e.symm)).trans k1.r, ⟨k1.s.1, fun hn => ?_⟩, k1.le⟩, k2, k3⟩, fun a ha => ⟨Nat.lt_of_lt_of_le (h.at_ a ha).1 m.size, (h.at_ a ha).2⟩⟩
  obtain ⟨b, off, e, hb, hc⟩ := k1.s.2 hn
  have h4 := h3 _ e
  refine ⟨b, off, e, Nat.lt_of_lt_of_le hb m.size, fun j hj => ?_⟩
  rw [World.cell?_of_block (m.block b hb h4.1 (fun a ha => h4.2 a ha))]
  exact hc j hj
end Go.Proofs.Ytjbhhmjkdhkhaaa
