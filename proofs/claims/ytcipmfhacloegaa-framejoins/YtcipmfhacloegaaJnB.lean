/-
  FrameJoins: the frames that numbers tell, one behind the other; bytes laid behind a row, and what lies apart from it.
-/
import Derived.Test.YtcipmfhacloegaaJnA
namespace Go.Proofs.Ytcipmfhacloegaa
open Go.RowKit
set_option linter.unusedVariables false

/-- the frames that the first j numbers tell -/
def jL (zs : List Nat) (j : Nat) : List Fr := (List.range j).map fun i => jF (zs.getD i 0)
theorem jL_len (zs : List Nat) (j : Nat) : (jL zs j).length = j := by simp [jL]
theorem jL_succ (zs : List Nat) (j : Nat) : jL zs (j + 1) = jL zs j ++ [jF (zs.getD j 0)] := by simp [jL, List.range_succ]
theorem jL_join (zs : List Nat) (j : Nat) : joinF (jL zs (j + 1)) = joinF (jL zs j) ++ putF (jF (zs.getD j 0)) := by rw [jL_succ, joinF_append]; simp [joinF]
theorem jL_mem {zs : List Nat} {j : Nat} {f : Fr} (h : f ∈ jL zs j) : ∃ i, i < j ∧ jF (zs.getD i 0) = f := by simpa [jL] using h
theorem jF_may {z : Nat} (hz : z < 18446744073709551616) : MayF (jF z) := jK_may _ _ (by omega)
theorem jF_nums {z : Nat} (hz : z < 18446744073709551616) : FrN (jF z) := jK_nums _ _ (by omega)
theorem jL_may {zs : List Nat} {j : Nat} (hz : ∀ i, zs.getD i 0 < 18446744073709551616) : ∀ f ∈ jL zs j, MayF f := by
  intro f hf
  obtain ⟨i, _, rfl⟩ := jL_mem hf
  exact jF_may (hz i)
theorem jL_kind {zs : List Nat} {j : Nat} : ∀ f ∈ jL zs j, f.kind ≠ 0 := by
  intro f hf
  obtain ⟨i, _, rfl⟩ := jL_mem hf
  exact jK_kind _ _
theorem jL_at (zs : List Nat) {i j : Nat} (h : i < j) : (jL zs j)[i]? = some (jF (zs.getD i 0)) := by simp [jL, h]
/-- a frame whose names and tokens are nil, whose data lies in another block than A -/
def ApartJ (A : Option Addr) (p : Fp) : Prop := (p.ca = none ∧ p.ta = none) ∧ ∀ a a1, p.da = some a → A = some a1 → a.block ≠ a1.block
theorem block_none {A : Option Addr} {n c : Nat} (h : A = none) : (Value.slice A n c).ownBlock = none := by subst h; rfl
theorem FrO.grownB {w w' : World} {B B' m d : Nat} {A1 : Option Addr} {f : Fr} {p : Fp} {l : List UInt8} (h : FrO w B f p) (hr : Own w B' (.slice A1 m d) m l) (hg : w.grownBy w' (Value.slice A1 m d).ownBlock) (ha : ApartJ A1 p) : FrO w' B f p := by
  refine ⟨own_grown (e := 0) (by decide) h.r hr hg, World.ownsRow.kept h.d hg ?_, World.ownsRow.kept h.c hg (.inl (block_none ha.1.1)), World.ownsRow.kept h.t hg (.inl (block_none ha.1.2))⟩
  cases hd : p.da with
  | none => exact .inl rfl
  | some a =>
    right
    cases hA : A1 with
    | none => simp [Value.ownBlock]
    | some a1 =>
      have := ha.2 a a1 hd hA
      simpa [Value.ownBlock] using this
theorem OwnF.grownB {w w' : World} {B B' k m d : Nat} {v : Value} {A1 : Option Addr} {fps : List (Fr × Fp)} {l : List UInt8} (h : OwnF w B v k fps) (hr : Own w B' (.slice A1 m d) m l) (hg : w.grownBy w' (Value.slice A1 m d).ownBlock) (ha : ∀ x ∈ fps, ApartJ A1 x.2) : OwnF w' B v k fps :=
  ⟨own_grown (e := 0) (by decide) h.row hr hg, fun x hx => (h.each x hx).grownB hr hg (ha x hx)⟩
/-- where a row lies behind an append: where it lay, or in a block that is new -/
def NextJ (w : World) (A A' : Option Addr) : Prop := ∀ a', A' = some a' → (∃ a, A = some a ∧ a'.block = a.block) ∨ a'.block = w.heap.size
theorem ApartJ.next {w : World} {B : Nat} {A A' : Option Addr} {f : Fr} {p : Fp} (h : ApartJ A p) (hf : FrO w B f p) (hn : NextJ w A A') : ApartJ A' p := by
  refine ⟨h.1, fun a a1 ha ha1 e => ?_⟩
  rcases hn a1 ha1 with ⟨a2, ha2, e2⟩ | e2
  · exact h.2 a a2 ha ha2 (e.trans e2)
  · have := (World.ownsRow.lt hf.d a.block (by rw [ha]; rfl)).2
    omega
/-- a frame whose lists are newer than a row is apart from it -/
theorem ApartJ.new {w w' : World} {B B' m d : Nat} {A1 : Option Addr} {f : Fr} {p : Fp} {l : List UInt8} (hp : p.ca = none ∧ p.ta = none) (hr : Own w B' (.slice A1 m d) m l) (hf : FrO w' B f p) (hB : w.heap.size ≤ B) : ApartJ A1 p := by
  refine ⟨hp, fun a a1 ha ha1 e => ?_⟩
  have h1 := (World.ownsRow.lt hf.d a.block (by rw [ha]; rfl)).1
  have h2 := (World.ownsRow.lt hr a1.block (by rw [ha1]; rfl)).2
  omega
theorem wpList_append_bytesJ {w : World} {ops : Array Oper} {rest : List Oper} {o : Oper} {a : Act} {Q : Exit → Act → World → Prop} (hgd : o.guard = none) (s x : Operand)
    (ho : o.op = .call { callee := .builtin .append, args := #[s, x], argTypes := #[24, 24] })
    (base : Nat) (A1 : Option Addr) (n d : Nat) (l : List UInt8) (hs : a.eval s = .slice A1 n d) (hown : Own w base (.slice A1 n d) n l)
    (B : Nat) (A : Option Addr) (m c : Nat) (r : List UInt8) (hx : a.eval x = .slice A m c) (hr : Sl w B A m r)
    (hlen : n + m ≤ 1000000) (hbase : base ≤ w.heap.size) (w0 : World) (hb : Below base w0 w)
    (h : ∀ A' c' w', Hid (Own w' base (.slice A' (n + m) c') (n + m) (l ++ r)) → Hid (w.grownBy w' (Value.slice A1 n d).ownBlock) → Hid (NextJ w A1 A') → Hid (Below base w0 w') → wpList Try.prog ops Q rest (a.put o.dst (.slice A' (n + m) c')) w') :
    wpList Try.prog ops Q (o :: rest) a w := by
  refine wpList_plain hgd fun K hK => ?_
  obtain ⟨v', w', hrun, h2, h3, h4⟩ := run_append_bytes w base o.type (.slice A1 n d) n l hown B A m c r hr (by omega) hbase
  obtain ⟨A', c', rfl, hle, hcm⟩ := h2.form
  unfold Oper.wp execOp
  simp only [ho, resolve, invoke, builtin, Sem.run_bind, Sem.run_pure, Result.andThen_ok, List.map_toArray, List.map_cons, List.map_nil, hs, hx, hrun]
  refine hK _ _ (h A' c' w' h2 h3 (fun a' ha' => ?_) (hb.grown h3 hbase fun k hk => (World.ownsRow.lt hown k hk).1))
  rw [ha'] at h4
  rcases h4 with h4 | h4
  · left
    cases hA : A1 with
    | none => rw [hA] at h4; cases h4
    | some a1 => rw [hA] at h4; exact ⟨a1, rfl, by simpa [Value.ownBlock] using h4⟩
  · exact .inr (by simpa [Value.ownBlock] using h4)
theorem wpList_load_frJ {ops : Array Oper} {rest : List Oper} {o : Oper} {a : Act} {w : World} {Q : Exit → Act → World → Prop} (hgd : o.guard = none) (x : Operand) (ho : o.op = .load 26 x)
    (g off : Nat) (hx : a.eval x = .pointer (some ⟨g, off, none⟩)) (vs : List Value) (hc : w.rangeAt g off vs) (hi : (Try.prog.info? 26).map (·.size) = some vs.length)
    (h : wpList Try.prog ops Q rest (a.put o.dst (.agg vs.toArray)) w) : wpList Try.prog ops Q (o :: rest) a w :=
  wpList_plain hgd fun _ hK => by
    unfold Oper.wp
    rw [exec_load_mid w 26 x ho g off hx vs _ hc Try.underlying26 rfl hi]
    exact hK _ _ h
theorem Rw.grownJ {w w' : World} {g : Nat} {t : TypeId} {vs : List Value} {row : Option Nat} (h : Rw w g t vs) (hg : w.grownBy w' row) (hne : some g ≠ row) : Rw w' g t vs := (hg.block g (Rw.lt h) hne).trans h
/-- a slice of one frame -/
theorem wpList_frame1 {ops : Array Oper} {rest : List Oper} {o : Oper} {a : Act} {w : World} {Q : Exit → Act → World → Prop} (hgd : o.guard = none) (x : Operand) (ho : o.op = .buildSlice 37 1 #[(0, x)])
    (f : Fr) (p : Fp) (hx : a.eval x = .agg (frV f p).toArray)
    (h : ∀ g w', Hid (Rw w' g 26 (frV f p)) → Hid (Below w.heap.size w w') → wpList Try.prog ops Q rest (a.put o.dst (.slice (some ⟨g, 0, none⟩) 1 1)) w') : wpList Try.prog ops Q (o :: rest) a w :=
  wpList_plain hgd fun _ hK => by
    have h1 := h w.heap.size (w.alloc (.cells (frV f p).toArray 26)) (heap_alloc_new w _) ((Below.refl _ _).alloc (Nat.le_refl _) _)
    have hp : (#[(0, x)].map fun (i, x) => (i, a.eval x)) = #[(0, Value.agg (frV f p).toArray)] := by simp [hx]
    unfold Oper.wp execOp
    simp only [ho, hp]
    have h2 := hK _ _ h1
    clear h h1 hp hx hK
    unfold frV at *
    go_simp
    exact h2
theorem pick_rowJ {w : World} {B n c : Nat} {A : Option Addr} {l : List (Fr × Fp)} (h : OwnF w B (.slice A n c) n l) (i : Nat) (hi : i < n) (f : Fr) (hf : (l.map (·.1))[i]? = some f) : ∃ p g, A = some ⟨g, 0, none⟩ ∧ g < w.heap.size ∧ FrO w B f p ∧ w.rangeAt g (i * 10) (frV f p) := by
  have hl := h.len
  obtain ⟨g, hA, _, hg, hat⟩ := h.at_ (by omega)
  have hx := hat i (by omega)
  have hm : l[i] ∈ l := List.getElem_mem _
  have hfe : l[i].1 = f := by
    have : i < (l.map (·.1)).length := by simp; omega
    rw [List.getElem?_eq_getElem this] at hf
    simpa using hf
  rw [hfe] at hx
  exact ⟨l[i].2, g, hA, hg, by rw [← hfe]; exact h.each _ hm, hx⟩
theorem below_drJ {B : Nat} {w w' : World} (h : Below B w w') : Below B w w'.drew := ⟨h.os, h.tape, h.output, h.size, h.block⟩
theorem rangeJ {w : World} {g : Nat} {t : TypeId} {vs : List Value} (h : Rw w g t vs) : w.rangeAt g 0 vs := range_row (t := t) (fr := (0, 0)) h
end Go.Proofs.Ytcipmfhacloegaa
