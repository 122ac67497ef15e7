/-
  The document's In: one place more, an operation at a time; what Put asks ahead of all, what it leaves.
-/
import Derived.Test.YtocolaccgoochaaDoorIrB
import Derived.Test.YtocolaccgoochaaDoorTailP
import Derived.Deep.LoopGhost
namespace Go.Proofs.YtocolaccgoochaaDoor
open Go.RowKit Go.Lib
set_option linter.unusedVariables false

/-- the struct at g, and its two rows, each as long as it is -/
structure Two (w : World) (g : Nat) (row : List Value) (vb vi : Value) (nb nz : Nat) (bs : List UInt8) (zs : List Bool) : Prop where
  r : Rw w g 51 row
  b : Own w 0 vb nb bs
  z : OwnZ w 0 vi nz zs
  gb : vb.ownBlock ≠ some g
  gz : vi.ownBlock ≠ some g
  bz : vb.ownBlock = none ∨ vb.ownBlock ≠ vi.ownBlock
section
variable {w w' : World} {g nb nz : Nat} {row row' : List Value} {vb vb' vi vi' : Value} {bs bs' : List UInt8} {zs zs' : List Bool}
theorem Two.below (h : Two w g row vb vi nb nz bs zs) (hb : Below w.heap.size w w') : Two w' g row vb vi nb nz bs zs :=
  ⟨h.r.below hb, owns_still h.b fun k hk => hb.block k (World.ownsRow.lt h.b k hk).2, owns_still h.z fun k hk => hb.block k (World.ownsRow.lt h.z k hk).2, h.gb, h.gz, h.bz⟩
theorem Two.appB (h : Two w g row vb vi nb nz bs zs) (ho : Own w' 0 vb' (nb + 1) bs') (hg : w.grownBy w' vb.ownBlock) (hv : vb'.ownBlock = vb.ownBlock ∨ vb'.ownBlock = some w.heap.size) : Two w' g row vb' vi (nb + 1) nz bs' zs := by
  refine ⟨(hg.block g h.r.lt (fun e => h.gb e.symm)).trans h.r, ho, World.ownsRow.kept h.z hg ?_, ?_, h.gz, ?_⟩
  · rcases h.bz with hh | hh
    · cases hi : vi.ownBlock with
      | none => exact .inl rfl
      | some k => exact .inr (by rw [hh]; simp)
    · exact .inr (Ne.symm hh)
  · rcases hv with e | e <;> rw [e]
    · exact h.gb
    · intro hh
      injection hh with hh
      have := h.r.lt
      omega
  · rcases hv with e | e <;> rw [e]
    · exact h.bz
    · refine .inr fun hh => ?_
      have := (World.ownsRow.lt h.z _ hh.symm).2
      omega
theorem Two.appZ (h : Two w g row vb vi nb nz bs zs) (ho : OwnZ w' 0 vi' (nz + 1) zs') (hg : w.grownBy w' vi.ownBlock) (hv : vi'.ownBlock = vi.ownBlock ∨ vi'.ownBlock = some w.heap.size) : Two w' g row vb vi' nb (nz + 1) bs zs' := by
  refine ⟨(hg.block g h.r.lt (fun e => h.gz e.symm)).trans h.r, World.ownsRow.kept h.b hg h.bz, ho, h.gb, ?_, ?_⟩
  · rcases hv with e | e <;> rw [e]
    · exact h.gz
    · intro hh
      injection hh with hh
      have := h.r.lt
      omega
  · rcases hv with e | e <;> rw [e]
    · exact h.bz
    · refine .inr fun hh => ?_
      have := (World.ownsRow.lt h.b _ hh).2
      omega
/-- a cell of the struct turned -/
theorem Two.put (h : Two w g row vb vi nb nz bs zs) (i : Nat) (v : Value) : Two (w.setCell ⟨g, i, none⟩ v) g (row.set i v) vb vi nb nz bs zs := by
  have ho : Only g w (w.setCell ⟨g, i, none⟩ v) := (Only.refl g w).setCell i _
  exact ⟨h.r.put i _, owns_still h.b fun k hk => ho.block k (World.ownsRow.lt h.b k hk).2 (fun e => h.gb (by rw [← e]; exact hk)), owns_still h.z fun k hk => ho.block k (World.ownsRow.lt h.z k hk).2 (fun e => h.gz (by rw [← e]; exact hk)), h.gb, h.gz, h.bz⟩
/-- a place's byte -/
theorem Two.setB {gb c : Nat} (h : Two w g row (.slice (some ⟨gb, 0, none⟩) nb c) vi nb nz bs zs) (j : Nat) (y : UInt8) : Two (w.setCell ⟨gb, j, none⟩ (.int .u8 (bn y))) g row (.slice (some ⟨gb, 0, none⟩) nb c) vi nb nz (bs.set j y) zs := by
  have ho : Only gb w (w.setCell ⟨gb, j, none⟩ (.int .u8 (bn y))) := (Only.refl gb w).setCell j _
  have hgb : g ≠ gb := fun e => h.gb (by rw [e]; rfl)
  refine ⟨h.r.only ho hgb, h.b.store j y _ rfl, owns_still h.z fun k hk => ho.block k (World.ownsRow.lt h.z k hk).2 (fun e => ?_), h.gb, h.gz, h.bz⟩
  rcases h.bz with hh | hh
  · cases hh
  · exact hh (by rw [hk, e]; rfl)
/-- it came -/
theorem Two.setZ {gz c : Nat} (h : Two w g row vb (.slice (some ⟨gz, 0, none⟩) nz c) nb nz bs zs) (j : Nat) (y : Bool) : Two (w.setCell ⟨gz, j, none⟩ (.bool y)) g row vb (.slice (some ⟨gz, 0, none⟩) nz c) nb nz bs (zs.set j y) := by
  have ho : Only gz w (w.setCell ⟨gz, j, none⟩ (.bool y)) := (Only.refl gz w).setCell j _
  have hgb : g ≠ gz := fun e => h.gz (by rw [e]; rfl)
  refine ⟨h.r.only ho hgb, owns_still h.b fun k hk => ho.block k (World.ownsRow.lt h.b k hk).2 (fun e => ?_), ?_, h.gb, h.gz, h.bz⟩
  · rcases h.bz with hh | hh
    · rw [hh] at hk; cases hk
    · exact hh (by rw [hk, e]; rfl)
  · have h1 := World.ownsRow.stored h.z j (.bool y)
    unfold OwnZ
    have e : zvs (zs.set j y) = (zvs zs).set j (.bool y) := by simp [zvs, List.map_set]
    rw [e]
    exact h1.1
end
/-- a slice of one bool -/
theorem wp_boolS {o : Oper} {a : Act} {w : World} {K : Act → World → Prop} {Q : Exit → Act → World → Prop} (x : Operand) (ho : o.op = .buildSlice 49 1 #[(0, x)])
    (b : Bool) (hx : a.eval x = .bool b)
    (h : ∀ g w', Hid (g = w.heap.size) → Hid (w'.cell? ⟨g, 0, none⟩ = some (.bool b)) → Hid (Below w.heap.size w w') → K (a.put o.dst (.slice (some ⟨g, 0, none⟩) 1 1)) w') : o.wp Tryd.prog a w K Q := by
  have h1 := h w.heap.size (w.alloc (.cells #[.bool b] 4)) rfl (show _ = _ by simp) ((Below.refl _ _).alloc (Nat.le_refl _) _)
  have hp : (#[(0, x)].map fun (i, x) => (i, a.eval x)) = #[(0, Value.bool b)] := by simp [hx]
  unfold Oper.wp execOp
  simp only [ho, hp]
  clear h hp hx
  go_simp
  exact h1
/-- the document's In at block g: places below N as P has them -/
def RefD (w : World) (F : Nat → Prop) (g most N : Nat) (P : Nat → Option UInt8) (en rd : Int) : Prop :=
  ∃ vb vi bs zs, Two w g [.int .i64 (most : Int), vb, vi, .int .i64 en, .int .i64 rd] vb vi N N bs zs ∧ (∀ i, i < N → P i = if zs.getD i false = true then some (bs.getD i 0) else none) ∧ F g ∧ ∀ k, vb.ownBlock = some k ∨ vi.ownBlock = some k → F k
theorem RefW.d {w : World} {F : Nat → Prop} {g most : Nat} {s : InS} (h : RefW w F g most s) : RefD w F g most s.hi s.p (enI s) s.rd := by
  obtain ⟨vb, vi, bs, zs, h1, h2, h3, h4, h5, h6⟩ := h
  exact ⟨vb, vi, bs, zs, ⟨h1.r, h1.b, h1.z, h1.gb, h1.gz, h1.bz⟩, h2, h5, h6⟩
theorem RefD.w {w : World} {F : Nat → Prop} {g most : Nat} {s : InS} (h : RefD w F g most s.hi s.p (enI s) s.rd) (hok : s.Ok most) (hm : most ≤ 1048576) : RefW w F g most s := by
  obtain ⟨vb, vi, bs, zs, h1, h2, h5, h6⟩ := h
  exact ⟨vb, vi, bs, zs, ⟨h1.r, h1.b, h1.z, h1.gb, h1.gz, h1.bz⟩, h2, hok, hm, h5, h6⟩
theorem RefD.more {w : World} {F F' : Nat → Prop} {g most N : Nat} {P : Nat → Option UInt8} {en rd : Int} (h : RefD w F g most N P en rd) (hF : ∀ k, F k → k < w.heap.size → F' k) : RefD w F' g most N P en rd := by
  obtain ⟨vb, vi, bs, zs, h1, h2, h5, h6⟩ := h
  exact ⟨vb, vi, bs, zs, h1, h2, hF g h5 h1.r.lt, fun k hk => hF k (h6 k hk) (by
    rcases hk with hk | hk
    · exact (World.ownsRow.lt h1.b k hk).2
    · exact (World.ownsRow.lt h1.z k hk).2)⟩
theorem RefD.cong {w : World} {F : Nat → Prop} {g most N : Nat} {P P' : Nat → Option UInt8} {en rd : Int} (h : RefD w F g most N P en rd) (hP : ∀ i, i < N → P i = P' i) : RefD w F g most N P' en rd := by
  obtain ⟨vb, vi, bs, zs, h1, h2, h5, h6⟩ := h
  exact ⟨vb, vi, bs, zs, h1, fun i hi => (hP i hi).symm.trans (h2 i hi), h5, h6⟩
theorem RefD.below {w w' : World} {F : Nat → Prop} {g most N : Nat} {P : Nat → Option UInt8} {en rd : Int} (h : RefD w F g most N P en rd) (hb : Below w.heap.size w w') : RefD w' F g most N P en rd := by
  obtain ⟨vb, vi, bs, zs, h1, h2, h5, h6⟩ := h
  exact ⟨vb, vi, bs, zs, h1.below hb, h2, h5, h6⟩
/-- what the test ahead of all says -/
def cl1V (s : InS) (t : Nat) (e : Bool) : Bool := (decide (0 ≤ enI s) && (decide (enI s < (t : Int)) || (e && !decide ((t : Int) = enI s)))) || (e && decide (t < s.hi))
theorem clash_is (s : InS) (o : Nat) (d : List UInt8) (e : Bool) : clashV s o d e ↔ cl1V s (o + d.length) e = true ∨ ∃ k, k < d.length ∧ ∃ b, s.p (o + k) = some b ∧ b ≠ d.getD k 0 := by
  unfold clashV cl1V
  cases he : s.en with
  | none =>
    rw [enI_none he]
    constructor
    · rintro (⟨E, hE, _⟩ | ⟨h1, h2⟩ | h1)
      · cases hE
      · exact .inl (by simp [h1, h2])
      · exact .inr h1
    · rintro (h1 | h1)
      · simp at h1
        exact .inr (.inl h1)
      · exact .inr (.inr h1)
  | some E =>
    rw [enI_some he]
    constructor
    · rintro (⟨E', hE, h1⟩ | ⟨h1, h2⟩ | h1)
      · injection hE with hE
        subst hE
        rcases h1 with h1 | ⟨h1, h2⟩
        · exact .inl (by simp; left; left; omega)
        · exact .inl (by simp [h1]; left; right; omega)
      · exact .inl (by simp [h1, h2])
      · exact .inr h1
    · rintro (h1 | h1)
      · simp at h1
        rcases h1 with (h1 | ⟨h1, h2⟩) | ⟨h1, h2⟩
        · exact .inl ⟨E, rfl, .inl (by omega)⟩
        · exact .inl ⟨E, rfl, .inr ⟨h1, by omega⟩⟩
        · exact .inr (.inl ⟨h1, by omega⟩)
      · exact .inr (.inr h1)
end Go.Proofs.YtocolaccgoochaaDoor
