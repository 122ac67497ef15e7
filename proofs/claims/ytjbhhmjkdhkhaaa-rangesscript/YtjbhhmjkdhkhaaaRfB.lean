/-
  What the document's List writes down (pure); an append of ranges as a step of a region that draws.
-/
import Derived.Test.YtjbhhmjkdhkhaaaRfA
import Derived.Shelf.RegionOpenPlain
namespace Go.Proofs.Ytjbhhmjkdhkhaaa
open Go.RowKit Go.Lib
set_option linter.unusedVariables false

/-- an append of ranges, as a step of a region that draws -/
theorem step_append_rangesR {ops : Array Oper} {o : Oper} {a : Act} {w : World} {K : Act → World → Prop} {Q : Exit → Act → World → Prop} {E : Prop} (hg : o.guard = none) (s x : Operand)
    (ho : o.op = .call { callee := .builtin .append, args := #[s, x], argTypes := #[31, 31] })
    (base : Nat) (v : Value) (n : Nat) (l : List (Nat × Nat)) (hs : a.eval s = v) (hown : OwnR w base v n l)
    (b off m c : Nat) (r : List (Nat × Nat)) (hx : a.eval x = .slice (some ⟨b, off, none⟩) m c) (hr : SlR w (b + 1) (some ⟨b, off, none⟩) m r) (hm : 0 < m)
    (hlen : n + m ≤ 1000000) (hbase : base ≤ w.heap.size) (w0 : World) (hb : Below base w0 w)
    (h : ∀ A' c' w', Hid (OwnR w' base (.slice A' (n + m) c') (n + m) (l ++ r)) → Hid (Below base w0 w') → K (a.put o.dst (.slice A' (n + m) c')) w') :
    if Region.wanted o (yielded ops a.tmps) = true then Oper.wp Try.prog o a w K Q else E := by
  have hw : Region.wanted o (yielded ops a.tmps) = true := by simp [Region.wanted, hg]
  rw [if_pos hw]
  obtain ⟨v', w', hrun, h2, h3, _⟩ := run_append_ranges w base o.type v n l hown b off m c hm r hr hlen hbase
  obtain ⟨A', c', rfl, hle, hcm⟩ := h2.form
  unfold Oper.wp execOp
  simp only [ho, resolve, invoke, builtin, Sem.run_bind, Sem.run_pure, Result.andThen_ok, List.map_toArray, List.map_cons, List.map_nil, hs, hx, hrun]
  exact h A' c' w' h2 (hb.grown h3 hbase fun k hk => (World.ownsRow.lt hown k hk).1)
theorem below_lit {w u : World} {B : Nat} (h : Below B w u) (k : Nat) (o : Obj) (hB : B ≤ u.heap.size) : Below B w ((u.drewN k).alloc o) :=
  h.trans ((Below.refl B u).trans (((⟨rfl, rfl, rfl, Nat.le_refl _, fun _ _ => rfl⟩ : Below B u (u.drewN k))).alloc hB o))
/-- the numbers rise, and are such -/
structure Rise (N : List Nat) : Prop where
  lt : ∀ a b, a < b → b < N.length → N.getD a 0 < N.getD b 0
  top : ∀ a, a < N.length → N.getD a 0 ≤ topV
def bdN (N : List Nat) (j : Nat) : Nat := if j < N.length then N.getD j 0 else topV + 1
theorem mem_getD {N : List Nat} {m : Nat} : m ∈ N ↔ ∃ a, a < N.length ∧ N.getD a 0 = m := by
  constructor
  · intro h
    obtain ⟨a, ha, e⟩ := List.getElem_of_mem h
    exact ⟨a, ha, by rw [List.getD_eq_getElem?_getD, List.getElem?_eq_getElem ha]; exact e⟩
  · rintro ⟨a, ha, e⟩
    rw [List.getD_eq_getElem?_getD, List.getElem?_eq_getElem ha] at e
    rw [← e]
    exact List.getElem_mem ha
theorem down_mono {N n n' : Nat} {P : Nat → Prop} {l : RL} (h : Down N n P l) (hn : n' ≤ n) (hno : ∀ m, n' ≤ m → m < n → ¬ P m) : Down N n' P l := ⟨h.fall, fun m => by
  rw [h.mem]
  constructor
  · rintro ⟨h1, h2⟩; exact ⟨by omega, h2⟩
  · rintro ⟨h1, h2⟩
    rcases Nat.lt_or_ge m n with h3 | h3
    · exact absurd h2 (hno m h1 h3)
    · exact ⟨h3, h2⟩⟩
theorem rise_gap {N : List Nat} (h : Rise N) {p : Nat} (hp : p < N.length) : N.getD p 0 + 1 ≤ bdN N (p + 1) ∧ ∀ m, N.getD p 0 + 1 ≤ m → m < bdN N (p + 1) → ¬ m ∈ N := by
  have h1 := h.top p hp
  unfold bdN
  split
  · have h2 := h.lt p (p + 1) (by omega) ‹_›
    refine ⟨h2, fun m h3 h4 h5 => ?_⟩
    obtain ⟨a, ha, e⟩ := mem_getD.1 h5
    rcases Nat.lt_trichotomy a p with h6 | h6 | h6
    · have := h.lt a p h6 hp; omega
    · subst h6; omega
    · rcases Nat.lt_or_ge (p + 1) a with h7 | h7
      · have := h.lt (p + 1) a h7 ha; omega
      · obtain rfl : a = p + 1 := by omega
        omega
  · refine ⟨by omega, fun m h3 h4 h5 => ?_⟩
    obtain ⟨a, ha, e⟩ := mem_getD.1 h5
    rcases Nat.lt_trichotomy a p with h6 | h6 | h6
    · have := h.lt a p h6 hp; omega
    · subst h6; omega
    · omega
theorem rise_none {N : List Nat} (h : Rise N) : ∀ m, 0 ≤ m → m < bdN N 0 → ¬ m ∈ N := by
  intro m _ h4 h5
  obtain ⟨a, ha, e⟩ := mem_getD.1 h5
  unfold bdN at h4
  rw [if_pos (by omega)] at h4
  rcases Nat.eq_zero_or_pos a with rfl | h6
  · omega
  · have := h.lt 0 a h6 ha; omega
theorem bd_at {N : List Nat} {p : Nat} (hp : p < N.length) : bdN N p = N.getD p 0 := by unfold bdN; rw [if_pos hp]
theorem down_top (N : List Nat) (h : Rise N) (n : Nat) (hn : N.length = n) : Down (topV + 1) (bdN N n) (fun m => m ∈ N) [] := ⟨trivial, fun m => by
  constructor
  · intro hm; exact absurd hm mem_nil
  · rintro ⟨h1, h2⟩
    obtain ⟨a, ha, e⟩ := mem_getD.1 h2
    have := h.top a ha
    unfold bdN at h1
    rw [if_neg (by omega)] at h1
    omega⟩
end Go.Proofs.Ytjbhhmjkdhkhaaa
