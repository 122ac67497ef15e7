/-
  A row of ranges, its block known whole: cells laid, copies, ranges cleared, a field of a range stored; what is left of a row as the call's own slice.
-/
import Derived.Test.YtjbhhmjkdhkhaaaRgX
import Derived.Test.YtjbhhmjkdhkhaaaRgA
import Derived.Deep.RegionLaw
import Derived.Lib.SliceRun
import Derived.Lib.Overlaps
import Derived.Laws.IdiomCopy
namespace Go.Proofs.Ytjbhhmjkdhkhaaa
open Go.RowKit Go.Lib
set_option linter.unusedVariables false

theorem range_size : (Try.prog.info? 39).map (·.size) = some 2 := by kernel_rfl
theorem addr_at (g j k : Nat) : (⟨g, j, none⟩ : Addr).add k = ⟨g, j + k, none⟩ := by unfold Addr.add; split <;> simp_all
section
variable {w : World} {g : Nat} {t : TypeId} {cur : List Value}
theorem rw_sets (h : Rw w g t cur) (o : Nat) (vs : List Value) (hl : o + vs.length ≤ cur.length) : Rw (w.setCells g o vs) g t (splice cur o vs) ∧ Only g w (w.setCells g o vs) :=
  ⟨setCells_row vs o cur w h hl, setCells_only vs o w (Only.refl g w)⟩
theorem Rw.some (h : Rw w g t cur) (j : Nat) (hj : j < cur.length) : (w.cell? ⟨g, j, none⟩).isSome = true := by
  rw [h.cell j _ (List.getElem?_eq_getElem hj)]; rfl
theorem Rw.shape (h : Rw w g t cur) : w.shape? g = .some (t, cur.length) := by
  have h' : w.heap[g]? = .some (.cells cur.toArray t (0, 0)) := h
  unfold World.shape?
  rw [h']
  simp
/-- of a row the slice of its first n ranges -/
theorem ownR_row (h : Rw w g 39 cur) {B n c : Nat} (hB : B ≤ g) (hc : cur.length = c * 2) (hn : n ≤ c) (hm : c ≤ maxLen) {l : List (Nat × Nat)} (hl : l.length = n) (ht : cur.take (n * 2) = rvs l) : OwnR w B (.slice (.some ⟨g, 0, none⟩) n c) n l :=
  ⟨by rw [rvs_length, hl], .inr ⟨g, c, cur.toArray, rfl, hB, h, hn, hm, by simpa using hc, by simpa using ht⟩⟩
theorem ownR_cur {B n c : Nat} {l : List (Nat × Nat)} (h : OwnR w B (.slice (.some ⟨g, 0, none⟩) n c) n l) : ∃ cur, Rw w g 39 cur ∧ B ≤ g ∧ cur.length = c * 2 ∧ n ≤ c ∧ c ≤ maxLen ∧ cur.take (n * 2) = rvs l := by
  rcases h.2 with ⟨hv, _⟩ | ⟨g', cap, cur, hv, hB, hg, hn, hm, hs, ht⟩
  · cases hv
  · injection hv with h1 h2 h3
    injection h1 with h1
    injection h1 with h1
    subst h1
    subst h3
    exact ⟨cur.toList, by simpa [Rw] using hg, hB, by simpa using hs, hn, hm, ht⟩
end
theorem rvs_take (l : List (Nat × Nat)) (k : Nat) : (rvs l).take (k * 2) = rvs (l.take k) := by
  induction l generalizing k with
  | nil => simp [rvs]
  | cons x r ih =>
    cases k with
    | zero => simp [rvs]
    | succ k => rw [show (k + 1) * 2 = k * 2 + 2 by omega]; simp [rvs, ih]
theorem rvs_drop (l : List (Nat × Nat)) (k : Nat) : (rvs l).drop (k * 2) = rvs (l.drop k) := by
  induction l generalizing k with
  | nil => simp [rvs]
  | cons x r ih =>
    cases k with
    | zero => simp [rvs]
    | succ k => rw [show (k + 1) * 2 = k * 2 + 2 by omega]; simp [rvs, ih]
/-- copy, the elements ranges -/
theorem run_copyR (w : World) (ty : TypeId) (b o dLen dCap : Nat) (a : Addr) (sLen sCap : Nat) (cs : List Value) (hn : cs.length = Nat.min sLen dLen * 2)
    (hsrc : ∀ j v, cs[j]? = some v → w.cell? (a.add j) = some v) (hc : ∀ j, j < cs.length → (w.cell? ⟨b, o + j, none⟩).isSome = true) (hf : ∀ j, j < cs.length → w.frozen? ⟨b, o + j, none⟩ = false) (h1 : ∀ v ∈ cs, v.oneCell' = true) :
    (Builtin.copy_ #[31, 31] ty #[.slice (some ⟨b, o, none⟩) dLen dCap, .slice (some a) sLen sCap]).run Try.prog w = .ok (goInt (Nat.min sLen dLen)) (w.setCells b o cs) := by
  have hl := run_loadCells_list (P := Try.prog) w a cs hsrc
  have hst := run_storeCells_cells (P := Try.prog) b o cs 0 w (by simpa using hc) (by simpa using hf) h1
  obtain ⟨i, hi, _, hz1, _⟩ := info_parts range_info
  rw [hn] at hl
  simp [Builtin.copy_, run_underlying Try.underlying31, Builtin.lenOf, Builtin.firstCells, sizeOf, typeInfo, hi, hz1, hl, hst]
/-- ranges cleared -/
theorem run_clearR (w : World) (ty : TypeId) (b o n c : Nat) (hn : 0 < n) (hc : ∀ j, j < n * 2 → (w.cell? ⟨b, o + j, none⟩).isSome = true) (hf : ∀ j, j < n * 2 → w.frozen? ⟨b, o + j, none⟩ = false) :
    (Builtin.clear_ #[31] ty #[.slice (some ⟨b, o, none⟩) n c]).run Try.prog w = .ok (.tuple #[]) (w.setCells b o (List.replicate (n * 2) (.int .u64 0))) := by
  have hz : ∀ w, (zeroValue 39).run Try.prog w = .ok (.agg #[.int .u64 0, .int .u64 0]) w := (zero_of_info (n := 2) (by kernel_rfl)).1
  have hzc : (Builtin.zeroCells (Value.agg #[.int .u64 0, .int .u64 0]).cells n).toList = List.replicate (n * 2) (.int .u64 0) := by
    simp [Builtin.zeroCells, Value.cells]
    apply List.ext_getElem
    · simp
    · intro i h1 h2
      simp
      rcases Nat.mod_two_eq_zero_or_one i with h | h <;> simp [h]
  have hst := run_storeCells_cells (P := Try.prog) b o (List.replicate (n * 2) (.int .u64 0)) 0 w (by simpa using hc) (by simpa using hf) (by intro v hv'; rw [List.eq_of_mem_replicate hv']; rfl)
  simp only [Nat.add_zero] at hst
  obtain ⟨m, rfl⟩ : ∃ m, n = m + 1 := ⟨n - 1, by omega⟩
  simp [Builtin.clear_, run_underlying Try.underlying31, hz, hzc, hst]
end Go.Proofs.Ytjbhhmjkdhkhaaa
