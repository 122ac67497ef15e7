/-
  Blocks of cells that are no bytes; what is left to read of a header: the contracts of its fail, expect, bytes, whole, varint.
-/
import Derived.Test.YtdmjbdbkdjmhfaaHdP
import Derived.Test.YtdmjbdbkdjmhfaaBlkW
import Derived.Test.YtdmjbdbkdjmhfaaBase
import Derived.Test.YtdmjbdbkdjmhfaaOwnW
namespace Go.Proofs.Ytdmjbdbkdjmhfaa
open Go.RowKit
set_option linter.unusedVariables false

/-- block g holds the cells vs, as a variable of type t -/
def Rw (w : World) (g : Nat) (t : TypeId) (vs : List Value) : Prop := w.heap[g]? = some (.cells vs.toArray t (0, 0))
section
variable {w w' : World} {g : Nat} {t : TypeId} {vs : List Value}
theorem Rw.lt (h : Rw w g t vs) : g < w.heap.size := (Array.getElem?_eq_some_iff.1 h).1
theorem Rw.cell (h : Rw w g t vs) (j : Nat) (v : Value) (hj : vs[j]? = some v) : w.cell? ⟨g, j, none⟩ = some v := by
  rw [cell_of_row _ _ _ _ _ _ h, List.getElem?_toArray]
  exact hj
theorem Rw.frozen (h : Rw w g t vs) (j : Nat) : w.frozen? ⟨g, j, none⟩ = false := frozen_of_row _ _ _ _ _ h
theorem Rw.put (h : Rw w g t vs) (i : Nat) (v : Value) : Rw (w.setCell ⟨g, i, none⟩ v) g t (vs.set i v) := by
  unfold Rw
  rw [heap_setCell_same _ _ _ _ _ _ h, List.setIfInBounds_toArray]
theorem Rw.drew (h : Rw w g t vs) : Rw w.drew g t vs := h
theorem Rw.alloc (h : Rw w g t vs) (o : Obj) : Rw (w.alloc o) g t vs := (Below.heap_alloc w o g h.lt).trans h
theorem Rw.below (h : Rw w g t vs) (hb : Below w.heap.size w w') : Rw w' g t vs := (hb.block g h.lt).trans h
theorem Rw.only {g' : Nat} (h : Rw w g t vs) (ho : Only g' w w') (hne : g ≠ g') : Rw w' g t vs := (ho.block g h.lt hne).trans h
end
theorem Sl.only {w w' : World} {B g n : Nat} {A : Option Addr} {l : List UInt8} (h : Sl w B A n l) (ho : Only g w w') (hB : B ≤ g) (hg : g < w.heap.size) : Sl w' B A n l :=
  h.keep fun p hp => World.cell?_of_block (ho.block p.block (by omega) (by omega))

/-- a variable of type parts at block g: what is left reads as s.1, in memory below B; the code is s.2 -/
def PtW (w : World) (B g : Nat) (s : List UInt8 × Nat) : Prop :=
  ∃ A n c, Rw w g 55 [.slice A n c, .int .i64 (s.2 : Int)] ∧ Sl w B A n s.1 ∧ n ≤ c ∧ c ≤ maxLen ∧ B ≤ g
theorem PtW.lt {w : World} {B g : Nat} {s : List UInt8 × Nat} (h : PtW w B g s) : g < w.heap.size := by
  obtain ⟨A, n, c, hr, _⟩ := h
  exact hr.lt
theorem PtW.only {w w' : World} {B g g' : Nat} {s : List UInt8 × Nat} (h : PtW w B g s) (ho : Only g' w w') (hne : g ≠ g') (hB : B ≤ g') : PtW w' B g s := by
  have hlt := h.lt
  obtain ⟨A, n, c, hr, hs, h1, h2, h3⟩ := h
  exact ⟨A, n, c, hr.only ho hne, hs.keep fun p hp => World.cell?_of_block (ho.block p.block (by omega) (by omega)), h1, h2, h3⟩
theorem PtW.below {w w' : World} {B g : Nat} {s : List UInt8 × Nat} (h : PtW w B g s) (hb : Below w.heap.size w w') : PtW w' B g s := by
  have hlt := h.lt
  obtain ⟨A, n, c, hr, hs, h1, h2, h3⟩ := h
  exact ⟨A, n, c, hr.below hb, hs.below ⟨hb.os, hb.tape, hb.output, hb.size, fun k hk => hb.block k (by omega)⟩, h1, h2, h3⟩

theorem fail_any (s : List UInt8 × Nat) (K : Int) (k : Nat) (hK : K = (k : Int)) (B g : Nat) (w : World) (h : PtW w B g s) :
    Calls Try.prog 47 #[.pointer (some ⟨g, 0, none⟩), .int .i64 K] w fun e w' => e = .returned (.tuple #[]) ∧ PtW w' B g (failP s k) ∧ Only g w w' := by
  obtain ⟨l, cd⟩ := s
  obtain ⟨A, n, c, hr, hs, h1, h2, h3⟩ := h
  have c0 := hr.cell 0 _ rfl
  have c1 := hr.cell 1 _ rfl
  have f0 := hr.frozen 0
  have f1 := hr.frozen 1
  have HR := Lib.hid hr
  have HB := Lib.hid h3
  clear hr hs h1 h2 h3
  simp only at c0 c1
  by_cases hz : cd = 0
  · subst hz
    go_enter Try.func47, Try.ntmps47
    go_wp2
    refine bodyPost_end (results_none rfl _ _ _) rfl ?_
    refine ⟨rfl, ⟨none, 0, 0, ?_, Sl.nil, Nat.le_refl _, by simp [maxLen], HB.out⟩, ((Only.refl g w).setCell _ _).setCell _ _⟩
    simpa [failP, hK] using (HR.out.put 1 (.int .i64 K)).put 0 (.slice none 0 0)
  · have t1 : ((cd : Int) == 0) = false := by simp; omega
    have Hz := Lib.hid hz
    clear hz
    go_enter Try.func47, Try.ntmps47
    go_wp2
    refine bodyPost_end (results_none rfl _ _ _) rfl ?_
    refine ⟨rfl, ⟨none, 0, 0, ?_, Sl.nil, Nat.le_refl _, by simp [maxLen], HB.out⟩, (Only.refl g w).setCell _ _⟩
    simpa [failP, Hz.out] using HR.out.put 0 (.slice none 0 0)

theorem expect_any (s : List UInt8 × Nat) (K : Int) (k : Nat) (hK : K = (k : Int)) (hk : k < 18446744073709551616) (B g : Nat) (w : World) (h : PtW w B g s) :
    Calls Try.prog 36 #[.pointer (some ⟨g, 0, none⟩), .int .u64 K] w fun e w' => e = .returned (.tuple #[]) ∧ PtW w' B g (expectP s k) ∧ Only g w w' := by
  subst hK
  have HF := Lib.hid (fail_any s 3 3 rfl B g w h)
  have H := Lib.hid h
  obtain ⟨l, cd⟩ := s
  obtain ⟨A, n, c, hr, hs, h1, h2, h3⟩ := h
  have c0 : w.cell? ⟨g, 0, none⟩ = some (.slice A n c) := hr.cell 0 _ rfl
  have hl := hs.1
  simp only at hl
  have hn63 : n ≤ 9223372036854775807 := by unfold maxLen at h2; omega
  clear hr hs h1 h2 h3
  by_cases hlt : n < k
  · have e : expectP (l, cd) k = failP (l, cd) 3 := by unfold expectP; rw [if_pos (by simp only; omega)]
    rw [e]
    clear hl e
    go_enter Try.func36, Try.ntmps36
    go_wp2_with ((with_reducible refine HF.out.mono ?_); rintro e w' ⟨rfl, hp, ho⟩)
    refine bodyPost_end (results_none rfl _ _ _) rfl ?_
    exact ⟨rfl, hp, ho⟩
  · have e : expectP (l, cd) k = (l, cd) := by unfold expectP; rw [if_neg (by simp only; omega)]
    rw [e]
    clear hl e
    go_enter Try.func36, Try.ntmps36
    go_wp2_with fail
    refine bodyPost_end (results_none rfl _ _ _) rfl ?_
    exact ⟨rfl, H.out, Only.refl _ _⟩

/-- what a call answers that reads bytes of parts: m bytes of its own -/
def Reads (w : World) (B g : Nat) (r : List UInt8 × (List UInt8 × Nat)) (e : Ending) (w' : World) : Prop :=
  ∃ A m c, e = .returned (.slice A m c) ∧ Own w' w.heap.size (.slice A m c) m r.1 ∧ m ≤ c ∧ c ≤ maxLen ∧ PtW w' B g r.2 ∧ Only g w w'

set_option maxHeartbeats 1000000 in
theorem bytes_any (s : List UInt8 × Nat) (K : Int) (k : Nat) (hK : K = (k : Int)) (hk : k ≤ 1000000) (B g : Nat) (w : World) (h : PtW w B g s) :
    Calls Try.prog 31 #[.pointer (some ⟨g, 0, none⟩), .int .i64 K] w (Reads w B g (bytesP s k)) := by
  subst hK
  have HE := Lib.hid (expect_any s (k : Int) k rfl (by omega) B g w h)
  obtain ⟨⟨l1, q⟩, hq⟩ : ∃ v, expectP s k = v := ⟨_, rfl⟩
  have hlen : q = 0 → k ≤ l1.length := fun h0 => by
    have h1 := (expect_len s k (by rw [hq]; exact h0)).1
    rwa [hq] at h1
  have e : bytesP s k = if q = 0 then (l1.take k, (l1.drop k, q)) else ([], (l1, q)) := by unfold bytesP; rw [hq]
  rw [e]
  rw [hq] at HE
  clear hq e h
  by_cases hz : q = 0
  · subst hz
    rw [if_pos rfl]
    have hkl := hlen rfl
    clear hlen
    go_enter Try.func31, Try.ntmps31
    go_wp2_with fail
    (with_reducible refine HE.out.mono ?_)
    rintro e1 w1 ⟨rfl, ⟨A, n, c, hr, hs, h1, h2, h3⟩, ho⟩
    have hn := hs.1
    simp only at hn hs hr
    have c0 := hr.cell 0 _ rfl
    have c1 : w1.cell? ⟨g, 1, none⟩ = some (.int .i64 0) := hr.cell 1 _ rfl
    have f0 := hr.frozen 0
    have HR := Lib.hid hr
    have HO := Lib.hid ho
    have HB := Lib.hid h3
    have HC : Hid (n ≤ c ∧ c ≤ maxLen) := ⟨h1, h2⟩
    have hkn : k ≤ n := by omega
    obtain ⟨A1, eA1⟩ : ∃ v, (if c = 0 then A else A.map (·.add 0)) = v := ⟨_, rfl⟩
    obtain ⟨A2, eA2⟩ : ∃ v, (if c = k then A else A.map (·.add k)) = v := ⟨_, rfl⟩
    have hcA : ∀ u : World, (Instr.slice 23 (.slice A n c) none (some (.int .i64 (k : Int))) none).run Try.prog u = .ok (.slice A1 k c) u := fun u => by
      rw [run_cut_to u A n c k (by omega), eA1]
    have hcB : ∀ u : World, (Instr.slice 23 (.slice A n c) (some (.int .i64 (k : Int))) none none).run Try.prog u = .ok (.slice A2 (n - k) (c - k)) u := fun u => by
      rw [run_cut_bytes u A n c k hkn h1, eA2]
    have HS1 : Hid (Sl w1 B A1 k (l1.take k)) := by
      have h1' := hs.take hkn
      refine ⟨h1'.1, fun h0 => ?_⟩
      obtain ⟨b', off', e, hb', hc'⟩ := h1'.2 h0
      subst e
      exact ⟨b', off', by rw [← eA1, if_neg (by omega)]; simp [addr_add], hb', hc'⟩
    have HS2 : Hid (Sl w1 B A2 (n - k) (l1.drop k)) := by
      have h1' := hs.drop hkn h1
      rwa [eA2] at h1'
    have Hn := Lib.hid hn
    have Hkl := Lib.hid hkl
    have HBw : Hid (B ≤ w1.heap.size) := Nat.le_trans h3 (Nat.le_of_lt hr.lt)
    have HG : Hid (g < w1.heap.size) := hr.lt
    clear hr ho h1 h2 h3 eA1 eA2 hs hn hkl
    go_wp2_with (at_builtin; refine wpList_append_bytes rfl _ _ rfl w1.heap.size (.slice none 0 0) 0 [] rfl (Own.nil _ _) B A1 k c (l1.take k) rfl HS1.out (by omega) (Nat.le_refl _) w1 (Below.refl _ _) ?_; intro A3 c3 w3 ho3 hle3 hc3 hg3 hb3; have R3 := Lib.hid (HR.out.below hb3); have c03 := R3.out.cell 0 _ rfl; have f03 := R3.out.frozen 0)
    go_ret
    simp only [Nat.zero_add, List.nil_append] at ho3 hle3
    have hw := (Only.refl g w3).setCell 0 (.slice A2 (n - k) (c - k))
    have hg3 : g < w3.heap.size := R3.out.lt
    refine ⟨A3, k, c3, by simp, ?_, hle3, hc3, ⟨A2, n - k, c - k, ?_, ?_, by have := HC.out; omega, by have := HC.out; omega, HB.out⟩, (HO.out.trans (Only.of_below hb3)).trans hw⟩
    · exact (Own.onlyA ho3 hw fun a ha => by have := (ho3.blk a ha).1; have := HG.out; omega).base HO.out.size
    · simpa using R3.out.put 0 (.slice A2 (n - k) (c - k))
    · exact (HS2.out.below (hb3.mono HBw.out)).only hw HB.out hg3
  · rw [if_neg hz]
    have t1 : ((q : Int) != 0) = true := by simp; omega
    clear hlen hz
    go_enter Try.func31, Try.ntmps31
    go_wp2_with fail
    (with_reducible refine HE.out.mono ?_)
    rintro e1 w1 ⟨rfl, hp, ho⟩
    have HP := Lib.hid hp
    have HO := Lib.hid ho
    obtain ⟨A, n, c, hr, hs, h1, h2, h3⟩ := hp
    have c1 := hr.cell 1 _ rfl
    simp only at c1
    clear hr hs h1 h2 h3 ho
    go_wp2_with fail
    go_ret
    exact ⟨none, 0, 0, rfl, Own.nil _ _, Nat.le_refl _, by simp [maxLen], HP.out, HO.out⟩
end Go.Proofs.Ytdmjbdbkdjmhfaa
