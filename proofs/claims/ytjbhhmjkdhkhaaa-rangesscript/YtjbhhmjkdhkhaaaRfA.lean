/-
  The document's set: its numbers one by one; its Has, its List.
-/
import Derived.Test.YtjbhhmjkdhkhaaaRgK
import Derived.Test.YtjbhhmjkdhkhaaaInts
namespace Go.Proofs.Ytjbhhmjkdhkhaaa
open Go.RowKit Go.Lib
set_option linter.unusedVariables false

/-- a slice of numbers of 64 bits that reads as l, and lies below block B -/
def SlU (w : World) (B : Nat) (A : Option Addr) (n : Nat) (l : List Nat) : Prop :=
  l.length = n ∧ (0 < n → ∃ b off, A = some ⟨b, off, none⟩ ∧ b < B ∧ ∀ j, j < l.length → w.cell? ⟨b, off + j, none⟩ = some (.int .u64 ((l.getD j 0 : Nat) : Int)))
theorem SlU.keep {w w' : World} {B n : Nat} {A : Option Addr} {l : List Nat} (h : SlU w B A n l) (hk : ∀ p : Addr, p.block < B → w'.cell? p = w.cell? p) : SlU w' B A n l :=
  ⟨h.1, fun hn => by
    obtain ⟨b, off, e, hb, hc⟩ := h.2 hn
    exact ⟨b, off, e, hb, fun j hj => (hk _ hb).trans (hc j hj)⟩⟩
theorem SlU.below {w w' : World} {B n : Nat} {A : Option Addr} {l : List Nat} (h : SlU w B A n l) (hb : Below B w w') : SlU w' B A n l := h.keep fun _ hp => hb.cell hp
theorem SlU.more {w : World} {B B' n : Nat} {A : Option Addr} {l : List Nat} (h : SlU w B A n l) (hB : B ≤ B') : SlU w B' A n l := ⟨h.1, fun hn => by
  obtain ⟨b, off, e, hb, hc⟩ := h.2 hn
  exact ⟨b, off, e, by omega, hc⟩⟩
/-- the document's set at block g -/
structure RefW (w : World) (g : Nat) (A : Option Addr) (n c most fl : Nat) (N : List Nat) : Prop where
  r : Rw w g 35 [.int .i64 (most : Int), .slice A n c, .int .u64 (fl : Int)]
  s : SlU w w.heap.size A n N
  le : n ≤ c ∧ c ≤ maxLen
theorem RefW.below {w w' : World} {g n c most fl : Nat} {A : Option Addr} {N : List Nat} (h : RefW w g A n c most fl N) (hb : Below w.heap.size w w') : RefW w' g A n c most fl N := ⟨h.r.below hb, (h.s.below hb).more hb.size, h.le⟩
theorem RefW.cells {w : World} {g n c most fl : Nat} {A : Option Addr} {N : List Nat} (h : RefW w g A n c most fl N) : w.cell? ⟨g, 0, none⟩ = some (.int .i64 (most : Int)) ∧ w.cell? ⟨g, 1, none⟩ = some (.slice A n c) ∧ w.cell? ⟨g, 2, none⟩ = some (.int .u64 (fl : Int)) :=
  ⟨h.r.cell 0 _ rfl, h.r.cell 1 _ rfl, h.r.cell 2 _ rfl⟩
set_option maxHeartbeats 2000000 in
theorem rhas_any (w : World) (g n c most fl k : Nat) (A : Option Addr) (N : List Nat) (h : RefW w g A n c most fl N) (b : Bool) (hb : b = true ↔ (k ∈ N ∨ k < fl)) (hn : n ≤ 1000) :
    Calls Try.prog 19 #[.pointer (some ⟨g, 0, none⟩), .int .u64 (k : Int)] w (Quiet (.bool b) w) := by
  obtain ⟨h0, h1, h2⟩ := h.cells
  have hl := h.s.1
  have HS := Lib.hid h.s
  have HB := Lib.hid hb
  clear h hb
  go_enter Try.func19, Try.ntmps19
  go_wp2_with fail
  go_loopw [5] (fun i wr => ∃ j m : Nat, j ≤ n ∧ i = .int .i64 j ∧ wr = w.drewN m ∧ Hid (∀ t, t < j → N.getD t 0 ≠ k)) (fun i _ => n - (intOf i).toNat)
  case atStart => exact ⟨0, 0, by omega, rfl, rfl, fun t ht => absurd ht (Nat.not_lt_zero _)⟩
  case round =>
    obtain ⟨j, m, hj, rfl, rfl, HE⟩ := hrel
    by_cases hlt : j < n
    · obtain ⟨gn, off, rfl, _, hcell⟩ := HS.out.2 (by omega)
      have hc := hcell j (by omega)
      obtain ⟨x, hx⟩ : ∃ x, N.getD j 0 = x := ⟨_, rfl⟩
      rw [hx] at hc
      have HX := Lib.hid hx
      clear hcell hx
      by_cases hxk : x = k
      · subst hxk
        obtain rfl : b = true := HB.out.2 (.inl (by
          have h3 := HX.out
          rw [List.getD_eq_getElem?_getD, List.getElem?_eq_getElem (by omega)] at h3
          rw [← h3]
          exact List.getElem_mem _))
        go_wp2_with fail
        go_ret
        exact ⟨rfl, _, rfl⟩
      · have hxk' : ¬ (x : Int) = (k : Int) := by omega
        go_wp2_with fail
        go_roundw
        case rel => exact ⟨j + 1, m, by omega, by go_num, rfl, fun t ht => by
          by_cases e : t = j
          · subst e; rw [HX.out]; exact hxk
          · exact HE.out t (by omega)⟩
        case measure => first | (simp [intOf]; done) | (simp [intOf]; omega)
    · obtain rfl : j = n := by omega
      have hno : ¬ k ∈ N := fun hk => by
        obtain ⟨t, ht, e⟩ := List.getElem_of_mem hk
        refine HE.out t (by omega) ?_
        rw [List.getD_eq_getElem?_getD, List.getElem?_eq_getElem ht]
        exact e
      have hb2 : decide (k < fl) = b := by
        have h3 := HB.out
        cases b
        · refine decide_eq_false fun hh => ?_
          have := h3.2 (.inr hh)
          cases this
        · rcases h3.1 rfl with h4 | h4
          · exact absurd h4 hno
          · exact decide_eq_true h4
      clear hno
      go_wp2_with fail
      go_ret
      exact ⟨by simp, _, rfl⟩
end Go.Proofs.Ytjbhhmjkdhkhaaa
