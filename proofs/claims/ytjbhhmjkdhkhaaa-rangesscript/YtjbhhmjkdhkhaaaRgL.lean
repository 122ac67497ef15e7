/-
  Two sets beside an array of sixty bools; members counted.
-/
import Derived.Test.YtjbhhmjkdhkhaaaRgK
namespace Go.Proofs.Ytjbhhmjkdhkhaaa
open Go.RowKit Go.Lib
set_option linter.unusedVariables false

def cntB (f : Nat → Bool) : Nat → Nat
  | 0 => 0
  | N + 1 => cntB f N + (if f N = true then 1 else 0)
def sumR : RL → Nat
  | [] => 0
  | x :: r => (x.2 + 1 - x.1) + sumR r
theorem sum_cnt (f : Nat → Bool) : ∀ (N : Nat) (l : RL), Fall (N + 1) l → (∀ m, Mem m l ↔ m < N ∧ f m = true) → sumR l = cntB f N
  | 0, [], _, _ => rfl
  | 0, x :: r, h, _ => by have := h.1; have := h.2.1; omega
  | N + 1, l, h, hm => by
    by_cases hN : f N = true
    · have h1 := (hm N).2 ⟨by omega, hN⟩
      cases l with
      | nil => exact absurd h1 mem_nil
      | cons x r =>
        have h2 := h.1
        have h3 := h.2.1
        have h4 : x.2 = N := by
          rcases mem_cons.1 h1 with h1 | h1
          · omega
          · have := h.2.2.lt h1; omega
        by_cases e : x.1 = N
        · have h5 := sum_cnt f N r (h.2.2.up (by omega)) fun m => by
            constructor
            · intro hh
              have h6 := h.2.2.lt hh
              have h7 := (hm m).1 (mem_cons.2 (.inr hh))
              exact ⟨by omega, h7.2⟩
            · rintro ⟨h6, h7⟩
              rcases mem_cons.1 ((hm m).2 ⟨by omega, h7⟩) with h8 | h8
              · omega
              · exact h8
          rw [sumR, cntB, if_pos hN, h5]
          omega
        · have h5 := sum_cnt f N ((x.1, N - 1) :: r) ⟨by simp only; omega, by simp only; omega, h.2.2⟩ fun m => by
            rw [mem_cons]
            simp only
            have h6 := hm m
            rw [mem_cons] at h6
            constructor
            · rintro (hh | hh)
              · exact ⟨by omega, (h6.1 (.inl (by omega))).2⟩
              · have h7 := h.2.2.lt hh
                exact ⟨by omega, (h6.1 (.inr hh)).2⟩
            · rintro ⟨h7, h8⟩
              rcases h6.2 ⟨by omega, h8⟩ with h9 | h9
              · exact .inl (by omega)
              · exact .inr h9
          rw [sumR] at h5 ⊢
          simp only at h5
          rw [cntB, if_pos hN, ← h5]
          omega
    · have hlt : ∀ m, Mem m l → m < N := fun m hh => by
        have h1 := (hm m).1 hh
        rcases Nat.lt_or_ge m N with h2 | h2
        · exact h2
        · obtain rfl : m = N := by omega
          exact absurd h1.2 hN
      rw [cntB, if_neg hN, Nat.add_zero]
      refine sum_cnt f N l (fall_tight h hlt) fun m => ⟨fun hh => ⟨hlt m hh, ((hm m).1 hh).2⟩, fun hh => (hm m).2 ⟨by omega, hh.2⟩⟩
theorem cnt_set (f : Nat → Bool) (n : Nat) (hf : f n = false) : ∀ N, n < N → cntB (fun m => m == n || f m) N = cntB f N + 1
  | 0, h => by omega
  | N + 1, h => by
    by_cases e : n = N
    · subst e
      have h1 : ∀ K, K ≤ n → cntB (fun m => m == n || f m) K = cntB f K := by
        intro K
        induction K with
        | zero => intro _; rfl
        | succ K ih =>
          intro hK
          rw [cntB, cntB, ih (by omega)]
          have : (K == n) = false := by simp; omega
          simp [this]
      rw [cntB, cntB, h1 n (Nat.le_refl _)]
      simp [hf]
    · rw [cntB, cntB, cnt_set f n hf N (by omega)]
      have : (N == n) = false := by simp; omega
      simp [this]
      omega
theorem cnt_same (f : Nat → Bool) (n : Nat) (hf : f n = true) : (fun m => m == n || f m) = f := by
  funext m
  by_cases e : m = n
  · subst e; simp [hf]
  · simp [e]
theorem cnt_le (f : Nat → Bool) : ∀ N, cntB f N ≤ N
  | 0 => Nat.le_refl _
  | N + 1 => by have := cnt_le f N; rw [cntB]; split <;> omega
/-- the array's cells -/
def seenV (f : Nat → Bool) : List Value := (List.range 60).map fun m => .bool (f m)
theorem seen_len (f : Nat → Bool) : (seenV f).length = 60 := by simp [seenV]
theorem seen_at (f : Nat → Bool) (n : Nat) (h : n < 60) : (seenV f)[n]? = some (.bool (f n)) := by simp [seenV, h]
theorem seen_set (f : Nat → Bool) (n : Nat) (h : n < 60) : (seenV f).set n (.bool true) = seenV (fun m => m == n || f m) := by
  apply List.ext_getElem
  · simp [seenV]
  · intro i h1 h2
    rw [List.getElem_set]
    simp only [seenV, List.getElem_map, List.getElem_range]
    by_cases e : n = i
    · subst e; simp
    · rw [if_neg e]
      have : (i == n) = false := by simp; omega
      simp [this]
/-- two sets and the array, each by itself -/
structure Two (w : World) (B gs gt gq : Nat) (T : TypeId) (s t : RS) (f : Nat → Bool) : Prop where
  oks : s.Ok
  okt : t.Ok
  ex : ∃ As ns cs At nt ct, SetW w B gs As ns cs s ∧ SetW w B gt At nt ct t ∧ (∀ a, As = some a → a.block ≠ gt ∧ a.block ≠ gq) ∧ (∀ a, At = some a → a.block ≠ gs ∧ a.block ≠ gq ∧ ∀ b, As = some b → a.block ≠ b.block)
  q : Rw w gq T (seenV f)
  d : gs ≠ gt ∧ gq ≠ gs ∧ gq ≠ gt ∧ B ≤ gq
section
variable {w w' : World} {B gs gt gq : Nat} {T : TypeId} {s t : RS} {f : Nat → Bool}
theorem Two.below (h : Two w B gs gt gq T s t f) (hb : Below w.heap.size w w') : Two w' B gs gt gq T s t f := by
  obtain ⟨As, ns, cs, At, nt, ct, h1, h2, h3, h4⟩ := h.ex
  exact ⟨h.oks, h.okt, ⟨As, ns, cs, At, nt, ct, h1.below hb, h2.below hb, h3, h4⟩, h.q.below hb, h.d⟩
theorem Two.sts (h : Two w B gs gt gq T s t f) : St w B gs s := ⟨h.oks, by obtain ⟨As, ns, cs, At, nt, ct, h1, _⟩ := h.ex; exact ⟨As, ns, cs, h1⟩⟩
theorem Two.stt (h : Two w B gs gt gq T s t f) : St w B gt t := ⟨h.okt, by obtain ⟨As, ns, cs, At, nt, ct, h1, h2, _⟩ := h.ex; exact ⟨At, nt, ct, h2⟩⟩
theorem Two.store (h : Two w B gs gt gq T s t f) {f' : Nat → Bool} (ho : Only gq w w') (hq : Rw w' gq T (seenV f')) : Two w' B gs gt gq T s t f' := by
  obtain ⟨As, ns, cs, At, nt, ct, h1, h2, h3, h4⟩ := h.ex
  exact ⟨h.oks, h.okt, ⟨As, ns, cs, At, nt, ct, ⟨h1.r.only ho (fun e => h.d.2.1 e.symm), h1.o.onlyA ho (fun a ha => (h3 a ha).2), h1.hB, h1.ne⟩, ⟨h2.r.only ho (fun e => h.d.2.2.1 e.symm), h2.o.onlyA ho (fun a ha => (h4 a ha).2.1), h2.hB, h2.ne⟩, h3, h4⟩, hq, h.d⟩
theorem OwnR.movesA {g n c : Nat} {A A0 A1 : Option Addr} {l : RL} (h : OwnR w B (.slice A n c) n l) (m : Moves g A0 A1 w w') (h1 : ∀ a, A = some a → a.block ≠ g) (h2 : ∀ a, A = some a → ∀ b, A0 = some b → a.block ≠ b.block) : OwnR w' B (.slice A n c) n l := by
  refine ⟨h.1, h.2.imp id fun ⟨g1, cap, cur, e, hb, hg1, r⟩ => ⟨g1, cap, cur, e, hb, ?_, r⟩⟩
  injection e with hA
  exact (m.block g1 (Array.getElem?_eq_some_iff.1 hg1).1 (h1 _ hA) (fun a ha => h2 _ hA a ha)).trans hg1
theorem rw_moves {g g' : Nat} {A0 A1 : Option Addr} {vs : List Value} {T : TypeId} (h : Rw w g' T vs) (m : Moves g A0 A1 w w') (h1 : g' ≠ g) (h2 : ∀ b, A0 = some b → b.block ≠ g') : Rw w' g' T vs :=
  (m.block g' h.lt h1 (fun a ha e => h2 a ha e.symm)).trans h
theorem two_adds (h : Two w B gs gt gq T s t f) (hB : B ≤ w.heap.size) (k : Nat) (z : Int) (hz : z = (k : Int)) :
    Calls Try.prog 11 #[.pointer (some ⟨gs, 0, none⟩), .int .u64 z] w fun e w' => e = .returned (.bool (s.newB k)) ∧ Two w' B gs gt gq T (s.add k) t f ∧ Below B w w' := by
  subst hz
  obtain ⟨As, ns, cs, At, nt, ct, h1, h2, h3, h4⟩ := h.ex
  refine (add_any gs As ns cs B k s w h1 h.oks hB).mono ?_
  rintro e w' ⟨rfl, A', n', c', h', m⟩
  refine ⟨rfl, ⟨RS.add_ok h.oks k, h.okt, ⟨A', n', c', At, nt, ct, h', ⟨rw_moves h2.r m (fun e => h.d.1 e.symm) (fun b hb => (h3 b hb).1), h2.o.movesA m (fun a ha => (h4 a ha).1) (fun a ha b hb => (h4 a ha).2.2 b hb), h2.hB, h2.ne⟩, fun a ha => ?_, fun a ha => ⟨(h4 a ha).1, (h4 a ha).2.1, fun b hb e => ?_⟩⟩, rw_moves h.q m h.d.2.1 (fun b hb => (h3 b hb).2), h.d⟩, h1.moves_below m hB⟩
  · rcases m.at_ a ha with ⟨a0, e0, e1⟩ | h5
    · rw [e1]; exact h3 a0 e0
    · have := h2.lt; have := h.q.lt; exact ⟨by omega, by omega⟩
  · rcases m.at_ b hb with ⟨a0, e0, e1⟩ | h5
    · exact (h4 a ha).2.2 a0 e0 (e.trans e1)
    · have := (h2.o.blk a ha).2; omega
theorem two_addt (h : Two w B gs gt gq T s t f) (hB : B ≤ w.heap.size) (k : Nat) (z : Int) (hz : z = (k : Int)) :
    Calls Try.prog 11 #[.pointer (some ⟨gt, 0, none⟩), .int .u64 z] w fun e w' => e = .returned (.bool (t.newB k)) ∧ Two w' B gs gt gq T s (t.add k) f ∧ Below B w w' := by
  subst hz
  obtain ⟨As, ns, cs, At, nt, ct, h1, h2, h3, h4⟩ := h.ex
  refine (add_any gt At nt ct B k t w h2 h.okt hB).mono ?_
  rintro e w' ⟨rfl, A', n', c', h', m⟩
  refine ⟨rfl, ⟨h.oks, RS.add_ok h.okt k, ⟨As, ns, cs, A', n', c', ⟨rw_moves h1.r m h.d.1 (fun b hb => (h4 b hb).1), h1.o.movesA m (fun a ha => (h3 a ha).1) (fun a ha b hb e => (h4 b hb).2.2 a ha e.symm), h1.hB, h1.ne⟩, h', h3, fun a ha => ?_⟩, rw_moves h.q m h.d.2.2.1 (fun b hb => (h4 b hb).2.1), h.d⟩, h2.moves_below m hB⟩
  rcases m.at_ a ha with ⟨a0, e0, e1⟩ | h5
  · rw [e1]; exact h4 a0 e0
  · have := h1.lt
    have := h.q.lt
    exact ⟨by omega, by omega, fun b hb => by have := (h1.o.blk b hb).2; omega⟩
end
end Go.Proofs.Ytjbhhmjkdhkhaaa
