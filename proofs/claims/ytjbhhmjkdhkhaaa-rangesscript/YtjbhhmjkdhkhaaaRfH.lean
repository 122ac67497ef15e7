/-
  The program's set and the document's, side by side.
-/
import Derived.Test.YtjbhhmjkdhkhaaaRfG
import Derived.Test.YtjbhhmjkdhkhaaaRgL
namespace Go.Proofs.Ytjbhhmjkdhkhaaa
open Go.RowKit Go.Lib
set_option linter.unusedVariables false

theorem radd_any {w : World} {g cnt : Nat} {A : Option Addr} {s : RS} (h : RefS w g A cnt s) (ok : s.Ok) (hc : cnt ≤ 900) (x : Nat) (hx : x < 18446744073709551616) (z : Int) (hz : z = (x : Int)) :
    Calls Try.prog 16 #[.pointer (some ⟨g, 0, none⟩), .int .u64 z] w fun e w' => e = .returned (.bool (s.newB x)) ∧ ∃ A', RefS w' g A' (cnt + 1) (s.add x) ∧ Moves g A A' w w' := by
  subst hz
  by_cases hb : s.newB x = true
  · obtain ⟨n, c, N, h1, h2, h3⟩ := h.ex
    rw [hb]
    exact radd_yes w g n c cnt x A N s h1 h2 ok hc h3 h.at_ hx hb
  · have hb : s.newB x = false := by simpa using hb
    refine (radd_no w g cnt x A s h hc hx hb).mono ?_
    rintro e w' ⟨rfl, k, rfl⟩
    refine ⟨by rw [hb], A, ?_, Moves.of_below ⟨rfl, rfl, rfl, Nat.le_refl _, fun _ _ => rfl⟩⟩
    rw [RS.add_old hb]
    have h' := h.drewN k
    obtain ⟨n, c, N, h1, h2, h3⟩ := h'.ex
    exact ⟨⟨n, c, N, h1, h2, by omega⟩, h'.at_⟩
/-- the program's set s and the document's t, apart -/
structure Pair (w : World) (B gs gr cnt : Nat) (s t : RS) : Prop where
  oks : s.Ok
  okt : t.Ok
  ex : ∃ As ns cs Ar, SetW w B gs As ns cs s ∧ RefS w gr Ar cnt t ∧ (∀ a, As = some a → a.block ≠ gr) ∧ (∀ a, Ar = some a → a.block ≠ gs ∧ (∀ b, As = some b → a.block ≠ b.block) ∧ B ≤ a.block)
  d : gs ≠ gr ∧ B ≤ gr
section
variable {w w' : World} {B gs gr cnt : Nat} {s t : RS}
theorem Pair.below (h : Pair w B gs gr cnt s t) (hb : Below w.heap.size w w') : Pair w' B gs gr cnt s t := by
  obtain ⟨As, ns, cs, Ar, h1, h2, h3, h4⟩ := h.ex
  exact ⟨h.oks, h.okt, ⟨As, ns, cs, Ar, h1.below hb, h2.below hb, h3, h4⟩, h.d⟩
theorem Pair.drewN (h : Pair w B gs gr cnt s t) (k : Nat) : Pair (w.drewN k) B gs gr cnt s t := by
  obtain ⟨As, ns, cs, Ar, h1, h2, h3, h4⟩ := h.ex
  exact ⟨h.oks, h.okt, ⟨As, ns, cs, Ar, h1.drewN k, h2.drewN k, h3, h4⟩, h.d⟩
theorem Pair.st (h : Pair w B gs gr cnt s t) : St w B gs s := ⟨h.oks, by obtain ⟨As, ns, cs, Ar, h1, _⟩ := h.ex; exact ⟨As, ns, cs, h1⟩⟩
theorem Pair.moves_s {s' : RS} {n' c' ns cs : Nat} {A' As Ar : Option Addr} (h : Pair w B gs gr cnt s t) (h1 : SetW w B gs As ns cs s) (h2 : RefS w gr Ar cnt t) (h3 : ∀ a, As = some a → a.block ≠ gr) (h4 : ∀ a, Ar = some a → a.block ≠ gs ∧ (∀ b, As = some b → a.block ≠ b.block) ∧ B ≤ a.block)
    (ok : s'.Ok) (h' : SetW w' B gs A' n' c' s') (m : Moves gs As A' w w') : Pair w' B gs gr cnt s' t := by
  refine ⟨ok, h.okt, ⟨A', n', c', Ar, h', h2.moves m (fun e => h.d.1 e.symm) h3 (fun a ha => ⟨(h4 a ha).1, (h4 a ha).2.1⟩), fun a ha => ?_, fun a ha => ⟨(h4 a ha).1, fun b hb e => ?_, (h4 a ha).2.2⟩⟩, h.d⟩
  · rcases m.at_ a ha with ⟨a0, e0, e1⟩ | h5
    · rw [e1]; exact h3 a0 e0
    · have := h2.lt; omega
  · rcases m.at_ b hb with ⟨a0, e0, e1⟩ | h5
    · exact (h4 a ha).2.1 a0 e0 (e.trans e1)
    · have := (h2.at_ a ha).1; omega
theorem Pair.moves_r {t' : RS} {cnt' ns cs : Nat} {A' As Ar : Option Addr} (h : Pair w B gs gr cnt s t) (h1 : SetW w B gs As ns cs s) (h2 : RefS w gr Ar cnt t) (h3 : ∀ a, As = some a → a.block ≠ gr) (h4 : ∀ a, Ar = some a → a.block ≠ gs ∧ (∀ b, As = some b → a.block ≠ b.block) ∧ B ≤ a.block)
    (hB : B ≤ w.heap.size) (ok : t'.Ok) (h' : RefS w' gr A' cnt' t') (m : Moves gr Ar A' w w') : Pair w' B gs gr cnt' s t' ∧ Below B w w' := by
  refine ⟨⟨h.oks, ok, ⟨As, ns, cs, A', ⟨rw_moves h1.r m h.d.1 (fun b hb => (h4 b hb).1), h1.o.movesA m h3 (fun a ha b hb e => (h4 b hb).2.1 a ha e.symm), h1.hB, h1.ne⟩, h', h3, fun a ha => ?_⟩, h.d⟩, m.below h.d.2 (fun a ha => (h4 a ha).2.2) hB⟩
  rcases m.at_ a ha with ⟨a0, e0, e1⟩ | h5
  · rw [e1]; exact h4 a0 e0
  · have := h1.lt
    exact ⟨by omega, fun b hb => by have := (h1.o.blk b hb).2; omega, by omega⟩
theorem pair_adds (h : Pair w B gs gr cnt s t) (hB : B ≤ w.heap.size) (k : Nat) (z : Int) (hz : z = (k : Int)) :
    Calls Try.prog 11 #[.pointer (some ⟨gs, 0, none⟩), .int .u64 z] w fun e w' => e = .returned (.bool (s.newB k)) ∧ Pair w' B gs gr cnt (s.add k) t ∧ Below B w w' := by
  subst hz
  obtain ⟨As, ns, cs, Ar, h1, h2, h3, h4⟩ := h.ex
  refine (add_any gs As ns cs B k s w h1 h.oks hB).mono ?_
  rintro e w' ⟨rfl, A', n', c', h', m⟩
  exact ⟨rfl, h.moves_s h1 h2 h3 h4 (RS.add_ok h.oks k) h' m, h1.moves_below m hB⟩
theorem pair_belows (h : Pair w B gs gr cnt s t) (hB : B ≤ w.heap.size) (k : Nat) (hk : k < 18446744073709551616) (z : Int) (hz : z = (k : Int)) :
    Calls Try.prog 14 #[.pointer (some ⟨gs, 0, none⟩), .int .u64 z] w fun e w' => e = .returned (.tuple #[]) ∧ Pair w' B gs gr cnt (s.below k) t ∧ Below B w w' := by
  subst hz
  obtain ⟨As, ns, cs, Ar, h1, h2, h3, h4⟩ := h.ex
  refine (below_any w gs As ns cs B k s h1 ⟨_, h.oks.fall⟩ h.oks.flt hk (by have := h1.n64 h.oks; omega)).mono ?_
  rintro e w' ⟨rfl, n', h', m⟩
  exact ⟨rfl, h.moves_s h1 h2 h3 h4 (RS.below_ok h.oks hk) h' m, h1.moves_below m hB⟩
theorem pair_addr (h : Pair w B gs gr cnt s t) (hB : B ≤ w.heap.size) (hc : cnt ≤ 900) (k : Nat) (hk : k < 18446744073709551616) (z : Int) (hz : z = (k : Int)) :
    Calls Try.prog 16 #[.pointer (some ⟨gr, 0, none⟩), .int .u64 z] w fun e w' => e = .returned (.bool (t.newB k)) ∧ Pair w' B gs gr (cnt + 1) s (t.add k) ∧ Below B w w' := by
  obtain ⟨As, ns, cs, Ar, h1, h2, h3, h4⟩ := h.ex
  refine (radd_any h2 h.okt hc k hk z hz).mono ?_
  rintro e w' ⟨rfl, A', h', m⟩
  exact ⟨rfl, h.moves_r h1 h2 h3 h4 hB (RS.add_ok h.okt k) h' m⟩
theorem pair_belowr (h : Pair w B gs gr cnt s t) (hB : B ≤ w.heap.size) (hc : cnt ≤ 900) (k : Nat) (hk : k < 18446744073709551616) (z : Int) (hz : z = (k : Int)) :
    Calls Try.prog 15 #[.pointer (some ⟨gr, 0, none⟩), .int .u64 z] w fun e w' => e = .returned (.tuple #[]) ∧ Pair w' B gs gr cnt s (t.below k) ∧ Below B w w' := by
  obtain ⟨As, ns, cs, Ar, h1, h2, h3, h4⟩ := h.ex
  refine (rbelow_any h2 h.okt (by omega) k z hz).mono ?_
  rintro e w' ⟨rfl, A', h', m⟩
  exact ⟨rfl, h.moves_r h1 h2 h3 h4 hB (RS.below_ok h.okt hk) h' m⟩
theorem pair_hasr (h : Pair w B gs gr cnt s t) (hc : cnt ≤ 900) (k : Nat) (z : Int) (hz : z = (k : Int)) (b : Bool) (hb : decide (t.mem k) = b) :
    Calls Try.prog 19 #[.pointer (some ⟨gr, 0, none⟩), .int .u64 z] w (Quiet (.bool b) w) := by
  obtain ⟨As, ns, cs, Ar, h1, h2, h3, h4⟩ := h.ex
  exact rhas_ref h2 (by omega) k z hz b hb
theorem pair_listr (h : Pair w B gs gr cnt s t) (hc : cnt ≤ 900) :
    Calls Try.prog 17 #[.pointer (some ⟨gr, 0, none⟩)] w fun e w' => ∃ A' c', e = .returned (.slice A' t.l.length c') ∧ OwnR w' w.heap.size (.slice A' t.l.length c') t.l.length t.l ∧ Below w.heap.size w w' := by
  obtain ⟨As, ns, cs, Ar, h1, h2, h3, h4⟩ := h.ex
  exact rlist_ref h2 h.okt (by omega)
theorem Pair.more {cnt' : Nat} (h : Pair w B gs gr cnt s t) (hc : cnt ≤ cnt') : Pair w B gs gr cnt' s t := by
  obtain ⟨As, ns, cs, Ar, h1, h2, h3, h4⟩ := h.ex
  obtain ⟨n, c, N, k1, k2, k3⟩ := h2.ex
  exact ⟨h.oks, h.okt, ⟨As, ns, cs, Ar, h1, ⟨⟨n, c, N, k1, k2, by omega⟩, h2.at_⟩, h3, h4⟩, h.d⟩
end
/-- two new sets -/
theorem Pair.new {w w1 : World} {m : Nat} (h1 : 1 ≤ m) (h2 : m ≤ 64) (hs : SetW w1 w.heap.size w.heap.size none 0 0 (RS.new m)) (hb : Below w.heap.size w w1) :
    Pair (w1.alloc (.cells #[.int .i64 (m : Int), .slice none 0 0, .int .u64 0] 35)) w.heap.size w.heap.size w1.heap.size 0 (RS.new m) (RS.new m) :=
  ⟨RS.new_ok h1 h2, RS.new_ok h1 h2, ⟨none, 0, 0, none, hs.below ((Below.refl _ _).alloc (Nat.le_refl _) _), ⟨⟨0, 0, [], ⟨heap_alloc_new w1 _, ⟨rfl, fun h => absurd h (by omega)⟩, ⟨Nat.le_refl _, by simp [maxLen]⟩⟩, ofS_new m, Nat.le_refl _⟩, (fun a ha => by cases ha)⟩, (fun a ha => by cases ha), (fun a ha => by cases ha)⟩, by have := hs.lt; omega, hb.size⟩
end Go.Proofs.Ytjbhhmjkdhkhaaa
