/-
  A set of numbers that came, in memory; sort.Search; the place of a number.
-/
import Derived.Test.YtjbhhmjkdhkhaaaRgP
import Derived.Test.YtjbhhmjkdhkhaaaRgE
import Derived.Test.YtjbhhmjkdhkhaaaForgetW
import Derived.Deep.LoopGhost
import Derived.Shelf.Abstract
namespace Go.Proofs.Ytjbhhmjkdhkhaaa
open Go.RowKit Go.Lib
set_option linter.unusedVariables false

/-- the set s: its struct at block g, its ranges at A, both of the call's own, from B on -/
structure SetW (w : World) (B g : Nat) (A : Option Addr) (n c : Nat) (s : RS) : Prop where
  r : Rw w g 49 [.int .i64 (s.most : Int), .int .u64 (s.fl : Int), .slice A n c]
  o : OwnR w B (.slice A n c) n s.l
  hB : B ≤ g
  ne : ∀ a, A = some a → a.block ≠ g
section
variable {w w' : World} {B g n c : Nat} {A : Option Addr} {s : RS}
theorem SetW.lt (h : SetW w B g A n c s) : g < w.heap.size := h.r.lt
theorem SetW.below (h : SetW w B g A n c s) (hb : Below w.heap.size w w') : SetW w' B g A n c s := ⟨h.r.below hb, h.o.below hb, h.hB, h.ne⟩
theorem SetW.drewN (h : SetW w B g A n c s) (k : Nat) : SetW (w.drewN k) B g A n c s := ⟨h.r, h.o, h.hB, h.ne⟩
theorem SetW.drew (h : SetW w B g A n c s) : SetW w.drew B g A n c s := ⟨h.r, h.o, h.hB, h.ne⟩
theorem SetW.cells (h : SetW w B g A n c s) : w.cell? ⟨g, 0, none⟩ = some (.int .i64 (s.most : Int)) ∧ w.cell? ⟨g, 1, none⟩ = some (.int .u64 (s.fl : Int)) ∧ w.cell? ⟨g, 2, none⟩ = some (.slice A n c) :=
  ⟨h.r.cell 0 _ rfl, h.r.cell 1 _ rfl, h.r.cell 2 _ rfl⟩
theorem SetW.base {B' : Nat} (h : SetW w B g A n c s) (hB : B' ≤ B) : SetW w B' g A n c s := ⟨h.r, h.o.base hB, Nat.le_trans hB h.hB, h.ne⟩
end
/-- of what was there nothing has turned but block g and the row at A; the row at A' is that one, or a new one -/
structure Moves (g : Nat) (A A' : Option Addr) (w w' : World) : Prop where
  os : w'.os = w.os
  tape : w'.tape = w.tape
  output : w'.output = w.output
  size : w.heap.size ≤ w'.heap.size
  block : ∀ k, k < w.heap.size → k ≠ g → (∀ a, A = some a → k ≠ a.block) → w'.heap[k]? = w.heap[k]?
  at_ : ∀ a, A' = some a → (∃ a0, A = some a0 ∧ a.block = a0.block) ∨ w.heap.size ≤ a.block
theorem Moves.of_below {g : Nat} {A : Option Addr} {w w' : World} (h : Below w.heap.size w w') : Moves g A A w w' :=
  ⟨h.os, h.tape, h.output, h.size, fun k hk _ _ => h.block k hk, fun a ha => .inl ⟨a, ha, rfl⟩⟩
theorem Moves.trans {g : Nat} {A A' A'' : Option Addr} {u v w : World} (h : Moves g A A' u v) (k : Moves g A' A'' v w) (hg : g < u.heap.size) : Moves g A A'' u w :=
  ⟨k.os.trans h.os, k.tape.trans h.tape, k.output.trans h.output, Nat.le_trans h.size k.size, fun i hi h1 h2 =>
    (k.block i (Nat.lt_of_lt_of_le hi h.size) h1 fun a ha => by
      rcases h.at_ a ha with ⟨a0, e0, e1⟩ | h3
      · have := h2 a0 e0; omega
      · omega).trans (h.block i hi h1 h2), fun a ha => by
    rcases k.at_ a ha with ⟨a0, e0, e1⟩ | h3
    · rcases h.at_ a0 e0 with ⟨a1, e2, e3⟩ | h4
      · exact .inl ⟨a1, e2, e1.trans e3⟩
      · exact .inr (by omega)
    · exact .inr (Nat.le_trans h.size h3)⟩
theorem Moves.below {g B : Nat} {A A' : Option Addr} {w w' : World} (h : Moves g A A' w w') (hg : B ≤ g) (hA : ∀ a, A = some a → B ≤ a.block) (hB : B ≤ w.heap.size) : Below B w w' :=
  ⟨h.os, h.tape, h.output, h.size, fun k hk => h.block k (by omega) (by omega) fun a ha => by have := hA a ha; omega⟩
theorem SetW.moves_below {w w' : World} {B g n c : Nat} {A A' : Option Addr} {s : RS} (h : SetW w B g A n c s) (m : Moves g A A' w w') (hB : B ≤ w.heap.size) : Below B w w' :=
  m.below h.hB (fun a ha => (h.o.blk a ha).1) hB

set_option maxHeartbeats 4000000 in
/-- sort.Search, of a function that only reads: where it begins to say yes -/
theorem search_any (f : FuncId) (cb : Array Value) (n : Nat) (p : Nat → Bool) (w : World) (eg : ∀ args w, (callFunc f args).run Try.prog w = .ok (.enter f args) w) (hsz : n < 4611686018427387904)
    (hf : ∀ (m i : Nat), i < n → Calls Try.prog f (#[.int .i64 (i : Int)] ++ cb) (w.drewN m) (Quiet (.bool (p i)) (w.drewN m)))
    (hmono : ∀ a b, a ≤ b → b < n → p a = true → p b = true) :
    Calls Try.prog 25 #[.int .i64 (n : Int), .func (.func f) #[] cb] w fun e w' => ∃ k : Nat, e = .returned (.int .i64 (k : Int)) ∧ k ≤ n ∧ (∀ t, t < k → p t = false) ∧ (∀ t, k ≤ t → t < n → p t = true) ∧ ∃ q, w' = w.drewN q := by
  have HF : Aside _ := hf
  have M : Aside _ := hmono
  clear hf hmono
  go_enter Try.func25, Try.ntmps25
  go_wp2
  go_loopg [5, 6] n (fun kx s5 s6 wr => ∃ (lo hi q : Nat), s5 = .int .i64 lo ∧ s6 = .int .i64 hi ∧ lo ≤ hi ∧ hi ≤ n ∧ hi - lo ≤ kx ∧ wr = w.drewN q ∧
    Aside ((∀ t, t < lo → p t = false) ∧ (∀ t, hi ≤ t → t < n → p t = true)))
  case atStart => exact ⟨0, n, 0, rfl, rfl, Nat.zero_le _, Nat.le_refl _, by omega, rfl, (⟨fun t ht => absurd ht (Nat.not_lt_zero _), fun t h1 h2 => by omega⟩ : (∀ t, t < 0 → p t = false) ∧ (∀ t, n ≤ t → t < n → p t = true))⟩
  case round =>
    obtain ⟨lo, hi, q, rfl, rfl, hlh, hin, hg, rfl, I⟩ := hrel
    by_cases hlt : lo < hi
    · have hc := HF.out q ((lo + hi) / 2) (by omega)
      rw [show (((lo + hi) / 2 : Nat) : Int) = ((lo : Int) + (hi : Int)) / 2 by omega] at hc
      cases hp : p ((lo + hi) / 2) <;> rw [hp] at hc
      · have HP : Aside (p ((lo + hi) / 2) = false) := hp
        clear hp
        go_wp2_with (go_at_fn f; refine hc.mono ?_; rintro e w' ⟨rfl, nq, rfl⟩)
        go_roundg (hi - ((lo + hi) / 2 + 1))
        case measure => omega
        case rel =>
          have I2 : Aside ((∀ t, t < (lo + hi) / 2 + 1 → p t = false) ∧ (∀ t, hi ≤ t → t < n → p t = true)) := ⟨fun t ht => (by
            cases h : p t with
            | false => rfl
            | true => have := M.out t ((lo + hi) / 2) (by omega) (by omega) h; rw [HP.out] at this; cases this), I.out.2⟩
          exact ⟨(lo + hi) / 2 + 1, hi, q + nq, by rw [show ((lo : Int) + (hi : Int)) / 2 + 1 = (((lo + hi) / 2 + 1 : Nat) : Int) by omega], rfl, by omega, hin, Nat.le_refl _, rfl, I2⟩
      · have HP : Aside (p ((lo + hi) / 2) = true) := hp
        clear hp
        go_wp2_with (go_at_fn f; refine hc.mono ?_; rintro e w' ⟨rfl, nq, rfl⟩)
        go_roundg ((lo + hi) / 2 - lo)
        case measure => omega
        case rel =>
          have I2 : Aside ((∀ t, t < lo → p t = false) ∧ (∀ t, (lo + hi) / 2 ≤ t → t < n → p t = true)) := ⟨I.out.1, fun t ht htn => M.out ((lo + hi) / 2) t ht htn HP.out⟩
          exact ⟨lo, (lo + hi) / 2, q + nq, rfl, by rw [show ((lo : Int) + (hi : Int)) / 2 = (((lo + hi) / 2 : Nat) : Int) by omega], by omega, by omega, Nat.le_refl _, rfl, I2⟩
    · obtain rfl : hi = lo := by omega
      go_wp2
      go_ret
      exact ⟨hi, rfl, hin, I.out.1, I.out.2, q, rfl⟩

set_option maxHeartbeats 2000000 in
/-- the function that 'from' searches by -/
theorem from_fn (g : Nat) (A : Option Addr) (n c b1 b2 B k i : Nat) (s : RS) (w : World) (h : SetW w B g A n c s) (hi : i < s.l.length) (hk : k < 18446744073709551616)
    (c1 : w.cell? ⟨b1, 0, none⟩ = some (.pointer (some ⟨g, 0, none⟩))) (c2 : w.cell? ⟨b2, 0, none⟩ = some (.int .u64 (k : Int))) :
    Calls Try.prog 29 (#[.int .i64 (i : Int)] ++ #[.pointer (some ⟨b1, 0, none⟩), .pointer (some ⟨b2, 0, none⟩)]) w (Quiet (.bool (decide (s.l[i].1 ≤ k))) w) := by
  obtain ⟨h0, h1, h2⟩ := h.cells
  have hn := h.o.len
  obtain ⟨b, off, rfl, hb, hcell⟩ := h.o.sl.2 (by omega)
  have c3 := (hcell i hi).1
  generalize s.l[i].1 = x at c3 ⊢
  have hin : i < n := by omega
  have hin' : (i : Int) < (n : Int) := by omega
  have t : decide ((x : Int) ≤ (k : Int)) = decide (x ≤ k) := decide_eq_decide.2 (by omega)
  clear h hi hcell hb h0 h1 hn
  go_enter Try.func29, Try.ntmps29
  go_wp2_with fail
  go_quiet (fail)
  go_wp2
  go_ret
  exact ⟨by simp, _, rfl⟩
end Go.Proofs.Ytjbhhmjkdhkhaaa
