/-
  Times of answers: what is held of them, and the contracts of package clock.
-/
import Derived.Test.YthebngmgekbpoaaRwC
import Derived.Test.YthebngmgekbpoaaInts
import Derived.Test.YthebngmgekbpoaaLow
import Derived.Lib.MinMax
import Derived.Lib.Hide
namespace Go.Proofs.Ythebngmgekbpoaa
open Go.RowKit Go.Lib
set_option linter.unusedVariables false

/-- what a clock holds: whether there was a sample; smoothed, varies, least -/
structure Ck where
  on : Bool
  s : Int
  v : Int
  l : Int
def Ck.new : Ck := ⟨false, 16, 8, 0⟩
/-- a sample's time without its delay, where the least allows it -/
def restV (l r d : Int) : Int := if r - min d 25 < l then r else r - min d 25
def Ck.tell (c : Ck) (r d : Int) : Ck :=
  if r < 0 ∨ 1048576 < r ∨ d < 0 then c
  else if c.on then ⟨true, (7 * c.s + restV (min c.l r) r d) / 8, (3 * c.v + max (c.s - restV (min c.l r) r d) (restV (min c.l r) r d - c.s)) / 4, min c.l r⟩
  else ⟨true, r, r / 2, r⟩
def Ck.Ok (c : Ck) : Prop := (0 ≤ c.s ∧ c.s ≤ 1048576) ∧ (0 ≤ c.v ∧ c.v ≤ 1048576) ∧ (0 ≤ c.l ∧ c.l ≤ 1048576)
theorem Ck.new_ok : Ck.new.Ok := ⟨by decide, by decide, by decide⟩
theorem rest_bd {l r d : Int} (hl : 0 ≤ l) (hlr : l ≤ r) (hr : r ≤ 1048576) (hd : 0 ≤ d) : l ≤ restV l r d ∧ restV l r d ≤ r := by
  unfold restV
  split <;> omega
theorem Ck.tell_ok {c : Ck} (h : c.Ok) (r d : Int) : (c.tell r d).Ok := by
  unfold Ck.tell
  split
  · exact h
  · rename_i hg
    obtain ⟨⟨h1, h2⟩, ⟨h3, h4⟩, h5, h6⟩ := h
    have h7 := rest_bd (l := min c.l r) (r := r) (d := d) (by omega) (by omega) (by omega) (by omega)
    generalize restV (min c.l r) r d = q at *
    split
    · exact ⟨⟨by simp only; omega, by simp only; omega⟩, ⟨by simp only; omega, by simp only; omega⟩, by simp only; omega, by simp only; omega⟩
    · exact ⟨⟨by simp only; omega, by simp only; omega⟩, ⟨by simp only; omega, by simp only; omega⟩, by simp only; omega, by simp only; omega⟩
/-- how long one waits -/
def ptoV (s v t : Int) : Int := if t ≤ 0 then min (max (s + max (4 * v) 1) 40) 64 else 64
theorem pto_bd (s v t : Int) : 40 ≤ ptoV s v t ∧ ptoV s v t ≤ 64 := by unfold ptoV; split <;> omega
def Ck.cells (c : Ck) : List Value := [.bool c.on, .int .i64 c.s, .int .i64 c.v, .int .i64 c.l]
/-- a clock at block g -/
def CkW (w : World) (g : Nat) (c : Ck) : Prop := Rw w g 39 c.cells
theorem CkW.below {w w' : World} {g : Nat} {c : Ck} (h : CkW w g c) (hb : Below w.heap.size w w') : CkW w' g c := Rw.below h hb

theorem new_any (w : World) : Calls Try.prog 8 #[] w fun e w' => e = .returned (.pointer (some ⟨w.heap.size, 0, none⟩)) ∧ CkW w' w.heap.size Ck.new ∧ Below w.heap.size w w' := by
  go_enter Try.func8, Try.ntmps8
  go_wp2
  go_ret
  exact ⟨rfl, heap_alloc_new w _, (Below.refl _ _).alloc (Nat.le_refl _) _⟩
theorem smoothed_any {w : World} {g : Nat} {c : Ck} (h : CkW w g c) : Calls Try.prog 12 #[.pointer (some ⟨g, 0, none⟩)] w fun e w' => e = .returned (.int .i64 c.s) ∧ w = w' := by
  have c1 := Rw.cell h 1 _ rfl
  go_enter Try.func12, Try.ntmps12
  go_wp2
  go_ret
  exact ⟨rfl, rfl⟩
theorem varies_any {w : World} {g : Nat} {c : Ck} (h : CkW w g c) : Calls Try.prog 13 #[.pointer (some ⟨g, 0, none⟩)] w fun e w' => e = .returned (.int .i64 c.v) ∧ w = w' := by
  have c1 := Rw.cell h 2 _ rfl
  go_enter Try.func13, Try.ntmps13
  go_wp2
  go_ret
  exact ⟨rfl, rfl⟩
theorem least_any {w : World} {g : Nat} {c : Ck} (h : CkW w g c) : Calls Try.prog 14 #[.pointer (some ⟨g, 0, none⟩)] w fun e w' => e = .returned (.int .i64 c.l) ∧ w = w' := by
  have c1 := Rw.cell h 3 _ rfl
  go_enter Try.func14, Try.ntmps14
  go_wp2
  go_ret
  exact ⟨rfl, rfl⟩
theorem distance_any (a b : Int) (ha : 0 ≤ a ∧ a ≤ 1048576) (hb : 0 ≤ b ∧ b ≤ 1048576) (w : World) : Calls Try.prog 21 #[.int .i64 a, .int .i64 b] w fun e w' => e = .returned (.int .i64 (max (a - b) (b - a))) ∧ w = w' := by
  obtain ⟨ha0, ha1⟩ := ha
  obtain ⟨hb0, hb1⟩ := hb
  go_enter Try.func21, Try.ntmps21
  go_wp2
  go_ret
  exact ⟨rfl, rfl⟩
theorem without_any {w : World} {g : Nat} {c : Ck} (h : CkW w g c) (r d : Int) (hl : 0 ≤ c.l ∧ c.l ≤ 1048576) (hr : 0 ≤ r ∧ r ≤ 1048576) (hd : 0 ≤ d) :
    Calls Try.prog 20 #[.pointer (some ⟨g, 0, none⟩), .int .i64 r, .int .i64 d] w fun e w' => e = .returned (.int .i64 (restV c.l r d)) ∧ w = w' := by
  obtain ⟨hr0, hr1⟩ := hr
  have c3 := Rw.cell h 3 _ rfl
  obtain ⟨q, hq⟩ : ∃ q, restV c.l r d = q := ⟨_, rfl⟩
  rw [hq]
  obtain ⟨l, hlq⟩ : ∃ l, c.l = l := ⟨_, rfl⟩
  rw [hlq] at hq c3
  obtain ⟨x, hx⟩ : ∃ x, min d 25 = x := ⟨_, rfl⟩
  have hx0 : 0 ≤ x := by omega
  have hx1 : x ≤ 25 := by omega
  unfold restV at hq
  rw [hx] at hq
  clear h
  by_cases t : r - x < l
  · rw [if_pos t] at hq
    go_enter Try.func20, Try.ntmps20
    go_wp2
    go_ret
    exact ⟨by rw [hq]; rfl, rfl⟩
  · rw [if_neg t] at hq
    have HQ := Lib.hid hq
    clear hq
    go_enter Try.func20, Try.ntmps20
    go_wp2
    go_ret
    exact ⟨by rw [HQ.out]; rfl, rfl⟩
end Go.Proofs.Ythebngmgekbpoaa
