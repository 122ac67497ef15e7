/-
  Frames as values: ten cells, lists of bytes and of ranges; bytes compared; ranges compared.
-/
import Derived.Test.YtcipmfhacloegaaFrS
import Derived.Test.YtcipmfhacloegaaPtA
import Derived.Test.YtcipmfhacloegaaRgW
import Derived.Test.YtcipmfhacloegaaConv
import Derived.Test.YtcipmfhacloegaaSame
namespace Go.Proofs.Ytcipmfhacloegaa
open Go.RowKit
set_option linter.unusedVariables false

/-- where a frame's lists lie -/
structure Fp where
  ra : Option Addr
  rn : Nat
  rc : Nat
  da : Option Addr
  dn : Nat
  dc : Nat
  ca : Option Addr
  cn : Nat
  cc : Nat
  ta : Option Addr
  tn : Nat
  tc : Nat
def Fp.nil : Fp := ⟨none, 0, 0, none, 0, 0, none, 0, 0, none, 0, 0⟩
/-- a frame's cells -/
def frV (f : Fr) (p : Fp) : List Value := [.int .i64 f.kind, .int .u64 (f.n : Int), .int .u64 (f.delay : Int), .slice p.ra p.rn p.rc, .int .u64 (f.id : Int), .int .u64 (f.off : Int), .bool f.fin, .slice p.da p.dn p.dc, .slice p.ca p.cn p.cc, .slice p.ta p.tn p.tc]
def fr0 : List Value := [.int .i64 0, .int .u64 0, .int .u64 0, .slice none 0 0, .int .u64 0, .int .u64 0, .bool false, .slice none 0 0, .slice none 0 0, .slice none 0 0]
theorem fr_size : (Try.prog.info? 26).map (·.size) = some 10 := by kernel_rfl
theorem frV_len (f : Fr) (p : Fp) : (frV f p).length = 10 := rfl
theorem frV_size (f : Fr) (p : Fp) : (Try.prog.info? 26).map (·.size) = some (frV f p).length := fr_size
theorem frV_one (f : Fr) (p : Fp) : ∀ v ∈ frV f p, v.oneCell' = true := by simp [frV, Value.oneCell']
theorem fr0_one : ∀ v ∈ fr0, v.oneCell' = true := by simp [fr0, Value.oneCell']
theorem frV_nil : frV (Fr.of 0) Fp.nil = fr0 := rfl
theorem fr_cells {w : World} {g : Nat} {t : TypeId} {f : Fr} {p : Fp} (h : Rw w g t (frV f p)) :
    w.cell? ⟨g, 0, none⟩ = some (.int .i64 f.kind) ∧ w.cell? ⟨g, 1, none⟩ = some (.int .u64 (f.n : Int)) ∧ w.cell? ⟨g, 2, none⟩ = some (.int .u64 (f.delay : Int)) ∧ w.cell? ⟨g, 3, none⟩ = some (.slice p.ra p.rn p.rc) ∧ w.cell? ⟨g, 4, none⟩ = some (.int .u64 (f.id : Int)) ∧
      w.cell? ⟨g, 5, none⟩ = some (.int .u64 (f.off : Int)) ∧ w.cell? ⟨g, 6, none⟩ = some (.bool f.fin) ∧ w.cell? ⟨g, 7, none⟩ = some (.slice p.da p.dn p.dc) ∧ w.cell? ⟨g, 8, none⟩ = some (.slice p.ca p.cn p.cc) ∧ w.cell? ⟨g, 9, none⟩ = some (.slice p.ta p.tn p.tc) :=
  ⟨h.cell 0 _ rfl, h.cell 1 _ rfl, h.cell 2 _ rfl, h.cell 3 _ rfl, h.cell 4 _ rfl, h.cell 5 _ rfl, h.cell 6 _ rfl, h.cell 7 _ rfl, h.cell 8 _ rfl, h.cell 9 _ rfl⟩

theorem Own.bnd {w : World} {B n c : Nat} {A : Option Addr} {l : List UInt8} (h : Own w B (.slice A n c) n l) : n ≤ c ∧ c ≤ maxLen := by
  obtain ⟨A', c', e, h1, h2⟩ := h.form
  injection e with _ _ hc
  subst hc
  exact ⟨h1, h2⟩
/-- a frame's lists lie below B -/
structure FrL (w : World) (B : Nat) (f : Fr) (p : Fp) : Prop where
  r : SlR w B p.ra p.rn f.rs
  d : Sl w B p.da p.dn f.data
  c : Sl w B p.ca p.cn f.cid
  t : Sl w B p.ta p.tn f.tok
  rb : p.rn ≤ p.rc ∧ p.rc ≤ maxLen
  db : p.dn ≤ p.dc ∧ p.dc ≤ maxLen
  cb : p.cn ≤ p.cc ∧ p.cc ≤ maxLen
  tb : p.tn ≤ p.tc ∧ p.tc ≤ maxLen
theorem FrL.below {w w' : World} {B : Nat} {f : Fr} {p : Fp} (h : FrL w B f p) (hb : Below B w w') : FrL w' B f p :=
  ⟨h.r.below hb, h.d.below hb, h.c.below hb, h.t.below hb, h.rb, h.db, h.cb, h.tb⟩
theorem FrL.more {w : World} {B B' : Nat} {f : Fr} {p : Fp} (h : FrL w B f p) (hB : B ≤ B') : FrL w B' f p :=
  ⟨h.r.more hB, h.d.more hB, h.c.more hB, h.t.more hB, h.rb, h.db, h.cb, h.tb⟩
/-- its numbers are such -/
structure FrN (f : Fr) : Prop where
  k : -9223372036854775808 ≤ f.kind ∧ f.kind < 9223372036854775808
  n : f.n < 18446744073709551616
  d : f.delay < 18446744073709551616
  i : f.id < 18446744073709551616
  o : f.off < 18446744073709551616
  r : ∀ x ∈ f.rs, x.1 < 18446744073709551616 ∧ x.2 < 18446744073709551616
/-- a frame's lists are of the call's own, from base on -/
structure FrO (w : World) (base : Nat) (f : Fr) (p : Fp) : Prop where
  r : OwnR w base (.slice p.ra p.rn p.rc) p.rn f.rs
  d : Own w base (.slice p.da p.dn p.dc) p.dn f.data
  c : Own w base (.slice p.ca p.cn p.cc) p.cn f.cid
  t : Own w base (.slice p.ta p.tn p.tc) p.tn f.tok
theorem FrO.l {w : World} {base : Nat} {f : Fr} {p : Fp} (h : FrO w base f p) : FrL w w.heap.size f p :=
  ⟨h.r.sl, h.d.sl, h.c.sl, h.t.sl, h.r.bnd, h.d.bnd, h.c.bnd, h.t.bnd⟩
theorem FrO.below {w w' : World} {base : Nat} {f : Fr} {p : Fp} (h : FrO w base f p) (hb : Below w.heap.size w w') : FrO w' base f p :=
  ⟨h.r.below hb, h.d.below hb, h.c.below hb, h.t.below hb⟩
theorem FrO.base {w : World} {base b' : Nat} {f : Fr} {p : Fp} (h : FrO w base f p) (hB : b' ≤ base) : FrO w b' f p :=
  ⟨h.r.base hB, h.d.base hB, h.c.base hB, h.t.base hB⟩
theorem FrO.only {w w' : World} {base g : Nat} {f : Fr} {p : Fp} (h : FrO w base f p) (ho : Only g w w') (hg : g < base) : FrO w' base f p :=
  ⟨h.r.onlyA ho fun a ha => by have := (h.r.blk a ha).1; omega, h.d.onlyA ho fun a ha => by have := (h.d.blk a ha).1; omega, h.c.onlyA ho fun a ha => by have := (h.c.blk a ha).1; omega, h.t.onlyA ho fun a ha => by have := (h.t.blk a ha).1; omega⟩
theorem FrO.nil (w : World) (base : Nat) (k : Int) : FrO w base (Fr.of k) Fp.nil := ⟨OwnR.nil _ _, Own.nil _ _, Own.nil _ _, Own.nil _ _⟩

theorem eql_list {α : Type} [DecidableEq α] (l r : List α) : (l == r) = decide (l = r) := by
  by_cases h : l = r <;> simp [h]
/-- bytes.Equal -/
theorem bequal_any (l r : List UInt8) (A A' : Option Addr) (n n' c c' B B' : Nat) (w : World) (h : Sl w B A n l) (h' : Sl w B' A' n' r) (b : Bool) (hb : decide (l = r) = b) :
    Calls Try.prog 39 #[.slice A n c, .slice A' n' c'] w fun e w' => e = .returned (.bool b) ∧ w = w' := by
  have h1 := conv_bytes l A n c B w h
  have h2 := conv_bytes r A' n' c' B' w h'
  have t := (eql_list l r).trans hb
  clear h h' hb
  go_enter Try.func39, Try.ntmps39
  go_wp2
  go_ret
  exact ⟨rfl, rfl⟩
/-- mayPiece -/
theorem mayPiece_any (o s : Nat) (ho : o < 18446744073709551616) (hs : s < 18446744073709551616) (b : Bool) (hb : decide (s < 16384 ∧ o + s ≤ maxV) = b) (w : World) :
    Calls Try.prog 60 #[.int .u64 (o : Int), .int .u64 (s : Int)] w fun e w' => e = .returned (.bool b) ∧ w = w' := by
  unfold maxV at hb
  subst hb
  by_cases h1 : s ≤ 16383
  · by_cases h2 : o ≤ 4611686018427387903
    · have e : decide (s < 16384 ∧ o + s ≤ 4611686018427387903) = decide (s ≤ 4611686018427387903 - o) := by
        refine decide_eq_decide.2 ?_
        omega
      rw [e]
      obtain ⟨d, hd⟩ : ∃ d : Nat, 4611686018427387903 - o = d := ⟨_, rfl⟩
      have t0 : (4611686018427387903 : Int) - (o : Int) = (d : Int) := by omega
      have hd2 : d < 18446744073709551616 := by omega
      rw [hd]
      have t1 : decide ((s : Int) ≤ 16383) = true := by simp; omega
      have t2 : decide ((o : Int) ≤ 4611686018427387903) = true := by simp; omega
      clear e hd h1 h2
      go_enter Try.func60, Try.ntmps60
      go_wp2
      go_ret
      exact ⟨by simp, rfl⟩
    · have e : decide (s < 16384 ∧ o + s ≤ 4611686018427387903) = false := by simp; omega
      rw [e]
      have t1 : decide ((s : Int) ≤ 16383) = true := by simp; omega
      have t2 : decide ((o : Int) ≤ 4611686018427387903) = false := by simp; omega
      clear e h1 h2
      go_enter Try.func60, Try.ntmps60
      go_wp2
      go_ret
      exact ⟨rfl, rfl⟩
  · have e : decide (s < 16384 ∧ o + s ≤ 4611686018427387903) = false := by simp; omega
    rw [e]
    have t1 : decide ((s : Int) ≤ 16383) = false := by simp; omega
    clear e h1
    go_enter Try.func60, Try.ntmps60
    go_wp2
    go_ret
    exact ⟨rfl, rfl⟩
end Go.Proofs.Ytcipmfhacloegaa
