/-
  Words of 64 bits as rows of marks, and how many of a word's bits are set. Pure.
-/
import Derived.Test.YtocolaccgoochaaDoorOuP
import Derived.Test.YtocolaccgoochaaDoorBytes
import Derived.Lib.TrailingZeros
namespace Go.Proofs.YtocolaccgoochaaDoor
open Go.RowKit
set_option linter.unusedVariables false

/-- a word as a number, under a name that the walk's rules do not open -/
def qn (x : UInt64) : Int := (x.toNat : Int)
theorem qn_bd (x : UInt64) : 0 ≤ qn x ∧ qn x < 18446744073709551616 := by have := x.toNat_lt; unfold qn; omega
def qv (x : UInt64) : Value := .int .u64 (qn x)
def qvs (l : List UInt64) : List Value := l.map qv
theorem qvs_length (l : List UInt64) : (qvs l).length = l.length := by simp [qvs]
theorem qvs_at (l : List UInt64) (j : Nat) (h : j < l.length) : (qvs l)[j]? = some (.int .u64 (qn (l.getD j 0))) := by
  simp [qvs, qv, h]
theorem qvs_set (l : List UInt64) (j : Nat) (x : UInt64) : (qvs l).set j (.int .u64 (qn x)) = qvs (l.set j x) := by
  simp [qvs, qv, List.map_set]
def bitQ (x : UInt64) (j : Nat) : Bool := x.toNat.testBit j
theorem bit_or (x y : UInt64) (j : Nat) : bitQ (x ||| y) j = (bitQ x j || bitQ y j) := by simp [bitQ]
theorem bit_and (x y : UInt64) (j : Nat) : bitQ (x &&& y) j = (bitQ x j && bitQ y j) := by simp [bitQ]
theorem bit_xor (x y : UInt64) (j : Nat) : bitQ (x ^^^ y) j = (bitQ x j ^^ bitQ y j) := by simp [bitQ]
theorem toNat_notQ (x : UInt64) : (~~~ x).toNat = 2 ^ 64 - (x.toNat + 1) := by
  rw [UInt64.toNat_not]
  simp only [UInt64.size]
  omega
theorem bit_not (x : UInt64) {j : Nat} (hj : j < 64) : bitQ (~~~ x) j = !bitQ x j := by
  unfold bitQ
  rw [toNat_notQ, Nat.testBit_two_pow_sub_succ x.toNat_lt]
  simp [hj]
theorem bit_zero (j : Nat) : bitQ 0 j = false := by simp [bitQ]
theorem bit_all {j : Nat} (hj : j < 64) : bitQ 18446744073709551615 j = true := by
  have e : (18446744073709551615 : UInt64) = ~~~ 0 := by decide
  rw [e, bit_not 0 hj, bit_zero]
  rfl
theorem bits_none {x : UInt64} (h : ∀ j, j < 64 → bitQ x j = false) : x = 0 := by
  apply UInt64.toNat_inj.1
  apply Nat.eq_of_testBit_eq
  intro j
  by_cases hj : j < 64
  · have := h j hj
    unfold bitQ at this
    rw [this]
    simp
  · rw [Nat.testBit_lt_two_pow (Nat.lt_of_lt_of_le x.toNat_lt (Nat.pow_le_pow_right (by omega) (by omega)))]
    simp
/-- the first of its bits -/
theorem ctz_first {x : UInt64} {j : Nat} (h1 : bitQ x j = true) (h2 : ∀ i, i < j → bitQ x i = false) : Lib.ctz 64 x.toNat = j := by
  have h0 : x.toNat ≠ 0 := fun h => by
    unfold bitQ at h1
    rw [h] at h1
    simp at h1
  unfold Lib.ctz
  rw [if_neg h0]
  obtain ⟨m, hm, _⟩ := Lib.ctzFrom_spec 64 x.toNat (by omega) x.toNat_lt
  generalize Lib.ctzFrom 64 x.toNat = c at hm
  unfold bitQ at h1 h2
  rw [hm] at h1 h2
  have hb : ∀ i, (2 ^ c * (2 * m + 1)).testBit i = (decide (c ≤ i) && (2 * m + 1).testBit (i - c)) := fun i => by
    rw [Nat.testBit_two_pow_mul]
  rcases Nat.lt_trichotomy c j with h | h | h
  · have := h2 c h
    rw [hb c] at this
    simp at this
  · exact h
  · rw [hb j] at h1
    simp at h1
    omega
theorem ctz_bit {x : UInt64} (h : x ≠ 0) : bitQ x (Lib.ctz 64 x.toNat) = true ∧ Lib.ctz 64 x.toNat < 64 := by
  have h0 : x.toNat ≠ 0 := fun e => h (UInt64.toNat_inj.1 (by rw [e]; rfl))
  unfold Lib.ctz
  rw [if_neg h0]
  obtain ⟨m, hm, hc⟩ := Lib.ctzFrom_spec 64 x.toNat (by omega) x.toNat_lt
  refine ⟨?_, hc⟩
  unfold bitQ
  generalize Lib.ctzFrom 64 x.toNat = c at hm
  rw [hm, Nat.testBit_two_pow_mul]
  simp

/-! which bits of word w mark places from lo on, up to hi -/
def fromQ (f : Nat) : UInt64 := UInt64.ofNat (18446744073709551615 * 2 ^ f % 18446744073709551616)
def uptoQ (d : Nat) : UInt64 := UInt64.ofNat (18446744073709551615 / 2 ^ d)
def partQ (w lo hi : Nat) : UInt64 := fromQ (lo - 64 * w) &&& uptoQ (64 - min (hi - 64 * w) 64)
theorem bit_from (f : Nat) {j : Nat} (hj : j < 64) : bitQ (fromQ f) j = decide (f ≤ j) := by
  unfold bitQ fromQ
  rw [UInt64.toNat_ofNat', Nat.mod_mod_of_dvd _ (Nat.dvd_refl _), Nat.mul_comm]
  rw [show (18446744073709551616 : Nat) = 2 ^ 64 from rfl, show (18446744073709551615 : Nat) = 2 ^ 64 - 1 from rfl, Nat.testBit_mod_two_pow, Nat.testBit_two_pow_mul, Nat.testBit_two_pow_sub_one]
  simp [hj]
  intro
  omega
theorem bit_upto (d : Nat) {j : Nat} (hj : j < 64) : bitQ (uptoQ d) j = decide (j + d < 64) := by
  unfold bitQ uptoQ
  have hlt : 18446744073709551615 / 2 ^ d < 2 ^ 64 := Nat.lt_of_le_of_lt (Nat.div_le_self _ _) (by decide)
  rw [UInt64.toNat_ofNat', Nat.mod_eq_of_lt hlt, show (18446744073709551615 : Nat) = 2 ^ 64 - 1 from rfl, Nat.testBit_div_two_pow, Nat.testBit_two_pow_sub_one]
theorem bit_part {w lo hi j : Nat} (hj : j < 64) (hw : 64 * w < hi) : bitQ (partQ w lo hi) j = (decide (lo ≤ 64 * w + j) && decide (64 * w + j < hi)) := by
  unfold partQ
  rw [bit_and, bit_from _ hj, bit_upto _ hj]
  have e1 : decide (lo - 64 * w ≤ j) = decide (lo ≤ 64 * w + j) := by rw [decide_eq_decide]; omega
  have e2 : decide (j + (64 - min (hi - 64 * w) 64) < 64) = decide (64 * w + j < hi) := by rw [decide_eq_decide]; omega
  rw [e1, e2]

/-! marks: a row of k words, a bit a place -/
def Mk (ws : List UInt64) (k : Nat) (p : Nat → Bool) : Prop := ws.length = k ∧ ∀ i, i < 64 * k → bitQ (ws.getD (i / 64) 0) (i % 64) = p i
theorem Mk.cong {ws : List UInt64} {k : Nat} {p q : Nat → Bool} (h : Mk ws k p) (hpq : ∀ i, i < 64 * k → p i = q i) : Mk ws k q := ⟨h.1, fun i hi => (h.2 i hi).trans (hpq i hi)⟩
theorem Mk.zeros (k : Nat) : Mk (List.replicate k 0) k (fun _ => false) := ⟨by simp, fun i hi => by
  rw [List.getD_eq_getElem?_getD, List.getElem?_replicate]
  split <;> exact bit_zero _⟩
theorem Mk.at_ {ws : List UInt64} {k v j : Nat} {p : Nat → Bool} (h : Mk ws k p) (hv : v < k) (hj : j < 64) : bitQ (ws.getD v 0) j = p (64 * v + j) := by
  have := h.2 (64 * v + j) (by omega)
  rwa [show (64 * v + j) / 64 = v by omega, show (64 * v + j) % 64 = j by omega] at this
theorem Mk.put {ws : List UInt64} {k v : Nat} {p q : Nat → Bool} {x : UInt64} (h : Mk ws k p) (hv : v < k) (hx : ∀ j, j < 64 → bitQ x j = q (64 * v + j)) : Mk (ws.set v x) k (fun i => if i / 64 = v then q i else p i) := by
  refine ⟨by rw [List.length_set]; exact h.1, fun i hi => ?_⟩
  have hl := h.1
  rw [List.getD_eq_getElem?_getD]
  show _ = if i / 64 = v then q i else p i
  by_cases e : i / 64 = v
  · rw [if_pos e, e, List.getElem?_set_self (by omega)]
    have := hx (i % 64) (by omega)
    rwa [show 64 * v + i % 64 = i by omega] at this
  · rw [List.getElem?_set_ne (Ne.symm e), if_neg e, ← List.getD_eq_getElem?_getD]
    exact h.2 i hi
/-- from lo on, up to hi, as r has it, as far as the words below v go -/
def upW (p r : Nat → Bool) (lo hi v : Nat) (i : Nat) : Bool := if lo ≤ i ∧ i < hi ∧ i < 64 * v then r i else p i
theorem up_start {ws : List UInt64} {k lo hi v : Nat} {p r : Nat → Bool} (h : Mk ws k p) (hv : v = lo / 64) : Mk ws k (upW p r lo hi v) :=
  h.cong fun i hi' => by unfold upW; rw [if_neg (by omega)]
theorem up_step {ws : List UInt64} {k lo hi v : Nat} {p r : Nat → Bool} {x : UInt64} (h : Mk ws k (upW p r lo hi v)) (hv : v < k) (hx : ∀ j, j < 64 → bitQ x j = if lo ≤ 64 * v + j ∧ 64 * v + j < hi then r (64 * v + j) else p (64 * v + j)) :
    Mk (ws.set v x) k (upW p r lo hi (v + 1)) := by
  refine (h.put (q := fun i => if lo ≤ i ∧ i < hi then r i else p i) hv hx).cong fun i hi' => ?_
  unfold upW
  by_cases e : i / 64 = v
  · rw [if_pos e]
    by_cases c : lo ≤ i ∧ i < hi
    · rw [if_pos c, if_pos ⟨c.1, c.2, by omega⟩]
    · rw [if_neg c, if_neg (fun h => c ⟨h.1, h.2.1⟩)]
  · rw [if_neg e]
    by_cases c : lo ≤ i ∧ i < hi ∧ i < 64 * v
    · rw [if_pos c, if_pos ⟨c.1, c.2.1, by omega⟩]
    · rw [if_neg c, if_neg (fun h => c ⟨h.1, h.2.1, by omega⟩)]
/-- from lo on, up to hi, as r has it; else as p does -/
def putW (p r : Nat → Bool) (lo hi i : Nat) : Bool := if lo ≤ i ∧ i < hi then r i else p i
theorem up_end {ws : List UInt64} {k lo hi v : Nat} {p r : Nat → Bool} (h : Mk ws k (upW p r lo hi v)) (hv : hi ≤ 64 * v) : Mk ws k (putW p r lo hi) :=
  h.cong fun i hi' => by
    unfold upW putW
    by_cases c : lo ≤ i ∧ i < hi
    · rw [if_pos c, if_pos ⟨c.1, c.2, by omega⟩]
    · rw [if_neg c, if_neg (fun h => c ⟨h.1, h.2.1⟩)]
theorem up_at {ws : List UInt64} {k lo hi v j : Nat} {p r : Nat → Bool} (h : Mk ws k (upW p r lo hi v)) (hv : v < k) (hj : j < 64) : bitQ (ws.getD v 0) j = p (64 * v + j) := by
  rw [h.at_ hv hj]
  unfold upW
  rw [if_neg (by omega)]

theorem bit_set {ws : List UInt64} {k lo hi v j : Nat} {p : Nat → Bool} {x : UInt64} (h : Mk ws k (upW p (fun _ => true) lo hi v)) (hv : v < k) (hlt : 64 * v < hi) (hx : ws.getD v 0 = x) (hj : j < 64) :
    bitQ (x ||| partQ v lo hi) j = if lo ≤ 64 * v + j ∧ 64 * v + j < hi then true else p (64 * v + j) := by
  rw [bit_or, bit_part hj hlt, ← hx, up_at h hv hj]
  by_cases c : lo ≤ 64 * v + j ∧ 64 * v + j < hi
  · simp [c]
  · rw [if_neg c, show (decide (lo ≤ 64 * v + j) && decide (64 * v + j < hi)) = false by simpa using c, Bool.or_false]
theorem bit_clear {ws : List UInt64} {k lo hi v j : Nat} {p : Nat → Bool} {x : UInt64} (h : Mk ws k (upW p (fun _ => false) lo hi v)) (hv : v < k) (hlt : 64 * v < hi) (hx : ws.getD v 0 = x) (hj : j < 64) :
    bitQ (x &&& ~~~ partQ v lo hi) j = if lo ≤ 64 * v + j ∧ 64 * v + j < hi then false else p (64 * v + j) := by
  rw [bit_and, bit_not _ hj, bit_part hj hlt, ← hx, up_at h hv hj]
  by_cases c : lo ≤ 64 * v + j ∧ 64 * v + j < hi
  · simp [c]
  · rw [if_neg c, show (decide (lo ≤ 64 * v + j) && decide (64 * v + j < hi)) = false by simpa using c, Bool.not_false, Bool.and_true]
theorem bit_but {ws us : List UInt64} {k lo hi v j : Nat} {p q : Nat → Bool} {x y : UInt64} (h : Mk ws k (upW p (fun i => p i || !q i) lo hi v)) (hq : Mk us k q) (hv : v < k) (hlt : 64 * v < hi) (hx : ws.getD v 0 = x) (hy : us.getD v 0 = y) (hj : j < 64) :
    bitQ (x ||| (partQ v lo hi &&& ~~~ y)) j = if lo ≤ 64 * v + j ∧ 64 * v + j < hi then p (64 * v + j) || !q (64 * v + j) else p (64 * v + j) := by
  rw [bit_or, bit_and, bit_not _ hj, bit_part hj hlt, ← hx, ← hy, up_at h hv hj, hq.at_ hv hj]
  by_cases c : lo ≤ 64 * v + j ∧ 64 * v + j < hi
  · simp [c]
  · rw [if_neg c, show (decide (lo ≤ 64 * v + j) && decide (64 * v + j < hi)) = false by simpa using c, Bool.false_and, Bool.or_false]

/-! how many -/
theorem cnt_add (p : Nat → Bool) (a : Nat) : ∀ b : Nat, cntV p (a + b) = cntV p a + cntV (fun j => p (a + j)) b
  | 0 => rfl
  | b + 1 => by
    have e1 : cntV p (a + (b + 1)) = cntV p (a + b) + (if p (a + b) = true then 1 else 0) := rfl
    have e2 : cntV (fun j => p (a + j)) (b + 1) = cntV (fun j => p (a + j)) b + (if p (a + b) = true then 1 else 0) := rfl
    rw [e1, e2, cnt_add p a b]
    omega
theorem cnt_more {p : Nat → Bool} {a : Nat} (h : ∀ i, a ≤ i → p i = false) : ∀ {b : Nat}, a ≤ b → cntV p b = cntV p a := by
  intro b hb
  rw [show b = a + (b - a) by omega, cnt_add, (cnt_zero (p := fun j => p (a + j))).2 fun i _ => h _ (Nat.le_add_right _ _)]
  rfl
/-- what is counted from lo on, up to hi -/
def inW (p : Nat → Bool) (lo hi i : Nat) : Bool := decide (lo ≤ i) && decide (i < hi) && p i
theorem in_start {p : Nat → Bool} {lo hi v : Nat} (hv : v = lo / 64) : cntV (inW p lo hi) (64 * v) = 0 :=
  cnt_zero.2 fun i hi' => by unfold inW; simp; omega
theorem in_step {ws : List UInt64} {k lo hi v : Nat} {p : Nat → Bool} {x : UInt64} (h : Mk ws k p) (hv : v < k) (hlt : 64 * v < hi) (hx : ws.getD v 0 = x) :
    cntV (inW p lo hi) (64 * (v + 1)) = cntV (inW p lo hi) (64 * v) + cntV (bitQ (x &&& partQ v lo hi)) 64 := by
  rw [show 64 * (v + 1) = 64 * v + 64 by omega, cnt_add]
  congr 1
  exact cnt_same fun j hj => by
    rw [bit_and, bit_part hj hlt, ← hx, h.at_ hv hj]
    unfold inW
    rw [Bool.and_comm]
theorem in_end {p : Nat → Bool} {lo hi v : Nat} (hv : hi ≤ 64 * v) : cntV (inW p lo hi) (64 * v) = cntV (inW p lo hi) hi :=
  cnt_more (fun i hi' => by unfold inW; simp; omega) hv
/-- the first, from lo on, of which p is other than t; or hi -/
def FirstW (p : Nat → Bool) (t : Bool) (lo hi r : Nat) : Prop := lo ≤ r ∧ r ≤ hi ∧ (∀ i, lo ≤ i → i < r → p i = t) ∧ (r < hi → p r ≠ t)
theorem find_no {ws : List UInt64} {k lo hi v r : Nat} {p : Nat → Bool} {t : Bool} {x y : UInt64} (h : Mk ws k p) (hv : v < k) (hlt : 64 * v < hi) (hx : ws.getD v 0 = x) (hy : ∀ j, j < 64 → bitQ y j = t) (hF : FirstW p t lo hi r) (hr : r = hi ∨ 64 * v + 64 ≤ r) :
    (x ^^^ y) &&& partQ v lo hi = 0 := bits_none fun j hj => by
  rw [bit_and, bit_xor, bit_part hj hlt, ← hx, h.at_ hv hj, hy j hj]
  by_cases c : lo ≤ 64 * v + j ∧ 64 * v + j < hi
  · rw [hF.2.2.1 _ c.1 (by omega)]
    simp
  · rw [show (decide (lo ≤ 64 * v + j) && decide (64 * v + j < hi)) = false by simpa using c, Bool.and_false]
theorem find_yes {ws : List UInt64} {k lo hi v r : Nat} {p : Nat → Bool} {t : Bool} {x y : UInt64} (h : Mk ws k p) (hv : v < k) (hlt : 64 * v < hi) (hx : ws.getD v 0 = x) (hy : ∀ j, j < 64 → bitQ y j = t) (hF : FirstW p t lo hi r) (h1 : 64 * v ≤ r) (h2 : r < 64 * v + 64) (h3 : r < hi) :
    (x ^^^ y) &&& partQ v lo hi ≠ 0 ∧ Lib.ctz 64 ((x ^^^ y) &&& partQ v lo hi).toNat = r - 64 * v := by
  have hb : ∀ j, j < 64 → bitQ ((x ^^^ y) &&& partQ v lo hi) j = ((p (64 * v + j) ^^ t) && (decide (lo ≤ 64 * v + j) && decide (64 * v + j < hi))) := fun j hj => by
    rw [bit_and, bit_xor, bit_part hj hlt, ← hx, h.at_ hv hj, hy j hj]
  have hyes : bitQ ((x ^^^ y) &&& partQ v lo hi) (r - 64 * v) = true := by
    rw [hb _ (by omega), show 64 * v + (r - 64 * v) = r by omega]
    have := hF.2.2.2 h3
    have h4 := hF.1
    simp [h3, h4]
    cases hp : p r <;> cases t <;> simp_all
  have hno : ∀ i, i < r - 64 * v → bitQ ((x ^^^ y) &&& partQ v lo hi) i = false := fun i hi' => by
    rw [hb _ (by omega)]
    by_cases c : lo ≤ 64 * v + i
    · rw [hF.2.2.1 _ c (by omega)]
      simp
    · simp [c]
  refine ⟨fun e => ?_, ctz_first hyes hno⟩
  rw [e, bit_zero] at hyes
  cases hyes
/-- bytes by bytes -/
def mkB (a : Nat) : Nat → Nat
  | 0 => 0
  | n + 1 => a + 256 * mkB a n
def mapB (f : Nat → Nat) : Nat → Nat → Nat
  | 0, _ => 0
  | n + 1, x => f (x % 256) + 256 * mapB f n (x / 256)
theorem and_byte (c r a b : Nat) (hc : c < 256) (ha : a < 256) : (c + 256 * r) &&& (a + 256 * b) = (c &&& a) + 256 * (r &&& b) := by
  have h1 : ((c + 256 * r) &&& (a + 256 * b)) % 256 = c &&& a := by
    have := Nat.and_mod_two_pow (a := c + 256 * r) (b := a + 256 * b) (n := 8)
    rw [show (2 : Nat) ^ 8 = 256 from rfl] at this
    rw [this, show (c + 256 * r) % 256 = c by omega, show (a + 256 * b) % 256 = a by omega]
  have h2 : ((c + 256 * r) &&& (a + 256 * b)) / 256 = r &&& b := by
    have := Nat.and_div_two_pow (a := c + 256 * r) (b := a + 256 * b) (n := 8)
    rw [show (2 : Nat) ^ 8 = 256 from rfl] at this
    rw [this, show (c + 256 * r) / 256 = r by omega, show (a + 256 * b) / 256 = b by omega]
  omega
theorem mask_map (d a : Nat) (ha : a < 256) (h : ∀ x : Nat, (x / d % 256) &&& a = (x % 256 / d) &&& a) : ∀ n x : Nat, (x / d) &&& mkB a n = mapB (fun c => (c / d) &&& a) n x
  | 0, x => by simp [mkB, mapB]
  | n + 1, x => by
    have e : x / d = x / d % 256 + 256 * (x / 256 / d) := by
      rw [Nat.div_div_eq_div_mul, Nat.mul_comm 256 d, ← Nat.div_div_eq_div_mul]
      omega
    unfold mkB mapB
    rw [← mask_map d a ha h n (x / 256), ← h x]
    conv => lhs; rw [e]
    exact and_byte _ _ _ _ (Nat.mod_lt _ (by omega)) ha
theorem map_add (f g : Nat → Nat) : ∀ n x : Nat, mapB f n x + mapB g n x = mapB (fun c => f c + g c) n x
  | 0, x => rfl
  | n + 1, x => by
    unfold mapB
    rw [← map_add f g n (x / 256)]
    omega
theorem map_map (f g : Nat → Nat) (h : ∀ c, c < 256 → f c < 256) : ∀ n x : Nat, mapB g n (mapB f n x) = mapB (fun c => g (f c)) n x
  | 0, x => rfl
  | n + 1, x => by
    have hf := h (x % 256) (Nat.mod_lt _ (by omega))
    have e1 : mapB f (n + 1) x % 256 = f (x % 256) := by rw [mapB]; omega
    have e2 : mapB f (n + 1) x / 256 = mapB f n (x / 256) := by rw [mapB]; omega
    rw [mapB, e1, e2, map_map f g h n (x / 256)]
    rfl
theorem map_lt (f : Nat → Nat) (h : ∀ c, c < 256 → f c < 256) : ∀ n x : Nat, mapB f n x < 256 ^ n
  | 0, x => by simp [mapB]
  | n + 1, x => by
    have hf := h (x % 256) (Nat.mod_lt _ (by omega))
    have := map_lt f h n (x / 256)
    rw [mapB, Nat.pow_succ]
    omega
theorem map_same {f g : Nat → Nat} (h : ∀ c, c < 256 → f c = g c) : ∀ n x : Nat, mapB f n x = mapB g n x
  | 0, x => rfl
  | n + 1, x => by
    unfold mapB
    rw [h _ (Nat.mod_lt _ (by omega)), map_same h n]
theorem nib_map (f : Nat → Nat) (h : ∀ c, c < 256 → f c ≤ 68 ∧ f c % 16 ≤ 4) : ∀ n x : Nat, (mapB f n x / 16 + mapB f n x) &&& mkB 15 n = mapB (fun c => (f c / 16 + f c) % 16) n x
  | 0, x => by simp [mkB, mapB]
  | n + 1, x => by
    obtain ⟨h1, h2⟩ := h (x % 256) (Nat.mod_lt _ (by omega))
    have ih := nib_map f h n (x / 256)
    have hr : mapB f n (x / 256) % 16 ≤ 4 := by
      cases n with
      | zero => simp [mapB]
      | succ n =>
        have := (h (x / 256 % 256) (Nat.mod_lt _ (by omega))).2
        rw [mapB]
        omega
    unfold mkB
    rw [mapB, mapB, ← ih]
    generalize f (x % 256) = c at h1 h2 ⊢
    generalize mapB f n (x / 256) = r at hr ⊢
    have e : (c + 256 * r) / 16 + (c + 256 * r) = (c / 16 + c + 16 * (r % 16)) + 256 * (r / 16 + r) := by omega
    rw [e, and_byte _ _ _ _ (by omega) (by omega), nat_mask4]
    omega

def oneF (c : Nat) : Nat := (c / 2 &&& 85) + (c / 1 &&& 85)
def twoF (c : Nat) : Nat := (c / 4 &&& 51) + (c / 1 &&& 51)
def cntF (c : Nat) : Nat := (twoF (oneF c) / 16 + twoF (oneF c)) % 16
theorem oneF_lt : ∀ c, c < 256 → oneF c < 256 := by decide +kernel
theorem twoF_lt : ∀ c, c < 256 → twoF (oneF c) ≤ 68 ∧ twoF (oneF c) % 16 ≤ 4 := by decide +kernel
theorem cntF_eq : ∀ c, c < 256 → cntF c = cntV (fun j => c.testBit j) 8 := by decide +kernel
theorem cnt8_le (c : Nat) : cntV (fun j => c.testBit j) 8 ≤ 8 := cnt_le _ _
theorem mask1 (n x : Nat) : (x / 2 &&& mkB 85 n) + (x / 1 &&& mkB 85 n) = mapB oneF n x := by
  rw [mask_map 2 85 (by decide) ?_ n x, mask_map 1 85 (by decide) ?_ n x, map_add]
  · rfl
  · intro x; simp
  · intro x
    have h : ∀ y, y < 512 → (y / 2 % 256) &&& 85 = (y % 256 / 2) &&& 85 := by decide +kernel
    have := h (x % 512) (Nat.mod_lt _ (by omega))
    rwa [show x % 512 / 2 % 256 = x / 2 % 256 by omega, show x % 512 % 256 = x % 256 by omega] at this
theorem mask2 (n x : Nat) : (x / 4 &&& mkB 51 n) + (x / 1 &&& mkB 51 n) = mapB twoF n x := by
  rw [mask_map 4 51 (by decide) ?_ n x, mask_map 1 51 (by decide) ?_ n x, map_add]
  · rfl
  · intro x; simp
  · intro x
    have h : ∀ y, y < 1024 → (y / 4 % 256) &&& 51 = (y % 256 / 4) &&& 51 := by decide +kernel
    have := h (x % 1024) (Nat.mod_lt _ (by omega))
    rwa [show x % 1024 / 4 % 256 = x / 4 % 256 by omega, show x % 1024 % 256 = x % 256 by omega] at this
def onesA (x : UInt64) : UInt64 := ((x >>> 1) &&& 6148914691236517205) + (x &&& 6148914691236517205)
def onesB (x : UInt64) : UInt64 := ((x >>> 2) &&& 3689348814741910323) + (x &&& 3689348814741910323)
def onesC (x : UInt64) : UInt64 := ((x >>> 4) + x) &&& 1085102592571150095
def onesD (x : UInt64) : UInt64 := x + (x >>> 8)
def onesE (x : UInt64) : UInt64 := x + (x >>> 16)
def onesG (x : UInt64) : UInt64 := x + (x >>> 32)
theorem shrQ (x : UInt64) (k : Nat) (hk : k < 64) : (x >>> UInt64.ofNat k).toNat = x.toNat / 2 ^ k := by
  rw [UInt64.toNat_shiftRight, Nat.shiftRight_eq_div_pow]
  simp only [UInt64.toNat_ofNat', Nat.reducePow]
  rw [Nat.mod_eq_of_lt (by omega : k < 18446744073709551616), Nat.mod_eq_of_lt hk]
theorem onesA_eq (x : UInt64) : (onesA x).toNat = mapB oneF 8 x.toNat := by
  have h := mask1 8 x.toNat
  have hl := map_lt oneF oneF_lt 8 x.toNat
  unfold onesA
  rw [UInt64.toNat_add, UInt64.toNat_and, UInt64.toNat_and, show (x >>> 1).toNat = x.toNat / 2 from shrQ x 1 (by omega)]
  rw [Nat.div_one] at h
  rw [show (6148914691236517205 : UInt64).toNat = mkB 85 8 by decide, h]
  exact Nat.mod_eq_of_lt hl
theorem twoF_lt' : ∀ c, c < 256 → twoF (oneF c) < 256 := fun c hc => by have := (twoF_lt c hc).1; omega
theorem onesB_eq (x : UInt64) : (onesB (onesA x)).toNat = mapB (fun c => twoF (oneF c)) 8 x.toNat := by
  have h := mask2 8 (onesA x).toNat
  have hl := map_lt (fun c => twoF (oneF c)) twoF_lt' 8 x.toNat
  rw [Nat.div_one, onesA_eq, map_map oneF twoF oneF_lt] at h
  unfold onesB
  rw [UInt64.toNat_add, UInt64.toNat_and, UInt64.toNat_and, show (onesA x >>> 2).toNat = (onesA x).toNat / 4 from shrQ _ 2 (by omega), onesA_eq]
  rw [show (3689348814741910323 : UInt64).toNat = mkB 51 8 by decide, h]
  exact Nat.mod_eq_of_lt hl
theorem onesC_eq (x : UInt64) : (onesC (onesB (onesA x))).toNat = mapB cntF 8 x.toNat := by
  have h := nib_map (fun c => twoF (oneF c)) twoF_lt 8 x.toNat
  have hl := map_lt (fun c => twoF (oneF c)) twoF_lt' 8 x.toNat
  unfold onesC
  rw [UInt64.toNat_and, UInt64.toNat_add, show (onesB (onesA x) >>> 4).toNat = (onesB (onesA x)).toNat / 16 from shrQ _ 4 (by omega), onesB_eq]
  rw [show (1085102592571150095 : UInt64).toNat = mkB 15 8 by decide]
  have hm : mapB (fun c => twoF (oneF c)) 8 x.toNat < 8138269444283625500 := by
    have k := twoF_lt (x.toNat / 256 / 256 / 256 / 256 / 256 / 256 / 256 % 256) (Nat.mod_lt _ (by omega))
    simp only [mapB]
    have k0 := twoF_lt' (x.toNat % 256) (Nat.mod_lt _ (by omega))
    have k1 := twoF_lt' (x.toNat / 256 % 256) (Nat.mod_lt _ (by omega))
    have k2 := twoF_lt' (x.toNat / 256 / 256 % 256) (Nat.mod_lt _ (by omega))
    have k3 := twoF_lt' (x.toNat / 256 / 256 / 256 % 256) (Nat.mod_lt _ (by omega))
    have k4 := twoF_lt' (x.toNat / 256 / 256 / 256 / 256 % 256) (Nat.mod_lt _ (by omega))
    have k5 := twoF_lt' (x.toNat / 256 / 256 / 256 / 256 / 256 % 256) (Nat.mod_lt _ (by omega))
    have k6 := twoF_lt' (x.toNat / 256 / 256 / 256 / 256 / 256 / 256 % 256) (Nat.mod_lt _ (by omega))
    generalize twoF (oneF (x.toNat % 256)) = a0 at *
    generalize twoF (oneF (x.toNat / 256 % 256)) = a1 at *
    generalize twoF (oneF (x.toNat / 256 / 256 % 256)) = a2 at *
    generalize twoF (oneF (x.toNat / 256 / 256 / 256 % 256)) = a3 at *
    generalize twoF (oneF (x.toNat / 256 / 256 / 256 / 256 % 256)) = a4 at *
    generalize twoF (oneF (x.toNat / 256 / 256 / 256 / 256 / 256 % 256)) = a5 at *
    generalize twoF (oneF (x.toNat / 256 / 256 / 256 / 256 / 256 / 256 % 256)) = a6 at *
    generalize twoF (oneF (x.toNat / 256 / 256 / 256 / 256 / 256 / 256 / 256 % 256)) = a7 at *
    clear h hl
    omega
  rw [Nat.mod_eq_of_lt (by omega), h]
  rfl
theorem div_of {z r q d : Nat} (hz : z = r + d * q) (hr : r < d) : z / d = q := by
  rw [hz, Nat.add_mul_div_left _ _ (by omega), Nat.div_eq_of_lt hr, Nat.zero_add]
theorem mod_of {z r q : Nat} (hz : z = r + 256 * q) (hr : r < 128) : z % 128 = r := by
  subst hz
  omega
def num8 (b0 b1 b2 b3 b4 b5 b6 b7 : Nat) : Nat := b0 + 256 * (b1 + 256 * (b2 + 256 * (b3 + 256 * (b4 + 256 * (b5 + 256 * (b6 + 256 * (b7 + 0)))))))
theorem num8_lt {b0 b1 b2 b3 b4 b5 b6 b7 : Nat} (h0 : b0 ≤ 64) (h1 : b1 ≤ 64) (h2 : b2 ≤ 64) (h3 : b3 ≤ 64) (h4 : b4 ≤ 64) (h5 : b5 ≤ 64) (h6 : b6 ≤ 64) (h7 : b7 ≤ 64) : num8 b0 b1 b2 b3 b4 b5 b6 b7 < 9223372036854775808 := by
  unfold num8
  omega
theorem step8 {b0 b1 b2 b3 b4 b5 b6 b7 : Nat} {x : UInt64} (h0 : b0 ≤ 32) (h1 : b1 ≤ 32) (h2 : b2 ≤ 32) (h3 : b3 ≤ 32) (h4 : b4 ≤ 32) (h5 : b5 ≤ 32) (h6 : b6 ≤ 32) (h7 : b7 ≤ 32) (hx : x.toNat = num8 b0 b1 b2 b3 b4 b5 b6 b7) :
    (onesD x).toNat = num8 (b0 + b1) (b1 + b2) (b2 + b3) (b3 + b4) (b4 + b5) (b5 + b6) (b6 + b7) b7 := by
  have e : x.toNat / 256 = b1 + 256 * (b2 + 256 * (b3 + 256 * (b4 + 256 * (b5 + 256 * (b6 + 256 * b7))))) := div_of (r := b0) (by rw [hx]; unfold num8; omega) (by omega)
  have hl := num8_lt (show b0 + b1 ≤ 64 by omega) (show b1 + b2 ≤ 64 by omega) (show b2 + b3 ≤ 64 by omega) (show b3 + b4 ≤ 64 by omega) (show b4 + b5 ≤ 64 by omega) (show b5 + b6 ≤ 64 by omega) (show b6 + b7 ≤ 64 by omega) (show b7 ≤ 64 by omega)
  have es : x.toNat + x.toNat / 256 = num8 (b0 + b1) (b1 + b2) (b2 + b3) (b3 + b4) (b4 + b5) (b5 + b6) (b6 + b7) b7 := by
    rw [e, hx]
    unfold num8
    omega
  unfold onesD
  rw [UInt64.toNat_add, show (x >>> 8).toNat = x.toNat / 256 from shrQ _ 8 (by omega), es]
  exact Nat.mod_eq_of_lt (Nat.lt_trans hl (by decide))
theorem step16 {b0 b1 b2 b3 b4 b5 b6 b7 : Nat} {x : UInt64} (h0 : b0 ≤ 32) (h1 : b1 ≤ 32) (h2 : b2 ≤ 32) (h3 : b3 ≤ 32) (h4 : b4 ≤ 32) (h5 : b5 ≤ 32) (h6 : b6 ≤ 32) (h7 : b7 ≤ 32) (hx : x.toNat = num8 b0 b1 b2 b3 b4 b5 b6 b7) :
    (onesE x).toNat = num8 (b0 + b2) (b1 + b3) (b2 + b4) (b3 + b5) (b4 + b6) (b5 + b7) b6 b7 := by
  have e : x.toNat / 65536 = b2 + 256 * (b3 + 256 * (b4 + 256 * (b5 + 256 * (b6 + 256 * b7)))) := div_of (r := b0 + 256 * b1) (by rw [hx]; unfold num8; omega) (by omega)
  have hl := num8_lt (show b0 + b2 ≤ 64 by omega) (show b1 + b3 ≤ 64 by omega) (show b2 + b4 ≤ 64 by omega) (show b3 + b5 ≤ 64 by omega) (show b4 + b6 ≤ 64 by omega) (show b5 + b7 ≤ 64 by omega) (show b6 ≤ 64 by omega) (show b7 ≤ 64 by omega)
  have es : x.toNat + x.toNat / 65536 = num8 (b0 + b2) (b1 + b3) (b2 + b4) (b3 + b5) (b4 + b6) (b5 + b7) b6 b7 := by
    rw [e, hx]
    unfold num8
    omega
  unfold onesE
  rw [UInt64.toNat_add, show (x >>> 16).toNat = x.toNat / 65536 from shrQ _ 16 (by omega), es]
  exact Nat.mod_eq_of_lt (Nat.lt_trans hl (by decide))
theorem step32 {b0 b1 b2 b3 b4 b5 b6 b7 : Nat} {x : UInt64} (h0 : b0 ≤ 32) (h1 : b1 ≤ 32) (h2 : b2 ≤ 32) (h3 : b3 ≤ 32) (h4 : b4 ≤ 32) (h5 : b5 ≤ 32) (h6 : b6 ≤ 32) (h7 : b7 ≤ 32) (hx : x.toNat = num8 b0 b1 b2 b3 b4 b5 b6 b7) :
    (onesG x).toNat = num8 (b0 + b4) (b1 + b5) (b2 + b6) (b3 + b7) b4 b5 b6 b7 ∧ (onesG x).toNat < 9223372036854775808 := by
  have e : x.toNat / 4294967296 = b4 + 256 * (b5 + 256 * (b6 + 256 * b7)) := div_of (r := b0 + 256 * (b1 + 256 * (b2 + 256 * b3))) (by rw [hx]; unfold num8; omega) (by omega)
  have hl := num8_lt (show b0 + b4 ≤ 64 by omega) (show b1 + b5 ≤ 64 by omega) (show b2 + b6 ≤ 64 by omega) (show b3 + b7 ≤ 64 by omega) (show b4 ≤ 64 by omega) (show b5 ≤ 64 by omega) (show b6 ≤ 64 by omega) (show b7 ≤ 64 by omega)
  have es : x.toNat + x.toNat / 4294967296 = num8 (b0 + b4) (b1 + b5) (b2 + b6) (b3 + b7) b4 b5 b6 b7 := by
    rw [e, hx]
    unfold num8
    omega
  have h : (onesG x).toNat = num8 (b0 + b4) (b1 + b5) (b2 + b6) (b3 + b7) b4 b5 b6 b7 := by
    unfold onesG
    rw [UInt64.toNat_add, show (x >>> 32).toNat = x.toNat / 4294967296 from shrQ _ 32 (by omega), es]
    exact Nat.mod_eq_of_lt (Nat.lt_trans hl (by decide))
  exact ⟨h, by rw [h]; exact hl⟩
theorem sum8 (a0 a1 a2 a3 a4 a5 a6 a7 : Nat) (h0 : a0 ≤ 8) (h1 : a1 ≤ 8) (h2 : a2 ≤ 8) (h3 : a3 ≤ 8) (h4 : a4 ≤ 8) (h5 : a5 ≤ 8) (h6 : a6 ≤ 8) (h7 : a7 ≤ 8) (x : UInt64)
    (hx : x.toNat = num8 a0 a1 a2 a3 a4 a5 a6 a7) : (onesG (onesE (onesD x))).toNat % 128 = a0 + a1 + a2 + a3 + a4 + a5 + a6 + a7 ∧ (onesG (onesE (onesD x))).toNat < 9223372036854775808 := by
  have e1 := step8 (by omega) (by omega) (by omega) (by omega) (by omega) (by omega) (by omega) (by omega) hx
  have e2 := step16 (by omega) (by omega) (by omega) (by omega) (by omega) (by omega) (by omega) (by omega) e1
  obtain ⟨e3, e4⟩ := step32 (by omega) (by omega) (by omega) (by omega) (by omega) (by omega) (by omega) (by omega) e2
  refine ⟨(mod_of e3 (by omega)).trans (by omega), e4⟩
theorem map8 (f : Nat → Nat) (x : Nat) : mapB f 8 x = num8 (f (x % 256)) (f (x / 256 % 256)) (f (x / 256 / 256 % 256)) (f (x / 256 / 256 / 256 % 256)) (f (x / 256 / 256 / 256 / 256 % 256)) (f (x / 256 / 256 / 256 / 256 / 256 % 256)) (f (x / 256 / 256 / 256 / 256 / 256 / 256 % 256)) (f (x / 256 / 256 / 256 / 256 / 256 / 256 / 256 % 256)) := rfl
theorem cnt64 (x : Nat) : cntV (fun j => x.testBit j) 64 = cntF (x % 256) + cntF (x / 256 % 256) + cntF (x / 256 / 256 % 256) + cntF (x / 256 / 256 / 256 % 256) + cntF (x / 256 / 256 / 256 / 256 % 256) + cntF (x / 256 / 256 / 256 / 256 / 256 % 256) + cntF (x / 256 / 256 / 256 / 256 / 256 / 256 % 256) + cntF (x / 256 / 256 / 256 / 256 / 256 / 256 / 256 % 256) := by
  have hb : ∀ y : Nat, cntF (y % 256) = cntV (fun j => (y % 256).testBit j) 8 := fun y => cntF_eq _ (Nat.mod_lt _ (by omega))
  have hs : ∀ (n y : Nat), cntV (fun j => y.testBit j) (8 + n) = cntF (y % 256) + cntV (fun j => (y / 256).testBit j) n := fun n y => by
    rw [cnt_add, hb y]
    congr 1
    · exact cnt_same fun j hj => by
        have := Nat.testBit_mod_two_pow y 8 j
        rw [show (2 : Nat) ^ 8 = 256 from rfl] at this
        rw [this]
        simp [hj]
    · exact cnt_same fun j hj => by
        have : (y / 2 ^ 8).testBit j = y.testBit (8 + j) := by rw [Nat.testBit_div_two_pow, Nat.add_comm]
        rw [show (2 : Nat) ^ 8 = 256 from rfl] at this
        rw [this]
  rw [show 64 = 8 + 56 from rfl, hs 56, show 56 = 8 + 48 from rfl, hs 48, show 48 = 8 + 40 from rfl, hs 40, show 40 = 8 + 32 from rfl, hs 32, show 32 = 8 + 24 from rfl, hs 24, show 24 = 8 + 16 from rfl, hs 16, show 16 = 8 + 8 from rfl, hs 8, show 8 = 8 + 0 from rfl, hs 0]
  unfold cntV
  omega
theorem cntF_le (y : Nat) : cntF (y % 256) ≤ 8 := by
  rw [cntF_eq _ (Nat.mod_lt _ (by omega))]
  exact cnt_le _ _
theorem ones_all (x : UInt64) : (onesG (onesE (onesD (onesC (onesB (onesA x)))))).toNat % 128 = cntV (bitQ x) 64 ∧ (onesG (onesE (onesD (onesC (onesB (onesA x)))))).toNat < 9223372036854775808 := by
  have h := onesC_eq x
  rw [map8] at h
  have hs := sum8 _ _ _ _ _ _ _ _ (cntF_le _) (cntF_le _) (cntF_le _) (cntF_le _) (cntF_le _) (cntF_le _) (cntF_le _) (cntF_le _) _ h
  exact ⟨hs.1.trans (cnt64 x.toNat).symm, hs.2⟩
end Go.Proofs.YtocolaccgoochaaDoor
