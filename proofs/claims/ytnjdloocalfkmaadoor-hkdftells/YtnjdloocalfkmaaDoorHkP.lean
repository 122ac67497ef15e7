/-
  Keyed digests, expansions and labels as functions of lists; nothing of the program.
-/
import Derived.Test.YtnjdloocalfkmaaDoorShaP
namespace Go.Proofs.YtnjdloocalfkmaaDoor
set_option linter.unusedVariables false

def keyV (key : List UInt8) : List UInt8 := if 64 < key.length then sumV key else key
theorem keyV_length (key : List UInt8) : (keyV key).length ≤ 64 := by
  unfold keyV; split
  · rw [sumV_length]; omega
  · omega
/-- the key as one block -/
def kbV (key : List UInt8) : List UInt8 := keyV key ++ List.replicate (64 - (keyV key).length) 0
theorem kbV_length (key : List UInt8) : (kbV key).length = 64 := by
  have := keyV_length key
  simp [kbV]; omega
def xV (x : UInt8) (l : List UInt8) : List UInt8 := l.map (· ^^^ x)
theorem xV_length (x : UInt8) (l : List UInt8) : (xV x l).length = l.length := by simp [xV]
/-- the keyed digest -/
def macV (key text : List UInt8) : List UInt8 := sumV (xV 92 (kbV key) ++ sumV (xV 54 (kbV key) ++ text))
theorem macV_length (key text : List UInt8) : (macV key text).length = 32 := sumV_length _
theorem macV_key {k k' : List UInt8} (h : kbV k = kbV k') (t : List UInt8) : macV k t = macV k' t := by unfold macV; rw [h]

theorem kb_digest (key : List UInt8) (h : 64 < key.length) : kbV (sumV key) = kbV key := by
  have e1 : keyV key = sumV key := by unfold keyV; rw [if_pos h]
  have e2 : keyV (sumV key) = sumV key := by unfold keyV; rw [if_neg (by rw [sumV_length]; omega)]
  unfold kbV; rw [e1, e2]
theorem kb_zeros (key : List UInt8) (k : Nat) (h : key.length + k ≤ 64) : kbV (key ++ List.replicate k 0) = kbV key := by
  have e1 : keyV key = key := by unfold keyV; rw [if_neg (by omega)]
  have e2 : keyV (key ++ List.replicate k 0) = key ++ List.replicate k 0 := by unfold keyV; rw [if_neg (by simp; omega)]
  unfold kbV
  rw [e1, e2, List.append_assoc, List.replicate_append_replicate]
  simp only [List.length_append, List.length_replicate]
  rw [show k + (64 - (key.length + k)) = 64 - key.length by omega]

/-- the i-th piece of an expansion -/
def tV (key info : List UInt8) : Nat → List UInt8
  | 0 => []
  | i + 1 => macV key (tV key info i ++ (info ++ [UInt8.ofNat (i + 1)]))
theorem tV_length (key info : List UInt8) (i : Nat) : (tV key info (i + 1)).length = 32 := macV_length _ _
theorem tV_le (key info : List UInt8) (i : Nat) : (tV key info i).length ≤ 32 := by
  cases i with
  | zero => simp [tV]
  | succ i => rw [tV_length]; omega
/-- the first i pieces -/
def okmV (key info : List UInt8) : Nat → List UInt8
  | 0 => []
  | i + 1 => okmV key info i ++ tV key info (i + 1)
theorem okmV_length (key info : List UInt8) (i : Nat) : (okmV key info i).length = 32 * i := by
  induction i with
  | zero => rfl
  | succ i ih => rw [okmV, List.length_append, ih, tV_length]; omega
theorem okm_take (key info : List UInt8) (i j : Nat) (h : i ≤ j) : (okmV key info j).take (32 * i) = okmV key info i := by
  induction j with
  | zero =>
    obtain rfl : i = 0 := by omega
    rfl
  | succ j ih =>
    rcases Nat.lt_or_eq_of_le h with h' | rfl
    · rw [okmV, List.take_append_of_le_length (by rw [okmV_length]; omega), ih (by omega)]
    · rw [List.take_of_length_le (by rw [okmV_length]; omega)]
/-- n bytes of an expansion -/
def expV (key info : List UInt8) (n : Nat) : List UInt8 := (okmV key info ((n + 31) / 32)).take n
theorem expV_length (key info : List UInt8) (n : Nat) : (expV key info n).length = n := by
  rw [expV, List.length_take, okmV_length]; omega
theorem exp_of (key info : List UInt8) (n k : Nat) (h : n ≤ 32 * k) : (okmV key info k).take n = expV key info n := by
  have hk : (n + 31) / 32 ≤ k := by omega
  unfold expV
  rw [← okm_take key info _ k hk, List.take_take, Nat.min_eq_left (by omega)]
theorem exp_take (key info : List UInt8) (m n : Nat) (h : m ≤ n) : (expV key info n).take m = expV key info m := by
  have h1 := exp_of key info n ((n + 31) / 32) (by omega)
  have h2 := exp_of key info m ((n + 31) / 32) (by omega)
  rw [← h1, List.take_take, Nat.min_eq_left h, h2]
theorem exp_piece (key info : List UInt8) (i n : Nat) (h : 32 * (i + 1) ≤ n) : ((expV key info n).drop (32 * i)).take 32 = tV key info (i + 1) := by
  have e : (expV key info n).take (32 * (i + 1)) = okmV key info i ++ tV key info (i + 1) := by
    rw [exp_take _ _ _ _ h, ← exp_of key info _ (i + 1) (Nat.le_refl _), List.take_of_length_le (by rw [okmV_length]; omega), okmV]
  have e2 : (((expV key info n).take (32 * (i + 1))).drop (32 * i)) = ((expV key info n).drop (32 * i)).take 32 := by
    rw [List.drop_take]; congr 1; omega
  rw [← e2, e, List.drop_left' (okmV_length _ _ _)]

/-- a number's lowest byte -/
def byteI (z : Int) : UInt8 := UInt8.ofNat (z % 256).toNat
theorem byteI_nat (n : Nat) : byteI (n : Int) = UInt8.ofNat n := by
  unfold byteI
  apply UInt8.toNat_inj.1
  simp only [UInt8.toNat_ofNat']
  omega
def tlsV : List UInt8 := [116, 108, 115, 49, 51, 32]
/-- what a label tells -/
def infoV (n : Int) (label ctx : List UInt8) : List UInt8 :=
  [byteI (n / 256), byteI n, byteI (6 + (label.length : Int))] ++ tlsV ++ label ++ [byteI (ctx.length : Int)] ++ ctx
theorem infoV_length (n : Int) (label ctx : List UInt8) : (infoV n label ctx).length = 10 + label.length + ctx.length := by
  simp [infoV, tlsV]; omega
/-- how many bytes an expansion to n has -/
def xlen (n : Int) : Nat := if n < 0 ∨ 8160 < n then 0 else n.toNat
def expI (key info : List UInt8) (n : Int) : List UInt8 := if n < 0 ∨ 8160 < n then [] else expV key info n.toNat
theorem expI_length (key info : List UInt8) (n : Int) : (expI key info n).length = xlen n := by
  unfold expI xlen; split
  · rfl
  · exact expV_length _ _ _
theorem xlen_le (n : Int) : xlen n ≤ 8160 := by unfold xlen; split <;> omega
theorem expI_out (key info : List UInt8) (n : Int) (h : n < 0 ∨ 8160 < n) : expI key info n = [] ∧ xlen n = 0 := by
  unfold expI xlen; rw [if_pos h, if_pos h]; exact ⟨rfl, rfl⟩
theorem expI_in (key info : List UInt8) (n : Nat) (h : n ≤ 8160) : expI key info (n : Int) = expV key info n ∧ xlen (n : Int) = n := by
  unfold expI xlen; rw [if_neg (by omega), if_neg (by omega)]; exact ⟨by rw [Int.toNat_natCast], by omega⟩
/-- a label's bytes -/
def labV (key label ctx : List UInt8) (n : Int) : List UInt8 := if 249 < label.length ∨ 255 < ctx.length then [] else expI key (infoV n label ctx) n
def llen (label ctx : List UInt8) (n : Int) : Nat := if 249 < label.length ∨ 255 < ctx.length then 0 else xlen n
theorem labV_length (key label ctx : List UInt8) (n : Int) : (labV key label ctx n).length = llen label ctx n := by
  unfold labV llen; split
  · rfl
  · exact expI_length _ _ _
end Go.Proofs.YtnjdloocalfkmaaDoor
