/-
  The field of a seal, as functions of lists of 16 bytes: doubling, product, that it is the same in either order and spread over what is crossed; nothing of the program.
-/
import Derived.Test.YtkeleehkjllgeaaAesQ
namespace Go.Proofs.Ytkeleehkjllgeaa
set_option linter.unusedVariables false

/-- 16 zeros, under a name that no rule opens -/
def zG : List UInt8 := List.replicate 16 0
theorem zG_length : zG.length = 16 := List.length_replicate
/-- bit i of a block, the first byte's highest one first -/
def bitG (x : List UInt8) (i : Nat) : Bool := decide ((x.getD (i / 8) 0).toNat / 2 ^ (7 - i % 8) % 2 = 1)
/-- one byte of what is doubled -/
def dblB (a b : UInt8) : UInt8 := (a >>> 1) ||| (b <<< 7)
def lowG (v : List UInt8) : UInt8 := if v.getD 15 0 &&& 1 = 1 then 225 else 0
def dblG (v : List UInt8) : List UInt8 := (List.range 16).map fun k => if k = 0 then (v.getD 0 0 >>> 1) ^^^ lowG v else dblB (v.getD k 0) (v.getD (k - 1) 0)
theorem dblG_length (v : List UInt8) : (dblG v).length = 16 := by simp [dblG]
def vG (y : List UInt8) : Nat → List UInt8
  | 0 => y
  | n + 1 => dblG (vG y n)
theorem vG_length (y : List UInt8) (h : y.length = 16) (n : Nat) : (vG y n).length = 16 := by
  cases n with
  | zero => exact h
  | succ n => exact dblG_length _
/-- the product, so far -/
def tG (x y : List UInt8) : Nat → List UInt8
  | 0 => zG
  | n + 1 => if bitG x n = true then crossV (tG x y n) (vG y n) else tG x y n
def timesG (x y : List UInt8) : List UInt8 := tG x y 128
theorem tG_length (x y : List UInt8) (h : y.length = 16) (n : Nat) : (tG x y n).length = 16 := by
  induction n with
  | zero => exact zG_length
  | succ n ih =>
    rw [tG]
    split
    · exact crossV_length _ _ ih (vG_length y h n)
    · exact ih
theorem timesG_length (x y : List UInt8) (h : y.length = 16) : (timesG x y).length = 16 := tG_length x y h 128

theorem cross_assoc (a b c : List UInt8) : crossV (crossV a b) c = crossV a (crossV b c) := by
  unfold crossV
  induction a generalizing b c with
  | nil => simp
  | cons x a ih =>
    cases b with
    | nil => simp
    | cons y b =>
      cases c with
      | nil => simp
      | cons z c => simp only [List.zipWith_cons_cons, ih]; rw [x_assoc]
theorem cross_comm (a b : List UInt8) : crossV a b = crossV b a := by
  unfold crossV
  induction a generalizing b with
  | nil => simp
  | cons x a ih =>
    cases b with
    | nil => simp
    | cons y b => simp only [List.zipWith_cons_cons, ih]; rw [x_comm]
theorem cross_left (a b c : List UInt8) : crossV a (crossV b c) = crossV b (crossV a c) := by
  rw [← cross_assoc, cross_comm a b, cross_assoc]
theorem crossV_getD (a b : List UInt8) (h : a.length = b.length) (j : Nat) : (crossV a b).getD j 0 = a.getD j 0 ^^^ b.getD j 0 := by
  unfold crossV
  by_cases hj : j < a.length
  · have hb : j < b.length := by omega
    simp [List.getD_eq_getElem?_getD, List.getElem?_zipWith, hj, hb]
  · have h1 : a[j]? = none := List.getElem?_eq_none (by omega)
    have h2 : b[j]? = none := List.getElem?_eq_none (by omega)
    simp [List.getD_eq_getElem?_getD, List.getElem?_zipWith, h1, h2]
theorem list_ext16 (a b : List UInt8) (ha : a.length = 16) (hb : b.length = 16) (h : ∀ j, j < 16 → a.getD j 0 = b.getD j 0) : a = b := by
  refine List.ext_getElem (by omega) fun j h1 h2 => ?_
  have e := h j (by omega)
  simpa [List.getD_eq_getElem?_getD, h1, h2] using e
theorem zG_getD (j : Nat) : zG.getD j 0 = 0 := by
  unfold zG
  rw [List.getD_eq_getElem?_getD, List.getElem?_replicate]
  split <;> rfl
theorem cross_zero (a : List UInt8) (h : a.length = 16) : crossV a zG = a :=
  list_ext16 _ _ (crossV_length _ _ h zG_length) h fun j hj => by rw [crossV_getD _ _ (by rw [h, zG_length]), zG_getD, UInt8.xor_zero]
theorem cross_self (a : List UInt8) (h : a.length = 16) : crossV a a = zG :=
  list_ext16 _ _ (crossV_length _ _ h h) zG_length fun j hj => by rw [crossV_getD _ _ rfl, zG_getD, UInt8.xor_self]

/-! bytes -/
theorem shl7 (b : UInt8) : b <<< 7 = if b &&& 1 = 1 then 128 else 0 := by
  have h := u8_all (p := fun b => decide (b <<< 7 = if b &&& 1 = 1 then 128 else 0)) (by kernel_rfl) b
  simpa using h
theorem or128 (a : UInt8) : (a >>> 1) ||| (128 : UInt8) = (a >>> 1) ^^^ (128 : UInt8) := by
  have h := u8_all (p := fun a => decide ((a >>> 1) ||| (128 : UInt8) = (a >>> 1) ^^^ (128 : UInt8))) (by kernel_rfl) a
  simpa using h
theorem dblB_xor (a b : UInt8) : dblB a b = (a >>> 1) ^^^ (b <<< 7) := by
  unfold dblB
  rw [shl7]
  split
  · exact or128 a
  · simp
theorem shr_xor (a b : UInt8) : (a ^^^ b) >>> 1 = (a >>> 1) ^^^ (b >>> 1) := by
  apply UInt8.eq_of_toBitVec_eq
  simp [UInt8.toBitVec_shiftRight, UInt8.toBitVec_xor, BitVec.ushiftRight_xor_distrib]
theorem shl_xor (a b : UInt8) : (a ^^^ b) <<< 7 = (a <<< 7) ^^^ (b <<< 7) := by
  apply UInt8.eq_of_toBitVec_eq
  simp [UInt8.toBitVec_shiftLeft, UInt8.toBitVec_xor, BitVec.shiftLeft_xor_distrib]
theorem and_one_cases (a : UInt8) : a &&& 1 = 0 ∨ a &&& 1 = 1 := by
  have h := u8_all (p := fun a => decide (a &&& 1 = 0 ∨ a &&& 1 = 1)) (by kernel_rfl) a
  simpa using h
theorem and_xor_one (a b : UInt8) : (a ^^^ b) &&& 1 = (a &&& 1) ^^^ (b &&& 1) := by
  apply UInt8.eq_of_toBitVec_eq
  rw [UInt8.toBitVec_and, UInt8.toBitVec_xor, UInt8.toBitVec_xor, UInt8.toBitVec_and, UInt8.toBitVec_and]
  apply BitVec.eq_of_getLsbD_eq
  intro i hi
  simp only [BitVec.getLsbD_and, BitVec.getLsbD_xor]
  cases a.toBitVec.getLsbD i <;> cases b.toBitVec.getLsbD i <;> simp
theorem lowG_cross (a b : List UInt8) (h : a.length = b.length) : lowG (crossV a b) = lowG a ^^^ lowG b := by
  unfold lowG
  rw [crossV_getD a b h, and_xor_one]
  rcases and_one_cases (a.getD 15 0) with h1 | h1 <;> rcases and_one_cases (b.getD 15 0) with h2 | h2 <;> rw [h1, h2] <;> rfl
theorem dblG_getD (v : List UInt8) (k : Nat) (hk : k < 16) : (dblG v).getD k 0 = if k = 0 then (v.getD 0 0 >>> 1) ^^^ lowG v else dblB (v.getD k 0) (v.getD (k - 1) 0) := by
  unfold dblG
  rw [List.getD_eq_getElem?_getD, List.getElem?_map, List.getElem?_range hk]
  rfl
theorem dblG_cross (a b : List UInt8) (h : a.length = b.length) : dblG (crossV a b) = crossV (dblG a) (dblG b) := by
  refine list_ext16 _ _ (dblG_length _) (crossV_length _ _ (dblG_length _) (dblG_length _)) fun k hk => ?_
  rw [crossV_getD _ _ (by rw [dblG_length, dblG_length]), dblG_getD _ _ hk, dblG_getD _ _ hk, dblG_getD _ _ hk]
  by_cases h0 : k = 0
  · rw [if_pos h0, if_pos h0, if_pos h0, crossV_getD a b h, lowG_cross a b h, shr_xor]
    ac_rfl
  · rw [if_neg h0, if_neg h0, if_neg h0, crossV_getD a b h, crossV_getD a b h, dblB_xor, dblB_xor, dblB_xor, shr_xor, shl_xor]
    ac_rfl
theorem dblG_zero : dblG zG = zG := by kernel_rfl
theorem vG_zero (n : Nat) : vG zG n = zG := by
  induction n with
  | zero => rfl
  | succ n ih => rw [vG, ih, dblG_zero]
theorem vG_cross (a b : List UInt8) (ha : a.length = 16) (hb : b.length = 16) (n : Nat) : vG (crossV a b) n = crossV (vG a n) (vG b n) := by
  induction n with
  | zero => rfl
  | succ n ih => rw [vG, ih, dblG_cross _ _ (by rw [vG_length _ ha, vG_length _ hb])]; rfl
theorem vG_add (y : List UInt8) (n m : Nat) : vG (vG y n) m = vG y (n + m) := by
  induction m with
  | zero => rfl
  | succ m ih => rw [vG, ih]; rfl

/-! sums -/
def sumG (f : Nat → List UInt8) : Nat → List UInt8
  | 0 => zG
  | n + 1 => crossV (sumG f n) (f n)
theorem sumG_length (f : Nat → List UInt8) (hf : ∀ i, (f i).length = 16) (n : Nat) : (sumG f n).length = 16 := by
  induction n with
  | zero => exact zG_length
  | succ n ih => exact crossV_length _ _ ih (hf n)
theorem sumG_congr (f g : Nat → List UInt8) (n : Nat) (h : ∀ i, i < n → f i = g i) : sumG f n = sumG g n := by
  induction n with
  | zero => rfl
  | succ n ih => rw [sumG, sumG, ih (fun i hi => h i (by omega)), h n (by omega)]
theorem sumG_zero (n : Nat) : sumG (fun _ => zG) n = zG := by
  induction n with
  | zero => rfl
  | succ n ih => rw [sumG, ih, cross_zero _ zG_length]
theorem sumG_cross (f g : Nat → List UInt8) (n : Nat) : sumG (fun i => crossV (f i) (g i)) n = crossV (sumG f n) (sumG g n) := by
  induction n with
  | zero => exact (cross_zero zG zG_length).symm
  | succ n ih =>
    rw [sumG, sumG, sumG, ih, cross_assoc, cross_assoc]
    congr 1
    rw [← cross_assoc, cross_comm (sumG g n), cross_assoc]
theorem sumG_swap (f : Nat → Nat → List UInt8) (n m : Nat) : sumG (fun i => sumG (fun j => f i j) m) n = sumG (fun j => sumG (fun i => f i j) n) m := by
  induction n with
  | zero => exact (sumG_zero m).symm
  | succ n ih =>
    rw [sumG, ih, ← sumG_cross]
    rfl
theorem vG_sum (f : Nat → List UInt8) (hf : ∀ i, (f i).length = 16) (n k : Nat) : vG (sumG f n) k = sumG (fun i => vG (f i) k) n := by
  induction n with
  | zero => exact vG_zero k
  | succ n ih => rw [sumG, vG_cross _ _ (sumG_length f hf n) (hf n), ih]; rfl
theorem tG_sum (x y : List UInt8) (h : y.length = 16) (n : Nat) : tG x y n = sumG (fun i => if bitG x i = true then vG y i else zG) n := by
  induction n with
  | zero => rfl
  | succ n ih =>
    rw [tG, sumG, ← ih]
    by_cases hb : bitG x n = true
    · rw [if_pos hb, if_pos hb]
    · rw [if_neg hb, if_neg hb, cross_zero _ (tG_length x y h n)]
/-- one, and what it is doubled to -/
def oneG : List UInt8 := [128, 0, 0, 0, 0, 0, 0, 0, 0, 0, 0, 0, 0, 0, 0, 0]
def eG (j : Nat) : List UInt8 := (List.range 16).map fun k => if k = j / 8 then UInt8.ofNat (2 ^ (7 - j % 8)) else 0
theorem eG_length (j : Nat) : (eG j).length = 16 := by simp [eG]
theorem eG_dbl : (List.range 127).all (fun j => decide (dblG (eG j) = eG (j + 1))) = true := by kernel_rfl
theorem eG_all (j : Nat) (h : j < 128) : vG oneG j = eG j := by
  induction j with
  | zero => kernel_rfl
  | succ j ih =>
    rw [vG, ih (by omega)]
    have e := List.all_eq_true.1 eG_dbl j (List.mem_range.2 (by omega))
    simpa using e
/-- the first m bits of a byte -/
def partB (b : UInt8) : Nat → UInt8
  | 0 => 0
  | m + 1 => partB b m ^^^ (if b.toNat / 2 ^ (7 - m) % 2 = 1 then UInt8.ofNat (2 ^ (7 - m)) else 0)
theorem partB_eight (b : UInt8) : partB b 8 = b := by
  have h := u8_all (p := fun b => decide (partB b 8 = b)) (by kernel_rfl) b
  simpa using h
def termG (y : List UInt8) (j : Nat) : List UInt8 := if bitG y j = true then eG j else zG
theorem termG_length (y : List UInt8) (j : Nat) : (termG y j).length = 16 := by
  unfold termG
  split
  · exact eG_length j
  · exact zG_length
theorem eG_getD (j k : Nat) (hk : k < 16) : (eG j).getD k 0 = if k = j / 8 then UInt8.ofNat (2 ^ (7 - j % 8)) else 0 := by
  unfold eG
  rw [List.getD_eq_getElem?_getD, List.getElem?_map, List.getElem?_range hk]
  rfl
theorem termG_getD (y : List UInt8) (j k : Nat) (hk : k < 16) : (termG y j).getD k 0 = if k = j / 8 then (if (y.getD k 0).toNat / 2 ^ (7 - j % 8) % 2 = 1 then UInt8.ofNat (2 ^ (7 - j % 8)) else 0) else 0 := by
  unfold termG bitG
  by_cases h : k = j / 8
  · rw [if_pos h, ← h]
    by_cases hb : (y.getD k 0).toNat / 2 ^ (7 - j % 8) % 2 = 1
    · rw [if_pos (decide_eq_true hb), if_pos hb, eG_getD j k hk, if_pos h]
    · rw [if_neg (fun e => hb (of_decide_eq_true e)), if_neg hb, zG_getD]
  · rw [if_neg h]
    split
    · rw [eG_getD j k hk, if_neg h]
    · exact zG_getD k
theorem sum_part (y : List UInt8) (k : Nat) (hk : k < 16) (n : Nat) : (sumG (termG y) n).getD k 0 = partB (y.getD k 0) (min 8 (n - 8 * k)) := by
  induction n with
  | zero => rw [sumG, zG_getD, Nat.zero_sub, Nat.min_zero]; rfl
  | succ n ih =>
    rw [sumG, crossV_getD _ _ (by rw [sumG_length _ (termG_length y), termG_length]), ih, termG_getD y n k hk]
    by_cases h : k = n / 8
    · have h1 : min 8 (n + 1 - 8 * k) = min 8 (n - 8 * k) + 1 := by omega
      have h2 : n % 8 = min 8 (n - 8 * k) := by omega
      rw [if_pos h, h1, partB, h2]
    · have h1 : min 8 (n + 1 - 8 * k) = min 8 (n - 8 * k) := by omega
      rw [if_neg h, h1, UInt8.xor_zero]
theorem sum_all (y : List UInt8) (h : y.length = 16) : sumG (termG y) 128 = y := by
  refine list_ext16 _ _ (sumG_length _ (termG_length y) _) h fun k hk => ?_
  rw [sum_part y k hk 128, show min 8 (128 - 8 * k) = 8 by omega, partB_eight]
theorem vG_terms (y : List UInt8) (h : y.length = 16) (i : Nat) : vG y i = sumG (fun j => if bitG y j = true then vG oneG (j + i) else zG) 128 := by
  have e : vG (sumG (termG y) 128) i = sumG (fun j => vG (termG y j) i) 128 := vG_sum (termG y) (termG_length y) 128 i
  rw [sum_all y h] at e
  rw [e]
  refine sumG_congr _ _ _ fun j hj => ?_
  unfold termG
  split
  · rw [← eG_all j hj, vG_add]
  · exact vG_zero i
/-- the product, as a sum over all pairs of bits -/
theorem timesG_sum (x y : List UInt8) (h : y.length = 16) : timesG x y = sumG (fun i => sumG (fun j => if bitG x i = true ∧ bitG y j = true then vG oneG (i + j) else zG) 128) 128 := by
  rw [timesG, tG_sum x y h]
  refine sumG_congr _ _ _ fun i hi => ?_
  by_cases hb : bitG x i = true
  · rw [if_pos hb, vG_terms y h i]
    refine sumG_congr _ _ _ fun j hj => ?_
    by_cases hc : bitG y j = true
    · rw [if_pos hc, if_pos ⟨hb, hc⟩, Nat.add_comm]
    · rw [if_neg hc, if_neg (fun e => hc e.2)]
  · rw [if_neg hb]
    refine ((sumG_zero 128).symm).trans (sumG_congr _ _ _ fun j hj => ?_)
    rw [if_neg (fun e => hb e.1)]
/-- the same in either order -/
theorem timesG_comm (x y : List UInt8) (hx : x.length = 16) (hy : y.length = 16) : timesG x y = timesG y x := by
  rw [timesG_sum x y hy, timesG_sum y x hx, sumG_swap]
  refine sumG_congr _ _ _ fun j hj => sumG_congr _ _ _ fun i hi => ?_
  by_cases h : bitG x i = true ∧ bitG y j = true
  · rw [if_pos h, if_pos ⟨h.2, h.1⟩, Nat.add_comm]
  · rw [if_neg h, if_neg (fun e => h ⟨e.2, e.1⟩)]
/-- spread over what is crossed -/
theorem tG_cross_right (x y z : List UInt8) (hy : y.length = 16) (hz : z.length = 16) (n : Nat) : tG x (crossV y z) n = crossV (tG x y n) (tG x z n) := by
  rw [tG_sum x _ (crossV_length _ _ hy hz), tG_sum x y hy, tG_sum x z hz, ← sumG_cross]
  refine sumG_congr _ _ _ fun i hi => ?_
  by_cases h : bitG x i = true
  · rw [if_pos h, if_pos h, if_pos h, vG_cross y z hy hz]
  · rw [if_neg h, if_neg h, if_neg h, cross_zero _ zG_length]
theorem timesG_right (x y z : List UInt8) (hy : y.length = 16) (hz : z.length = 16) : timesG x (crossV y z) = crossV (timesG x y) (timesG x z) := tG_cross_right x y z hy hz 128
theorem timesG_left (x y z : List UInt8) (hx : x.length = 16) (hy : y.length = 16) (hz : z.length = 16) : timesG (crossV x y) z = crossV (timesG x z) (timesG y z) := by
  rw [timesG_comm _ z (crossV_length _ _ hx hy) hz, timesG_right z x y hx hy, timesG_comm z x hz hx, timesG_comm z y hz hy]
end Go.Proofs.Ytkeleehkjllgeaa
