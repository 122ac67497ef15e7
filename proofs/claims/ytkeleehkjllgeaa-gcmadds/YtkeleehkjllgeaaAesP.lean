/-
  AES as functions of bytes and lists: double, product, box, round keys, a block; nothing of the program.
-/
import Derived.KernelRfl
namespace Go.Proofs.Ytkeleehkjllgeaa
set_option linter.unusedVariables false

/-- what holds of 256 numbers holds of every byte -/
theorem u8_all {p : UInt8 → Bool} (h : (List.range 256).all (fun n => p (UInt8.ofNat n)) = true) (b : UInt8) : p b = true := by
  have h1 := List.all_eq_true.1 h b.toNat (List.mem_range.2 b.toNat_lt)
  simpa using h1

/-- times x in the field -/
def dblN (b : Nat) : Nat := if 128 ≤ b then Nat.xor (2 * b - 256) 27 else 2 * b
def dblV (b : UInt8) : UInt8 := if 128 ≤ b then (b <<< 1) ^^^ 27 else b <<< 1
theorem dblV_nat (b : UInt8) : (dblV b).toNat = dblN b.toNat := by
  have h := u8_all (p := fun b => decide ((dblV b).toNat = dblN b.toNat)) (by kernel_rfl) b
  simpa using h
theorem dblN_lt (b : Nat) (h : b < 256) : dblN b < 256 := by
  have e := dblV_nat (UInt8.ofNat b)
  rw [UInt8.toNat_ofNat', Nat.mod_eq_of_lt h] at e
  rw [← e]; exact UInt8.toNat_lt _
/-- the product, bit by bit: n bits more, c so far -/
def timesN : Nat → Nat → Nat → Nat → Nat
  | 0, c, _, _ => c
  | n + 1, c, a, b => timesN n (if b % 2 = 1 then Nat.xor c a else c) (dblN a) (b / 2)
def timesU : Nat → UInt8 → UInt8 → UInt8 → UInt8
  | 0, c, _, _ => c
  | n + 1, c, a, b => timesU n (if b &&& 1 = 1 then c ^^^ a else c) (dblV a) (b >>> 1)
theorem and_one (b : UInt8) : (b &&& 1 = 1) ↔ b.toNat % 2 = 1 := by
  have h := u8_all (p := fun b => decide ((b &&& 1 = 1) ↔ b.toNat % 2 = 1)) (by kernel_rfl) b
  simpa using h
theorem half_nat (b : UInt8) : (b >>> 1).toNat = b.toNat / 2 := by
  have h := u8_all (p := fun b => decide ((b >>> 1).toNat = b.toNat / 2)) (by kernel_rfl) b
  simpa using h
theorem timesU_nat (n : Nat) (c a b : UInt8) : (timesU n c a b).toNat = timesN n c.toNat a.toNat b.toNat := by
  induction n generalizing c a b with
  | zero => rfl
  | succ n ih =>
    rw [timesU, ih, timesN, dblV_nat, half_nat]
    by_cases h : b &&& 1 = 1
    · rw [if_pos h, if_pos ((and_one b).1 h), UInt8.toNat_xor]; rfl
    · rw [if_neg h, if_neg (fun e => h ((and_one b).2 e))]
/-- when nothing is left of b, the product is there -/
theorem timesU_zero (n : Nat) (c a : UInt8) : timesU n c a 0 = c := by
  induction n generalizing c a with
  | zero => rfl
  | succ n ih =>
    rw [timesU, if_neg (by decide)]
    exact ih _ _
def timesV (a b : UInt8) : UInt8 := timesU 8 0 a b
/-- the last k up to K with b times k = 1 -/
def invN (b : Nat) : Nat → Nat
  | 0 => 0
  | k + 1 => if timesN 8 0 b (k + 1) = 1 then k + 1 else invN b k
def invU (b : UInt8) : Nat → UInt8
  | 0 => 0
  | k + 1 => if timesV b (UInt8.ofNat (k + 1)) = 1 then UInt8.ofNat (k + 1) else invU b k
theorem invU_nat (b : UInt8) (k : Nat) (h : k ≤ 255) : (invU b k).toNat = invN b.toNat k := by
  induction k with
  | zero => rfl
  | succ k ih =>
    have e : (UInt8.ofNat (k + 1)).toNat = k + 1 := by rw [UInt8.toNat_ofNat']; omega
    have e1 : (timesV b (UInt8.ofNat (k + 1)) = 1) ↔ timesN 8 0 b.toNat (k + 1) = 1 := by
      have h2 := timesU_nat 8 0 b (UInt8.ofNat (k + 1))
      rw [e] at h2
      rw [← UInt8.toNat_inj]
      show (timesU 8 0 b (UInt8.ofNat (k + 1))).toNat = 1 ↔ _
      rw [h2]; exact Iff.rfl
    rw [invU, invN]
    by_cases h1 : timesV b (UInt8.ofNat (k + 1)) = 1
    · rw [if_pos h1, if_pos (e1.1 h1), e]
    · rw [if_neg h1, if_neg (fun x => h1 (e1.2 x)), ih (by omega)]
/-- the box's own crossing, i turns of it -/
def affN (v : Nat) : Nat → Nat
  | 0 => 99
  | i + 1 => Nat.xor (affN v i) (Nat.lor (v * 2 ^ i % 256) (v / 2 ^ (8 - i)))
def turnU (v : UInt8) (i : Nat) : UInt8 := UInt8.ofNat (Nat.lor (v.toNat * 2 ^ i % 256) (v.toNat / 2 ^ (8 - i)))
def affU (v : UInt8) : Nat → UInt8
  | 0 => 99
  | i + 1 => affU v i ^^^ turnU v i
def invT : List Nat := [
  0, 1, 141, 246, 203, 82, 123, 209, 232, 79, 41, 192, 176, 225, 229, 199,
  116, 180, 170, 75, 153, 43, 96, 95, 88, 63, 253, 204, 255, 64, 238, 178,
  58, 110, 90, 241, 85, 77, 168, 201, 193, 10, 152, 21, 48, 68, 162, 194,
  44, 69, 146, 108, 243, 57, 102, 66, 242, 53, 32, 111, 119, 187, 89, 25,
  29, 254, 55, 103, 45, 49, 245, 105, 167, 100, 171, 19, 84, 37, 233, 9,
  237, 92, 5, 202, 76, 36, 135, 191, 24, 62, 34, 240, 81, 236, 97, 23,
  22, 94, 175, 211, 73, 166, 54, 67, 244, 71, 145, 223, 51, 147, 33, 59,
  121, 183, 151, 133, 16, 181, 186, 60, 182, 112, 208, 6, 161, 250, 129, 130,
  131, 126, 127, 128, 150, 115, 190, 86, 155, 158, 149, 217, 247, 2, 185, 164,
  222, 106, 50, 109, 216, 138, 132, 114, 42, 20, 159, 136, 249, 220, 137, 154,
  251, 124, 46, 195, 143, 184, 101, 72, 38, 200, 18, 74, 206, 231, 210, 98,
  12, 224, 31, 239, 17, 117, 120, 113, 165, 142, 118, 61, 189, 188, 134, 87,
  11, 40, 47, 163, 218, 212, 228, 15, 169, 39, 83, 4, 27, 252, 172, 230,
  122, 7, 174, 99, 197, 219, 226, 234, 148, 139, 196, 213, 157, 248, 144, 107,
  177, 13, 214, 235, 198, 14, 207, 173, 8, 78, 215, 227, 93, 80, 30, 179,
  91, 35, 56, 52, 104, 70, 3, 140, 221, 156, 125, 160, 205, 26, 65, 28]
def boxT : List UInt8 := [
  99, 124, 119, 123, 242, 107, 111, 197, 48, 1, 103, 43, 254, 215, 171, 118,
  202, 130, 201, 125, 250, 89, 71, 240, 173, 212, 162, 175, 156, 164, 114, 192,
  183, 253, 147, 38, 54, 63, 247, 204, 52, 165, 229, 241, 113, 216, 49, 21,
  4, 199, 35, 195, 24, 150, 5, 154, 7, 18, 128, 226, 235, 39, 178, 117,
  9, 131, 44, 26, 27, 110, 90, 160, 82, 59, 214, 179, 41, 227, 47, 132,
  83, 209, 0, 237, 32, 252, 177, 91, 106, 203, 190, 57, 74, 76, 88, 207,
  208, 239, 170, 251, 67, 77, 51, 133, 69, 249, 2, 127, 80, 60, 159, 168,
  81, 163, 64, 143, 146, 157, 56, 245, 188, 182, 218, 33, 16, 255, 243, 210,
  205, 12, 19, 236, 95, 151, 68, 23, 196, 167, 126, 61, 100, 93, 25, 115,
  96, 129, 79, 220, 34, 42, 144, 136, 70, 238, 184, 20, 222, 94, 11, 219,
  224, 50, 58, 10, 73, 6, 36, 92, 194, 211, 172, 98, 145, 149, 228, 121,
  231, 200, 55, 109, 141, 213, 78, 169, 108, 86, 244, 234, 101, 122, 174, 8,
  186, 120, 37, 46, 28, 166, 180, 198, 232, 221, 116, 31, 75, 189, 139, 138,
  112, 62, 181, 102, 72, 3, 246, 14, 97, 53, 87, 185, 134, 193, 29, 158,
  225, 248, 152, 17, 105, 217, 142, 148, 155, 30, 135, 233, 206, 85, 40, 223,
  140, 161, 137, 13, 191, 230, 66, 104, 65, 153, 45, 15, 176, 84, 187, 22]
def boxV (b : UInt8) : UInt8 := boxT.getD b.toNat 0
theorem invT_length : invT.length = 256 := by kernel_rfl
theorem inv_all : (List.range 256).map (fun b => invN b 255) = invT := by kernel_rfl
theorem aff_all : invT.map (fun v => affU (UInt8.ofNat v) 5) = boxT := by kernel_rfl
theorem box_found (b : UInt8) : affU (invU b 255) 5 = boxV b := by
  have h1 : invN b.toNat 255 = invT.getD b.toNat 0 := by
    rw [← inv_all]
    simp [List.getD_eq_getElem?_getD, b.toNat_lt]
  have h2 : boxV b = affU (UInt8.ofNat (invT.getD b.toNat 0)) 5 := by
    unfold boxV
    rw [← aff_all]
    have hl : b.toNat < invT.length := by rw [invT_length]; exact b.toNat_lt
    simp [List.getD_eq_getElem?_getD, hl]
  have h3 : invU b 255 = UInt8.ofNat (invT.getD b.toNat 0) := by
    apply UInt8.toNat_inj.1
    rw [invU_nat b 255 (Nat.le_refl _), h1, UInt8.toNat_ofNat', Nat.mod_eq_of_lt]
    rw [← h1, ← invU_nat b 255 (Nat.le_refl _)]
    exact UInt8.toNat_lt _
  rw [h2, h3]

/-- powers of 3 -/
def powU : Nat → UInt8
  | 0 => 1
  | i + 1 => powU i ^^^ dblV (powU i)
/-- the first n powers in a row of 256, and where each stands -/
def powL (n : Nat) : List UInt8 := (List.range n).map powU ++ List.replicate (256 - n) 0
def logL : Nat → List UInt8
  | 0 => List.replicate 256 0
  | n + 1 => (logL n).set (powU n).toNat (UInt8.ofNat n)
def powT : List UInt8 := [
  1, 3, 5, 15, 17, 51, 85, 255, 26, 46, 114, 150, 161, 248, 19, 53,
  95, 225, 56, 72, 216, 115, 149, 164, 247, 2, 6, 10, 30, 34, 102, 170,
  229, 52, 92, 228, 55, 89, 235, 38, 106, 190, 217, 112, 144, 171, 230, 49,
  83, 245, 4, 12, 20, 60, 68, 204, 79, 209, 104, 184, 211, 110, 178, 205,
  76, 212, 103, 169, 224, 59, 77, 215, 98, 166, 241, 8, 24, 40, 120, 136,
  131, 158, 185, 208, 107, 189, 220, 127, 129, 152, 179, 206, 73, 219, 118, 154,
  181, 196, 87, 249, 16, 48, 80, 240, 11, 29, 39, 105, 187, 214, 97, 163,
  254, 25, 43, 125, 135, 146, 173, 236, 47, 113, 147, 174, 233, 32, 96, 160,
  251, 22, 58, 78, 210, 109, 183, 194, 93, 231, 50, 86, 250, 21, 63, 65,
  195, 94, 226, 61, 71, 201, 64, 192, 91, 237, 44, 116, 156, 191, 218, 117,
  159, 186, 213, 100, 172, 239, 42, 126, 130, 157, 188, 223, 122, 142, 137, 128,
  155, 182, 193, 88, 232, 35, 101, 175, 234, 37, 111, 177, 200, 67, 197, 84,
  252, 31, 33, 99, 165, 244, 7, 9, 27, 45, 119, 153, 176, 203, 70, 202,
  69, 207, 74, 222, 121, 139, 134, 145, 168, 227, 62, 66, 198, 81, 243, 14,
  18, 54, 90, 238, 41, 123, 141, 140, 143, 138, 133, 148, 167, 242, 13, 23,
  57, 75, 221, 124, 132, 151, 162, 253, 28, 36, 108, 180, 199, 82, 246, 0]
def logT : List UInt8 := [
  0, 0, 25, 1, 50, 2, 26, 198, 75, 199, 27, 104, 51, 238, 223, 3,
  100, 4, 224, 14, 52, 141, 129, 239, 76, 113, 8, 200, 248, 105, 28, 193,
  125, 194, 29, 181, 249, 185, 39, 106, 77, 228, 166, 114, 154, 201, 9, 120,
  101, 47, 138, 5, 33, 15, 225, 36, 18, 240, 130, 69, 53, 147, 218, 142,
  150, 143, 219, 189, 54, 208, 206, 148, 19, 92, 210, 241, 64, 70, 131, 56,
  102, 221, 253, 48, 191, 6, 139, 98, 179, 37, 226, 152, 34, 136, 145, 16,
  126, 110, 72, 195, 163, 182, 30, 66, 58, 107, 40, 84, 250, 133, 61, 186,
  43, 121, 10, 21, 155, 159, 94, 202, 78, 212, 172, 229, 243, 115, 167, 87,
  175, 88, 168, 80, 244, 234, 214, 116, 79, 174, 233, 213, 231, 230, 173, 232,
  44, 215, 117, 122, 235, 22, 11, 245, 89, 203, 95, 176, 156, 169, 81, 160,
  127, 12, 246, 111, 23, 196, 73, 236, 216, 67, 31, 45, 164, 118, 123, 183,
  204, 187, 62, 90, 251, 96, 177, 134, 59, 82, 161, 108, 170, 85, 41, 157,
  151, 178, 135, 144, 97, 190, 220, 252, 188, 149, 207, 205, 55, 63, 91, 209,
  83, 57, 132, 60, 65, 162, 109, 71, 20, 42, 158, 93, 86, 242, 211, 171,
  68, 17, 146, 217, 35, 32, 46, 137, 180, 124, 184, 38, 119, 153, 227, 165,
  103, 74, 237, 222, 197, 49, 254, 24, 13, 99, 140, 128, 192, 247, 112, 7]
def powUp : Nat → UInt8 → List UInt8
  | 0, _ => []
  | n + 1, x => x :: powUp n (x ^^^ dblV x)
theorem powUp_eq (n i : Nat) : powUp n (powU i) = (List.range n).map fun j => powU (i + j) := by
  induction n generalizing i with
  | zero => rfl
  | succ n ih =>
    rw [powUp]
    show powU i :: powUp n (powU (i + 1)) = _
    rw [ih, List.range_succ_eq_map]
    simp only [List.map_cons, List.map_map, Nat.add_zero]
    congr 1
    apply List.map_congr_left
    intro j _
    show powU (i + 1 + j) = powU (i + (j + 1))
    congr 1; omega
theorem pow_run : powUp 255 1 ++ [0] = powT := by kernel_rfl
theorem pow_all : powL 255 = powT := by
  have h := powUp_eq 255 0
  simp only [Nat.zero_add] at h
  have e : (List.range 255).map (fun j => powU j) = powUp 255 1 := h.symm
  show (List.range 255).map powU ++ [0] = powT
  rw [← pow_run, ← e]
def logUp : Nat → Nat → UInt8 → List UInt8 → List UInt8
  | 0, _, _, l => l
  | n + 1, i, x, l => logUp n (i + 1) (x ^^^ dblV x) (l.set x.toNat (UInt8.ofNat i))
theorem logUp_eq (n i : Nat) : logUp n i (powU i) (logL i) = logL (i + n) := by
  induction n generalizing i with
  | zero => rfl
  | succ n ih =>
    rw [logUp]
    show logUp n (i + 1) (powU (i + 1)) (logL (i + 1)) = _
    rw [ih]
    congr 1; omega
theorem log_run : logUp 255 0 1 (List.replicate 256 0) = logT := by kernel_rfl
theorem log_all : logL 255 = logT := by
  have h := logUp_eq 255 0
  rw [Nat.zero_add] at h
  rw [← h, ← log_run]
  rfl
/-- a byte's inverse, by the powers -/
def invP (b : Nat) : UInt8 := if b = 0 then 0 else powT.getD ((255 - (logT.getD b 0).toNat) % 255) 0
theorem invP_all : (List.range 256).map invP = invT.map UInt8.ofNat := by kernel_rfl
theorem box_powers (b : Nat) (h : b < 256) : affU (invP b) 5 = boxT.getD b 0 := by
  have h1 : invP b = UInt8.ofNat (invT.getD b 0) := by
    have e := congrArg (fun l => l.getD b 0) invP_all
    have hl : b < invT.length := by rw [invT_length]; exact h
    simpa [List.getD_eq_getElem?_getD, h, hl] using e
  rw [h1, ← aff_all]
  have hl : b < invT.length := by rw [invT_length]; exact h
  simp [List.getD_eq_getElem?_getD, hl]

theorem boxT_length : boxT.length = 256 := by kernel_rfl
theorem box_inj_all : (List.range 256).all (fun a => (List.range 256).all fun b => decide (a = b) || !decide ((boxT.map UInt8.toNat).getD a 0 = (boxT.map UInt8.toNat).getD b 0)) = true := by kernel_rfl
theorem box_own (b : UInt8) : (decide (boxV b = b) || decide (boxV b = ~~~b)) = false := by
  have h := u8_all (p := fun b => !(decide (boxV b = b) || decide (boxV b = ~~~b))) (by kernel_rfl) b
  simpa using h
theorem dbl_xor_all : (List.range 256).all (fun a => (List.range 256).all fun b => Nat.beq (dblN (Nat.xor a b)) (Nat.xor (dblN a) (dblN b))) = true := by kernel_rfl
theorem dbl_xor (a b : UInt8) : dblV (a ^^^ b) = dblV a ^^^ dblV b := by
  have h1 := List.all_eq_true.1 dbl_xor_all a.toNat (List.mem_range.2 a.toNat_lt)
  have h2 := List.all_eq_true.1 h1 b.toNat (List.mem_range.2 b.toNat_lt)
  have h3 : dblN (Nat.xor a.toNat b.toNat) = Nat.xor (dblN a.toNat) (dblN b.toNat) := Nat.eq_of_beq_eq_true h2
  apply UInt8.toNat_inj.1
  rw [UInt8.toNat_xor, dblV_nat, dblV_nat, dblV_nat, UInt8.toNat_xor]
  exact h3

/-- the round keys -/
def rconU : Nat → UInt8
  | 0 => 1
  | k + 1 => dblV (rconU k)
def ktV (p : List UInt8) (r : UInt8) : List UInt8 := [boxV (p.getD 13 0) ^^^ r, boxV (p.getD 14 0), boxV (p.getD 15 0), boxV (p.getD 12 0)]
/-- the first i bytes of the next round key -/
def nkUp (p t : List UInt8) : Nat → List UInt8
  | 0 => []
  | i + 1 => nkUp p t i ++ [p.getD i 0 ^^^ (if i < 4 then t.getD i 0 else (nkUp p t i).getD (i - 4) 0)]
theorem nkUp_length (p t : List UInt8) (i : Nat) : (nkUp p t i).length = i := by
  induction i with
  | zero => rfl
  | succ i ih => simp [nkUp, ih]
def rkV (key : List UInt8) : Nat → List UInt8
  | 0 => key
  | k + 1 => nkUp (rkV key k) (ktV (rkV key k) (rconU k)) 16
theorem rkV_length (key : List UInt8) (h : key.length = 16) (k : Nat) : (rkV key k).length = 16 := by
  cases k with
  | zero => exact h
  | succ k => exact nkUp_length _ _ _
/-- two blocks crossed -/
def crossV (a b : List UInt8) : List UInt8 := List.zipWith (· ^^^ ·) a b
/-- boxes, rows turned -/
def subV (s : List UInt8) : List UInt8 := (List.range 16).map fun i => boxV (s.getD ((i + 4 * (i % 4)) % 16) 0)
/-- one column mixed -/
def colV (a b d e : UInt8) : List UInt8 := [dblV a ^^^ dblV b ^^^ b ^^^ d ^^^ e, a ^^^ dblV b ^^^ dblV d ^^^ d ^^^ e, a ^^^ b ^^^ dblV d ^^^ dblV e ^^^ e, dblV a ^^^ a ^^^ b ^^^ d ^^^ dblV e]
def mixV16 (t : List UInt8) : List UInt8 := (List.range 4).flatMap fun j => colV (t.getD (4 * j) 0) (t.getD (4 * j + 1) 0) (t.getD (4 * j + 2) 0) (t.getD (4 * j + 3) 0)
/-- the block behind k rounds -/
def roundsV (key s : List UInt8) : Nat → List UInt8
  | 0 => crossV s (rkV key 0)
  | k + 1 => crossV (if k + 1 < 10 then mixV16 (subV (roundsV key s k)) else subV (roundsV key s k)) (rkV key (k + 1))
def blockV (key s : List UInt8) : List UInt8 := roundsV key s 10
theorem subV_length (s : List UInt8) : (subV s).length = 16 := by simp [subV]
theorem mixV16_length (t : List UInt8) : (mixV16 t).length = 16 := rfl
theorem crossV_length (a b : List UInt8) (ha : a.length = 16) (hb : b.length = 16) : (crossV a b).length = 16 := by simp [crossV, ha, hb]
theorem roundsV_length (key s : List UInt8) (hk : key.length = 16) (hs : s.length = 16) (k : Nat) : (roundsV key s k).length = 16 := by
  cases k with
  | zero => exact crossV_length _ _ hs (rkV_length _ hk 0)
  | succ k =>
    refine crossV_length _ _ ?_ (rkV_length _ hk _)
    split
    · exact mixV16_length _
    · exact subV_length _
theorem aes_known : blockV [0, 1, 2, 3, 4, 5, 6, 7, 8, 9, 10, 11, 12, 13, 14, 15] [0, 17, 34, 51, 68, 85, 102, 119, 136, 153, 170, 187, 204, 221, 238, 255] =
    [105, 196, 224, 216, 106, 123, 4, 48, 216, 205, 183, 128, 112, 180, 197, 90] := by kernel_rfl
end Go.Proofs.Ytkeleehkjllgeaa
