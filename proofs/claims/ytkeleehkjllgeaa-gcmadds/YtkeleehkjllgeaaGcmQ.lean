/-
  Hashes, streams, tags and seals as functions of lists; nothing of the program.
-/
import Derived.Test.YtkeleehkjllgeaaGcmP
namespace Go.Proofs.Ytkeleehkjllgeaa
set_option linter.unusedVariables false

/-- the product with what is so far carried along (for the kernel) -/
def tUp (x : List UInt8) : Nat → Nat → List UInt8 → List UInt8 → List UInt8
  | 0, _, z, _ => z
  | n + 1, i, z, v => tUp x n (i + 1) (if bitG x i = true then crossV z v else z) (dblG v)
theorem tUp_eq (x y : List UInt8) (n i : Nat) : tUp x n i (tG x y i) (vG y i) = tG x y (i + n) := by
  induction n generalizing i with
  | zero => rfl
  | succ n ih =>
    rw [tUp]
    have e := ih (i + 1)
    rw [tG, vG] at e
    rw [e]
    congr 1
    omega
theorem timesG_up (x y : List UInt8) : timesG x y = tUp x 128 0 zG y := by
  have e := tUp_eq x y 128 0
  rw [Nat.zero_add] at e
  exact e.symm

/-- block k of a part, filled with zeros -/
def blkG (l : List UInt8) (k : Nat) : List UInt8 := (List.range 16).map fun j => l.getD (16 * k + j) 0
theorem blkG_length (l : List UInt8) (k : Nat) : (blkG l k).length = 16 := by simp [blkG]
theorem blkG_getD (l : List UInt8) (k j : Nat) (hj : j < 16) : (blkG l k).getD j 0 = l.getD (16 * k + j) 0 := by
  unfold blkG
  rw [List.getD_eq_getElem?_getD, List.getElem?_map, List.getElem?_range hj]
  rfl
theorem blkG_cross (a b : List UInt8) (h : a.length = b.length) (k : Nat) : blkG (crossV a b) k = crossV (blkG a k) (blkG b k) :=
  list_ext16 _ _ (blkG_length _ _) (crossV_length _ _ (blkG_length _ _) (blkG_length _ _)) fun j hj => by
    rw [crossV_getD _ _ (by rw [blkG_length, blkG_length]), blkG_getD _ _ _ hj, blkG_getD _ _ _ hj, blkG_getD _ _ _ hj, crossV_getD a b h]
/-- the hash behind n blocks of a part -/
def hpG (h y l : List UInt8) : Nat → List UInt8
  | 0 => y
  | n + 1 => timesG (crossV (hpG h y l n) (blkG l n)) h
def partG (h y l : List UInt8) : List UInt8 := hpG h y l ((l.length + 15) / 16)
def hashG (h : List UInt8) (parts : List (List UInt8)) : List UInt8 := parts.foldl (partG h) zG
theorem hpG_length (h y l : List UInt8) (hh : h.length = 16) (hy : y.length = 16) (n : Nat) : (hpG h y l n).length = 16 := by
  cases n with
  | zero => exact hy
  | succ n => exact timesG_length _ _ hh
theorem partG_length (h y l : List UInt8) (hh : h.length = 16) (hy : y.length = 16) : (partG h y l).length = 16 := hpG_length h y l hh hy _
theorem partG_nil (h y : List UInt8) : partG h y [] = y := rfl
theorem fold_length (h : List UInt8) (hh : h.length = 16) (ps : List (List UInt8)) (y : List UInt8) (hy : y.length = 16) : (ps.foldl (partG h) y).length = 16 := by
  induction ps generalizing y with
  | nil => exact hy
  | cons p r ih => exact ih _ (partG_length h y p hh hy)
theorem hashG_length (h : List UInt8) (ps : List (List UInt8)) (hh : h.length = 16) : (hashG h ps).length = 16 := fold_length h hh ps zG zG_length
theorem hpG_cross (h y y' a b : List UInt8) (hh : h.length = 16) (hy : y.length = 16) (hy' : y'.length = 16) (hab : a.length = b.length) (n : Nat) :
    hpG h (crossV y y') (crossV a b) n = crossV (hpG h y a n) (hpG h y' b n) := by
  induction n with
  | zero => rfl
  | succ n ih =>
    have la := hpG_length h y a hh hy n
    have lb := hpG_length h y' b hh hy' n
    rw [hpG, hpG, hpG, ih, blkG_cross a b hab, cross_assoc, cross_left (hpG h y' b n), ← cross_assoc,
      timesG_left _ _ h (crossV_length _ _ la (blkG_length _ _)) (crossV_length _ _ lb (blkG_length _ _)) hh]
/-- what is crossed is hashed to what is crossed -/
theorem hash_cross (h a b : List UInt8) (hh : h.length = 16) (hab : a.length = b.length) : hashG h [crossV a b] = crossV (hashG h [a]) (hashG h [b]) := by
  have hl : (crossV a b).length = a.length := by simp [crossV, hab]
  show hpG h zG (crossV a b) (((crossV a b).length + 15) / 16) = crossV (hpG h zG a ((a.length + 15) / 16)) (hpG h zG b ((b.length + 15) / 16))
  rw [hl, ← hab, ← hpG_cross h zG zG a b hh zG_length zG_length hab, cross_zero _ zG_length]

/-- the counter's block of a number -/
def cntV (nonce : List UInt8) (n : Nat) : List UInt8 := nonce ++ [UInt8.ofNat (n / 16777216), UInt8.ofNat (n / 65536), UInt8.ofNat (n / 256), UInt8.ofNat n]
theorem cntV_length (nonce : List UInt8) (n : Nat) (h : nonce.length = 12) : (cntV nonce n).length = 16 := by simp [cntV, h]
/-- the stream's byte i -/
def ksG (key nonce : List UInt8) (i : Nat) : UInt8 := (blockV key (cntV nonce (2 + i / 16))).getD (i % 16) 0
def turnG (key nonce text : List UInt8) : List UInt8 := (List.range text.length).map fun i => text.getD i 0 ^^^ ksG key nonce i
theorem turnG_length (key nonce text : List UInt8) : (turnG key nonce text).length = text.length := by simp [turnG]
theorem turnG_getD (key nonce text : List UInt8) (i : Nat) (h : i < text.length) : (turnG key nonce text).getD i 0 = text.getD i 0 ^^^ ksG key nonce i := by
  unfold turnG
  rw [List.getD_eq_getElem?_getD, List.getElem?_map, List.getElem?_range h]
  rfl
theorem list_ext0 (a b : List UInt8) (h : a.length = b.length) (hj : ∀ j, j < a.length → a.getD j 0 = b.getD j 0) : a = b := by
  refine List.ext_getElem h fun j h1 h2 => ?_
  have e := hj j h1
  simpa [List.getD_eq_getElem?_getD, h1, h2] using e
/-- twice turned is as it was -/
theorem turn_turn (key nonce text : List UInt8) : turnG key nonce (turnG key nonce text) = text :=
  list_ext0 _ _ (by rw [turnG_length, turnG_length]) fun j hj => by
    rw [turnG_length, turnG_length] at hj
    rw [turnG_getD _ _ _ _ (by rw [turnG_length]; exact hj), turnG_getD _ _ _ _ hj, x_assoc, UInt8.xor_self, UInt8.xor_zero]
theorem turn_take (key nonce text : List UInt8) (n : Nat) : turnG key nonce (text.take n) = (turnG key nonce text).take n :=
  list_ext0 _ _ (by rw [turnG_length, List.length_take, List.length_take, turnG_length]) fun j hj => by
    rw [turnG_length, List.length_take] at hj
    have e : ∀ l : List UInt8, (l.take n).getD j 0 = l.getD j 0 := fun l => by
      rw [List.getD_eq_getElem?_getD, List.getD_eq_getElem?_getD, List.getElem?_take, if_pos (by omega)]
    rw [turnG_getD _ _ _ _ (by rw [List.length_take]; exact hj), e, e, turnG_getD _ _ _ _ (by omega)]
/-- two texts crossed are their seals crossed -/
theorem turn_cross (key nonce a b : List UInt8) (i : Nat) (ha : i < a.length) (hb : i < b.length) : (turnG key nonce a).getD i 0 ^^^ (turnG key nonce b).getD i 0 = a.getD i 0 ^^^ b.getD i 0 := by
  rw [turnG_getD _ _ _ _ ha, turnG_getD _ _ _ _ hb]
  generalize ksG key nonce i = k
  rw [x_comm (b.getD i 0) k, x_assoc, ← x_assoc k k, UInt8.xor_self, UInt8.zero_xor]
/-- eight bytes that tell a number -/
def be8 (n : Nat) : List UInt8 := (List.range 8).map fun i => UInt8.ofNat (n / 2 ^ (56 - 8 * i))
def lensG (d s : Nat) : List UInt8 := be8 (8 * d) ++ be8 (8 * s)
def tagG (key nonce sealed data : List UInt8) : List UInt8 := crossV (hashG (blockV key zG) [data, sealed, lensG data.length sealed.length]) (blockV key (cntV nonce 1))
theorem blockV_length (key s : List UInt8) (hk : key.length = 16) (hs : s.length = 16) : (blockV key s).length = 16 := roundsV_length key s hk hs 10
theorem tagG_length (key nonce sealed data : List UInt8) (hk : key.length = 16) (hn : nonce.length = 12) : (tagG key nonce sealed data).length = 16 :=
  crossV_length _ _ (hashG_length _ _ (blockV_length _ _ hk zG_length)) (blockV_length _ _ hk (cntV_length _ _ hn))
def sealG (key nonce text data : List UInt8) : List UInt8 := turnG key nonce text ++ tagG key nonce (turnG key nonce text) data
theorem sealG_length (key nonce text data : List UInt8) (hk : key.length = 16) (hn : nonce.length = 12) : (sealG key nonce text data).length = text.length + 16 := by
  unfold sealG
  rw [List.length_append, turnG_length, tagG_length _ _ _ _ hk hn]
/-- what is opened: the text and a code -/
def openG (key nonce sealed data : List UInt8) (short bad : Int) : List UInt8 × Int :=
  if sealed.length < 16 then ([], short)
  else if tagG key nonce (sealed.take (sealed.length - 16)) data = sealed.drop (sealed.length - 16) then (turnG key nonce (sealed.take (sealed.length - 16)), 0) else ([], bad)
theorem open_seal (key nonce text data : List UInt8) (short bad : Int) (hk : key.length = 16) (hn : nonce.length = 12) : openG key nonce (sealG key nonce text data) data short bad = (text, 0) := by
  have hl := sealG_length key nonce text data hk hn
  have h1 : (sealG key nonce text data).take ((sealG key nonce text data).length - 16) = turnG key nonce text := by
    rw [hl, Nat.add_sub_cancel]
    unfold sealG
    exact List.take_left' (turnG_length _ _ _)
  have h2 : (sealG key nonce text data).drop ((sealG key nonce text data).length - 16) = tagG key nonce (turnG key nonce text) data := by
    rw [hl, Nat.add_sub_cancel]
    unfold sealG
    exact List.drop_left' (turnG_length _ _ _)
  unfold openG
  rw [if_neg (by omega), h1, h2, if_pos rfl, turn_turn]
end Go.Proofs.Ytkeleehkjllgeaa
