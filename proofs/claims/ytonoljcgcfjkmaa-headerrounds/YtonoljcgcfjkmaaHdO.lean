/-
  What is laid of a header is read as it was.
-/
import Derived.Test.YtonoljcgcfjkmaaHdI
import Derived.Test.YtonoljcgcfjkmaaHdF
import Derived.Test.YtonoljcgcfjkmaaVarintE
namespace Go.Proofs.Ytonoljcgcfjkmaa
open Go.RowKit
set_option linter.unusedVariables false

theorem expectP_ok (r : List UInt8) (n : Nat) (h : n ≤ r.length) : expectP (r, 0) n = (r, 0) := by
  unfold expectP
  rw [if_neg (by simp only; omega)]
theorem bytesP_app (a r : List UInt8) (n : Nat) (h : a.length = n) : bytesP (a ++ r, 0) n = (a, (r, 0)) := by
  subst h
  unfold bytesP
  rw [expectP_ok _ _ (by simp)]
  simp
theorem wholeP_app (a r : List UInt8) (n : Nat) (h : a.length = n) : wholeP (a ++ r, 0) n = (beN 0 a, (r, 0)) := by
  unfold wholeP
  rw [bytesP_app a r n h]
theorem beN_low (N s : Nat) : beN 0 (lowB N s) = N % 256 ^ s := by rw [beN_lowB]; simp
theorem wholeP_low (N s : Nat) (r : List UInt8) : wholeP (lowB N s ++ r, 0) s = (N % 256 ^ s, (r, 0)) := by
  rw [wholeP_app _ _ _ (lowB_length N s), beN_low]
theorem wholeP_one (x : UInt8) (r : List UInt8) : wholeP (x :: r, 0) 1 = (x.toNat, (r, 0)) := by
  have h := wholeP_app [x] r 1 rfl
  simpa [beN] using h
theorem varintP_app (v k : Nat) (hk : k ≤ 3) (hv : v < 64 * 256 ^ (2 ^ k - 1)) (r : List UInt8) : varintP (encV v k ++ r, 0) = (v, (r, 0)) := by
  unfold varintP
  rw [getV_enc v k hk hv r]
  simp [← encV_length v k]
theorem nameP_app (a r : List UInt8) (lo hi : Nat) (h1 : lo ≤ a.length) (h2 : a.length ≤ hi) (h3 : hi < 256) : nameP (UInt8.ofNat a.length :: (a ++ r), 0) lo hi = (a, (r, 0)) := by
  unfold nameP
  have e : (UInt8.ofNat a.length).toNat = a.length := by simp only [UInt8.toNat_ofNat']; omega
  rw [wholeP_one, e]
  simp only
  rw [if_neg (by omega), bytesP_app a r _ rfl]
theorem tokenP_app (a r : List UInt8) (h : a.length ≤ 100) : tokenP (enc a.length ++ (a ++ r), 0) = (a, (r, 0)) := by
  obtain ⟨k, s, hc, hl, he, hks, hv⟩ := small_cases a.length (by omega)
  unfold tokenP
  rw [he, varintP_app _ _ (two_pow_of hks).2 hv]
  simp only
  rw [if_neg (by omega), bytesP_app a r _ rfl]
theorem low_told (M : Nat) (h : M < 16384) : lowB (16384 + M) 2 = encV M 1 := by
  simp only [lowB, encV, Nat.pow_one]
  congr 1
  · congr 1; omega
  · congr 1
    apply UInt8.toNat_inj.1
    simp only [UInt8.toNat_ofNat']
    omega
theorem toldP_app (M nl : Nat) (h : M < 16384) (hnl : nl ≤ M) (r : List UInt8) : toldP (lowB (16384 + M) 2 ++ r, 0) nl = (M - nl, (r, 0)) := by
  unfold toldP
  rw [low_told M h, varintP_app M 1 (by omega) (by simpa using h)]
  simp only
  rw [if_neg (by omega)]
theorem endP_ok (h : Hdr) (len : Nat) (r : List UInt8) (bh : Nat) (hb : bh ≤ r.length) : endP h len (r, 0) bh = ((h, len - r.length, bh), 0) := by
  unfold endP
  rw [expectP_ok _ _ hb]
  rfl
/-- what a byte tells, one by one -/
theorem first_long (k nl : Nat) (hk : k = 0 ∨ k = 2) (h1 : 1 ≤ nl) (h4 : nl ≤ 4) (b : Nat) (hb : b = 192 + 16 * k + (nl - 1)) : longB b = true ∧ kindB b = k ∧ spinB b = false ∧ phaseB b = false ∧ nlB b = nl ∧ badB b = false ∧ b < 256 := by
  have h : (nl = 1 ∨ nl = 2 ∨ nl = 3 ∨ nl = 4) := by omega
  subst hb
  rcases hk with rfl | rfl <;> rcases h with rfl | rfl | rfl | rfl <;> decide
theorem first_short (S P : Bool) (nl : Nat) (h1 : 1 ≤ nl) (h4 : nl ≤ 4) (b : Nat) (hb : b = 64 + (if S = true then 32 else 0) + (if P = true then 4 else 0) + (nl - 1)) : longB b = false ∧ kindB b = 0 ∧ spinB b = S ∧ phaseB b = P ∧ nlB b = nl ∧ badB b = false ∧ b < 256 := by
  have h : (nl = 1 ∨ nl = 2 ∨ nl = 3 ∨ nl = 4) := by omega
  subst hb
  cases S <;> cases P <;> rcases h with rfl | rfl | rfl | rfl <;> decide
theorem firstP_one (b : Nat) (hb : b < 256) (hbad : badB b = false) (r : List UInt8) : firstP (UInt8.ofNat b :: r, 0) = (b, (r, 0)) := by
  unfold firstP
  have e : (UInt8.ofNat b).toNat = b := by simp only [UInt8.toNat_ofNat']; omega
  rw [wholeP_one, e]
  simp only
  rw [if_neg (by simp [hbad])]
theorem get_putL (k ver nl num rest : Nat) (dst src tok tail : List UInt8) (hk : k = 0 ∨ k = 2) (hv : ver < 4294967296) (h1 : 1 ≤ nl) (h4 : nl ≤ 4) (hr : rest + nl ≤ 16383) (hd : dst.length = 8) (hs : src.length ≤ 20) (ht : tok.length ≤ 100) (ht2 : k = 2 → tok = []) (htl : rest ≤ tail.length) :
    getP (putLV k ver nl num rest dst src tok ++ tail) = ((⟨true, k, ver, dst, src, tok, false, false, num % 256 ^ nl, nl⟩, (putLV k ver nl num rest dst src tok).length, rest), 0) := by
  obtain ⟨b, hb⟩ : ∃ b, 192 + 16 * k + (nl - 1) = b := ⟨_, rfl⟩
  obtain ⟨f1, f2, f3, f4, f5, f6, f7⟩ := first_long k nl hk h1 h4 b hb.symm
  have hlen : ∀ X : List UInt8, (X ++ tail).length - tail.length = X.length := fun X => by simp
  have key : ∀ (T : List UInt8), (∃ t5, nameP (nameP (wholeP (lowB ver 4 ++ (UInt8.ofNat dst.length :: (dst ++ (UInt8.ofNat src.length :: (src ++ T)))), 0) 4).2 8 8).2 0 20 = (src, (T, 0)) ∧ nameP (wholeP (lowB ver 4 ++ (UInt8.ofNat dst.length :: (dst ++ (UInt8.ofNat src.length :: (src ++ T)))), 0) 4).2 8 8 = (dst, t5) ∧ (wholeP (lowB ver 4 ++ (UInt8.ofNat dst.length :: (dst ++ (UInt8.ofNat src.length :: (src ++ T)))), 0) 4).1 = ver) := fun T => by
    rw [wholeP_low, nameP_app dst _ 8 8 (by omega) (by omega) (by omega), nameP_app src T 0 20 (by omega) (by omega) (by omega)]
    exact ⟨_, rfl, rfl, by simp only; omega⟩
  have tail_ok : ∀ L : List UInt8, tailP (L ++ tail).length b ver dst src tok (lowB (16384 + (rest + nl)) 2 ++ (lowB num nl ++ tail), 0) = ((⟨true, k, ver, dst, src, tok, false, false, num % 256 ^ nl, nl⟩, L.length, rest), 0) := fun L => by
    unfold tailP
    rw [f5, toldP_app (rest + nl) nl (by omega) (by omega)]
    simp only
    rw [wholeP_low]
    simp only [f1, f2, f3, f4]
    rw [show rest + nl - nl = rest by omega, endP_ok _ _ _ _ htl, hlen]
  unfold getP
  rcases hk with rfl | rfl
  · obtain ⟨L, hL⟩ : ∃ L, putLV 0 ver nl num rest dst src tok = L := ⟨_, rfl⟩
    have e : putLV 0 ver nl num rest dst src tok ++ tail = UInt8.ofNat b :: (lowB ver 4 ++ (UInt8.ofNat dst.length :: (dst ++ (UInt8.ofNat src.length :: (src ++ (enc tok.length ++ (tok ++ (lowB (16384 + (rest + nl)) 2 ++ (lowB num nl ++ tail))))))))) := by
      unfold putLV
      rw [if_pos rfl, hb]
      simp
    have ef : firstP (putLV 0 ver nl num rest dst src tok ++ tail, 0) = (b, (lowB ver 4 ++ (UInt8.ofNat dst.length :: (dst ++ (UInt8.ofNat src.length :: (src ++ (enc tok.length ++ (tok ++ (lowB (16384 + (rest + nl)) 2 ++ (lowB num nl ++ tail)))))))), 0)) := by rw [e]; exact firstP_one b f7 f6 _
    rw [ef]
    simp only [f1, if_true]
    unfold longP
    obtain ⟨t5, q1, q2, q3⟩ := key (enc tok.length ++ (tok ++ (lowB (16384 + (rest + nl)) 2 ++ (lowB num nl ++ tail))))
    simp only [q1, q3]
    rw [f2, if_neg (by omega), tokenP_app tok _ ht, q2]
    exact tail_ok _
  · obtain rfl := ht2 rfl
    have e : putLV 2 ver nl num rest dst src [] ++ tail = UInt8.ofNat b :: (lowB ver 4 ++ (UInt8.ofNat dst.length :: (dst ++ (UInt8.ofNat src.length :: (src ++ (lowB (16384 + (rest + nl)) 2 ++ (lowB num nl ++ tail))))))) := by
      unfold putLV
      rw [if_neg (by omega), hb]
      simp
    have ef : firstP (putLV 2 ver nl num rest dst src [] ++ tail, 0) = (b, (lowB ver 4 ++ (UInt8.ofNat dst.length :: (dst ++ (UInt8.ofNat src.length :: (src ++ (lowB (16384 + (rest + nl)) 2 ++ (lowB num nl ++ tail)))))), 0)) := by rw [e]; exact firstP_one b f7 f6 _
    rw [ef]
    simp only [f1, if_true]
    unfold longP
    obtain ⟨t5, q1, q2, q3⟩ := key (lowB (16384 + (rest + nl)) 2 ++ (lowB num nl ++ tail))
    simp only [q1, q3]
    rw [f2, if_pos rfl, q2]
    exact tail_ok _
theorem get_putS (S P : Bool) (nl num : Nat) (dst tail : List UInt8) (h1 : 1 ≤ nl) (h4 : nl ≤ 4) (hd : dst.length = 8) :
    getP (putSV S P nl num dst ++ tail) = ((⟨false, 0, 0, dst, [], [], S, P, num % 256 ^ nl, nl⟩, (putSV S P nl num dst).length, tail.length), 0) := by
  obtain ⟨b, hb⟩ : ∃ b, 64 + (if S = true then 32 else 0) + (if P = true then 4 else 0) + (nl - 1) = b := ⟨_, rfl⟩
  obtain ⟨f1, f2, f3, f4, f5, f6, f7⟩ := first_short S P nl h1 h4 b hb.symm
  have e : putSV S P nl num dst ++ tail = UInt8.ofNat b :: (dst ++ (lowB num nl ++ tail)) := by
    unfold putSV
    rw [hb]
    simp
  unfold getP
  have ef : firstP (putSV S P nl num dst ++ tail, 0) = (b, (dst ++ (lowB num nl ++ tail), 0)) := by rw [e]; exact firstP_one b f7 f6 _
  rw [ef]
  simp only [f1]
  rw [if_neg (by simp)]
  unfold shortP
  rw [bytesP_app dst _ 8 hd]
  simp only
  rw [f5, wholeP_low]
  simp only [f1, f2, f3, f4]
  rw [endP_ok _ _ _ _ (Nat.le_refl _)]
  simp
end Go.Proofs.Ytonoljcgcfjkmaa
