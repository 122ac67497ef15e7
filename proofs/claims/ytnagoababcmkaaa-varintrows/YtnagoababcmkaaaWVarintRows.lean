/-
  The walk of VarintRows: numbers one behind the other.
-/
import Derived.Test.YtnagoababcmkaaaVarintD
import Derived.Deep.Onto
namespace Go.Proofs.Ytnagoababcmkaaa
open Go.RowKit
set_option linter.unusedVariables false

/-- numbers laid one behind the other, and how many bytes they have -/
def encs (l : List Nat) : List UInt8 := (l.map enc).flatten
def lens (l : List Nat) : Nat := (l.map lenV).sum
theorem enc_length (v : Nat) : (enc v).length = lenV v := by
  unfold enc
  by_cases h : v < 4611686018427387904
  · rw [if_pos h, encV_length]
    rcases cls_cases v with h | h | h | h | h
    · rw [h.2.1, h.2.2]
    · rw [h.2.2.1, h.2.2.2]
    · rw [h.2.2.1, h.2.2.2]
    · rw [h.2.2.1, h.2.2.2]
    · omega
  · rw [if_neg h]
    have := cls_cases v
    simp; omega
theorem lenV_le (v : Nat) : lenV v ≤ 8 := by have := cls_cases v; omega
theorem encs_snoc (l : List Nat) (z : Nat) : encs (l ++ [z]) = encs l ++ enc z := by simp [encs]
theorem lens_snoc (l : List Nat) (z : Nat) : lens (l ++ [z]) = lens l + lenV z := by simp [lens]
theorem lens_le (l : List Nat) : lens l ≤ 8 * l.length := by
  induction l with
  | nil => simp [lens]
  | cons z l ih =>
    have := lenV_le z
    simp only [lens, List.map_cons, List.sum_cons, List.length_cons] at ih ⊢
    omega
theorem encs_cons (z : Nat) (l : List Nat) : encs (z :: l) = enc z ++ encs l := by simp [encs]
theorem getV_rest (z : Nat) (hz : z < 4611686018427387904) (r : List UInt8) : getV (enc z ++ r) = (z, lenV z, 0) := by
  obtain ⟨k, s, hk, hs, he, hks, hr⟩ := small_cases z hz
  obtain ⟨h2, h3⟩ := two_pow_of hks
  rw [he, hs, h2]
  exact getV_enc z k h3 hr r

/-- a slice of numbers reads as l -/
def Sn (w : World) (B : Nat) (A : Option Addr) (n : Nat) (l : List Nat) : Prop :=
  l.length = n ∧ (∀ z ∈ l, z < 18446744073709551616) ∧ (0 < n → ∃ b off, A = some ⟨b, off, none⟩ ∧ b < B ∧ ∀ j, (h : j < l.length) → w.cell? ⟨b, off + j, none⟩ = some (.int .u64 (l[j] : Int)))
theorem Sn.below {w w' : World} {B n : Nat} {A : Option Addr} {l : List Nat} (h : Sn w B A n l) (hb : Below B w w') : Sn w' B A n l :=
  ⟨h.1, h.2.1, fun hn => by
    obtain ⟨b, off, e, hB, hc⟩ := h.2.2 hn
    exact ⟨b, off, e, hB, fun j hj => (hb.cell hB).trans (hc j hj)⟩⟩
theorem sn_of_row {w : World} {a : Option Addr} {len cap : Nat} {zs : List Int}
    (h : (a = none ∧ len = 0 ∧ cap = 0 ∧ zs = []) ∨ ∃ x, a = some x ∧ len ≤ cap ∧ cap ≤ maxLen ∧ zs.length = cap ∧ (∀ i, i < zs.length → w.cell? (x.add i) = some (.int .u64 (zs.getD i 0))) ∧ ∀ n ∈ zs, (Lit.int .u64 n).wf = true) :
    ∃ l, Sn w w.heap.size a len l ∧ len ≤ cap ∧ cap ≤ maxLen := by
  rcases h with ⟨rfl, rfl, rfl, rfl⟩ | ⟨x, rfl, hl, hm, hz, hcell, hwf⟩
  · exact ⟨[], ⟨rfl, by simp, fun h => absurd h (by omega)⟩, Nat.le_refl _, by simp [maxLen]⟩
  · have hw : ∀ z ∈ zs, 0 ≤ z ∧ z ≤ 18446744073709551615 := fun z hz => by
      simpa [Lit.wf, IntKind.min, IntKind.max, IntKind.signed, IntKind.bits] using hwf z hz
    refine ⟨(zs.take len).map (fun z => z.toNat), ⟨by simp; omega, ?_, fun h0 => ?_⟩, hl, hm⟩
    · intro z hz
      obtain ⟨y, hy, rfl⟩ := List.mem_map.1 hz
      have := hw y (List.mem_of_mem_take hy)
      omega
    · have hc0 := hcell 0 (by omega)
      obtain ⟨b, off, spot⟩ := x
      have hspot : spot = none := by simpa [Addr.add] using World.cell?_spot hc0
      subst hspot
      refine ⟨b, off, rfl, World.block_lt_of_cell? w _ (by simpa [Addr.add] using hc0), fun j hj => ?_⟩
      simp only [List.length_map, List.length_take] at hj
      have hjz : j < zs.length := by omega
      have hc := hcell j hjz
      have hadd : (⟨b, off, none⟩ : Addr).add j = ⟨b, off + j, none⟩ := by unfold Addr.add; split <;> simp_all
      rw [hadd] at hc
      have hb := hw (zs[j]) (List.getElem_mem hjz)
      have e : zs.getD j 0 = zs[j] := by simp [hjz]
      rw [hc, e]
      simp only [List.getElem_map, List.getElem_take]
      rw [Int.toNat_of_nonneg hb.1]

set_option maxHeartbeats 400000 in
theorem rows_long (A : Option Addr) (n c : Nat) (w : World) (h : 20 < n) :
    Calls Try.prog 7 #[.slice A n c] w fun e w' => e = .returned (.bool true) ∧ Below w.heap.size w w' := by
  have t1 : decide ((20 : Int) < (n : Int)) = true := by simp; omega
  clear h
  go_enter Try.func7, Try.ntmps7
  go_wp2_with ((with_reducible refine (awake_any _).mono ?_); rintro e w1 ⟨rfl, hb⟩)
  go_ret
  exact ⟨rfl, hb⟩

set_option maxHeartbeats 1000000 in
theorem rows_short (A : Option Addr) (n c : Nat) (l : List Nat) (w : World) (h : Sn w w.heap.size A n l) (hn : n ≤ 20) :
    Calls Try.prog 7 #[.slice A n c] w fun e w' => e = .returned (.bool true) ∧ Below w.heap.size w w' := by
  have t1 : decide ((20 : Int) < (n : Int)) = false := by simp; omega
  have hl := h.1
  have H := Lib.hid h
  have Hl := Lib.hid hl
  clear h hl
  go_enter Try.func7, Try.ntmps7
  go_wp2_with fail
  go_loopw [3, 4, 5] (fun b lg i wr => ∃ (j m : Nat) (A' : Option Addr) (c' : Nat), j ≤ n ∧ i = .int .i64 j ∧ b = .slice A' m c' ∧ lg = .int .i64 m ∧ m ≤ 8 * j ∧ Hid (m = lens (l.take j)) ∧
      Hid (Own wr w.heap.size (.slice A' m c') m (encs (l.take j))) ∧ m ≤ c' ∧ c' ≤ maxLen ∧ Below w.heap.size w wr) (fun _ _ i _ => n - (intOf i).toNat)
  case atStart => exact ⟨0, 0, none, 0, by omega, rfl, rfl, rfl, by omega, rfl, Own.nil _ _, by omega, by simp [maxLen], Below.refl _ _⟩
  case round =>
    obtain ⟨j, m, A', c', hj, rfl, rfl, rfl, hm8, HM, HO, hmc, hcm, hbr⟩ := hrel
    by_cases hlt : j < n
    · have hjl : j < l.length := by have := Hl.out; omega
      obtain ⟨bb, off, rfl, hbB, hcell⟩ := (H.out.below hbr).2.2 (by omega)
      obtain ⟨z, hz⟩ : ∃ z, l[j] = z := ⟨_, rfl⟩
      have hz64 : z < 18446744073709551616 := by rw [← hz]; exact H.out.2.1 _ (List.getElem_mem hjl)
      have hcj : wr.cell? ⟨bb, off + j, none⟩ = some (.int .u64 (z : Int)) := by rw [← hz]; exact hcell j hjl
      have hlz := lenV_le z
      have Hz := Lib.hid hz
      clear hcell hz
      go_wp2_with fail
      (with_reducible refine (put_any (encs (l.take j)) A' m c' _ z _ HO.out.sl (Nat.le_refl _) (by omega) hz64).mono ?_)
      rintro e w1 ⟨B1, d1, rfl, ho1, hle1, hd1, hb1⟩
      have hcj1 : w1.cell? ⟨bb, off + j, none⟩ = some (.int .u64 (z : Int)) := (hb1.cell (by have := hbr.size; simp; omega)).trans hcj
      go_wp2_with fail
      (with_reducible refine (len_any z _ hz64).mono ?_)
      rintro e w' ⟨rfl, rfl⟩
      go_wp2
      go_roundw
      case rel =>
        have et : l.take (j + 1) = l.take j ++ [z] := by rw [List.take_succ_eq_append_getElem hjl, Hz.out]
        refine ⟨j + 1, m + lenV z, B1, d1, by omega, by go_num, rfl, by go_num, by omega, ?_, ?_, hle1, hd1, hbr.trans (hb1.mono hbr.size)⟩
        · show _ = _
          rw [et, lens_snoc, ← HM.out]
        · show Own _ _ _ _ _
          rw [et, encs_snoc]
          exact World.ownsRow.mono ho1 hbr.size
      case measure => simp [intOf]; omega
    · obtain rfl : j = n := by omega
      have hmm : ((m : Int) != (m : Int)) = false := by simp
      go_wp2_with fail
      have HS : Hid (Sl wr wr.heap.size A' m (encs (l.drop 0))) := by
        have h := HO.out.sl
        rwa [List.take_of_length_le (by have := Hl.out; omega)] at h
      have HN := Lib.hid (H.out.below hbr)
      clear HO HM hmm
      go_loop [2, 3, 6, 7, 8, 9] (fun r b i _ _ _ => ∃ (k m : Nat) (A' : Option Addr) (c' : Nat), k ≤ j ∧ i = .int .i64 k ∧ b = .slice A' m c' ∧ r = .bool false ∧
          Hid (Sl wr wr.heap.size A' m (encs (l.drop k))) ∧ m ≤ c' ∧ c' ≤ maxLen) (fun _ _ i _ _ _ => j - (intOf i).toNat)
      case atStart => exact ⟨0, m, A', c', by omega, rfl, rfl, rfl, HS, hmc, hcm⟩
      case round =>
        obtain ⟨k, m1, A1, c1, hk, rfl, rfl, rfl, HS1, hmc1, hcm1⟩ := hrel
        by_cases hkn : k < j
        · have hkl : k < l.length := by have := Hl.out; omega
          obtain ⟨bb, off, rfl, hbB, hcell⟩ := HN.out.2.2 (by omega)
          obtain ⟨z, hz⟩ : ∃ z, l[k] = z := ⟨_, rfl⟩
          have hz64 : z < 18446744073709551616 := by rw [← hz]; exact HN.out.2.1 _ (List.getElem_mem hkl)
          have hcj : wr.cell? ⟨bb, off + k, none⟩ = some (.int .u64 (z : Int)) := by rw [← hz]; exact hcell k hkl
          have ed : encs (l.drop k) = enc z ++ encs (l.drop (k + 1)) := by
            rw [List.drop_eq_getElem_cons hkl, encs_cons, hz]
          have hS := HS1.out
          rw [ed] at hS
          clear hcell hz ed HS1
          by_cases hbig : z < 4611686018427387904
          · have hgt : decide ((4611686018427387903 : Int) < (z : Int)) = false := by simp; omega
            have hg := getV_rest z hbig (encs (l.drop (k + 1)))
            have hlz : 1 ≤ lenV z := by have := cls_cases z; omega
            have hm1 : m1 = lenV z + (encs (l.drop (k + 1))).length := by have := hS.1; rw [List.length_append, enc_length] at this; omega
            have hle1 : lenV z ≤ m1 := by omega
            have hD := hS.drop hle1 hmc1
            rw [List.drop_left' (enc_length z)] at hD
            have HS' := Lib.hid hS
            have HD := Lib.hid hD
            have HG := Lib.hid hg
            obtain ⟨ab, aoff, rfl, _, _⟩ := hS.2 (by omega)
            generalize lenV z = s at *
            clear hS hD hg hm1
            have q1 : ((z : Int) != (z : Int)) = false := by simp
            have q2 : decide ((s : Int) < 1) = false := by simp; omega
            have q3 : decide (m1 < s) = false := by simp; omega
            by_cases hcs : c1 = s
            · subst hcs
              have h := HD.out
              rw [if_pos rfl, show m1 - c1 = 0 by omega] at h
              have HD' := Lib.hid h
              clear h HD
              go_wp2_with fail
              (with_reducible refine (get_is (enc z ++ encs (l.drop (k + 1))) z c1 0 _ m1 _ _ _ HS'.out hmc1 hcm1 (by simp [HG.out]) (by simp [HG.out]) (by simp [HG.out])).mono ?_)
              rintro e w' ⟨rfl, rfl⟩
              go_wp2
              go_round
              case rel =>
                exact ⟨k + 1, 0, _, 0, by omega, by go_num, rfl, rfl, HD', by omega, by simp [maxLen]⟩
              case measure => simp [intOf]; omega
            · have h := HD.out
              rw [if_neg hcs] at h
              have hadd : (some (⟨ab, aoff, none⟩ : Addr)).map (·.add s) = some ⟨ab, aoff + s, none⟩ := by simp only [Option.map_some, Addr.add]; split <;> simp_all
              rw [hadd] at h
              have HD' := Lib.hid h
              clear h hadd
              go_wp2_with fail
              (with_reducible refine (get_is (enc z ++ encs (l.drop (k + 1))) z s 0 _ m1 _ _ _ HS'.out hmc1 hcm1 (by simp [HG.out]) (by simp [HG.out]) (by simp [HG.out])).mono ?_)
              rintro e w' ⟨rfl, rfl⟩
              go_wp2
              go_round
              case rel => exact ⟨k + 1, m1 - s, _, _, by omega, by go_num, rfl, rfl, HD', by omega, by omega⟩
              case measure => simp [intOf]; omega
          · have hgt : decide ((4611686018427387903 : Int) < (z : Int)) = true := by simp; omega
            have he : enc z = [] := by unfold enc; rw [if_neg hbig]
            rw [he, List.nil_append] at hS
            have HS' := Lib.hid hS
            clear hS he
            go_wp2
            go_round
            case rel => exact ⟨k + 1, m1, A1, c1, by omega, by go_num, rfl, rfl, HS', hmc1, hcm1⟩
            case measure => simp [intOf]; omega
        · obtain rfl : k = j := by omega
          have hS := HS1.out
          rw [List.drop_of_length_le (by have := Hl.out; omega)] at hS
          obtain rfl : m1 = 0 := by have := hS.1; simpa [encs] using this.symm
          have HS' := Lib.hid hS
          clear hS
          go_wp2_with fail
          (with_reducible refine (get_empty A1 c1 _).mono ?_)
          rintro e w' ⟨rfl, rfl⟩
          go_wp2_with fail
          (with_reducible refine (awake_any _).mono ?_)
          rintro e w5 ⟨rfl, hb5⟩
          go_wp2
          go_ret
          exact ⟨rfl, hbr.trans (hb5.mono hbr.size)⟩
end Go.Proofs.Ytnagoababcmkaaa
