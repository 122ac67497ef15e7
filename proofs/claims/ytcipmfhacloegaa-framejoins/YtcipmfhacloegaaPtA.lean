/-
  What is left to read, part by part: the contracts of package parts: Fail, Expect, Bytes, Whole, Varint.
-/
import Derived.Test.YtcipmfhacloegaaHdP
import Derived.Test.YtcipmfhacloegaaRwW
import Derived.Test.YtcipmfhacloegaaBlkW
import Derived.Test.YtcipmfhacloegaaBase
import Derived.Test.YtcipmfhacloegaaOwnW
namespace Go.Proofs.Ytcipmfhacloegaa
open Go.RowKit
set_option linter.unusedVariables false

theorem wrap_u64N (n : Int) : IntKind.u64.wrap n = n % 18446744073709551616 := by simp [IntKind.wrap, IntKind.bits, IntKind.signed]
theorem run_cut_bytesU (u : World) (A : Option Addr) (n c k : Nat) (hk : k ≤ n) (hc : n ≤ c) :
    (Instr.slice 24 (.slice A n c) (some (.int .u64 (k : Int))) none none).run Try.prog u = .ok (.slice (if c = k then A else A.map (·.add k)) (n - k) (c - k)) u := by
  obtain ⟨i, hi, hz0, hz1, hz2⟩ := info_parts byte_info
  have he : Try.prog.elem 24 = 5 := by simp [Program.elem, Try.underlying24]
  have h := run_slice_l (P := Try.prog) u 24 A n c (by rw [he]; exact Try.underlying24) .u64 (k : Int) (by omega) (by omega)
  rw [h, he]
  simp [sizeOf, typeInfo, hi, hz1, sliced]
theorem run_cut_toU (u : World) (A : Option Addr) (n c hi : Nat) (h2 : hi ≤ c) :
    (Instr.slice 24 (.slice A n c) none (some (.int .u64 (hi : Int))) none).run Try.prog u = .ok (.slice (if c = 0 then A else A.map (·.add 0)) hi c) u := by
  obtain ⟨i, hi', hz0, hz1, hz2⟩ := info_parts byte_info
  have he : Try.prog.elem 24 = 5 := by simp [Program.elem, Try.underlying24]
  have h := run_slice_h (P := Try.prog) u 24 A n c (by rw [he]; exact Try.underlying24) .u64 (hi : Int) (by omega) (by omega)
  rw [h, he]
  simp [sizeOf, typeInfo, hi', hz1, sliced]
/-- a variable that opens with what is left to read, at block g: what is left reads as s.1, in memory below B; the code is s.2 -/
def PtW (w : World) (B g : Nat) (s : List UInt8 × Nat) : Prop :=
  ∃ T A n c, Rw w g T [.slice A n c, .int .i64 (s.2 : Int)] ∧ Sl w B A n s.1 ∧ n ≤ c ∧ c ≤ maxLen ∧ B ≤ g
theorem PtW.lt {w : World} {B g : Nat} {s : List UInt8 × Nat} (h : PtW w B g s) : g < w.heap.size := by
  obtain ⟨T, A, n, c, hr, _⟩ := h
  exact hr.lt
theorem PtW.only {w w' : World} {B g g' : Nat} {s : List UInt8 × Nat} (h : PtW w B g s) (ho : Only g' w w') (hne : g ≠ g') (hB : B ≤ g') : PtW w' B g s := by
  have hlt := h.lt
  obtain ⟨T, A, n, c, hr, hs, h1, h2, h3⟩ := h
  exact ⟨T, A, n, c, hr.only ho hne, hs.keep fun p hp => World.cell?_of_block (ho.block p.block (by omega) (by omega)), h1, h2, h3⟩
theorem PtW.below {w w' : World} {B g : Nat} {s : List UInt8 × Nat} (h : PtW w B g s) (hb : Below w.heap.size w w') : PtW w' B g s := by
  have hlt := h.lt
  obtain ⟨T, A, n, c, hr, hs, h1, h2, h3⟩ := h
  exact ⟨T, A, n, c, hr.below hb, hs.below ⟨hb.os, hb.tape, hb.output, hb.size, fun k hk => hb.block k (by omega)⟩, h1, h2, h3⟩

theorem fail_any (s : List UInt8 × Nat) (K : Int) (k : Nat) (hK : K = (k : Int)) (B g : Nat) (w : World) (h : PtW w B g s) :
    Calls Try.prog 62 #[.pointer (some ⟨g, 0, none⟩), .int .i64 K] w fun e w' => e = .returned (.tuple #[]) ∧ PtW w' B g (failP s k) ∧ Only g w w' := by
  obtain ⟨l, cd⟩ := s
  obtain ⟨T, A, n, c, hr, hs, h1, h2, h3⟩ := h
  have c0 := hr.cell 0 _ rfl
  have c1 := hr.cell 1 _ rfl
  have f0 := hr.frozen 0
  have f1 := hr.frozen 1
  have HR := Lib.hid hr
  have HB := Lib.hid h3
  clear hr hs h1 h2 h3
  simp only at c0 c1
  by_cases hz : cd = 0
  · subst hz
    go_enter Try.func62, Try.ntmps62
    go_wp2
    refine bodyPost_end (results_none rfl _ _ _) rfl ?_
    refine ⟨rfl, ⟨T, none, 0, 0, ?_, Sl.nil, Nat.le_refl _, by simp [maxLen], HB.out⟩, ((Only.refl g w).setCell _ _).setCell _ _⟩
    simpa [failP, hK] using (HR.out.put 1 (.int .i64 K)).put 0 (.slice none 0 0)
  · have t1 : ((cd : Int) == 0) = false := by simp; omega
    have Hz := Lib.hid hz
    clear hz
    go_enter Try.func62, Try.ntmps62
    go_wp2
    refine bodyPost_end (results_none rfl _ _ _) rfl ?_
    refine ⟨rfl, ⟨T, none, 0, 0, ?_, Sl.nil, Nat.le_refl _, by simp [maxLen], HB.out⟩, (Only.refl g w).setCell _ _⟩
    simpa [failP, Hz.out] using HR.out.put 0 (.slice none 0 0)

theorem expect_any (s : List UInt8 × Nat) (K : Int) (k : Nat) (hK : K = (k : Int)) (hk : k < 18446744073709551616) (B g : Nat) (w : World) (h : PtW w B g s) :
    Calls Try.prog 63 #[.pointer (some ⟨g, 0, none⟩), .int .u64 K] w fun e w' => e = .returned (.tuple #[]) ∧ PtW w' B g (expectP s k) ∧ Only g w w' := by
  subst hK
  have HF := Lib.hid (fail_any s 3 3 rfl B g w h)
  have H := Lib.hid h
  obtain ⟨l, cd⟩ := s
  obtain ⟨T, A, n, c, hr, hs, h1, h2, h3⟩ := h
  have c0 : w.cell? ⟨g, 0, none⟩ = some (.slice A n c) := hr.cell 0 _ rfl
  have hl := hs.1
  simp only at hl
  have hn63 : n ≤ 9223372036854775807 := by unfold maxLen at h2; omega
  clear hr hs h1 h2 h3
  by_cases hlt : n < k
  · have e : expectP (l, cd) k = failP (l, cd) 3 := by unfold expectP; rw [if_pos (by simp only; omega)]
    rw [e]
    clear hl e
    go_enter Try.func63, Try.ntmps63
    go_wp2_with ((with_reducible refine HF.out.mono ?_); rintro e w' ⟨rfl, hp, ho⟩)
    refine bodyPost_end (results_none rfl _ _ _) rfl ?_
    exact ⟨rfl, hp, ho⟩
  · have e : expectP (l, cd) k = (l, cd) := by unfold expectP; rw [if_neg (by simp only; omega)]
    rw [e]
    clear hl e
    go_enter Try.func63, Try.ntmps63
    go_wp2_with fail
    refine bodyPost_end (results_none rfl _ _ _) rfl ?_
    exact ⟨rfl, H.out, Only.refl _ _⟩

/-- what a call answers that reads bytes of parts: m bytes of its own -/
def Reads (w : World) (B g : Nat) (r : List UInt8 × (List UInt8 × Nat)) (e : Ending) (w' : World) : Prop :=
  ∃ A m c, e = .returned (.slice A m c) ∧ Own w' w.heap.size (.slice A m c) m r.1 ∧ m ≤ c ∧ c ≤ maxLen ∧ PtW w' B g r.2 ∧ Only g w w'

set_option maxHeartbeats 1000000 in
theorem bytes_any (s : List UInt8 × Nat) (K : Int) (k : Nat) (hK : K = (k : Int)) (hk : k < 18446744073709551616) (hk1 : k ≤ 1000000 ∨ s.1.length ≤ 1000000) (B g : Nat) (w : World) (h : PtW w B g s) :
    Calls Try.prog 44 #[.pointer (some ⟨g, 0, none⟩), .int .u64 K] w (Reads w B g (bytesP s k)) := by
  subst hK
  have HE := Lib.hid (expect_any s (k : Int) k rfl (by omega) B g w h)
  obtain ⟨⟨l1, q⟩, hq⟩ : ∃ v, expectP s k = v := ⟨_, rfl⟩
  have hlen : q = 0 → k ≤ l1.length ∧ k ≤ 1000000 := fun h0 => by
    obtain ⟨h1, h2⟩ := expect_len s k (by rw [hq]; exact h0)
    rw [h2] at h1
    rw [h2] at hq
    have h3 : l1 = s.1 := by rw [hq]
    rw [h3]
    exact ⟨h1, by omega⟩
  have e : bytesP s k = if q = 0 then (l1.take k, (l1.drop k, q)) else ([], (l1, q)) := by unfold bytesP; rw [hq]
  rw [e]
  rw [hq] at HE
  clear hq e h
  by_cases hz : q = 0
  · subst hz
    rw [if_pos rfl]
    obtain ⟨hkl, hk6⟩ := hlen rfl
    clear hlen
    go_enter Try.func44, Try.ntmps44
    go_wp2_with fail
    (with_reducible refine HE.out.mono ?_)
    rintro e1 w1 ⟨rfl, ⟨T, A, n, c, hr, hs, h1, h2, h3⟩, ho⟩
    have hn := hs.1
    simp only at hn hs hr
    have c0 := hr.cell 0 _ rfl
    have c1 : w1.cell? ⟨g, 1, none⟩ = some (.int .i64 0) := hr.cell 1 _ rfl
    have f0 := hr.frozen 0
    have HR := Lib.hid hr
    have HO := Lib.hid ho
    have HB := Lib.hid h3
    have HC : Hid (n ≤ c ∧ c ≤ maxLen) := ⟨h1, h2⟩
    have hkn : k ≤ n := by omega
    obtain ⟨A1, eA1⟩ : ∃ v, (if c = 0 then A else A.map (·.add 0)) = v := ⟨_, rfl⟩
    obtain ⟨A2, eA2⟩ : ∃ v, (if c = k then A else A.map (·.add k)) = v := ⟨_, rfl⟩
    have hcA : ∀ u : World, (Instr.slice 24 (.slice A n c) none (some (.int .u64 (k : Int))) none).run Try.prog u = .ok (.slice A1 k c) u := fun u => by
      rw [run_cut_toU u A n c k (by omega), eA1]
    have hcB : ∀ u : World, (Instr.slice 24 (.slice A n c) (some (.int .u64 (k : Int))) none none).run Try.prog u = .ok (.slice A2 (n - k) (c - k)) u := fun u => by
      rw [run_cut_bytesU u A n c k hkn h1, eA2]
    have HS1 : Hid (Sl w1 B A1 k (l1.take k)) := by
      have h1' := hs.take hkn
      refine ⟨h1'.1, fun h0 => ?_⟩
      obtain ⟨b', off', e, hb', hc'⟩ := h1'.2 h0
      subst e
      exact ⟨b', off', by rw [← eA1, if_neg (by omega)]; simp [addr_add], hb', hc'⟩
    have HS2 : Hid (Sl w1 B A2 (n - k) (l1.drop k)) := by
      have h1' := hs.drop hkn h1
      rwa [eA2] at h1'
    have Hn := Lib.hid hn
    have Hkl := Lib.hid hkl
    have HBw : Hid (B ≤ w1.heap.size) := Nat.le_trans h3 (Nat.le_of_lt hr.lt)
    have HG : Hid (g < w1.heap.size) := hr.lt
    clear hr ho h1 h2 h3 eA1 eA2 hs hn hkl
    go_wp2_with (at_builtin; refine wpList_append_bytes rfl _ _ rfl w1.heap.size (.slice none 0 0) 0 [] rfl (Own.nil _ _) B A1 k c (l1.take k) rfl HS1.out (by omega) (Nat.le_refl _) w1 (Below.refl _ _) ?_; intro A3 c3 w3 ho3 hle3 hc3 hg3 hb3; have R3 := Lib.hid (HR.out.below hb3); have c03 := R3.out.cell 0 _ rfl; have f03 := R3.out.frozen 0)
    go_ret
    simp only [Nat.zero_add, List.nil_append] at ho3 hle3
    have hw := (Only.refl g w3).setCell 0 (.slice A2 (n - k) (c - k))
    have hg3 : g < w3.heap.size := R3.out.lt
    refine ⟨A3, k, c3, by simp, ?_, hle3, hc3, ⟨T, A2, n - k, c - k, ?_, ?_, by have := HC.out; omega, by have := HC.out; omega, HB.out⟩, (HO.out.trans (Only.of_below hb3)).trans hw⟩
    · exact (Own.onlyA ho3 hw fun a ha => by have := (ho3.blk a ha).1; have := HG.out; omega).base HO.out.size
    · simpa using R3.out.put 0 (.slice A2 (n - k) (c - k))
    · exact (HS2.out.below (hb3.mono HBw.out)).only hw HB.out hg3
  · rw [if_neg hz]
    have t1 : ((q : Int) != 0) = true := by simp; omega
    clear hlen hz
    go_enter Try.func44, Try.ntmps44
    go_wp2_with fail
    (with_reducible refine HE.out.mono ?_)
    rintro e1 w1 ⟨rfl, hp, ho⟩
    have HP := Lib.hid hp
    have HO := Lib.hid ho
    obtain ⟨T, A, n, c, hr, hs, h1, h2, h3⟩ := hp
    have c1 := hr.cell 1 _ rfl
    simp only at c1
    clear hr hs h1 h2 h3 ho
    go_wp2_with fail
    go_ret
    exact ⟨none, 0, 0, rfl, Own.nil _ _, Nat.le_refl _, by simp [maxLen], HP.out, HO.out⟩
theorem bytesP_len (s : List UInt8 × Nat) (k : Nat) : (bytesP s k).1.length ≤ k := by
  unfold bytesP
  split
  · simp only [List.length_take]; omega
  · simp
theorem wholeP_lt (s : List UInt8 × Nat) (k : Nat) : (wholeP s k).1 < 256 ^ k := by
  have h := beN_lt 0 (bytesP s k).1 1 (by omega)
  rw [Nat.one_mul] at h
  exact Nat.lt_of_lt_of_le h (Nat.pow_le_pow_right (by omega) (bytesP_len s k))
theorem whole_step {w : World} {b off j : Nat} {L : List UInt8} (hj : j < L.length) (hL : L.length ≤ 7) (hc : ∀ j, (h : j < L.length) → w.cell? ⟨b, off + j, none⟩ = some (bv L[j])) {N : Nat} (hN : beN 0 (L.take j) = N) :
    ∃ X : Nat, X < 256 ∧ N < 18014398509481984 ∧ bits .or .u64 ((N : Int) * 256) (X : Int) = ((N * 256 + X : Nat) : Int) ∧ w.cell? ⟨b, off + j, none⟩ = some (.int .u8 (X : Int)) ∧ Hid (beN 0 (L.take (j + 1)) = N * 256 + X) := by
  subst hN
  have hb : beN 0 (L.take j) < 18014398509481984 := by
    have h := beN_lt 0 (L.take j) 1 (by omega)
    have hle : (L.take j).length ≤ 6 := by rw [List.length_take]; omega
    have := Nat.pow_le_pow_right (show 0 < 256 by omega) hle
    omega
  refine ⟨L[j].toNat, L[j].toNat_lt, hb, ?_, hc j hj, ?_⟩
  · have hx : L[j].toNat < 256 := L[j].toNat_lt
    have h := u64_or_nat (beN 0 (L.take j) * 256) L[j].toNat (by omega) (by omega)
    rw [nat_join 8 _ _ (by omega) (by omega)] at h
    rw [← h]; simp
  · show beN 0 (L.take (j + 1)) = _
    rw [List.take_succ_eq_append_getElem hj, beN_snoc]

set_option maxHeartbeats 1000000 in
theorem whole_any (s : List UInt8 × Nat) (K : Int) (k : Nat) (hK : K = (k : Int)) (hk : k ≤ 7) (B g : Nat) (w : World) (h : PtW w B g s) :
    Calls Try.prog 61 #[.pointer (some ⟨g, 0, none⟩), .int .i64 K] w fun e w' => e = .returned (.int .u64 ((wholeP s k).1 : Nat)) ∧ PtW w' B g (wholeP s k).2 ∧ Only g w w' := by
  subst hK
  have hwr : IntKind.u64.wrap (k : Int) = (k : Int) := by rw [wrap_u64N]; omega
  have HB := Lib.hid (bytes_any s (k : Int) k rfl (by omega) (by omega) B g w h)
  have hL := bytesP_len s k
  unfold wholeP
  generalize bytesP s k = r at *
  obtain ⟨L, s'⟩ := r
  simp only at hL ⊢
  clear h
  go_enter Try.func61, Try.ntmps61
  go_wp2_with fail
  (with_reducible refine HB.out.mono ?_)
  rintro e1 w1 ⟨A, m, c, rfl, ho, hle, hc, hp, hon⟩
  simp only at ho hp
  have hm := ho.len
  have HP := Lib.hid hp
  have HN := Lib.hid hon
  have HS := Lib.hid ho.sl
  have hm7 : m ≤ 7 := by omega
  have Hm := Lib.hid hm
  clear ho hp hon hle hc hm hL hk
  go_wp2_with fail
  go_loop [5, 7, 13] (fun nn cc i => ∃ j N : Nat, j ≤ m ∧ i = .int .i64 j ∧ nn = .int .u64 (N : Int) ∧ Hid (beN 0 (L.take j) = N)) (fun _ _ i => m - (intOf i).toNat)
  case atStart => exact ⟨0, 0, by omega, rfl, rfl, rfl⟩
  case round =>
    obtain ⟨j, N, hj, rfl, rfl, HNN⟩ := hrel
    by_cases hlt : j < m
    · obtain ⟨b, off, rfl, hb, hcell⟩ := HS.out.2 (by omega)
      obtain ⟨X, hX, hN, hor, hcj, HN'⟩ := whole_step (by rw [Hm.out]; exact hlt) (by rw [Hm.out]; exact hm7) hcell HNN.out
      clear hcell
      go_wp2
      go_round
      case rel => exact ⟨j + 1, N * 256 + X, by omega, by go_num, by go_num, HN'⟩
      case measure => simp [intOf]; omega
    · go_wp2
      go_ret
      obtain rfl : j = m := by omega
      refine ⟨?_, HP.out, HN.out⟩
      rw [← HNN.out, List.take_of_length_le (by rw [Hm.out]; omega)]
      rfl

set_option maxHeartbeats 1000000 in
theorem varintp_any (s : List UInt8 × Nat) (B g : Nat) (w : World) (h : PtW w B g s) :
    Calls Try.prog 46 #[.pointer (some ⟨g, 0, none⟩)] w fun e w' => e = .returned (.int .u64 ((varintP s).1 : Nat)) ∧ PtW w' B g (varintP s).2 ∧ Only g w w' := by
  have H := Lib.hid h
  have HF := fun (k : Nat) => fail_any s (k : Int) k rfl B g w h
  have HF := Lib.hid HF
  obtain ⟨l, cd⟩ := s
  obtain ⟨T, A, n, c, hr, hs, h1, h2, h3⟩ := h
  have c0 : w.cell? ⟨g, 0, none⟩ = some (.slice A n c) := hr.cell 0 _ rfl
  have f0 := hr.frozen 0
  have HG := Lib.hid (get_any l A n c B w hs h1 h2)
  have hfit := getV_fits l
  have hl := hs.1
  simp only at hl hs
  unfold varintP
  simp only
  obtain ⟨⟨x, y, z⟩, hv⟩ : ∃ v, getV l = v := ⟨_, rfl⟩
  rw [hv] at HG hfit ⊢
  simp only at HG hfit ⊢
  by_cases hz : z = 0
  · subst hz
    rw [if_pos rfl]
    have hy : y ≤ n := by omega
    obtain ⟨A2, eA2⟩ : ∃ v, (if c = y then A else A.map (·.add y)) = v := ⟨_, rfl⟩
    have hcB : ∀ u : World, (Instr.slice 24 (.slice A n c) (some (.int .i64 (y : Int))) none none).run Try.prog u = .ok (.slice A2 (n - y) (c - y)) u := fun u => by
      rw [run_cut_bytes u A n c y hy h1, eA2]
    have HS2 : Hid (Sl w B A2 (n - y) (l.drop y)) := by
      have h1' := hs.drop hy h1
      rwa [eA2] at h1'
    have HR := Lib.hid hr
    have HB := Lib.hid h3
    have HC : Hid (n ≤ c ∧ c ≤ maxLen) := ⟨h1, h2⟩
    clear hv hfit hl hs h1 h2 h3 hr eA2 HF H
    go_enter Try.func46, Try.ntmps46
    go_wp2_with ((with_reducible refine HG.out.mono ?_); rintro e w' ⟨rfl, rfl⟩)
    go_ret
    have hw := (Only.refl g w).setCell 0 (.slice A2 (n - y) (c - y))
    refine ⟨rfl, ⟨T, A2, n - y, c - y, ?_, HS2.out.only hw HB.out HR.out.lt, by have := HC.out; omega, by have := HC.out; omega, HB.out⟩, hw⟩
    simpa using HR.out.put 0 (.slice A2 (n - y) (c - y))
  · rw [if_neg hz]
    have t1 : ((z : Int) != 0) = true := by simp; omega
    clear hv hfit hl hs h1 h2 h3 hr H hz
    go_enter Try.func46, Try.ntmps46
    go_wp2_with (first | (go_at_call 65; (with_reducible refine HG.out.mono ?_); rintro e w' ⟨rfl, rfl⟩) | ((with_reducible refine (HF.out _).mono ?_); rintro e w' ⟨rfl, hp, ho⟩))
    go_ret
    exact ⟨rfl, hp, ho⟩

theorem varintP_lt (s : List UInt8 × Nat) : (varintP s).1 < 4611686018427387904 := by
  have h := (getV_fits s.1).2.1
  unfold varintP
  split
  · exact h
  · simp

theorem of_at (A : Option Addr) (n c : Nat) (w : World) :
    Calls Try.prog 40 #[.slice A n c] w fun e w' => e = .returned (.agg #[.slice A n c, .int .i64 0]) ∧ w' = w.alloc (.cells #[.slice A n c, .int .i64 0] 59) := by
  go_enter Try.func40, Try.ntmps40
  go_wp2
  refine ret_rw rfl w.heap.size 59 [.slice A n c, .int .i64 0] _ rfl (heap_allocs w [_] 0 _ rfl) Try.underlying59 rfl (by kernel_rfl) rfl ?_
  exact ⟨rfl, rfl⟩
theorem code_any (s : List UInt8 × Nat) (B g : Nat) (w : World) (h : PtW w B g s) :
    Calls Try.prog 42 #[.pointer (some ⟨g, 0, none⟩)] w fun e w' => e = .returned (.int .i64 (s.2 : Int)) ∧ w = w' := by
  obtain ⟨T, A, n, c, hr, hs, h1, h2, h3⟩ := h
  have c1 := hr.cell 1 _ rfl
  clear hr hs h1 h2 h3
  go_enter Try.func42, Try.ntmps42
  go_wp2
  go_ret
  exact ⟨rfl, rfl⟩
theorem plen_any (s : List UInt8 × Nat) (B g : Nat) (w : World) (h : PtW w B g s) :
    Calls Try.prog 50 #[.pointer (some ⟨g, 0, none⟩)] w fun e w' => e = .returned (.int .i64 (s.1.length : Int)) ∧ w = w' := by
  obtain ⟨T, A, n, c, hr, hs, h1, h2, h3⟩ := h
  have c0 := hr.cell 0 _ rfl
  have hl := hs.1
  rw [hl]
  clear hr hs h1 h2 h3 hl
  go_enter Try.func50, Try.ntmps50
  go_wp2
  go_ret
  exact ⟨rfl, rfl⟩
end Go.Proofs.Ytcipmfhacloegaa
