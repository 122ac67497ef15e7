/-
  Contracts of what lays numbers: varint.Put, and the document's own In and Put.
-/
import Derived.Test.YtcipmfhacloegaaWords
import Derived.Test.YtcipmfhacloegaaVarintB
import Derived.Laws.CopyOwn
import Derived.Laws.MakeOwn
namespace Go.Proofs.Ytcipmfhacloegaa
open Go.RowKit
set_option linter.unusedVariables false

/-- the lowest t bytes, the highest first -/
def lowB (n : Nat) : Nat → List UInt8
  | 0 => []
  | t + 1 => UInt8.ofNat (n / 256 ^ t) :: lowB n t
/-- a number in 2^k bytes -/
def encV (n k : Nat) : List UInt8 := UInt8.ofNat (n / 256 ^ (2 ^ k - 1) % 64 + 64 * k) :: lowB n (2 ^ k - 1)
/-- a number in its least bytes -/
def enc (n : Nat) : List UInt8 := if n < 4611686018427387904 then encV n (cls n) else []

theorem lowB_length (n t : Nat) : (lowB n t).length = t := by
  induction t with
  | zero => rfl
  | succ t ih => simp [lowB, ih]
theorem encV_length (n k : Nat) : (encV n k).length = 2 ^ k := by
  have : 0 < 2 ^ k := Nat.pow_pos (by omega)
  simp [encV, lowB_length]; omega
/-- the byte that a shift and a cut give -/
theorem byte_at (L j : Nat) : Value.int .u8 (IntKind.u8.wrap ((L : Int) / 2 ^ (8 * j))) = bv (UInt8.ofNat (L / 256 ^ j)) := by
  have e : (2 : Int) ^ (8 * j) = ((256 ^ j : Nat) : Int) := by
    rw [Int.pow_mul]; simp
  rw [e, ← Int.natCast_ediv, IntKind.wrap_u8']
  simp [bv]

theorem byte_small (D : Nat) (h : D < 256) : Value.int .u8 (D : Int) = bv (UInt8.ofNat D) := by
  have : D % 256 = D := Nat.mod_eq_of_lt h
  simp [bv]
  omega

theorem room_any (k : Nat) (w : World) (h1 : k ≤ 3) :
    Calls Try.prog 56 #[.int .i64 (k : Int)] w fun e w' => e = .returned (.int .i64 ((8 * 2 ^ k - 2 : Nat) : Int)) ∧ w = w' := by
  have h : k = 0 ∨ k = 1 ∨ k = 2 ∨ k = 3 := by omega
  rcases h with rfl | rfl | rfl | rfl
  · exact room_0 w
  · exact room_1 w
  · exact room_2 w
  · exact room_3 w

set_option maxHeartbeats 400000 in
theorem put_none (l : List UInt8) (A : Option Addr) (n c B v : Nat) (w : World) (h : Sl w B A n l) (hB : B ≤ w.heap.size) (hm : n ≤ 35184372088832) (hv : 4611686018427387904 ≤ v) (hv2 : v < 18446744073709551616) :
    Calls Try.prog 30 #[.slice A n c, .int .u64 v] w (MakesBytes w n l) := by
  obtain ⟨i, hi, hz0, hz1, hz2⟩ := info_parts byte_info
  have hl := h.1
  have hmk : ∀ u : World, (Instr.makeSlice 24 (.int .i64 (n : Int)) (.int .i64 (n : Int))).run Try.prog u =
      .ok (.slice (some ⟨u.heap.size, 0, none⟩) n n) (u.alloc (.cells (madeCells #[.int .u8 0] n) 5)) := fun u => by
    have h := run_make (P := Try.prog) u 24 5 i (.int .u8 0) Try.underlying24 hi hz0 .i64 .i64 (n : Int) (n : Int) (by omega) (Int.le_refl _) (by rw [hz2]; omega) (by omega)
    simpa [hz1, Value.cells] using h
  have hlen : lenV v = 0 := by have := cls_cases v; omega
  have H := Lib.hid h
  have Hl := Lib.hid hl
  have HL := len_any v w hv2
  rw [hlen] at HL
  have HL := Lib.hid HL
  clear h hlen hl hi hz0 hz1 hz2 hv hv2
  go_enter Try.func30, Try.ntmps30
  go_wp2_with (first
    | ((with_reducible refine HL.out.mono ?_); rintro e w' ⟨rfl, rfl⟩)
    | ((with_reducible refine wpList_copy_made rfl (.tmp 18) (.tmp 19) rfl w.heap.size n n (by with_unfolding_all rfl) A c B l (by with_unfolding_all rfl) ?h1 (madeCells #[.int .u8 0] n) (heap_alloc_new w _) ?h2 (Nat.le_refl n) ?h3 w.heap.size (Nat.le_refl _) w ?h4 ?h5)
       case h1 => exact H.out.below ((Below.refl _ _).alloc hB _)
       case h2 => simp [madeCells]
       case h3 => simp [maxLen]; omega
       case h4 => exact (Below.refl _ _).alloc (Nat.le_refl _) _
       intro w1 ho hb))
  go_ret
  exact ⟨_, _, rfl, ho, Nat.le_refl _, by simp [maxLen]; omega, hb⟩

theorem pow256 (t : Nat) : 0 < 256 ^ t := Nat.pow_pos (by omega)
/-- the mark above the highest bits is in the first byte alone -/
theorem lowB_add (a n t s : Nat) (h : t ≤ s) : lowB (a * 256 ^ s + n) t = lowB n t := by
  induction t with
  | zero => rfl
  | succ t ih =>
    have e : (a * 256 ^ s + n) / 256 ^ t = a * 256 ^ (s - t) + n / 256 ^ t := by
      have : a * 256 ^ s = (a * 256 ^ (s - t)) * 256 ^ t := by rw [Nat.mul_assoc, ← Nat.pow_add]; congr 2; omega
      rw [this, Nat.add_comm, Nat.add_mul_div_right _ _ (pow256 t), Nat.add_comm]
    simp only [lowB, ih (by omega), e]
    congr 1
    apply UInt8.toNat_inj.1
    obtain ⟨d, hd⟩ : ∃ d, s - t = d + 1 := ⟨s - t - 1, by omega⟩
    rw [hd, Nat.pow_succ, ← Nat.mul_assoc]
    simp only [UInt8.toNat_ofNat']
    omega
theorem pow_room (k : Nat) : 2 ^ (8 * 2 ^ k - 2) = 64 * 256 ^ (2 ^ k - 1) := by
  have h : 0 < 2 ^ k := Nat.pow_pos (by omega)
  have : 8 * 2 ^ k - 2 = 6 + 8 * (2 ^ k - 1) := by omega
  rw [this, Nat.pow_add, Nat.pow_mul]
theorem laid_eq (v k : Nat) (hv : v < 64 * 256 ^ (2 ^ k - 1)) (_hk : k ≤ 3) : lowB (k * 2 ^ (8 * 2 ^ k - 2) + v) (2 ^ k) = encV v k := by
  have h : 0 < 2 ^ k := Nat.pow_pos (by omega)
  obtain ⟨t, ht⟩ : ∃ t, 2 ^ k = t + 1 := ⟨2 ^ k - 1, by omega⟩
  rw [pow_room]
  unfold encV
  rw [ht] at hv ⊢
  simp only [Nat.add_sub_cancel] at hv ⊢
  have hp := pow256 t
  have e1 : k * (64 * 256 ^ t) + v = (k * 64) * 256 ^ t + v := by rw [Nat.mul_assoc]
  rw [e1]
  simp only [lowB, lowB_add _ v t t (Nat.le_refl _)]
  congr 1
  apply UInt8.toNat_inj.1
  have e2 : ((k * 64) * 256 ^ t + v) / 256 ^ t = k * 64 + v / 256 ^ t := by rw [Nat.add_comm, Nat.add_mul_div_right _ _ hp, Nat.add_comm]
  have hq : v / 256 ^ t < 64 := Nat.div_lt_of_lt_mul (by rw [Nat.mul_comm]; exact hv)
  rw [e2]
  clear e1 e2 hv ht
  generalize v / 256 ^ t = q at *
  simp only [UInt8.toNat_ofNat']
  omega

set_option maxHeartbeats 400000 in
theorem put_some (l : List UInt8) (A : Option Addr) (n c B v k s : Nat) (w : World) (h : Sl w B A n l) (hB : B ≤ w.heap.size) (hm : n ≤ 35184372088832) (hv : v < 4611686018427387904) (hk : cls v = k) (hs : lenV v = s)
    (hk3 : k ≤ 3) (hs1 : 1 ≤ s) (hs8 : s ≤ 8) (hks : s = 2 ^ k) :
    Calls Try.prog 30 #[.slice A n c, .int .u64 v] w (MakesBytes w (n + s) (l ++ encV v k)) := by
  obtain ⟨i, hi, hz0, hz1, hz2⟩ := info_parts byte_info
  have hl := h.1
  have hmk : ∀ u : World, (Instr.makeSlice 24 (.int .i64 (n : Int)) (.int .i64 ((n : Int) + (s : Int)))).run Try.prog u =
      .ok (.slice (some ⟨u.heap.size, 0, none⟩) n (n + s)) (u.alloc (.cells (madeCells #[.int .u8 0] (n + s)) 5)) := fun u => by
    have h := run_make (P := Try.prog) u 24 5 i (.int .u8 0) Try.underlying24 hi hz0 .i64 .i64 (n : Int) ((n : Int) + (s : Int)) (by omega) (by omega) (by rw [hz2]; omega) (by omega)
    have e : ((n : Int) + (s : Int)).toNat = n + s := by omega
    rw [e] at h
    simpa [hz1, Value.cells] using h
  have H := Lib.hid h
  have Hl := Lib.hid hl
  have HL := Lib.hid (len_any v)
  have HC := Lib.hid (class_any v)
  have HR := Lib.hid (room_any k)
  rw [hk] at HC
  rw [hs] at HL
  rw [← hks] at HR
  have hs0 : ((s : Int) == 0) = false := by simp; omega
  have hroom : v < 2 ^ (8 * s - 2) := by
    have hh : s = 1 ∧ v < 64 ∨ s = 2 ∧ v < 16384 ∨ s = 4 ∧ v < 1073741824 ∨ s = 8 := by have := cls_cases v; omega
    rcases hh with ⟨rfl, h1⟩ | ⟨rfl, h1⟩ | ⟨rfl, h1⟩ | rfl
    · simpa using h1
    · simpa using h1
    · simpa using h1
    · simpa using hv
  have hlt : k * 2 ^ (8 * s - 2) < 18446744073709551616 := by
    have h1 : k * 2 ^ (8 * s - 2) ≤ 3 * 2 ^ 62 := Nat.mul_le_mul hk3 (Nat.pow_le_pow_right (by omega) (by omega))
    omega
  obtain ⟨L, hL⟩ : ∃ L, L = k * 2 ^ (8 * s - 2) + v := ⟨_, rfl⟩
  have hor : bits .or .u64 (IntKind.u64.wrap ((k : Int) * 2 ^ (8 * s - 2))) (v : Int) = (L : Int) := by
    have e : IntKind.u64.wrap ((k : Int) * 2 ^ (8 * s - 2)) = ((k * 2 ^ (8 * s - 2) : Nat) : Int) := by
      rw [← IntWalk.u64_in ((k * 2 ^ (8 * s - 2) : Nat) : Int) (by omega)]; simp
    rw [e, u64_or_nat _ _ hlt (by omega), nat_join (8 * s - 2) _ _ (Nat.mul_mod_left _ _) hroom, hL]
  have HLow : Hid (lowB L s = encV v k) := by
    subst hks
    rw [hL, laid_eq v k (by rw [← pow_room]; exact hroom) hk3]
    rfl
  clear h hl hi hz0 hz1 hz2 hk hs hks hroom hL hlt
  go_enter Try.func30, Try.ntmps30
  go_wp2_with (first
    | ((with_reducible refine (HL.out _ (by omega)).mono ?_); rintro e w' ⟨rfl, rfl⟩)
    | ((with_reducible refine (HC.out _ (by omega)).mono ?_); rintro e w' ⟨rfl, rfl⟩)
    | ((with_reducible refine (HR.out _ (by omega)).mono ?_); rintro e w' ⟨rfl, rfl⟩)
    | ((with_reducible refine wpList_copy_made rfl (.tmp 18) (.tmp 19) rfl w.heap.size n (n + s) (by with_unfolding_all rfl) A c B l (by with_unfolding_all rfl) ?h1 (madeCells #[.int .u8 0] (n + s)) (heap_alloc_new w _) ?h2 (Nat.le_add_right n s) ?h3 w.heap.size (Nat.le_refl _) w ?h4 ?h5)
       case h1 => exact H.out.below ((Below.refl _ _).alloc hB _)
       case h2 => simp [madeCells]
       case h3 => simp [maxLen]; omega
       case h4 => exact (Below.refl _ _).alloc (Nat.le_refl _) _
       intro w1 ho hb))
  go_loopw [6, 8] (fun out sh wr => ∃ (j m : Nat) (A' : Option Addr) (c' : Nat) (X : List UInt8), j ≤ s ∧ m + j ≤ n + s ∧ n + s ≤ m + j ∧ sh = .int .i64 (8 * (j : Int) - 8) ∧ out = .slice A' m c' ∧
      Hid (Own wr w.heap.size (.slice A' m c') m (l ++ X)) ∧ m ≤ c' ∧ c' ≤ maxLen ∧ Hid (X ++ lowB L j = lowB L s) ∧ Below w.heap.size w wr) (fun _ sh _ => (intOf sh + 8).toNat)
  case atStart => exact ⟨s, n, _, _, [], by omega, by omega, by omega, by go_num, rfl, (by simpa using ho : Own _ _ _ _ _), by omega, by simp [maxLen]; omega, rfl, hb⟩
  case round =>
    obtain ⟨j, m, A', c', X, hj, hmj, hmj', rfl, rfl, HO, hmc, hcm, HX, hbr⟩ := hrel
    rcases Nat.eq_zero_or_pos j with rfl | hpos
    · go_wp2
      go_ret
      obtain rfl : m = n + s := by omega
      have hX : X = encV v k := by
        have h := HX.out
        rw [HLow.out] at h
        simpa [lowB] using h
      subst hX
      exact ⟨A', c', rfl, HO.out, hmc, hcm, hbr⟩
    · obtain ⟨t, rfl⟩ : ∃ t, j = t + 1 := ⟨j - 1, by omega⟩
      rw [show (8 * ((t + 1 : Nat) : Int) - 8) = 8 * (t : Int) by omega]
      go_wp2_with (at_builtin; (refine wpList_append_bytes rfl _ _ rfl w.heap.size (.slice A' m c') m (l ++ X) rfl (HO.out.alloc _) _ _ 1 1 [UInt8.ofNat (L / 256 ^ t)] rfl (sl_one _ _ _ ?hV) (by omega) ?hB w ?hb ?_); (case hV => exact byte_at L t); (case hB => have := hbr.size; simp; omega); (case hb => exact hbr.alloc hbr.size _); intro A1 c1 w1 ho1 hle1 hc1 hg1 hb1)
      go_roundw
      case rel =>
        refine ⟨t, m + 1, A1, c1, X ++ [UInt8.ofNat (L / 256 ^ t)], by omega, by omega, by omega, by go_num, rfl, ?_, hle1, hc1, ?_, hb1⟩
        · show Own _ _ _ _ _
          rw [← List.append_assoc]; exact ho1
        · show _ = _
          rw [← HX.out]; simp [lowB]
      case measure => simp [intOf]; omega

/-- varint.Put, whatever the number -/
theorem put_any (l : List UInt8) (A : Option Addr) (n c B v : Nat) (w : World) (h : Sl w B A n l) (hB : B ≤ w.heap.size) (hm : n ≤ 35184372088832) (hv : v < 18446744073709551616) :
    Calls Try.prog 30 #[.slice A n c, .int .u64 v] w (MakesBytes w (n + lenV v) (l ++ enc v)) := by
  by_cases hv' : v < 4611686018427387904
  · have e : enc v = encV v (cls v) := by unfold enc; rw [if_pos hv']
    rw [e]
    have hc := cls_cases v
    refine put_some l A n c B v _ _ w h hB hm hv' rfl rfl (by omega) (by omega) (by omega) ?_
    rcases hc with hc | hc | hc | hc | hc
    · rw [hc.2.1, hc.2.2]
    · rw [hc.2.2.1, hc.2.2.2]
    · rw [hc.2.2.1, hc.2.2.2]
    · rw [hc.2.2.1, hc.2.2.2]
    · omega
  · have e : enc v = [] := by unfold enc; rw [if_neg hv']
    have e2 : lenV v = 0 := by have := cls_cases v; omega
    rw [e, e2, List.append_nil]
    exact put_none l A n c B v w h hB hm (by omega) hv

set_option maxHeartbeats 400000 in
theorem in_some (l : List UInt8) (A : Option Addr) (n c B v k s : Nat) (w : World) (h : Sl w B A n l) (hB : B ≤ w.heap.size) (hm : n ≤ 35184372088832) (hv : v < 4611686018427387904)
    (hks : (k = 0 ∧ s = 1) ∨ (k = 1 ∧ s = 2) ∨ (k = 2 ∧ s = 4) ∨ (k = 3 ∧ s = 8)) :
    Calls Try.prog 57 #[.slice A n c, .int .u64 v, .int .i64 s] w (MakesBytes w (n + s) (l ++ encV v k)) := by
  have hl := h.1
  have H := Lib.hid h
  have Hl := Lib.hid hl
  have hs1 : 1 ≤ s := by omega
  have hs8 : s ≤ 8 := by omega
  have hk3 : k ≤ 3 := by omega
  have Hks := Lib.hid hks
  clear h hl hks
  go_enter Try.func57, Try.ntmps57
  go_wp2_with (at_builtin; refine wpList_append_bytes rfl _ _ rfl w.heap.size (.slice none 0 0) 0 [] rfl (Own.nil _ _) B A n c l rfl H.out (by omega) (Nat.le_refl _) w (Below.refl _ _) ?_; intro A1 c1 w1 ho hle hc hg hb)
  simp only [Nat.zero_add, List.nil_append] at ho hle
  go_loopw [7, 8, 9, 10] (fun out i _ _ wr => ∃ (j m : Nat) (A' : Option Addr) (c' : Nat) (X : List UInt8), j ≤ s ∧ m + j ≤ n + s ∧ n + s ≤ m + j ∧ i = .int .i64 ((j : Int) - 1) ∧ out = .slice A' m c' ∧
      Hid (Own wr w.heap.size (.slice A' m c') m (l ++ X)) ∧ m ≤ c' ∧ c' ≤ maxLen ∧ Hid ((j = s ∧ X = []) ∨ (j < s ∧ X ++ lowB v j = encV v k)) ∧ Below w.heap.size w wr) (fun _ i _ _ _ => (intOf i + 1).toNat)
  case atStart => exact ⟨s, n, _, _, [], by omega, by omega, by omega, by go_num, rfl, (by simpa using ho : Own _ _ _ _ _), by omega, by assumption, .inl ⟨rfl, rfl⟩, hb⟩
  case round =>
    obtain ⟨j, m, A', c', X, hj, hmj, hmj', rfl, rfl, HO, hmc, hcm, HX, hbr⟩ := hrel
    rcases Nat.eq_zero_or_pos j with rfl | hpos
    · go_wp2
      go_ret
      obtain rfl : m = n + s := by omega
      have hX : X = encV v k := by
        rcases HX.out with ⟨h, _⟩ | ⟨_, h⟩
        · omega
        · simpa [lowB] using h
      subst hX
      exact ⟨A', c', rfl, HO.out, hmc, hcm, hbr⟩
    · obtain ⟨t, rfl⟩ : ∃ t, j = t + 1 := ⟨j - 1, by omega⟩
      rw [show (((t + 1 : Nat) : Int) - 1) = (t : Int) by omega]
      by_cases hf : t + 1 = s
      · have h1 : ((t : Int) == (s : Int) - 1) = true := by simp; omega
        obtain ⟨C, hC⟩ : ∃ C, C = v / 256 ^ t % 256 := ⟨_, rfl⟩
        have hC256 : C < 256 := by omega
        have hcv : (v : Int) / 2 ^ (8 * t) % 256 = (C : Int) := by
          rw [hC, Int.pow_mul]; simp
        obtain ⟨D, hD⟩ : ∃ D, D = C % 64 + 64 * k := ⟨_, rfl⟩
        have hor : bits .or .u8 ((C : Int) % 64) ((k : Int) * 64) = (D : Int) := by
          have h := u8_or_nat (k * 64) (C % 64) (by omega) (by omega)
          rw [nat_join 6 _ _ (by omega) (by omega)] at h
          have e : bits .or .u8 ((C : Int) % 64) ((k : Int) * 64) = bits .or .u8 ((k * 64 : Nat) : Int) ((C % 64 : Nat) : Int) := by
            have h1 := u8_or_nat (C % 64) (k * 64) (by omega) (by omega)
            have h2 := u8_or_nat (k * 64) (C % 64) (by omega) (by omega)
            rw [Nat.or_comm] at h1
            rw [h2, ← h1]
            simp
          rw [e, h, hD]
          omega
        have HC := Lib.hid hC
        have HD := Lib.hid hD
        have Hf := Lib.hid hf
        clear hC hD hf
        go_wp2_with fail
        go_loop [10] (fun mk => ∃ q : Nat, q ≤ k ∧ mk = .int .i64 q) (fun mk => 4 - (intOf mk).toNat)
        case atStart => exact ⟨0, by omega, rfl⟩
        case round =>
          obtain ⟨q, hq, rfl⟩ := hrel
          have hq4 : q = 0 ∨ q = 1 ∨ q = 2 ∨ q = 3 := by omega
          have hks := Hks.out
          by_cases hqk : q < k
          · rcases hq4 with rfl | rfl | rfl | rfl
            · have hlt : (1 : Int) < (s : Int) := by omega
              clear hks
              go_wp2
              go_round
              case rel => exact ⟨1, by omega, rfl⟩
              case measure => simp [intOf]
            · have hlt : (2 : Int) < (s : Int) := by omega
              clear hks
              go_wp2
              go_round
              case rel => exact ⟨2, by omega, rfl⟩
              case measure => simp [intOf]
            · have hlt : (4 : Int) < (s : Int) := by omega
              clear hks
              go_wp2
              go_round
              case rel => exact ⟨3, by omega, rfl⟩
              case measure => simp [intOf]
            · omega
          · obtain rfl : q = k := by omega
            have hge : ¬ (2 : Int) ^ q < (s : Int) := by
              rcases hks with ⟨rfl, rfl⟩ | ⟨rfl, rfl⟩ | ⟨rfl, rfl⟩ | ⟨rfl, rfl⟩ <;> simp
            have hw : wrap64 ((2 : Int) ^ q) = 2 ^ q := by
              rcases hks with ⟨rfl, rfl⟩ | ⟨rfl, rfl⟩ | ⟨rfl, rfl⟩ | ⟨rfl, rfl⟩ <;> (unfold wrap64; simp)
            clear hks hq4 hqk hq
            have hD256 : D < 256 := by have := HD.out; omega
            go_wp2_with (at_builtin; (refine wpList_append_bytes rfl _ _ rfl w.heap.size (.slice A' m c') m (l ++ X) rfl (HO.out.alloc _) _ _ 1 1 [UInt8.ofNat D] rfl (sl_one _ _ _ ?hV) (by omega) ?hB w ?hb ?_); (case hV => exact byte_small D hD256); (case hB => have := hbr.size; simp; omega); (case hb => exact hbr.alloc hbr.size _); intro A2 c2 w2 ho2 hle2 hc2 hg2 hb2)
            go_roundw
            case rel =>
              obtain rfl : X = [] := by
                rcases HX.out with ⟨_, h⟩ | ⟨h, _⟩
                · exact h
                · have := Hf.out; omega
              refine ⟨t, m + 1, A2, c2, [UInt8.ofNat D], by omega, by omega, by omega, by go_num, rfl, ?_, hle2, hc2, .inr ⟨by omega, ?_⟩, hb2⟩
              · show Own _ _ _ _ _
                simpa using ho2
              · have hs : 2 ^ q - 1 = t := by
                  have := Hf.out
                  rcases Hks.out with ⟨rfl, h⟩ | ⟨rfl, h⟩ | ⟨rfl, h⟩ | ⟨rfl, h⟩ <;> omega
                have hD := HD.out
                rw [HC.out] at hD
                have e : D = v / 256 ^ t % 64 + 64 * q := by omega
                simp [encV, hs, e]
            case measure => simp [intOf]
      · have h1 : ((t : Int) == (s : Int) - 1) = false := by simp; omega
        have Hf := Lib.hid hf
        clear hf
        go_wp2_with (at_builtin; (refine wpList_append_bytes rfl _ _ rfl w.heap.size (.slice A' m c') m (l ++ X) rfl (HO.out.alloc _) _ _ 1 1 [UInt8.ofNat (v / 256 ^ t)] rfl (sl_one _ _ _ ?hV) (by omega) ?hB w ?hb ?_); (case hV => exact byte_at v t); (case hB => have := hbr.size; simp; omega); (case hb => exact hbr.alloc hbr.size _); intro A2 c2 w2 ho2 hle2 hc2 hg2 hb2)
        go_roundw
        case rel =>
          refine ⟨t, m + 1, A2, c2, X ++ [UInt8.ofNat (v / 256 ^ t)], by omega, by omega, by omega, by go_num, rfl, ?_, hle2, hc2, .inr ⟨by omega, ?_⟩, hb2⟩
          · show Own _ _ _ _ _
            rw [← List.append_assoc]; exact ho2
          · rcases HX.out with ⟨h, _⟩ | ⟨_, h⟩
            · exact absurd h Hf.out
            · rw [← h]; simp [lowB]
        case measure => simp [intOf]

theorem in_none (l : List UInt8) (A : Option Addr) (n c B v : Nat) (w : World) (h : Sl w B A n l) (hm : n ≤ 35184372088832) :
    Calls Try.prog 57 #[.slice A n c, .int .u64 v, .int .i64 0] w (MakesBytes w n l) := by
  have H := Lib.hid h
  clear h
  go_enter Try.func57, Try.ntmps57
  go_wp2_with (at_builtin; refine wpList_append_bytes rfl _ _ rfl w.heap.size (.slice none 0 0) 0 [] rfl (Own.nil _ _) B A n c l rfl H.out (by omega) (Nat.le_refl _) w (Below.refl _ _) ?_; intro A1 c1 w1 ho hle hc hg hb)
  simp only [Nat.zero_add, List.nil_append] at ho hle
  go_loopw [7, 8, 9, 10] (fun out i _ _ wr => i = .int .i64 (-1) ∧ out = .slice A1 n c1 ∧ wr = w1) (fun _ _ _ _ _ => 0)
  case atStart => exact ⟨rfl, rfl, rfl⟩
  case round =>
    obtain ⟨rfl, rfl, rfl⟩ := hrel
    go_wp2
    go_ret
    exact ⟨A1, c1, rfl, ho, hle, hc, hb⟩

/-- the document's Put -/
theorem rput_any (l : List UInt8) (A : Option Addr) (n c B v : Nat) (w : World) (h : Sl w B A n l) (hB : B ≤ w.heap.size) (hm : n ≤ 35184372088832) (hv : v < 18446744073709551616) :
    Calls Try.prog 33 #[.slice A n c, .int .u64 v] w (MakesBytes w (n + lenV v) (l ++ enc v)) := by
  have HL := Lib.hid (rlen_any v)
  by_cases hv' : v < 4611686018427387904
  · have e : enc v = encV v (cls v) := by unfold enc; rw [if_pos hv']
    rw [e]
    have hks : (cls v = 0 ∧ lenV v = 1) ∨ (cls v = 1 ∧ lenV v = 2) ∨ (cls v = 2 ∧ lenV v = 4) ∨ (cls v = 3 ∧ lenV v = 8) := by have := cls_cases v; omega
    have HI := Lib.hid (in_some l A n c B v (cls v) (lenV v) w h hB hm hv' hks)
    clear e hks h
    go_enter Try.func33, Try.ntmps33
    go_wp2_with (first
      | ((with_reducible refine (HL.out _ (by omega)).mono ?_); rintro e w' ⟨rfl, rfl⟩)
      | ((with_reducible refine HI.out.mono ?_); rintro e w1 ⟨A1, c1, rfl, ho, hle, hc, hb⟩))
    go_ret
    exact ⟨A1, c1, rfl, ho, hle, hc, hb⟩
  · have e : enc v = [] := by unfold enc; rw [if_neg hv']
    have e2 : lenV v = 0 := by have := cls_cases v; omega
    rw [e, e2, List.append_nil]
    rw [e2] at HL
    have HI := Lib.hid (in_none l A n c B v w h hm)
    clear e e2 h
    go_enter Try.func33, Try.ntmps33
    go_wp2_with (first
      | ((with_reducible refine (HL.out _ (by omega)).mono ?_); rintro e w' ⟨rfl, rfl⟩)
      | ((with_reducible refine HI.out.mono ?_); rintro e w1 ⟨A1, c1, rfl, ho, hle, hc, hb⟩))
    go_ret
    exact ⟨A1, c1, rfl, ho, hle, hc, hb⟩
end Go.Proofs.Ytcipmfhacloegaa
