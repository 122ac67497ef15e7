/-
  The walk of VarintOrder: as many bytes stand as their numbers do.
-/
import Derived.Test.YtnagoababcmkaaaVarintD
import Derived.Laws.BytesString
import Derived.Lib.MinMax
namespace Go.Proofs.Ytnagoababcmkaaa
open Go.RowKit
set_option linter.unusedVariables false

/-- []byte to string -/
theorem conv_bytes (l : List UInt8) (A : Option Addr) (n c B : Nat) (w : World) (h : Sl w B A n l) : (convert 23 9 (.slice A n c)).run Try.prog w = .ok (.string ⟨l.toArray⟩) w := by
  rw [run_convert_bytes_string w 23 9 5 A n c Try.underlying23 Try.underlying5 Try.underlying9]
  have hl := h.1
  have key : ∀ (l : List UInt8) (s : ByteArray), (l.map (fun b => (b.toNat : Int))).foldl (fun r n => r.push (UInt8.ofNat n.toNat)) s = ⟨s.data ++ l.toArray⟩ := by
    intro l
    induction l with
    | nil => intro s; simp
    | cons b r ih => intro s; simp only [List.map_cons, List.foldl_cons, ih]; simp [ByteArray.push]
  by_cases h0 : n = 0
  · subst h0
    obtain rfl : l = [] := List.eq_nil_of_length_eq_zero hl
    cases A with
    | none => simp [Conv.bytesToString]; rfl
    | some a => exact run_bytesToString w a 0 c [] (by simpa using run_loadCells_list (P := Try.prog) w a [] (by simp))
  · obtain ⟨b, off, rfl, hb, hc⟩ := h.2 (by omega)
    have e : (l.map (fun b => (b.toNat : Int))).map (Value.int .u8) = bvs l := by simp [bvs, bv]
    rw [run_bytesToString w ⟨b, off, none⟩ n c (l.map (fun b => (b.toNat : Int))) ?_, key l]
    · simp [ByteArray.empty, ByteArray.emptyWithCapacity]; rfl
    · rw [e, ← hl, ← bvs_length l]
      refine run_loadCells_list (P := Try.prog) w _ (bvs l) fun j u hu => ?_
      have hj : j < l.length := by
        have := (List.getElem?_eq_some_iff.1 hu).1
        rwa [bvs_length] at this
      have hadd : (⟨b, off, none⟩ : Addr).add j = ⟨b, off + j, none⟩ := by unfold Addr.add; split <;> simp_all
      rw [hadd, hc j hj, ← hu]
      simp [bvs, hj]

theorem beN_cons (a : Nat) (x : UInt8) (l : List UInt8) : beN a (x :: l) = beN (a * 256 + x.toNat) l := rfl
theorem beN_ge (a : Nat) (l : List UInt8) : a * 256 ^ l.length ≤ beN a l := by
  induction l generalizing a with
  | nil => simp [beN]
  | cons c r ih =>
    have := ih (a * 256 + c.toNat)
    rw [beN_cons, List.length_cons, Nat.pow_succ, Nat.mul_comm (256 ^ r.length) 256, ← Nat.mul_assoc]
    exact Nat.le_trans (Nat.mul_le_mul_right _ (by omega)) this
/-- what is less byte by byte is the lesser number -/
theorem be_of_less : ∀ (l r : List UInt8) (a : Nat), l.length = r.length → Op.bytesLess l r = true → beN a l < beN a r := by
  intro l
  induction l with
  | nil =>
    intro r a h hl
    obtain rfl : r = [] := List.eq_nil_of_length_eq_zero h.symm
    simp [Op.bytesLess] at hl
  | cons x l ih =>
    intro r a h hl
    cases r with
    | nil => simp at h
    | cons y r =>
      simp only [List.length_cons, Nat.add_right_cancel_iff] at h
      rw [beN_cons, beN_cons]
      simp only [Op.bytesLess, Bool.or_eq_true, Bool.and_eq_true, decide_eq_true_eq, beq_iff_eq] at hl
      rcases hl with hl | ⟨rfl, hl⟩
      · have h1 : x.toNat < y.toNat := hl
        have h2 := beN_lt (a * 256 + x.toNat) l (a * 256 + x.toNat + 1) (by omega)
        have h3 := beN_ge (a * 256 + y.toNat) r
        rw [← h] at h3
        exact Nat.lt_of_lt_of_le h2 (Nat.le_trans (Nat.mul_le_mul_right _ (by omega)) h3)
      · exact ih r _ h hl
theorem less_or (l r : List UInt8) (h : l.length = r.length) : Op.bytesLess l r = true ∨ l = r ∨ Op.bytesLess r l = true := by
  induction l generalizing r with
  | nil => exact .inr (.inl (List.eq_nil_of_length_eq_zero h.symm).symm)
  | cons x l ih =>
    cases r with
    | nil => simp at h
    | cons y r =>
      simp only [List.length_cons, Nat.add_right_cancel_iff] at h
      simp only [Op.bytesLess, Bool.or_eq_true, Bool.and_eq_true, decide_eq_true_eq, beq_iff_eq, List.cons.injEq]
      rcases Nat.lt_trichotomy x.toNat y.toNat with h1 | h1 | h1
      · exact .inl (.inl h1)
      · obtain rfl := UInt8.toNat_inj.1 h1
        rcases ih r h with h2 | h2 | h2
        · exact .inl (.inr ⟨rfl, h2⟩)
        · exact .inr (.inl ⟨rfl, h2⟩)
        · exact .inr (.inr (.inr ⟨rfl, h2⟩))
      · exact .inr (.inr (.inl h1))
theorem be_enc (v k : Nat) (hk : k ≤ 3) (hv : v < 64 * 256 ^ (2 ^ k - 1)) : beN 0 (encV v k) = 64 * k * 256 ^ (2 ^ k - 1) + v := by
  unfold encV
  rw [beN_cons, encV_head v k hk, beN_lowB]
  have hq : v / 256 ^ (2 ^ k - 1) < 64 := Nat.div_lt_of_lt_mul (by rw [Nat.mul_comm]; exact hv)
  have hd := Nat.div_add_mod v (256 ^ (2 ^ k - 1))
  rw [Nat.mod_eq_of_lt hq, Nat.zero_mul, Nat.zero_add, Nat.add_mul, Nat.mul_comm (v / 256 ^ (2 ^ k - 1))]
  omega
/-- of as many bytes: not above, and the same just if the numbers are -/
theorem enc_order (a b k : Nat) (hk : k ≤ 3) (ha : a < 64 * 256 ^ (2 ^ k - 1)) (hb : b < 64 * 256 ^ (2 ^ k - 1)) (hab : a ≤ b) :
    (Op.bytesLess (encV a k) (encV b k) || encV a k == encV b k) = true ∧ (encV a k == encV b k) = ((a : Int) == (b : Int)) := by
  have h1 := be_enc a k hk ha
  have h2 := be_enc b k hk hb
  have hl : (encV a k).length = (encV b k).length := by rw [encV_length, encV_length]
  refine ⟨?_, ?_⟩
  · rcases less_or _ _ hl with h | h | h
    · simp [h]
    · simp [h]
    · have := be_of_less _ _ 0 hl.symm h
      omega
  · rw [Bool.eq_iff_iff, beq_iff_eq, beq_iff_eq]
    refine ⟨fun h => ?_, fun h => ?_⟩
    · rw [h] at h1; omega
    · obtain rfl : a = b := by omega
      rfl
theorem len_mono (a b : Nat) (hab : a ≤ b) (hb : b < 4611686018427387904) : lenV a ≤ lenV b ∧ (lenV a = lenV b → cls a = cls b) := by
  have h1 := cls_cases a
  have h2 := cls_cases b
  omega

/-- the numbers on both sides of each edge, in a block of their own -/
theorem edge_cell (u wr : World) (hb : Below (u.heap.size + 1) (u.alloc (.cells #[.int .u64 63, .int .u64 64, .int .u64 16383, .int .u64 16384, .int .u64 1073741823, .int .u64 1073741824, .int .u64 4611686018427387903] 22)) wr) (j : Nat) (hj : j < 7) :
    ∃ z : Nat, z < 18446744073709551616 ∧ wr.cell? ⟨u.heap.size, j, none⟩ = some (.int .u64 (z : Int)) := by
  have h : ∀ i, wr.cell? ⟨u.heap.size, i, none⟩ = (#[.int .u64 63, .int .u64 64, .int .u64 16383, .int .u64 16384, .int .u64 1073741823, .int .u64 1073741824, .int .u64 4611686018427387903] : Array Value)[i]? := fun i =>
    (hb.cell (p := ⟨u.heap.size, i, none⟩) (by simp)).trans (cell_of_row _ _ _ _ _ _ (heap_alloc_new u _))
  have h7 : j = 0 ∨ j = 1 ∨ j = 2 ∨ j = 3 ∨ j = 4 ∨ j = 5 ∨ j = 6 := by omega
  rcases h7 with rfl | rfl | rfl | rfl | rfl | rfl | rfl
  · exact ⟨63, by omega, h 0⟩
  · exact ⟨64, by omega, h 1⟩
  · exact ⟨16383, by omega, h 2⟩
  · exact ⟨16384, by omega, h 3⟩
  · exact ⟨1073741823, by omega, h 4⟩
  · exact ⟨1073741824, by omega, h 5⟩
  · exact ⟨4611686018427387903, by omega, h 6⟩

set_option maxHeartbeats 1000000 in
theorem order_any (a0 b0 a b : Nat) (w : World) (ha0 : a0 < 18446744073709551616) (hb0 : b0 < 18446744073709551616) (ha : a = min (a0 % 4611686018427387904) (b0 % 4611686018427387904)) (hb : b = max (a0 % 4611686018427387904) (b0 % 4611686018427387904)) :
    Calls Try.prog 5 #[.int .u64 a0, .int .u64 b0] w fun e w' => e = .returned (.bool true) ∧ Below w.heap.size w w' := by
  have hand1 : bits .and .u64 (a0 : Int) 4611686018427387903 = ((a0 % 4611686018427387904 : Nat) : Int) := by
    have h := u64_and_nat a0 4611686018427387903 ha0 (by omega)
    rw [show a0 &&& 4611686018427387903 = a0 % 4611686018427387904 from Nat.and_two_pow_sub_one_eq_mod a0 62] at h
    exact h
  have hand2 : bits .and .u64 (b0 : Int) 4611686018427387903 = ((b0 % 4611686018427387904 : Nat) : Int) := by
    have h := u64_and_nat b0 4611686018427387903 hb0 (by omega)
    rw [show b0 &&& 4611686018427387903 = b0 % 4611686018427387904 from Nat.and_two_pow_sub_one_eq_mod b0 62] at h
    exact h
  have hx : a0 % 4611686018427387904 < 4611686018427387904 := by omega
  have hy : b0 % 4611686018427387904 < 4611686018427387904 := by omega
  generalize a0 % 4611686018427387904 = x at *
  generalize b0 % 4611686018427387904 = y at *
  have hab : a ≤ b := by omega
  have ha62 : a < 4611686018427387904 := by omega
  have hb62 : b < 4611686018427387904 := by omega
  have hmin : min (x : Int) (y : Int) = (a : Int) := by omega
  have hmax : max (x : Int) (y : Int) = (b : Int) := by omega
  clear ha hb
  have hm := len_mono a b hab hb62
  obtain ⟨k1, s1, hk1, hs1, he1, hks1, hr1⟩ := small_cases a ha62
  obtain ⟨k2, s2, hk2, hs2, he2, hks2, hr2⟩ := small_cases b hb62
  rw [hk1, hk2, hs1, hs2] at hm
  have hP1 := put_nil a
  have hP2 := put_nil b
  rw [hs1, he1] at hP1
  rw [hs2, he2] at hP2
  have P1 := Lib.hid hP1
  have P2 := Lib.hid hP2
  have t1 : s1 ≤ s2 := by omega
  have t1' : decide (s2 < s1) = false := by simp; omega
  obtain ⟨hs12, hk3⟩ := two_pow_of hks1
  have h18 : s1 ≤ 8 := by omega
  have h28 : s2 ≤ 8 := by omega
  have H : Hid (s1 = s2 → (Op.bytesLess (encV a k1) (encV b k2) || encV a k1 == encV b k2) = true ∧ (encV a k1 == encV b k2) = ((a : Int) == (b : Int))) := fun h => by
    obtain rfl := hm.2 h
    exact enc_order a b k1 hk3 hr1 hr2 hab
  generalize encV a k1 = X at *
  generalize encV b k2 = Y at *
  clear hP1 hP2 hk1 hk2 hs1 hs2 he1 he2 hks1 hks2 hr1 hr2 hm ha0 hb0 hx hy hs12
  go_enter Try.func5, Try.ntmps5
  go_wp2_with fail
  (with_reducible refine (P1.out _ (by omega)).mono ?_)
  rintro e w1 ⟨B1, d1, rfl, ho1, hle1, hd1, hb1⟩
  go_wp2_with fail
  (with_reducible refine (P2.out _ (by omega)).mono ?_)
  rintro e w2 ⟨B2, d2, rfl, ho2, hle2, hd2, hb2⟩
  have hb2' : Below w.heap.size w w2 := hb1.trans (hb2.mono hb1.size)
  by_cases hs : s1 = s2
  · have t2 : ((s1 : Int) == (s2 : Int)) = true := by simp; omega
    have hcx := conv_bytes X B1 s1 d1 _ w2 (ho1.below hb2).sl
    have hcy := conv_bytes Y B2 s2 d2 _ w2 ho2.sl
    have hle := (H.out hs).1
    have heq := (H.out hs).2
    have Hs := Lib.hid hs
    clear hs ho1 ho2
    cases hq : ((a : Int) == (b : Int))
    · have hless : Op.bytesLess X Y = true := by rw [heq, hq] at hle; simpa using hle
      clear hle
      go_wp2_with fail
      go_loopw [4, 8, 55] (fun r _ i wr => ∃ j : Nat, j ≤ 7 ∧ i = .int .i64 j ∧ r = .bool false ∧ Below (w2.heap.size + 1) (w2.alloc (.cells #[.int .u64 63, .int .u64 64, .int .u64 16383, .int .u64 16384, .int .u64 1073741823, .int .u64 1073741824, .int .u64 4611686018427387903] 22)) wr) (fun _ _ i _ => 7 - (intOf i).toNat)
      case atStart => exact ⟨0, by omega, rfl, rfl, Below.refl _ _⟩
      case round =>
        obtain ⟨j, hj, rfl, rfl, hbr⟩ := hrel
        have hbw : Below w.heap.size w wr := (hb2'.alloc hb2'.size _).trans (hbr.mono (by have := hb2'.size; omega))
        have hsz := hbr.size
        simp only [World.size_alloc] at hsz
        by_cases hlt : j < 7
        · obtain ⟨z, hz, hcz⟩ := edge_cell w2 wr hbr j hlt
          have hne : ((lenV z : Int) != (lenV z : Int)) = false := by simp
          go_wp2_with fail
          (with_reducible refine (put_nil z _ hz).mono ?_)
          rintro e w3 ⟨B3, d3, rfl, ho3, hle3, hd3, hb3⟩
          go_wp2_with fail
          (with_reducible refine (rlen_any z _ hz).mono ?_)
          rintro e w' ⟨rfl, rfl⟩
          go_wp2
          go_roundw
          case rel => exact ⟨j + 1, by omega, by go_num, rfl, hbr.trans (hb3.mono hsz)⟩
          case measure => simp [intOf]; omega
        · go_wp2_with fail
          (with_reducible refine (awake_any _).mono ?_)
          rintro e w5 ⟨rfl, hb5⟩
          go_wp2
          go_ret
          exact ⟨rfl, hbw.trans (hb5.mono hbw.size)⟩
    · clear hle
      obtain rfl : X = Y := by rw [hq] at heq; simpa using heq
      go_wp2_with fail
      go_loopw [4, 8, 55] (fun r _ i wr => ∃ j : Nat, j ≤ 7 ∧ i = .int .i64 j ∧ r = .bool false ∧ Below (w2.heap.size + 1) (w2.alloc (.cells #[.int .u64 63, .int .u64 64, .int .u64 16383, .int .u64 16384, .int .u64 1073741823, .int .u64 1073741824, .int .u64 4611686018427387903] 22)) wr) (fun _ _ i _ => 7 - (intOf i).toNat)
      case atStart => exact ⟨0, by omega, rfl, rfl, Below.refl _ _⟩
      case round =>
        obtain ⟨j, hj, rfl, rfl, hbr⟩ := hrel
        have hbw : Below w.heap.size w wr := (hb2'.alloc hb2'.size _).trans (hbr.mono (by have := hb2'.size; omega))
        have hsz := hbr.size
        simp only [World.size_alloc] at hsz
        by_cases hlt : j < 7
        · obtain ⟨z, hz, hcz⟩ := edge_cell w2 wr hbr j hlt
          have hne : ((lenV z : Int) != (lenV z : Int)) = false := by simp
          go_wp2_with fail
          (with_reducible refine (put_nil z _ hz).mono ?_)
          rintro e w3 ⟨B3, d3, rfl, ho3, hle3, hd3, hb3⟩
          go_wp2_with fail
          (with_reducible refine (rlen_any z _ hz).mono ?_)
          rintro e w' ⟨rfl, rfl⟩
          go_wp2
          go_roundw
          case rel => exact ⟨j + 1, by omega, by go_num, rfl, hbr.trans (hb3.mono hsz)⟩
          case measure => simp [intOf]; omega
        · go_wp2_with fail
          (with_reducible refine (awake_any _).mono ?_)
          rintro e w5 ⟨rfl, hb5⟩
          go_wp2
          go_ret
          exact ⟨rfl, hbw.trans (hb5.mono hbw.size)⟩
  · have t2 : ((s1 : Int) == (s2 : Int)) = false := by simp; omega
    go_wp2_with fail
    go_loopw [4, 8, 55] (fun r _ i wr => ∃ j : Nat, j ≤ 7 ∧ i = .int .i64 j ∧ r = .bool false ∧ Below (w2.heap.size + 1) (w2.alloc (.cells #[.int .u64 63, .int .u64 64, .int .u64 16383, .int .u64 16384, .int .u64 1073741823, .int .u64 1073741824, .int .u64 4611686018427387903] 22)) wr) (fun _ _ i _ => 7 - (intOf i).toNat)
    case atStart => exact ⟨0, by omega, rfl, rfl, Below.refl _ _⟩
    case round =>
      obtain ⟨j, hj, rfl, rfl, hbr⟩ := hrel
      have hbw : Below w.heap.size w wr := (hb2'.alloc hb2'.size _).trans (hbr.mono (by have := hb2'.size; omega))
      have hsz := hbr.size
      simp only [World.size_alloc] at hsz
      by_cases hlt : j < 7
      · obtain ⟨z, hz, hcz⟩ := edge_cell w2 wr hbr j hlt
        have hne : ((lenV z : Int) != (lenV z : Int)) = false := by simp
        go_wp2_with fail
        (with_reducible refine (put_nil z _ hz).mono ?_)
        rintro e w3 ⟨B3, d3, rfl, ho3, hle3, hd3, hb3⟩
        go_wp2_with fail
        (with_reducible refine (rlen_any z _ hz).mono ?_)
        rintro e w' ⟨rfl, rfl⟩
        go_wp2
        go_roundw
        case rel => exact ⟨j + 1, by omega, by go_num, rfl, hbr.trans (hb3.mono hsz)⟩
        case measure => simp [intOf]; omega
      · go_wp2_with fail
        (with_reducible refine (awake_any _).mono ?_)
        rintro e w5 ⟨rfl, hb5⟩
        go_wp2
        go_ret
        exact ⟨rfl, hbw.trans (hb5.mono hbw.size)⟩
end Go.Proofs.Ytnagoababcmkaaa
