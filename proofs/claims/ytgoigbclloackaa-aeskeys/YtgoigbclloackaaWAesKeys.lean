/-
  AesKeys walked.
-/
import Derived.Test.YtgoigbclloackaaAesG
import Derived.Test.YtgoigbclloackaaArrEqB
import Derived.Test.YtgoigbclloackaaLow
namespace Go.Proofs.Ytgoigbclloackaa
open Go.RowKit
set_option linter.unusedVariables false

theorem bne_self (x : UInt8) : (bn x != bn x) = false := by simp
theorem key_hi (key : List UInt8) (m i : Nat) (h4 : 4 ≤ i) (hi : i < 16) : (rkV key (m + 1)).getD i 0 = (rkV key m).getD i 0 ^^^ (rkV key (m + 1)).getD (i - 4) 0 := by
  have h := nk_get (rkV key m) (ktV (rkV key m) (rconU m)) 16 i hi
  rw [if_neg (by omega)] at h
  exact h
theorem key_0 (key : List UInt8) (m : Nat) : (rkV key (m + 1)).getD 0 0 = (rkV key m).getD 0 0 ^^^ boxV ((rkV key m).getD 13 0) ^^^ rconU m := by
  have h := nk_get (rkV key m) (ktV (rkV key m) (rconU m)) 16 0 (by omega)
  rw [if_pos (by omega)] at h
  rw [x_assoc]
  exact h
theorem key_lo (key : List UInt8) (m i s : Nat) (h1 : 1 ≤ i) (h4 : i < 4) (hs : 12 + (i + 1) % 4 = s) : (rkV key (m + 1)).getD i 0 = (rkV key m).getD i 0 ^^^ boxV ((rkV key m).getD s 0) := by
  have h := nk_get (rkV key m) (ktV (rkV key m) (rconU m)) 16 i (by omega)
  rw [if_pos h4] at h
  subst hs
  have h3 : i = 1 ∨ i = 2 ∨ i = 3 := by omega
  rcases h3 with rfl | rfl | rfl <;> exact h

attribute [local go_sem] u8_xor'
set_option maxHeartbeats 2000000 in
theorem keys_walk (key : List UInt8) (hk : key.length = 16) (z : Int) (w : World) : Calls Try.prog 4 #[.agg (bvs key).toArray, .int .i64 z] w fun e w' => e = .returned (.bool true) ∧ Below w.heap.size w w' := by
  have hb := low_bd z 10 (by omega) (by omega)
  have HLw : Hid (∀ w : World, Calls Try.prog 16 #[.int .i64 z, .int .i64 10] w fun e w' => e = .returned (.int .i64 (lowV z 10)) ∧ w = w') := fun w => low_any z 10 w (by omega) (by omega)
  obtain ⟨m, hm⟩ : ∃ m : Nat, lowV z 10 = (m : Int) := ⟨(lowV z 10).toNat, by omega⟩
  rw [hm] at HLw hb
  clear hm
  obtain ⟨r, hr⟩ : ∃ r : Nat, (1 : Int) + (m : Int) = (r : Int) ∧ Hid (r = m + 1) := ⟨m + 1, by omega, rfl⟩
  obtain ⟨er, hrm⟩ := hr
  have hr11 : (r : Int) < 11 := by omega
  have hr1 : 1 ≤ r := by omega
  have Hk := Lib.hid hk
  have HL := Lib.hid (keysV_length key hk)
  have HZ := zero176v
  have heq : ∀ u : World, (binOp .eql 22 (.agg (bvs key).toArray) (.agg (bvs key).toArray)).run Try.prog u = .ok (.bool true) u := fun u => by
    rw [run_eql_bytes u 22 5 16 Try.underlying22 Try.underlying5 size1 key key hk hk]
    simp
  clear hk
  go_enter Try.func4, Try.ntmps4
  go_wp2_with (first
    | ((with_reducible refine wpList_load_blk rfl 22 (.tmp 2) rfl w.heap.size ?hx 22 key ?hg 16 5 Try.underlying22 16 sizeRow Hk.out ?_); (case hx => with_unfolding_all rfl); (case hg => exact heap_alloc_new _ _))
    | (go_at_call 9; (with_reducible refine (keys_any _ Hk.out _).mono ?_); rintro e1 w1 ⟨rfl, hb1⟩;
        have I1 : Hid (Blk w1 w.heap.size 22 key) := Blk.below (heap_alloc_new _ _) hb1;
        have B1 : Hid (Below w.heap.size w w1) := ((Below.refl _ _).alloc (Nat.le_refl _) _).trans (hb1.mono (by simp));
        clear hb1)
    | ((with_reducible refine wpList_store_blk rfl 24 (.tmp 5) (.tmp 12) rfl w1.heap.size (keysV key) ?hx ?hy 24 z176 ?hg 176 size176 HL.out z176_length ?_); (case hx => with_unfolding_all rfl); (case hy => with_unfolding_all rfl); (case hg => exact heap_alloc_new _ _); intro w2 K2 O2)
    | (go_at_call 16; (with_reducible refine (HLw.out _).mono ?_); rintro e3 w3 ⟨rfl, rfl⟩))
  obtain ⟨g5, eg5⟩ : ∃ g, w1.heap.size = g := ⟨_, rfl⟩
  have hg5 : w.heap.size < g5 := by rw [← eg5]; exact I1.out.lt
  have I2 : Hid (Blk w2 w.heap.size 22 key) := (I1.out.alloc _).only O2.out (by omega)
  have B2 : Hid (Below w.heap.size w w2) := (B1.out.alloc B1.out.size _).trans (O2.out.below (by simp; omega) (by omega))
  rw [eg5] at K2 ⊢
  have HG5 := Lib.hid hg5
  have HCell : Hid (∀ a i, a < 11 → i < 16 → w2.cell? ⟨g5, a * 16 + i, none⟩ = some (.int .u8 (bn ((rkV key a).getD i 0)))) := fun a i ha hi => by
    rw [K2.out.cell (a * 16 + i) (by rw [HL.out]; omega), keysV_get key Hk.out a i ha hi]
  clear I1 B1 O2 hg5 eg5
  go_loopw [7, 8] (fun c v wr => ∃ i : Nat, 1 ≤ i ∧ i ≤ r ∧ v = .int .i64 i ∧ c = .int .u8 (bn (rconU (i - 1))) ∧ w2 = wr) (fun _ v _ => r - (intOf v).toNat)
  case atStart => exact ⟨1, by omega, by omega, rfl, rfl, rfl⟩
  case round =>
    obtain ⟨i, hi1, hi, rfl, rfl, rfl⟩ := hrel
    by_cases hlt : i < r
    · have li : (i : Int) < (r : Int) := by omega
      have HE : Hid (dblV (rconU (i - 1)) = rconU (i + 1 - 1)) := by
        show _ = _
        obtain ⟨k, rfl⟩ : ∃ k, i = k + 1 := ⟨i - 1, by omega⟩
        rfl
      go_wp2_with (go_at_call 13; (with_reducible refine (dbl_any _ _).mono ?_); rintro e1 w1 ⟨rfl, rfl⟩; rw [HE.out])
      go_roundw
      case rel => exact ⟨i + 1, by omega, by omega, by go_num, rfl, by trivial⟩
      case measure => simp [intOf]; omega
    · obtain rfl : i = r := by omega
      obtain ⟨c, hc⟩ : ∃ c, rconU (i - 1) = c := ⟨_, rfl⟩
      rw [hc]
      have Hc : Hid (rconU m = c) := show _ = _ by rw [← hc, hrm.out]; rfl
      clear hc
      go_wp2_with fail
      go_loopw [9] (fun v wr => ∃ j : Nat, j ≤ 16 ∧ v = .int .i64 j ∧ w2 = wr) (fun v _ => 16 - (intOf v).toNat)
      case atStart => exact ⟨0, by omega, rfl, rfl⟩
      case round =>
        obtain ⟨j, hj, rfl, rfl⟩ := hrel
        by_cases hjt : j < 16
        · have lj : (j : Int) < 16 := by omega
          have lm : (m : Int) < 11 := by omega
          have em : (i : Int) - 1 = (m : Int) := by omega
          have hi11 : i < 11 := by omega
          have hm11 : m < 11 := by omega
          obtain ⟨x, hx⟩ : ∃ x, (rkV key m).getD j 0 = x := ⟨_, rfl⟩
          obtain ⟨y, hy⟩ : ∃ x, (rkV key i).getD j 0 = x := ⟨_, rfl⟩
          have ca : w2.cell? ⟨g5, m * 16 + j, none⟩ = some (.int .u8 (bn x)) := by rw [HCell.out m j hm11 hjt, hx]
          have cb : w2.cell? ⟨g5, i * 16 + j, none⟩ = some (.int .u8 (bn y)) := by rw [HCell.out i j hi11 hjt, hy]
          have hcase : 4 ≤ j ∨ j = 0 ∨ (1 ≤ j ∧ j < 4) := by omega
          rcases hcase with h4 | h0 | ⟨h1, h4⟩
          · obtain ⟨n, en, hn⟩ : ∃ n : Nat, (j : Int) - 4 = (n : Int) ∧ Hid (j - 4 = n) := ⟨j - 4, by omega, rfl⟩
            have ln : (n : Int) < 16 := by omega
            obtain ⟨v, hv⟩ : ∃ x, (rkV key i).getD n 0 = x := ⟨_, rfl⟩
            have cc : w2.cell? ⟨g5, i * 16 + n, none⟩ = some (.int .u8 (bn v)) := by rw [HCell.out i n hi11 (by omega), hv]
            have t1 : decide ((4 : Int) ≤ (j : Int)) = true := by simp; omega
            have t2 : (bn y != bn (x ^^^ v)) = false := by
              have e := key_hi key m j h4 hjt
              rw [← hrm.out, hn.out, hy, hx, hv] at e
              rw [e]; exact bne_self _
            clear hx hy hv
            go_wp2_with fail
            go_roundw
            case rel => exact ⟨j + 1, by omega, by go_num, by trivial⟩
            case measure => simp [intOf]; omega
          · obtain ⟨v, hv⟩ : ∃ x, (rkV key m).getD 13 0 = x := ⟨_, rfl⟩
            have cc : w2.cell? ⟨g5, m * 16 + 13, none⟩ = some (.int .u8 (bn v)) := by rw [HCell.out m 13 hm11 (by omega), hv]
            have t1 : decide ((4 : Int) ≤ (j : Int)) = false := by simp; omega
            have t0 : ((j : Int) == 0) = true := by simp; omega
            have t2 : (bn y != bn (x ^^^ boxV v ^^^ c)) = false := by
              have e := key_0 key m
              rw [h0] at hx hy
              rw [← hrm.out, hy, hx, hv, Hc.out] at e
              rw [e]; exact bne_self _
            have H0 := Lib.hid h0
            clear hx hy hv h0
            go_wp2_with (go_at_call 11; (with_reducible refine (box_any _ _).mono ?_); rintro e1 w1 ⟨rfl, rfl⟩)
            go_roundw
            case rel => exact ⟨j + 1, by omega, by go_num, by trivial⟩
            case measure => simp [intOf]; omega
          · obtain ⟨s, es, hs⟩ : ∃ s : Nat, ((j : Int) + 1).tmod 4 = (s : Int) ∧ Hid ((j + 1) % 4 = s) := ⟨(j + 1) % 4, by rw [show (j : Int) + 1 = ((j + 1 : Nat) : Int) by omega]; rfl, rfl⟩
            have ls : s < 4 := by have := hs.out; omega
            obtain ⟨q, eq, hq⟩ : ∃ q : Nat, (12 : Int) + (s : Int) = (q : Int) ∧ Hid (12 + s = q) := ⟨12 + s, by omega, rfl⟩
            have lq : (q : Int) < 16 := by omega
            obtain ⟨v, hv⟩ : ∃ x, (rkV key m).getD q 0 = x := ⟨_, rfl⟩
            have cc : w2.cell? ⟨g5, m * 16 + q, none⟩ = some (.int .u8 (bn v)) := by rw [HCell.out m q hm11 (by omega), hv]
            have t1 : decide ((4 : Int) ≤ (j : Int)) = false := by simp; omega
            have t0 : ((j : Int) == 0) = false := by simp; omega
            have t2 : (bn y != bn (x ^^^ boxV v)) = false := by
              have e := key_lo key m j q h1 h4 (by rw [hs.out]; exact hq.out)
              rw [← hrm.out, hy, hx, hv] at e
              rw [e]; exact bne_self _
            clear hx hy hv
            go_wp2_with (go_at_call 11; (with_reducible refine (box_any _ _).mono ?_); rintro e1 w1 ⟨rfl, rfl⟩)
            go_roundw
            case rel => exact ⟨j + 1, by omega, by go_num, by trivial⟩
            case measure => simp [intOf]; omega
        · obtain rfl : j = 16 := by omega
          have RG : Hid (w2.rangeAt g5 0 (bvs key)) := by
            have e := K2.out.rangeMid 0 16
            have e2 := keysV_part key Hk.out 0 (by omega)
            rw [Nat.zero_mul] at e2
            rw [e2, rkV] at e
            exact e
          go_wp2_with (first
            | ((with_reducible refine wpList_load_part rfl 22 (.tmp 76) rfl g5 0 ?hx key RG.out 16 5 Try.underlying22 16 sizeRow Hk.out ?_); (case hx => with_unfolding_all rfl))
            | ((with_reducible refine wpList_load_blk rfl 22 (.tmp 2) rfl w.heap.size ?hx 22 key I2.out 16 5 Try.underlying22 16 sizeRow Hk.out ?_); (case hx => with_unfolding_all rfl))
            | (go_at_call 15; (with_reducible refine (awake_any _).mono ?_); rintro e9 w9 ⟨rfl, hb9⟩))
          go_ret
          exact ⟨rfl, B2.out.trans (hb9.mono B2.out.size)⟩
end Go.Proofs.Ytgoigbclloackaa
