/-
  The contract of Keys.
-/
import Derived.Test.YtkeleehkjllgeaaAesD
namespace Go.Proofs.Ytkeleehkjllgeaa
open Go.RowKit
set_option linter.unusedVariables false

theorem rows_length {f : Nat → List UInt8} (m : Nat) (hf : ∀ i, (f i).length = m) (L : List Nat) : (L.flatMap f).length = L.length * m := by
  induction L with
  | nil => simp
  | cons a r ih => rw [List.flatMap_cons, List.length_append, hf, ih, List.length_cons, Nat.succ_mul, Nat.add_comm]
theorem rows_part {f : Nat → List UInt8} (m : Nat) (hf : ∀ i, (f i).length = m) : ∀ (L : List Nat) (k : Nat), k < L.length → ((L.flatMap f).drop (k * m)).take m = f (L.getD k 0)
  | [], k, h => absurd h (by simp)
  | a :: r, 0, h => by rw [List.flatMap_cons, Nat.zero_mul, List.drop_zero, List.take_left' (hf a)]; rfl
  | a :: r, k + 1, h => by
    rw [List.flatMap_cons, Nat.succ_mul, Nat.add_comm, List.drop_append, List.drop_of_length_le (by rw [hf]; omega), List.nil_append, hf, Nat.add_sub_cancel_left]
    exact rows_part m hf r k (by simpa using h)
/-- zeros, under a name that no rule opens -/
def z176 : List UInt8 := List.replicate 176 0
theorem z176_length : z176.length = 176 := List.length_replicate
/-- the round keys, one behind the other -/
def keysV (key : List UInt8) : List UInt8 := (List.range 11).flatMap (rkV key)
theorem keysV_length (key : List UInt8) (h : key.length = 16) : (keysV key).length = 176 := rows_length 16 (rkV_length key h) (List.range 11)
theorem keysV_part (key : List UInt8) (h : key.length = 16) (k : Nat) (hk : k < 11) : ((keysV key).drop (k * 16)).take 16 = rkV key k := by
  have e := rows_part 16 (rkV_length key h) (List.range 11) k (by simpa using hk)
  rw [show (List.range 11).getD k 0 = k by simp [List.getD_eq_getElem?_getD, hk]] at e
  exact e
theorem keysV_get (key : List UInt8) (h : key.length = 16) (k i : Nat) (hk : k < 11) (hi : i < 16) : (keysV key).getD (k * 16 + i) 0 = (rkV key k).getD i 0 := by
  rw [← keysV_part key h k hk, List.getD_eq_getElem?_getD, List.getD_eq_getElem?_getD, List.getElem?_take, if_pos hi, List.getElem?_drop]
theorem size176 : (Try.prog.info? 60).map (·.size) = some 176 := by kernel_rfl
theorem zero176 : (Try.prog.info? 60).map (fun i => i.zero.map Value.cells) = some (some (List.replicate 176 (Value.int .u8 0)).toArray) := by kernel_rfl
theorem zero176v (u : World) : (zeroValue 60).run Try.prog u = .ok (.agg (bvs z176).toArray) u := (zero_of_info (n := 176) (by kernel_rfl)).1 u
theorem keys_first (key : List UInt8) (h : key.length = 16) : key ++ List.replicate 160 0 = mixr (keysV key) z176 16 := by
  have e := keysV_part key h 0 (by omega)
  rw [Nat.zero_mul, List.drop_zero] at e
  unfold mixr z176
  rw [e, List.drop_replicate, rkV]
theorem keys_next (key : List UInt8) (h : key.length = 16) (k : Nat) (hk : k < 11) : splice (mixr (keysV key) z176 (k * 16)) (k * 16) (rkV key k) = mixr (keysV key) z176 ((k + 1) * 16) := by
  have hl := rkV_length key h k
  rw [mixr_splice _ _ _ _ (by rw [keysV_length key h, z176_length]) (by rw [hl, z176_length]; omega) (by rw [hl]; exact keysV_part key h k hk), hl]
  congr 1
  omega

set_option maxHeartbeats 2000000 in
theorem keys_any (key : List UInt8) (hk : key.length = 16) (w : World) :
    Calls Try.prog 40 #[.agg (bvs key).toArray] w fun e w' => e = .returned (.agg (bvs (keysV key)).toArray) ∧ Below w.heap.size w w' := by
  have Hk := Lib.hid hk
  have HL := Lib.hid (keysV_length key hk)
  have hb : Try.prog.built 60 [(0, .agg (bvs key).toArray)] = some (bvs (mixr (keysV key) z176 16)).toArray := by
    rw [built_first 60 22 11 16 176 Try.underlying60 zero176 sizeRow (bvs key) (by rw [bvs_length, hk]) (by omega), ← keys_first key hk, zeros_bvs, ← bvs_append]
  have HZ := zero176v
  have HBt := Lib.hid hb
  have HM : Hid (∀ i, (mixr (keysV key) z176 i).length = 176) := fun i => by rw [mixr_length _ _ _ (by rw [keysV_length key hk, z176_length]), z176_length]
  clear hk hb
  go_enter Try.func40, Try.ntmps40
  go_wp2_with (first
    | ((with_reducible refine wpList_load_blk rfl 22 (.tmp 1) rfl w.heap.size ?hx 22 key ?hg 16 5 Try.underlying22 16 sizeRow Hk.out ?_); (case hx => with_unfolding_all rfl); (case hg => exact heap_allocs w [_, _] 0 _ rfl))
    | ((with_reducible refine wpList_build_one rfl 60 0 (.tmp 6) rfl (.agg (bvs key).toArray) ?hx (bvs (mixr (keysV key) z176 16)).toArray HBt.out ?_); (case hx => with_unfolding_all rfl))
    | ((with_reducible refine wpList_store_blk rfl 60 (.tmp 3) (.tmp 7) rfl (w.heap.size + 1 + 1) (mixr (keysV key) z176 16) ?hx ?hy 60 z176 ?hg 176 size176 (HM.out _) z176_length ?_); (case hx => with_unfolding_all rfl); (case hy => with_unfolding_all rfl); (case hg => exact heap_allocs w [_, _, _] 2 _ rfl); intro w1 H1 HO1))
  have R1 : Hid (Blk w1 (w.heap.size + 1) 60 z176) := Blk.only (heap_allocs w [_, _, _] 1 _ rfl) HO1.out (by omega)
  have B1 : Hid (Below w.heap.size w w1) := ((((Below.refl _ _).alloc (Nat.le_refl _) _).alloc (by simp) _).alloc (by simp; omega) _).trans (HO1.out.below (by simp; omega) (by omega))
  clear HO1
  go_loopw [4, 5] (fun e v wr => ∃ k : Nat, 1 ≤ k ∧ k ≤ 11 ∧ v = .int .i64 k ∧ e = .int .u8 (bn (rconU (k - 1))) ∧ Hid (Blk wr (w.heap.size + 1 + 1) 60 (mixr (keysV key) z176 (k * 16))) ∧ Hid (Blk wr (w.heap.size + 1) 60 z176) ∧ Hid (Below w.heap.size w wr)) (fun _ v _ => 11 - (intOf v).toNat)
  case atStart => exact ⟨1, by omega, by omega, rfl, rfl, H1, R1, B1⟩
  case round =>
    clear H1 R1 B1
    obtain ⟨k, hk1, hk, rfl, rfl, H0, H1, HB⟩ := hrel
    by_cases hlt : k < 11
    · obtain ⟨m, em, hm⟩ : ∃ m : Nat, (k : Int) - 1 = (m : Int) ∧ Hid (k - 1 = m) := ⟨k - 1, by omega, rfl⟩
      have lm : (m : Int) < 11 := by omega
      have lk : (k : Int) < 11 := by omega
      obtain ⟨r, hr⟩ : ∃ r, rconU (k - 1) = r := ⟨_, rfl⟩
      rw [hr]
      rw [hm.out] at hr
      have RG : Hid (wr.rangeAt (w.heap.size + 1 + 1) (m * 16) (bvs (rkV key m))) := by
        have e := H0.out.rangeMid (m * 16) 16
        rw [mixr_part _ _ _ _ _ (by rw [HL.out, z176_length]) (by rw [z176_length]; omega) (by have := hm.out; omega), keysV_part key Hk.out m (by omega)] at e
        exact e
      have HR := Lib.hid (rkV_length key Hk.out m)
      have HN : Hid (nkUp (rkV key m) (ktV (rkV key m) r) 16 = rkV key k) := by
        show _ = _
        rw [show k = m + 1 by have := hm.out; omega, rkV, hr]
      have HE : Hid (dblV r = rconU (k + 1 - 1)) := by
        show _ = _
        rw [show k + 1 - 1 = m + 1 by have := hm.out; omega, rconU, hr]
      have HR2 := Lib.hid (rkV_length key Hk.out k)
      clear hr
      go_wp2_with (first
        | ((with_reducible refine wpList_load_part rfl 22 (.tmp 15) rfl (w.heap.size + 1 + 1) (m * 16) ?hx (rkV key m) RG.out 16 5 Try.underlying22 16 sizeRow HR.out ?_); (case hx => with_unfolding_all rfl))
        | (go_at_call 48; (with_reducible refine (nextKey_any _ _ HR.out _).mono ?_); rintro e1 w1 ⟨rfl, hb1⟩; rw [HN.out]; have G0 : Hid (Blk w1 (w.heap.size + 1 + 1) 60 (mixr (keysV key) z176 (k * 16))) := H0.out.below hb1; have G1 : Hid (Blk w1 (w.heap.size + 1) 60 z176) := H1.out.below hb1; have GB : Hid (Below w.heap.size w w1) := HB.out.trans (hb1.mono HB.out.size); clear hb1)
        | ((with_reducible refine wpList_store_part rfl 22 (.tmp 19) (.tmp 18) rfl (w.heap.size + 1 + 1) (k * 16) (rkV key k) ?hx ?hy 60 (mixr (keysV key) z176 (k * 16)) G0.out 16 sizeRow HR2.out ?hl ?_); (case hx => with_unfolding_all rfl); (case hy => with_unfolding_all rfl); (case hl => rw [HM.out]; omega); rw [keys_next key Hk.out k hlt]; intro w2 H2 HO2)
        | (go_at_call 49; (with_reducible refine (dbl_any _ _).mono ?_); rintro e1 w3 ⟨rfl, rfl⟩; rw [HE.out]))
      go_roundw
      case rel =>
        exact ⟨k + 1, by omega, by omega, by go_num, rfl, H2, G1.out.only HO2.out (by omega), GB.out.trans (HO2.out.below GB.out.size (by omega))⟩
      case measure => simp [intOf]; omega
    · obtain rfl : k = 11 := by omega
      rw [mixr_full _ _ _ (by rw [HL.out, z176_length]) (by rw [z176_length]; omega)] at H0
      go_wp2_with (first
        | ((with_reducible refine wpList_load_blk rfl 60 (.tmp 3) rfl (w.heap.size + 1 + 1) ?hx 60 (keysV key) H0.out 11 22 Try.underlying60 176 size176 HL.out ?_); (case hx => with_unfolding_all rfl))
        | ((with_reducible refine wpList_store_blk rfl 60 (.tmp 2) (.tmp 22) rfl (w.heap.size + 1) (keysV key) ?hx ?hy 60 z176 H1.out 176 size176 HL.out z176_length ?_); (case hx => with_unfolding_all rfl); (case hy => with_unfolding_all rfl); intro w2 H2 HO2))
      refine ret_blk Try.results40 (w.heap.size + 1) 60 (keysV key) 11 22 rfl H2.out Try.underlying60 176 size176 HL.out rfl ⟨rfl, ?_⟩
      exact HB.out.trans (HO2.out.below HB.out.size (by omega))
end Go.Proofs.Ytkeleehkjllgeaa
