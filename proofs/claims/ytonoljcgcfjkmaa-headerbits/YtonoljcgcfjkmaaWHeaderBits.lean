/-
  The walk through HeaderBits.
-/
import Derived.Test.YtonoljcgcfjkmaaHdM
import Derived.Deep.QuietTactic
namespace Go.Proofs.Ytonoljcgcfjkmaa
open Go.RowKit
set_option linter.unusedVariables false

theorem quiet_of {P : Program} {f : FuncId} {args : Array Value} {w : World} {n : Nat} {v : Value} (h : Calls P f args (w.drewN n) (Quiet v (w.drewN n))) :
    Calls P f args (w.drewN n) fun e w'' => e = .returned v ∧ ∃ m, w'' = w.drewN m := h.mono fun _ _ ⟨he, k, hk⟩ => ⟨he, n + k, by rw [hk, World.drewN_drewN]⟩
theorem lowB_getD (N : Nat) : ∀ (s j : Nat), j < s → (lowB N s).getD (s - 1 - j) 0 = UInt8.ofNat (N / 256 ^ j)
  | 0, j, h => by omega
  | s + 1, j, h => by
    by_cases hj : j = s
    · subst hj
      simp [lowB]
    · have h1 := lowB_getD N s j (by omega)
      rw [show s + 1 - 1 - j = (s - 1 - j) + 1 by omega]
      simpa [lowB] using h1
theorem whole8 (g : Nat) (u : World) : (Instr.sliceAt 45 (.pointer (some ⟨g, 0, none⟩)) none none none).run Try.prog u = .ok (.slice (some ⟨g, 0, none⟩) 8 8) u := run_whole u 45 5 8 Try.underlying45 size1 g
/-- the first byte of a short header -/
def sfV (S P : Bool) (nl : Nat) : Nat := 64 + (if S = true then 32 else 0) + (if P = true then 4 else 0) + (nl - 1)

set_option maxHeartbeats 8000000 in
set_option maxRecDepth 4000 in
theorem bits_walk (id : List UInt8) (hid : id.length = 8) (n0 : Nat) (hn0 : n0 < 18446744073709551616) (many : Int) (S P : Bool) (w : World) :
    Calls Try.prog 7 #[.agg (bvs id).toArray, .int .u64 (n0 : Int), .int .i64 many, .bool S, .bool P] w fun e w' => e = .returned (.bool true) ∧ Below w.heap.size w w' := by
  obtain ⟨num, hnum⟩ : ∃ num, n0 % 4611686018427387904 = num := ⟨_, rfl⟩
  have hb62 : num ≤ 4611686018427387903 := by omega
  have e1 : bits .and .u64 (n0 : Int) 4611686018427387903 = (num : Int) := by
    have h := u64_and_nat n0 4611686018427387903 hn0 (by omega)
    rw [show n0 &&& 4611686018427387903 = num by rw [← hnum]; exact Nat.and_two_pow_sub_one_eq_mod n0 62] at h
    exact h
  obtain ⟨i, hi4, hlow⟩ := low_nat many 4 (by omega) (by omega)
  obtain ⟨nl, hnl⟩ : ∃ nl, 1 + i = nl := ⟨_, rfl⟩
  have e2 : (1 : Int) + (i : Int) = (nl : Int) := by omega
  have hnl1 : 1 ≤ nl := by omega
  have hnl4 : nl ≤ 4 := by omega
  obtain ⟨N0, hN0⟩ : ∃ N0, 9 + nl = N0 := ⟨_, rfl⟩
  have e3 : (9 : Int) + (nl : Int) = (N0 : Int) := by omega
  obtain ⟨F, hF⟩ : ∃ F, sfV S P nl = F := ⟨_, rfl⟩
  obtain ⟨f0, hf0⟩ : ∃ f0, 63 + nl = f0 := ⟨_, rfl⟩
  have e4 : (63 : Int) + (nl : Int) = (f0 : Int) := by omega
  have hf0b : f0 < 70 := by omega
  have hFd : (F : Int) = (f0 : Int) + (if S = true then 32 else 0) + (if P = true then 4 else 0) := by
    rw [← hF, ← hf0]; unfold sfV; cases S <;> cases P <;> simp <;> omega
  obtain ⟨X, hX⟩ : ∃ X, [UInt8.ofNat F] ++ id ++ lowB num nl = X := ⟨_, rfl⟩
  have hput : putR false 0 0 num nl 0 S P id [] [] = (X, 0) := by
    unfold putR
    rw [if_pos ⟨⟨⟨by omega, by omega⟩, hb62, hid, by simp⟩, by omega, by omega⟩, if_neg (by simp), Int.toNat_natCast, ← hX, ← hF]
    rfl
  have HXL : Hid (X.length = N0) := show _ = _ by rw [← hX]; simp [hid, lowB_length]; omega
  have HPUT : Hid (∀ (A : Option Addr) (c : Nat) (u : World), Sl u u.heap.size A 8 id → Calls Try.prog 10 #[.agg #[.bool false, .int .i64 0, .int .u32 0, .slice A 8 c, .slice none 0 0, .slice none 0 0, .bool S, .bool P, .int .u64 (num : Int), .int .i64 (nl : Int)], .int .i64 0] u (Puts u (X, 0))) := fun A c u h => by
    have h1 := hput_any false 0 0 num nl 0 S P id [] [] (by omega) (by omega) A 8 c none 0 0 none 0 0 u.heap.size u h Sl.nil Sl.nil (Nat.le_refl _)
    rw [hput] at h1
    exact h1
  have HX9 : Hid ((X.drop 1).take 8 = id) := show _ = _ by rw [← hX]; simp [hid]
  have HXI : Hid (∀ j, j < nl → X.getD (N0 - 1 - j) 0 = UInt8.ofNat (num / 256 ^ j)) := fun j hj => by
    rw [← hX, ← lowB_getD num nl j hj]
    rw [List.getD_eq_getElem?_getD, List.getElem?_append_right (by simp [hid]; omega), List.getD_eq_getElem?_getD]
    congr 2
    simp [hid]
    omega
  have HX0 : Hid (X.getD 0 0 = UInt8.ofNat F) := show _ = _ by rw [← hX]; rfl
  have HLW : Hid (∀ u : World, Calls Try.prog 19 #[.int .i64 many, .int .i64 4] u fun e w' => e = .returned (.int .i64 (i : Int)) ∧ u = w') := hlow
  have HID := Lib.hid hid
  have hwh := fun g => whole8 g
  have hFb : F < 256 := by rw [← hF]; unfold sfV; cases S <;> cases P <;> simp <;> omega
  have HFd := Lib.hid hFd
  clear hnum hlow hnl hN0 hF hf0 hX hput hid hFd
  go_enter Try.func7, Try.ntmps7
  go_wp2_with (first
    | (go_at_call 19; (with_reducible refine (HLW.out _).mono ?_); rintro e w' ⟨rfl, rfl⟩)
    | (at_builtin; (with_reducible refine wpList_append_bytes rfl (.const (.slice none 0 0)) (.tmp 21) rfl (w.heap.size + 1) (.slice none 0 0) 0 [] rfl (Own.nil _ _) (w.heap.size + 1) (some ⟨w.heap.size, 0, none⟩) 8 8 id ?hx ?hr (by omega) ?hb _ (Below.refl _ _) ?_); (case hx => with_unfolding_all rfl); (case hr => exact Blk.sl (show Blk _ _ 45 id from heap_alloc_new w _) _ _ (by omega) HID.out); (case hb => simp); intro A2 c2 w2 ho2 hle2 hc2 hg2 hb2; simp only [Nat.zero_add, List.nil_append] at ho2 hle2))
  (with_reducible refine (HPUT.out A2 c2 w2 ho2.sl).mono ?_)
  rintro e3 w3 ⟨A3, n3, c3, rfl, ho3, hle3, hc3, hb3⟩
  simp only at ho3
  obtain rfl : n3 = N0 := by rw [← ho3.len, HXL.out]
  have hN13 : n3 ≤ 13 := by omega
  have hN10 : 10 ≤ n3 := by omega
  obtain ⟨g3, rfl, _, hg3⟩ := ho3.at_ (by omega)
  have Z3 : Hid (Blk w3 w.heap.size 45 id) := ((show Blk _ _ 45 id from (hb2.block w.heap.size (by omega)).trans (heap_alloc_new w _)).below hb3)
  have B3 : Hid (Below w.heap.size w w3) := (((Below.refl _ w).alloc (Nat.le_refl _) _).trans (hb2.mono (by omega))).trans (hb3.mono (by have := hb2.size; simp at this; omega))
  have S3 := Lib.hid ho3.sl
  obtain ⟨A4, eA4⟩ : ∃ v, (if c3 = 1 then (some ⟨g3, 0, none⟩ : Option Addr) else (some ⟨g3, 0, none⟩ : Option Addr).map (·.add 1)) = v := ⟨_, rfl⟩
  have hcut : ∀ u : World, (Instr.slice 23 (.slice (some ⟨g3, 0, none⟩) n3 c3) (some (.int .i64 1)) (some (.int .i64 9)) none).run Try.prog u = .ok (.slice A4 8 (c3 - 1)) u := fun u => by
    have h := run_cut2 u (some ⟨g3, 0, none⟩) n3 c3 1 9 (by omega) (by omega)
    rw [eA4] at h
    exact h
  have S4 : Hid (Sl w3 w3.heap.size A4 8 id) := by
    have h := (ho3.sl.drop (k := 1) (c := c3) (by omega) hle3).take (k := 8) (by omega)
    rw [eA4, HX9.out] at h
    exact h
  have HC0 : Hid (∀ j, j < n3 → w3.cell? ⟨g3, j, none⟩ = some (.int .u8 (bn (X.getD j 0)))) := fun j hj => by
    have h := S3.out.cellD j (by rw [HXL.out]; exact hj)
    rwa [Nat.zero_add] at h
  have tN : ((n3 : Int) != (n3 : Int)) = false := by simp
  have Hle := Lib.hid hle3
  clear ho3 hb3 hb2 hg2 ho2 hle2 hc2 eA4 hg3 hle3 hc3
  go_wp2_with fail
  go_quiet ((go_at_call 16; exact quiet_of (same_yes id id rfl _ _ 8 8 _ _ w3.heap.size w3.heap.size _ (S4.out.drewN _) ((Z3.out.sl _ _ Z3.out.lt HID.out).drewN _) (by simp [maxLen]))))
  have S5 := Lib.hid (S3.out.drewN nq)
  obtain ⟨w4, hw4⟩ : ∃ v, w3.drewN nq = v := ⟨_, rfl⟩
  have HC4 : Hid (∀ j, j < n3 → w4.cell? ⟨g3, j, none⟩ = some (.int .u8 (bn (X.getD j 0)))) := fun j hj => by rw [← hw4]; exact HC0.out j hj
  have B4 : Hid (Below w.heap.size w w4) := by rw [← hw4]; exact below_drewN B3.out nq
  rw [hw4]
  clear hw4 S5 HC0 S4 S3 Z3
  have c0 : w4.cell? ⟨g3, 0, none⟩ = some (.int .u8 (F : Int)) := by
    rw [HC4.out 0 (by omega), HX0.out]
    simp only [bn, UInt8.toNat_ofNat']
    rw [Nat.mod_eq_of_lt hFb]
  have hc0 : Hid (w4.cell? ⟨g3, 0, none⟩ = some (.int .u8 (F : Int))) := c0
  have hnb : num < 18446744073709551616 := by omega
  clear c0
  cases S <;> cases P
  · have hFd := HFd.out
    simp at hFd
    have tF : ((F : Int) == (F : Int)) = true := by simp
    have hb2 : n3 ≤ 9223372036854775807 := by omega
    clear HFd
    obtain rfl : F = f0 := by omega
    clear hFd
    go_wp2_with fail
    go_loopw [14] (fun v14 wr => ∃ j k : Nat, j ≤ nl ∧ v14 = .int .i64 j ∧ wr = w4.drewN k) (fun v14 _ => nl - (intOf v14).toNat)
    case atStart => exact ⟨0, 0, by omega, rfl, rfl⟩
    case round =>
      obtain ⟨j, k, hj, rfl, rfl⟩ := hrel
      by_cases hlt : j < nl
      · obtain ⟨jj, hjj⟩ : ∃ jj, n3 - 1 - j = jj := ⟨_, rfl⟩
        have e8 : (n3 : Int) - 1 - (j : Int) = (jj : Int) := by omega
        have hjn : jj < n3 := by omega
        obtain ⟨y, hy⟩ : ∃ y, num / 256 ^ j % 256 = y := ⟨_, rfl⟩
        have cj : w4.cell? ⟨g3, jj, none⟩ = some (.int .u8 (y : Int)) := by
          rw [HC4.out jj hjn, ← hjj, HXI.out j hlt]
          simp only [bn, UInt8.toNat_ofNat']
          rw [hy]
        have e9 : (num : Int) / 2 ^ (8 * j) % 256 = (y : Int) := by
          rw [← hy, Int.pow_mul]; simp
        have tY : ((y : Int) != (y : Int)) = false := by simp
        have lt1 : (jj : Int) < (n3 : Int) := by omega
        have hyb : y < 256 := by omega
        clear hjj hy
        go_wp2_with fail
        go_quiet (fail)
        go_wp2_with fail
        go_roundw
        case rel => exact ⟨j + 1, k + nq, by omega, by go_num, by simp⟩
        case measure => simp [intOf]; omega
      · have cw : (w4.drewN k).cell? ⟨g3, 0, none⟩ = some (.int .u8 (F : Int)) := hc0.out
        have BW : Hid (Below w.heap.size w (w4.drewN k)) := below_drewN B4.out k
        have hn0 : (0 : Int) < (n3 : Int) := by omega
        go_wp2_with (go_at_call 9; (with_reducible refine (awake_any _).mono ?_); rintro e w1 ⟨rfl, b1⟩)
        go_ret
        exact ⟨rfl, BW.out.trans (b1.mono BW.out.size)⟩
  · have hFd := HFd.out
    simp at hFd
    have tF : ((F : Int) == (F : Int)) = true := by simp
    have hb2 : n3 ≤ 9223372036854775807 := by omega
    clear HFd
    have e7 : (f0 : Int) + 4 = (F : Int) := by omega
    clear hFd
    go_wp2_with fail
    go_loopw [14] (fun v14 wr => ∃ j k : Nat, j ≤ nl ∧ v14 = .int .i64 j ∧ wr = w4.drewN k) (fun v14 _ => nl - (intOf v14).toNat)
    case atStart => exact ⟨0, 0, by omega, rfl, rfl⟩
    case round =>
      obtain ⟨j, k, hj, rfl, rfl⟩ := hrel
      by_cases hlt : j < nl
      · obtain ⟨jj, hjj⟩ : ∃ jj, n3 - 1 - j = jj := ⟨_, rfl⟩
        have e8 : (n3 : Int) - 1 - (j : Int) = (jj : Int) := by omega
        have hjn : jj < n3 := by omega
        obtain ⟨y, hy⟩ : ∃ y, num / 256 ^ j % 256 = y := ⟨_, rfl⟩
        have cj : w4.cell? ⟨g3, jj, none⟩ = some (.int .u8 (y : Int)) := by
          rw [HC4.out jj hjn, ← hjj, HXI.out j hlt]
          simp only [bn, UInt8.toNat_ofNat']
          rw [hy]
        have e9 : (num : Int) / 2 ^ (8 * j) % 256 = (y : Int) := by
          rw [← hy, Int.pow_mul]; simp
        have tY : ((y : Int) != (y : Int)) = false := by simp
        have lt1 : (jj : Int) < (n3 : Int) := by omega
        have hyb : y < 256 := by omega
        clear hjj hy
        go_wp2_with fail
        go_quiet (fail)
        go_wp2_with fail
        go_roundw
        case rel => exact ⟨j + 1, k + nq, by omega, by go_num, by simp⟩
        case measure => simp [intOf]; omega
      · have cw : (w4.drewN k).cell? ⟨g3, 0, none⟩ = some (.int .u8 (F : Int)) := hc0.out
        have BW : Hid (Below w.heap.size w (w4.drewN k)) := below_drewN B4.out k
        have hn0 : (0 : Int) < (n3 : Int) := by omega
        go_wp2_with (go_at_call 9; (with_reducible refine (awake_any _).mono ?_); rintro e w1 ⟨rfl, b1⟩)
        go_ret
        exact ⟨rfl, BW.out.trans (b1.mono BW.out.size)⟩
  · have hFd := HFd.out
    simp at hFd
    have tF : ((F : Int) == (F : Int)) = true := by simp
    have hb2 : n3 ≤ 9223372036854775807 := by omega
    clear HFd
    have e6 : (f0 : Int) + 32 = (F : Int) := by omega
    clear hFd
    go_wp2_with fail
    go_loopw [14] (fun v14 wr => ∃ j k : Nat, j ≤ nl ∧ v14 = .int .i64 j ∧ wr = w4.drewN k) (fun v14 _ => nl - (intOf v14).toNat)
    case atStart => exact ⟨0, 0, by omega, rfl, rfl⟩
    case round =>
      obtain ⟨j, k, hj, rfl, rfl⟩ := hrel
      by_cases hlt : j < nl
      · obtain ⟨jj, hjj⟩ : ∃ jj, n3 - 1 - j = jj := ⟨_, rfl⟩
        have e8 : (n3 : Int) - 1 - (j : Int) = (jj : Int) := by omega
        have hjn : jj < n3 := by omega
        obtain ⟨y, hy⟩ : ∃ y, num / 256 ^ j % 256 = y := ⟨_, rfl⟩
        have cj : w4.cell? ⟨g3, jj, none⟩ = some (.int .u8 (y : Int)) := by
          rw [HC4.out jj hjn, ← hjj, HXI.out j hlt]
          simp only [bn, UInt8.toNat_ofNat']
          rw [hy]
        have e9 : (num : Int) / 2 ^ (8 * j) % 256 = (y : Int) := by
          rw [← hy, Int.pow_mul]; simp
        have tY : ((y : Int) != (y : Int)) = false := by simp
        have lt1 : (jj : Int) < (n3 : Int) := by omega
        have hyb : y < 256 := by omega
        clear hjj hy
        go_wp2_with fail
        go_quiet (fail)
        go_wp2_with fail
        go_roundw
        case rel => exact ⟨j + 1, k + nq, by omega, by go_num, by simp⟩
        case measure => simp [intOf]; omega
      · have cw : (w4.drewN k).cell? ⟨g3, 0, none⟩ = some (.int .u8 (F : Int)) := hc0.out
        have BW : Hid (Below w.heap.size w (w4.drewN k)) := below_drewN B4.out k
        have hn0 : (0 : Int) < (n3 : Int) := by omega
        go_wp2_with (go_at_call 9; (with_reducible refine (awake_any _).mono ?_); rintro e w1 ⟨rfl, b1⟩)
        go_ret
        exact ⟨rfl, BW.out.trans (b1.mono BW.out.size)⟩
  · have hFd := HFd.out
    simp at hFd
    have tF : ((F : Int) == (F : Int)) = true := by simp
    have hb2 : n3 ≤ 9223372036854775807 := by omega
    clear HFd
    obtain ⟨f1, e6⟩ : ∃ f1 : Nat, (f0 : Int) + 32 = (f1 : Int) := ⟨f0 + 32, by omega⟩
    have e7 : (f1 : Int) + 4 = (F : Int) := by omega
    have hf1b : f1 < 200 := by omega
    clear hFd
    go_wp2_with fail
    go_loopw [14] (fun v14 wr => ∃ j k : Nat, j ≤ nl ∧ v14 = .int .i64 j ∧ wr = w4.drewN k) (fun v14 _ => nl - (intOf v14).toNat)
    case atStart => exact ⟨0, 0, by omega, rfl, rfl⟩
    case round =>
      obtain ⟨j, k, hj, rfl, rfl⟩ := hrel
      by_cases hlt : j < nl
      · obtain ⟨jj, hjj⟩ : ∃ jj, n3 - 1 - j = jj := ⟨_, rfl⟩
        have e8 : (n3 : Int) - 1 - (j : Int) = (jj : Int) := by omega
        have hjn : jj < n3 := by omega
        obtain ⟨y, hy⟩ : ∃ y, num / 256 ^ j % 256 = y := ⟨_, rfl⟩
        have cj : w4.cell? ⟨g3, jj, none⟩ = some (.int .u8 (y : Int)) := by
          rw [HC4.out jj hjn, ← hjj, HXI.out j hlt]
          simp only [bn, UInt8.toNat_ofNat']
          rw [hy]
        have e9 : (num : Int) / 2 ^ (8 * j) % 256 = (y : Int) := by
          rw [← hy, Int.pow_mul]; simp
        have tY : ((y : Int) != (y : Int)) = false := by simp
        have lt1 : (jj : Int) < (n3 : Int) := by omega
        have hyb : y < 256 := by omega
        clear hjj hy
        go_wp2_with fail
        go_quiet (fail)
        go_wp2_with fail
        go_roundw
        case rel => exact ⟨j + 1, k + nq, by omega, by go_num, by simp⟩
        case measure => simp [intOf]; omega
      · have cw : (w4.drewN k).cell? ⟨g3, 0, none⟩ = some (.int .u8 (F : Int)) := hc0.out
        have BW : Hid (Below w.heap.size w (w4.drewN k)) := below_drewN B4.out k
        have hn0 : (0 : Int) < (n3 : Int) := by omega
        go_wp2_with (go_at_call 9; (with_reducible refine (awake_any _).mono ?_); rintro e w1 ⟨rfl, b1⟩)
        go_ret
        exact ⟨rfl, BW.out.trans (b1.mono BW.out.size)⟩
end Go.Proofs.Ytonoljcgcfjkmaa
