/-
  What every program answers that is one: 'awake' of the laws on header.
-/
import Derived.Test.YtonoljcgcfjkmaaHdL
import Derived.Test.YtonoljcgcfjkmaaHdF
import Derived.Test.YtonoljcgcfjkmaaHdK
import Derived.Test.YtonoljcgcfjkmaaOver
namespace Go.Proofs.Ytonoljcgcfjkmaa
open Go.RowKit
set_option linter.unusedVariables false

theorem awake_put : putR false 0 0 5 2 0 true false [0, 0, 0, 0, 0, 0, 0, 0] [] [] = ([97, 0, 0, 0, 0, 0, 0, 0, 0, 0, 5], 0) := by decide
theorem awake_get : getP [97, 0, 0, 0, 0, 0, 0, 0, 0, 0, 5] = ((⟨false, 0, 0, [0, 0, 0, 0, 0, 0, 0, 0], [], [], true, false, 5, 2⟩, 11, 0), 0) := by kernel_rfl
theorem made8 (u : World) : (Instr.makeSlice 23 (.int .i64 8) (.int .i64 8)).run Try.prog u = .ok (.slice (some ⟨u.heap.size, 0, none⟩) 8 8) (u.alloc (.cells (bvs [0, 0, 0, 0, 0, 0, 0, 0]).toArray 5)) := by
  have h := run_make_full 8 (by omega) u
  rw [made_zeros] at h
  exact h
theorem full_known (w : World) : Calls Try.prog 23 #[.int .u64 39730, .int .i64 2, .int .u64 2821665002, .bool true] w fun e w' => e = .returned (.int .u64 2821692210) ∧ w = w' := by
  have h := full2_any 39730 2821665002 true (by omega) (by omega) w
  have e : fullV 39730 2 2821665002 true = 2821692210 := by decide
  rw [e] at h
  exact h
theorem cut_known (w : World) : Calls Try.prog 21 #[.int .u64 11295746, .int .u64 11266227, .bool true] w fun e w' => e = .returned (.int .i64 2) ∧ w = w' := by
  have h := cut_any 11295746 11266227 true (by omega) (by omega) w
  have e : cutV 11295746 11266227 true = 2 := by decide
  rw [e] at h
  exact h
theorem may_none (w : World) : Calls Try.prog 14 #[.agg #[.bool false, .int .i64 0, .int .u32 0, .slice none 0 0, .slice none 0 0, .slice none 0 0, .bool false, .bool false, .int .u64 0, .int .i64 0]] w fun e w' => e = .returned (.bool false) ∧ Below w.heap.size w w' := by
  have h := may_any false 0 0 none 0 0 none 0 0 none 0 0 false false 0 0 w
  have e : decide (MayP false 0 0 0 0 0 false false 0 0) = false := by decide
  rw [e] at h
  exact h
set_option maxHeartbeats 8000000 in
set_option maxRecDepth 8000 in
theorem awake_any (w : World) : Calls Try.prog 9 #[] w fun e w' => e = .returned (.bool true) ∧ Below w.heap.size w w' := by
  have hmk := made8
  obtain ⟨vs, hvs⟩ : ∃ vs, hdrV false 0 0 (some ⟨w.heap.size, 0, none⟩) 8 8 none 0 0 none 0 0 true false 5 2 = vs := ⟨_, rfl⟩
  have HVS := Lib.hid hvs
  have HSZ : Hid ((Try.prog.info? 26).map (·.size) = some vs.length) := show _ = _ by rw [← hvs]; exact hdr_size
  obtain ⟨ls, hls⟩ : ∃ l : List UInt8, [97, 0, 0, 0, 0, 0, 0, 0, 0, 0, 5] = l := ⟨_, rfl⟩
  obtain ⟨zs, hzs⟩ : ∃ l : List UInt8, [0, 0, 0, 0, 0, 0, 0, 0] = l := ⟨_, rfl⟩
  have HLS := Lib.hid hls
  have HZS := Lib.hid hzs
  have HPUT : Hid (∀ u B, Sl u B (some ⟨w.heap.size, 0, none⟩) 8 zs → B ≤ u.heap.size → Calls Try.prog 10 #[.agg vs.toArray, .int .i64 0] u (Puts u (ls, 0))) := fun u B h hB => by
    have h1 := hput_any false 0 0 5 2 0 true false zs [] [] (by omega) (by omega) (some ⟨w.heap.size, 0, none⟩) 8 8 none 0 0 none 0 0 B u h Sl.nil Sl.nil hB
    rw [hvs, ← hzs, awake_put, hls] at h1
    exact h1
  have HGET : Hid (∀ (A : Option Addr) (c : Nat) (u : World), Sl u u.heap.size A 11 ls → 11 ≤ c → c ≤ maxLen → Calls Try.prog 12 #[.slice A 11 c] u (Gets u ((⟨false, 0, 0, zs, [], [], true, false, 5, 2⟩, 11, 0), 0))) := fun A c u h h1 h2 => by
    have h3 := hget_any ls A 11 c u.heap.size u h (Nat.le_refl _) h1 h2
    rw [← hls, awake_get, hzs] at h3
    exact h3
  have HMAY : Hid (∀ u, Calls Try.prog 14 #[.agg vs.toArray] u fun e w' => e = .returned (.bool true) ∧ Below u.heap.size u w') := fun u => by
    have h1 := may_any false 0 0 (some ⟨w.heap.size, 0, none⟩) 8 8 none 0 0 none 0 0 true false 5 2 u
    have e : decide (MayP false 0 0 8 0 0 true false 5 2) = true := by decide
    rw [e, hvs] at h1
    exact h1
  clear hvs hls hzs
  go_enter Try.func9, Try.ntmps9
  go_wp2_with ((with_reducible refine wpList_load_rw rfl 26 (.tmp 1) rfl (w.heap.size + 1) ?hx 26 vs ?hB _ Try.underlying26 rfl HSZ.out ?_); (case hx => with_unfolding_all rfl); (case hB => rw [← HVS.out]; exact heap_allocs w [_, _] 1 _ rfl))
  (with_reducible refine (HPUT.out _ (w.heap.size + 1) ?hs ?hb).mono ?_)
  case hs => exact Blk.sl (show Blk _ _ 5 zs by rw [← HZS.out]; exact heap_allocs w [_, _] 0 _ rfl) _ _ (by omega) (by rw [← HZS.out]; rfl)
  case hb => simp
  rintro e1 w1 ⟨A1, n1, d1, rfl, ho, hle, hc, hb⟩
  simp only at ho
  have hn1 := ho.len
  rw [← HLS.out] at hn1
  obtain rfl : n1 = 11 := by simpa using hn1.symm
  have R1 : Hid (Rw w1 (w.heap.size + 1) 26 vs) := (show Rw _ _ _ vs by rw [← HVS.out]; exact heap_allocs w [_, _] 1 _ rfl).below hb
  have Z1 : Hid (Blk w1 w.heap.size 5 zs) := (show Blk _ _ 5 zs by rw [← HZS.out]; exact heap_allocs w [_, _] 0 _ rfl).below hb
  have B1 : Hid (Below w.heap.size w w1) := (((Below.refl _ _).alloc (Nat.le_refl _) _).alloc (by simp) _).trans (hb.mono (by simp; omega))
  have O1 := Lib.hid ho
  have C1 : Hid (11 ≤ d1 ∧ d1 ≤ maxLen) := ⟨hle, hc⟩
  clear ho hle hc hb hn1
  go_wp2_with fail
  (with_reducible refine (HGET.out A1 d1 w1 O1.out.sl C1.out.1 C1.out.2).mono ?_)
  rintro e2 w2 ⟨hv, rfl, hw, hb⟩
  have R2 := Lib.hid (R1.out.below hb)
  have Z2 := Lib.hid (Z1.out.below hb)
  have B2 := Lib.hid (B1.out.trans (hb.mono B1.out.size))
  have O2 := Lib.hid (O1.out.below hb)
  have HW := Lib.hid hw
  have HLN : Hid (hv.length = 10) := by obtain ⟨_, _, _, _, _, _, _, _, _, rfl, _⟩ := hw; rfl
  have HSZ2 : Hid ((Try.prog.info? 26).map (·.size) = some hv.length) := show _ = _ by rw [HLN.out]; exact hdr_size
  have HL2 : Hid (hdr0.length = hv.length) := show _ = _ by rw [HLN.out]; rfl
  have HONE : Hid (∀ v ∈ hv, v.oneCell' = true) := by obtain ⟨_, _, _, _, _, _, _, _, _, rfl, _⟩ := hw; simp [Hid, Value.oneCell']
  clear hw hb
  obtain ⟨g1, rfl, _, hg1⟩ := O2.out.at_ (by omega)
  have HG1 := Lib.hid hg1
  clear hg1
  have cb : w2.cell? ⟨g1, 0, none⟩ = some (.int .u8 97) := by
    have h := O2.out.cell 0 (by rw [← HLS.out]; decide)
    rw [h]
    simp only [← HLS.out]
    rfl
  go_wp2_with (first
    | ((with_reducible refine wpList_store_rw rfl 26 (.tmp 4) (.tmp 18) rfl w2.heap.size hv ?hx ?hy 26 hdr0 ?hB HSZ2.out HL2.out HONE.out ?_); (case hx => with_unfolding_all rfl); (case hy => with_unfolding_all rfl); (case hB => exact heap_alloc_new w2 _); intro w3 R3 O3; have b3 : Below w2.heap.size w2 w3 := ((Below.refl _ _).alloc (Nat.le_refl _) _).trans (O3.out.below (by simp) (Nat.le_refl _)); have H3 := Lib.hid (R2.out.below b3); have Z3 := Lib.hid (Z2.out.below b3); have B3 := Lib.hid (B2.out.trans (b3.mono B2.out.size)); have cb3 := (b3.cell HG1.out).trans cb; have S3 := Lib.hid b3)
    | ((with_reducible refine wpList_load_rwG 48 rfl 26 (.tmp 4) rfl ?hw w2.heap.size ?hx 26 hv R3.out _ Try.underlying26 rfl HSZ2.out ?_); (case hw => rfl); (case hx => with_unfolding_all rfl))
    | ((with_reducible refine wpList_load_rwG 49 rfl 26 (.tmp 1) rfl ?hw (w.heap.size + 1) ?hx 26 vs H3.out _ Try.underlying26 rfl HSZ.out ?_); (case hw => rfl); (case hx => with_unfolding_all rfl)))
  have HSH : Hid (Calls Try.prog 17 #[.agg hv.toArray, .agg vs.toArray] w3 fun e w' => e = .returned (.bool true) ∧ Below w3.heap.size w3 w') := by
    obtain ⟨B1', m1, e1', B2', m2, e2', B3', m3, e3', hhv, ⟨o1, _, _⟩, ⟨o2, _, _⟩, ⟨o3, _, _⟩, _⟩ := HW.out
    have h1 := o1.len
    have h2 := o2.len
    have h3 := o3.len
    simp only [← HZS.out, List.length_cons, List.length_nil] at h1 h2 h3
    subst h1 h2 h3
    rw [hhv, ← HVS.out]
    have hz : Sl w3 w3.heap.size (some ⟨w.heap.size, 0, none⟩) 8 zs := Z3.out.sl _ _ Z3.out.lt (by rw [← HZS.out]; rfl)
    exact sameHeader_yes false 0 0 5 2 true false zs [] [] B1' 8 e1' B2' 0 e2' B3' 0 e3' (some ⟨w.heap.size, 0, none⟩) 8 none 0 none 0 w3 ((o1.below S3.out).sl) ((o2.below S3.out).sl) ((o3.below S3.out).sl) hz Sl.nil Sl.nil (by simp [maxLen]) (by simp [maxLen]) (by simp [maxLen])
  (with_reducible refine HSH.out.mono ?_)
  rintro e4 w4 ⟨rfl, b4⟩
  have H4 := Lib.hid (H3.out.below b4)
  have B4 := Lib.hid (B3.out.trans (b4.mono B3.out.size))
  clear b4
  go_wp2_with ((with_reducible refine wpList_load_rwG 53 rfl 26 (.tmp 1) rfl ?hw (w.heap.size + 1) ?hx 26 vs H4.out _ Try.underlying26 rfl HSZ.out ?_); (case hw => rfl); (case hx => with_unfolding_all rfl))
  (with_reducible refine (HMAY.out _).mono ?_)
  rintro e5 w5 ⟨rfl, b5⟩
  have B5 := Lib.hid (B4.out.trans (b5.mono B4.out.size))
  clear b5
  go_wp2_with fail
  (with_reducible refine (may_none _).mono ?_)
  rintro e6 w6 ⟨rfl, b6⟩
  have B6 := Lib.hid (B5.out.trans (b6.mono B5.out.size))
  clear b6
  go_wp2_with fail
  (with_reducible refine (full_known _).mono ?_)
  rintro e7 w7 ⟨rfl, rfl⟩
  go_wp2_with fail
  (with_reducible refine (cut_known _).mono ?_)
  rintro e8 w8 ⟨rfl, rfl⟩
  go_wp2_with fail
  go_ret
  exact ⟨rfl, B6.out⟩
end Go.Proofs.Ytonoljcgcfjkmaa
