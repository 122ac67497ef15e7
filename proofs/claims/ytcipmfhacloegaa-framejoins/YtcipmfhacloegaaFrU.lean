/-
  What every program answers that is one: 'awake' of the laws on frame.
-/
import Derived.Test.YtcipmfhacloegaaFrT
import Derived.Lib.SlBytesConst
namespace Go.Proofs.Ytcipmfhacloegaa
open Go.RowKit
set_option linter.unusedVariables false

def awF : Fr := ⟨8, 0, 0, [], 2, 70, true, [97, 98], [], []⟩
theorem awF_may : MayF awF := by
  unfold MayF awF
  simp [plainF, maxV]
theorem awF_put : putF awF = [15, 2, 64, 70, 2, 97, 98] := by kernel_rfl
theorem awF_get : getR [15, 2, 64, 70, 2, 97, 98] = ((awF, 7), 0) := by kernel_rfl
theorem awF_kind : getR [3] = ((Fr.of 0, 0), 6) := by kernel_rfl
theorem awF_all : allX [0, 0, 1] = .ok [padF 2, Fr.of 1] := by kernel_rfl
theorem awF_n : FrN awF := ⟨by decide, by decide, by decide, by decide, by decide, fun x hx => by cases hx⟩
/-- the two bytes of awake's frame, at block g -/
def DatA (g : Nat) (u : World) : Prop := Sl u (g + 1) (some ⟨g, 0, none⟩) 2 [97, 98] ∧ g + 1 ≤ u.heap.size
theorem DatA.below {g : Nat} {u u' : World} (h : DatA g u) (hb : Below u.heap.size u u') : DatA g u' := ⟨h.1.below (hb.mono h.2), Nat.le_trans h.2 hb.size⟩
theorem datA_lit (w : World) (o : Obj) : DatA w.heap.size ((w.alloc (.cells #[.int .u8 97, .int .u8 98] 5 (2, 3))).alloc o) := by
  refine ⟨⟨rfl, fun _ => ⟨w.heap.size, 0, rfl, by omega, fun j hj => ?_⟩⟩, by simp⟩
  have hc := (World.cell?_of_block (a := ⟨w.heap.size, 0 + j, none⟩) (Below.heap_alloc (w.alloc (.cells #[.int .u8 97, .int .u8 98] 5 (2, 3))) o w.heap.size (by simp)))
  rw [hc, Nat.zero_add, cell_of_row _ w.heap.size j #[.int .u8 97, .int .u8 98] 5 (2, 3) (heap_alloc_new w _)]
  have : j = 0 ∨ j = 1 := by simp at hj; omega
  rcases this with rfl | rfl <;> rfl
set_option maxHeartbeats 8000000 in
set_option maxRecDepth 8000 in
theorem awake_any (w : World) : Calls Try.prog 11 #[] w fun e w' => e = .returned (.bool true) ∧ Below w.heap.size w w' := by
  obtain ⟨p, hp⟩ : ∃ p : Fp, { Fp.nil with da := some ⟨w.heap.size, 0, none⟩, dn := 2, dc := 2 } = p := ⟨_, rfl⟩
  obtain ⟨vs, hvs⟩ : ∃ vs, frV awF p = vs := ⟨_, rfl⟩
  have HVS : Hid (vs = [.int .i64 8, .int .u64 0, .int .u64 0, .slice none 0 0, .int .u64 2, .int .u64 70, .bool true, .slice (some ⟨w.heap.size, 0, none⟩) 2 2, .slice none 0 0, .slice none 0 0]) := show _ = _ by rw [← hvs, ← hp]; rfl
  have HSZ : Hid ((Try.prog.info? 26).map (·.size) = some vs.length) := show _ = _ by rw [← hvs]; exact fr_size
  have HFL : Hid (∀ u : World, DatA w.heap.size u → FrL u u.heap.size awF p) := fun u hu => by
    rw [← hp]
    have hs : Sl u u.heap.size (some ⟨w.heap.size, 0, none⟩) 2 [97, 98] := hu.1.more hu.2
    exact ⟨SlR.nil, hs, Sl.nil, Sl.nil, ⟨Nat.le_refl _, by simp [Fp.nil, maxLen]⟩, ⟨Nat.le_refl _, by simp [maxLen]⟩, ⟨Nat.le_refl _, by simp [Fp.nil, maxLen]⟩, ⟨Nat.le_refl _, by simp [Fp.nil, maxLen]⟩⟩
  obtain ⟨ls, hls⟩ : ∃ l : List UInt8, [15, 2, 64, 70, 2, 97, 98] = l := ⟨_, rfl⟩
  have HLS : Hid (ls.length = 7) := show _ = _ by rw [← hls]; rfl
  have hmay : (MayF awF → ls = putF awF) ∧ (¬ MayF awF → ls = []) := ⟨fun _ => by rw [awF_put, hls], fun h => absurd awF_may h⟩
  have HPUT : Hid (∀ u : World, DatA w.heap.size u → Calls Try.prog 12 #[.agg vs.toArray] u (MakesB u ls)) := fun u hu => by
    rw [← hvs]
    exact fput_any awF p u.heap.size u (Nat.le_refl _) (HFL.out u hu) awF_n ls hmay
  have HLEN : Hid (∀ u : World, DatA w.heap.size u → Calls Try.prog 17 #[.agg vs.toArray] u fun e w' => e = .returned (.int .i64 7) ∧ Below u.heap.size u w') := fun u hu => by
    rw [← hvs]
    have h := flen_any awF p u.heap.size u (Nat.le_refl _) (HFL.out u hu) awF_n ls hmay
    rw [HLS.out] at h
    exact h
  have HMAY : Hid (∀ u : World, DatA w.heap.size u → Calls Try.prog 14 #[.agg vs.toArray] u fun e w' => e = .returned (.bool true) ∧ Below u.heap.size u w') := fun u hu => by
    rw [← hvs]
    exact may_any awF p u.heap.size u (Nat.le_refl _) (HFL.out u hu) awF_n true (by simp [awF_may])
  have HELI : Hid (∀ u : World, Calls Try.prog 18 #[.agg vs.toArray] u fun e w' => e = .returned (.bool true) ∧ Below u.heap.size u w') := fun u => by
    rw [← hvs]
    exact elic_any awF p u true (by decide)
  have HSAM : Hid (∀ (u : World) (q : Fp), DatA w.heap.size u → FrL u u.heap.size awF q → Calls Try.prog 19 #[.agg vs.toArray, .agg (frV awF q).toArray] u fun e w' => e = .returned (.bool true) ∧ Below u.heap.size u w') := fun u q hu hq => by
    rw [← hvs]
    exact fsame_any awF awF p q u.heap.size u (Nat.le_refl _) (HFL.out u hu) hq true (by simp)
  have HGET : Hid (∀ (A : Option Addr) (c : Nat) (u : World), Sl u u.heap.size A 7 ls → 7 ≤ c → c ≤ maxLen → Calls Try.prog 21 #[.slice A 7 c] u (GetsF u ((awF, 7), 0))) := fun A c u h h1 h2 => by
    have h3 := fget_any ls A 7 c u.heap.size u h (Nat.le_refl _) h1 h2
    rw [← hls, awF_get] at h3
    exact h3
  have HGET3 : Hid (∀ u : World, Calls Try.prog 21 #[.slice (some ⟨u.heap.size, 0, none⟩) 1 1] (u.alloc (.cells #[.int .u8 3] 5)) (GetsF (u.alloc (.cells #[.int .u8 3] 5)) ((Fr.of 0, 0), 6))) := fun u => by
    have h3 := fget_any [3] (some ⟨u.heap.size, 0, none⟩) 1 1 (u.heap.size + 1) (u.alloc (.cells #[.int .u8 3] 5)) (sl_lit u [3] _ 1 rfl rfl) (by simp) (by omega) (by simp [maxLen])
    rw [awF_kind] at h3
    exact h3
  have HALL : Hid (∀ u : World, Calls Try.prog 24 #[.slice (some ⟨u.heap.size, 0, none⟩) 3 3] (u.alloc (.cells #[.int .u8 0, .int .u8 0, .int .u8 1] 5)) (AllsF (u.alloc (.cells #[.int .u8 0, .int .u8 0, .int .u8 1] 5)) (.ok [padF 2, Fr.of 1]))) := fun u => by
    have h3 := fall_any [0, 0, 1] (some ⟨u.heap.size, 0, none⟩) 3 3 (u.heap.size + 1) (u.alloc (.cells #[.int .u8 0, .int .u8 0, .int .u8 1] 5)) (sl_lit u [0, 0, 1] _ 3 rfl rfl) (by simp) (by omega) (by simp [maxLen])
    rw [awF_all] at h3
    exact h3
  clear hvs hls hp hmay
  have hcv := Lib.run_convert_bytes_const (P := Try.prog) w 24 5 #[.int .u8 97, .int .u8 98] 2 2 Try.underlying24 Try.underlying5
  simp only [List.size_toArray, List.length_cons, List.length_nil, Nat.zero_add, Nat.reduceAdd] at hcv
  go_enter Try.func11, Try.ntmps11
  go_wp2_with ((with_reducible refine wpList_load_rw rfl 26 (.tmp 1) rfl (w.heap.size + 1) ?hx 26 vs ?hB _ Try.underlying26 rfl HSZ.out ?_); (case hx => with_unfolding_all rfl); (case hB => rw [HVS.out]; exact heap_allocs w [_, _] 1 _ rfl))
  (with_reducible refine (HPUT.out _ ?hs).mono ?_)
  case hs => exact datA_lit w _
  rintro e1 w1 ⟨A1, n1, d1, rfl, ho, hb⟩
  have hn1 := ho.len
  rw [HLS.out] at hn1
  subst hn1
  have R1 : Hid (Rw w1 (w.heap.size + 1) 26 vs) := (show Rw _ _ _ vs by rw [HVS.out]; exact heap_allocs w [_, _] 1 _ rfl).below hb
  have Z1 : Hid (DatA w.heap.size w1) := (datA_lit w _).below hb
  have B1 : Hid (Below w.heap.size w w1) := (((Below.refl _ _).alloc (Nat.le_refl _) _).alloc (by simp) _).trans (hb.mono (by simp; omega))
  have O1 := Lib.hid ho
  clear ho hb
  go_wp2_with fail
  (with_reducible refine (HGET.out A1 d1 w1 O1.out.sl O1.out.bnd.1 O1.out.bnd.2).mono ?_)
  rintro e2 w2 ⟨q, rfl, hfo, hb⟩
  simp only at hfo
  simp only
  have R2 := Lib.hid (R1.out.below hb)
  have Z2 := Lib.hid (Z1.out.below hb)
  have B2 := Lib.hid (B1.out.trans (hb.mono B1.out.size))
  have F2 := Lib.hid hfo
  have HSZ2 := Lib.hid (frV_size awF q)
  have HONE := Lib.hid (frV_one awF q)
  have HL0 : Hid (fr0.length = (frV awF q).length) := rfl
  have HSAQ := Lib.hid (fun u => HSAM.out u q)
  obtain ⟨us, hus⟩ : ∃ us, frV awF q = us := ⟨_, rfl⟩
  rw [hus] at HSZ2 HONE HL0 HSAQ ⊢
  clear hfo hb hus
  go_wp2_with ((with_reducible refine wpList_store_rw rfl 26 (.tmp 2) (.tmp 17) rfl w2.heap.size us ?hx ?hy 26 fr0 ?hB HSZ2.out HL0.out HONE.out ?_); (case hx => with_unfolding_all rfl); (case hy => with_unfolding_all rfl); (case hB => exact heap_alloc_new w2 _); intro w3 Q3 O3; have b3 : Below w2.heap.size w2 w3 := ((Below.refl _ _).alloc (Nat.le_refl _) _).trans (O3.out.below (by simp) (Nat.le_refl _)); have R3 := Lib.hid (R2.out.below b3); have Z3 := Lib.hid (Z2.out.below b3); have B3 := Lib.hid (B2.out.trans (b3.mono B2.out.size)); have F3 := Lib.hid (F2.out.below b3); clear b3)
  (with_reducible refine (HGET3.out w3).mono ?_)
  rintro e4 w4 ⟨q2, rfl, hfo, hb⟩
  simp only
  have b4 : Below w3.heap.size w3 w4 := ((Below.refl _ _).alloc (Nat.le_refl _) _).trans (hb.mono (by simp))
  have R4 := Lib.hid (R3.out.below b4)
  have Z4 := Lib.hid (Z3.out.below b4)
  have Q4 := Lib.hid (Q3.out.below b4)
  have B4 := Lib.hid (B3.out.trans (b4.mono B3.out.size))
  have F4 := Lib.hid (F3.out.below b4)
  have HSZ3 := Lib.hid (frV_size (Fr.of 0) q2)
  have HONE3 := Lib.hid (frV_one (Fr.of 0) q2)
  have HL3 : Hid (fr0.length = (frV (Fr.of 0) q2).length) := rfl
  generalize frV (Fr.of 0) q2 = xs at HSZ3 HONE3 HL3 ⊢
  clear hfo hb b4
  go_wp2_with ((with_reducible refine wpList_store_rw rfl 26 (.tmp 5) (.tmp 23) rfl w4.heap.size xs ?hx ?hy 26 fr0 ?hB HSZ3.out HL3.out HONE3.out ?_); (case hx => with_unfolding_all rfl); (case hy => with_unfolding_all rfl); (case hB => exact heap_alloc_new w4 _); intro w5 Q5 O5; have b5 : Below w4.heap.size w4 w5 := ((Below.refl _ _).alloc (Nat.le_refl _) _).trans (O5.out.below (by simp) (Nat.le_refl _)); have R5 := Lib.hid (R4.out.below b5); have Z5 := Lib.hid (Z4.out.below b5); have G5 := Lib.hid (Q4.out.below b5); have B5 := Lib.hid (B4.out.trans (b5.mono B4.out.size)); have F5 := Lib.hid (F4.out.below b5); clear b5)
  (with_reducible refine (HALL.out w5).mono ?_)
  rintro e6 w6 ⟨A6, n6, c6, fps, rfl, hof, hmp, hb⟩
  have b6 : Below w5.heap.size w5 w6 := ((Below.refl _ _).alloc (Nat.le_refl _) _).trans (hb.mono (by simp))
  have R6 := Lib.hid (R5.out.below b6)
  have Z6 := Lib.hid (Z5.out.below b6)
  have G6 := Lib.hid (G5.out.below b6)
  have B6 := Lib.hid (B5.out.trans (b6.mono B5.out.size))
  have F6 := Lib.hid (F5.out.below b6)
  have hn6 := hof.len
  have hl6 : fps.length = 2 := by
    have := congrArg List.length hmp
    simpa using this
  obtain rfl : n6 = 2 := by omega
  obtain ⟨⟨f1, p1⟩, ⟨f2, p2⟩, rfl⟩ : ∃ a b, fps = [a, b] := by
    match fps, hl6 with
    | [a, b], _ => exact ⟨a, b, rfl⟩
  have hf1 : f1 = padF 2 := by
    have h1 : [f1, f2] = [padF 2, Fr.of 1] := hmp
    injection h1
  subst hf1
  obtain ⟨g6, rfl, _, hg6, hat⟩ := hof.at_ (by omega)
  have HAT : Hid (∀ u : World, Below w6.heap.size w6 u → u.rangeAt g6 0 (frV (padF 2) p1)) := fun u hu => by
    have h1 := hat 0 (by simp)
    intro j v hv
    exact (Below.cell hu (p := ⟨g6, 0 + j, none⟩) hg6).trans (by simpa using h1 j v hv)
  clear hof hmp hb b6 hl6 hn6 hat
  go_wp2_with (first | ((with_reducible refine wpList_load_rwG 38 rfl 26 (.tmp 1) rfl ?hw (w.heap.size + 1) ?hx 26 vs R6.out _ Try.underlying26 rfl HSZ.out ?_); (case hw => rfl); (case hx => with_unfolding_all rfl)) | ((with_reducible refine wpList_load_rwG 39 rfl 26 (.tmp 2) rfl ?hw w2.heap.size ?hx 26 us G6.out _ Try.underlying26 rfl HSZ2.out ?_); (case hw => rfl); (case hx => with_unfolding_all rfl)))
  (with_reducible refine (HSAQ.out w6 Z6.out F6.out.l).mono ?_)
  rintro e7 w7 ⟨rfl, b7⟩
  have R7 := Lib.hid (R6.out.below b7)
  have Z7 := Lib.hid (Z6.out.below b7)
  have B7 := Lib.hid (B6.out.trans (b7.mono B6.out.size))
  have C7 := Lib.hid b7
  have hN : w7.cell? ⟨g6, 1, none⟩ = some (.int .u64 2) := by
    have := HAT.out w7 b7 1 (.int .u64 2) rfl
    simpa using this
  clear b7
  go_wp2_with ((with_reducible refine wpList_load_rwG 63 rfl 26 (.tmp 1) rfl ?hw (w.heap.size + 1) ?hx 26 vs R7.out _ Try.underlying26 rfl HSZ.out ?_); (case hw => rfl); (case hx => with_unfolding_all rfl))
  (with_reducible refine (HELI.out w7).mono ?_)
  rintro e8 w8 ⟨rfl, b8⟩
  have R8 := Lib.hid (R7.out.below b8)
  have Z8 := Lib.hid (Z7.out.below b8)
  have B8 := Lib.hid (B7.out.trans (b8.mono B7.out.size))
  have C8 := Lib.hid (C7.out.trans (b8.mono C7.out.size))
  clear b8 hN
  have HSZ4 := Lib.hid (frV_size (padF 2) p1)
  have HEL2 := Lib.hid (fun u => elic_any (padF 2) p1 u false (by decide))
  have HA8 := Lib.hid (HAT.out w8 C8.out)
  obtain ⟨ys, hys⟩ : ∃ ys, frV (padF 2) p1 = ys := ⟨_, rfl⟩
  rw [hys] at HSZ4 HEL2 HA8
  clear hys
  go_wp2_with ((with_reducible refine wpList_load_midG 69 rfl 26 (.tmp 68) rfl ?hw g6 0 ?hx ys HA8.out _ Try.underlying26 rfl HSZ4.out ?_); (case hw => rfl); (case hx => with_unfolding_all rfl))
  (with_reducible refine (HEL2.out w8).mono ?_)
  rintro e9 w9 ⟨rfl, b9⟩
  have R9 := Lib.hid (R8.out.below b9)
  have Z9 := Lib.hid (Z8.out.below b9)
  have B9 := Lib.hid (B8.out.trans (b9.mono B8.out.size))
  clear b9
  go_wp2_with ((with_reducible refine wpList_load_rwG 74 rfl 26 (.tmp 1) rfl ?hw (w.heap.size + 1) ?hx 26 vs R9.out _ Try.underlying26 rfl HSZ.out ?_); (case hw => rfl); (case hx => with_unfolding_all rfl))
  (with_reducible refine (HLEN.out w9 Z9.out).mono ?_)
  rintro e10 w10 ⟨rfl, b10⟩
  have R10 := Lib.hid (R9.out.below b10)
  have Z10 := Lib.hid (Z9.out.below b10)
  have B10 := Lib.hid (B9.out.trans (b10.mono B9.out.size))
  clear b10
  go_wp2_with ((with_reducible refine wpList_load_rwG 79 rfl 26 (.tmp 1) rfl ?hw (w.heap.size + 1) ?hx 26 vs R10.out _ Try.underlying26 rfl HSZ.out ?_); (case hw => rfl); (case hx => with_unfolding_all rfl))
  (with_reducible refine (HMAY.out w10 Z10.out).mono ?_)
  rintro e11 w11 ⟨rfl, b11⟩
  go_wp2_with fail
  go_ret
  exact ⟨rfl, B10.out.trans (b11.mono B10.out.size)⟩
end Go.Proofs.Ytcipmfhacloegaa
