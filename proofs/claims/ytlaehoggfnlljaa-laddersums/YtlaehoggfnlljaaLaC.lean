/-
  The document's Busy, Slot, Slots. What every program answers that is one.
-/
import Derived.Test.YtlaehoggfnlljaaLaB
namespace Go.Proofs.Ytlaehoggfnlljaa
open Go.RowKit Go.Lib Go.Maps
set_option linter.unusedVariables false

theorem busy_one (x t : Int) : busyL [x] t = (decide (0 ≤ x) && decide (x ≤ t) && decide (t - 24 < x)) := by unfold busyL; simp
set_option maxHeartbeats 800000 in
theorem rbusy_any {w : World} {A : Option Addr} {n c B : Nat} {zs : List Int} (hZ : SlI w B A n zs) (hn : n ≤ 900000) (t : Int) (ht : (Lit.int .i64 t).wf = true) :
    Calls Try.prog 15 #[.slice A n c, .int .i64 t] w fun e w' => e = .returned (.bool (busyL zs t)) ∧ w = w' := by
  obtain ⟨ht0, ht1⟩ := bd_of_i64 ht
  have HL := Lib.hid hZ.1
  go_enter Try.func15, Try.ntmps15
  go_wp2_with fail
  go_loopw [5] (fun i wr => ∃ k : Nat, i = .int .i64 k ∧ k ≤ n ∧ wr = w ∧ Hid (busyL (zs.take k) t = false)) (fun i _ => n - (intOf i).toNat)
  case atStart => exact ⟨0, rfl, by omega, rfl, by show _ = _; rw [List.take_zero]; rfl⟩
  case round =>
    obtain ⟨k, rfl, hk, rfl, HF⟩ := hrel
    by_cases hlt : k < n
    · obtain ⟨g, off, rfl, hg, cx⟩ := hZ.at_ hlt
      obtain ⟨x, hx⟩ : ∃ x, zs.getD k 0 = x := ⟨_, rfl⟩
      rw [hx] at cx
      have HM : Hid (x ∈ zs) := by
        show x ∈ zs
        rw [← hx, List.getD_eq_getElem?_getD]
        simp [show k < zs.length by have := HL.out; omega]
      have HT : Hid (busyL (zs.take (k + 1)) t = busyL [x] t) := by
        show _ = _
        rw [take_more zs (by have := HL.out; omega), busy_append, HF.out, hx]
        rfl
      clear hx
      by_cases a1 : 0 ≤ x
      · by_cases a2 : x ≤ t
        · by_cases a3 : t - 24 < x
          · have hb : Hid (busyL zs t = true) := busy_of HM.out a1 a2 a3
            go_wp2_with fail
            go_ret
            exact ⟨by rw [hb.out]; rfl, rfl⟩
          · have hb : Hid (busyL [x] t = false) := by show _ = _; rw [busy_one]; simp; omega
            go_wp2_with fail
            go_roundw
            case rel => exact ⟨k + 1, by go_num, by omega, trivial, by show _ = _; rw [HT.out]; exact hb.out⟩
            case measure => simp [intOf]; omega
        · have hb : Hid (busyL [x] t = false) := by show _ = _; rw [busy_one]; simp; omega
          go_wp2_with fail
          go_roundw
          case rel => exact ⟨k + 1, by go_num, by omega, trivial, by show _ = _; rw [HT.out]; exact hb.out⟩
          case measure => simp [intOf]; omega
      · have hb : Hid (busyL [x] t = false) := by show _ = _; rw [busy_one]; simp; omega
        go_wp2_with fail
        go_roundw
        case rel => exact ⟨k + 1, by go_num, by omega, trivial, by show _ = _; rw [HT.out]; exact hb.out⟩
        case measure => simp [intOf]; omega
    · obtain rfl : k = n := by omega
      have hb : Hid (busyL zs t = false) := by have := HF.out; rw [List.take_of_length_le (by have := HL.out; omega)] at this; exact this
      go_wp2_with fail
      go_ret
      exact ⟨by rw [hb.out]; rfl, rfl⟩
theorem slow_ref (h : Int) {t : Int} (h0 : 0 ≤ t) (h1 : t ≤ 9223372036854775807) :
    (t % 4 == (IntKind.u64.wrap (4 - IntKind.u64.wrap ((IntKind.u64.wrap h).tmod 2 * 2))).tmod 4) = slowL h t := by
  have hx : 0 ≤ IntKind.u64.wrap h := by simp [IntKind.wrap, IntKind.bits, IntKind.signed] <;> omega
  have e2 : (IntKind.u64.wrap h).tmod 2 = (IntKind.u64.wrap h) % 2 := Int.tmod_eq_emod_of_nonneg hx
  have e3 : IntKind.u64.wrap h % 2 = h % 2 := by simp [IntKind.wrap, IntKind.bits, IntKind.signed] <;> omega
  rw [e2, e3]
  have e4 : IntKind.u64.wrap (4 - IntKind.u64.wrap (h % 2 * 2)) = 4 - h % 2 * 2 := by simp [IntKind.wrap, IntKind.bits, IntKind.signed] <;> omega
  rw [e4, Int.tmod_eq_emod_of_nonneg (by omega)]
  unfold slowL
  rw [Bool.eq_iff_iff]
  simp
  omega
theorem rslot_any {w : World} {A : Option Addr} {n c B : Nat} {zs : List Int} (hZ : SlI w B A n zs) (hn : n ≤ 900000) (h t : Int) (ht : (Lit.int .i64 t).wf = true) :
    Calls Try.prog 17 #[.int .i64 h, .slice A n c, .int .i64 t] w fun e w' => e = .returned (.bool (slotL h zs t)) ∧ w = w' := by
  have HB := Lib.hid (rbusy_any (c := c) hZ hn t ht)
  obtain ⟨ht0, ht1⟩ := bd_of_i64 ht
  clear ht hZ
  by_cases h0 : t < 0
  · have hb : Hid (slotL h zs t = false) := by show slotL h zs t = false; unfold slotL; simp; omega
    go_enter Try.func17, Try.ntmps17
    go_wp2
    go_ret
    exact ⟨by rw [hb.out]; rfl, rfl⟩
  · have h1 : 0 ≤ t := by omega
    have HS := Lib.hid (slow_ref h h1 ht1)
    obtain ⟨z, hz⟩ : ∃ z, busyL zs t = z := ⟨_, rfl⟩
    have hb : Hid (slotL h zs t = (z || slowL h t)) := by show slotL h zs t = _; unfold slotL; simp [h1, hz]
    rw [hz] at HB
    clear hz
    cases z
    · go_enter Try.func17, Try.ntmps17
      go_wp2_with fail
      (with_reducible refine HB.out.mono ?_)
      rintro e2 w2 ⟨rfl, rfl⟩
      go_wp2_with fail
      go_ret
      refine ⟨?_, rfl⟩
      rw [hb.out, ← HS.out]
      rfl
    · go_enter Try.func17, Try.ntmps17
      go_wp2_with fail
      (with_reducible refine HB.out.mono ?_)
      rintro e2 w2 ⟨rfl, rfl⟩
      go_wp2_with fail
      go_ret
      exact ⟨by rw [hb.out]; rfl, rfl⟩
set_option maxHeartbeats 1000000 in
theorem rslots_any {w : World} {A : Option Addr} {n c B : Nat} {zs : List Int} (hZ : SlI w B A n zs) (hB : B ≤ w.heap.size) (hn : n ≤ 900000) (h f t : Int)
    (hf : (Lit.int .i64 f).wf = true) (ht : (Lit.int .i64 t).wf = true) :
    Calls Try.prog 13 #[.int .i64 h, .slice A n c, .int .i64 f, .int .i64 t] w fun e w' => (∃ A' c', e = .returned (.slice A' (slotsV h zs f t).length c') ∧ OwnI w' w.heap.size (.slice A' (slotsV h zs f t).length c') (slotsV h zs f t).length (slotsV h zs f t)) ∧ Below w.heap.size w w' := by
  have hf1 := bd_of_i64 hf
  have ht1 := bd_of_i64 ht
  obtain ⟨hf0, hf1⟩ := hf1
  obtain ⟨ht0, ht1⟩ := ht1
  by_cases h1 : t < f
  · have hs : slotsV h zs f t = [] := slotsV_none (.inl h1)
    rw [hs]
    clear hs
    go_enter Try.func13, Try.ntmps13
    go_wp2
    go_ret
    exact ⟨⟨none, 0, rfl, OwnI.nil _ _⟩, Below.refl _ _⟩
  · have hle : f ≤ t := by omega
    obtain ⟨d, hd⟩ : ∃ d, t - f = d := ⟨_, rfl⟩
    have hfar := far_wrap hle hf0 ht1
    rw [hd] at hfar
    by_cases h2 : 10000 ≤ d
    · have hs : slotsV h zs f t = [] := slotsV_none (.inr (by omega))
      rw [hs]
      clear hs
      go_enter Try.func13, Try.ntmps13
      go_wp2
      go_ret
      exact ⟨⟨none, 0, rfl, OwnI.nil _ _⟩, Below.refl _ _⟩
    · have hs : Hid (slotsV h zs f t = slotsL h zs f (d + 1).toNat) := by
        show _ = _
        rw [slotsV_some hle (by omega), hd]
      obtain ⟨m, hm⟩ : ∃ m : Nat, d + 1 = (m : Int) := ⟨(d + 1).toNat, by omega⟩
      have hs : Hid (slotsV h zs f t = slotsL h zs f m) := by
        show _ = _
        rw [hs.out, show (d + 1).toNat = m by omega]
      have hm0 : m ≤ 10000 := by omega
      have hd0 : 0 ≤ d := by omega
      have e1 : wrap64 (t - f) = d := by unfold wrap64; omega
      have HD1 := Lib.hid hm
      have HF := Lib.hid (show ∀ i : Nat, i < m → f + (i : Int) ≤ t by intro i hi; omega)
      rw [hs.out]
      clear hs hm h1
      go_enter Try.func13, Try.ntmps13
      go_wp2_with fail
      go_loopw [9, 10] (fun v i ws => ∃ (j q : Nat) (A' : Option Addr) (c' : Nat), i = .int .i64 j ∧ v = .slice A' q c' ∧ j ≤ m ∧ Hid (q = (slotsL h zs f j).length) ∧ Hid (OwnI ws w.heap.size (.slice A' q c') q (slotsL h zs f j)) ∧ Hid (Below w.heap.size w ws)) (fun _ i _ => m - (intOf i).toNat)
      case atStart => exact ⟨0, 0, none, 0, rfl, rfl, by omega, rfl, OwnI.nil _ _, Below.refl _ _⟩
      case round =>
        obtain ⟨j, q, A', c', rfl, rfl, hj, HQ, HO, HB3⟩ := hrel
        by_cases hjd : (j : Int) ≤ d
        · have hjm : j < m := by have := HD1.out; omega
          have hj1 := HF.out j hjm
          have hwx : (Lit.int .i64 (f + (j : Int))).wf = true := wf_of (by omega) (by omega)
          obtain ⟨x, hx⟩ : ∃ x, f + (j : Int) = x := ⟨_, rfl⟩
          have hwr : wrap64 x = x := by unfold wrap64; omega
          rw [hx] at hwx
          have HS := Lib.hid (rslot_any (c := c) (hZ.below (HB3.out.mono hB) (Nat.le_refl _)) hn h x hwx)
          have hq : q ≤ 10000 := by have := slots_len h zs f j; have := HQ.out; omega
          have HN := Lib.hid (slots_succ h zs f j)
          rw [hx] at HN
          obtain ⟨z, hz⟩ : ∃ z, slotL h zs x = z := ⟨_, rfl⟩
          rw [hz] at HN HS
          clear hz hwx hj1
          cases z
          · go_wp2_with fail
            (with_reducible refine HS.out.mono ?_)
            rintro e2 w2 ⟨rfl, rfl⟩
            clear HS
            go_wp2_with fail
            go_roundw
            case rel =>
              have hn1 : slotsL h zs f (j + 1) = slotsL h zs f j := by rw [HN.out]; simp
              exact ⟨j + 1, q, A', c', by go_num, rfl, by omega, by show _ = _; rw [hn1]; exact HQ.out, by rw [hn1]; exact HO.out, HB3.out⟩
            case measure => simp [intOf]; omega
          · go_wp2_with fail
            (with_reducible refine HS.out.mono ?_)
            rintro e2 w2 ⟨rfl, rfl⟩
            clear HS
            go_wp2_with (first
              | (at_builtin; refine wpList_append_ints rfl _ _ rfl w.heap.size (.slice A' q c') q _ rfl (HO.out.alloc _) _ _ 1 1 [x] rfl (slI_one wr x) (by omega) (by have := HB3.out.size; simp; omega) ?_; intro A2 c2 w3 HO3 HC3 HB4)
              | go_in)
            go_roundw
            case rel =>
              have hn1 : slotsL h zs f (j + 1) = slotsL h zs f j ++ [x] := by rw [HN.out]; simp
              exact ⟨j + 1, q + 1, A2, c2, by go_num, rfl, by omega, by show _ = _; rw [hn1]; have := HQ.out; simp; omega, by rw [hn1]; exact HO3.out, HB3.out.trans (((Below.refl _ _).alloc (by have := HB3.out.size; omega) _).trans HB4.out)⟩
            case measure => simp [intOf]; omega
        · obtain rfl : j = m := by have := HD1.out; omega
          go_wp2_with fail
          go_ret
          have hq := HQ.out
          subst hq
          exact ⟨⟨A', c', rfl, HO.out⟩, HB3.out⟩
theorem slI_lit (w : World) (l : List Int) : SlI (w.alloc (.cells (ivs l).toArray 3)) (w.heap.size + 1) (some ⟨w.heap.size, 0, none⟩) l.length l := by
  refine ⟨rfl, fun _ => ⟨w.heap.size, 0, rfl, by omega, fun j hj => ?_⟩⟩
  have h := ivs_at l j hj
  have e := heap_alloc_new w (.cells (ivs l).toArray 3)
  unfold World.cell?
  rw [e]
  simpa using h
end Go.Proofs.Ytlaehoggfnlljaa
