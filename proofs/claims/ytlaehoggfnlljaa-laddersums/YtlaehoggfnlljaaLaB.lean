/-
  Package ladder: Slots. The document's Busy, Slot, Slots. What every program answers that is one.
-/
import Derived.Test.YtlaehoggfnlljaaLaA
namespace Go.Proofs.Ytlaehoggfnlljaa
open Go.RowKit Go.Lib Go.Maps
set_option linter.unusedVariables false

theorem far_wrap {f t : Int} (h : f ≤ t) (hf : -9223372036854775808 ≤ f) (ht : t ≤ 9223372036854775807) : IntKind.u64.wrap (IntKind.u64.wrap t - IntKind.u64.wrap f) = t - f := by
  simp [IntKind.wrap, IntKind.bits, IntKind.signed]
  omega
theorem getD_wf {l : List Int} (h : ∀ x ∈ l, (Lit.int .i64 x).wf = true) (i : Nat) : (Lit.int .i64 (l.getD i 0)).wf = true := by
  rw [List.getD_eq_getElem?_getD]
  cases e : l[i]? with
  | none => rfl
  | some x => exact h x (List.mem_of_getElem? e)
theorem take_more (l : List Int) {i : Nat} (h : i < l.length) : l.take (i + 1) = l.take i ++ [l.getD i 0] := by
  rw [List.take_succ_eq_append_getElem h]
  simp [h]
set_option maxHeartbeats 1000000 in
theorem slots_any {w : World} {A : Option Addr} {n c B : Nat} {zs : List Int} (hZ : SlI w B A n zs) (hB : B ≤ w.heap.size) (hw : ∀ x ∈ zs, (Lit.int .i64 x).wf = true) (hn : n ≤ 900000) (h f t : Int)
    (hf : (Lit.int .i64 f).wf = true) (ht : (Lit.int .i64 t).wf = true) :
    Calls Try.prog 11 #[.int .i64 h, .slice A n c, .int .i64 f, .int .i64 t] w fun e w' => (∃ A' c', e = .returned (.slice A' (slotsV h zs f t).length c') ∧ OwnI w' w.heap.size (.slice A' (slotsV h zs f t).length c') (slotsV h zs f t).length (slotsV h zs f t)) ∧ Below w.heap.size w w' := by
  have hf1 := bd_of_i64 hf
  have ht1 := bd_of_i64 ht
  obtain ⟨hf0, hf1⟩ := hf1
  obtain ⟨ht0, ht1⟩ := ht1
  by_cases h1 : t < f
  · have hs : slotsV h zs f t = [] := slotsV_none (.inl h1)
    rw [hs]
    clear hs
    go_enter Try.func11, Try.ntmps11
    go_wp2
    go_ret
    exact ⟨⟨none, 0, rfl, OwnI.nil _ _⟩, Below.refl _ _⟩
  · have hle : f ≤ t := by omega
    obtain ⟨d, hd⟩ : ∃ d, t - f = d := ⟨_, rfl⟩
    have hfar := far_wrap hle hf0 ht1
    rw [hd] at hfar
    by_cases h2 : 10000 ≤ d
    · have hs : slotsV h zs f t = [] := slotsV_none (.inr (by omega))
      rw [hs]
      clear hs
      go_enter Try.func11, Try.ntmps11
      go_wp2
      go_ret
      exact ⟨⟨none, 0, rfl, OwnI.nil _ _⟩, Below.refl _ _⟩
    · have hs : Hid (slotsV h zs f t = slotsL h zs f (d + 1).toNat) := by
        show _ = _
        rw [slotsV_some hle (by omega), hd]
      obtain ⟨m, hm⟩ : ∃ m : Nat, d + 1 = (m : Int) := ⟨(d + 1).toNat, by omega⟩
      have hs : Hid (slotsV h zs f t = slotsL h zs f m) := by
        show _ = _
        rw [hs.out, show (d + 1).toNat = m by omega]
      have hm0 : m ≤ 10000 := by omega
      have hd0 : 0 ≤ d := by omega
      have e1 : wrap64 (t - f) = d := by unfold wrap64; omega
      have HD1 := Lib.hid hm
      have HW := Lib.hid hw
      have HF := Lib.hid (show ∀ i : Nat, i < m → f + (i : Int) ≤ t by intro i hi; omega)
      rw [hs.out]
      clear hs hw hm h1
      go_enter Try.func11, Try.ntmps11
      go_wp2_with fail
      (with_reducible refine (new_any w h).mono ?_)
      rintro e1 w1 ⟨rfl, l1, b1⟩
      have L1 := Lib.hid l1
      have B1 := Lib.hid b1
      clear l1 b1
      go_wp2_with fail
      go_loopw [11, 29] (fun _ i wr => ∃ k : Nat, i = .int .i64 k ∧ k ≤ n ∧ Hid (La wr (w.heap.size + 1) w.heap.size h (zs.take k)) ∧ Hid (Below w.heap.size w wr)) (fun _ i _ => n - (intOf i).toNat)
      case atStart => exact ⟨0, rfl, by omega, by rw [List.take_zero]; exact L1.out, B1.out⟩
      case round =>
        obtain ⟨k, rfl, hk, HL, HB⟩ := hrel
        have hzn := hZ.1
        by_cases hlt : k < n
        · obtain ⟨g, off, rfl, hg, cx⟩ := hZ.at_ hlt
          have cx' : wr.cell? ⟨g, off + k, none⟩ = some (.int .i64 (zs.getD k 0)) := (HB.out.cell (p := ⟨g, off + k, none⟩) (by simp only; omega)).trans cx
          obtain ⟨x, hx⟩ : ∃ x, zs.getD k 0 = x := ⟨_, rfl⟩
          have hwx : (Lit.int .i64 x).wf = true := by rw [← hx]; exact getD_wf HW.out k
          have HT : Hid (zs.take (k + 1) = zs.take k ++ [x]) := by show _ = _; rw [take_more zs (by omega), hx]
          rw [hx] at cx'
          have HA := Lib.hid (ask_any HL.out x hwx (by rw [List.length_take]; omega))
          clear hx cx hwx
          go_wp2_with fail
          (with_reducible refine HA.out.mono ?_)
          rintro e2 w2 ⟨rfl, l2, g2⟩
          have L2 := Lib.hid l2
          have G2 := Lib.hid g2
          clear l2 g2 HA
          go_wp2_with fail
          go_roundw
          case rel => exact ⟨k + 1, by go_num, by omega, by rw [HT.out]; exact L2.out, HB.out.grown G2.out HB.out.size (fun j hj => by cases hj; exact Nat.le_refl _)⟩
          case measure => simp [intOf]; omega
        · obtain rfl : k = n := by omega
          have HL2 : Hid (La wr (w.heap.size + 1) w.heap.size h zs) := by have := HL.out; rwa [List.take_of_length_le (by omega)] at this
          have HB2 := Lib.hid HB.out
          clear HL HB L1 B1 hzn
          obtain ⟨w9, rfl⟩ : ∃ w9 : World, w9 = wr := ⟨wr, rfl⟩
          go_wp2_with fail
          go_loopw [12, 13, 41] (fun v _ i ws => ∃ (j q : Nat) (A' : Option Addr) (c' : Nat), i = .int .i64 j ∧ v = .slice A' q c' ∧ j ≤ m ∧ Hid (q = (slotsL h zs f j).length) ∧ Hid (OwnI ws w9.heap.size (.slice A' q c') q (slotsL h zs f j)) ∧ Hid (Below w9.heap.size w9 ws)) (fun _ _ i _ => m - (intOf i).toNat)
          case atStart => exact ⟨0, 0, none, 0, rfl, rfl, by omega, rfl, OwnI.nil _ _, Below.refl _ _⟩
          case round =>
            obtain ⟨j, q, A', c', rfl, rfl, hj, HQ, HO, HB3⟩ := hrel
            by_cases hjd : (j : Int) < d + 1
            · have hjm : j < m := by have := HD1.out; omega
              have hj1 := HF.out j hjm
              have hwx : (Lit.int .i64 (f + (j : Int))).wf = true := wf_of (by omega) (by omega)
              obtain ⟨x, hx⟩ : ∃ x, f + (j : Int) = x := ⟨_, rfl⟩
              have hwr : wrap64 x = x := by unfold wrap64; omega
              rw [hx] at hwx
              have HS := Lib.hid (slot_any (HL2.out.below HB3.out) x hwx)
              have hq : q ≤ 10000 := by have := slots_len h zs f j; have := HQ.out; omega
              have HN := Lib.hid (slots_succ h zs f j)
              rw [hx] at HN
              obtain ⟨z, hz⟩ : ∃ z, slotL h zs x = z := ⟨_, rfl⟩
              rw [hz] at HN HS
              clear hz hwx hj1
              cases z
              · go_wp2_with fail
                (with_reducible refine HS.out.mono ?_)
                rintro e2 w2 ⟨rfl, b2⟩
                have B2 := Lib.hid b2
                clear b2 HS
                go_wp2_with fail
                go_roundw
                case rel =>
                  have hn1 : slotsL h zs f (j + 1) = slotsL h zs f j := by rw [HN.out]; simp
                  exact ⟨j + 1, q, A', c', by go_num, rfl, by omega, by show _ = _; rw [hn1]; exact HQ.out, by rw [hn1]; exact HO.out.below B2.out, HB3.out.trans (B2.out.mono HB3.out.size)⟩
                case measure => simp [intOf]; omega
              · go_wp2_with fail
                (with_reducible refine HS.out.mono ?_)
                rintro e2 w2 ⟨rfl, b2⟩
                have B2 := Lib.hid b2
                have HO2 := Lib.hid (HO.out.below b2)
                clear b2 HS HO
                go_wp2_with (first
                  | (at_builtin; (refine wpList_append_ints rfl _ _ rfl w9.heap.size (.slice A' q c') q _ rfl (HO2.out.alloc _) _ _ 1 1 [x] rfl (slI_one w2 x) (by omega) (by have := HB3.out.size; have := B2.out.size; simp; omega) ?_; intro A2 c2 w3 HO3 HC3 HB4))
                  | go_in)
                go_roundw
                case rel =>
                  have hn1 : slotsL h zs f (j + 1) = slotsL h zs f j ++ [x] := by rw [HN.out]; simp
                  exact ⟨j + 1, q + 1, A2, c2, by go_num, rfl, by omega, by show _ = _; rw [hn1]; have := HQ.out; simp; omega, by rw [hn1]; exact HO3.out, (HB3.out.trans (B2.out.mono HB3.out.size)).trans (((Below.refl _ _).alloc (by have := HB3.out.size; have := B2.out.size; omega) _).trans HB4.out)⟩
                case measure => simp [intOf]; omega
            · obtain rfl : j = m := by have := HD1.out; omega
              go_wp2_with fail
              go_ret
              have hq := HQ.out
              subst hq
              exact ⟨⟨A', c', rfl, HO.out.base HB2.out.size⟩, HB2.out.trans (HB3.out.mono HB2.out.size)⟩
end Go.Proofs.Ytlaehoggfnlljaa
