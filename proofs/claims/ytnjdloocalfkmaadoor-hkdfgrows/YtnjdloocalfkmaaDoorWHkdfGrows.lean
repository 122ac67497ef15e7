/-
  The walk of HkdfGrows.
-/
import Derived.Test.YtnjdloocalfkmaaDoorHkF
namespace Go.Proofs.YtnjdloocalfkmaaDoor
open Go.RowKit Go.Joins
set_option linter.unusedVariables false

set_option maxHeartbeats 1000000 in
theorem grows_long (A1 A2 : Option Addr) (n1 c1 n2 c2 : Nat) (x y : Int) (w : World) (hG : Glob w) (h : 60 < n1 ∨ 60 < n2) :
    Calls Tryd.prog 4 #[.slice A1 n1 c1, .slice A2 n2 c2, .int .i64 x, .int .i64 y] w fun e w' => e = .returned (.bool true) ∧ Below w.heap.size w w' := by
  have HA := Lib.hid (awake_any w hG)
  clear hG
  by_cases h0 : 60 < n1
  · have t1 : decide ((60 : Int) < (n1 : Int)) = true := by simp; omega
    clear h h0
    go_enter Tryd.func4, Tryd.ntmps4
    go_wp2_with ((with_reducible refine HA.out.mono ?_); rintro e w1 ⟨rfl, hb⟩)
    go_ret
    exact ⟨rfl, hb⟩
  · have t1 : decide ((60 : Int) < (n1 : Int)) = false := by simp; omega
    have t2 : decide ((60 : Int) < (n2 : Int)) = true := by simp; omega
    clear h h0
    go_enter Tryd.func4, Tryd.ntmps4
    go_wp2_with ((with_reducible refine HA.out.mono ?_); rintro e w1 ⟨rfl, hb⟩)
    go_ret
    exact ⟨rfl, hb⟩

theorem low_nat (x : Int) (m : Nat) (hm : 0 < m) (hb : m < 4611686018427387904) : ∃ d : Nat, lowV x (m : Int) = (d : Int) ∧ d < m := by
  have := low_bd x (m : Int) (by omega) (by omega)
  exact ⟨(lowV x (m : Int)).toNat, by omega, by omega⟩

set_option maxHeartbeats 1000000 in
theorem grows_walk (key info : List UInt8) (A1 A2 : Option Addr) (n1 c1 n2 c2 : Nat) (x y : Int) (w : World) (hG : Glob w) (h1 : Sl w w.heap.size A1 n1 key) (h2 : Sl w w.heap.size A2 n2 info) (hn1 : n1 ≤ c1) (hc1 : c1 ≤ maxLen) (hn2 : n2 ≤ c2) (hc2 : c2 ≤ maxLen)
    (hm1 : n1 ≤ 60) (hm2 : n2 ≤ 60) :
    Calls Tryd.prog 4 #[.slice A1 n1 c1, .slice A2 n2 c2, .int .i64 x, .int .i64 y] w fun e w' => e = .returned (.bool true) ∧ Below w.heap.size w w' := by
  have HG := Lib.hid hG
  have H1 := Lib.hid h1
  have H2 := Lib.hid h2
  have t1 : decide ((60 : Int) < (n1 : Int)) = false := by simp; omega
  have t2 : decide ((60 : Int) < (n2 : Int)) = false := by simp; omega
  obtain ⟨p, hp, hp121⟩ := low_nat x 121 (by omega) (by omega)
  obtain ⟨q, hq, hq121⟩ := low_nat y 121 (by omega) (by omega)
  have hlx := fun u => low_any x 121 u (by omega) (by omega)
  have hly := fun u => low_any y 121 u (by omega) (by omega)
  have hp' : lowV x 121 = (p : Int) := hp
  have hq' : lowV y 121 = (q : Int) := hq
  rw [hp'] at hlx
  rw [hq'] at hly
  have HLX := Lib.hid hlx
  have HLY := Lib.hid hly
  clear hG h1 h2 hp hq hp' hq' hlx hly
  obtain ⟨s, M, hcase⟩ : ∃ s M : Nat, (s = p ∧ M = q ∧ s < M) ∨ (s = q ∧ M = p ∧ s < M) ∨ (M = s ∧ M = p ∧ M = q) := by
    by_cases h : p = q
    · exact ⟨p, p, .inr (.inr ⟨rfl, rfl, h⟩)⟩
    by_cases h : p ≤ q
    · exact ⟨p, q, .inl ⟨rfl, rfl, by omega⟩⟩
    · exact ⟨q, p, .inr (.inl ⟨rfl, rfl, by omega⟩)⟩
  rcases hcase with ⟨rfl, rfl, hsM⟩ | ⟨rfl, rfl, hsM⟩ | ⟨rfl, rfl, rfl⟩
  · have hsI : (s : Int) ≤ (M : Int) := by omega
    go_enter Tryd.func4, Tryd.ntmps4
    go_wp2_with (first
      | (go_at_call_of 20 (Value.int IntKind.i64 x); (with_reducible refine (HLX.out _).mono ?_); rintro e w' ⟨rfl, rfl⟩)
      | (go_at_call_of 20 (Value.int IntKind.i64 y); (with_reducible refine (HLY.out _).mono ?_); rintro e w' ⟨rfl, rfl⟩))
    (with_reducible refine (expand_nat key info A1 A2 n1 c1 n2 c2 s w.heap.size _ HG.out H1.out H2.out (Nat.le_refl _) hn1 hc1 hn2 hc2 (by omega) (by omega) (by omega)).mono ?_)
    rintro e1 w1 ⟨Aa, ca, rfl, hoa, hlea, hca, hb1⟩
    have HOa := Lib.hid hoa
    have HB1 := Lib.hid hb1
    clear hoa hb1
    go_wp2_with fail
    (with_reducible refine (expand_nat key info A1 A2 n1 c1 n2 c2 M w.heap.size _ (HG.out.below HB1.out) (H1.out.below HB1.out) (H2.out.below HB1.out) HB1.out.size hn1 hc1 hn2 hc2 (by omega) (by omega) (by omega)).mono ?_)
    rintro e2 w2 ⟨Ab, cb, rfl, hob, hleb, hcb, hb2⟩
    have HB2 : Hid (Below w.heap.size w w2) := HB1.out.trans (hb2.mono HB1.out.size)
    have HSa : Hid (Sl w2 w2.heap.size Aa s (expV key info s)) := (HOa.out.below hb2).sl
    have HSb : Hid (Sl w2 w2.heap.size Ab M (expV key info M)) := hob.sl
    obtain ⟨Ac, hAc⟩ : ∃ Ac, (if cb = 0 then Ab else Ab.map (·.add 0)) = Ac := ⟨_, rfl⟩
    have hcut1 : ∀ u : World, (Instr.slice 22 (.slice Ab M cb) none (some (.int .i64 (s : Int))) none).run Tryd.prog u = .ok (.slice Ac s cb) u := fun u => by
      rw [← hAc]; exact run_cut_to u Ab M cb s (by omega)
    have HSc : Hid (Sl w2 w2.heap.size Ac s (expV key info s)) := by
      show Sl _ _ _ _ _
      rw [← hAc]
      have h := (HSb.out).drop (k := 0) (c := cb) (by omega) hleb
      rw [Nat.sub_zero, List.drop_zero] at h
      have h' := h.take (k := s) (by omega)
      rw [exp_take key info s M (by omega)] at h'
      exact h'
    clear hob hb2 hAc HOa HB1
    go_wp2_with (go_at_call 16; (with_reducible refine (same_yes (expV key info s) (expV key info s) rfl Ac Aa s s cb ca w2.heap.size w2.heap.size _ HSc.out HSa.out (by simp [maxLen]; omega)).mono ?_); rintro e3 w3 ⟨rfl, k3, rfl⟩)
    clear hcut1 HSc HSa
    go_loopw [11, 12] (fun last i wr => ∃ (j nl cl : Nat) (Al : Option Addr), j ≤ 4 ∧ i = .int .i64 (j : Int) ∧ last = .slice Al nl cl ∧ nl ≤ cl ∧ cl ≤ maxLen ∧ Hid (Sl wr wr.heap.size Al nl (tV key info j)) ∧ Hid (Below w2.heap.size w2 wr)) (fun _ i _ => 4 - (intOf i).toNat)
    case atStart => exact ⟨0, 0, 0, none, by omega, rfl, rfl, Nat.le_refl _, by simp [maxLen], Sl.nil, below_drewN (Below.refl _ _) _⟩
    case round =>
      obtain ⟨j, nl, cl, Al, hj, rfl, rfl, hnl, hcl, HL, HB⟩ := hrel
      have hws := HB.out.size
      have HBw : Hid (Below w.heap.size w wr) := HB2.out.trans (HB.out.mono HB2.out.size)
      have hww := HBw.out.size
      by_cases hlt : 32 * (j + 1) ≤ M
      · have lt1 : (32 : Int) * ((j : Int) + 1) ≤ (M : Int) := by omega
        have hk : (j : Int) + 1 ≤ 255 := by omega
        go_wp2_with fail
        have hbr : ∀ o o', Below wr.heap.size wr ((wr.alloc o).alloc o') := fun o o' => ((Below.refl _ _).alloc (Nat.le_refl _) _).alloc (by simp) _
        have hjn : joined [⟨Al, nl, cl, tV key info j⟩, ⟨A2, n2, c2, info⟩, ⟨some ⟨wr.heap.size, 0, none⟩, 1, 1, [UInt8.ofNat (j + 1)]⟩] = tV key info j ++ (info ++ [UInt8.ofNat (j + 1)]) := by simp [joined]
        (with_reducible refine (mac_any key [⟨Al, nl, cl, tV key info j⟩, ⟨A2, n2, c2, info⟩, ⟨some ⟨wr.heap.size, 0, none⟩, 1, 1, [UInt8.ofNat (j + 1)]⟩] A1 _ n1 c1 3 3 (wr.heap.size + 2) _ ?q1 ?q2 ?q3 ?q4 hn1 hc1 (by omega) (by omega) ?q6).mono ?_)
        case q1 => exact (HG.out.below HBw.out).below (hbr _ _)
        case q2 => exact ((H1.out.below HBw.out).below ((hbr _ _).mono hww)).more (by omega)
        case q3 =>
          refine slw_block (g := wr.heap.size + 1) (ps := [⟨Al, nl, cl, tV key info j⟩, ⟨A2, n2, c2, info⟩, ⟨some ⟨wr.heap.size, 0, none⟩, 1, 1, [UInt8.ofNat (j + 1)]⟩]) (t := 22) (fr := (0, 0)) (heap_allocs wr [_, _] 1 _ rfl) (by omega) (fun p hp => ?_)
          simp only [List.mem_cons, List.not_mem_nil, or_false] at hp
          rcases hp with rfl | rfl | rfl
          · exact ⟨(HL.out.below (hbr _ _)).more (by omega), hnl, hcl⟩
          · exact ⟨((H2.out.below HBw.out).below ((hbr _ _).mono hww)).more (by omega), hn2, hc2⟩
          · refine ⟨sl_cell (heap_allocs wr [_, _] 0 _ rfl) ?_ (by omega), Nat.le_refl _, by simp [maxLen]⟩
            first | exact byte_count j | exact byte_count' j hk
        case q4 => simp
        case q6 =>
          have h1 := tV_le key info j
          have h2 := H2.out.1
          rw [hjn]
          simp only [List.length_append, List.length_cons, List.length_nil]
          omega
        rintro e4 w4 ⟨rfl, hb4⟩
        rw [hjn]
        have HT : Hid (macV key (tV key info j ++ (info ++ [UInt8.ofNat (j + 1)])) = tV key info (j + 1)) := rfl
        rw [HT.out]
        have hz4 := hb4.size
        simp at hz4
        have HB4 : Hid (Below wr.heap.size wr w4) := (hbr _ _).trans (hb4.mono (by simp; omega))
        have htl : (bvs (tV key info (j + 1))).length = 32 := by rw [bvs_length]; exact tV_length _ _ _
        have HTl := Lib.hid htl
        have hcut3 := whole32 w4.heap.size
        obtain ⟨Ad, hAd⟩ : ∃ Ad, (if cb = 32 * j then Ab else Ab.map (·.add (32 * j))) = Ad := ⟨_, rfl⟩
        have hcut2 : ∀ u : World, (Instr.slice 22 (.slice Ab M cb) (some (.int .i64 (32 * (j : Int)))) (some (.int .i64 (32 * (j : Int) + 32))) none).run Tryd.prog u = .ok (.slice Ad 32 (cb - 32 * j)) u := fun u => by
          have h := run_cut2 u Ab M cb (32 * j) (32 * j + 32) (by omega) (by omega)
          rw [← hAd]
          simpa using h
        have HSd : Hid (Sl w4 w4.heap.size Ad 32 (tV key info (j + 1))) := by
          show Sl _ _ _ _ _
          have h := (((HSb.out).below HB.out).below (HB4.out.mono hws)).drop (k := 32 * j) (c := cb) (by omega) hleb
          have h' := h.take (k := 32) (by omega)
          rw [exp_piece key info j M hlt, hAd] at h'
          exact h'.more (by omega)
        clear hbr hjn hb4 htl HT hAd
        go_wp2_with (first
          | ((with_reducible refine wpList_store_only rfl 27 (.tmp 13) (.tmp 78) rfl w4.heap.size (bvs (tV key info (j + 1))) ?hx ?hy 27 (List.replicate 32 (.int .u8 0)).toArray ?hg ?hi ?ho (bvs_one _) ?_); (case hx => with_unfolding_all rfl); (case hy => with_unfolding_all rfl); (case hg => exact heap_alloc_new _ _); (case hi => rw [size32, HTl.out]); (case ho => rw [HTl.out]; rfl); intro w5 K5 HO5; have hb5 : Below w4.heap.size w4 w5 := (((Below.refl _ _).alloc (Nat.le_refl _) _).trans (HO5.out.below (by simp) (Nat.le_refl _))); have HB5 := Lib.hid hb5; have hz5 : w4.heap.size < w5.heap.size := (Array.getElem?_eq_some_iff.1 K5.out).1; have hsl5 : Sl w5 w5.heap.size (some ⟨w4.heap.size, 0, none⟩) 32 (tV key info (j + 1)) := (by have h := sl_block (B := w5.heap.size) K5.out hz5; rw [tV_length] at h; exact h); have HS5 := Lib.hid hsl5; have HSd5 := Lib.hid (HSd.out.grow hb5); clear hb5 hsl5)
          | (go_at_call 16; (with_reducible refine (same_yes (tV key info (j + 1)) (tV key info (j + 1)) rfl Ad _ 32 32 _ 32 w5.heap.size w5.heap.size _ HSd5.out HS5.out (by simp [maxLen])).mono ?_); rintro e6 w6 ⟨rfl, k6, rfl⟩))
        go_roundw
        case rel =>
          have hb6 : Below w2.heap.size w2 (w5.drewN k6) := below_drewN ((HB.out.trans (HB4.out.mono hws)).trans (HB5.out.mono (by omega))) _
          exact ⟨j + 1, 32, cb - 32 * j, Ad, by omega, by go_num, rfl, by omega, by omega, HSd5.out.drewN _, hb6⟩
        case measure => simp [intOf]; omega
      · have lt1 : ¬ (32 : Int) * ((j : Int) + 1) ≤ (M : Int) := by omega
        go_wp2_with ((with_reducible refine (awake_any _ (HG.out.below HBw.out)).mono ?_); rintro e9 w9 ⟨rfl, hb9⟩)
        go_ret
        exact ⟨rfl, HBw.out.trans (hb9.mono hww)⟩
  · have hsI : (s : Int) ≤ (M : Int) := by omega
    go_enter Tryd.func4, Tryd.ntmps4
    go_wp2_with (first
      | (go_at_call_of 20 (Value.int IntKind.i64 x); (with_reducible refine (HLX.out _).mono ?_); rintro e w' ⟨rfl, rfl⟩)
      | (go_at_call_of 20 (Value.int IntKind.i64 y); (with_reducible refine (HLY.out _).mono ?_); rintro e w' ⟨rfl, rfl⟩))
    (with_reducible refine (expand_nat key info A1 A2 n1 c1 n2 c2 s w.heap.size _ HG.out H1.out H2.out (Nat.le_refl _) hn1 hc1 hn2 hc2 (by omega) (by omega) (by omega)).mono ?_)
    rintro e1 w1 ⟨Aa, ca, rfl, hoa, hlea, hca, hb1⟩
    have HOa := Lib.hid hoa
    have HB1 := Lib.hid hb1
    clear hoa hb1
    go_wp2_with fail
    (with_reducible refine (expand_nat key info A1 A2 n1 c1 n2 c2 M w.heap.size _ (HG.out.below HB1.out) (H1.out.below HB1.out) (H2.out.below HB1.out) HB1.out.size hn1 hc1 hn2 hc2 (by omega) (by omega) (by omega)).mono ?_)
    rintro e2 w2 ⟨Ab, cb, rfl, hob, hleb, hcb, hb2⟩
    have HB2 : Hid (Below w.heap.size w w2) := HB1.out.trans (hb2.mono HB1.out.size)
    have HSa : Hid (Sl w2 w2.heap.size Aa s (expV key info s)) := (HOa.out.below hb2).sl
    have HSb : Hid (Sl w2 w2.heap.size Ab M (expV key info M)) := hob.sl
    obtain ⟨Ac, hAc⟩ : ∃ Ac, (if cb = 0 then Ab else Ab.map (·.add 0)) = Ac := ⟨_, rfl⟩
    have hcut1 : ∀ u : World, (Instr.slice 22 (.slice Ab M cb) none (some (.int .i64 (s : Int))) none).run Tryd.prog u = .ok (.slice Ac s cb) u := fun u => by
      rw [← hAc]; exact run_cut_to u Ab M cb s (by omega)
    have HSc : Hid (Sl w2 w2.heap.size Ac s (expV key info s)) := by
      show Sl _ _ _ _ _
      rw [← hAc]
      have h := (HSb.out).drop (k := 0) (c := cb) (by omega) hleb
      rw [Nat.sub_zero, List.drop_zero] at h
      have h' := h.take (k := s) (by omega)
      rw [exp_take key info s M (by omega)] at h'
      exact h'
    clear hob hb2 hAc HOa HB1
    go_wp2_with (go_at_call 16; (with_reducible refine (same_yes (expV key info s) (expV key info s) rfl Ac Aa s s cb ca w2.heap.size w2.heap.size _ HSc.out HSa.out (by simp [maxLen]; omega)).mono ?_); rintro e3 w3 ⟨rfl, k3, rfl⟩)
    clear hcut1 HSc HSa
    go_loopw [11, 12] (fun last i wr => ∃ (j nl cl : Nat) (Al : Option Addr), j ≤ 4 ∧ i = .int .i64 (j : Int) ∧ last = .slice Al nl cl ∧ nl ≤ cl ∧ cl ≤ maxLen ∧ Hid (Sl wr wr.heap.size Al nl (tV key info j)) ∧ Hid (Below w2.heap.size w2 wr)) (fun _ i _ => 4 - (intOf i).toNat)
    case atStart => exact ⟨0, 0, 0, none, by omega, rfl, rfl, Nat.le_refl _, by simp [maxLen], Sl.nil, below_drewN (Below.refl _ _) _⟩
    case round =>
      obtain ⟨j, nl, cl, Al, hj, rfl, rfl, hnl, hcl, HL, HB⟩ := hrel
      have hws := HB.out.size
      have HBw : Hid (Below w.heap.size w wr) := HB2.out.trans (HB.out.mono HB2.out.size)
      have hww := HBw.out.size
      by_cases hlt : 32 * (j + 1) ≤ M
      · have lt1 : (32 : Int) * ((j : Int) + 1) ≤ (M : Int) := by omega
        have hk : (j : Int) + 1 ≤ 255 := by omega
        go_wp2_with fail
        have hbr : ∀ o o', Below wr.heap.size wr ((wr.alloc o).alloc o') := fun o o' => ((Below.refl _ _).alloc (Nat.le_refl _) _).alloc (by simp) _
        have hjn : joined [⟨Al, nl, cl, tV key info j⟩, ⟨A2, n2, c2, info⟩, ⟨some ⟨wr.heap.size, 0, none⟩, 1, 1, [UInt8.ofNat (j + 1)]⟩] = tV key info j ++ (info ++ [UInt8.ofNat (j + 1)]) := by simp [joined]
        (with_reducible refine (mac_any key [⟨Al, nl, cl, tV key info j⟩, ⟨A2, n2, c2, info⟩, ⟨some ⟨wr.heap.size, 0, none⟩, 1, 1, [UInt8.ofNat (j + 1)]⟩] A1 _ n1 c1 3 3 (wr.heap.size + 2) _ ?q1 ?q2 ?q3 ?q4 hn1 hc1 (by omega) (by omega) ?q6).mono ?_)
        case q1 => exact (HG.out.below HBw.out).below (hbr _ _)
        case q2 => exact ((H1.out.below HBw.out).below ((hbr _ _).mono hww)).more (by omega)
        case q3 =>
          refine slw_block (g := wr.heap.size + 1) (ps := [⟨Al, nl, cl, tV key info j⟩, ⟨A2, n2, c2, info⟩, ⟨some ⟨wr.heap.size, 0, none⟩, 1, 1, [UInt8.ofNat (j + 1)]⟩]) (t := 22) (fr := (0, 0)) (heap_allocs wr [_, _] 1 _ rfl) (by omega) (fun p hp => ?_)
          simp only [List.mem_cons, List.not_mem_nil, or_false] at hp
          rcases hp with rfl | rfl | rfl
          · exact ⟨(HL.out.below (hbr _ _)).more (by omega), hnl, hcl⟩
          · exact ⟨((H2.out.below HBw.out).below ((hbr _ _).mono hww)).more (by omega), hn2, hc2⟩
          · refine ⟨sl_cell (heap_allocs wr [_, _] 0 _ rfl) ?_ (by omega), Nat.le_refl _, by simp [maxLen]⟩
            first | exact byte_count j | exact byte_count' j hk
        case q4 => simp
        case q6 =>
          have h1 := tV_le key info j
          have h2 := H2.out.1
          rw [hjn]
          simp only [List.length_append, List.length_cons, List.length_nil]
          omega
        rintro e4 w4 ⟨rfl, hb4⟩
        rw [hjn]
        have HT : Hid (macV key (tV key info j ++ (info ++ [UInt8.ofNat (j + 1)])) = tV key info (j + 1)) := rfl
        rw [HT.out]
        have hz4 := hb4.size
        simp at hz4
        have HB4 : Hid (Below wr.heap.size wr w4) := (hbr _ _).trans (hb4.mono (by simp; omega))
        have htl : (bvs (tV key info (j + 1))).length = 32 := by rw [bvs_length]; exact tV_length _ _ _
        have HTl := Lib.hid htl
        have hcut3 := whole32 w4.heap.size
        obtain ⟨Ad, hAd⟩ : ∃ Ad, (if cb = 32 * j then Ab else Ab.map (·.add (32 * j))) = Ad := ⟨_, rfl⟩
        have hcut2 : ∀ u : World, (Instr.slice 22 (.slice Ab M cb) (some (.int .i64 (32 * (j : Int)))) (some (.int .i64 (32 * (j : Int) + 32))) none).run Tryd.prog u = .ok (.slice Ad 32 (cb - 32 * j)) u := fun u => by
          have h := run_cut2 u Ab M cb (32 * j) (32 * j + 32) (by omega) (by omega)
          rw [← hAd]
          simpa using h
        have HSd : Hid (Sl w4 w4.heap.size Ad 32 (tV key info (j + 1))) := by
          show Sl _ _ _ _ _
          have h := (((HSb.out).below HB.out).below (HB4.out.mono hws)).drop (k := 32 * j) (c := cb) (by omega) hleb
          have h' := h.take (k := 32) (by omega)
          rw [exp_piece key info j M hlt, hAd] at h'
          exact h'.more (by omega)
        clear hbr hjn hb4 htl HT hAd
        go_wp2_with (first
          | ((with_reducible refine wpList_store_only rfl 27 (.tmp 13) (.tmp 78) rfl w4.heap.size (bvs (tV key info (j + 1))) ?hx ?hy 27 (List.replicate 32 (.int .u8 0)).toArray ?hg ?hi ?ho (bvs_one _) ?_); (case hx => with_unfolding_all rfl); (case hy => with_unfolding_all rfl); (case hg => exact heap_alloc_new _ _); (case hi => rw [size32, HTl.out]); (case ho => rw [HTl.out]; rfl); intro w5 K5 HO5; have hb5 : Below w4.heap.size w4 w5 := (((Below.refl _ _).alloc (Nat.le_refl _) _).trans (HO5.out.below (by simp) (Nat.le_refl _))); have HB5 := Lib.hid hb5; have hz5 : w4.heap.size < w5.heap.size := (Array.getElem?_eq_some_iff.1 K5.out).1; have hsl5 : Sl w5 w5.heap.size (some ⟨w4.heap.size, 0, none⟩) 32 (tV key info (j + 1)) := (by have h := sl_block (B := w5.heap.size) K5.out hz5; rw [tV_length] at h; exact h); have HS5 := Lib.hid hsl5; have HSd5 := Lib.hid (HSd.out.grow hb5); clear hb5 hsl5)
          | (go_at_call 16; (with_reducible refine (same_yes (tV key info (j + 1)) (tV key info (j + 1)) rfl Ad _ 32 32 _ 32 w5.heap.size w5.heap.size _ HSd5.out HS5.out (by simp [maxLen])).mono ?_); rintro e6 w6 ⟨rfl, k6, rfl⟩))
        go_roundw
        case rel =>
          have hb6 : Below w2.heap.size w2 (w5.drewN k6) := below_drewN ((HB.out.trans (HB4.out.mono hws)).trans (HB5.out.mono (by omega))) _
          exact ⟨j + 1, 32, cb - 32 * j, Ad, by omega, by go_num, rfl, by omega, by omega, HSd5.out.drewN _, hb6⟩
        case measure => simp [intOf]; omega
      · have lt1 : ¬ (32 : Int) * ((j : Int) + 1) ≤ (M : Int) := by omega
        go_wp2_with ((with_reducible refine (awake_any _ (HG.out.below HBw.out)).mono ?_); rintro e9 w9 ⟨rfl, hb9⟩)
        go_ret
        exact ⟨rfl, HBw.out.trans (hb9.mono hww)⟩
  · have hsI : (M : Int) ≤ (M : Int) := by omega
    go_enter Tryd.func4, Tryd.ntmps4
    go_wp2_with (first
      | (go_at_call_of 20 (Value.int IntKind.i64 x); (with_reducible refine (HLX.out _).mono ?_); rintro e w' ⟨rfl, rfl⟩)
      | (go_at_call_of 20 (Value.int IntKind.i64 y); (with_reducible refine (HLY.out _).mono ?_); rintro e w' ⟨rfl, rfl⟩))
    (with_reducible refine (expand_nat key info A1 A2 n1 c1 n2 c2 M w.heap.size _ HG.out H1.out H2.out (Nat.le_refl _) hn1 hc1 hn2 hc2 (by omega) (by omega) (by omega)).mono ?_)
    rintro e1 w1 ⟨Aa, ca, rfl, hoa, hlea, hca, hb1⟩
    have HOa := Lib.hid hoa
    have HB1 := Lib.hid hb1
    clear hoa hb1
    go_wp2_with fail
    (with_reducible refine (expand_nat key info A1 A2 n1 c1 n2 c2 M w.heap.size _ (HG.out.below HB1.out) (H1.out.below HB1.out) (H2.out.below HB1.out) HB1.out.size hn1 hc1 hn2 hc2 (by omega) (by omega) (by omega)).mono ?_)
    rintro e2 w2 ⟨Ab, cb, rfl, hob, hleb, hcb, hb2⟩
    have HB2 : Hid (Below w.heap.size w w2) := HB1.out.trans (hb2.mono HB1.out.size)
    have HSa : Hid (Sl w2 w2.heap.size Aa M (expV key info M)) := (HOa.out.below hb2).sl
    have HSb : Hid (Sl w2 w2.heap.size Ab M (expV key info M)) := hob.sl
    obtain ⟨Ac, hAc⟩ : ∃ Ac, (if cb = 0 then Ab else Ab.map (·.add 0)) = Ac := ⟨_, rfl⟩
    have hcut1 : ∀ u : World, (Instr.slice 22 (.slice Ab M cb) none (some (.int .i64 (M : Int))) none).run Tryd.prog u = .ok (.slice Ac M cb) u := fun u => by
      rw [← hAc]; exact run_cut_to u Ab M cb M (by omega)
    have HSc : Hid (Sl w2 w2.heap.size Ac M (expV key info M)) := by
      show Sl _ _ _ _ _
      rw [← hAc]
      have h := (HSb.out).drop (k := 0) (c := cb) (by omega) hleb
      rw [Nat.sub_zero, List.drop_zero] at h
      have h' := h.take (k := M) (by omega)
      rw [exp_take key info M M (by omega)] at h'
      exact h'
    clear hob hb2 hAc HOa HB1
    go_wp2_with (go_at_call 16; (with_reducible refine (same_yes (expV key info M) (expV key info M) rfl Ac Aa M M cb ca w2.heap.size w2.heap.size _ HSc.out HSa.out (by simp [maxLen]; omega)).mono ?_); rintro e3 w3 ⟨rfl, k3, rfl⟩)
    clear hcut1 HSc HSa
    go_loopw [11, 12] (fun last i wr => ∃ (j nl cl : Nat) (Al : Option Addr), j ≤ 4 ∧ i = .int .i64 (j : Int) ∧ last = .slice Al nl cl ∧ nl ≤ cl ∧ cl ≤ maxLen ∧ Hid (Sl wr wr.heap.size Al nl (tV key info j)) ∧ Hid (Below w2.heap.size w2 wr)) (fun _ i _ => 4 - (intOf i).toNat)
    case atStart => exact ⟨0, 0, 0, none, by omega, rfl, rfl, Nat.le_refl _, by simp [maxLen], Sl.nil, below_drewN (Below.refl _ _) _⟩
    case round =>
      obtain ⟨j, nl, cl, Al, hj, rfl, rfl, hnl, hcl, HL, HB⟩ := hrel
      have hws := HB.out.size
      have HBw : Hid (Below w.heap.size w wr) := HB2.out.trans (HB.out.mono HB2.out.size)
      have hww := HBw.out.size
      by_cases hlt : 32 * (j + 1) ≤ M
      · have lt1 : (32 : Int) * ((j : Int) + 1) ≤ (M : Int) := by omega
        have hk : (j : Int) + 1 ≤ 255 := by omega
        go_wp2_with fail
        have hbr : ∀ o o', Below wr.heap.size wr ((wr.alloc o).alloc o') := fun o o' => ((Below.refl _ _).alloc (Nat.le_refl _) _).alloc (by simp) _
        have hjn : joined [⟨Al, nl, cl, tV key info j⟩, ⟨A2, n2, c2, info⟩, ⟨some ⟨wr.heap.size, 0, none⟩, 1, 1, [UInt8.ofNat (j + 1)]⟩] = tV key info j ++ (info ++ [UInt8.ofNat (j + 1)]) := by simp [joined]
        (with_reducible refine (mac_any key [⟨Al, nl, cl, tV key info j⟩, ⟨A2, n2, c2, info⟩, ⟨some ⟨wr.heap.size, 0, none⟩, 1, 1, [UInt8.ofNat (j + 1)]⟩] A1 _ n1 c1 3 3 (wr.heap.size + 2) _ ?q1 ?q2 ?q3 ?q4 hn1 hc1 (by omega) (by omega) ?q6).mono ?_)
        case q1 => exact (HG.out.below HBw.out).below (hbr _ _)
        case q2 => exact ((H1.out.below HBw.out).below ((hbr _ _).mono hww)).more (by omega)
        case q3 =>
          refine slw_block (g := wr.heap.size + 1) (ps := [⟨Al, nl, cl, tV key info j⟩, ⟨A2, n2, c2, info⟩, ⟨some ⟨wr.heap.size, 0, none⟩, 1, 1, [UInt8.ofNat (j + 1)]⟩]) (t := 22) (fr := (0, 0)) (heap_allocs wr [_, _] 1 _ rfl) (by omega) (fun p hp => ?_)
          simp only [List.mem_cons, List.not_mem_nil, or_false] at hp
          rcases hp with rfl | rfl | rfl
          · exact ⟨(HL.out.below (hbr _ _)).more (by omega), hnl, hcl⟩
          · exact ⟨((H2.out.below HBw.out).below ((hbr _ _).mono hww)).more (by omega), hn2, hc2⟩
          · refine ⟨sl_cell (heap_allocs wr [_, _] 0 _ rfl) ?_ (by omega), Nat.le_refl _, by simp [maxLen]⟩
            first | exact byte_count j | exact byte_count' j hk
        case q4 => simp
        case q6 =>
          have h1 := tV_le key info j
          have h2 := H2.out.1
          rw [hjn]
          simp only [List.length_append, List.length_cons, List.length_nil]
          omega
        rintro e4 w4 ⟨rfl, hb4⟩
        rw [hjn]
        have HT : Hid (macV key (tV key info j ++ (info ++ [UInt8.ofNat (j + 1)])) = tV key info (j + 1)) := rfl
        rw [HT.out]
        have hz4 := hb4.size
        simp at hz4
        have HB4 : Hid (Below wr.heap.size wr w4) := (hbr _ _).trans (hb4.mono (by simp; omega))
        have htl : (bvs (tV key info (j + 1))).length = 32 := by rw [bvs_length]; exact tV_length _ _ _
        have HTl := Lib.hid htl
        have hcut3 := whole32 w4.heap.size
        obtain ⟨Ad, hAd⟩ : ∃ Ad, (if cb = 32 * j then Ab else Ab.map (·.add (32 * j))) = Ad := ⟨_, rfl⟩
        have hcut2 : ∀ u : World, (Instr.slice 22 (.slice Ab M cb) (some (.int .i64 (32 * (j : Int)))) (some (.int .i64 (32 * (j : Int) + 32))) none).run Tryd.prog u = .ok (.slice Ad 32 (cb - 32 * j)) u := fun u => by
          have h := run_cut2 u Ab M cb (32 * j) (32 * j + 32) (by omega) (by omega)
          rw [← hAd]
          simpa using h
        have HSd : Hid (Sl w4 w4.heap.size Ad 32 (tV key info (j + 1))) := by
          show Sl _ _ _ _ _
          have h := (((HSb.out).below HB.out).below (HB4.out.mono hws)).drop (k := 32 * j) (c := cb) (by omega) hleb
          have h' := h.take (k := 32) (by omega)
          rw [exp_piece key info j M hlt, hAd] at h'
          exact h'.more (by omega)
        clear hbr hjn hb4 htl HT hAd
        go_wp2_with (first
          | ((with_reducible refine wpList_store_only rfl 27 (.tmp 13) (.tmp 78) rfl w4.heap.size (bvs (tV key info (j + 1))) ?hx ?hy 27 (List.replicate 32 (.int .u8 0)).toArray ?hg ?hi ?ho (bvs_one _) ?_); (case hx => with_unfolding_all rfl); (case hy => with_unfolding_all rfl); (case hg => exact heap_alloc_new _ _); (case hi => rw [size32, HTl.out]); (case ho => rw [HTl.out]; rfl); intro w5 K5 HO5; have hb5 : Below w4.heap.size w4 w5 := (((Below.refl _ _).alloc (Nat.le_refl _) _).trans (HO5.out.below (by simp) (Nat.le_refl _))); have HB5 := Lib.hid hb5; have hz5 : w4.heap.size < w5.heap.size := (Array.getElem?_eq_some_iff.1 K5.out).1; have hsl5 : Sl w5 w5.heap.size (some ⟨w4.heap.size, 0, none⟩) 32 (tV key info (j + 1)) := (by have h := sl_block (B := w5.heap.size) K5.out hz5; rw [tV_length] at h; exact h); have HS5 := Lib.hid hsl5; have HSd5 := Lib.hid (HSd.out.grow hb5); clear hb5 hsl5)
          | (go_at_call 16; (with_reducible refine (same_yes (tV key info (j + 1)) (tV key info (j + 1)) rfl Ad _ 32 32 _ 32 w5.heap.size w5.heap.size _ HSd5.out HS5.out (by simp [maxLen])).mono ?_); rintro e6 w6 ⟨rfl, k6, rfl⟩))
        go_roundw
        case rel =>
          have hb6 : Below w2.heap.size w2 (w5.drewN k6) := below_drewN ((HB.out.trans (HB4.out.mono hws)).trans (HB5.out.mono (by omega))) _
          exact ⟨j + 1, 32, cb - 32 * j, Ad, by omega, by go_num, rfl, by omega, by omega, HSd5.out.drewN _, hb6⟩
        case measure => simp [intOf]; omega
      · have lt1 : ¬ (32 : Int) * ((j : Int) + 1) ≤ (M : Int) := by omega
        go_wp2_with ((with_reducible refine (awake_any _ (HG.out.below HBw.out)).mono ?_); rintro e9 w9 ⟨rfl, hb9⟩)
        go_ret
        exact ⟨rfl, HBw.out.trans (hb9.mono hww)⟩
end Go.Proofs.YtnjdloocalfkmaaDoor
