/-
  The document's Next.
-/
import Derived.Test.YtkodjajhlcbmkaaDoorOuT
namespace Go.Proofs.YtkodjajhlcbmkaaDoor
open Go.RowKit Go.Lib
set_option linter.unusedVariables false

/-- what Next answers, by r -/
def NextR (w : World) (C gr gs : Nat) (A : Option Addr) (n c : Nat) (D : List UInt8) (s : Nat → Nat) (r : Option (Nat × Nat × Bool)) (e : Ending) (w' : World) : Prop :=
  (r = none ∧ e = .returned (.tuple #[.int .i64 0, .slice none 0 0, .bool false, .bool false]) ∧ w = w') ∨
  (∃ f t b A1 c1, r = some (f, t, b) ∧ e = .returned (.tuple #[.int .i64 ((f : Nat) : Int), .slice A1 (t - f) c1, .bool b, .bool true]) ∧ Own w' w.heap.size (.slice A1 (t - f) c1) (t - f) ((D.drop f).take (t - f)) ∧ (t - f ≤ c1 ∧ c1 ≤ maxLen) ∧
    f ≤ t ∧ t ≤ n ∧ RefW w' C gr gs A n c D (landV n s 1 (some (f, t, b))) ∧ Only gs w w')
theorem end_of {n f t x : Nat} {s : Nat → Nat} (hft : f ≤ t) (htn : t ≤ n) (hx : s n = x) : endV n s f t = (decide (t = n) && (decide (x = 0) || decide (x = 2))) := by
  unfold endV
  rw [hx]
  by_cases c : t = n
  · have : f < t ∨ f = n := by omega
    rcases this with h' | h' <;> simp [c, h'] <;> omega
  · simp [c]
set_option maxRecDepth 8000 in
set_option maxHeartbeats 8000000 in
theorem rnext_any {w : World} {C gr gs n c : Nat} {A : Option Addr} {D : List UInt8} {s : Nat → Nat} (h : RefW w C gr gs A n c D s) (hn : n ≤ 1000000) (h3 : ∀ i, i ≤ n → s i ≤ 3) (room allow : Int) (hr : (Lit.int .i64 room).wf = true) (ha : (Lit.int .i64 allow).wf = true)
    (r : Option (Nat × Nat × Bool)) (hv : nextV n s room allow = r) :
    Calls Tryd.prog 14 #[.pointer (some ⟨gr, 0, none⟩), .int .i64 room, .int .i64 allow] w (NextR w C gr gs A n c D s r) := by
  obtain ⟨R, hR⟩ : ∃ R : Nat, max room 0 = (R : Int) := ⟨(max room 0).toNat, by omega⟩
  have rb := bd_of_i64 hr
  have ab := bd_of_i64 ha
  have hRt : R = room.toNat := by omega
  rw [next_room, ← hRt] at hv
  obtain ⟨zl, hzl⟩ : ∃ zl : Int, (match firstV s 2 n with | some f => (f : Int) | none => -1) = zl := ⟨_, rfl⟩
  obtain ⟨zf, hzf⟩ : ∃ zf : Int, (match firstV s 0 n with | some f => (f : Int) | none => -1) = zf := ⟨_, rfl⟩
  have F2 := Lib.hid (rfirst_any h hn 2 (by omega) 2 zl rfl hzl h3)
  have F0 := Lib.hid (rfirst_any h hn 0 (by omega) 0 zf rfl hzf h3)
  obtain ⟨c0, c1⟩ := h.cells
  have HH := Lib.hid h
  have H3 := Lib.hid h3
  have HV := Lib.hid hv
  have HZL := Lib.hid hzl
  have HZF := Lib.hid hzf
  obtain ⟨xn, hxn⟩ : ∃ xn, s n = xn := ⟨_, rfl⟩
  have cn := h.at_ (i := n) (Nat.le_refl _)
  rw [hxn] at cn
  have HXN := Lib.hid hxn
  have bxn : (xn : Int) ≤ 3 := by have := h3 n (Nat.le_refl _); omega
  have bn : (n : Int) ≤ 1000000 := by omega
  have bn1 : ((n : Int) < (n : Int) + 1) := by omega
  have bR : (R : Int) ≤ 9223372036854775807 := by omega
  have ab1 := ab.1
  have ab2 := ab.2
  clear h h3 hv hzl hzf hxn hr ha rb ab hRt
  go_enter Tryd.func14, Tryd.ntmps14
  go_wp2_with fail
  (with_reducible refine F2.out.mono ?_)
  rintro e1 w1 ⟨rfl, rfl⟩
  go_wp2_with fail
  (with_reducible refine F0.out.mono ?_)
  rintro e2 w2 ⟨rfl, rfl⟩
  clear F2 F0
  go_upto_block 0 with fail
  go_cut [11, 12] from 30 to 115 (fun a b wx => ∃ f t : Nat, a = .int .i64 (f : Int) ∧ b = .int .i64 (t : Int) ∧ wx = w ∧ Hid (f ≤ t ∧ t ≤ n ∧ nextV n s (R : Int) allow = sendV n s f t))
  case first =>
    rcases first_cases s 2 n with ⟨k1, k2⟩ | ⟨f, k1, k2, k3, k4⟩
    · have hzl : zl = -1 := by rw [← HZL.out, k1]
      subst hzl
      by_cases hx2 : xn = 2
      · have HW : Hid (n ≤ n ∧ n ≤ n ∧ nextV n s (R : Int) allow = sendV n s n n) := ⟨Nat.le_refl _, Nat.le_refl _, by
          unfold nextV
          rw [k1]
          simp only
          rw [if_pos (by rw [HXN.out]; exact hx2)]⟩
        have hxe : ((xn : Int) == 2) = true := by simp [hx2]
        clear hx2
        go_wp2_with fail
        go_meet
        exact ⟨n, n, rfl, rfl, by first | rfl | trivial, HW.out⟩
      · have hxe : ((xn : Int) == 2) = false := by simp; omega
        rcases first_cases s 0 n with ⟨j1, j2⟩ | ⟨f, j1, j2, j3, j4⟩
        · have hzf : zf = -1 := by rw [← HZF.out, j1]
          subst hzf
          by_cases hx0 : xn = 0
          · have HW : Hid (n ≤ n ∧ n ≤ n ∧ nextV n s (R : Int) allow = sendV n s n n) := ⟨Nat.le_refl _, Nat.le_refl _, by
              unfold nextV
              rw [k1]
              simp only
              rw [if_neg (by rw [HXN.out]; exact hx2), j1]
              simp only
              rw [if_pos (by rw [HXN.out]; exact hx0)]⟩
            have hxe0 : ((xn : Int) == 0) = true := by simp [hx0]
            clear hx0
            go_wp2_with fail
            go_meet
            exact ⟨n, n, rfl, rfl, by first | rfl | trivial, HW.out⟩
          · have HNV : Hid (r = none) := by
              show _ = _
              rw [← HV.out]
              unfold nextV
              rw [k1]
              simp only
              rw [if_neg (by rw [HXN.out]; exact hx2), j1]
              simp only
              rw [if_neg (by rw [HXN.out]; exact hx0)]
            have hxe0 : ((xn : Int) == 0) = false := by simp; omega
            go_wp2_with fail
            refine bodyPost_ret (results_tmp4 rfl _ _ _) rfl ?_
            exact .inl ⟨HNV.out, rfl, rfl⟩
        · have hzf : zf = (f : Int) := by rw [← HZF.out, j1]
          subst hzf
          by_cases hfa : (f : Int) < allow
          · obtain ⟨r1, r2, r3, r4⟩ := run_spec s 0 (min (min (n - f) R) (allow - f).toNat) f
            obtain ⟨t, ht⟩ : ∃ t, runV s 0 (min (min (n - f) R) (allow - f).toNat) f = t := ⟨_, rfl⟩
            rw [ht] at r1 r2 r3 r4
            have HW : Hid (f ≤ t ∧ t ≤ n ∧ nextV n s (R : Int) allow = sendV n s f t) := ⟨r1, by omega, by
              unfold nextV
              rw [k1]
              simp only [Int.toNat_natCast]
              rw [if_neg (by rw [HXN.out]; exact hx2), j1]
              simp only
              rw [if_pos hfa, ht]⟩
            have bf : (f : Int) ≤ 1000000 := by omega
            clear ht k1 j1
            go_wp2_with fail
            go_loopw [12] (fun tv wr => ∃ v : Nat, tv = .int .i64 (v : Int) ∧ w = wr ∧ f ≤ v ∧ v ≤ t) (fun tv _ => t - (intOf tv).toNat)
            case atStart => exact ⟨f, rfl, rfl, Nat.le_refl _, r1⟩
            case round =>
              obtain ⟨v, rfl, rfl, hfv, hvt⟩ := hrel
              by_cases hlt : v < t
              · have l1 : ((v : Int) < (n : Int)) := by omega
                have l0 : ((v : Int) < (n : Int) + 1) := by omega
                have l2 : ((v : Int) - (f : Int) < (R : Int)) := by omega
                have l3 : ((v : Int) < allow) := by omega
                have hc := HH.out.at_ (i := v) (by omega)
                rw [r3 v hfv hlt] at hc
                go_wp2_with fail
                go_roundw
                case rel => exact ⟨v + 1, by go_num, by first | rfl | trivial, by omega, by omega⟩
                case measure => simp [intOf]; omega
              · obtain rfl : v = t := by omega
                by_cases w1 : v < n
                · have l1 : ((v : Int) < (n : Int)) := by omega
                  have l0 : ((v : Int) < (n : Int) + 1) := by omega
                  by_cases w3 : (v : Int) < allow
                  · by_cases w2 : (v : Int) - (f : Int) < (R : Int)
                    · have hc := HH.out.at_ (i := v) (by omega)
                      obtain ⟨x, hx⟩ : ∃ x, s v = x := ⟨_, rfl⟩
                      rw [hx] at hc
                      have bx : (x : Int) ≤ 3 := by have := H3.out v (by omega); omega
                      have hx2 : x ≠ 0 := fun e => by
                        rcases r4 with h' | h'
                        · omega
                        · exact h' (hx.trans e)
                      have hxe : ((x : Int) == 0) = false := by simp; omega
                      clear hx
                      go_wp2_with fail
                      go_meet
                      exact ⟨f, v, rfl, rfl, by first | rfl | trivial, HW.out⟩
                    · go_wp2_with fail
                      go_meet
                      exact ⟨f, v, rfl, rfl, by first | rfl | trivial, HW.out⟩
                  · go_wp2_with fail
                    go_meet
                    exact ⟨f, v, rfl, rfl, by first | rfl | trivial, HW.out⟩
                · have l1 : ¬ ((v : Int) < (n : Int)) := by omega
                  go_wp2_with fail
                  go_meet
                  exact ⟨f, v, rfl, rfl, by first | rfl | trivial, HW.out⟩
          · have HNV : Hid (r = none) := by
              show _ = _
              rw [← HV.out]
              unfold nextV
              rw [k1]
              simp only
              rw [if_neg (by rw [HXN.out]; exact hx2), j1]
              simp only
              rw [if_neg hfa]
            clear k1 j1
            go_wp2_with fail
            refine bodyPost_ret (results_tmp4 rfl _ _ _) rfl ?_
            exact .inl ⟨HNV.out, rfl, rfl⟩
    · have hzf : zl = (f : Int) := by rw [← HZL.out, k1]
      subst hzf
      obtain ⟨r1, r2, r3, r4⟩ := run_spec s 2 (min (n - f) R) f
      obtain ⟨t, ht⟩ : ∃ t, runV s 2 (min (n - f) R) f = t := ⟨_, rfl⟩
      rw [ht] at r1 r2 r3 r4
      have HW : Hid (f ≤ t ∧ t ≤ n ∧ nextV n s (R : Int) allow = sendV n s f t) := ⟨r1, by omega, by
        unfold nextV
        rw [k1]
        simp only [Int.toNat_natCast]
        rw [ht]⟩
      have bf : (f : Int) ≤ 1000000 := by omega
      clear ht k1
      go_wp2_with fail
      go_loopw [12] (fun tv wr => ∃ v : Nat, tv = .int .i64 (v : Int) ∧ w = wr ∧ f ≤ v ∧ v ≤ t) (fun tv _ => t - (intOf tv).toNat)
      case atStart => exact ⟨f, rfl, rfl, Nat.le_refl _, r1⟩
      case round =>
        obtain ⟨v, rfl, rfl, hfv, hvt⟩ := hrel
        by_cases hlt : v < t
        · have l1 : ((v : Int) < (n : Int)) := by omega
          have l0 : ((v : Int) < (n : Int) + 1) := by omega
          have l2 : ((v : Int) - (f : Int) < (R : Int)) := by omega
          have hc := HH.out.at_ (i := v) (by omega)
          rw [r3 v hfv hlt] at hc
          go_wp2_with fail
          go_roundw
          case rel => exact ⟨v + 1, by go_num, by first | rfl | trivial, by omega, by omega⟩
          case measure => simp [intOf]; omega
        · obtain rfl : v = t := by omega
          by_cases w1 : v < n
          · have l1 : ((v : Int) < (n : Int)) := by omega
            have l0 : ((v : Int) < (n : Int) + 1) := by omega
            by_cases w2 : (v : Int) - (f : Int) < (R : Int)
            · have hc := HH.out.at_ (i := v) (by omega)
              obtain ⟨x, hx⟩ : ∃ x, s v = x := ⟨_, rfl⟩
              rw [hx] at hc
              have bx : (x : Int) ≤ 3 := by have := H3.out v (by omega); omega
              have hx2 : x ≠ 2 := fun e => by
                rcases r4 with h' | h'
                · omega
                · exact h' (hx.trans e)
              have hxe : ((x : Int) == 2) = false := by simp; omega
              clear hx
              go_wp2_with fail
              go_meet
              exact ⟨f, v, rfl, rfl, by first | rfl | trivial, HW.out⟩
            · go_wp2_with fail
              go_meet
              exact ⟨f, v, rfl, rfl, by first | rfl | trivial, HW.out⟩
          · have l1 : ¬ ((v : Int) < (n : Int)) := by omega
            go_wp2_with fail
            go_meet
            exact ⟨f, v, rfl, rfl, by first | rfl | trivial, HW.out⟩
  case rest =>
    obtain ⟨f, t, rfl, rfl, hwx, HW⟩ := hcut
    replace hwx := hwx.symm
    subst hwx
    have HFT : Hid (f ≤ t ∧ t ≤ n) := ⟨HW.out.1, HW.out.2.1⟩
    have HVS : Hid (sendV n s f t = r) := HW.out.2.2.symm.trans HV.out
    obtain ⟨b, hb⟩ : ∃ b, endV n s f t = b := ⟨_, rfl⟩
    have HBE := Lib.hid hb
    have hbe := hb
    rw [end_of HFT.out.1 HFT.out.2 HXN.out] at hbe
    have bf : (f : Int) ≤ 1000000 := by have := HFT.out; omega
    have bt : (t : Int) ≤ 1000000 := by have := HFT.out; omega
    have hft0 := HFT.out.1
    clear hb HW HV
    go_upto_region 16 with fail
    go_cut [15] from 116 to 148 (fun v wx => v = .bool b ∧ wx = w)
    case first =>
      by_cases ht : t = n
      · have t1 : ((t : Int) == (n : Int)) = true := by simp [ht]
        have t2 : ((f : Int) < (t : Int)) ∨ ((f : Int) == (n : Int)) = true := by
          by_cases c : f < t
          · exact .inl (by omega)
          · exact .inr (by simp; omega)
        have hbe2 : (decide (xn = 0) || decide (xn = 2)) = b := by simpa [ht] using hbe
        clear hbe
        rcases t2 with t2 | t2
        · by_cases x0 : xn = 0
          · have e0 : ((xn : Int) == 0) = true := by simp [x0]
            obtain rfl : true = b := by simpa [x0] using hbe2
            clear hbe2 ht x0
            go_wp2_with fail
            go_meet
            exact ⟨rfl, rfl⟩
          · have e0 : ((xn : Int) == 0) = false := by simp; omega
            by_cases x2 : xn = 2
            · have e2 : ((xn : Int) == 2) = true := by simp [x2]
              obtain rfl : true = b := by simpa [x2] using hbe2
              clear hbe2 ht x2
              go_wp2_with fail
              go_meet
              exact ⟨rfl, rfl⟩
            · have e2 : ((xn : Int) == 2) = false := by simp; omega
              obtain rfl : false = b := by simpa [x0, x2] using hbe2
              clear hbe2 ht
              go_wp2_with fail
              go_meet
              exact ⟨rfl, rfl⟩
        · have t3 : ¬ ((f : Int) < (t : Int)) := by simp at t2; omega
          by_cases x0 : xn = 0
          · have e0 : ((xn : Int) == 0) = true := by simp [x0]
            obtain rfl : true = b := by simpa [x0] using hbe2
            clear hbe2 ht x0
            go_wp2_with fail
            go_meet
            exact ⟨rfl, rfl⟩
          · have e0 : ((xn : Int) == 0) = false := by simp; omega
            by_cases x2 : xn = 2
            · have e2 : ((xn : Int) == 2) = true := by simp [x2]
              obtain rfl : true = b := by simpa [x2] using hbe2
              clear hbe2 ht x2
              go_wp2_with fail
              go_meet
              exact ⟨rfl, rfl⟩
            · have e2 : ((xn : Int) == 2) = false := by simp; omega
              obtain rfl : false = b := by simpa [x0, x2] using hbe2
              clear hbe2 ht
              go_wp2_with fail
              go_meet
              exact ⟨rfl, rfl⟩
      · have t1 : ((t : Int) == (n : Int)) = false := by simp; omega
        obtain rfl : false = b := by simpa [ht] using hbe
        clear hbe
        go_wp2_with fail
        go_meet
        exact ⟨rfl, rfl⟩
    case rest =>
      clear hbe
      obtain ⟨rfl, hwx⟩ := hcut
      replace hwx := hwx.symm
      subst hwx
      obtain ⟨Ac, hAc⟩ : ∃ Ac, (if c = f then A else A.map (·.add f)) = Ac := ⟨_, rfl⟩
      have SD : Hid (∀ u, Sl u gr A n D → Sl u gr Ac (t - f) ((D.drop f).take (t - f))) := fun u hu => by
        rw [← hAc]
        exact (hu.drop (k := f) (c := c) (by have := HFT.out; omega) HH.out.nc.1).take (by have := HFT.out; omega)
      have hcut2 : ∀ u : World, (Instr.slice 22 (.slice A n c) (some (.int .i64 (f : Int))) (some (.int .i64 (t : Int))) none).run Tryd.prog u = .ok (.slice Ac (t - f) (c - f)) u := fun u => by
        rw [← hAc]
        exact run_cut2 u A n c f t HFT.out.1 (by have := HFT.out; have := HH.out.nc; omega)
      clear hAc
      by_cases hft : f = t
      · have f1 : ((t : Int) == (f : Int)) = true := by simp [hft]
        cases b
        · have HNV : Hid (r = none) := by
            show _ = _
            rw [← HVS.out]
            unfold sendV
            rw [if_pos ⟨hft, HBE.out⟩]
          clear hft
          go_wp2_with fail
          refine bodyPost_ret (results_tmp4 rfl _ _ _) rfl ?_
          exact .inl ⟨HNV.out, rfl, rfl⟩
        · have HVR : Hid (r = some (f, t, true)) := by
            show _ = _
            rw [← HVS.out]
            unfold sendV
            rw [if_neg (fun h => by rw [HBE.out] at h; cases h.2), HBE.out]
          clear hft
          go_wp2_with fail
          go_loopw [16] (fun iv wr => ∃ v : Nat, iv = .int .i64 (v : Int) ∧ f ≤ v ∧ v ≤ t ∧ Hid (RefW wr C gr gs A n c D (fun k => if f ≤ k ∧ k < v then 1 else s k)) ∧ Hid (Only gs w wr)) (fun iv _ => t - (intOf iv).toNat)
          case atStart => exact ⟨f, rfl, Nat.le_refl _, HFT.out.1, (HH.out.cong (s' := fun k => if f ≤ k ∧ k < f then 1 else s k) fun k _ => by rw [if_neg (by omega)]), Only.refl _ _⟩
          case round =>
            obtain ⟨v, rfl, hfv, hvt, RR, OO⟩ := hrel
            obtain ⟨d0, d1⟩ := RR.out.cells
            have df := RR.out.s.frozen
            by_cases hlt : v < t
            · have l1 : ((v : Int) < (t : Int)) := by omega
              have l0 : ((v : Int) < (n : Int) + 1) := by have := HFT.out; omega
              have hvn : v ≤ n := by have := HFT.out; omega
              have hc := RR.out.at_ (i := v) hvn
              rw [if_neg (by omega)] at hc
              obtain ⟨x, hx⟩ : ∃ x, s v = x := ⟨_, rfl⟩
              rw [hx] at hc
              clear hx
              go_wp2_with fail
              go_roundw
              case rel =>
                refine ⟨v + 1, by go_num, by omega, by omega, ?_, OO.out.setCell v _⟩
                refine (RR.out.setS ((svs_set 1 hvn) ▸ RR.out.s.put v (.int .i64 ((1 : Nat) : Int))) ((Only.refl gs wr).setCell v _)).cong fun k _ => ?_
                by_cases c : k = v
                · subst c
                  simp [hfv]
                · simp only [c, if_false]
                  by_cases c2 : f ≤ k ∧ k < v
                  · rw [if_pos c2, if_pos ⟨c2.1, by omega⟩]
                  · rw [if_neg c2, if_neg (by omega)]
              case measure => simp [intOf]; omega
            · obtain rfl : v = t := by omega
              have l1 : ¬ ((v : Int) < (v : Int)) := by omega
              have hcn := RR.out.at_ (i := n) (Nat.le_refl _)
              rw [if_neg (by have := HFT.out; omega), HXN.out] at hcn
              have RS : Hid (RefW (wr.setCell ⟨gs, n, none⟩ (.int .i64 1)) C gr gs A n c D (landV n s 1 (some (f, v, true)))) :=
                (RR.out.setS ((svs_set 1 (Nat.le_refl n)) ▸ RR.out.s.put n (.int .i64 ((1 : Nat) : Int))) ((Only.refl gs wr).setCell n _)).cong fun k _ => by
                  unfold landV
                  simp only
                  by_cases c : k = n
                  · subst c
                    simp
                  · simp [c]
              have OS : Hid (Only gs w (wr.setCell ⟨gs, n, none⟩ (.int .i64 1))) := OO.out.setCell n _
              clear RR OO
              have e0 := RS.out.cells.1
              have hgs : gr ≠ gs := by have := RS.out.b2; omega
              go_wp2_with (at_builtin; refine wpList_append_bytes rfl _ _ rfl (wr.setCell ⟨gs, n, none⟩ (.int .i64 1)).heap.size (.slice none 0 0) 0 [] rfl (Own.nil _ _) gr Ac (v - f) (c - f) ((D.drop f).take (v - f)) rfl (SD.out _ RS.out.d) (by have := HFT.out; omega) (Nat.le_refl _) (wr.setCell ⟨gs, n, none⟩ (.int .i64 1)) (Below.refl _ _) ?_; intro A1 c2 w5 ho hle hc5 hg hb)
              simp only [Nat.zero_add, List.nil_append] at ho hle hc5 hg hb ⊢
              have HO := Lib.hid ho
              have HE := Lib.hid hle
              have HC5 := Lib.hid hc5
              have HBB := Lib.hid hb
              clear ho hle hc5 hg hb
              go_wp2_with fail
              refine bodyPost_ret (results_tmp4 rfl _ _ _) rfl ?_
              exact .inr ⟨f, v, true, A1, c2, HVR.out, rfl, HO.out.base OS.out.size, ⟨HE.out, HC5.out⟩, HFT.out.1, HFT.out.2, RS.out.below HBB.out, OS.out.trans (Only.of_below HBB.out)⟩
      · have f1 : ((t : Int) == (f : Int)) = false := by simp; omega
        cases b
        · have HVR : Hid (r = some (f, t, false)) := by
            show _ = _
            rw [← HVS.out]
            unfold sendV
            rw [if_neg (fun h => hft h.1), HBE.out]
          go_wp2_with fail
          go_loopw [16] (fun iv wr => ∃ v : Nat, iv = .int .i64 (v : Int) ∧ f ≤ v ∧ v ≤ t ∧ Hid (RefW wr C gr gs A n c D (fun k => if f ≤ k ∧ k < v then 1 else s k)) ∧ Hid (Only gs w wr)) (fun iv _ => t - (intOf iv).toNat)
          case atStart => exact ⟨f, rfl, Nat.le_refl _, HFT.out.1, (HH.out.cong (s' := fun k => if f ≤ k ∧ k < f then 1 else s k) fun k _ => by rw [if_neg (by omega)]), Only.refl _ _⟩
          case round =>
            obtain ⟨v, rfl, hfv, hvt, RR, OO⟩ := hrel
            obtain ⟨d0, d1⟩ := RR.out.cells
            have df := RR.out.s.frozen
            by_cases hlt : v < t
            · have l1 : ((v : Int) < (t : Int)) := by omega
              have l0 : ((v : Int) < (n : Int) + 1) := by have := HFT.out; omega
              have hvn : v ≤ n := by have := HFT.out; omega
              have hc := RR.out.at_ (i := v) hvn
              rw [if_neg (by omega)] at hc
              obtain ⟨x, hx⟩ : ∃ x, s v = x := ⟨_, rfl⟩
              rw [hx] at hc
              clear hx
              go_wp2_with fail
              go_roundw
              case rel =>
                refine ⟨v + 1, by go_num, by omega, by omega, ?_, OO.out.setCell v _⟩
                refine (RR.out.setS ((svs_set 1 hvn) ▸ RR.out.s.put v (.int .i64 ((1 : Nat) : Int))) ((Only.refl gs wr).setCell v _)).cong fun k _ => ?_
                by_cases c : k = v
                · subst c
                  simp [hfv]
                · simp only [c, if_false]
                  by_cases c2 : f ≤ k ∧ k < v
                  · rw [if_pos c2, if_pos ⟨c2.1, by omega⟩]
                  · rw [if_neg c2, if_neg (by omega)]
              case measure => simp [intOf]; omega
            · obtain rfl : v = t := by omega
              have l1 : ¬ ((v : Int) < (v : Int)) := by omega
              have RS : Hid (RefW wr C gr gs A n c D (landV n s 1 (some (f, v, false)))) := RR.out.cong fun k _ => by
                unfold landV
                simp
              have OS : Hid (Only gs w wr) := OO.out
              clear RR OO
              have e0 := RS.out.cells.1
              have hgs : gr ≠ gs := by have := RS.out.b2; omega
              go_wp2_with (at_builtin; refine wpList_append_bytes rfl _ _ rfl wr.heap.size (.slice none 0 0) 0 [] rfl (Own.nil _ _) gr Ac (v - f) (c - f) ((D.drop f).take (v - f)) rfl (SD.out _ RS.out.d) (by have := HFT.out; omega) (Nat.le_refl _) wr (Below.refl _ _) ?_; intro A1 c2 w5 ho hle hc5 hg hb)
              simp only [Nat.zero_add, List.nil_append] at ho hle hc5 hg hb ⊢
              have HO := Lib.hid ho
              have HE := Lib.hid hle
              have HC5 := Lib.hid hc5
              have HBB := Lib.hid hb
              clear ho hle hc5 hg hb
              go_wp2_with fail
              refine bodyPost_ret (results_tmp4 rfl _ _ _) rfl ?_
              exact .inr ⟨f, v, false, A1, c2, HVR.out, rfl, HO.out.base OS.out.size, ⟨HE.out, HC5.out⟩, HFT.out.1, HFT.out.2, RS.out.below HBB.out, OS.out.trans (Only.of_below HBB.out)⟩
        · have HVR : Hid (r = some (f, t, true)) := by
            show _ = _
            rw [← HVS.out]
            unfold sendV
            rw [if_neg (fun h => hft h.1), HBE.out]
          go_wp2_with fail
          go_loopw [16] (fun iv wr => ∃ v : Nat, iv = .int .i64 (v : Int) ∧ f ≤ v ∧ v ≤ t ∧ Hid (RefW wr C gr gs A n c D (fun k => if f ≤ k ∧ k < v then 1 else s k)) ∧ Hid (Only gs w wr)) (fun iv _ => t - (intOf iv).toNat)
          case atStart => exact ⟨f, rfl, Nat.le_refl _, HFT.out.1, (HH.out.cong (s' := fun k => if f ≤ k ∧ k < f then 1 else s k) fun k _ => by rw [if_neg (by omega)]), Only.refl _ _⟩
          case round =>
            obtain ⟨v, rfl, hfv, hvt, RR, OO⟩ := hrel
            obtain ⟨d0, d1⟩ := RR.out.cells
            have df := RR.out.s.frozen
            by_cases hlt : v < t
            · have l1 : ((v : Int) < (t : Int)) := by omega
              have l0 : ((v : Int) < (n : Int) + 1) := by have := HFT.out; omega
              have hvn : v ≤ n := by have := HFT.out; omega
              have hc := RR.out.at_ (i := v) hvn
              rw [if_neg (by omega)] at hc
              obtain ⟨x, hx⟩ : ∃ x, s v = x := ⟨_, rfl⟩
              rw [hx] at hc
              clear hx
              go_wp2_with fail
              go_roundw
              case rel =>
                refine ⟨v + 1, by go_num, by omega, by omega, ?_, OO.out.setCell v _⟩
                refine (RR.out.setS ((svs_set 1 hvn) ▸ RR.out.s.put v (.int .i64 ((1 : Nat) : Int))) ((Only.refl gs wr).setCell v _)).cong fun k _ => ?_
                by_cases c : k = v
                · subst c
                  simp [hfv]
                · simp only [c, if_false]
                  by_cases c2 : f ≤ k ∧ k < v
                  · rw [if_pos c2, if_pos ⟨c2.1, by omega⟩]
                  · rw [if_neg c2, if_neg (by omega)]
              case measure => simp [intOf]; omega
            · obtain rfl : v = t := by omega
              have l1 : ¬ ((v : Int) < (v : Int)) := by omega
              have hcn := RR.out.at_ (i := n) (Nat.le_refl _)
              rw [if_neg (by have := HFT.out; omega), HXN.out] at hcn
              have RS : Hid (RefW (wr.setCell ⟨gs, n, none⟩ (.int .i64 1)) C gr gs A n c D (landV n s 1 (some (f, v, true)))) :=
                (RR.out.setS ((svs_set 1 (Nat.le_refl n)) ▸ RR.out.s.put n (.int .i64 ((1 : Nat) : Int))) ((Only.refl gs wr).setCell n _)).cong fun k _ => by
                  unfold landV
                  simp only
                  by_cases c : k = n
                  · subst c
                    simp
                  · simp [c]
              have OS : Hid (Only gs w (wr.setCell ⟨gs, n, none⟩ (.int .i64 1))) := OO.out.setCell n _
              clear RR OO
              have e0 := RS.out.cells.1
              have hgs : gr ≠ gs := by have := RS.out.b2; omega
              go_wp2_with (at_builtin; refine wpList_append_bytes rfl _ _ rfl (wr.setCell ⟨gs, n, none⟩ (.int .i64 1)).heap.size (.slice none 0 0) 0 [] rfl (Own.nil _ _) gr Ac (v - f) (c - f) ((D.drop f).take (v - f)) rfl (SD.out _ RS.out.d) (by have := HFT.out; omega) (Nat.le_refl _) (wr.setCell ⟨gs, n, none⟩ (.int .i64 1)) (Below.refl _ _) ?_; intro A1 c2 w5 ho hle hc5 hg hb)
              simp only [Nat.zero_add, List.nil_append] at ho hle hc5 hg hb ⊢
              have HO := Lib.hid ho
              have HE := Lib.hid hle
              have HC5 := Lib.hid hc5
              have HBB := Lib.hid hb
              clear ho hle hc5 hg hb
              go_wp2_with fail
              refine bodyPost_ret (results_tmp4 rfl _ _ _) rfl ?_
              exact .inr ⟨f, v, true, A1, c2, HVR.out, rfl, HO.out.base OS.out.size, ⟨HE.out, HC5.out⟩, HFT.out.1, HFT.out.2, RS.out.below HBB.out, OS.out.trans (Only.of_below HBB.out)⟩
end Go.Proofs.YtkodjajhlcbmkaaDoor
