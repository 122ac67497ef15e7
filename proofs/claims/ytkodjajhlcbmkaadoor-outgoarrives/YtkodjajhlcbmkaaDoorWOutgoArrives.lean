/-
  The law OutgoArrives: what is told to be sent, with some of it lost and told again, is all of the data.
-/
import Derived.Test.YtkodjajhlcbmkaaDoorOuH
import Derived.Test.YtkodjajhlcbmkaaDoorLow
import Derived.Test.YtkodjajhlcbmkaaDoorOver
import Derived.LoopTactic
namespace Go.Proofs.YtkodjajhlcbmkaaDoor
open Go.RowKit Go.Lib
set_option linter.unusedVariables false

/-- nothing is under way -/
def Calm (n : Nat) (s : Nat → Nat) : Prop := ∀ i, i ≤ n → s i = 0 ∨ s i = 2 ∨ s i = 3
/-- what was told is now c -/
def toldS (n : Nat) (s : Nat → Nat) (f t : Nat) (e : Bool) (c i : Nat) : Nat := if (f ≤ i ∧ i < t) ∨ (i = n ∧ e = true) then c else s i
theorem told_calm {n f t c : Nat} {e : Bool} {s : Nat → Nat} (h : Calm n s) (hc : c = 2 ∨ c = 3) : Calm n (toldS n s f t e c) := fun i hi => by
  unfold toldS
  split
  · omega
  · exact h i hi
/-- what came stands where it should -/
def Got (n : Nat) (s : Nat → Nat) (L D : List UInt8) : Prop := L.length = n ∧ ∀ k, k < n → s k = 3 → L.getD k 0 = D.getD k 0
theorem got_lost {n f t : Nat} {e : Bool} {s : Nat → Nat} {L D : List UInt8} (h : Got n s L D) : Got n (toldS n s f t e 2) L D := ⟨h.1, fun k hk hs => h.2 k hk (by
  unfold toldS at hs
  split at hs
  · omega
  · exact hs)⟩
theorem getD_splice (L x : List UInt8) (f k : Nat) (h : f + x.length ≤ L.length) : (splice L f x).getD k 0 = if f ≤ k ∧ k < f + x.length then x.getD (k - f) 0 else L.getD k 0 := by
  unfold splice
  simp only [List.getD_eq_getElem?_getD, List.getElem?_append, List.length_take, List.getElem?_take, List.getElem?_drop]
  by_cases c1 : k < f
  · rw [if_pos (by omega), if_pos c1, if_neg (by omega)]
  · rw [if_neg (by omega)]
    by_cases c2 : k < f + x.length
    · rw [if_pos (by omega), if_pos ⟨by omega, c2⟩, show k - min f L.length = k - f by omega]
    · rw [if_neg (by omega), if_neg (by omega), show f + x.length + (k - min f L.length - x.length) = k by omega]
theorem got_came {n f t d : Nat} {e : Bool} {s : Nat → Nat} {L D : List UInt8} (h : Got n s L D) (hD : D.length = n) (hft : f ≤ t) (htn : t ≤ n) (hd : t - f = d) : Got n (toldS n s f t e 3) (splice L f (((D.drop f).take d).take d)) D := by
  have hx : (((D.drop f).take d).take d).length = d := by
    rw [List.length_take, List.length_take, List.length_drop, hD]
    omega
  have hl := h.1
  refine ⟨?_, fun k hk hs => ?_⟩
  · unfold splice
    simp only [List.length_append, List.length_take, List.length_drop] at hx ⊢
    omega
  · rw [getD_splice _ _ _ _ (by rw [hx]; omega), hx]
    by_cases c : f ≤ k ∧ k < f + d
    · rw [if_pos c]
      simp only [List.getD_eq_getElem?_getD, List.getElem?_take, List.getElem?_drop]
      rw [if_pos (by omega), if_pos (by omega), show f + (k - f) = k by omega]
    · rw [if_neg c]
      refine h.2 k hk ?_
      unfold toldS at hs
      rw [if_neg (fun h' => h'.elim (fun h' => c ⟨h'.1, by omega⟩) (fun h' => by omega))] at hs
      exact hs
theorem got_all {n : Nat} {s : Nat → Nat} {L D : List UInt8} (h : Got n s L D) (hD : D.length = n) (hs : doneV n s = true) : L = D := by
  refine List.ext_getElem (by rw [h.1, hD]) fun k h1 h2 => ?_
  have := h.2 k (by omega) (done_all hs k (by omega))
  simpa [h1, h2] using this
theorem zed_lost {n f t : Nat} {e z : Bool} {s : Nat → Nat} (hz : z = decide (s n = 3)) (he : e = true → t = n ∧ s n ≠ 3) (ht : t ≤ n) : z = decide (toldS n s f t e 2 n = 3) := by
  unfold toldS
  cases e
  · rw [if_neg (fun h => h.elim (fun h => by omega) (fun h => by cases h.2))]
    exact hz
  · rw [if_pos (Or.inr (And.intro rfl rfl)), hz]
    have := (he rfl).2
    simp [this]
theorem zed_came {n f t : Nat} {e z : Bool} {s : Nat → Nat} (hz : z = decide (s n = 3)) (ht : t ≤ n) : (z || e) = decide (toldS n s f t e 3 n = 3) := by
  unfold toldS
  cases e
  · rw [if_neg (fun h => h.elim (fun h => by omega) (fun h => by cases h.2)), Bool.or_false]
    exact hz
  · rw [if_pos (Or.inr (And.intro rfl rfl)), Bool.or_true]
    rfl
theorem rest_came {n f t j : Nat} {e : Bool} {s : Nat → Nat} (hn : n ≤ 200) (hj : j ≤ 60 ∨ restV n s + j ≤ 261) (hft : f ≤ t) (htn : t ≤ n) (hp : f < t ∨ e = true) (hb : ∀ j, f ≤ j → j < t → s j ≠ 3) (he : e = true → t = n ∧ s n ≠ 3) : j + 1 ≤ 261 ∧ (j + 1 ≤ 60 ∨ restV n (toldS n s f t e 3) + (j + 1) ≤ 261) := by
  have h1 := rest_less (s' := toldS n s f t e 3) hft htn (fun _ _ => rfl) hp hb (fun h => (he h).2)
  have h2 := rest_le n s
  omega
theorem arrives_long (A : Option Addr) (n c : Nat) (a1 a2 : Int) (w : World) (hG : Glob w) (hn : 200 < n) (hm : n ≤ maxLen) : Calls Tryd.prog 4 #[.slice A n c, .int .i64 a1, .int .u64 a2] w fun e w' => e = .returned (.bool true) ∧ Below w.heap.size w w' := by
  have AW := Lib.hid (awake_any w hG)
  have hlt : (200 : Int) < (n : Int) := by omega
  clear hG hm
  go_enter Tryd.func4, Tryd.ntmps4
  go_wp2_with fail
  (with_reducible refine AW.out.mono ?_)
  rintro e1 w1 ⟨rfl, b1⟩
  go_wp2_with fail
  go_ret
  exact ⟨rfl, b1⟩
set_option maxRecDepth 8000 in
set_option maxHeartbeats 4000000 in
theorem arrives_any {A : Option Addr} {n c B0 : Nat} {D : List UInt8} {w : World} (h : Sl w B0 A n D) (hB : B0 ≤ w.heap.size) (hnc : n ≤ c) (hcm : c ≤ maxLen) (hn : n ≤ 200) (a1 : Int) (lo : Nat) (hG : Glob w) :
    Calls Tryd.prog 4 #[.slice A n c, .int .i64 a1, .int .u64 (lo : Int)] w fun e w' => e = .returned (.bool true) ∧ Below w.heap.size w w' := by
  obtain ⟨z1, z10, z11, HA⟩ := low_int a1 50 (by omega) (by omega)
  obtain ⟨r, hr⟩ : ∃ r : Nat, 1 + z1 = (r : Int) := ⟨(1 + z1).toNat, by omega⟩
  have WN := Lib.hid (show (Lit.int .i64 (n : Int)).wf = true from wf_i64 (by omega) (by omega))
  have WR := Lib.hid (show (Lit.int .i64 (r : Int)).wf = true from wf_i64 (by omega) (by omega))
  have HA := Lib.hid HA
  have HG := Lib.hid hG
  have DS := Lib.hid h
  have HB := Lib.hid hB
  have HDL : Hid (D.length = n) := h.1
  have K1 : Hid (1 ≤ r ∧ r ≤ 50) := by show _ ∧ _; omega
  have P := Lib.hid (rn_new (w0 := w) (c0 := c) h hB (by omega) hG (Below.refl _ _) hG.pos)
  have hmk : ∀ u : World, (Instr.makeSlice 22 (.int .i64 (n : Int)) (.int .i64 (n : Int))).run Tryd.prog u = .ok (.slice (some ⟨u.heap.size, 0, none⟩) n n) (u.alloc (.cells (bvs (List.replicate n 0)).toArray 5)) := fun u => by
    have h := run_make_full n (by omega) u
    rw [made_zeros] at h
    exact h
  have b1 : (n : Int) ≤ 200 := by omega
  have b2 : (r : Int) ≤ 50 := by omega
  have b3 : (0 : Int) ≤ (r : Int) := by omega
  clear h hB hnc hcm hG
  go_enter Tryd.func4, Tryd.ntmps4
  go_wp2_with fail
  (with_reducible refine (HA.out _).mono ?_)
  rintro e1 w1 ⟨rfl, rfl⟩
  go_wp2_with fail
  (with_reducible refine P.out.mono ?_)
  rintro e3 w3 ⟨g, rfl, r3, b3', hg3⟩
  obtain ⟨B, hBe⟩ : ∃ B, w.heap.size = B := ⟨_, rfl⟩
  have Q3 : Hid (Rn w (w3.alloc (.cells (bvs (List.replicate n 0)).toArray 5)) w.heap.size g n D (fun _ => 0)) := r3.alloc _
  have K3 : Hid (Blk (w3.alloc (.cells (bvs (List.replicate n 0)).toArray 5)) w3.heap.size 5 (List.replicate n 0)) := heap_alloc_new w3 _
  have G3 : Hid (g < w3.heap.size) := r3.o.lt.2
  rw [hBe] at Q3
  clear r3 b3' hg3 P
  go_wp2_with fail
  go_loopw [9, 10] (fun en i wr => ∃ (j : Nat) (z : Bool) (s : Nat → Nat) (L : List UInt8), i = .int .i64 (j : Int) ∧ en = .bool z ∧ j ≤ 261 ∧ Hid (z = decide (s n = 3)) ∧ Hid (Calm n s) ∧ Hid (j ≤ 60 ∨ restV n s + j ≤ 261) ∧ Hid (Got n s L D) ∧ Hid (Blk wr w3.heap.size 5 L) ∧ Hid (Rn w wr B g n D s)) (fun _ i _ => 500 - (intOf i).toNat)
  case atStart => exact ⟨0, false, fun _ => 0, List.replicate n 0, rfl, rfl, by omega, rfl, fun i _ => .inl rfl, .inl (by omega), ⟨by simp, fun k _ h => by cases h⟩, K3, Q3⟩
  case round =>
    clear Q3 K3
    obtain ⟨j, z, s, L, rfl, rfl, hj, HZ, HC, HJ, HL, K, R⟩ := hrel
    obtain ⟨dn, hdn⟩ : ∃ dn, doneV n s = dn := ⟨_, rfl⟩
    have HDN := Lib.hid hdn
    have P0 := Lib.hid (rn_done R.out dn hdn)
    clear hdn
    cases dn
    · go_wp2_with fail
      (with_reducible refine P0.out.mono ?_)
      rintro e4 w4 ⟨rfl, rfl⟩
      obtain ⟨f, t, e, hnx, hft, htn, hroom, hen, hprog, hns⟩ := calm_next (room := (r : Int)) HC.out HDN.out (by have := K1.out; omega)
      obtain ⟨d, hd⟩ : ∃ d, t - f = d := ⟨_, rfl⟩
      have P4 := rn_some (f := f) (t := t) (b := e) R.out WR.out WN.out hnx (fun _ _ => rfl)
      rw [hd] at P4
      have P4 := Lib.hid P4
      have hfn : ¬ ((n : Int) < (f : Int)) := by omega
      obtain ⟨mm, hmm⟩ : ∃ mm : Int, min (r : Int) ((n : Int) - (f : Int)) = mm := ⟨_, rfl⟩
      have hdm : ¬ (mm < (d : Int)) := by omega
      have hfd : (f : Int) + (d : Int) = (t : Int) := by omega
      have hff : ¬ ((f : Int) < 0) := by omega
      have bf : (f : Int) ≤ 200 := by omega
      have bd : (d : Int) ≤ 200 := by omega
      have bt : (t : Int) ≤ 200 := by omega
      have HD := Lib.hid hd
      have HFT : Hid (f ≤ t ∧ t ≤ n) := ⟨hft, htn⟩
      have HEN := Lib.hid hen
      have HPR := Lib.hid hprog
      have HNS := Lib.hid hns
      have htne : e = true → ((t : Int) != (n : Int)) = false := fun hh => by
        have := (hen hh).1
        simp [this]
      have WF := Lib.hid (show (Lit.int .i64 (f : Int)).wf = true from wf_i64 (by omega) (by omega))
      have WD := Lib.hid (show (Lit.int .i64 (d : Int)).wf = true from wf_i64 (by omega) (by omega))
      clear hnx hft htn hroom hen hprog hns hd
      have HLST : Hid (∀ u, Rn w u B g n D (landV n s 1 (some (f, t, e))) → Calls Tryd.prog 18 #[.pointer (some ⟨g, 0, none⟩), .int .i64 (f : Int), .int .i64 (d : Int), .bool e] u
          fun e' w' => e' = .returned (.tuple #[]) ∧ Rn w w' B g n D (toldS n s f t e 2) ∧ Mv B (g + 1) u w') := fun u hu => rn_lost hu e WF.out WD.out (fun i _ => by rw [← HD.out]; exact calm_lost HFT.out.1 HFT.out.2 i)
      have HTHR : Hid (∀ u, Rn w u B g n D (landV n s 1 (some (f, t, e))) → Calls Tryd.prog 16 #[.pointer (some ⟨g, 0, none⟩), .int .i64 (f : Int), .int .i64 (d : Int), .bool e] u
          fun e' w' => e' = .returned (.tuple #[]) ∧ Rn w w' B g n D (toldS n s f t e 3) ∧ Mv B (g + 1) u w') := fun u hu => rn_there hu e WF.out WD.out (fun i _ => by rw [← HD.out]; exact calm_there HFT.out.1 HFT.out.2 i)
      go_wp2_with fail
      (with_reducible refine P4.out.mono ?_)
      rintro e5 w5 ⟨A4, c4, rfl, o5, q5, _, _, r5, m5⟩
      have R5 := Lib.hid r5
      have O5 := Lib.hid o5
      have C5 := Lib.hid q5
      have K5 : Hid (Blk w5 w3.heap.size 5 L) := (m5.block w3.heap.size (Array.getElem?_eq_some_iff.1 K.out).1 (.inr (by have := G3.out; omega))).trans K.out
      clear r5 o5 q5 m5 P4 K R
      obtain ⟨nf, hnf⟩ : ∃ nf, n - f = nf := ⟨_, rfl⟩
      obtain ⟨Ag, hAg⟩ : ∃ Ag : Option Addr, (if n = f then some ⟨w3.heap.size, 0, none⟩ else (some (⟨w3.heap.size, 0, none⟩ : Addr)).map (·.add f)) = Ag := ⟨_, rfl⟩
      have hcut : ∀ u : World, (Instr.slice 22 (.slice (some ⟨w3.heap.size, 0, none⟩) n n) (some (.int .i64 (f : Int))) none none).run Tryd.prog u = .ok (.slice Ag nf nf) u := fun u => by
        rw [← hAg, ← hnf]
        exact run_cut_bytes u _ n n f (by have := HFT.out; omega) (Nat.le_refl _)
      have HAG : Hid (0 < d → Ag = some ⟨w3.heap.size, f, none⟩) := fun h0 => by
        rw [← hAg, if_neg (by have := HFT.out; have := HD.out; omega)]
        simp only [Option.map_some, Addr.add]
        split <;> simp_all
      have HMN : Hid (d = min d nf) := by
        have := HFT.out
        have := HD.out
        show _ = _
        omega
      have HZL : Hid (z = decide (toldS n s f t e 2 n = 3)) := zed_lost HZ.out HEN.out HFT.out.2
      have HZC : Hid ((z || e) = decide (toldS n s f t e 3 n = 3)) := zed_came HZ.out HFT.out.2
      have HRC : Hid (j + 1 ≤ 261 ∧ (j + 1 ≤ 60 ∨ restV n (toldS n s f t e 3) + (j + 1) ≤ 261)) := rest_came hn HJ.out HFT.out.1 HFT.out.2 HPR.out HNS.out HEN.out
      clear hAg hnf HEN HPR HNS
      by_cases h60 : j < 60
      · have hj6 : ((j : Int) < 60) := by omega
        cases e
        · cases z
          · go_wp2_with ((with_reducible refine wpList_copy_over rfl (.tmp 100) (.tmp 101) rfl w3.heap.size f nf nf d c4 w5.heap.size d Ag A4 ((D.drop f).take d) L 5 ?hd ?hs O5.out.sl ?hg HMN.out HAG.out ?hf ?_); (case hg => exact K5.out); (case hd => with_unfolding_all rfl); (case hs => with_unfolding_all rfl); (case hf => have := HL.out.1; have := HFT.out; have := HD.out; omega); intro w6 k6 o6)
            · (with_reducible refine (HLST.out _ R5.out).mono ?_)
              rintro e6 w6 ⟨rfl, r6, m6⟩
              have K6 : Hid (Blk w6 w3.heap.size 5 L) := (m6.block w3.heap.size (Array.getElem?_eq_some_iff.1 K5.out).1 (.inr (by have := G3.out; omega))).trans K5.out
              go_wp2_with fail
              go_roundw
              case rel => exact ⟨j + 1, _, toldS n s f t _ 2, L, by go_num, rfl, by omega, HZL.out, told_calm HC.out (.inl rfl), .inl (by omega), got_lost HL.out, K6, r6⟩
              case measure => simp [intOf]; omega
            · have R6 := Lib.hid (R5.out.only o6.out G3.out (Array.getElem?_eq_some_iff.1 K5.out).1)
              (with_reducible refine (HTHR.out _ R6.out).mono ?_)
              rintro e7 w7 ⟨rfl, r7, m7⟩
              have K7 : Hid (Blk w7 w3.heap.size 5 (splice L f (((D.drop f).take d).take d))) := (m7.block w3.heap.size (Array.getElem?_eq_some_iff.1 k6.out).1 (.inr (by have := G3.out; omega))).trans k6.out
              go_wp2_with fail
              go_roundw
              case rel =>
                exact ⟨j + 1, false, toldS n s f t _ 3, splice L f (((D.drop f).take d).take d), by go_num, rfl, HRC.out.1, HZC.out, told_calm HC.out (.inr rfl), HRC.out.2, got_came HL.out HDL.out HFT.out.1 HFT.out.2 HD.out, K7, r7⟩
              case measure => simp [intOf]; omega
          · go_wp2_with ((with_reducible refine wpList_copy_over rfl (.tmp 100) (.tmp 101) rfl w3.heap.size f nf nf d c4 w5.heap.size d Ag A4 ((D.drop f).take d) L 5 ?hd ?hs O5.out.sl ?hg HMN.out HAG.out ?hf ?_); (case hg => exact K5.out); (case hd => with_unfolding_all rfl); (case hs => with_unfolding_all rfl); (case hf => have := HL.out.1; have := HFT.out; have := HD.out; omega); intro w6 k6 o6)
            · (with_reducible refine (HLST.out _ R5.out).mono ?_)
              rintro e6 w6 ⟨rfl, r6, m6⟩
              have K6 : Hid (Blk w6 w3.heap.size 5 L) := (m6.block w3.heap.size (Array.getElem?_eq_some_iff.1 K5.out).1 (.inr (by have := G3.out; omega))).trans K5.out
              go_wp2_with fail
              go_roundw
              case rel => exact ⟨j + 1, _, toldS n s f t _ 2, L, by go_num, rfl, by omega, HZL.out, told_calm HC.out (.inl rfl), .inl (by omega), got_lost HL.out, K6, r6⟩
              case measure => simp [intOf]; omega
            · have R6 := Lib.hid (R5.out.only o6.out G3.out (Array.getElem?_eq_some_iff.1 K5.out).1)
              (with_reducible refine (HTHR.out _ R6.out).mono ?_)
              rintro e7 w7 ⟨rfl, r7, m7⟩
              have K7 : Hid (Blk w7 w3.heap.size 5 (splice L f (((D.drop f).take d).take d))) := (m7.block w3.heap.size (Array.getElem?_eq_some_iff.1 k6.out).1 (.inr (by have := G3.out; omega))).trans k6.out
              go_wp2_with fail
              go_roundw
              case rel =>
                exact ⟨j + 1, true, toldS n s f t _ 3, splice L f (((D.drop f).take d).take d), by go_num, rfl, HRC.out.1, HZC.out, told_calm HC.out (.inr rfl), HRC.out.2, got_came HL.out HDL.out HFT.out.1 HFT.out.2 HD.out, K7, r7⟩
              case measure => simp [intOf]; omega
        · have htn2 := htne rfl
          cases z
          · go_wp2_with ((with_reducible refine wpList_copy_over rfl (.tmp 100) (.tmp 101) rfl w3.heap.size f nf nf d c4 w5.heap.size d Ag A4 ((D.drop f).take d) L 5 ?hd ?hs O5.out.sl ?hg HMN.out HAG.out ?hf ?_); (case hg => exact K5.out); (case hd => with_unfolding_all rfl); (case hs => with_unfolding_all rfl); (case hf => have := HL.out.1; have := HFT.out; have := HD.out; omega); intro w6 k6 o6)
            · (with_reducible refine (HLST.out _ R5.out).mono ?_)
              rintro e6 w6 ⟨rfl, r6, m6⟩
              have K6 : Hid (Blk w6 w3.heap.size 5 L) := (m6.block w3.heap.size (Array.getElem?_eq_some_iff.1 K5.out).1 (.inr (by have := G3.out; omega))).trans K5.out
              go_wp2_with fail
              go_roundw
              case rel => exact ⟨j + 1, _, toldS n s f t _ 2, L, by go_num, rfl, by omega, HZL.out, told_calm HC.out (.inl rfl), .inl (by omega), got_lost HL.out, K6, r6⟩
              case measure => simp [intOf]; omega
            · have R6 := Lib.hid (R5.out.only o6.out G3.out (Array.getElem?_eq_some_iff.1 K5.out).1)
              (with_reducible refine (HTHR.out _ R6.out).mono ?_)
              rintro e7 w7 ⟨rfl, r7, m7⟩
              have K7 : Hid (Blk w7 w3.heap.size 5 (splice L f (((D.drop f).take d).take d))) := (m7.block w3.heap.size (Array.getElem?_eq_some_iff.1 k6.out).1 (.inr (by have := G3.out; omega))).trans k6.out
              go_wp2_with fail
              go_roundw
              case rel =>
                exact ⟨j + 1, true, toldS n s f t _ 3, splice L f (((D.drop f).take d).take d), by go_num, rfl, HRC.out.1, HZC.out, told_calm HC.out (.inr rfl), HRC.out.2, got_came HL.out HDL.out HFT.out.1 HFT.out.2 HD.out, K7, r7⟩
              case measure => simp [intOf]; omega
          · go_wp2_with ((with_reducible refine wpList_copy_over rfl (.tmp 100) (.tmp 101) rfl w3.heap.size f nf nf d c4 w5.heap.size d Ag A4 ((D.drop f).take d) L 5 ?hd ?hs O5.out.sl ?hg HMN.out HAG.out ?hf ?_); (case hg => exact K5.out); (case hd => with_unfolding_all rfl); (case hs => with_unfolding_all rfl); (case hf => have := HL.out.1; have := HFT.out; have := HD.out; omega); intro w6 k6 o6)
            · (with_reducible refine (HLST.out _ R5.out).mono ?_)
              rintro e6 w6 ⟨rfl, r6, m6⟩
              have K6 : Hid (Blk w6 w3.heap.size 5 L) := (m6.block w3.heap.size (Array.getElem?_eq_some_iff.1 K5.out).1 (.inr (by have := G3.out; omega))).trans K5.out
              go_wp2_with fail
              go_roundw
              case rel => exact ⟨j + 1, _, toldS n s f t _ 2, L, by go_num, rfl, by omega, HZL.out, told_calm HC.out (.inl rfl), .inl (by omega), got_lost HL.out, K6, r6⟩
              case measure => simp [intOf]; omega
            · have R6 := Lib.hid (R5.out.only o6.out G3.out (Array.getElem?_eq_some_iff.1 K5.out).1)
              (with_reducible refine (HTHR.out _ R6.out).mono ?_)
              rintro e7 w7 ⟨rfl, r7, m7⟩
              have K7 : Hid (Blk w7 w3.heap.size 5 (splice L f (((D.drop f).take d).take d))) := (m7.block w3.heap.size (Array.getElem?_eq_some_iff.1 k6.out).1 (.inr (by have := G3.out; omega))).trans k6.out
              go_wp2_with fail
              go_roundw
              case rel =>
                exact ⟨j + 1, true, toldS n s f t _ 3, splice L f (((D.drop f).take d).take d), by go_num, rfl, HRC.out.1, HZC.out, told_calm HC.out (.inr rfl), HRC.out.2, got_came HL.out HDL.out HFT.out.1 HFT.out.2 HD.out, K7, r7⟩
              case measure => simp [intOf]; omega
      · have hj6 : ¬ ((j : Int) < 60) := by omega
        cases e
        · cases z
          · go_wp2_with ((with_reducible refine wpList_copy_over rfl (.tmp 100) (.tmp 101) rfl w3.heap.size f nf nf d c4 w5.heap.size d Ag A4 ((D.drop f).take d) L 5 ?hd ?hs O5.out.sl ?hg HMN.out HAG.out ?hf ?_); (case hg => exact K5.out); (case hd => with_unfolding_all rfl); (case hs => with_unfolding_all rfl); (case hf => have := HL.out.1; have := HFT.out; have := HD.out; omega); intro w6 k6 o6)
            have R6 := Lib.hid (R5.out.only o6.out G3.out (Array.getElem?_eq_some_iff.1 K5.out).1)
            (with_reducible refine (HTHR.out _ R6.out).mono ?_)
            rintro e7 w7 ⟨rfl, r7, m7⟩
            have K7 : Hid (Blk w7 w3.heap.size 5 (splice L f (((D.drop f).take d).take d))) := (m7.block w3.heap.size (Array.getElem?_eq_some_iff.1 k6.out).1 (.inr (by have := G3.out; omega))).trans k6.out
            go_wp2_with fail
            go_roundw
            case rel =>
              exact ⟨j + 1, false, toldS n s f t _ 3, splice L f (((D.drop f).take d).take d), by go_num, rfl, HRC.out.1, HZC.out, told_calm HC.out (.inr rfl), HRC.out.2, got_came HL.out HDL.out HFT.out.1 HFT.out.2 HD.out, K7, r7⟩
            case measure => simp [intOf]; omega
          · go_wp2_with ((with_reducible refine wpList_copy_over rfl (.tmp 100) (.tmp 101) rfl w3.heap.size f nf nf d c4 w5.heap.size d Ag A4 ((D.drop f).take d) L 5 ?hd ?hs O5.out.sl ?hg HMN.out HAG.out ?hf ?_); (case hg => exact K5.out); (case hd => with_unfolding_all rfl); (case hs => with_unfolding_all rfl); (case hf => have := HL.out.1; have := HFT.out; have := HD.out; omega); intro w6 k6 o6)
            have R6 := Lib.hid (R5.out.only o6.out G3.out (Array.getElem?_eq_some_iff.1 K5.out).1)
            (with_reducible refine (HTHR.out _ R6.out).mono ?_)
            rintro e7 w7 ⟨rfl, r7, m7⟩
            have K7 : Hid (Blk w7 w3.heap.size 5 (splice L f (((D.drop f).take d).take d))) := (m7.block w3.heap.size (Array.getElem?_eq_some_iff.1 k6.out).1 (.inr (by have := G3.out; omega))).trans k6.out
            go_wp2_with fail
            go_roundw
            case rel =>
              exact ⟨j + 1, true, toldS n s f t _ 3, splice L f (((D.drop f).take d).take d), by go_num, rfl, HRC.out.1, HZC.out, told_calm HC.out (.inr rfl), HRC.out.2, got_came HL.out HDL.out HFT.out.1 HFT.out.2 HD.out, K7, r7⟩
            case measure => simp [intOf]; omega
        · have htn2 := htne rfl
          cases z
          · go_wp2_with ((with_reducible refine wpList_copy_over rfl (.tmp 100) (.tmp 101) rfl w3.heap.size f nf nf d c4 w5.heap.size d Ag A4 ((D.drop f).take d) L 5 ?hd ?hs O5.out.sl ?hg HMN.out HAG.out ?hf ?_); (case hg => exact K5.out); (case hd => with_unfolding_all rfl); (case hs => with_unfolding_all rfl); (case hf => have := HL.out.1; have := HFT.out; have := HD.out; omega); intro w6 k6 o6)
            have R6 := Lib.hid (R5.out.only o6.out G3.out (Array.getElem?_eq_some_iff.1 K5.out).1)
            (with_reducible refine (HTHR.out _ R6.out).mono ?_)
            rintro e7 w7 ⟨rfl, r7, m7⟩
            have K7 : Hid (Blk w7 w3.heap.size 5 (splice L f (((D.drop f).take d).take d))) := (m7.block w3.heap.size (Array.getElem?_eq_some_iff.1 k6.out).1 (.inr (by have := G3.out; omega))).trans k6.out
            go_wp2_with fail
            go_roundw
            case rel =>
              exact ⟨j + 1, true, toldS n s f t _ 3, splice L f (((D.drop f).take d).take d), by go_num, rfl, HRC.out.1, HZC.out, told_calm HC.out (.inr rfl), HRC.out.2, got_came HL.out HDL.out HFT.out.1 HFT.out.2 HD.out, K7, r7⟩
            case measure => simp [intOf]; omega
          · go_wp2_with ((with_reducible refine wpList_copy_over rfl (.tmp 100) (.tmp 101) rfl w3.heap.size f nf nf d c4 w5.heap.size d Ag A4 ((D.drop f).take d) L 5 ?hd ?hs O5.out.sl ?hg HMN.out HAG.out ?hf ?_); (case hg => exact K5.out); (case hd => with_unfolding_all rfl); (case hs => with_unfolding_all rfl); (case hf => have := HL.out.1; have := HFT.out; have := HD.out; omega); intro w6 k6 o6)
            have R6 := Lib.hid (R5.out.only o6.out G3.out (Array.getElem?_eq_some_iff.1 K5.out).1)
            (with_reducible refine (HTHR.out _ R6.out).mono ?_)
            rintro e7 w7 ⟨rfl, r7, m7⟩
            have K7 : Hid (Blk w7 w3.heap.size 5 (splice L f (((D.drop f).take d).take d))) := (m7.block w3.heap.size (Array.getElem?_eq_some_iff.1 k6.out).1 (.inr (by have := G3.out; omega))).trans k6.out
            go_wp2_with fail
            go_roundw
            case rel =>
              exact ⟨j + 1, true, toldS n s f t _ 3, splice L f (((D.drop f).take d).take d), by go_num, rfl, HRC.out.1, HZC.out, told_calm HC.out (.inr rfl), HRC.out.2, got_came HL.out HDL.out HFT.out.1 HFT.out.2 HD.out, K7, r7⟩
            case measure => simp [intOf]; omega
    · have hz : z = true := by rw [HZ.out, done_all HDN.out n (Nat.le_refl _)]; rfl
      subst hz
      have S9 := Lib.hid (same_yes L D (got_all HL.out HDL.out HDN.out) _ A n n n c _ B0 wr (K.out.sl wr.heap.size n (Array.getElem?_eq_some_iff.1 K.out).1 HL.out.1) (DS.out.below (R.out.b.mono HB.out)) (by simp only [maxLen]; omega))
      have P1 := Lib.hid (rn_done R.out true HDN.out)
      have R9 : Hid (∀ k, Rn w (wr.drewN k) B g n D s) := fun k => R.out.drewN k
      have AW : Hid (∀ k, Calls Tryd.prog 8 #[] (wr.drewN k) fun e w' => e = .returned (.bool true) ∧ Below (wr.drewN k).heap.size (wr.drewN k) w') := fun k => awake_any _ (R9.out k).G
      go_wp2_with fail
      (with_reducible refine P0.out.mono ?_)
      rintro e4 w4 ⟨rfl, rfl⟩
      go_wp2_with fail
      (with_reducible refine P1.out.mono ?_)
      rintro e5 w5 ⟨rfl, rfl⟩
      go_wp2_with fail
      (with_reducible refine S9.out.mono ?_)
      rintro e6 w6 ⟨rfl, j6, rfl⟩
      go_wp2_with fail
      (with_reducible refine (AW.out _).mono ?_)
      rintro e7 w7 ⟨rfl, b7⟩
      go_wp2_with fail
      go_ret
      exact ⟨rfl, (R9.out j6).b.trans (b7.mono (R9.out j6).b.size)⟩
end Go.Proofs.YtkodjajhlcbmkaaDoor
