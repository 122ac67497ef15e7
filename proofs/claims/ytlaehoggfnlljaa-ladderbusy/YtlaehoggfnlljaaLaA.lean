/-
  Package ladder: what a ladder holds; New, Ask, Busy, slow, Slot.
-/
import Derived.Test.YtlaehoggfnlljaaLaP
import Derived.Test.YtlaehoggfnlljaaLaI
import Derived.Maps.OwnSet
import Derived.Maps.AppendAt
import Derived.LoopTactic
namespace Go.Proofs.Ytlaehoggfnlljaa
open Go.RowKit Go.Lib Go.Maps
set_option linter.unusedVariables false

theorem lawK : Keyed Try.prog 3 := int_keyed Try.underlying3
theorem zeroU (w : World) : (zeroValue 41).run Try.prog w = .ok (.agg #[]) w := by kernel_rfl
theorem keyI {a : Int} (h : (Lit.int .i64 a).wf = true) : keyOf Try.prog 3 (.int .i64 a) = some (.int .i64 a) := keyOf_int_mk Try.underlying3 h
theorem wf_of {a : Int} (h0 : -9223372036854775808 ≤ a) (h1 : a ≤ 9223372036854775807) : (Lit.int .i64 a).wf = true := by
  simp [Lit.wf, IntKind.min, IntKind.max, IntKind.signed, IntKind.bits]
  omega
/-- the ladder at block g, its map at block b: the host h, of whom this was asked -/
def La (w : World) (g b : Nat) (h : Int) (A : List Int) : Prop :=
  w.cell? ⟨g, 0, none⟩ = some (.int .i64 h) ∧ w.cell? ⟨g, 1, none⟩ = some (.map (some b)) ∧ g ≠ b ∧
    ∃ D, w.ownsMap Try.prog 3 (unitElem (H := Unit)) b A.length D ∧ ∀ x : Int, Maps.has D (.int .i64 x) = (decide (0 ≤ x) && A.contains x)
section
variable {w w' : World} {g b : Nat} {h : Int} {A : List Int}
theorem La.lt (L : La w g b h A) : g < w.heap.size := World.block_lt_of_cell? w _ L.1
theorem La.ltb (L : La w g b h A) : b < w.heap.size := by
  obtain ⟨_, _, _, D, hD, _⟩ := L
  exact hD.lt
theorem La.kept {row : Option Nat} (L : La w g b h A) (hg : w.grownBy w' row) (h1 : some g ≠ row) (h2 : some b ≠ row) : La w' g b h A := by
  obtain ⟨c0, c1, hne, D, hD, hh⟩ := L
  exact ⟨hg.cell c0 h1, hg.cell c1 h1, hne, D, hD.kept hg h2, hh⟩
theorem La.below (L : La w g b h A) (hb : Below w.heap.size w w') : La w' g b h A :=
  La.kept (row := none) L ⟨hb.os, hb.tape, hb.output, hb.size, fun k hk _ => hb.block k hk⟩ (by simp) (by simp)
theorem La.drewN (L : La w g b h A) (k : Nat) : La (w.drewN k) g b h A := L
end
theorem new_any (w : World) (h : Int) :
    Calls Try.prog 9 #[.int .i64 h] w fun e w' => e = .returned (.pointer (some ⟨w.heap.size + 1, 0, none⟩)) ∧ La w' (w.heap.size + 1) w.heap.size h [] ∧ Below w.heap.size w w' := by
  have hmm := @run_makeMap Try.prog
  go_enter Try.func9, Try.ntmps9
  go_wp2
  go_ret
  refine ⟨by simp, ⟨by simp, by simp, by omega, .map [], ?_, fun x => ?_⟩, ((Below.refl _ _).alloc (Nat.le_refl _) _).alloc (by simp) _⟩
  · exact (World.ownsMap_made _ _ _ _).alloc _
  · simp [Maps.has]
theorem put_has {A : List Int} {D : DataW Unit} (hM : IsMap D) (hh : ∀ x : Int, Maps.has D (.int .i64 x) = (decide (0 ≤ x) && A.contains x)) {t : Int} (h0 : 0 ≤ t) (u : DataW Unit) (x : Int) :
    Maps.has (D.put (.int .i64 t) u) (.int .i64 x) = (decide (0 ≤ x) && (A ++ [t]).contains x) := by
  by_cases e : x = t
  · subst e
    rw [has_put_same hM (by trivial) u]
    simp [h0]
  · rw [has_put_other (by simpa using e), hh x]
    simp [e]
theorem ask_nil (w : World) (t : Int) : Calls Try.prog 10 #[.pointer none, .int .i64 t] w fun e w' => e = .returned (.tuple #[]) ∧ w = w' := by
  go_enter Try.func10, Try.ntmps10
  go_wp2
  refine bodyPost_ret (results_none rfl _ _ _) rfl ?_
  exact ⟨rfl, rfl⟩
set_option maxHeartbeats 800000 in
theorem ask_any {w : World} {g b : Nat} {h : Int} {A : List Int} (L : La w g b h A) (t : Int) (ht : (Lit.int .i64 t).wf = true) (hA : A.length < 1000000) :
    Calls Try.prog 10 #[.pointer (some ⟨g, 0, none⟩), .int .i64 t] w fun e w' => e = .returned (.tuple #[]) ∧ La w' g b h (A ++ [t]) ∧ w.grownBy w' (some b) := by
  obtain ⟨c0, c1, hne, D, hD, hh⟩ := L
  have HH := Lib.hid hh
  have HD := Lib.hid hD
  have HN := Lib.hid hne
  clear hh hD hne
  by_cases h0 : t < 0
  · go_enter Try.func10, Try.ntmps10
    go_wp2
    refine bodyPost_ret (results_none rfl _ _ _) rfl ?_
    refine ⟨rfl, ⟨c0, c1, HN.out, D, HD.out.mono (by simp), fun x => ?_⟩, World.grownBy.refl _ _⟩
    rw [HH.out x]
    by_cases hx : 0 ≤ x
    · have : x ≠ t := by omega
      simp [this]
    · simp [hx]
  · go_enter Try.func10, Try.ntmps10
    go_wp2_with (first
      | (at_mapUpdate; refine wpList_mapUpdate_own _ rfl _ _ _ 38 rfl 3 41 lawK Try.underlying38 (unitElem (H := Unit)) b A.length _ rfl HD.out (by unfold maxLen; omega) _ _ _ rfl rfl (keyI ht) _ [] unitElem_mk ?_; intro w1 hown1 hgrow1)
      | go_in)
    go_end0
    refine ⟨rfl, ⟨hgrow1.cell c0 (by have := HN.out; simp [this]), hgrow1.cell c1 (by have := HN.out; simp [this]), HN.out, _, (by simpa using hown1), put_has HD.out.isMap HH.out (by omega) (.agg [])⟩, hgrow1⟩
theorem busy_nil (w : World) (t : Int) : Calls Try.prog 14 #[.pointer none, .int .i64 t] w fun e w' => e = .returned (.bool false) ∧ w = w' := by
  go_enter Try.func14, Try.ntmps14
  go_wp2
  go_ret
  exact ⟨rfl, rfl⟩
/-- none of the first k ticks back was asked -/
theorem busy_end {A : List Int} {t : Int} (h : ∀ i : Nat, i < 24 → (decide (0 ≤ t - (i : Int)) && A.contains (t - (i : Int))) = false) : busyL A t = false := by
  refine busy_not fun a ha h0 h1 h2 => ?_
  have := h (t - a).toNat (by omega)
  rw [show t - ((t - a).toNat : Int) = a by omega] at this
  simp [h0, ha] at this
set_option maxHeartbeats 1000000 in
theorem busy_any {w : World} {g b : Nat} {h : Int} {A : List Int} (L : La w g b h A) (t : Int) (ht : (Lit.int .i64 t).wf = true) :
    Calls Try.prog 14 #[.pointer (some ⟨g, 0, none⟩), .int .i64 t] w fun e w' => e = .returned (.bool (busyL A t)) ∧ Below w.heap.size w w' := by
  obtain ⟨c0, c1, hne, D, hD, hh⟩ := L
  have HH := Lib.hid hh
  have HD := Lib.hid hD
  have hg := World.block_lt_of_cell? w _ c1
  clear hh hD hne
  have htb := bd_of_i64 ht
  by_cases h0 : t < 0
  · have hb := Lib.hid (busy_neg A h0)
    go_enter Try.func14, Try.ntmps14
    go_wp2
    go_ret
    exact ⟨by rw [hb.out]; rfl, Below.refl _ _⟩
  · have ht1 := htb.2
    have ht0 : 0 ≤ t := by omega
    clear htb
    go_enter Try.func14, Try.ntmps14
    go_wp2_with fail
    go_loopw [14] (fun i wr => ∃ k : Nat, i = .int .i64 k ∧ k ≤ 24 ∧ Hid (Below w.heap.size w wr) ∧ Hid (wr.ownsMap Try.prog 3 (unitElem (H := Unit)) b A.length D) ∧ Hid (∀ i : Nat, i < k → (decide (0 ≤ t - (i : Int)) && A.contains (t - (i : Int))) = false)) (fun i _ => 24 - (intOf i).toNat)
    case atStart => exact ⟨0, rfl, by omega, Below.refl _ _, HD.out, fun i hi => absurd hi (by omega)⟩
    case round =>
      obtain ⟨k, rfl, hk, HB, HM, HK⟩ := hrel
      by_cases hlt : k < 24
      · have c2 : wr.cell? ⟨g, 1, none⟩ = some (.map (some b)) := (HB.out.cell (by exact hg)).trans c1
        have hw1 : (Lit.int .i64 (t - (k : Int))).wf = true := wf_of (by omega) (by omega)
        obtain ⟨z, hz⟩ : ∃ z, Maps.has D (.int .i64 (t - (k : Int))) = z := ⟨_, rfl⟩
        have HZ := Lib.hid hz
        clear hz
        cases z
        · go_wp2_with (first
            | (at_lookup; refine wpList_lookup_own_unit _ rfl _ _ 38 rfl 3 41 lawK Try.underlying38 (zeroU _) b A.length _ rfl HM.out _ _ rfl (keyI hw1) ?_; rw [HZ.out])
            | go_in)
          go_roundw
          case rel =>
            refine ⟨k + 1, by go_num, by omega, HB.out.alloc HB.out.size _, HM.out.alloc _, fun i hi => ?_⟩
            by_cases e : i = k
            · subst e
              rw [← HH.out, HZ.out]
            · exact HK.out i (by omega)
          case measure => simp [intOf]; omega
        · have hb : Hid (busyL A t = true) := by
            have h1 := HZ.out
            rw [HH.out] at h1
            simp at h1
            exact busy_of h1.2 (by omega) (by omega) (by omega)
          go_wp2_with (first
            | (at_lookup; refine wpList_lookup_own_unit _ rfl _ _ 38 rfl 3 41 lawK Try.underlying38 (zeroU _) b A.length _ rfl HM.out _ _ rfl (keyI hw1) ?_; rw [HZ.out])
            | go_in)
          go_ret
          exact ⟨by rw [hb.out]; rfl, HB.out.alloc HB.out.size _⟩
      · obtain rfl : k = 24 := by omega
        have hb := Lib.hid (busy_end HK.out)
        go_wp2_with fail
        go_ret
        exact ⟨by rw [hb.out]; rfl, HB.out⟩
theorem slow_any {w : World} {g b : Nat} {h : Int} {A : List Int} (L : La w g b h A) (t : Int) :
    Calls Try.prog 19 #[.pointer (some ⟨g, 0, none⟩), .int .i64 t] w fun e w' => e = .returned (.bool (slowL h t)) ∧ w = w' := by
  have c0 := L.1
  have hs := Lib.hid (slow_wrap h t)
  clear L
  go_enter Try.func19, Try.ntmps19
  go_wp2
  go_ret
  exact ⟨by rw [← hs.out]; rfl, rfl⟩
theorem slot_nil (w : World) (t : Int) : Calls Try.prog 16 #[.pointer none, .int .i64 t] w fun e w' => e = .returned (.bool false) ∧ w = w' := by
  go_enter Try.func16, Try.ntmps16
  go_wp2
  go_ret
  exact ⟨rfl, rfl⟩
theorem slot_any {w : World} {g b : Nat} {h : Int} {A : List Int} (L : La w g b h A) (t : Int) (ht : (Lit.int .i64 t).wf = true) :
    Calls Try.prog 16 #[.pointer (some ⟨g, 0, none⟩), .int .i64 t] w fun e w' => e = .returned (.bool (slotL h A t)) ∧ Below w.heap.size w w' := by
  by_cases h0 : t < 0
  · have hb : Hid (slotL h A t = false) := by show slotL h A t = false; unfold slotL; simp; omega
    go_enter Try.func16, Try.ntmps16
    go_wp2
    go_ret
    exact ⟨by rw [hb.out]; rfl, Below.refl _ _⟩
  · have ht0 : 0 ≤ t := by omega
    have HL := Lib.hid L
    have HB := Lib.hid (busy_any L t ht)
    obtain ⟨z, hz⟩ : ∃ z, busyL A t = z := ⟨_, rfl⟩
    have hs : Hid (slotL h A t = (z || slowL h t)) := by show slotL h A t = _; unfold slotL; simp [ht0, hz]
    rw [hz] at HB
    clear hz L
    cases z
    · go_enter Try.func16, Try.ntmps16
      go_wp2_with fail
      (with_reducible refine HB.out.mono ?_)
      rintro e1 w1 ⟨rfl, b1⟩
      have B1 := Lib.hid b1
      have HS := Lib.hid (slow_any (HL.out.below b1) t)
      clear b1
      go_wp2_with fail
      (with_reducible refine HS.out.mono ?_)
      rintro e2 w2 ⟨rfl, rfl⟩
      go_wp2_with fail
      go_ret
      exact ⟨by rw [hs.out]; rfl, B1.out⟩
    · go_enter Try.func16, Try.ntmps16
      go_wp2_with fail
      (with_reducible refine HB.out.mono ?_)
      rintro e1 w1 ⟨rfl, b1⟩
      have B1 := Lib.hid b1
      clear b1
      go_wp2_with fail
      go_ret
      exact ⟨by rw [hs.out]; rfl, B1.out⟩
end Go.Proofs.Ytlaehoggfnlljaa
