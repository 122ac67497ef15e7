/-
  The walk through GcmFields.
-/
import Derived.Test.YtjnclcehnpkncaaGcmL
import Derived.Test.YtjnclcehnpkncaaGcmS
import Derived.Test.YtjnclcehnpkncaaThreeG
import Derived.Test.YtjnclcehnpkncaaThree
import Derived.Test.YtjnclcehnpkncaaArrEqB
namespace Go.Proofs.Ytjnclcehnpkncaa
open Go.RowKit
set_option linter.unusedVariables false

theorem fields_long (x y z : List UInt8) (A1 A2 : Option Addr) (n1 c1 n2 c2 : Nat) (w : World) (h : 60 < n1 ∨ 60 < n2) :
    Calls Try.prog 5 #[.agg (bvs x).toArray, .agg (bvs y).toArray, .agg (bvs z).toArray, .slice A1 n1 c1, .slice A2 n2 c2] w fun e w' => e = .returned (.bool true) ∧ Below w.heap.size w w' := by
  have hways : (decide ((60 : Int) < (n1 : Int)) = true) ∨ (decide ((60 : Int) < (n1 : Int)) = false ∧ decide ((60 : Int) < (n2 : Int)) = true) := by
    by_cases h1 : 60 < n1
    · exact .inl (by simp; omega)
    · exact .inr ⟨by simp; omega, by simp; omega⟩
  clear h
  rcases hways with t1 | ⟨t1, t2⟩
  all_goals
    go_enter Try.func5, Try.ntmps5
    go_wp2_with (go_at_call 9; (with_reducible refine (awake_any _).mono ?_); rintro e1 w1 ⟨rfl, b1⟩)
    go_ret
    exact ⟨rfl, ((((Below.refl _ _).alloc (Nat.le_refl _) _).alloc (by simp) _).alloc (by simp; omega) _).trans (b1.mono (by simp; omega))⟩
/-- the boxes of a law's three blocks, and two blocks of its own -/
structure FiW (w wr : World) (x y z c p : List UInt8) : Prop where
  x : Blk wr w.heap.size 22 x
  y : Blk wr (w.heap.size + 1) 22 y
  z : Blk wr (w.heap.size + 1 + 1) 22 z
  c : Blk wr (w.heap.size + 1 + 1 + 1) 22 c
  p : Blk wr (w.heap.size + 1 + 1 + 1 + 1) 22 p
  b : Below w.heap.size w wr
theorem FiW.below {w wr wx : World} {x y z c p : List UInt8} (h : FiW w wr x y z c p) (hb : Below wr.heap.size wr wx) : FiW w wx x y z c p := ⟨h.x.below hb, h.y.below hb, h.z.below hb, h.c.below hb, h.p.below hb, h.b.trans (hb.mono h.b.size)⟩
theorem FiW.drew {w wr : World} {x y z c p : List UInt8} (h : FiW w wr x y z c p) : FiW w wr.drew x y z c p := ⟨h.x, h.y, h.z, h.c, h.p, h.b.drew⟩
theorem FiW.putC {w wr wx : World} {x y z c p c' : List UInt8} (h : FiW w wr x y z c p) (ho : Only (w.heap.size + 1 + 1 + 1) wr wx) (hc : Blk wx (w.heap.size + 1 + 1 + 1) 22 c') : FiW w wx x y z c' p :=
  ⟨h.x.only ho (by omega), h.y.only ho (by omega), h.z.only ho (by omega), hc, h.p.only ho (by omega), h.b.trans (ho.below h.b.size (by omega))⟩
theorem FiW.putP {w wr wx : World} {x y z c p p' : List UInt8} (h : FiW w wr x y z c p) (ho : Only (w.heap.size + 1 + 1 + 1 + 1) wr wx) (hp : Blk wx (w.heap.size + 1 + 1 + 1 + 1) 22 p') : FiW w wx x y z c p' :=
  ⟨h.x.only ho (by omega), h.y.only ho (by omega), h.z.only ho (by omega), h.c.only ho (by omega), hp, h.b.trans (ho.below h.b.size (by omega))⟩
theorem eql_same (l : List UInt8) (hl : l.length = 16) (u : World) : (binOp .eql 22 (.agg (bvs l).toArray) (.agg (bvs l).toArray)).run Try.prog u = .ok (.bool true) u := by
  rw [run_eql_bytes u 22 5 16 Try.underlying22 Try.underlying5 size1 _ _ hl hl]
  simp

attribute [local go_sem] u8_xor'
set_option maxRecDepth 8000 in
set_option maxHeartbeats 8000000 in
theorem fields_walk (x y z a b : List UInt8) (hx : x.length = 16) (hy : y.length = 16) (hz : z.length = 16) (A1 A2 : Option Addr) (n1 c1 n2 c2 : Nat) (w : World) (hs1 : Sl w w.heap.size A1 n1 a) (hs2 : Sl w w.heap.size A2 n2 b) (hnc1 : n1 ≤ c1) (hcm1 : c1 ≤ maxLen) (hnc2 : n2 ≤ c2) (hcm2 : c2 ≤ maxLen) (hn1 : n1 ≤ 60) (hn2 : n2 ≤ 60) :
    Calls Try.prog 5 #[.agg (bvs x).toArray, .agg (bvs y).toArray, .agg (bvs z).toArray, .slice A1 n1 c1, .slice A2 n2 c2] w fun e w' => e = .returned (.bool true) ∧ Below w.heap.size w w' := by
  have Hx := Lib.hid hx
  have Hy := Lib.hid hy
  have Hz := Lib.hid hz
  have HN1 : Hid (n1 ≤ c1 ∧ c1 ≤ maxLen) := ⟨hnc1, hcm1⟩
  have HN2 : Hid (n2 ≤ c2 ∧ c2 ≤ maxLen) := ⟨hnc2, hcm2⟩
  have HP : Hid (∀ u : World, Below w.heap.size w u → Sl u w.heap.size A1 n1 a ∧ Sl u w.heap.size A2 n2 b) := fun u hu => ⟨hs1.below hu, hs2.below hu⟩
  obtain ⟨s, hs⟩ : ∃ v, timesG x z = v := ⟨_, rfl⟩
  obtain ⟨t, ht⟩ : ∃ v, timesG y z = v := ⟨_, rfl⟩
  obtain ⟨c, hc⟩ : ∃ v, crossV x y = v := ⟨_, rfl⟩
  obtain ⟨p, hp⟩ : ∃ v, crossV s t = v := ⟨_, rfl⟩
  obtain ⟨m, hm⟩ : ∃ v, timesG x y = v := ⟨_, rfl⟩
  obtain ⟨h, hh⟩ : ∃ v, hashG z [a, b] = v := ⟨_, rfl⟩
  have HSL : Hid (s.length = 16) := show _ = _ by rw [← hs]; exact timesG_length _ _ hz
  have HTL : Hid (t.length = 16) := show _ = _ by rw [← ht]; exact timesG_length _ _ hz
  have HCL : Hid (c.length = 16) := show _ = _ by rw [← hc]; exact crossV_length _ _ hx hy
  have HPL : Hid (p.length = 16) := show _ = _ by rw [← hp]; exact crossV_length _ _ HSL.out HTL.out
  have HML : Hid (m.length = 16) := show _ = _ by rw [← hm]; exact timesG_length _ _ hy
  have HHL : Hid (h.length = 16) := show _ = _ by rw [← hh]; exact hashG_length _ _ hz
  have HYX : Hid (timesG y x = m) := show _ = _ by rw [← hm]; exact timesG_comm _ _ hy hx
  have HCZ : Hid (timesG c z = p) := show _ = _ by rw [← hc, ← hp, ← hs, ← ht]; exact timesG_left _ _ _ hx hy hz
  have HS := Lib.hid hs
  have HT := Lib.hid ht
  have HM := Lib.hid hm
  have HH := Lib.hid hh
  have HCG : Hid (∀ i, c.getD i 0 = x.getD i 0 ^^^ y.getD i 0) := fun i => by rw [← hc]; exact crossV_getD _ _ (by omega) i
  have HPG : Hid (∀ i, p.getD i 0 = s.getD i 0 ^^^ t.getD i 0) := fun i => by rw [← hp]; exact crossV_getD _ _ (by have := HSL.out; have := HTL.out; omega) i
  have HPS : Hid (∀ (u : World) (g : Nat), u.heap[g]? = some (.cells #[.slice A1 n1 c1, .slice A2 n2 c2] 24 (0, 0)) → Below w.heap.size w u → Slw u u.heap.size (some ⟨g, 0, none⟩) 2 [⟨A1, n1, c1, a⟩, ⟨A2, n2, c2, b⟩]) := fun u g hg hb => by
    have h1 := HN1.out
    have h2 := HN2.out
    refine slw_row (ps := [⟨A1, n1, c1, a⟩, ⟨A2, n2, c2, b⟩]) hg ((Array.getElem?_eq_some_iff.1 hg).1) (fun q hq => ?_) 2 rfl
    simp only [List.mem_cons, List.not_mem_nil, or_false] at hq
    rcases hq with rfl | rfl
    · exact ⟨((HP.out u hb).1).more hb.size, h1⟩
    · exact ⟨((HP.out u hb).2).more hb.size, h2⟩
  have HPN : Hid (∀ q ∈ ([⟨A1, n1, c1, a⟩, ⟨A2, n2, c2, b⟩] : List Piece), q.n ≤ 70368744177664) := fun q hq => by
    simp only [List.mem_cons, List.not_mem_nil, or_false] at hq
    rcases hq with rfl | rfl <;> simp only <;> omega
  have t1 : decide ((60 : Int) < (n1 : Int)) = false := by simp; omega
  have t2 : decide ((60 : Int) < (n2 : Int)) = false := by simp; omega
  clear hx hy hz hs1 hs2 hnc1 hcm1 hnc2 hcm2 hs ht hc hp hm hh
  go_enter Try.func5, Try.ntmps5
  go_upto_region 4 with fail
  refine wp_forget (fun w1 => FiW w w1 x y z (List.replicate 16 0) (List.replicate 16 0)) ⟨heap_allocs w [_, _, _, _, _] 0 _ rfl, heap_allocs w [_, _, _, _, _] 1 _ rfl, heap_allocs w [_, _, _, _, _] 2 _ rfl, heap_allocs w [_, _, _, _, _] 3 _ (by rw [← zeros_bvs]; rfl), heap_allocs w [_, _, _, _, _] 4 _ (by rw [← zeros_bvs]; rfl), ((((Below.refl _ _).alloc (Nat.le_refl _) _).alloc (by simp) _).alloc (by simp; omega) _ |>.alloc (by simp; omega) _).alloc (by simp; omega) _⟩ ?_
  intro wr h1
  have FW := Lib.hid h1
  have FWr := Lib.hid h1.p.lt
  clear h1
  go_cut [13, 14] from 17 to 93 (fun v13 v14 wx => ∃ gA gB : Nat, v13 = .pointer (some ⟨gA, 0, none⟩) ∧ v14 = .pointer (some ⟨gB, 0, none⟩) ∧ Hid (wr.heap.size ≤ gA) ∧ Hid (wr.heap.size ≤ gB) ∧ Hid (Blk wx gA 22 s) ∧ Hid (Blk wx gB 22 t) ∧ Hid (Below wr.heap.size wr wx))
  case first =>
    have HU : Hid (∀ u, Below wr.drew.heap.size wr.drew u → Below wr.heap.size wr u) := fun u hu => ⟨hu.os, hu.tape, hu.output, hu.size, hu.block⟩
    have HZ : Hid (wr.drew.heap.size = wr.heap.size) := rfl
    refine wp_held (S := fun u => Below wr.drew.heap.size wr.drew u) (by kernel_rfl) ?_
    replace FW := Lib.hid FW.out.drew
    obtain ⟨w0, hw0⟩ : ∃ x, wr.drew = x := ⟨_, rfl⟩
    rw [hw0] at FW HU HZ ⊢
    clear hw0
    have b0 : Below w0.heap.size w0 w0 := Below.refl _ _
    refine wpAnyH_pickG 0 (.agg (bvs x).toArray) rfl (by kernel_rfl) (by kernel_rfl) (by kernel_rfl) (by rfl) (fun _ _ _ h => h) (fun u hu => exec_load_blk u 22 (.tmp 5) rfl w.heap.size (by with_unfolding_all rfl) 22 x (FW.out.x.below hu) 16 5 Try.underlying22 16 sizeRow Hx.out) b0 ?_
    go_simp
    refine wpAnyH_pickG 1 (.agg (bvs z).toArray) rfl (by kernel_rfl) (by kernel_rfl) (by kernel_rfl) (by rfl) (fun _ _ _ h => h) (fun u hu => exec_load_blk u 22 (.tmp 7) rfl (w.heap.size + 1 + 1) (by with_unfolding_all rfl) 22 z (FW.out.z.below hu) 16 5 Try.underlying22 16 sizeRow Hz.out) b0 ?_
    go_simp
    refine wpAnyH_pickG 3 (.agg (bvs y).toArray) rfl (by kernel_rfl) (by kernel_rfl) (by kernel_rfl) (by rfl) (fun _ _ _ h => h) (fun u hu => exec_load_blk u 22 (.tmp 6) rfl (w.heap.size + 1) (by with_unfolding_all rfl) 22 y (FW.out.y.below hu) 16 5 Try.underlying22 16 sizeRow Hy.out) b0 ?_
    go_simp
    refine wpAnyH_pickG 4 (.agg (bvs z).toArray) rfl (by kernel_rfl) (by kernel_rfl) (by kernel_rfl) (by rfl) (fun _ _ _ h => h) (fun u hu => exec_load_blk u 22 (.tmp 7) rfl (w.heap.size + 1 + 1) (by with_unfolding_all rfl) 22 z (FW.out.z.below hu) 16 5 Try.underlying22 16 sizeRow Hz.out) b0 ?_
    go_simp
    refine wpAnyH_threeG 2 6 7 (by kernel_rfl) rfl (by rfl) rfl (by rfl) rfl (by rfl) ?_ ?_ ?_
    · go_wp2_with fail
      (with_reducible refine (gtimes_any x z Hx.out Hz.out _).mono ?_)
      rintro e1 w1 ⟨rfl, c1⟩
      have b1 := b0.trans (c1.mono b0.size)
      refine ⟨b1, ?_⟩
      clear c1
      rw [HS.out]
      refine wpAnyH_threeG 5 6 7 (by kernel_rfl) rfl (by rfl) rfl (by rfl) rfl (by rfl) ?_ ?_ ?_
      · go_wp2_with fail
        (with_reducible refine (gtimes_any y z Hy.out Hz.out _).mono ?_)
        rintro e2 w2 ⟨rfl, c2⟩
        have b2 := b1.trans (c2.mono b1.size)
        refine ⟨b2, ?_⟩
        clear c2
        rw [HT.out]
        refine wpAnyH_twoG 6 7 (by kernel_rfl) rfl (by rfl) rfl (by rfl) ?_ ?_
        · refine wp_alloc_blk 22 rfl (List.replicate 16 0) zero16v ?_
          intro gA w3 eA ZA3 c3
          have b3 := b2.trans (c3.out.mono b2.size)
          have HGA : Hid (w0.heap.size ≤ gA) := show _ ≤ _ by rw [eA.out]; exact b2.size
          refine ⟨b3, ?_⟩
          clear c3 eA
          refine wpAnyH_oneG 7 (by kernel_rfl) rfl (by rfl) ?_
          refine wp_alloc_blk 22 rfl (List.replicate 16 0) zero16v ?_
          intro gB w4 eB ZB4 c4
          have b4 := b3.trans (c4.out.mono b3.size)
          have HGB : Hid (w0.heap.size ≤ gB) := show _ ≤ _ by rw [eB.out]; exact b3.size
          have ZA4 := Lib.hid (ZA3.out.below c4.out)
          have HNE : Hid (gA ≠ gB) := show _ ≠ _ by have := ZA3.out.lt; have := eB.out; omega
          refine ⟨b4, ?_⟩
          clear c4 eB
          refine wpAnyH_oneG 8 (by kernel_rfl) rfl (by rfl) ?_
          refine wp_store_blk 22 (.tmp 13) (.tmp 28) rfl gA (s) (by with_unfolding_all rfl) (by with_unfolding_all rfl) 22 (List.replicate 16 0) ZA4.out 16 sizeRow HSL.out rfl ?_
          intro w5 MA5 O5
          have b5 := b4.trans (O5.out.below b4.size HGA.out)
          have ZB5 := Lib.hid (ZB4.out.only O5.out (Ne.symm HNE.out))
          refine ⟨b5, ?_⟩
          refine wpAnyH_oneG 9 (by kernel_rfl) rfl (by rfl) ?_
          refine wp_store_blk 22 (.tmp 14) (.tmp 31) rfl gB (t) (by with_unfolding_all rfl) (by with_unfolding_all rfl) 22 (List.replicate 16 0) ZB5.out 16 sizeRow HTL.out rfl ?_
          intro w6 MB6 O6
          have b6 := b5.trans (O6.out.below b5.size HGB.out)
          have MA6 := Lib.hid (MA5.out.only O6.out HNE.out)
          refine ⟨b6, ?_⟩
          refine wpAnyH_done (by kernel_rfl) ?_ _
          go_wp2_with fail
          go_meet
          exact ⟨gA, gB, rfl, rfl, show _ ≤ _ by rw [← HZ.out]; exact HGA.out, show _ ≤ _ by rw [← HZ.out]; exact HGB.out, MA6, MB6, HU.out _ b6⟩
        · refine wp_alloc_blk 22 rfl (List.replicate 16 0) zero16v ?_
          intro gB w3 eB ZB3 c3
          have b3 := b2.trans (c3.out.mono b2.size)
          have HGB : Hid (w0.heap.size ≤ gB) := show _ ≤ _ by rw [eB.out]; exact b2.size
          refine ⟨b3, ?_⟩
          clear c3 eB
          refine wpAnyH_oneG 6 (by kernel_rfl) rfl (by rfl) ?_
          refine wp_alloc_blk 22 rfl (List.replicate 16 0) zero16v ?_
          intro gA w4 eA ZA4 c4
          have b4 := b3.trans (c4.out.mono b3.size)
          have HGA : Hid (w0.heap.size ≤ gA) := show _ ≤ _ by rw [eA.out]; exact b3.size
          have ZB4 := Lib.hid (ZB3.out.below c4.out)
          have HNE : Hid (gA ≠ gB) := show _ ≠ _ by have := ZB3.out.lt; have := eA.out; omega
          refine ⟨b4, ?_⟩
          clear c4 eA
          refine wpAnyH_oneG 8 (by kernel_rfl) rfl (by rfl) ?_
          refine wp_store_blk 22 (.tmp 13) (.tmp 28) rfl gA (s) (by with_unfolding_all rfl) (by with_unfolding_all rfl) 22 (List.replicate 16 0) ZA4.out 16 sizeRow HSL.out rfl ?_
          intro w5 MA5 O5
          have b5 := b4.trans (O5.out.below b4.size HGA.out)
          have ZB5 := Lib.hid (ZB4.out.only O5.out (Ne.symm HNE.out))
          refine ⟨b5, ?_⟩
          refine wpAnyH_oneG 9 (by kernel_rfl) rfl (by rfl) ?_
          refine wp_store_blk 22 (.tmp 14) (.tmp 31) rfl gB (t) (by with_unfolding_all rfl) (by with_unfolding_all rfl) 22 (List.replicate 16 0) ZB5.out 16 sizeRow HTL.out rfl ?_
          intro w6 MB6 O6
          have b6 := b5.trans (O6.out.below b5.size HGB.out)
          have MA6 := Lib.hid (MA5.out.only O6.out HNE.out)
          refine ⟨b6, ?_⟩
          refine wpAnyH_done (by kernel_rfl) ?_ _
          go_wp2_with fail
          go_meet
          exact ⟨gA, gB, rfl, rfl, show _ ≤ _ by rw [← HZ.out]; exact HGA.out, show _ ≤ _ by rw [← HZ.out]; exact HGB.out, MA6, MB6, HU.out _ b6⟩
      · refine wp_alloc_blk 22 rfl (List.replicate 16 0) zero16v ?_
        intro gA w2 eA ZA2 c2
        have b2 := b1.trans (c2.out.mono b1.size)
        have HGA : Hid (w0.heap.size ≤ gA) := show _ ≤ _ by rw [eA.out]; exact b1.size
        refine ⟨b2, ?_⟩
        clear c2 eA
        refine wpAnyH_twoG 5 7 (by kernel_rfl) rfl (by rfl) rfl (by rfl) ?_ ?_
        · go_wp2_with fail
          (with_reducible refine (gtimes_any y z Hy.out Hz.out _).mono ?_)
          rintro e3 w3 ⟨rfl, c3⟩
          have b3 := b2.trans (c3.mono b2.size)
          have ZA3 := Lib.hid (ZA2.out.below c3)
          refine ⟨b3, ?_⟩
          clear c3
          rw [HT.out]
          refine wpAnyH_oneG 7 (by kernel_rfl) rfl (by rfl) ?_
          refine wp_alloc_blk 22 rfl (List.replicate 16 0) zero16v ?_
          intro gB w4 eB ZB4 c4
          have b4 := b3.trans (c4.out.mono b3.size)
          have HGB : Hid (w0.heap.size ≤ gB) := show _ ≤ _ by rw [eB.out]; exact b3.size
          have ZA4 := Lib.hid (ZA3.out.below c4.out)
          have HNE : Hid (gA ≠ gB) := show _ ≠ _ by have := ZA3.out.lt; have := eB.out; omega
          refine ⟨b4, ?_⟩
          clear c4 eB
          refine wpAnyH_oneG 8 (by kernel_rfl) rfl (by rfl) ?_
          refine wp_store_blk 22 (.tmp 13) (.tmp 28) rfl gA (s) (by with_unfolding_all rfl) (by with_unfolding_all rfl) 22 (List.replicate 16 0) ZA4.out 16 sizeRow HSL.out rfl ?_
          intro w5 MA5 O5
          have b5 := b4.trans (O5.out.below b4.size HGA.out)
          have ZB5 := Lib.hid (ZB4.out.only O5.out (Ne.symm HNE.out))
          refine ⟨b5, ?_⟩
          refine wpAnyH_oneG 9 (by kernel_rfl) rfl (by rfl) ?_
          refine wp_store_blk 22 (.tmp 14) (.tmp 31) rfl gB (t) (by with_unfolding_all rfl) (by with_unfolding_all rfl) 22 (List.replicate 16 0) ZB5.out 16 sizeRow HTL.out rfl ?_
          intro w6 MB6 O6
          have b6 := b5.trans (O6.out.below b5.size HGB.out)
          have MA6 := Lib.hid (MA5.out.only O6.out HNE.out)
          refine ⟨b6, ?_⟩
          refine wpAnyH_done (by kernel_rfl) ?_ _
          go_wp2_with fail
          go_meet
          exact ⟨gA, gB, rfl, rfl, show _ ≤ _ by rw [← HZ.out]; exact HGA.out, show _ ≤ _ by rw [← HZ.out]; exact HGB.out, MA6, MB6, HU.out _ b6⟩
        · refine wp_alloc_blk 22 rfl (List.replicate 16 0) zero16v ?_
          intro gB w3 eB ZB3 c3
          have b3 := b2.trans (c3.out.mono b2.size)
          have HGB : Hid (w0.heap.size ≤ gB) := show _ ≤ _ by rw [eB.out]; exact b2.size
          have ZA3 := Lib.hid (ZA2.out.below c3.out)
          have HNE : Hid (gA ≠ gB) := show _ ≠ _ by have := ZA2.out.lt; have := eB.out; omega
          refine ⟨b3, ?_⟩
          clear c3 eB
          refine wpAnyH_oneG 5 (by kernel_rfl) rfl (by rfl) ?_
          go_wp2_with fail
          (with_reducible refine (gtimes_any y z Hy.out Hz.out _).mono ?_)
          rintro e4 w4 ⟨rfl, c4⟩
          have b4 := b3.trans (c4.mono b3.size)
          have ZA4 := Lib.hid (ZA3.out.below c4)
          have ZB4 := Lib.hid (ZB3.out.below c4)
          refine ⟨b4, ?_⟩
          clear c4
          rw [HT.out]
          refine wpAnyH_oneG 8 (by kernel_rfl) rfl (by rfl) ?_
          refine wp_store_blk 22 (.tmp 13) (.tmp 28) rfl gA (s) (by with_unfolding_all rfl) (by with_unfolding_all rfl) 22 (List.replicate 16 0) ZA4.out 16 sizeRow HSL.out rfl ?_
          intro w5 MA5 O5
          have b5 := b4.trans (O5.out.below b4.size HGA.out)
          have ZB5 := Lib.hid (ZB4.out.only O5.out (Ne.symm HNE.out))
          refine ⟨b5, ?_⟩
          refine wpAnyH_oneG 9 (by kernel_rfl) rfl (by rfl) ?_
          refine wp_store_blk 22 (.tmp 14) (.tmp 31) rfl gB (t) (by with_unfolding_all rfl) (by with_unfolding_all rfl) 22 (List.replicate 16 0) ZB5.out 16 sizeRow HTL.out rfl ?_
          intro w6 MB6 O6
          have b6 := b5.trans (O6.out.below b5.size HGB.out)
          have MA6 := Lib.hid (MA5.out.only O6.out HNE.out)
          refine ⟨b6, ?_⟩
          refine wpAnyH_done (by kernel_rfl) ?_ _
          go_wp2_with fail
          go_meet
          exact ⟨gA, gB, rfl, rfl, show _ ≤ _ by rw [← HZ.out]; exact HGA.out, show _ ≤ _ by rw [← HZ.out]; exact HGB.out, MA6, MB6, HU.out _ b6⟩
      · refine wp_alloc_blk 22 rfl (List.replicate 16 0) zero16v ?_
        intro gB w2 eB ZB2 c2
        have b2 := b1.trans (c2.out.mono b1.size)
        have HGB : Hid (w0.heap.size ≤ gB) := show _ ≤ _ by rw [eB.out]; exact b1.size
        refine ⟨b2, ?_⟩
        clear c2 eB
        refine wpAnyH_twoG 5 6 (by kernel_rfl) rfl (by rfl) rfl (by rfl) ?_ ?_
        · go_wp2_with fail
          (with_reducible refine (gtimes_any y z Hy.out Hz.out _).mono ?_)
          rintro e3 w3 ⟨rfl, c3⟩
          have b3 := b2.trans (c3.mono b2.size)
          have ZB3 := Lib.hid (ZB2.out.below c3)
          refine ⟨b3, ?_⟩
          clear c3
          rw [HT.out]
          refine wpAnyH_oneG 6 (by kernel_rfl) rfl (by rfl) ?_
          refine wp_alloc_blk 22 rfl (List.replicate 16 0) zero16v ?_
          intro gA w4 eA ZA4 c4
          have b4 := b3.trans (c4.out.mono b3.size)
          have HGA : Hid (w0.heap.size ≤ gA) := show _ ≤ _ by rw [eA.out]; exact b3.size
          have ZB4 := Lib.hid (ZB3.out.below c4.out)
          have HNE : Hid (gA ≠ gB) := show _ ≠ _ by have := ZB3.out.lt; have := eA.out; omega
          refine ⟨b4, ?_⟩
          clear c4 eA
          refine wpAnyH_oneG 8 (by kernel_rfl) rfl (by rfl) ?_
          refine wp_store_blk 22 (.tmp 13) (.tmp 28) rfl gA (s) (by with_unfolding_all rfl) (by with_unfolding_all rfl) 22 (List.replicate 16 0) ZA4.out 16 sizeRow HSL.out rfl ?_
          intro w5 MA5 O5
          have b5 := b4.trans (O5.out.below b4.size HGA.out)
          have ZB5 := Lib.hid (ZB4.out.only O5.out (Ne.symm HNE.out))
          refine ⟨b5, ?_⟩
          refine wpAnyH_oneG 9 (by kernel_rfl) rfl (by rfl) ?_
          refine wp_store_blk 22 (.tmp 14) (.tmp 31) rfl gB (t) (by with_unfolding_all rfl) (by with_unfolding_all rfl) 22 (List.replicate 16 0) ZB5.out 16 sizeRow HTL.out rfl ?_
          intro w6 MB6 O6
          have b6 := b5.trans (O6.out.below b5.size HGB.out)
          have MA6 := Lib.hid (MA5.out.only O6.out HNE.out)
          refine ⟨b6, ?_⟩
          refine wpAnyH_done (by kernel_rfl) ?_ _
          go_wp2_with fail
          go_meet
          exact ⟨gA, gB, rfl, rfl, show _ ≤ _ by rw [← HZ.out]; exact HGA.out, show _ ≤ _ by rw [← HZ.out]; exact HGB.out, MA6, MB6, HU.out _ b6⟩
        · refine wp_alloc_blk 22 rfl (List.replicate 16 0) zero16v ?_
          intro gA w3 eA ZA3 c3
          have b3 := b2.trans (c3.out.mono b2.size)
          have HGA : Hid (w0.heap.size ≤ gA) := show _ ≤ _ by rw [eA.out]; exact b2.size
          have ZB3 := Lib.hid (ZB2.out.below c3.out)
          have HNE : Hid (gA ≠ gB) := show _ ≠ _ by have := ZB2.out.lt; have := eA.out; omega
          refine ⟨b3, ?_⟩
          clear c3 eA
          refine wpAnyH_oneG 5 (by kernel_rfl) rfl (by rfl) ?_
          go_wp2_with fail
          (with_reducible refine (gtimes_any y z Hy.out Hz.out _).mono ?_)
          rintro e4 w4 ⟨rfl, c4⟩
          have b4 := b3.trans (c4.mono b3.size)
          have ZB4 := Lib.hid (ZB3.out.below c4)
          have ZA4 := Lib.hid (ZA3.out.below c4)
          refine ⟨b4, ?_⟩
          clear c4
          rw [HT.out]
          refine wpAnyH_oneG 8 (by kernel_rfl) rfl (by rfl) ?_
          refine wp_store_blk 22 (.tmp 13) (.tmp 28) rfl gA (s) (by with_unfolding_all rfl) (by with_unfolding_all rfl) 22 (List.replicate 16 0) ZA4.out 16 sizeRow HSL.out rfl ?_
          intro w5 MA5 O5
          have b5 := b4.trans (O5.out.below b4.size HGA.out)
          have ZB5 := Lib.hid (ZB4.out.only O5.out (Ne.symm HNE.out))
          refine ⟨b5, ?_⟩
          refine wpAnyH_oneG 9 (by kernel_rfl) rfl (by rfl) ?_
          refine wp_store_blk 22 (.tmp 14) (.tmp 31) rfl gB (t) (by with_unfolding_all rfl) (by with_unfolding_all rfl) 22 (List.replicate 16 0) ZB5.out 16 sizeRow HTL.out rfl ?_
          intro w6 MB6 O6
          have b6 := b5.trans (O6.out.below b5.size HGB.out)
          have MA6 := Lib.hid (MA5.out.only O6.out HNE.out)
          refine ⟨b6, ?_⟩
          refine wpAnyH_done (by kernel_rfl) ?_ _
          go_wp2_with fail
          go_meet
          exact ⟨gA, gB, rfl, rfl, show _ ≤ _ by rw [← HZ.out]; exact HGA.out, show _ ≤ _ by rw [← HZ.out]; exact HGB.out, MA6, MB6, HU.out _ b6⟩
    · refine wp_alloc_blk 22 rfl (List.replicate 16 0) zero16v ?_
      intro gA w1 eA ZA1 c1
      have b1 := b0.trans (c1.out.mono b0.size)
      have HGA : Hid (w0.heap.size ≤ gA) := show _ ≤ _ by rw [eA.out]; exact b0.size
      refine ⟨b1, ?_⟩
      clear c1 eA
      refine wpAnyH_twoG 2 7 (by kernel_rfl) rfl (by rfl) rfl (by rfl) ?_ ?_
      · go_wp2_with fail
        (with_reducible refine (gtimes_any x z Hx.out Hz.out _).mono ?_)
        rintro e2 w2 ⟨rfl, c2⟩
        have b2 := b1.trans (c2.mono b1.size)
        have ZA2 := Lib.hid (ZA1.out.below c2)
        refine ⟨b2, ?_⟩
        clear c2
        rw [HS.out]
        refine wpAnyH_twoG 5 7 (by kernel_rfl) rfl (by rfl) rfl (by rfl) ?_ ?_
        · go_wp2_with fail
          (with_reducible refine (gtimes_any y z Hy.out Hz.out _).mono ?_)
          rintro e3 w3 ⟨rfl, c3⟩
          have b3 := b2.trans (c3.mono b2.size)
          have ZA3 := Lib.hid (ZA2.out.below c3)
          refine ⟨b3, ?_⟩
          clear c3
          rw [HT.out]
          refine wpAnyH_oneG 7 (by kernel_rfl) rfl (by rfl) ?_
          refine wp_alloc_blk 22 rfl (List.replicate 16 0) zero16v ?_
          intro gB w4 eB ZB4 c4
          have b4 := b3.trans (c4.out.mono b3.size)
          have HGB : Hid (w0.heap.size ≤ gB) := show _ ≤ _ by rw [eB.out]; exact b3.size
          have ZA4 := Lib.hid (ZA3.out.below c4.out)
          have HNE : Hid (gA ≠ gB) := show _ ≠ _ by have := ZA3.out.lt; have := eB.out; omega
          refine ⟨b4, ?_⟩
          clear c4 eB
          refine wpAnyH_oneG 8 (by kernel_rfl) rfl (by rfl) ?_
          refine wp_store_blk 22 (.tmp 13) (.tmp 28) rfl gA (s) (by with_unfolding_all rfl) (by with_unfolding_all rfl) 22 (List.replicate 16 0) ZA4.out 16 sizeRow HSL.out rfl ?_
          intro w5 MA5 O5
          have b5 := b4.trans (O5.out.below b4.size HGA.out)
          have ZB5 := Lib.hid (ZB4.out.only O5.out (Ne.symm HNE.out))
          refine ⟨b5, ?_⟩
          refine wpAnyH_oneG 9 (by kernel_rfl) rfl (by rfl) ?_
          refine wp_store_blk 22 (.tmp 14) (.tmp 31) rfl gB (t) (by with_unfolding_all rfl) (by with_unfolding_all rfl) 22 (List.replicate 16 0) ZB5.out 16 sizeRow HTL.out rfl ?_
          intro w6 MB6 O6
          have b6 := b5.trans (O6.out.below b5.size HGB.out)
          have MA6 := Lib.hid (MA5.out.only O6.out HNE.out)
          refine ⟨b6, ?_⟩
          refine wpAnyH_done (by kernel_rfl) ?_ _
          go_wp2_with fail
          go_meet
          exact ⟨gA, gB, rfl, rfl, show _ ≤ _ by rw [← HZ.out]; exact HGA.out, show _ ≤ _ by rw [← HZ.out]; exact HGB.out, MA6, MB6, HU.out _ b6⟩
        · refine wp_alloc_blk 22 rfl (List.replicate 16 0) zero16v ?_
          intro gB w3 eB ZB3 c3
          have b3 := b2.trans (c3.out.mono b2.size)
          have HGB : Hid (w0.heap.size ≤ gB) := show _ ≤ _ by rw [eB.out]; exact b2.size
          have ZA3 := Lib.hid (ZA2.out.below c3.out)
          have HNE : Hid (gA ≠ gB) := show _ ≠ _ by have := ZA2.out.lt; have := eB.out; omega
          refine ⟨b3, ?_⟩
          clear c3 eB
          refine wpAnyH_oneG 5 (by kernel_rfl) rfl (by rfl) ?_
          go_wp2_with fail
          (with_reducible refine (gtimes_any y z Hy.out Hz.out _).mono ?_)
          rintro e4 w4 ⟨rfl, c4⟩
          have b4 := b3.trans (c4.mono b3.size)
          have ZA4 := Lib.hid (ZA3.out.below c4)
          have ZB4 := Lib.hid (ZB3.out.below c4)
          refine ⟨b4, ?_⟩
          clear c4
          rw [HT.out]
          refine wpAnyH_oneG 8 (by kernel_rfl) rfl (by rfl) ?_
          refine wp_store_blk 22 (.tmp 13) (.tmp 28) rfl gA (s) (by with_unfolding_all rfl) (by with_unfolding_all rfl) 22 (List.replicate 16 0) ZA4.out 16 sizeRow HSL.out rfl ?_
          intro w5 MA5 O5
          have b5 := b4.trans (O5.out.below b4.size HGA.out)
          have ZB5 := Lib.hid (ZB4.out.only O5.out (Ne.symm HNE.out))
          refine ⟨b5, ?_⟩
          refine wpAnyH_oneG 9 (by kernel_rfl) rfl (by rfl) ?_
          refine wp_store_blk 22 (.tmp 14) (.tmp 31) rfl gB (t) (by with_unfolding_all rfl) (by with_unfolding_all rfl) 22 (List.replicate 16 0) ZB5.out 16 sizeRow HTL.out rfl ?_
          intro w6 MB6 O6
          have b6 := b5.trans (O6.out.below b5.size HGB.out)
          have MA6 := Lib.hid (MA5.out.only O6.out HNE.out)
          refine ⟨b6, ?_⟩
          refine wpAnyH_done (by kernel_rfl) ?_ _
          go_wp2_with fail
          go_meet
          exact ⟨gA, gB, rfl, rfl, show _ ≤ _ by rw [← HZ.out]; exact HGA.out, show _ ≤ _ by rw [← HZ.out]; exact HGB.out, MA6, MB6, HU.out _ b6⟩
      · refine wp_alloc_blk 22 rfl (List.replicate 16 0) zero16v ?_
        intro gB w2 eB ZB2 c2
        have b2 := b1.trans (c2.out.mono b1.size)
        have HGB : Hid (w0.heap.size ≤ gB) := show _ ≤ _ by rw [eB.out]; exact b1.size
        have ZA2 := Lib.hid (ZA1.out.below c2.out)
        have HNE : Hid (gA ≠ gB) := show _ ≠ _ by have := ZA1.out.lt; have := eB.out; omega
        refine ⟨b2, ?_⟩
        clear c2 eB
        refine wpAnyH_oneG 2 (by kernel_rfl) rfl (by rfl) ?_
        go_wp2_with fail
        (with_reducible refine (gtimes_any x z Hx.out Hz.out _).mono ?_)
        rintro e3 w3 ⟨rfl, c3⟩
        have b3 := b2.trans (c3.mono b2.size)
        have ZA3 := Lib.hid (ZA2.out.below c3)
        have ZB3 := Lib.hid (ZB2.out.below c3)
        refine ⟨b3, ?_⟩
        clear c3
        rw [HS.out]
        refine wpAnyH_oneG 5 (by kernel_rfl) rfl (by rfl) ?_
        go_wp2_with fail
        (with_reducible refine (gtimes_any y z Hy.out Hz.out _).mono ?_)
        rintro e4 w4 ⟨rfl, c4⟩
        have b4 := b3.trans (c4.mono b3.size)
        have ZA4 := Lib.hid (ZA3.out.below c4)
        have ZB4 := Lib.hid (ZB3.out.below c4)
        refine ⟨b4, ?_⟩
        clear c4
        rw [HT.out]
        refine wpAnyH_oneG 8 (by kernel_rfl) rfl (by rfl) ?_
        refine wp_store_blk 22 (.tmp 13) (.tmp 28) rfl gA (s) (by with_unfolding_all rfl) (by with_unfolding_all rfl) 22 (List.replicate 16 0) ZA4.out 16 sizeRow HSL.out rfl ?_
        intro w5 MA5 O5
        have b5 := b4.trans (O5.out.below b4.size HGA.out)
        have ZB5 := Lib.hid (ZB4.out.only O5.out (Ne.symm HNE.out))
        refine ⟨b5, ?_⟩
        refine wpAnyH_oneG 9 (by kernel_rfl) rfl (by rfl) ?_
        refine wp_store_blk 22 (.tmp 14) (.tmp 31) rfl gB (t) (by with_unfolding_all rfl) (by with_unfolding_all rfl) 22 (List.replicate 16 0) ZB5.out 16 sizeRow HTL.out rfl ?_
        intro w6 MB6 O6
        have b6 := b5.trans (O6.out.below b5.size HGB.out)
        have MA6 := Lib.hid (MA5.out.only O6.out HNE.out)
        refine ⟨b6, ?_⟩
        refine wpAnyH_done (by kernel_rfl) ?_ _
        go_wp2_with fail
        go_meet
        exact ⟨gA, gB, rfl, rfl, show _ ≤ _ by rw [← HZ.out]; exact HGA.out, show _ ≤ _ by rw [← HZ.out]; exact HGB.out, MA6, MB6, HU.out _ b6⟩
    · refine wp_alloc_blk 22 rfl (List.replicate 16 0) zero16v ?_
      intro gB w1 eB ZB1 c1
      have b1 := b0.trans (c1.out.mono b0.size)
      have HGB : Hid (w0.heap.size ≤ gB) := show _ ≤ _ by rw [eB.out]; exact b0.size
      refine ⟨b1, ?_⟩
      clear c1 eB
      refine wpAnyH_twoG 2 6 (by kernel_rfl) rfl (by rfl) rfl (by rfl) ?_ ?_
      · go_wp2_with fail
        (with_reducible refine (gtimes_any x z Hx.out Hz.out _).mono ?_)
        rintro e2 w2 ⟨rfl, c2⟩
        have b2 := b1.trans (c2.mono b1.size)
        have ZB2 := Lib.hid (ZB1.out.below c2)
        refine ⟨b2, ?_⟩
        clear c2
        rw [HS.out]
        refine wpAnyH_twoG 5 6 (by kernel_rfl) rfl (by rfl) rfl (by rfl) ?_ ?_
        · go_wp2_with fail
          (with_reducible refine (gtimes_any y z Hy.out Hz.out _).mono ?_)
          rintro e3 w3 ⟨rfl, c3⟩
          have b3 := b2.trans (c3.mono b2.size)
          have ZB3 := Lib.hid (ZB2.out.below c3)
          refine ⟨b3, ?_⟩
          clear c3
          rw [HT.out]
          refine wpAnyH_oneG 6 (by kernel_rfl) rfl (by rfl) ?_
          refine wp_alloc_blk 22 rfl (List.replicate 16 0) zero16v ?_
          intro gA w4 eA ZA4 c4
          have b4 := b3.trans (c4.out.mono b3.size)
          have HGA : Hid (w0.heap.size ≤ gA) := show _ ≤ _ by rw [eA.out]; exact b3.size
          have ZB4 := Lib.hid (ZB3.out.below c4.out)
          have HNE : Hid (gA ≠ gB) := show _ ≠ _ by have := ZB3.out.lt; have := eA.out; omega
          refine ⟨b4, ?_⟩
          clear c4 eA
          refine wpAnyH_oneG 8 (by kernel_rfl) rfl (by rfl) ?_
          refine wp_store_blk 22 (.tmp 13) (.tmp 28) rfl gA (s) (by with_unfolding_all rfl) (by with_unfolding_all rfl) 22 (List.replicate 16 0) ZA4.out 16 sizeRow HSL.out rfl ?_
          intro w5 MA5 O5
          have b5 := b4.trans (O5.out.below b4.size HGA.out)
          have ZB5 := Lib.hid (ZB4.out.only O5.out (Ne.symm HNE.out))
          refine ⟨b5, ?_⟩
          refine wpAnyH_oneG 9 (by kernel_rfl) rfl (by rfl) ?_
          refine wp_store_blk 22 (.tmp 14) (.tmp 31) rfl gB (t) (by with_unfolding_all rfl) (by with_unfolding_all rfl) 22 (List.replicate 16 0) ZB5.out 16 sizeRow HTL.out rfl ?_
          intro w6 MB6 O6
          have b6 := b5.trans (O6.out.below b5.size HGB.out)
          have MA6 := Lib.hid (MA5.out.only O6.out HNE.out)
          refine ⟨b6, ?_⟩
          refine wpAnyH_done (by kernel_rfl) ?_ _
          go_wp2_with fail
          go_meet
          exact ⟨gA, gB, rfl, rfl, show _ ≤ _ by rw [← HZ.out]; exact HGA.out, show _ ≤ _ by rw [← HZ.out]; exact HGB.out, MA6, MB6, HU.out _ b6⟩
        · refine wp_alloc_blk 22 rfl (List.replicate 16 0) zero16v ?_
          intro gA w3 eA ZA3 c3
          have b3 := b2.trans (c3.out.mono b2.size)
          have HGA : Hid (w0.heap.size ≤ gA) := show _ ≤ _ by rw [eA.out]; exact b2.size
          have ZB3 := Lib.hid (ZB2.out.below c3.out)
          have HNE : Hid (gA ≠ gB) := show _ ≠ _ by have := ZB2.out.lt; have := eA.out; omega
          refine ⟨b3, ?_⟩
          clear c3 eA
          refine wpAnyH_oneG 5 (by kernel_rfl) rfl (by rfl) ?_
          go_wp2_with fail
          (with_reducible refine (gtimes_any y z Hy.out Hz.out _).mono ?_)
          rintro e4 w4 ⟨rfl, c4⟩
          have b4 := b3.trans (c4.mono b3.size)
          have ZB4 := Lib.hid (ZB3.out.below c4)
          have ZA4 := Lib.hid (ZA3.out.below c4)
          refine ⟨b4, ?_⟩
          clear c4
          rw [HT.out]
          refine wpAnyH_oneG 8 (by kernel_rfl) rfl (by rfl) ?_
          refine wp_store_blk 22 (.tmp 13) (.tmp 28) rfl gA (s) (by with_unfolding_all rfl) (by with_unfolding_all rfl) 22 (List.replicate 16 0) ZA4.out 16 sizeRow HSL.out rfl ?_
          intro w5 MA5 O5
          have b5 := b4.trans (O5.out.below b4.size HGA.out)
          have ZB5 := Lib.hid (ZB4.out.only O5.out (Ne.symm HNE.out))
          refine ⟨b5, ?_⟩
          refine wpAnyH_oneG 9 (by kernel_rfl) rfl (by rfl) ?_
          refine wp_store_blk 22 (.tmp 14) (.tmp 31) rfl gB (t) (by with_unfolding_all rfl) (by with_unfolding_all rfl) 22 (List.replicate 16 0) ZB5.out 16 sizeRow HTL.out rfl ?_
          intro w6 MB6 O6
          have b6 := b5.trans (O6.out.below b5.size HGB.out)
          have MA6 := Lib.hid (MA5.out.only O6.out HNE.out)
          refine ⟨b6, ?_⟩
          refine wpAnyH_done (by kernel_rfl) ?_ _
          go_wp2_with fail
          go_meet
          exact ⟨gA, gB, rfl, rfl, show _ ≤ _ by rw [← HZ.out]; exact HGA.out, show _ ≤ _ by rw [← HZ.out]; exact HGB.out, MA6, MB6, HU.out _ b6⟩
      · refine wp_alloc_blk 22 rfl (List.replicate 16 0) zero16v ?_
        intro gA w2 eA ZA2 c2
        have b2 := b1.trans (c2.out.mono b1.size)
        have HGA : Hid (w0.heap.size ≤ gA) := show _ ≤ _ by rw [eA.out]; exact b1.size
        have ZB2 := Lib.hid (ZB1.out.below c2.out)
        have HNE : Hid (gA ≠ gB) := show _ ≠ _ by have := ZB1.out.lt; have := eA.out; omega
        refine ⟨b2, ?_⟩
        clear c2 eA
        refine wpAnyH_oneG 2 (by kernel_rfl) rfl (by rfl) ?_
        go_wp2_with fail
        (with_reducible refine (gtimes_any x z Hx.out Hz.out _).mono ?_)
        rintro e3 w3 ⟨rfl, c3⟩
        have b3 := b2.trans (c3.mono b2.size)
        have ZB3 := Lib.hid (ZB2.out.below c3)
        have ZA3 := Lib.hid (ZA2.out.below c3)
        refine ⟨b3, ?_⟩
        clear c3
        rw [HS.out]
        refine wpAnyH_oneG 5 (by kernel_rfl) rfl (by rfl) ?_
        go_wp2_with fail
        (with_reducible refine (gtimes_any y z Hy.out Hz.out _).mono ?_)
        rintro e4 w4 ⟨rfl, c4⟩
        have b4 := b3.trans (c4.mono b3.size)
        have ZB4 := Lib.hid (ZB3.out.below c4)
        have ZA4 := Lib.hid (ZA3.out.below c4)
        refine ⟨b4, ?_⟩
        clear c4
        rw [HT.out]
        refine wpAnyH_oneG 8 (by kernel_rfl) rfl (by rfl) ?_
        refine wp_store_blk 22 (.tmp 13) (.tmp 28) rfl gA (s) (by with_unfolding_all rfl) (by with_unfolding_all rfl) 22 (List.replicate 16 0) ZA4.out 16 sizeRow HSL.out rfl ?_
        intro w5 MA5 O5
        have b5 := b4.trans (O5.out.below b4.size HGA.out)
        have ZB5 := Lib.hid (ZB4.out.only O5.out (Ne.symm HNE.out))
        refine ⟨b5, ?_⟩
        refine wpAnyH_oneG 9 (by kernel_rfl) rfl (by rfl) ?_
        refine wp_store_blk 22 (.tmp 14) (.tmp 31) rfl gB (t) (by with_unfolding_all rfl) (by with_unfolding_all rfl) 22 (List.replicate 16 0) ZB5.out 16 sizeRow HTL.out rfl ?_
        intro w6 MB6 O6
        have b6 := b5.trans (O6.out.below b5.size HGB.out)
        have MA6 := Lib.hid (MA5.out.only O6.out HNE.out)
        refine ⟨b6, ?_⟩
        refine wpAnyH_done (by kernel_rfl) ?_ _
        go_wp2_with fail
        go_meet
        exact ⟨gA, gB, rfl, rfl, show _ ≤ _ by rw [← HZ.out]; exact HGA.out, show _ ≤ _ by rw [← HZ.out]; exact HGB.out, MA6, MB6, HU.out _ b6⟩
  case rest =>
    obtain ⟨gA, gB, rfl, rfl, HGA, HGB, SA, TB, HBc⟩ := hcut
    replace FW := Lib.hid (FW.out.below HBc.out)
    have hgA : w.heap.size + 1 + 1 + 1 + 1 < gA := Nat.lt_of_lt_of_le FWr.out HGA.out
    have hgB : w.heap.size + 1 + 1 + 1 + 1 < gB := Nat.lt_of_lt_of_le FWr.out HGB.out
    clear HGA HGB HBc FWr
    go_wp2_with fail
    go_loopw [15] (fun v15 wi => ∃ i : Nat, i ≤ 16 ∧ v15 = .int .i64 i ∧ Hid (FiW w wi x y z (mixr c (List.replicate 16 0) i) (mixr p (List.replicate 16 0) i)) ∧ Hid (Blk wi gA 22 s) ∧ Hid (Blk wi gB 22 t)) (fun v15 _ => 16 - (intOf v15).toNat)
    case atStart => exact ⟨0, by omega, rfl, by rw [mixr_zero, mixr_zero]; exact FW, SA, TB⟩
    case round =>
      clear FW SA TB
      obtain ⟨i, hi, rfl, FW, SA, TB⟩ := hrel
      by_cases hlt : i < 16
      · have hxl := Hx.out
        have hyl := Hy.out
        have hsl := HSL.out
        have htl := HTL.out
        have hcl := HCL.out
        have hpl := HPL.out
        obtain ⟨q1, e1⟩ : ∃ v, x.getD i 0 = v := ⟨_, rfl⟩
        obtain ⟨q2, e2⟩ : ∃ v, y.getD i 0 = v := ⟨_, rfl⟩
        obtain ⟨q3, e3⟩ : ∃ v, s.getD i 0 = v := ⟨_, rfl⟩
        obtain ⟨q4, e4⟩ : ∃ v, t.getD i 0 = v := ⟨_, rfl⟩
        have HC1 : Hid (∀ u, Blk u w.heap.size 22 x → u.cell? ⟨w.heap.size, i, none⟩ = some (.int .u8 (bn q1))) := fun u hu => by rw [hu.cell i (by omega), e1]
        have HC2 : Hid (∀ u, Blk u (w.heap.size + 1) 22 y → u.cell? ⟨w.heap.size + 1, i, none⟩ = some (.int .u8 (bn q2))) := fun u hu => by rw [hu.cell i (by omega), e2]
        have HC3 : Hid (∀ u, Blk u gA 22 s → u.cell? ⟨gA, i, none⟩ = some (.int .u8 (bn q3))) := fun u hu => by rw [hu.cell i (by omega), e3]
        have HC4 : Hid (∀ u, Blk u gB 22 t → u.cell? ⟨gB, i, none⟩ = some (.int .u8 (bn q4))) := fun u hu => by rw [hu.cell i (by omega), e4]
        have HNc : Hid ((mixr c (List.replicate 16 0) i).set i (q1 ^^^ q2) = mixr c (List.replicate 16 0) (i + 1)) := show _ = _ by
          rw [← e1, ← e2, ← HCG.out i]
          exact mixr_set _ _ _ (by simp [hcl]) (by simpa using hlt)
        have HNp : Hid ((mixr p (List.replicate 16 0) i).set i (q3 ^^^ q4) = mixr p (List.replicate 16 0) (i + 1)) := show _ = _ by
          rw [← e3, ← e4, ← HPG.out i]
          exact mixr_set _ _ _ (by simp [hpl]) (by simpa using hlt)
        have HLc : Hid ((mixr c (List.replicate 16 0) i).length = 16) := show _ = _ by rw [mixr_length _ _ _ (by simp [hcl])]; simp
        have HLp : Hid ((mixr p (List.replicate 16 0) i).length = 16) := show _ = _ by rw [mixr_length _ _ _ (by simp [hpl])]; simp
        have li : (i : Int) < 16 := by omega
        clear hxl hyl hsl htl hcl hpl e1 e2 e3 e4
        go_wp2_with fail
        have F1 := Lib.hid FW.out.drew
        have SA1 := Lib.hid SA.out.drew
        have TB1 := Lib.hid TB.out.drew
        obtain ⟨w0, hw0⟩ : ∃ v, wr.drew = v := ⟨_, rfl⟩
        refine wp_held (S := fun u => Blk u w.heap.size 22 x ∧ Blk u (w.heap.size + 1) 22 y ∧ Blk u gA 22 s ∧ Blk u gB 22 t) (by kernel_rfl) ?_
        rw [hw0] at F1 SA1 TB1 ⊢
        clear hw0
        have hS : Blk w0 w.heap.size 22 x ∧ Blk w0 (w.heap.size + 1) 22 y ∧ Blk w0 gA 22 s ∧ Blk w0 gB 22 t := ⟨F1.out.x, F1.out.y, SA1.out, TB1.out⟩
        refine wpAnyH_take (i := 0) (v := ?_) rfl (by kernel_rfl) (by kernel_rfl) (by kernel_rfl) (fun _ _ _ h => h) (Or.inl ⟨by rfl, ?_⟩) hS ?_
        rotate_left 1
        · intro u hu
          go_simp
          first | done | with_reducible rfl
        go_simp
        refine wpAnyH_take (i := 1) (v := ?_) rfl (by kernel_rfl) (by kernel_rfl) (by kernel_rfl) (fun _ _ _ h => h) (Or.inl ⟨by rfl, ?_⟩) hS ?_
        rotate_left 1
        · intro u hu
          go_simp
          first | done | with_reducible rfl
        go_simp
        refine wpAnyH_take (i := 2) (v := ?_) rfl (by kernel_rfl) (by kernel_rfl) (by kernel_rfl) (fun _ _ _ h => h) (Or.inl ⟨by rfl, ?_⟩) hS ?_
        rotate_left 1
        · intro u hu
          go_simp
          first | done | with_reducible rfl
        go_simp
        refine wpAnyH_take (i := 3) (v := ?_) rfl (by kernel_rfl) (by kernel_rfl) (by kernel_rfl) (fun _ _ _ h => h) (Or.inl ⟨by rfl, ?_⟩) hS ?_
        rotate_left 1
        · intro u hu
          go_simp
          first | done | with_reducible rfl
        go_simp
        refine wpAnyH_take (i := 4) (v := ?_) rfl (by kernel_rfl) (by kernel_rfl) (by kernel_rfl) (fun _ _ _ h => h) (Or.inl ⟨by rfl, ?_⟩) hS ?_
        rotate_left 1
        · intro u hu
          have hc := HC1.out u hu.1
          go_simp
          first | done | with_reducible rfl
        go_simp
        refine wpAnyH_take (i := 5) (v := ?_) rfl (by kernel_rfl) (by kernel_rfl) (by kernel_rfl) (fun _ _ _ h => h) (Or.inl ⟨by rfl, ?_⟩) hS ?_
        rotate_left 1
        · intro u hu
          go_simp
          first | done | with_reducible rfl
        go_simp
        refine wpAnyH_take (i := 6) (v := ?_) rfl (by kernel_rfl) (by kernel_rfl) (by kernel_rfl) (fun _ _ _ h => h) (Or.inl ⟨by rfl, ?_⟩) hS ?_
        rotate_left 1
        · intro u hu
          go_simp
          first | done | with_reducible rfl
        go_simp
        refine wpAnyH_take (i := 7) (v := ?_) rfl (by kernel_rfl) (by kernel_rfl) (by kernel_rfl) (fun _ _ _ h => h) (Or.inl ⟨by rfl, ?_⟩) hS ?_
        rotate_left 1
        · intro u hu
          have hc := HC2.out u hu.2.1
          go_simp
          first | done | with_reducible rfl
        go_simp
        refine wpAnyH_take (i := 8) (v := ?_) rfl (by kernel_rfl) (by kernel_rfl) (by kernel_rfl) (fun _ _ _ h => h) (Or.inl ⟨by rfl, ?_⟩) hS ?_
        rotate_left 1
        · intro u hu
          go_simp
          first | done | with_reducible rfl
        go_simp
        refine wpAnyH_take (i := 9) (v := ?_) rfl (by kernel_rfl) (by kernel_rfl) (by kernel_rfl) (fun _ _ _ h => h) (Or.inl ⟨by rfl, ?_⟩) hS ?_
        rotate_left 1
        · intro u hu
          go_simp
          first | done | with_reducible rfl
        go_simp
        refine wpAnyH_take (i := 10) (v := ?_) rfl (by kernel_rfl) (by kernel_rfl) (by kernel_rfl) (fun _ _ _ h => h) (Or.inl ⟨by rfl, ?_⟩) hS ?_
        rotate_left 1
        · intro u hu
          go_simp
          first | done | with_reducible rfl
        go_simp
        refine wpAnyH_take (i := 11) (v := ?_) rfl (by kernel_rfl) (by kernel_rfl) (by kernel_rfl) (fun _ _ _ h => h) (Or.inl ⟨by rfl, ?_⟩) hS ?_
        rotate_left 1
        · intro u hu
          have hc := HC3.out u hu.2.2.1
          go_simp
          first | done | with_reducible rfl
        go_simp
        refine wpAnyH_take (i := 12) (v := ?_) rfl (by kernel_rfl) (by kernel_rfl) (by kernel_rfl) (fun _ _ _ h => h) (Or.inl ⟨by rfl, ?_⟩) hS ?_
        rotate_left 1
        · intro u hu
          go_simp
          first | done | with_reducible rfl
        go_simp
        refine wpAnyH_take (i := 13) (v := ?_) rfl (by kernel_rfl) (by kernel_rfl) (by kernel_rfl) (fun _ _ _ h => h) (Or.inl ⟨by rfl, ?_⟩) hS ?_
        rotate_left 1
        · intro u hu
          go_simp
          first | done | with_reducible rfl
        go_simp
        refine wpAnyH_take (i := 14) (v := ?_) rfl (by kernel_rfl) (by kernel_rfl) (by kernel_rfl) (fun _ _ _ h => h) (Or.inl ⟨by rfl, ?_⟩) hS ?_
        rotate_left 1
        · intro u hu
          have hc := HC4.out u hu.2.2.2
          go_simp
          first | done | with_reducible rfl
        go_simp
        refine wpAnyH_take (i := 15) (v := ?_) rfl (by kernel_rfl) (by kernel_rfl) (by kernel_rfl) (fun _ _ _ h => h) (Or.inl ⟨by rfl, ?_⟩) hS ?_
        rotate_left 1
        · intro u hu
          go_simp
          first | done | with_reducible rfl
        go_simp
        refine wpAnyH_take (i := 16) (v := ?_) rfl (by kernel_rfl) (by kernel_rfl) (by kernel_rfl) (fun _ _ _ h => h) (Or.inl ⟨by rfl, ?_⟩) hS ?_
        rotate_left 1
        · intro u hu
          go_simp
          first | done | with_reducible rfl
        go_simp
        refine wpAnyH_oneG 17 (by kernel_rfl) rfl (by rfl) ?_
        refine wp_put_blk 5 (.tmp 52) (.tmp 44) rfl (w.heap.size + 1 + 1 + 1) i (q1 ^^^ q2) (by with_unfolding_all rfl) (by with_unfolding_all rfl) 22 _ F1.out.c size1 (by rw [HLc.out]; omega) ?_
        intro w4 P4 O4
        have F4 := Lib.hid (F1.out.putC (c' := mixr c (List.replicate 16 0) (i + 1)) O4.out (by rw [← HNc.out]; exact P4.out))
        have SA4 := Lib.hid (SA1.out.only O4.out (by omega))
        have TB4 := Lib.hid (TB1.out.only O4.out (by omega))
        replace hS : Blk w4 w.heap.size 22 x ∧ Blk w4 (w.heap.size + 1) 22 y ∧ Blk w4 gA 22 s ∧ Blk w4 gB 22 t := ⟨F4.out.x, F4.out.y, SA4.out, TB4.out⟩
        refine ⟨hS, ?_⟩
        go_simp
        refine wpAnyH_take (i := 18) (v := ?_) rfl (by kernel_rfl) (by kernel_rfl) (by kernel_rfl) (fun _ _ _ h => h) (Or.inl ⟨by rfl, ?_⟩) hS ?_
        rotate_left 1
        · intro u hu
          go_simp
          first | done | with_reducible rfl
        go_simp
        refine wpAnyH_oneG 19 (by kernel_rfl) rfl (by rfl) ?_
        refine wp_put_blk 5 (.tmp 53) (.tmp 51) rfl (w.heap.size + 1 + 1 + 1 + 1) i (q3 ^^^ q4) (by with_unfolding_all rfl) (by with_unfolding_all rfl) 22 _ F4.out.p size1 (by rw [HLp.out]; omega) ?_
        intro w5 P5 O5
        have F5 := Lib.hid (F4.out.putP (p' := mixr p (List.replicate 16 0) (i + 1)) O5.out (by rw [← HNp.out]; exact P5.out))
        have SA5 := Lib.hid (SA4.out.only O5.out (by omega))
        have TB5 := Lib.hid (TB4.out.only O5.out (by omega))
        refine ⟨⟨F5.out.x, F5.out.y, SA5.out, TB5.out⟩, ?_⟩
        refine wpAnyH_done (by kernel_rfl) ?_ _
        go_wp2_with fail
        go_roundw
        case rel =>
          first
            | exact ⟨i + 1, by omega, by go_num, F5, SA5, TB5⟩
            | ((repeat apply Exists.intro); exact ⟨⟨i + 1, by omega, by go_num, F5, SA5, TB5⟩, rfl⟩)
        case measure => simp [intOf]; omega
      · obtain rfl : i = 16 := by omega
        rw [mixr_full _ _ _ (by simp [HCL.out]) (by simp), mixr_full _ _ _ (by simp [HPL.out]) (by simp)] at FW
        go_upto_region 10 with (first
          | ((with_reducible refine wpList_load_blk rfl 22 (.tmp 7) rfl (w.heap.size + 1 + 1) ?hx 22 z FW.out.z 16 5 Try.underlying22 16 sizeRow Hz.out ?_); (case hx => with_unfolding_all rfl))
          | (go_at_call 19; (with_reducible refine (hash_any z Hz.out [⟨A1, n1, c1, a⟩, ⟨A2, n2, c2, b⟩] _ 2 2 _ _ (HPS.out _ wr.heap.size ?hg ?hb) (Nat.le_refl _) (by unfold maxLen; omega) HPN.out).mono ?_); (case hg => exact heap_alloc_new _ _); (case hb => exact FW.out.b.alloc FW.out.b.size _); rintro e6 w6 ⟨rfl, b6⟩; simp only [List.map_cons, List.map_nil]; rw [HH.out]; have F6 := Lib.hid (FW.out.below (((Below.refl _ _).alloc (Nat.le_refl _) _).trans (b6.mono (by simp)))); clear b6)
          | ((with_reducible refine wpList_store_blk rfl 22 (.tmp 16) (.tmp 58) rfl w6.heap.size h ?hx ?hy 22 (List.replicate 16 0) ?hg 16 sizeRow HHL.out ?ho ?_); (case hx => with_unfolding_all rfl); (case hy => with_unfolding_all rfl); (case hg => exact heap_alloc_new _ _); (case ho => rfl); intro w7 H7 O7))
        have b7 : Below w6.heap.size w6 w7 := ((Below.refl _ _).alloc (Nat.le_refl _) _).trans (O7.out.below (by simp) (Nat.le_refl _))
        have F7 := Lib.hid (F6.out.below b7)
        obtain ⟨g16, eg16⟩ : ∃ g, w6.heap.size = g := ⟨_, rfl⟩
        rw [eg16] at H7 ⊢
        clear b7 O7 F6 FW SA TB eg16
        have q1 := eql_same m HML.out
        have q2 := eql_same p HPL.out
        have q3 := eql_same h HHL.out
        go_simp
        refine wp_held (S := fun u => Below w7.drew.heap.size w7.drew u) (by kernel_rfl) ?_
        replace F7 := Lib.hid F7.out.drew
        replace H7 := Lib.hid H7.out.drew
        obtain ⟨wq, hwq⟩ : ∃ x, w7.drew = x := ⟨_, rfl⟩
        rw [hwq] at F7 H7 ⊢
        clear hwq
        have b0 : Below wq.heap.size wq wq := Below.refl _ _
        refine wpAnyH_pickG 0 (.agg (bvs x).toArray) rfl (by kernel_rfl) (by kernel_rfl) (by kernel_rfl) (by rfl) (fun _ _ _ h => h) (fun u hu => exec_load_blk u 22 (.tmp 5) rfl w.heap.size (by with_unfolding_all rfl) 22 x (F7.out.x.below hu) 16 5 Try.underlying22 16 sizeRow Hx.out) b0 ?_
        go_simp
        refine wpAnyH_pickG 1 (.agg (bvs y).toArray) rfl (by kernel_rfl) (by kernel_rfl) (by kernel_rfl) (by rfl) (fun _ _ _ h => h) (fun u hu => exec_load_blk u 22 (.tmp 6) rfl (w.heap.size + 1) (by with_unfolding_all rfl) 22 y (F7.out.y.below hu) 16 5 Try.underlying22 16 sizeRow Hy.out) b0 ?_
        go_simp
        refine wpAnyH_pickG 3 (.agg (bvs x).toArray) rfl (by kernel_rfl) (by kernel_rfl) (by kernel_rfl) (by rfl) (fun _ _ _ h => h) (fun u hu => exec_load_blk u 22 (.tmp 5) rfl w.heap.size (by with_unfolding_all rfl) 22 x (F7.out.x.below hu) 16 5 Try.underlying22 16 sizeRow Hx.out) b0 ?_
        go_simp
        refine wpAnyH_pickG 4 (.agg (bvs y).toArray) rfl (by kernel_rfl) (by kernel_rfl) (by kernel_rfl) (by rfl) (fun _ _ _ h => h) (fun u hu => exec_load_blk u 22 (.tmp 6) rfl (w.heap.size + 1) (by with_unfolding_all rfl) 22 y (F7.out.y.below hu) 16 5 Try.underlying22 16 sizeRow Hy.out) b0 ?_
        go_simp
        refine wpAnyH_oneG 2 (by kernel_rfl) rfl (by rfl) ?_
        go_wp2_with fail
        (with_reducible refine (gtimes_any x y Hx.out Hy.out _).mono ?_)
        rintro f1 v1 ⟨rfl, d1⟩
        rw [HM.out]
        have b1 := b0.trans (d1.mono b0.size)
        refine ⟨b1, ?_⟩
        clear d1
        go_simp
        refine wpAnyH_oneG 5 (by kernel_rfl) rfl (by rfl) ?_
        go_wp2_with fail
        (with_reducible refine (rtimes_any x y Hx.out Hy.out _).mono ?_)
        rintro f2 v2 ⟨rfl, d2⟩
        rw [HM.out]
        have b2 := b1.trans (d2.mono b1.size)
        refine ⟨b2, ?_⟩
        clear d2
        go_simp
        refine wpAnyH_take (i := 6) (v := ?_) rfl (by kernel_rfl) (by kernel_rfl) (by kernel_rfl) (fun _ _ _ h => h) (Or.inl ⟨by rfl, ?_⟩) b2 ?_
        rotate_left 1
        · intro u hu
          go_simp
          first | done | with_reducible rfl
        go_simp
        refine wpAnyH_take (i := 7) (v := ?_) rfl (by kernel_rfl) (by kernel_rfl) (by kernel_rfl) (fun _ _ _ h => h) (Or.inl ⟨by rfl, ?_⟩) b2 ?_
        rotate_left 1
        · intro u hu
          go_simp
          first | done | with_reducible rfl
        go_simp
        refine wpAnyH_pickG 8 (.agg (bvs x).toArray) rfl (by kernel_rfl) (by kernel_rfl) (by kernel_rfl) (by rfl) (fun _ _ _ h => h) (fun u hu => exec_load_blk u 22 (.tmp 5) rfl w.heap.size (by with_unfolding_all rfl) 22 x (F7.out.x.below hu) 16 5 Try.underlying22 16 sizeRow Hx.out) b2 ?_
        go_simp
        refine wpAnyH_pickG 9 (.agg (bvs y).toArray) rfl (by kernel_rfl) (by kernel_rfl) (by kernel_rfl) (by rfl) (fun _ _ _ h => h) (fun u hu => exec_load_blk u 22 (.tmp 6) rfl (w.heap.size + 1) (by with_unfolding_all rfl) 22 y (F7.out.y.below hu) 16 5 Try.underlying22 16 sizeRow Hy.out) b2 ?_
        go_simp
        refine wpAnyH_pickG 11 (.agg (bvs y).toArray) rfl (by kernel_rfl) (by kernel_rfl) (by kernel_rfl) (by rfl) (fun _ _ _ h => h) (fun u hu => exec_load_blk u 22 (.tmp 6) rfl (w.heap.size + 1) (by with_unfolding_all rfl) 22 y (F7.out.y.below hu) 16 5 Try.underlying22 16 sizeRow Hy.out) b2 ?_
        go_simp
        refine wpAnyH_pickG 12 (.agg (bvs x).toArray) rfl (by kernel_rfl) (by kernel_rfl) (by kernel_rfl) (by rfl) (fun _ _ _ h => h) (fun u hu => exec_load_blk u 22 (.tmp 5) rfl w.heap.size (by with_unfolding_all rfl) 22 x (F7.out.x.below hu) 16 5 Try.underlying22 16 sizeRow Hx.out) b2 ?_
        go_simp
        refine wpAnyH_oneG 10 (by kernel_rfl) rfl (by rfl) ?_
        go_wp2_with fail
        (with_reducible refine (gtimes_any x y Hx.out Hy.out _).mono ?_)
        rintro f3 v3 ⟨rfl, d3⟩
        rw [HM.out]
        have b3 := b2.trans (d3.mono b2.size)
        refine ⟨b3, ?_⟩
        clear d3
        go_simp
        refine wpAnyH_oneG 13 (by kernel_rfl) rfl (by rfl) ?_
        go_wp2_with fail
        (with_reducible refine (gtimes_any y x Hy.out Hx.out _).mono ?_)
        rintro f4 v4 ⟨rfl, d4⟩
        rw [HYX.out]
        have b4 := b3.trans (d4.mono b3.size)
        refine ⟨b4, ?_⟩
        clear d4
        go_simp
        refine wpAnyH_take (i := 14) (v := ?_) rfl (by kernel_rfl) (by kernel_rfl) (by kernel_rfl) (fun _ _ _ h => h) (Or.inl ⟨by rfl, ?_⟩) b4 ?_
        rotate_left 1
        · intro u hu
          go_simp
          first | done | with_reducible rfl
        go_simp
        refine wpAnyH_take (i := 15) (v := ?_) rfl (by kernel_rfl) (by kernel_rfl) (by kernel_rfl) (fun _ _ _ h => h) (Or.inl ⟨by rfl, ?_⟩) b4 ?_
        rotate_left 1
        · intro u hu
          go_simp
          first | done | with_reducible rfl
        go_simp
        refine wpAnyH_take (i := 16) (v := ?_) rfl (by kernel_rfl) (by kernel_rfl) (by kernel_rfl) (fun _ _ _ h => h) (Or.inl ⟨by rfl, ?_⟩) b4 ?_
        rotate_left 1
        · intro u hu
          go_simp
          first | done | with_reducible rfl
        go_simp
        refine wpAnyH_pickG 17 (.agg (bvs c).toArray) rfl (by kernel_rfl) (by kernel_rfl) (by kernel_rfl) (by rfl) (fun _ _ _ h => h) (fun u hu => exec_load_blk u 22 (.tmp 11) rfl (w.heap.size + 1 + 1 + 1) (by with_unfolding_all rfl) 22 c (F7.out.c.below hu) 16 5 Try.underlying22 16 sizeRow HCL.out) b4 ?_
        go_simp
        refine wpAnyH_pickG 18 (.agg (bvs z).toArray) rfl (by kernel_rfl) (by kernel_rfl) (by kernel_rfl) (by rfl) (fun _ _ _ h => h) (fun u hu => exec_load_blk u 22 (.tmp 7) rfl (w.heap.size + 1 + 1) (by with_unfolding_all rfl) 22 z (F7.out.z.below hu) 16 5 Try.underlying22 16 sizeRow Hz.out) b4 ?_
        go_simp
        refine wpAnyH_pickG 20 (.agg (bvs p).toArray) rfl (by kernel_rfl) (by kernel_rfl) (by kernel_rfl) (by rfl) (fun _ _ _ h => h) (fun u hu => exec_load_blk u 22 (.tmp 12) rfl (w.heap.size + 1 + 1 + 1 + 1) (by with_unfolding_all rfl) 22 p (F7.out.p.below hu) 16 5 Try.underlying22 16 sizeRow HPL.out) b4 ?_
        go_simp
        refine wpAnyH_oneG 19 (by kernel_rfl) rfl (by rfl) ?_
        go_wp2_with fail
        (with_reducible refine (gtimes_any c z HCL.out Hz.out _).mono ?_)
        rintro f5 v5 ⟨rfl, d5⟩
        rw [HCZ.out]
        have b5 := b4.trans (d5.mono b4.size)
        refine ⟨b5, ?_⟩
        clear d5
        go_simp
        refine wpAnyH_take (i := 21) (v := ?_) rfl (by kernel_rfl) (by kernel_rfl) (by kernel_rfl) (fun _ _ _ h => h) (Or.inl ⟨by rfl, ?_⟩) b5 ?_
        rotate_left 1
        · intro u hu
          go_simp
          first | done | with_reducible rfl
        go_simp
        refine wpAnyH_take (i := 22) (v := ?_) rfl (by kernel_rfl) (by kernel_rfl) (by kernel_rfl) (fun _ _ _ h => h) (Or.inl ⟨by rfl, ?_⟩) b5 ?_
        rotate_left 1
        · intro u hu
          go_simp
          first | done | with_reducible rfl
        go_simp
        refine wpAnyH_take (i := 23) (v := ?_) rfl (by kernel_rfl) (by kernel_rfl) (by kernel_rfl) (fun _ _ _ h => h) (Or.inl ⟨by rfl, ?_⟩) b5 ?_
        rotate_left 1
        · intro u hu
          go_simp
          first | done | with_reducible rfl
        go_simp
        refine wpAnyH_pickG 24 (.agg (bvs h).toArray) rfl (by kernel_rfl) (by kernel_rfl) (by kernel_rfl) (by rfl) (fun _ _ _ h => h) (fun u hu => exec_load_blk u 22 (.tmp 16) rfl g16 (by with_unfolding_all rfl) 22 h (H7.out.below hu) 16 5 Try.underlying22 16 sizeRow HHL.out) b5 ?_
        go_simp
        refine wpAnyH_pickG 25 (.agg (bvs z).toArray) rfl (by kernel_rfl) (by kernel_rfl) (by kernel_rfl) (by rfl) (fun _ _ _ h => h) (fun u hu => exec_load_blk u 22 (.tmp 7) rfl (w.heap.size + 1 + 1) (by with_unfolding_all rfl) 22 z (F7.out.z.below hu) 16 5 Try.underlying22 16 sizeRow Hz.out) b5 ?_
        go_simp
        refine wpAnyH_take (i := 26) (v := ?_) rfl (by kernel_rfl) (by kernel_rfl) (by kernel_rfl) (fun _ _ _ h => h) (Or.inl ⟨by rfl, ?_⟩) b5 ?_
        rotate_left 1
        · intro u hu
          go_simp
          first | done | with_reducible rfl
        go_simp
        refine wpAnyH_take (i := 27) (v := ?_) rfl (by kernel_rfl) (by kernel_rfl) (by kernel_rfl) (fun _ _ _ h => h) (Or.inl ⟨by rfl, ?_⟩) b5 ?_
        rotate_left 1
        · intro u hu
          go_simp
          first | done | with_reducible rfl
        go_simp
        refine wpAnyH_oneG 28 (by kernel_rfl) rfl (by rfl) ?_
        refine wp_two (.tmp 85) (.tmp 86) rfl ⟨A1, n1, c1, a⟩ ⟨A2, n2, c2, b⟩ (by with_unfolding_all rfl) (by with_unfolding_all rfl) ?_
        intro gT v6 eT T6 d6
        have b6 := b5.trans (d6.out.mono b5.size)
        refine ⟨b6, ?_⟩
        clear d6 eT
        go_simp
        refine wpAnyH_oneG 29 (by kernel_rfl) rfl (by rfl) ?_
        go_wp2_with fail
        (with_reducible refine (rhash_any z Hz.out [⟨A1, n1, c1, a⟩, ⟨A2, n2, c2, b⟩] _ 2 2 _ _ (HPS.out _ gT T6.out (F7.out.b.trans (b6.mono F7.out.b.size))) (Nat.le_refl _) (by unfold maxLen; omega) HPN.out).mono ?_)
        rintro f7 v7 ⟨rfl, d7⟩
        simp only [List.map_cons, List.map_nil]
        rw [HH.out]
        have b7 := b6.trans (d7.mono b6.size)
        refine ⟨b7, ?_⟩
        clear d7
        go_simp
        refine wpAnyH_take (i := 30) (v := ?_) rfl (by kernel_rfl) (by kernel_rfl) (by kernel_rfl) (fun _ _ _ h => h) (Or.inl ⟨by rfl, ?_⟩) b7 ?_
        rotate_left 1
        · intro u hu
          go_simp
          first | done | with_reducible rfl
        go_simp
        refine wpAnyH_take (i := 31) (v := ?_) rfl (by kernel_rfl) (by kernel_rfl) (by kernel_rfl) (fun _ _ _ h => h) (Or.inl ⟨by rfl, ?_⟩) b7 ?_
        rotate_left 1
        · intro u hu
          go_simp
          first | done | with_reducible rfl
        go_simp
        refine wpAnyH_take (i := 32) (v := ?_) rfl (by kernel_rfl) (by kernel_rfl) (by kernel_rfl) (fun _ _ _ h => h) (Or.inl ⟨by rfl, ?_⟩) b7 ?_
        rotate_left 1
        · intro u hu
          go_simp
          first | done | with_reducible rfl
        go_simp
        refine wpAnyH_oneG 33 (by kernel_rfl) rfl (by rfl) ?_
        go_wp2_with fail
        (with_reducible refine (awake_any _).mono ?_)
        rintro f8 v8 ⟨rfl, d8⟩
        have b8 := b7.trans (d8.mono b7.size)
        refine ⟨b8, ?_⟩
        go_simp
        refine wpAnyH_take (i := 34) (v := ?_) rfl (by kernel_rfl) (by kernel_rfl) (by kernel_rfl) (fun _ _ _ h => h) (Or.inl ⟨by rfl, ?_⟩) b8 ?_
        rotate_left 1
        · intro u hu
          go_simp
          first | done | with_reducible rfl
        go_simp
        refine wpAnyH_take (i := 35) (v := ?_) rfl (by kernel_rfl) (by kernel_rfl) (by kernel_rfl) (fun _ _ _ h => h) (Or.inl ⟨by rfl, ?_⟩) b8 ?_
        rotate_left 1
        · intro u hu
          go_simp
          first | done | with_reducible rfl
        go_simp
        refine wpAnyH_done (by kernel_rfl) ?_ _
        go_wp2_with fail
        go_ret
        exact ⟨rfl, F7.out.b.trans (b8.mono F7.out.b.size)⟩
theorem fields_all (x y z a b : List UInt8) (hx : x.length = 16) (hy : y.length = 16) (hz : z.length = 16) (A1 A2 : Option Addr) (n1 c1 n2 c2 : Nat) (w : World) (hs1 : Sl w w.heap.size A1 n1 a) (hs2 : Sl w w.heap.size A2 n2 b) (hnc1 : n1 ≤ c1) (hcm1 : c1 ≤ maxLen) (hnc2 : n2 ≤ c2) (hcm2 : c2 ≤ maxLen) :
    Calls Try.prog 5 #[.agg (bvs x).toArray, .agg (bvs y).toArray, .agg (bvs z).toArray, .slice A1 n1 c1, .slice A2 n2 c2] w fun e w' => e = .returned (.bool true) ∧ Below w.heap.size w w' := by
  by_cases h : 60 < n1 ∨ 60 < n2
  · exact fields_long x y z A1 A2 n1 c1 n2 c2 w h
  · exact fields_walk x y z a b hx hy hz A1 A2 n1 c1 n2 c2 w hs1 hs2 hnc1 hcm1 hnc2 hcm2 (by omega) (by omega)
end Go.Proofs.Ytjnclcehnpkncaa
