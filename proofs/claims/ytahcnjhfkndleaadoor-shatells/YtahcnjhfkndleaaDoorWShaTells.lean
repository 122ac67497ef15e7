/-
  The walk of ShaTells.
-/
import Derived.Test.YtahcnjhfkndleaaDoorShaJ
import Derived.Test.YtahcnjhfkndleaaDoorShaO
import Derived.Test.YtahcnjhfkndleaaDoorSame
import Derived.Deep.RegionHeld3
namespace Go.Proofs.YtahcnjhfkndleaaDoor
open Go.RowKit Go.Joins
set_option linter.unusedVariables false

set_option maxHeartbeats 1000000 in
theorem tells_long (A1 : Option Addr) (n1 c1 : Nat) (z : Int) (w : World) (hG : Glob w) (h : 300 < n1) :
    Calls Tryd.prog 3 #[.slice A1 n1 c1, .int .i64 z] w fun e w' => e = .returned (.bool true) ∧ Below w.heap.size w w' := by
  have HA := Lib.hid (awake_any w hG)
  clear hG
  have t1 : decide ((300 : Int) < (n1 : Int)) = true := by simp; omega
  clear h
  go_enter Tryd.func3, Tryd.ntmps3
  go_wp2_with ((with_reducible refine HA.out.mono ?_); rintro e w1 ⟨rfl, hb⟩)
  go_ret
  exact ⟨rfl, hb⟩

set_option maxHeartbeats 1000000 in
theorem tells_walk (l : List UInt8) (A : Option Addr) (n c : Nat) (z : Int) (w : World) (hG : Glob w) (hs : Sl w w.heap.size A n l) (hnc : n ≤ c) (hcm : c ≤ maxLen) (hn : n ≤ 300) :
    Calls Tryd.prog 3 #[.slice A n c, .int .i64 z] w fun e w' => e = .returned (.bool true) ∧ Below w.heap.size w w' := by
  have HG := Lib.hid hG
  have HS := Lib.hid hs
  have t1 : decide ((300 : Int) < (n : Int)) = false := by simp; omega
  obtain ⟨q, hq⟩ : ∃ q : Nat, (n : Int) + 1 = (q : Int) := ⟨n + 1, by omega⟩
  have hlb := low_bd z (q : Int) (by omega) (by omega)
  obtain ⟨d, hd⟩ : ∃ d : Nat, lowV z (q : Int) = (d : Int) := ⟨(lowV z (q : Int)).toNat, by omega⟩
  have hl := fun u => low_any z (q : Int) u (by omega) (by omega)
  rw [hd] at hl hlb
  have HL := Lib.hid hl
  have hdn : d ≤ n := by omega
  clear hG hs hl hlb hd
  go_enter Tryd.func3, Tryd.ntmps3
  go_wp2_with (first
    | (go_at_call 8; (with_reducible refine (HL.out _).mono ?_); rintro e w' ⟨rfl, rfl⟩)
    | (go_at_call 9; (with_reducible refine (copied_any l A n c w.heap.size _ HS.out (by omega)).mono ?_)))
  rintro e w1 ⟨A1, c1, rfl, ho1, hle1, hc1, hb1⟩
  obtain ⟨A2, hA2⟩ : ∃ A2, (if c1 = 0 then A1 else A1.map (·.add 0)) = A2 := ⟨_, rfl⟩
  obtain ⟨A3, hA3⟩ : ∃ A3, (if c1 = d then A1 else A1.map (·.add d)) = A3 := ⟨_, rfl⟩
  have hcut1 : ∀ u : World, (Instr.slice 22 (.slice A1 n c1) none (some (.int .i64 (d : Int))) none).run Tryd.prog u = .ok (.slice A2 d c1) u := fun u => by
    rw [← hA2]; exact run_cut_to u A1 n c1 d (by omega)
  have hcut2 : ∀ u : World, (Instr.slice 22 (.slice A1 n c1) (some (.int .i64 (d : Int))) none none).run Tryd.prog u = .ok (.slice A3 (n - d) (c1 - d)) u := fun u => by
    rw [← hA3]; exact run_cut_bytes u A1 n c1 d hdn hle1
  have hp2 : Sl w1 w1.heap.size A2 d (l.take d) := by
    rw [← hA2]
    have h := (ho1.sl).drop (k := 0) (c := c1) (by omega) hle1
    rw [Nat.sub_zero, List.drop_zero] at h
    exact h.take hdn
  have hp3 : Sl w1 w1.heap.size A3 (n - d) (l.drop d) := by
    rw [← hA3]
    exact (ho1.sl).drop hdn hle1
  have hblk : ∀ a, (A1 = some a ∨ A2 = some a ∨ A3 = some a) → a.block < w1.heap.size := by
    have key : ∀ a, A1 = some a → a.block < w1.heap.size := fun a ha => (ho1.blk a ha).2
    have key2 : ∀ k a, A1.map (·.add k) = some a → a.block < w1.heap.size := fun k a ha => by
      cases h : A1 with
      | none => rw [h] at ha; cases ha
      | some b =>
        rw [h] at ha
        simp only [Option.map_some, Option.some.injEq] at ha
        have := key b h
        subst ha
        unfold Addr.add
        split <;> simpa using this
    intro a h
    rcases h with h | h | h
    · exact key a h
    · rw [← hA2] at h
      split at h
      · exact key a h
      · exact key2 _ a h
    · rw [← hA3] at h
      split at h
      · exact key a h
      · exact key2 _ a h
  have HBlk := Lib.hid hblk
  have HP2 := Lib.hid hp2
  have HP3 := Lib.hid hp3
  have HO1 := Lib.hid ho1.sl
  have HB1 := Lib.hid hb1
  have hEq := run_eql_digests (sumV l) (sumV l) (sumV_length _) (sumV_length _)
  rw [decide_eq_true rfl] at hEq
  obtain ⟨S, hS⟩ : ∃ S, (bvs (sumV l)).toArray = S := ⟨_, rfl⟩
  rw [hS] at hEq
  have HSum := Lib.hid hS
  have hG1 := HG.out.below hb1
  have hs1 := HS.out.below hb1
  have hE : ∀ u : World, Below w1.heap.size w1 u → ∀ ps : List Piece, (∀ p ∈ ps, p = ⟨A2, d, c1, l.take d⟩ ∨ p = ⟨A3, n - d, c1 - d, l.drop d⟩ ∨ p = ⟨none, 0, 0, []⟩ ∨ p = ⟨A1, n, c1, l⟩) → joined ps = l → ps.length ≤ 3 →
      Calls Tryd.prog 10 #[.slice (some ⟨u.heap.size, 0, none⟩) ps.length ps.length] (u.alloc (.cells (ps.map fun p => Value.slice p.A p.n p.c).toArray 22)) fun e w' => e = .returned (.agg S) ∧ Below w1.heap.size w1 w' := by
    intro u hu ps hps hj hlen
    have hsz := hu.size
    have hub : Below w1.heap.size w1 (u.alloc (.cells (ps.map fun p => Value.slice p.A p.n p.c).toArray 22)) := hu.alloc hsz _
    refine (sum_any ps _ ps.length ps.length (u.heap.size + 1) _ (hG1.below hub) ?_ (by simp) (by simp [maxLen]; omega) (by rw [hj, hs1.1]; omega)).mono ?_
    · refine sls_block (heap_alloc_new _ _) (by omega) fun p hp => ?_
      rcases hps p hp with rfl | rfl | rfl | rfl
      · exact ⟨(hp2.below hub).more (by omega), by show d ≤ c1; omega, hc1, fun a ha => by have := hblk a (.inr (.inl ha)); omega⟩
      · exact ⟨(hp3.below hub).more (by omega), by show n - d ≤ c1 - d; omega, by show c1 - d ≤ maxLen; omega, fun a ha => by have := hblk a (.inr (.inr ha)); omega⟩
      · exact ⟨Sl.nil, Nat.le_refl _, by simp [maxLen], fun a ha => by cases ha⟩
      · exact ⟨((ho1.sl).below hub).more (by omega), hle1, hc1, fun a ha => by have := hblk a (.inl ha); omega⟩
    · rintro e w' ⟨rfl, hb⟩
      rw [hj, hS]
      exact ⟨rfl, hub.trans (hb.mono (by simp; omega))⟩
  have hc1' := hE w1.drew (Below.refl _ _).drew [⟨A2, d, c1, l.take d⟩, ⟨A3, n - d, c1 - d, l.drop d⟩, ⟨none, 0, 0, []⟩] (by simp) (by simp [joined]) (by simp)
  have hc2' : ∀ u : World, Below w1.heap.size w1 u → Calls Tryd.prog 11 #[.slice A n c] u fun e w' => e = .returned (.agg S) ∧ Below w1.heap.size w1 w' := fun u hu => by
    refine (rsum_any l A n c w.heap.size u (hs1.below (hu.mono hb1.size)) (Nat.le_trans hb1.size hu.size) (by omega)).mono ?_
    rintro e w' ⟨rfl, hb⟩
    rw [hS]
    exact ⟨rfl, hu.trans (hb.mono hu.size)⟩
  have hc3' : ∀ u : World, Below w1.heap.size w1 u → Calls Tryd.prog 12 #[.slice A1 n c1, .slice A n c] u fun e w' => e = .returned (.bool true) ∧ Below w1.heap.size w1 w' := fun u hu => by
    refine (same_yes l l rfl A1 A n n c1 c w1.heap.size w.heap.size u ((ho1.sl).below hu) (hs1.below (hu.mono hb1.size)) (by simp [maxLen]; omega)).mono ?_
    rintro e w' ⟨rfl, k, rfl⟩
    exact ⟨rfl, below_drewN hu k⟩
  have hF : ∀ (v : World) (g : Nat), Below w1.heap.size w1 v → ∀ ps : List Piece, (∀ p ∈ ps, p = ⟨A2, d, c1, l.take d⟩ ∨ p = ⟨A3, n - d, c1 - d, l.drop d⟩ ∨ p = ⟨none, 0, 0, []⟩ ∨ p = ⟨A1, n, c1, l⟩) → joined ps = l → ps.length ≤ 3 → v.heap[g]? = some (.cells (ps.map fun p => Value.slice p.A p.n p.c).toArray 22 (0, 0)) →
      Calls Tryd.prog 10 #[.slice (some ⟨g, 0, none⟩) ps.length ps.length] v fun e w' => e = .returned (.agg S) ∧ Below w1.heap.size w1 w' ∧ Below v.heap.size v w' := by
    intro v g hu ps hps hj hlen hg
    have hsz := hu.size
    have hgv := (Array.getElem?_eq_some_iff.1 hg).1
    refine (sum_any ps _ ps.length ps.length v.heap.size _ (hG1.below hu) ?_ (Nat.le_refl _) (by simp [maxLen]; omega) (by rw [hj, hs1.1]; omega)).mono ?_
    · refine sls_block hg hgv fun p hp => ?_
      rcases hps p hp with rfl | rfl | rfl | rfl
      · exact ⟨(hp2.below hu).more (by omega), by show d ≤ c1; omega, hc1, fun a ha => by have := hblk a (.inr (.inl ha)); omega⟩
      · exact ⟨(hp3.below hu).more (by omega), by show n - d ≤ c1 - d; omega, by show c1 - d ≤ maxLen; omega, fun a ha => by have := hblk a (.inr (.inr ha)); omega⟩
      · exact ⟨Sl.nil, Nat.le_refl _, by simp [maxLen], fun a ha => by cases ha⟩
      · exact ⟨((ho1.sl).below hu).more (by omega), hle1, hc1, fun a ha => by have := hblk a (.inl ha); omega⟩
    · rintro e w' ⟨rfl, hb⟩
      rw [hj, hS]
      exact ⟨rfl, hu.trans (hb.mono hsz), hb⟩
  have hc4' : ∀ (v : World) (g : Nat), Below w1.heap.size w1 v → v.heap[g]? = some (.cells #[.slice A1 n c1] 22 (0, 0)) → Calls Tryd.prog 10 #[.slice (some ⟨g, 0, none⟩) 1 1] v fun e w' => e = .returned (.agg S) ∧ Below w1.heap.size w1 w' ∧ Below v.heap.size v w' := fun v g hu hg =>
    hF v g hu [⟨A1, n, c1, l⟩] (by simp) (by simp [joined]) (by simp) hg
  have hc5' : ∀ (v : World) (g : Nat), Below w1.heap.size w1 v → v.heap[g]? = some (.cells #[.slice A2 d c1, .slice none 0 0, .slice A3 (n - d) (c1 - d)] 22 (0, 0)) → Calls Tryd.prog 10 #[.slice (some ⟨g, 0, none⟩) 3 3] v fun e w' => e = .returned (.agg S) ∧ Below w1.heap.size w1 w' ∧ Below v.heap.size v w' := fun v g hu hg =>
    hF v g hu [⟨A2, d, c1, l.take d⟩, ⟨none, 0, 0, []⟩, ⟨A3, n - d, c1 - d, l.drop d⟩] (by simp) (by simp [joined]) (by simp) hg
  have hc6' : ∀ u : World, Below w1.heap.size w1 u → Calls Tryd.prog 7 #[] u fun e w' => e = .returned (.bool true) ∧ Below w.heap.size w w' := fun u hu => by
    refine (awake_any u (hG1.below hu)).mono ?_
    rintro e w' ⟨rfl, hb⟩
    exact ⟨rfl, hb1.trans ((hu.mono hb1.size).trans (hb.mono (Nat.le_trans hb1.size hu.size)))⟩
  have HC1 := Lib.hid hc1'
  have HC2 := Lib.hid hc2'
  have HC3 := Lib.hid hc3'
  have HC4 := Lib.hid hc4'
  have HC5 := Lib.hid hc5'
  have HC6 := Lib.hid hc6'
  clear hE hF hG1 hs1 hc1' hc2' hc3' hc4' hc5' hc6' hblk hp2 hp3 ho1 hb1 hA2 hA3 hS HBlk HP2 HP3 HO1 HSum
  go_wp2_with fail
  go_region_held3 (fun u => True) (first | go_keep | trivial) (first
    | (go_at_call 10; (refine HC1.out.mono ?_); rintro e2 w2 ⟨rfl, hb2⟩)
    | (go_at_call 11; (refine (HC2.out _ hb2).mono ?_); rintro e3 w3 ⟨rfl, hb3⟩)
    | (go_at_call 12; (refine (HC3.out _ hb3).mono ?_); rintro e4 w4 ⟨rfl, hb4⟩))
  go_wp2_with fail
  have hh1 : ∀ o, ((w4.alloc o).drew).heap[w4.heap.size]? = some o := fun o => heap_alloc_new _ _
  have hh2 : ∀ o o', (((w4.alloc o).alloc o').drew).heap[w4.heap.size]? = some o := fun o o' => heap_allocs w4 [o, o'] 0 _ rfl
  have hh3 : ∀ o o', (((w4.alloc o).alloc o').drew).heap[w4.heap.size + 1]? = some o' := fun o o' => heap_allocs w4 [o, o'] 1 _ rfl
  have HH1 := Lib.hid hh1
  have HH2 := Lib.hid hh2
  have HH3 := Lib.hid hh3
  clear hh1 hh2 hh3
  go_region_held3 (fun u => True) (first | go_keep | trivial) (first
    | (go_at_call 10; (with_reducible refine (HC4.out _ _ ?_ ?_).mono ?_); rotate_left 2; rintro e5 w5 ⟨rfl, hb5, hk5⟩; rotate_left 1; (first | with_reducible exact (hb4.alloc hb4.size _).drew | with_reducible exact ((hb4.alloc hb4.size _).alloc (Nat.le_trans hb4.size (by simp)) _).drew); (first | with_reducible exact HH1.out _ | with_reducible exact HH2.out _ _ | with_reducible exact HH3.out _ _))
    | (go_at_call 10; (with_reducible refine (HC5.out _ _ ?_ ?_).mono ?_); rotate_left 2; rintro e6 w6 ⟨rfl, hb6, hk6⟩; rotate_left 1; (first | with_reducible exact hb5 | with_reducible exact hb5.alloc hb5.size _); (first | with_reducible exact heap_alloc_new _ _ | with_reducible exact (hk5.block _ (by simp [World.drew])).trans (HH3.out _ _) | with_reducible exact (hk5.block _ (by simp [World.drew]; omega)).trans (HH2.out _ _)))
    | (go_at_call 7; (refine (HC6.out _ hb6).mono ?_); rintro e7 w7 ⟨rfl, hb7⟩))
  all_goals (go_wp2; go_ret; exact ⟨rfl, hb7⟩)
end Go.Proofs.YtahcnjhfkndleaaDoor
