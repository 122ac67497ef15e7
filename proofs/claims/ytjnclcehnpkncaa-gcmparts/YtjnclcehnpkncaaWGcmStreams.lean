/-
  The walk through GcmStreams.
-/
import Derived.Test.YtjnclcehnpkncaaGcmL
import Derived.Test.YtjnclcehnpkncaaSame
namespace Go.Proofs.Ytjnclcehnpkncaa
open Go.RowKit
set_option linter.unusedVariables false

theorem streams_long (key nonce : List UInt8) (A1 A2 : Option Addr) (n1 c1 n2 c2 : Nat) (w : World) (h : 100 < n1 ∨ 100 < n2) :
    Calls Try.prog 6 #[.agg (bvs key).toArray, .agg (bvs nonce).toArray, .slice A1 n1 c1, .slice A2 n2 c2] w fun e w' => e = .returned (.bool true) ∧ Below w.heap.size w w' := by
  by_cases h1 : 100 < n1
  · have t1 : decide ((100 : Int) < (n1 : Int)) = true := by simp; omega
    clear h
    go_enter Try.func6, Try.ntmps6
    go_wp2_with (go_at_call 9; (with_reducible refine (awake_any _).mono ?_); rintro e1 w1 ⟨rfl, b1⟩)
    go_ret
    exact ⟨rfl, (((Below.refl _ _).alloc (Nat.le_refl _) _).alloc (by simp) _).trans (b1.mono (by simp; omega))⟩
  · have t1 : decide ((100 : Int) < (n1 : Int)) = false := by simp; omega
    have t2 : decide ((100 : Int) < (n2 : Int)) = true := by simp; omega
    clear h
    go_enter Try.func6, Try.ntmps6
    go_wp2_with (go_at_call 9; (with_reducible refine (awake_any _).mono ?_); rintro e1 w1 ⟨rfl, b1⟩)
    go_ret
    exact ⟨rfl, (((Below.refl _ _).alloc (Nat.le_refl _) _).alloc (by simp) _).trans (b1.mono (by simp; omega))⟩
theorem cut_own (u : World) (g n c k : Nat) (hk : k ≤ c) (hc : 0 < c) : (Instr.slice 24 (.slice (some ⟨g, 0, none⟩) n c) none (some (.int .i64 (k : Int))) none).run Try.prog u = .ok (.slice (some ⟨g, 0, none⟩) k c) u := by
  rw [run_cut_to u _ n c k hk, if_neg (by omega)]
  simp [addr_add]
theorem seal_take (key nonce text data : List UInt8) (n : Nat) (h : n ≤ text.length) : (sealG key nonce text data).take n = (turnG key nonce text).take n := by
  unfold sealG
  rw [List.take_append_of_le_length (by rw [turnG_length]; exact h)]
theorem seal_getD (key nonce text data : List UInt8) (i : Nat) (h : i < text.length) : (sealG key nonce text data).getD i 0 = (turnG key nonce text).getD i 0 := by
  unfold sealG
  rw [List.getD_eq_getElem?_getD, List.getElem?_append_left (by rw [turnG_length]; exact h), ← List.getD_eq_getElem?_getD]
theorem Sl.cellD {w : World} {B b off n : Nat} {l : List UInt8} (h : Sl w B (some ⟨b, off, none⟩) n l) (j : Nat) (hj : j < l.length) : w.cell? ⟨b, off + j, none⟩ = some (.int .u8 (bn (l.getD j 0))) := by
  have e := h.range j (bv l[j]) (by simp [bvs, hj])
  rw [e]
  simp [bv, bn, hj]

attribute [local go_sem] u8_xor'
set_option maxHeartbeats 4000000 in
theorem streams_walk (key nonce a b : List UInt8) (hk : key.length = 16) (hno : nonce.length = 12) (A1 A2 : Option Addr) (n1 c1 n2 c2 : Nat) (w : World) (hs1 : Sl w w.heap.size A1 n1 a) (hs2 : Sl w w.heap.size A2 n2 b) (hnc1 : n1 ≤ c1) (hcm1 : c1 ≤ maxLen) (hnc2 : n2 ≤ c2) (hcm2 : c2 ≤ maxLen) (hn1 : n1 ≤ 100) (hn2 : n2 ≤ 100) :
    Calls Try.prog 6 #[.agg (bvs key).toArray, .agg (bvs nonce).toArray, .slice A1 n1 c1, .slice A2 n2 c2] w fun e w' => e = .returned (.bool true) ∧ Below w.heap.size w w' := by
  have Hk := Lib.hid hk
  have Hno := Lib.hid hno
  have HN1 : Hid (n1 ≤ c1 ∧ c1 ≤ maxLen) := ⟨hnc1, hcm1⟩
  have HN2 : Hid (n2 ≤ c2 ∧ c2 ≤ maxLen) := ⟨hnc2, hcm2⟩
  have HL1 := Lib.hid hs1.1
  have HL2 := Lib.hid hs2.1
  have HP : Hid (∀ u : World, Below w.heap.size w u → Sl u w.heap.size A1 n1 a ∧ Sl u w.heap.size A2 n2 b) := fun u hu => ⟨hs1.below hu, hs2.below hu⟩
  obtain ⟨X, hX⟩ : ∃ x, sealG key nonce a [] = x := ⟨_, rfl⟩
  obtain ⟨Y, hY⟩ : ∃ x, sealG key nonce b [] = x := ⟨_, rfl⟩
  obtain ⟨n, hn⟩ : ∃ n, min n1 n2 = n := ⟨_, rfl⟩
  have hnm : min (n1 : Int) (n2 : Int) = (n : Int) := by omega
  have hnn1 : n ≤ n1 := by omega
  have hnn2 : n ≤ n2 := by omega
  obtain ⟨Z, hZ⟩ : ∃ x, sealG key nonce (a.take n) [] = x := ⟨_, rfl⟩
  have HX := Lib.hid hX
  have HY := Lib.hid hY
  have HZ := Lib.hid hZ
  have HXL : Hid (X.length = n1 + 16) := show _ = _ by rw [← hX, sealG_length _ _ _ _ hk hno, hs1.1]
  have HYL : Hid (Y.length = n2 + 16) := show _ = _ by rw [← hY, sealG_length _ _ _ _ hk hno, hs2.1]
  have HXY : Hid (∀ i, i < n → X.getD i 0 ^^^ Y.getD i 0 = a.getD i 0 ^^^ b.getD i 0) := fun i hi => by
    rw [← hX, ← hY, seal_getD _ _ _ _ _ (by rw [hs1.1]; omega), seal_getD _ _ _ _ _ (by rw [hs2.1]; omega)]
    exact turn_cross _ _ _ _ _ (by rw [hs1.1]; omega) (by rw [hs2.1]; omega)
  have HXZ : Hid (Z.take n = X.take n) := show _ = _ by
    have hl := hs1.1
    rw [← hX, ← hZ, seal_take _ _ _ _ _ (by rw [List.length_take]; omega), seal_take _ _ _ _ _ (by omega), turn_take, List.take_take, Nat.min_self]
  have t1 : decide ((100 : Int) < (n1 : Int)) = false := by simp; omega
  have t2 : decide ((100 : Int) < (n2 : Int)) = false := by simp; omega
  have t3 : (((n1 + 16 : Nat) : Int) != (n1 : Int) + 16) = false := by simp
  have t4 : (((n2 + 16 : Nat) : Int) != (n2 : Int) + 16) = false := by simp
  clear hk hno hs1 hs2 hnc1 hcm1 hnc2 hcm2 hX hY hZ hn
  go_enter Try.func6, Try.ntmps6
  go_upto_region 3 with fail
  refine wp_forget (fun w1 => Blk w1 w.heap.size 22 key ∧ Blk w1 (w.heap.size + 1) 23 nonce ∧ Below w.heap.size w w1) ⟨heap_allocs w [_, _] 0 _ rfl, heap_allocs w [_, _] 1 _ rfl, ((Below.refl _ _).alloc (Nat.le_refl _) _).alloc (by simp) _⟩ ?_
  intro wr ⟨h1, h2, h3⟩
  have K := Lib.hid h1
  have N := Lib.hid h2
  have BW := Lib.hid h3
  clear h1 h2 h3
  refine wp_held (S := fun u => Below wr.drew.heap.size wr.drew u) (by kernel_rfl) ?_
  replace K := Lib.hid K.out.drew
  replace N := Lib.hid N.out.drew
  replace BW := Lib.hid BW.out.drew
  obtain ⟨w0, hw0⟩ : ∃ x, wr.drew = x := ⟨_, rfl⟩
  rw [hw0] at K N BW ⊢
  clear hw0
  have b0 : Below w0.heap.size w0 w0 := Below.refl _ _
  refine wpAnyH_pickG 0 (.agg (bvs key).toArray) rfl (by kernel_rfl) (by kernel_rfl) (by kernel_rfl) (by rfl) (fun _ _ _ h => h) (fun u hu => exec_load_blk u 22 (.tmp 4) rfl w.heap.size (by with_unfolding_all rfl) 22 key (K.out.below hu) 16 5 Try.underlying22 16 sizeRow Hk.out) b0 ?_
  go_simp
  refine wpAnyH_pickG 1 (.agg (bvs nonce).toArray) rfl (by kernel_rfl) (by kernel_rfl) (by kernel_rfl) (by rfl) (fun _ _ _ h => h) (fun u hu => exec_load_blk u 23 (.tmp 5) rfl (w.heap.size + 1) (by with_unfolding_all rfl) 23 nonce (N.out.below hu) 12 5 Try.underlying23 12 size12 Hno.out) b0 ?_
  go_simp
  refine wpAnyH_take (i := 2) (v := ?_) rfl (by kernel_rfl) (by kernel_rfl) (by kernel_rfl) (fun _ _ _ h => h) (Or.inl ⟨by rfl, ?_⟩) b0 ?_
  rotate_left 1
  · intro u hu
    go_simp
    first | done | with_reducible rfl
  go_simp
  refine wpAnyH_pickG 4 (.agg (bvs key).toArray) rfl (by kernel_rfl) (by kernel_rfl) (by kernel_rfl) (by rfl) (fun _ _ _ h => h) (fun u hu => exec_load_blk u 22 (.tmp 4) rfl w.heap.size (by with_unfolding_all rfl) 22 key (K.out.below hu) 16 5 Try.underlying22 16 sizeRow Hk.out) b0 ?_
  go_simp
  refine wpAnyH_pickG 5 (.agg (bvs nonce).toArray) rfl (by kernel_rfl) (by kernel_rfl) (by kernel_rfl) (by rfl) (fun _ _ _ h => h) (fun u hu => exec_load_blk u 23 (.tmp 5) rfl (w.heap.size + 1) (by with_unfolding_all rfl) 23 nonce (N.out.below hu) 12 5 Try.underlying23 12 size12 Hno.out) b0 ?_
  go_simp
  refine wpAnyH_take (i := 6) (v := ?_) rfl (by kernel_rfl) (by kernel_rfl) (by kernel_rfl) (fun _ _ _ h => h) (Or.inl ⟨by rfl, ?_⟩) b0 ?_
  rotate_left 1
  · intro u hu
    go_simp
    first | done | with_reducible rfl
  go_simp
  refine wpAnyH_oneG 3 (by kernel_rfl) rfl (by rfl) ?_
  go_wp2_with fail
  (with_reducible refine (seal_any key nonce a [] Hk.out Hno.out A1 none n1 c1 0 0 w.heap.size _ (HP.out _ BW.out).1 Sl.nil BW.out.size HN1.out.1 HN1.out.2 (by omega) (Nat.le_refl _) (by simp [maxLen]) (by omega)).mono ?_)
  rintro e1 w1 ⟨Ax, cx, rfl, o1, lx, mx, c1'⟩
  rw [HX.out] at o1
  have b1 := b0.trans (c1'.mono b0.size)
  refine ⟨b1, ?_⟩
  have O1 := Lib.hid (o1.base BW.out.size)
  have B1 := Lib.hid (BW.out.trans (c1'.mono BW.out.size))
  have LX : Hid (n1 + 16 ≤ cx ∧ cx ≤ maxLen) := ⟨lx, mx⟩
  clear o1 lx mx c1'
  refine wpAnyH_oneG 7 (by kernel_rfl) rfl (by rfl) ?_
  go_wp2_with fail
  (with_reducible refine (seal_any key nonce b [] Hk.out Hno.out A2 none n2 c2 0 0 w.heap.size _ (HP.out _ B1.out).2 Sl.nil B1.out.size HN2.out.1 HN2.out.2 (by omega) (Nat.le_refl _) (by simp [maxLen]) (by omega)).mono ?_)
  rintro e2 w2 ⟨Ay, cy, rfl, o2, ly, my, c2'⟩
  rw [HY.out] at o2
  have b2 := b1.trans (c2'.mono b1.size)
  refine ⟨b2, ?_⟩
  have O2 := Lib.hid (o2.base B1.out.size)
  replace O1 := Lib.hid (O1.out.below c2')
  have B2 := Lib.hid (B1.out.trans (c2'.mono B1.out.size))
  have K2 := Lib.hid (K.out.below b2)
  have N2 := Lib.hid (N.out.below b2)
  clear o2 ly my c2' b0 b1 K N BW B1
  go_simp
  refine wpAnyH_take (i := 8) (v := ?_) rfl (by kernel_rfl) (by kernel_rfl) (by kernel_rfl) (fun _ _ _ h => h) (Or.inl ⟨by rfl, ?_⟩) b2 ?_
  rotate_left 1
  · intro u hu
    go_simp
    first | done | with_reducible rfl
  go_simp
  refine wpAnyH_take (i := 9) (v := ?_) rfl (by kernel_rfl) (by kernel_rfl) (by kernel_rfl) (fun _ _ _ h => h) (Or.inl ⟨by rfl, ?_⟩) b2 ?_
  rotate_left 1
  · intro u hu
    go_simp
    first | done | with_reducible rfl
  go_simp
  refine wpAnyH_done (by kernel_rfl) ?_ _
  obtain ⟨gx, ex, _, _⟩ := O1.out.at_ (by omega)
  obtain ⟨gy, ey, _, _⟩ := O2.out.at_ (by omega)
  subst ex ey
  clear b2
  go_wp2_with fail
  go_loopw [12] (fun v12 wi => ∃ i k : Nat, i ≤ n ∧ v12 = .int .i64 i ∧ wi = w2.drewN k) (fun v12 _ => n - (intOf v12).toNat)
  case atStart => exact ⟨0, 0, by omega, rfl, rfl⟩
  case round =>
    obtain ⟨i, k, hi, rfl, rfl⟩ := hrel
    by_cases hlt : i < n
    · have hl1 := HL1.out
      have hl2 := HL2.out
      have hxl := HXL.out
      have hyl := HYL.out
      obtain ⟨a1, o1, rfl, _, _⟩ := (HP.out _ B2.out).1.2 (by omega)
      obtain ⟨a2, o2, rfl, _, _⟩ := (HP.out _ B2.out).2.2 (by omega)
      have k1 := ((HP.out _ B2.out).1.cellD i (by omega))
      have k2 := ((HP.out _ B2.out).2.cellD i (by omega))
      have k3 := O1.out.sl.cellD i (by omega)
      have k4 := O2.out.sl.cellD i (by omega)
      rw [Nat.zero_add] at k3 k4
      have hxy := HXY.out i hlt
      obtain ⟨p, hp⟩ : ∃ p, a.getD i 0 = p := ⟨_, rfl⟩
      obtain ⟨q, hq⟩ : ∃ p, b.getD i 0 = p := ⟨_, rfl⟩
      obtain ⟨r, hr⟩ : ∃ p, X.getD i 0 = p := ⟨_, rfl⟩
      obtain ⟨s, hs⟩ : ∃ p, Y.getD i 0 = p := ⟨_, rfl⟩
      rw [hp] at k1 hxy
      rw [hq] at k2 hxy
      rw [hr] at k3 hxy
      rw [hs] at k4 hxy
      have t5 : (bn (r ^^^ s) != bn (p ^^^ q)) = false := by rw [hxy]; simp
      have li : (i : Int) < (n : Int) := by omega
      clear hp hq hr hs hl1 hl2 hxl hyl hxy
      go_wp2_with fail
      go_quiet (fail)
      go_wp2
      go_roundw
      case rel => exact ⟨i + 1, k + nq, by omega, by go_num, by simp⟩
      case measure => simp [intOf]; omega
    · obtain rfl : i = n := by omega
      have K3 : Hid (Blk (w2.drewN k) w.heap.size 22 key) := K2.out
      have N3 : Hid (Blk (w2.drewN k) (w.heap.size + 1) 23 nonce) := N2.out
      have B3 : Hid (Below w.heap.size w (w2.drewN k)) := below_drewN B2.out k
      have O3 : Hid (Own (w2.drewN k) w.heap.size (.slice (some ⟨gx, 0, none⟩) (n1 + 16) cx) (n1 + 16) X) := O1.out
      obtain ⟨w3, hw3⟩ : ∃ x, w2.drewN k = x := ⟨_, rfl⟩
      rw [hw3] at K3 N3 B3 O3 ⊢
      clear hw3 K2 N2 B2 O1 O2
      obtain ⟨A1', eA⟩ : ∃ x, (if c1 = 0 then A1 else A1.map (·.add 0)) = x := ⟨_, rfl⟩
      have hcA : ∀ u : World, (Instr.slice 24 (.slice A1 n1 c1) none (some (.int .i64 (i : Int))) none).run Try.prog u = .ok (.slice A1' i c1) u := fun u => by
        rw [run_cut_to u A1 n1 c1 i (by have := HN1.out.1; omega), eA]
      have HA : Hid (∀ u, Below w.heap.size w u → Sl u w.heap.size A1' i (a.take i)) := fun u hu => by
        have h := ((HP.out u hu).1).take hnn1
        rw [← eA]
        refine ⟨h.1, fun h0 => ?_⟩
        obtain ⟨b', off', e, hb, hc⟩ := h.2 h0
        subst e
        have hc0 : c1 ≠ 0 := by have := HN1.out.1; omega
        exact ⟨b', off', by rw [if_neg hc0]; simp [addr_add], hb, hc⟩
      clear eA
      go_wp2_with fail
      refine wp_held (S := fun u => Below w3.drew.heap.size w3.drew u) (by kernel_rfl) ?_
      replace K3 := Lib.hid K3.out.drew
      replace N3 := Lib.hid N3.out.drew
      replace B3 := Lib.hid B3.out.drew
      replace O3 := Lib.hid O3.out.drew
      obtain ⟨w0, hw0⟩ : ∃ x, w3.drew = x := ⟨_, rfl⟩
      rw [hw0] at K3 N3 B3 O3 ⊢
      clear hw0
      have b0 : Below w0.heap.size w0 w0 := Below.refl _ _
      refine wpAnyH_pickG 0 (.agg (bvs key).toArray) rfl (by kernel_rfl) (by kernel_rfl) (by kernel_rfl) (by rfl) (fun _ _ _ h => h) (fun u hu => exec_load_blk u 22 (.tmp 4) rfl w.heap.size (by with_unfolding_all rfl) 22 key (K3.out.below hu) 16 5 Try.underlying22 16 sizeRow Hk.out) b0 ?_
      go_simp
      refine wpAnyH_pickG 1 (.agg (bvs nonce).toArray) rfl (by kernel_rfl) (by kernel_rfl) (by kernel_rfl) (by rfl) (fun _ _ _ h => h) (fun u hu => exec_load_blk u 23 (.tmp 5) rfl (w.heap.size + 1) (by with_unfolding_all rfl) 23 nonce (N3.out.below hu) 12 5 Try.underlying23 12 size12 Hno.out) b0 ?_
      go_simp
      refine wpAnyH_take (i := 2) (v := ?_) rfl (by kernel_rfl) (by kernel_rfl) (by kernel_rfl) (fun _ _ _ h => h) (Or.inl ⟨by rfl, ?_⟩) b0 ?_
      rotate_left 1
      · intro u hu
        go_simp
        first | done | with_reducible rfl
      go_simp
      refine wpAnyH_take (i := 3) (v := ?_) rfl (by kernel_rfl) (by kernel_rfl) (by kernel_rfl) (fun _ _ _ h => h) (Or.inl ⟨by rfl, ?_⟩) b0 ?_
      rotate_left 1
      · intro u hu
        go_simp
        first | done | with_reducible rfl
      go_simp
      refine wpAnyH_take (i := 4) (v := ?_) rfl (by kernel_rfl) (by kernel_rfl) (by kernel_rfl) (fun _ _ _ h => h) (Or.inl ⟨by rfl, ?_⟩) b0 ?_
      rotate_left 1
      · intro u hu
        go_simp
        first | done | with_reducible rfl
      go_simp
      refine wpAnyH_oneG 5 (by kernel_rfl) rfl (by rfl) ?_
      go_wp2_with fail
      (with_reducible refine (seal_any key nonce (a.take i) [] Hk.out Hno.out A1' none i c1 0 0 w.heap.size _ (HA.out _ B3.out) Sl.nil B3.out.size (by have := HN1.out.1; omega) HN1.out.2 (by omega) (Nat.le_refl _) (by simp [maxLen]) (by omega)).mono ?_)
      rintro e4 w4 ⟨Az, cz, rfl, o4, lz, mz, c4⟩
      rw [HZ.out] at o4
      have b4 := b0.trans (c4.mono b0.size)
      refine ⟨b4, ?_⟩
      have O4 := Lib.hid (o4.base B3.out.size)
      replace O3 := Lib.hid (O3.out.below c4)
      have B4 := Lib.hid (B3.out.trans (c4.mono B3.out.size))
      have LZ : Hid (i + 16 ≤ cz ∧ cz ≤ maxLen) := ⟨lz, mz⟩
      clear o4 lz mz c4 b0 K3 N3 B3 hcA HA
      go_simp
      refine wpAnyH_take (i := 6) (v := ?_) rfl (by kernel_rfl) (by kernel_rfl) (by kernel_rfl) (fun _ _ _ h => h) (Or.inl ⟨by rfl, ?_⟩) b4 ?_
      rotate_left 1
      · intro u hu
        go_simp
        first | done | with_reducible rfl
      go_simp
      refine wpAnyH_done (by kernel_rfl) ?_ _
      obtain ⟨gz, ez, _, _⟩ := O4.out.at_ (by omega)
      subst ez
      clear b4
      have t6 : ((i : Int) + 16 == (i : Int) + 16) = true := by simp
      have vw : IntKind.i64.wrap ((i : Int) + 16) = (i : Int) + 16 := IntWalk.i64_in _ (by omega)
      have hcz := fun u : World => cut_own u gz (i + 16) cz i (by have := LZ.out.1; omega) (by have := LZ.out.1; omega)
      have hcx := fun u : World => cut_own u gx (n1 + 16) cx i (by have := LX.out.1; omega) (by have := LX.out.1; omega)
      go_wp2_with fail
      refine wp_held (S := fun u => Below w4.drew.heap.size w4.drew u) (by kernel_rfl) ?_
      replace B4 := Lib.hid B4.out.drew
      replace O3 := Lib.hid O3.out.drew
      replace O4 := Lib.hid O4.out.drew
      obtain ⟨w0, hw0⟩ : ∃ x, w4.drew = x := ⟨_, rfl⟩
      rw [hw0] at B4 O3 O4 ⊢
      clear hw0
      have b0 : Below w0.heap.size w0 w0 := Below.refl _ _
      refine wpAnyH_take (i := 0) (v := ?_) rfl (by kernel_rfl) (by kernel_rfl) (by kernel_rfl) (fun _ _ _ h => h) (Or.inl ⟨by rfl, ?_⟩) b0 ?_
      rotate_left 1
      · intro u hu
        go_simp
        first | done | with_reducible rfl
      go_simp
      refine wpAnyH_take (i := 1) (v := ?_) rfl (by kernel_rfl) (by kernel_rfl) (by kernel_rfl) (fun _ _ _ h => h) (Or.inl ⟨by rfl, ?_⟩) b0 ?_
      rotate_left 1
      · intro u hu
        go_simp
        first | done | with_reducible rfl
      go_simp
      refine wpAnyH_take (i := 2) (v := ?_) rfl (by kernel_rfl) (by kernel_rfl) (by kernel_rfl) (fun _ _ _ h => h) (Or.inl ⟨by rfl, ?_⟩) b0 ?_
      rotate_left 1
      · intro u hu
        go_simp
        first | done | with_reducible rfl
      go_simp
      refine wpAnyH_take (i := 3) (v := ?_) rfl (by kernel_rfl) (by kernel_rfl) (by kernel_rfl) (fun _ _ _ h => h) (Or.inl ⟨by rfl, ?_⟩) b0 ?_
      rotate_left 1
      · intro u hu
        go_simp
        first | done | with_reducible rfl
      go_simp
      refine wpAnyH_take (i := 4) (v := ?_) rfl (by kernel_rfl) (by kernel_rfl) (by kernel_rfl) (fun _ _ _ h => h) (Or.inl ⟨by rfl, ?_⟩) b0 ?_
      rotate_left 1
      · intro u hu
        go_simp
        first | done | with_reducible rfl
      go_simp
      refine wpAnyH_take (i := 5) (v := ?_) rfl (by kernel_rfl) (by kernel_rfl) (by kernel_rfl) (fun _ _ _ h => h) (Or.inl ⟨by rfl, ?_⟩) b0 ?_
      rotate_left 1
      · intro u hu
        go_simp
        first | done | with_reducible rfl
      go_simp
      refine wpAnyH_take (i := 6) (v := ?_) rfl (by kernel_rfl) (by kernel_rfl) (by kernel_rfl) (fun _ _ _ h => h) (Or.inl ⟨by rfl, ?_⟩) b0 ?_
      rotate_left 1
      · intro u hu
        go_simp
        first | done | with_reducible rfl
      go_simp
      refine wpAnyH_take (i := 7) (v := ?_) rfl (by kernel_rfl) (by kernel_rfl) (by kernel_rfl) (fun _ _ _ h => h) (Or.inl ⟨by rfl, ?_⟩) b0 ?_
      rotate_left 1
      · intro u hu
        go_simp
        first | done | with_reducible rfl
      go_simp
      refine wpAnyH_take (i := 8) (v := ?_) rfl (by kernel_rfl) (by kernel_rfl) (by kernel_rfl) (fun _ _ _ h => h) (Or.inl ⟨by rfl, ?_⟩) b0 ?_
      rotate_left 1
      · intro u hu
        go_simp
        first | done | with_reducible rfl
      go_simp
      refine wpAnyH_take (i := 9) (v := ?_) rfl (by kernel_rfl) (by kernel_rfl) (by kernel_rfl) (fun _ _ _ h => h) (Or.inl ⟨by rfl, ?_⟩) b0 ?_
      rotate_left 1
      · intro u hu
        go_simp
        first | done | with_reducible rfl
      go_simp
      refine wpAnyH_take (i := 10) (v := ?_) rfl (by kernel_rfl) (by kernel_rfl) (by kernel_rfl) (fun _ _ _ h => h) (Or.inl ⟨by rfl, ?_⟩) b0 ?_
      rotate_left 1
      · intro u hu
        go_simp
        first | done | with_reducible rfl
      go_simp
      refine wpAnyH_take (i := 11) (v := ?_) rfl (by kernel_rfl) (by kernel_rfl) (by kernel_rfl) (fun _ _ _ h => h) (Or.inl ⟨by rfl, ?_⟩) b0 ?_
      rotate_left 1
      · intro u hu
        go_simp
        first | done | with_reducible rfl
      go_simp
      refine wpAnyH_oneG 12 (by kernel_rfl) rfl (by rfl) ?_
      go_wp2_with fail
      (with_reducible refine (same_yes (Z.take i) (X.take i) HXZ.out _ _ i i cz cx w0.heap.size w0.heap.size _ (O4.out.sl.take (by omega)) (O3.out.sl.take (by omega)) (by simp [maxLen]; omega)).mono ?_)
      rintro e5 w5 ⟨rfl, k5, rfl⟩
      have b5 := below_drewN b0 k5
      refine ⟨b5, ?_⟩
      go_simp
      refine wpAnyH_take (i := 13) (v := ?_) rfl (by kernel_rfl) (by kernel_rfl) (by kernel_rfl) (fun _ _ _ h => h) (Or.inl ⟨by rfl, ?_⟩) b5 ?_
      rotate_left 1
      · intro u hu
        go_simp
        first | done | with_reducible rfl
      go_simp
      refine wpAnyH_take (i := 14) (v := ?_) rfl (by kernel_rfl) (by kernel_rfl) (by kernel_rfl) (fun _ _ _ h => h) (Or.inl ⟨by rfl, ?_⟩) b5 ?_
      rotate_left 1
      · intro u hu
        go_simp
        first | done | with_reducible rfl
      go_simp
      refine wpAnyH_oneG 15 (by kernel_rfl) rfl (by rfl) ?_
      go_wp2_with fail
      (with_reducible refine (awake_any _).mono ?_)
      rintro e6 w6 ⟨rfl, c6⟩
      have b6 := b5.trans (c6.mono b5.size)
      refine ⟨b6, ?_⟩
      go_simp
      refine wpAnyH_take (i := 16) (v := ?_) rfl (by kernel_rfl) (by kernel_rfl) (by kernel_rfl) (fun _ _ _ h => h) (Or.inl ⟨by rfl, ?_⟩) b6 ?_
      rotate_left 1
      · intro u hu
        go_simp
        first | done | with_reducible rfl
      go_simp
      refine wpAnyH_take (i := 17) (v := ?_) rfl (by kernel_rfl) (by kernel_rfl) (by kernel_rfl) (fun _ _ _ h => h) (Or.inl ⟨by rfl, ?_⟩) b6 ?_
      rotate_left 1
      · intro u hu
        go_simp
        first | done | with_reducible rfl
      go_simp
      refine wpAnyH_done (by kernel_rfl) ?_ _
      go_wp2_with fail
      go_ret
      exact ⟨rfl, B4.out.trans (b6.mono B4.out.size)⟩
theorem streams_all (key nonce a b : List UInt8) (hk : key.length = 16) (hno : nonce.length = 12) (A1 A2 : Option Addr) (n1 c1 n2 c2 : Nat) (w : World) (hs1 : Sl w w.heap.size A1 n1 a) (hs2 : Sl w w.heap.size A2 n2 b) (hnc1 : n1 ≤ c1) (hcm1 : c1 ≤ maxLen) (hnc2 : n2 ≤ c2) (hcm2 : c2 ≤ maxLen) :
    Calls Try.prog 6 #[.agg (bvs key).toArray, .agg (bvs nonce).toArray, .slice A1 n1 c1, .slice A2 n2 c2] w fun e w' => e = .returned (.bool true) ∧ Below w.heap.size w w' := by
  by_cases h : 100 < n1 ∨ 100 < n2
  · exact streams_long key nonce A1 A2 n1 c1 n2 c2 w h
  · exact streams_walk key nonce a b hk hno A1 A2 n1 c1 n2 c2 w hs1 hs2 hnc1 hcm1 hnc2 hcm2 (by omega) (by omega)
end Go.Proofs.Ytjnclcehnpkncaa
