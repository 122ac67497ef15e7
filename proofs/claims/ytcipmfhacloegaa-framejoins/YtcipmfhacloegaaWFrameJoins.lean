/-
  FrameJoins: the law's walk.
-/
import Derived.Test.YtcipmfhacloegaaJnB
import Derived.Test.YtcipmfhacloegaaJnU
import Derived.Test.YtcipmfhacloegaaFrU
namespace Go.Proofs.Ytcipmfhacloegaa
open Go.RowKit
set_option linter.unusedVariables false

set_option maxHeartbeats 8000000 in
set_option maxRecDepth 8000 in
theorem joins_any (zs : List Nat) (A : Option Addr) (n c : Nat) (w : World) (h1 : 1 ≤ n) (h20 : n ≤ 20) (hin : InU w A n zs) : Calls Try.prog 7 #[.slice A n c] w fun e w' => e = .returned (.bool true) ∧ Below w.heap.size w w' := by
  have HIN := Lib.hid hin
  have HAW : Hid (∀ u, Below w.heap.size w u → Calls Try.prog 11 #[] u fun e w' => e = .returned (.bool true) ∧ Below w.heap.size w w') := fun u hu => (awake_any u).mono fun e w' h => ⟨h.1, hu.trans (h.2.mono hu.size)⟩
  have k20 : ¬ (20 : Int) < (n : Int) := by omega
  have k0 : ((n : Int) == 0) = false := by simp; omega
  obtain ⟨b, off, rfl, hb, hcell⟩ := hin.2 (by omega)
  have HCE : Hid (∀ i, i < n → ∀ u, Below w.heap.size w u → u.cell? ⟨b, off + i, none⟩ = some (.int .u64 ((zs.getD i 0 : Nat) : Int))) := fun i hi u hu => (Below.cell hu (p := ⟨b, off + i, none⟩) hb).trans (hcell i hi)
  clear hin hcell hb
  go_enter Try.func7, Try.ntmps7
  go_wp2_with fail
  go_loopw [3, 4, 5, 6, 7] (fun bs fv i _ _ wr => ∃ (j : Nat) (A1 : Option Addr) (m d : Nat) (A2 : Option Addr) (k e : Nat) (fps : List (Fr × Fp)), i = .int .i64 j ∧ bs = .slice A1 m d ∧ fv = .slice A2 k e ∧ j ≤ n ∧ m ≤ 200 * j ∧ k = j ∧ Hid (Own wr w.heap.size (.slice A1 m d) m (joinF (jL zs j))) ∧ Hid (OwnF wr w.heap.size (.slice A2 k e) k fps) ∧ Hid (fps.map (·.1) = jL zs j) ∧ Hid (∀ x ∈ fps, ApartJ A1 x.2) ∧ Hid (Below w.heap.size w wr)) (fun _ _ i _ _ _ => n - (intOf i).toNat)
  case atStart => exact ⟨0, none, 0, 0, none, 0, 0, [], rfl, rfl, rfl, Nat.zero_le _, Nat.le_refl _, rfl, Own.nil _ _, OwnF.nil _ _, rfl, fun x hx => by simp at hx, Below.refl _ _⟩
  case round =>
    obtain ⟨j, A1, m, d, A2, k, e, fps, rfl, rfl, rfl, hj, hm, hk, O1, V1, HM, HF, B1⟩ := hrel
    obtain rfl : j = k := hk.symm
    by_cases hlt : j < n
    · have lt1 : (j : Int) < (n : Int) := by omega
      obtain ⟨z, hz⟩ : ∃ z, zs.getD j 0 = z := ⟨_, rfl⟩
      have hzb : z < 18446744073709551616 := by rw [← hz]; exact HIN.out.1 j
      have HZB := Lib.hid hzb
      have HCZ : Hid (∀ u, Below w.heap.size w u → u.cell? ⟨b, off + j, none⟩ = some (.int .u64 (z : Int))) := fun u hu => by rw [← hz]; exact HCE.out j hlt u hu
      have hcz := HCZ.out _ B1.out
      have HZ := Lib.hid hz
      obtain ⟨q, hq⟩ : ∃ q, z / 8 = q := ⟨_, rfl⟩
      have hqb : q < 2305843009213693952 := by omega
      have HQ := Lib.hid hq
      have e1 := and_u64J q 4611686018427387903 q (by omega) (by omega) 4611686018427387903 rfl (by rw [Nat.and_two_pow_sub_one_eq_mod q 62]; omega)
      have e2 : (z : Int).tdiv 8 = (q : Int) := by rw [Int.tdiv_eq_ediv_of_nonneg (by omega), ← hq]; omega
      obtain ⟨k8, hk8⟩ : ∃ k, z % 8 = k := ⟨_, rfl⟩
      have hk8b : k8 < 8 := by rw [← hk8]; exact Nat.mod_lt _ (by decide)
      have f1 : (z : Int).tmod 8 = (k8 : Int) := tmodJ z 8 k8 8 rfl hk8
      have lk : (k8 : Int) < 8 := Int.ofNat_lt.2 hk8b
      obtain ⟨a70, ha70⟩ : ∃ k, q % 70 = k := ⟨_, rfl⟩
      have ba70 : a70 < 70 := by rw [← ha70]; exact Nat.mod_lt _ (by decide)
      have f2 : (q : Int).tmod 70 = (a70 : Int) := tmodJ q 70 a70 70 rfl ha70
      have g1 := wrapJ a70 (Nat.lt_trans ba70 (by decide))
      obtain ⟨a1000, ha1000⟩ : ∃ k, q % 1000 = k := ⟨_, rfl⟩
      have ba1000 : a1000 < 1000 := by rw [← ha1000]; exact Nat.mod_lt _ (by decide)
      have f3 : (q : Int).tmod 1000 = (a1000 : Int) := tmodJ q 1000 a1000 1000 rfl ha1000
      have g2 := wrapJ a1000 (Nat.lt_trans ba1000 (by decide))
      obtain ⟨a9, ha9⟩ : ∃ k, q % 9 = k := ⟨_, rfl⟩
      have ba9 : a9 < 9 := by rw [← ha9]; exact Nat.mod_lt _ (by decide)
      have f4 : (q : Int).tmod 9 = (a9 : Int) := tmodJ q 9 a9 9 rfl ha9
      have g3 := wrapJ a9 (Nat.lt_trans ba9 (by decide))
      obtain ⟨a300, ha300⟩ : ∃ k, q % 300 = k := ⟨_, rfl⟩
      have ba300 : a300 < 300 := by rw [← ha300]; exact Nat.mod_lt _ (by decide)
      have f5 : (q : Int).tmod 300 = (a300 : Int) := tmodJ q 300 a300 300 rfl ha300
      have g4 := wrapJ a300 (Nat.lt_trans ba300 (by decide))
      obtain ⟨h2, hh2⟩ : ∃ k, q / 2 = k := ⟨_, rfl⟩
      have g5 : IntKind.u64.wrap (h2 : Int) = (h2 : Int) := wrapUJ h2 (by rw [← hh2]; exact Nat.lt_of_le_of_lt (Nat.div_le_self _ _) (Nat.lt_trans hqb (by decide)))
      have f6 : (q : Int).tdiv 2 = (h2 : Int) := tdivJ q 2 h2 2 rfl hh2
      have f6' : (q : Int) / 2 = (h2 : Int) := by rw [← hh2]; rfl
      have f7 : (q : Int).tmod 2305843009213693952 = (q : Int) := tmodJ q 2305843009213693952 q 2305843009213693952 rfl (Nat.mod_eq_of_lt hqb)
      obtain ⟨q2, hq2⟩ : ∃ k, q % 2 = k := ⟨_, rfl⟩
      obtain ⟨bf, hbf⟩ : ∃ b, (q % 2 == 0) = b := ⟨_, rfl⟩
      have f8 : ((q : Int).tmod 2 == 0) = bf := by
        rw [tmodJ q 2 q2 2 rfl hq2, ← hbf, hq2, Bool.eq_iff_iff]
        simp only [beq_iff_eq]
        exact Int.ofNat_inj (n := 0)
      have HJ3 : Hid (jK 3 q = { Fr.of 8 with id := q, fin := bf, data := growL a70 a1000 }) := show _ = _ by rw [← hbf, ← ha70, ← ha1000]; rfl
      have HJ4 : Hid (jK 4 q = { Fr.of 6 with off := q, data := growL a9 3 }) := show _ = _ by rw [← ha9]; rfl
      have HJ5 : Hid (jK 5 q = { Fr.of 2 with delay := q, rs := [(h2, q)] }) := show _ = _ by rw [← hh2]; rfl
      have HJ6 : Hid (jK 6 q = { Fr.of 26 with data := growL 8 a300 }) := show _ = _ by rw [← ha300]; rfl
      have HGA := Lib.hid (grow_any a70 a1000 (Nat.le_of_lt (Nat.lt_trans ba70 (by decide))) (Nat.le_of_lt ba1000))
      have HGB : Hid (∀ u : World, Calls Try.prog 28 #[.int .i64 (a9 : Int), .int .i64 3] u (MakesB u (growL a9 3))) := (grow_any a9 3 (Nat.le_of_lt (Nat.lt_trans ba9 (by decide))) (by decide))
      have HGC : Hid (∀ u : World, Calls Try.prog 28 #[.int .i64 8, .int .i64 (a300 : Int)] u (MakesB u (growL 8 a300))) := (grow_any 8 a300 (by decide) (Nat.le_of_lt (Nat.lt_trans ba300 (by decide))))
      have HOW : Hid (∀ (D3 : Option Addr) (n3 c3 : Nat) (D4 : Option Addr) (n4 c4 : Nat) (D6 : Option Addr) (n6 c6 : Nat) (Ar : Option Addr) (cr : Nat) (u : World) (B : Nat), Own u B (.slice D3 n3 c3) n3 (growL a70 a1000) → Own u B (.slice D4 n4 c4) n4 (growL a9 3) → Own u B (.slice D6 n6 c6) n6 (growL 8 a300) → OwnR u B (.slice Ar 1 cr) 1 [(h2, q)] → FrO u B (jK k8 q) (jP D3 n3 c3 D4 n4 c4 D6 n6 c6 Ar cr k8)) := by
        rw [← ha70, ← ha1000, ← ha9, ← ha300, ← hh2]
        exact fun D3 n3 c3 D4 n4 c4 D6 n6 c6 Ar cr u B h3 h4 h6 h5 => jP_own h3 h4 h6 h5 k8
      have HFE : Hid (jF (zs.getD j 0) = jK k8 q) := show _ = _ by rw [hz]; unfold jF; rw [hk8, hq]
      clear hz hq hk8 hq2 ba70 ba1000 ba9 ba300 ha70 ha1000 ha9 ha300 hh2 hbf
      go_upto_region 9 with fail
      go_cut [7] from 23 to 88 (fun v7 wx => ∃ (gv : Nat) (p : Fp), v7 = .pointer (some ⟨gv, 0, none⟩) ∧ wr.heap.size ≤ gv ∧ (p.ca = none ∧ p.ta = none) ∧ Hid (Rw wx gv 26 (frV (jK k8 q) p)) ∧ Hid (FrO wx wr.heap.size (jK k8 q) p) ∧ Hid (Below wr.heap.size wr wx))
      case first =>
        have HU : Hid (∀ u, Below wr.drew.heap.size wr.drew u → Below wr.heap.size wr u) := fun u hu => ⟨hu.os, hu.tape, hu.output, hu.size, hu.block⟩
        have HZw : Hid (wr.drew.heap.size = wr.heap.size) := rfl
        have HCW : Hid (∀ u, Below wr.drew.heap.size wr.drew u → u.cell? ⟨b, off + j, none⟩ = some (.int .u64 (z : Int))) := fun u hu => HCZ.out u (B1.out.trans ((HU.out u hu).mono B1.out.size))
        refine wp_held (S := fun u => Below wr.drew.heap.size wr.drew u) (by kernel_rfl) ?_
        obtain ⟨w0, hw0⟩ : ∃ x, wr.drew = x := ⟨_, rfl⟩
        rw [hw0] at HU HZw HCW ⊢
        clear hw0
        have b0 : Below w0.heap.size w0 w0 := Below.refl _ _
        refine wpAnyH_take (i := 0) (v := ?_) rfl (by kernel_rfl) (by kernel_rfl) (by kernel_rfl) (fun _ _ _ h => h) (Or.inl ⟨by rfl, ?_⟩) b0 ?_
        rotate_left 1
        · intro u hu
          go_simp
          first | done | with_reducible rfl
        go_simp
        refine wpAnyH_take (i := 1) (v := ?_) rfl (by kernel_rfl) (by kernel_rfl) (by kernel_rfl) (fun _ _ _ h => h) (Or.inl ⟨by rfl, ?_⟩) b0 ?_
        rotate_left 1
        · intro u hu
          go_simp
          first | done | with_reducible rfl
        go_simp
        refine wpAnyH_take (i := 2) (v := ?_) rfl (by kernel_rfl) (by kernel_rfl) (by kernel_rfl) (fun _ _ _ h => h) (Or.inl ⟨by rfl, ?_⟩) b0 ?_
        rotate_left 1
        · intro u hu
          go_simp
          first | done | with_reducible rfl
        go_simp
        refine wpAnyH_take (i := 3) (v := ?_) rfl (by kernel_rfl) (by kernel_rfl) (by kernel_rfl) (fun _ _ _ h => h) (Or.inl ⟨by rfl, ?_⟩) b0 ?_
        rotate_left 1
        · intro u hu
          go_simp
          first | done | with_reducible rfl
        go_simp
        refine wpAnyH_take (i := 4) (v := ?_) rfl (by kernel_rfl) (by kernel_rfl) (by kernel_rfl) (fun _ _ _ h => h) (Or.inl ⟨by rfl, ?_⟩) b0 ?_
        rotate_left 1
        · intro u hu
          go_simp
          first | done | with_reducible rfl
        go_simp
        refine wpAnyH_take (i := 5) (v := ?_) rfl (by kernel_rfl) (by kernel_rfl) (by kernel_rfl) (fun _ _ _ h => h) (Or.inl ⟨by rfl, ?_⟩) b0 ?_
        rotate_left 1
        · intro u hu
          go_simp
          first | done | with_reducible rfl
        go_simp
        refine wpAnyH_take (i := 6) (v := ?_) rfl (by kernel_rfl) (by kernel_rfl) (by kernel_rfl) (fun _ _ _ h => h) (Or.inl ⟨by rfl, ?_⟩) b0 ?_
        rotate_left 1
        · intro u hu
          go_simp
          first | done | with_reducible rfl
        go_simp
        refine wpAnyH_take (i := 7) (v := ?_) rfl (by kernel_rfl) (by kernel_rfl) (by kernel_rfl) (fun _ _ _ h => h) (Or.inl ⟨by rfl, ?_⟩) b0 ?_
        rotate_left 1
        · intro u hu
          go_simp
          first | done | with_reducible rfl
        go_simp
        refine wpAnyH_take (i := 8) (v := ?_) rfl (by kernel_rfl) (by kernel_rfl) (by kernel_rfl) (fun _ _ _ h => h) (Or.inl ⟨by rfl, ?_⟩) b0 ?_
        rotate_left 1
        · intro u hu
          go_simp
          first | done | with_reducible rfl
        go_simp
        refine wpAnyH_take (i := 9) (v := ?_) rfl (by kernel_rfl) (by kernel_rfl) (by kernel_rfl) (fun _ _ _ h => h) (Or.inl ⟨by rfl, ?_⟩) b0 ?_
        rotate_left 1
        · intro u hu
          go_simp
          first | done | with_reducible rfl
        go_simp
        refine wpAnyH_take (i := 10) (v := ?_) rfl (by kernel_rfl) (by kernel_rfl) (by kernel_rfl) (fun _ _ _ h => h) (Or.inl ⟨by rfl, ?_⟩) b0 ?_
        rotate_left 1
        · intro u hu
          go_simp
          first | done | with_reducible rfl
        go_simp
        refine wpAnyH_take (i := 11) (v := ?_) rfl (by kernel_rfl) (by kernel_rfl) (by kernel_rfl) (fun _ _ _ h => h) (Or.inl ⟨by rfl, ?_⟩) b0 ?_
        rotate_left 1
        · intro u hu
          go_simp
          first | done | with_reducible rfl
        go_simp
        refine wpAnyH_take (i := 12) (v := ?_) rfl (by kernel_rfl) (by kernel_rfl) (by kernel_rfl) (fun _ _ _ h => h) (Or.inl ⟨by rfl, ?_⟩) b0 ?_
        rotate_left 1
        · intro u hu
          go_simp
          first | done | with_reducible rfl
        go_simp
        refine wpAnyH_take (i := 13) (v := ?_) rfl (by kernel_rfl) (by kernel_rfl) (by kernel_rfl) (fun _ _ _ h => h) (Or.inl ⟨by rfl, ?_⟩) b0 ?_
        rotate_left 1
        · intro u hu
          go_simp
          first | done | with_reducible rfl
        go_simp
        refine wpAnyH_take (i := 14) (v := ?_) rfl (by kernel_rfl) (by kernel_rfl) (by kernel_rfl) (fun _ _ _ h => h) (Or.inl ⟨by rfl, ?_⟩) b0 ?_
        rotate_left 1
        · intro u hu
          go_simp
          first | done | with_reducible rfl
        go_simp
        refine wpAnyH_take (i := 17) (v := ?_) rfl (by kernel_rfl) (by kernel_rfl) (by kernel_rfl) (fun _ _ _ h => h) (Or.inl ⟨by rfl, ?_⟩) b0 ?_
        rotate_left 1
        · intro u hu
          go_simp
          first | done | with_reducible rfl
        go_simp
        refine wpAnyH_take (i := 18) (v := ?_) rfl (by kernel_rfl) (by kernel_rfl) (by kernel_rfl) (fun _ _ _ h => h) (Or.inl ⟨by rfl, ?_⟩) b0 ?_
        rotate_left 1
        · intro u hu
          go_simp
          first | done | with_reducible rfl
        go_simp
        refine wpAnyH_take (i := 19) (v := ?_) rfl (by kernel_rfl) (by kernel_rfl) (by kernel_rfl) (fun _ _ _ h => h) (Or.inl ⟨by rfl, ?_⟩) b0 ?_
        rotate_left 1
        · intro u hu
          go_simp
          first | done | with_reducible rfl
        go_simp
        refine wpAnyH_take (i := 20) (v := ?_) rfl (by kernel_rfl) (by kernel_rfl) (by kernel_rfl) (fun _ _ _ h => h) (Or.inl ⟨by rfl, ?_⟩) b0 ?_
        rotate_left 1
        · intro u hu
          go_simp
          first | done | with_reducible rfl
        go_simp
        refine wpAnyH_take (i := 21) (v := ?_) rfl (by kernel_rfl) (by kernel_rfl) (by kernel_rfl) (fun _ _ _ h => h) (Or.inl ⟨by rfl, ?_⟩) b0 ?_
        rotate_left 1
        · intro u hu
          go_simp
          first | done | with_reducible rfl
        go_simp
        refine wpAnyH_take (i := 24) (v := ?_) rfl (by kernel_rfl) (by kernel_rfl) (by kernel_rfl) (fun _ _ _ h => h) (Or.inl ⟨by rfl, ?_⟩) b0 ?_
        rotate_left 1
        · intro u hu
          go_simp
          first | done | with_reducible rfl
        go_simp
        refine wpAnyH_take (i := 25) (v := ?_) rfl (by kernel_rfl) (by kernel_rfl) (by kernel_rfl) (fun _ _ _ h => h) (Or.inl ⟨by rfl, ?_⟩) b0 ?_
        rotate_left 1
        · intro u hu
          go_simp
          first | done | with_reducible rfl
        go_simp
        refine wpAnyH_take (i := 26) (v := ?_) rfl (by kernel_rfl) (by kernel_rfl) (by kernel_rfl) (fun _ _ _ h => h) (Or.inl ⟨by rfl, ?_⟩) b0 ?_
        rotate_left 1
        · intro u hu
          go_simp
          first | done | with_reducible rfl
        go_simp
        refine wpAnyH_take (i := 27) (v := ?_) rfl (by kernel_rfl) (by kernel_rfl) (by kernel_rfl) (fun _ _ _ h => h) (Or.inl ⟨by rfl, ?_⟩) b0 ?_
        rotate_left 1
        · intro u hu
          go_simp
          first | done | with_reducible rfl
        go_simp
        refine wpAnyH_take (i := 28) (v := ?_) rfl (by kernel_rfl) (by kernel_rfl) (by kernel_rfl) (fun _ _ _ h => h) (Or.inl ⟨by rfl, ?_⟩) b0 ?_
        rotate_left 1
        · intro u hu
          go_simp
          first | done | with_reducible rfl
        go_simp
        refine wpAnyH_take (i := 31) (v := ?_) rfl (by kernel_rfl) (by kernel_rfl) (by kernel_rfl) (fun _ _ _ h => h) (Or.inl ⟨by rfl, ?_⟩) b0 ?_
        rotate_left 1
        · intro u hu
          go_simp
          first | done | with_reducible rfl
        go_simp
        refine wpAnyH_take (i := 32) (v := ?_) rfl (by kernel_rfl) (by kernel_rfl) (by kernel_rfl) (fun _ _ _ h => h) (Or.inl ⟨by rfl, ?_⟩) b0 ?_
        rotate_left 1
        · intro u hu
          go_simp
          first | done | with_reducible rfl
        go_simp
        refine wpAnyH_take (i := 33) (v := ?_) rfl (by kernel_rfl) (by kernel_rfl) (by kernel_rfl) (fun _ _ _ h => h) (Or.inl ⟨by rfl, ?_⟩) b0 ?_
        rotate_left 1
        · intro u hu
          go_simp
          first | done | with_reducible rfl
        go_simp
        refine wpAnyH_take (i := 36) (v := ?_) rfl (by kernel_rfl) (by kernel_rfl) (by kernel_rfl) (fun _ _ _ h => h) (Or.inl ⟨by rfl, ?_⟩) b0 ?_
        rotate_left 1
        · intro u hu
          go_simp
          first | done | with_reducible rfl
        go_simp
        refine wpAnyH_take (i := 37) (v := ?_) rfl (by kernel_rfl) (by kernel_rfl) (by kernel_rfl) (fun _ _ _ h => h) (Or.inl ⟨by rfl, ?_⟩) b0 ?_
        rotate_left 1
        · intro u hu
          go_simp
          first | done | with_reducible rfl
        go_simp
        refine wpAnyH_take (i := 39) (v := ?_) rfl (by kernel_rfl) (by kernel_rfl) (by kernel_rfl) (fun _ _ _ h => h) (Or.inl ⟨by rfl, ?_⟩) b0 ?_
        rotate_left 1
        · intro u hu
          go_simp
          first | done | with_reducible rfl
        go_simp
        refine wpAnyH_take (i := 40) (v := ?_) rfl (by kernel_rfl) (by kernel_rfl) (by kernel_rfl) (fun _ _ _ h => h) (Or.inl ⟨by rfl, ?_⟩) b0 ?_
        rotate_left 1
        · intro u hu
          go_simp
          first | done | with_reducible rfl
        go_simp
        refine wpAnyH_take (i := 41) (v := ?_) rfl (by kernel_rfl) (by kernel_rfl) (by kernel_rfl) (fun _ _ _ h => h) (Or.inl ⟨by rfl, ?_⟩) b0 ?_
        rotate_left 1
        · intro u hu
          go_simp
          first | done | with_reducible rfl
        go_simp
        refine wpAnyH_take (i := 42) (v := ?_) rfl (by kernel_rfl) (by kernel_rfl) (by kernel_rfl) (fun _ _ _ h => h) (Or.inl ⟨by rfl, ?_⟩) b0 ?_
        rotate_left 1
        · intro u hu
          have hcz2 := HCW.out u hu; go_simp
          first | done | with_reducible rfl
        go_simp
        refine wpAnyH_take (i := 43) (v := ?_) rfl (by kernel_rfl) (by kernel_rfl) (by kernel_rfl) (fun _ _ _ h => h) (Or.inl ⟨by rfl, ?_⟩) b0 ?_
        rotate_left 1
        · intro u hu
          go_simp
          first | done | with_reducible rfl
        go_simp
        refine wpAnyH_threeG 15 29 46 (by kernel_rfl) rfl (by rfl) rfl (by rfl) rfl (by rfl) ?_ ?_ ?_
        · as_aux_lemma =>
            go_wp2_with fail
            (with_reducible refine (HGA.out _).mono ?_)
            rintro e1 w1 ⟨D3, n3, c3, rfl, o, cc⟩
            have O3 := Lib.hid (o.base b0.size)
            have b1 := b0.trans (cc.mono b0.size)
            refine ⟨b1, ?_⟩
            clear o cc
            go_simp
            refine wpAnyH_take (i := 16) (v := ?_) rfl (by kernel_rfl) (by kernel_rfl) (by kernel_rfl) (fun _ _ _ h => h) (Or.inl ⟨by rfl, ?_⟩) b1 ?_
            rotate_left 1
            · intro u hu
              go_simp
              first | done | with_reducible rfl
            go_simp
            refine wpAnyH_threeG 22 29 46 (by kernel_rfl) rfl (by rfl) rfl (by rfl) rfl (by rfl) ?_ ?_ ?_
            · as_aux_lemma =>
                go_wp2_with fail
                (with_reducible refine (HGB.out _).mono ?_)
                rintro e2 w2 ⟨D4, n4, c4, rfl, o, cc⟩
                have O4 := Lib.hid (o.base b1.size)
                have b2 := b1.trans (cc.mono b1.size)
                replace O3 := Lib.hid (O3.out.below cc)
                refine ⟨b2, ?_⟩
                clear o cc
                go_simp
                refine wpAnyH_take (i := 23) (v := ?_) rfl (by kernel_rfl) (by kernel_rfl) (by kernel_rfl) (fun _ _ _ h => h) (Or.inl ⟨by rfl, ?_⟩) b2 ?_
                rotate_left 1
                · intro u hu
                  go_simp
                  first | done | with_reducible rfl
                go_simp
                refine wpAnyH_threeG 29 34 46 (by kernel_rfl) rfl (by rfl) rfl (by rfl) rfl (by rfl) ?_ ?_ ?_
                · as_aux_lemma =>
                    refine wp_pair (.tmp 63) rfl h2 q w0.heap.size b2.size (by with_unfolding_all rfl) ?_
                    intro Ar cr w3 R5 dd
                    have b3 := b2.trans (dd.out.mono b2.size)
                    replace O3 := Lib.hid (O3.out.below dd.out)
                    replace O4 := Lib.hid (O4.out.below dd.out)
                    refine ⟨b3, ?_⟩
                    clear dd
                    go_simp
                    refine wpAnyH_take (i := 30) (v := ?_) rfl (by kernel_rfl) (by kernel_rfl) (by kernel_rfl) (fun _ _ _ h => h) (Or.inl ⟨by rfl, ?_⟩) b3 ?_
                    rotate_left 1
                    · intro u hu
                      go_simp
                      first | done | with_reducible rfl
                    go_simp
                    refine wpAnyH_twoG 34 46 (by kernel_rfl) rfl (by rfl) rfl (by rfl) ?_ ?_
                    · as_aux_lemma =>
                        go_wp2_with fail
                        (with_reducible refine (HGC.out _).mono ?_)
                        rintro e4 w4 ⟨D6, n6, c6, rfl, o, cc⟩
                        have O6 := Lib.hid (o.base b3.size)
                        have b4 := b3.trans (cc.mono b3.size)
                        replace O3 := Lib.hid (O3.out.below cc)
                        replace O4 := Lib.hid (O4.out.below cc)
                        replace R5 := Lib.hid (R5.out.below cc)
                        refine ⟨b4, ?_⟩
                        clear o cc
                        go_simp
                        refine wpAnyH_take (i := 35) (v := ?_) rfl (by kernel_rfl) (by kernel_rfl) (by kernel_rfl) (fun _ _ _ h => h) (Or.inl ⟨by rfl, ?_⟩) b4 ?_
                        rotate_left 1
                        · intro u hu
                          go_simp
                          first | done | with_reducible rfl
                        go_simp
                        refine wpAnyH_twoG 38 46 (by kernel_rfl) rfl (by rfl) rfl (by rfl) ?_ ?_
                        · as_aux_lemma =>
                            refine wp_eight (.tmp 35) (.tmp 37) (.tmp 39) (.tmp 51) (.tmp 58) (.tmp 65) (.tmp 70) (.tmp 72) rfl q (jP D3 n3 c3 D4 n4 c4 D6 n6 c6 Ar cr) (by with_unfolding_all rfl) (by with_unfolding_all rfl) (by with_unfolding_all rfl) (by rw [HJ3.out]; with_unfolding_all rfl) (by rw [HJ4.out]; with_unfolding_all rfl) (by rw [HJ5.out]; with_unfolding_all rfl) (by rw [HJ6.out]; with_unfolding_all rfl) (by with_unfolding_all rfl) ?_
                            intro g8 w5 R8 L8 dd
                            have b5 := b4.trans (dd.out.mono b4.size)
                            replace O3 := Lib.hid (O3.out.below dd.out)
                            replace O4 := Lib.hid (O4.out.below dd.out)
                            replace R5 := Lib.hid (R5.out.below dd.out)
                            replace O6 := Lib.hid (O6.out.below dd.out)
                            refine ⟨b5, ?_⟩
                            clear dd
                            go_simp
                            refine wpAnyH_take (i := 44) (v := ?_) rfl (by kernel_rfl) (by kernel_rfl) (by kernel_rfl) (fun _ _ _ h => h) (Or.inl ⟨by rfl, ?_⟩) b5 ?_
                            rotate_left 1
                            · intro u hu
                              go_simp
                              first | done | with_reducible rfl
                            go_simp
                            refine wpAnyH_twoG 45 46 (by kernel_rfl) rfl (by rfl) rfl (by rfl) ?_ ?_
                            · as_aux_lemma =>
                                obtain ⟨p8, hp8⟩ : ∃ p, (jP D3 n3 c3 D4 n4 c4 D6 n6 c6 Ar cr) k8 = p := ⟨_, rfl⟩
                                have HP8 := Lib.hid hp8
                                have HR8 := Lib.hid (R8.out k8 hk8b)
                                rw [hp8] at HR8
                                obtain ⟨vs, hvs⟩ : ∃ vs, frV (jK k8 q) p8 = vs := ⟨_, rfl⟩
                                have HVS := Lib.hid hvs
                                refine wp_load_at (.tmp 79) rfl g8 (k8 * 10) (by with_unfolding_all rfl) (jK k8 q) p8 HR8.out ?_
                                rw [hvs]
                                clear hvs hp8 HR8 R8 L8
                                refine ⟨b5, ?_⟩
                                go_simp
                                refine wpAnyH_oneG 46 (by kernel_rfl) rfl (by rfl) ?_
                                refine wp_alloc_fr rfl ?_
                                intro gv w6 eg ZV dd
                                have HGV : Hid (w0.heap.size ≤ gv) := show _ ≤ _ by rw [eg.out]; exact b5.size
                                have b6 := b5.trans (dd.out.mono b5.size)
                                replace O3 := Lib.hid (O3.out.below dd.out)
                                replace O4 := Lib.hid (O4.out.below dd.out)
                                replace R5 := Lib.hid (R5.out.below dd.out)
                                replace O6 := Lib.hid (O6.out.below dd.out)
                                refine ⟨b6, ?_⟩
                                clear dd eg
                                go_simp
                                refine wpAnyH_oneG 47 (by kernel_rfl) rfl (by rfl) ?_
                                have HFO := Lib.hid (HOW.out D3 n3 c3 D4 n4 c4 D6 n6 c6 Ar cr _ _ O3.out O4.out O6.out R5.out)
                                rw [HP8.out] at HFO
                                refine wp_store_fr (.tmp 7) (.tmp 80) rfl gv (jK k8 q) p8 (by with_unfolding_all rfl) (by rw [HVS.out]; with_unfolding_all rfl) ZV.out ?_
                                intro w7 MV OV
                                have b7 := b6.trans (OV.out.below b6.size HGV.out)
                                refine ⟨b7, ?_⟩
                                go_simp
                                refine wpAnyH_done (by kernel_rfl) ?_ _
                                go_wp2_with fail
                                go_meet
                                exact ⟨gv, p8, rfl, by rw [← HZw.out]; exact HGV.out, by rw [← HP8.out]; exact jP_nil _ _ _ _ _ _ _ _ _ _ _ _, MV, by rw [← HZw.out]; exact HFO.out.var ZV.out OV.out, HU.out _ b7⟩
                            · as_aux_lemma =>
                                refine wp_alloc_fr rfl ?_
                                intro gv w6 eg ZV dd
                                have HGV : Hid (w0.heap.size ≤ gv) := show _ ≤ _ by rw [eg.out]; exact b5.size
                                have b6 := b5.trans (dd.out.mono b5.size)
                                replace O3 := Lib.hid (O3.out.below dd.out)
                                replace O4 := Lib.hid (O4.out.below dd.out)
                                replace R5 := Lib.hid (R5.out.below dd.out)
                                replace O6 := Lib.hid (O6.out.below dd.out)
                                replace R8 := Lib.hid fun k hk => range_belowJ (R8.out k hk) L8.out dd.out
                                replace L8 := Lib.hid (Nat.lt_of_lt_of_le L8.out (Below.size dd.out))
                                refine ⟨b6, ?_⟩
                                clear dd eg
                                go_simp
                                refine wpAnyH_oneG 45 (by kernel_rfl) rfl (by rfl) ?_
                                obtain ⟨p8, hp8⟩ : ∃ p, (jP D3 n3 c3 D4 n4 c4 D6 n6 c6 Ar cr) k8 = p := ⟨_, rfl⟩
                                have HP8 := Lib.hid hp8
                                have HR8 := Lib.hid (R8.out k8 hk8b)
                                rw [hp8] at HR8
                                obtain ⟨vs, hvs⟩ : ∃ vs, frV (jK k8 q) p8 = vs := ⟨_, rfl⟩
                                have HVS := Lib.hid hvs
                                refine wp_load_at (.tmp 79) rfl g8 (k8 * 10) (by with_unfolding_all rfl) (jK k8 q) p8 HR8.out ?_
                                rw [hvs]
                                clear hvs hp8 HR8 R8 L8
                                refine ⟨b6, ?_⟩
                                go_simp
                                refine wpAnyH_oneG 47 (by kernel_rfl) rfl (by rfl) ?_
                                have HFO := Lib.hid (HOW.out D3 n3 c3 D4 n4 c4 D6 n6 c6 Ar cr _ _ O3.out O4.out O6.out R5.out)
                                rw [HP8.out] at HFO
                                refine wp_store_fr (.tmp 7) (.tmp 80) rfl gv (jK k8 q) p8 (by with_unfolding_all rfl) (by rw [HVS.out]; with_unfolding_all rfl) ZV.out ?_
                                intro w7 MV OV
                                have b7 := b6.trans (OV.out.below b6.size HGV.out)
                                refine ⟨b7, ?_⟩
                                go_simp
                                refine wpAnyH_done (by kernel_rfl) ?_ _
                                go_wp2_with fail
                                go_meet
                                exact ⟨gv, p8, rfl, by rw [← HZw.out]; exact HGV.out, by rw [← HP8.out]; exact jP_nil _ _ _ _ _ _ _ _ _ _ _ _, MV, by rw [← HZw.out]; exact HFO.out.var ZV.out OV.out, HU.out _ b7⟩
                        · as_aux_lemma =>
                            refine wp_alloc_fr rfl ?_
                            intro gv w5 eg ZV dd
                            have HGV : Hid (w0.heap.size ≤ gv) := show _ ≤ _ by rw [eg.out]; exact b4.size
                            have b5 := b4.trans (dd.out.mono b4.size)
                            replace O3 := Lib.hid (O3.out.below dd.out)
                            replace O4 := Lib.hid (O4.out.below dd.out)
                            replace R5 := Lib.hid (R5.out.below dd.out)
                            replace O6 := Lib.hid (O6.out.below dd.out)
                            refine ⟨b5, ?_⟩
                            clear dd eg
                            go_simp
                            refine wpAnyH_oneG 38 (by kernel_rfl) rfl (by rfl) ?_
                            refine wp_eight (.tmp 35) (.tmp 37) (.tmp 39) (.tmp 51) (.tmp 58) (.tmp 65) (.tmp 70) (.tmp 72) rfl q (jP D3 n3 c3 D4 n4 c4 D6 n6 c6 Ar cr) (by with_unfolding_all rfl) (by with_unfolding_all rfl) (by with_unfolding_all rfl) (by rw [HJ3.out]; with_unfolding_all rfl) (by rw [HJ4.out]; with_unfolding_all rfl) (by rw [HJ5.out]; with_unfolding_all rfl) (by rw [HJ6.out]; with_unfolding_all rfl) (by with_unfolding_all rfl) ?_
                            intro g8 w6 R8 L8 dd
                            have b6 := b5.trans (dd.out.mono b5.size)
                            replace O3 := Lib.hid (O3.out.below dd.out)
                            replace O4 := Lib.hid (O4.out.below dd.out)
                            replace R5 := Lib.hid (R5.out.below dd.out)
                            replace O6 := Lib.hid (O6.out.below dd.out)
                            replace ZV := Lib.hid (ZV.out.below dd.out)
                            refine ⟨b6, ?_⟩
                            clear dd
                            go_simp
                            refine wpAnyH_take (i := 44) (v := ?_) rfl (by kernel_rfl) (by kernel_rfl) (by kernel_rfl) (fun _ _ _ h => h) (Or.inl ⟨by rfl, ?_⟩) b6 ?_
                            rotate_left 1
                            · intro u hu
                              go_simp
                              first | done | with_reducible rfl
                            go_simp
                            refine wpAnyH_oneG 45 (by kernel_rfl) rfl (by rfl) ?_
                            obtain ⟨p8, hp8⟩ : ∃ p, (jP D3 n3 c3 D4 n4 c4 D6 n6 c6 Ar cr) k8 = p := ⟨_, rfl⟩
                            have HP8 := Lib.hid hp8
                            have HR8 := Lib.hid (R8.out k8 hk8b)
                            rw [hp8] at HR8
                            obtain ⟨vs, hvs⟩ : ∃ vs, frV (jK k8 q) p8 = vs := ⟨_, rfl⟩
                            have HVS := Lib.hid hvs
                            refine wp_load_at (.tmp 79) rfl g8 (k8 * 10) (by with_unfolding_all rfl) (jK k8 q) p8 HR8.out ?_
                            rw [hvs]
                            clear hvs hp8 HR8 R8 L8
                            refine ⟨b6, ?_⟩
                            go_simp
                            refine wpAnyH_oneG 47 (by kernel_rfl) rfl (by rfl) ?_
                            have HFO := Lib.hid (HOW.out D3 n3 c3 D4 n4 c4 D6 n6 c6 Ar cr _ _ O3.out O4.out O6.out R5.out)
                            rw [HP8.out] at HFO
                            refine wp_store_fr (.tmp 7) (.tmp 80) rfl gv (jK k8 q) p8 (by with_unfolding_all rfl) (by rw [HVS.out]; with_unfolding_all rfl) ZV.out ?_
                            intro w7 MV OV
                            have b7 := b6.trans (OV.out.below b6.size HGV.out)
                            refine ⟨b7, ?_⟩
                            go_simp
                            refine wpAnyH_done (by kernel_rfl) ?_ _
                            go_wp2_with fail
                            go_meet
                            exact ⟨gv, p8, rfl, by rw [← HZw.out]; exact HGV.out, by rw [← HP8.out]; exact jP_nil _ _ _ _ _ _ _ _ _ _ _ _, MV, by rw [← HZw.out]; exact HFO.out.var ZV.out OV.out, HU.out _ b7⟩
                    · as_aux_lemma =>
                        refine wp_alloc_fr rfl ?_
                        intro gv w4 eg ZV dd
                        have HGV : Hid (w0.heap.size ≤ gv) := show _ ≤ _ by rw [eg.out]; exact b3.size
                        have b4 := b3.trans (dd.out.mono b3.size)
                        replace O3 := Lib.hid (O3.out.below dd.out)
                        replace O4 := Lib.hid (O4.out.below dd.out)
                        replace R5 := Lib.hid (R5.out.below dd.out)
                        refine ⟨b4, ?_⟩
                        clear dd eg
                        go_simp
                        refine wpAnyH_oneG 34 (by kernel_rfl) rfl (by rfl) ?_
                        go_wp2_with fail
                        (with_reducible refine (HGC.out _).mono ?_)
                        rintro e5 w5 ⟨D6, n6, c6, rfl, o, cc⟩
                        have O6 := Lib.hid (o.base b4.size)
                        have b5 := b4.trans (cc.mono b4.size)
                        replace O3 := Lib.hid (O3.out.below cc)
                        replace O4 := Lib.hid (O4.out.below cc)
                        replace R5 := Lib.hid (R5.out.below cc)
                        replace ZV := Lib.hid (ZV.out.below cc)
                        refine ⟨b5, ?_⟩
                        clear o cc
                        go_simp
                        refine wpAnyH_take (i := 35) (v := ?_) rfl (by kernel_rfl) (by kernel_rfl) (by kernel_rfl) (fun _ _ _ h => h) (Or.inl ⟨by rfl, ?_⟩) b5 ?_
                        rotate_left 1
                        · intro u hu
                          go_simp
                          first | done | with_reducible rfl
                        go_simp
                        refine wpAnyH_oneG 38 (by kernel_rfl) rfl (by rfl) ?_
                        refine wp_eight (.tmp 35) (.tmp 37) (.tmp 39) (.tmp 51) (.tmp 58) (.tmp 65) (.tmp 70) (.tmp 72) rfl q (jP D3 n3 c3 D4 n4 c4 D6 n6 c6 Ar cr) (by with_unfolding_all rfl) (by with_unfolding_all rfl) (by with_unfolding_all rfl) (by rw [HJ3.out]; with_unfolding_all rfl) (by rw [HJ4.out]; with_unfolding_all rfl) (by rw [HJ5.out]; with_unfolding_all rfl) (by rw [HJ6.out]; with_unfolding_all rfl) (by with_unfolding_all rfl) ?_
                        intro g8 w6 R8 L8 dd
                        have b6 := b5.trans (dd.out.mono b5.size)
                        replace O3 := Lib.hid (O3.out.below dd.out)
                        replace O4 := Lib.hid (O4.out.below dd.out)
                        replace R5 := Lib.hid (R5.out.below dd.out)
                        replace ZV := Lib.hid (ZV.out.below dd.out)
                        replace O6 := Lib.hid (O6.out.below dd.out)
                        refine ⟨b6, ?_⟩
                        clear dd
                        go_simp
                        refine wpAnyH_take (i := 44) (v := ?_) rfl (by kernel_rfl) (by kernel_rfl) (by kernel_rfl) (fun _ _ _ h => h) (Or.inl ⟨by rfl, ?_⟩) b6 ?_
                        rotate_left 1
                        · intro u hu
                          go_simp
                          first | done | with_reducible rfl
                        go_simp
                        refine wpAnyH_oneG 45 (by kernel_rfl) rfl (by rfl) ?_
                        obtain ⟨p8, hp8⟩ : ∃ p, (jP D3 n3 c3 D4 n4 c4 D6 n6 c6 Ar cr) k8 = p := ⟨_, rfl⟩
                        have HP8 := Lib.hid hp8
                        have HR8 := Lib.hid (R8.out k8 hk8b)
                        rw [hp8] at HR8
                        obtain ⟨vs, hvs⟩ : ∃ vs, frV (jK k8 q) p8 = vs := ⟨_, rfl⟩
                        have HVS := Lib.hid hvs
                        refine wp_load_at (.tmp 79) rfl g8 (k8 * 10) (by with_unfolding_all rfl) (jK k8 q) p8 HR8.out ?_
                        rw [hvs]
                        clear hvs hp8 HR8 R8 L8
                        refine ⟨b6, ?_⟩
                        go_simp
                        refine wpAnyH_oneG 47 (by kernel_rfl) rfl (by rfl) ?_
                        have HFO := Lib.hid (HOW.out D3 n3 c3 D4 n4 c4 D6 n6 c6 Ar cr _ _ O3.out O4.out O6.out R5.out)
                        rw [HP8.out] at HFO
                        refine wp_store_fr (.tmp 7) (.tmp 80) rfl gv (jK k8 q) p8 (by with_unfolding_all rfl) (by rw [HVS.out]; with_unfolding_all rfl) ZV.out ?_
                        intro w7 MV OV
                        have b7 := b6.trans (OV.out.below b6.size HGV.out)
                        refine ⟨b7, ?_⟩
                        go_simp
                        refine wpAnyH_done (by kernel_rfl) ?_ _
                        go_wp2_with fail
                        go_meet
                        exact ⟨gv, p8, rfl, by rw [← HZw.out]; exact HGV.out, by rw [← HP8.out]; exact jP_nil _ _ _ _ _ _ _ _ _ _ _ _, MV, by rw [← HZw.out]; exact HFO.out.var ZV.out OV.out, HU.out _ b7⟩
                · as_aux_lemma =>
                    go_wp2_with fail
                    (with_reducible refine (HGC.out _).mono ?_)
                    rintro e3 w3 ⟨D6, n6, c6, rfl, o, cc⟩
                    have O6 := Lib.hid (o.base b2.size)
                    have b3 := b2.trans (cc.mono b2.size)
                    replace O3 := Lib.hid (O3.out.below cc)
                    replace O4 := Lib.hid (O4.out.below cc)
                    refine ⟨b3, ?_⟩
                    clear o cc
                    go_simp
                    refine wpAnyH_take (i := 35) (v := ?_) rfl (by kernel_rfl) (by kernel_rfl) (by kernel_rfl) (fun _ _ _ h => h) (Or.inl ⟨by rfl, ?_⟩) b3 ?_
                    rotate_left 1
                    · intro u hu
                      go_simp
                      first | done | with_reducible rfl
                    go_simp
                    refine wpAnyH_twoG 29 46 (by kernel_rfl) rfl (by rfl) rfl (by rfl) ?_ ?_
                    · as_aux_lemma =>
                        refine wp_pair (.tmp 63) rfl h2 q w0.heap.size b3.size (by with_unfolding_all rfl) ?_
                        intro Ar cr w4 R5 dd
                        have b4 := b3.trans (dd.out.mono b3.size)
                        replace O3 := Lib.hid (O3.out.below dd.out)
                        replace O4 := Lib.hid (O4.out.below dd.out)
                        replace O6 := Lib.hid (O6.out.below dd.out)
                        refine ⟨b4, ?_⟩
                        clear dd
                        go_simp
                        refine wpAnyH_take (i := 30) (v := ?_) rfl (by kernel_rfl) (by kernel_rfl) (by kernel_rfl) (fun _ _ _ h => h) (Or.inl ⟨by rfl, ?_⟩) b4 ?_
                        rotate_left 1
                        · intro u hu
                          go_simp
                          first | done | with_reducible rfl
                        go_simp
                        refine wpAnyH_twoG 38 46 (by kernel_rfl) rfl (by rfl) rfl (by rfl) ?_ ?_
                        · as_aux_lemma =>
                            refine wp_eight (.tmp 35) (.tmp 37) (.tmp 39) (.tmp 51) (.tmp 58) (.tmp 65) (.tmp 70) (.tmp 72) rfl q (jP D3 n3 c3 D4 n4 c4 D6 n6 c6 Ar cr) (by with_unfolding_all rfl) (by with_unfolding_all rfl) (by with_unfolding_all rfl) (by rw [HJ3.out]; with_unfolding_all rfl) (by rw [HJ4.out]; with_unfolding_all rfl) (by rw [HJ5.out]; with_unfolding_all rfl) (by rw [HJ6.out]; with_unfolding_all rfl) (by with_unfolding_all rfl) ?_
                            intro g8 w5 R8 L8 dd
                            have b5 := b4.trans (dd.out.mono b4.size)
                            replace O3 := Lib.hid (O3.out.below dd.out)
                            replace O4 := Lib.hid (O4.out.below dd.out)
                            replace O6 := Lib.hid (O6.out.below dd.out)
                            replace R5 := Lib.hid (R5.out.below dd.out)
                            refine ⟨b5, ?_⟩
                            clear dd
                            go_simp
                            refine wpAnyH_take (i := 44) (v := ?_) rfl (by kernel_rfl) (by kernel_rfl) (by kernel_rfl) (fun _ _ _ h => h) (Or.inl ⟨by rfl, ?_⟩) b5 ?_
                            rotate_left 1
                            · intro u hu
                              go_simp
                              first | done | with_reducible rfl
                            go_simp
                            refine wpAnyH_twoG 45 46 (by kernel_rfl) rfl (by rfl) rfl (by rfl) ?_ ?_
                            · as_aux_lemma =>
                                obtain ⟨p8, hp8⟩ : ∃ p, (jP D3 n3 c3 D4 n4 c4 D6 n6 c6 Ar cr) k8 = p := ⟨_, rfl⟩
                                have HP8 := Lib.hid hp8
                                have HR8 := Lib.hid (R8.out k8 hk8b)
                                rw [hp8] at HR8
                                obtain ⟨vs, hvs⟩ : ∃ vs, frV (jK k8 q) p8 = vs := ⟨_, rfl⟩
                                have HVS := Lib.hid hvs
                                refine wp_load_at (.tmp 79) rfl g8 (k8 * 10) (by with_unfolding_all rfl) (jK k8 q) p8 HR8.out ?_
                                rw [hvs]
                                clear hvs hp8 HR8 R8 L8
                                refine ⟨b5, ?_⟩
                                go_simp
                                refine wpAnyH_oneG 46 (by kernel_rfl) rfl (by rfl) ?_
                                refine wp_alloc_fr rfl ?_
                                intro gv w6 eg ZV dd
                                have HGV : Hid (w0.heap.size ≤ gv) := show _ ≤ _ by rw [eg.out]; exact b5.size
                                have b6 := b5.trans (dd.out.mono b5.size)
                                replace O3 := Lib.hid (O3.out.below dd.out)
                                replace O4 := Lib.hid (O4.out.below dd.out)
                                replace O6 := Lib.hid (O6.out.below dd.out)
                                replace R5 := Lib.hid (R5.out.below dd.out)
                                refine ⟨b6, ?_⟩
                                clear dd eg
                                go_simp
                                refine wpAnyH_oneG 47 (by kernel_rfl) rfl (by rfl) ?_
                                have HFO := Lib.hid (HOW.out D3 n3 c3 D4 n4 c4 D6 n6 c6 Ar cr _ _ O3.out O4.out O6.out R5.out)
                                rw [HP8.out] at HFO
                                refine wp_store_fr (.tmp 7) (.tmp 80) rfl gv (jK k8 q) p8 (by with_unfolding_all rfl) (by rw [HVS.out]; with_unfolding_all rfl) ZV.out ?_
                                intro w7 MV OV
                                have b7 := b6.trans (OV.out.below b6.size HGV.out)
                                refine ⟨b7, ?_⟩
                                go_simp
                                refine wpAnyH_done (by kernel_rfl) ?_ _
                                go_wp2_with fail
                                go_meet
                                exact ⟨gv, p8, rfl, by rw [← HZw.out]; exact HGV.out, by rw [← HP8.out]; exact jP_nil _ _ _ _ _ _ _ _ _ _ _ _, MV, by rw [← HZw.out]; exact HFO.out.var ZV.out OV.out, HU.out _ b7⟩
                            · as_aux_lemma =>
                                refine wp_alloc_fr rfl ?_
                                intro gv w6 eg ZV dd
                                have HGV : Hid (w0.heap.size ≤ gv) := show _ ≤ _ by rw [eg.out]; exact b5.size
                                have b6 := b5.trans (dd.out.mono b5.size)
                                replace O3 := Lib.hid (O3.out.below dd.out)
                                replace O4 := Lib.hid (O4.out.below dd.out)
                                replace O6 := Lib.hid (O6.out.below dd.out)
                                replace R5 := Lib.hid (R5.out.below dd.out)
                                replace R8 := Lib.hid fun k hk => range_belowJ (R8.out k hk) L8.out dd.out
                                replace L8 := Lib.hid (Nat.lt_of_lt_of_le L8.out (Below.size dd.out))
                                refine ⟨b6, ?_⟩
                                clear dd eg
                                go_simp
                                refine wpAnyH_oneG 45 (by kernel_rfl) rfl (by rfl) ?_
                                obtain ⟨p8, hp8⟩ : ∃ p, (jP D3 n3 c3 D4 n4 c4 D6 n6 c6 Ar cr) k8 = p := ⟨_, rfl⟩
                                have HP8 := Lib.hid hp8
                                have HR8 := Lib.hid (R8.out k8 hk8b)
                                rw [hp8] at HR8
                                obtain ⟨vs, hvs⟩ : ∃ vs, frV (jK k8 q) p8 = vs := ⟨_, rfl⟩
                                have HVS := Lib.hid hvs
                                refine wp_load_at (.tmp 79) rfl g8 (k8 * 10) (by with_unfolding_all rfl) (jK k8 q) p8 HR8.out ?_
                                rw [hvs]
                                clear hvs hp8 HR8 R8 L8
                                refine ⟨b6, ?_⟩
                                go_simp
                                refine wpAnyH_oneG 47 (by kernel_rfl) rfl (by rfl) ?_
                                have HFO := Lib.hid (HOW.out D3 n3 c3 D4 n4 c4 D6 n6 c6 Ar cr _ _ O3.out O4.out O6.out R5.out)
                                rw [HP8.out] at HFO
                                refine wp_store_fr (.tmp 7) (.tmp 80) rfl gv (jK k8 q) p8 (by with_unfolding_all rfl) (by rw [HVS.out]; with_unfolding_all rfl) ZV.out ?_
                                intro w7 MV OV
                                have b7 := b6.trans (OV.out.below b6.size HGV.out)
                                refine ⟨b7, ?_⟩
                                go_simp
                                refine wpAnyH_done (by kernel_rfl) ?_ _
                                go_wp2_with fail
                                go_meet
                                exact ⟨gv, p8, rfl, by rw [← HZw.out]; exact HGV.out, by rw [← HP8.out]; exact jP_nil _ _ _ _ _ _ _ _ _ _ _ _, MV, by rw [← HZw.out]; exact HFO.out.var ZV.out OV.out, HU.out _ b7⟩
                        · as_aux_lemma =>
                            refine wp_alloc_fr rfl ?_
                            intro gv w5 eg ZV dd
                            have HGV : Hid (w0.heap.size ≤ gv) := show _ ≤ _ by rw [eg.out]; exact b4.size
                            have b5 := b4.trans (dd.out.mono b4.size)
                            replace O3 := Lib.hid (O3.out.below dd.out)
                            replace O4 := Lib.hid (O4.out.below dd.out)
                            replace O6 := Lib.hid (O6.out.below dd.out)
                            replace R5 := Lib.hid (R5.out.below dd.out)
                            refine ⟨b5, ?_⟩
                            clear dd eg
                            go_simp
                            refine wpAnyH_oneG 38 (by kernel_rfl) rfl (by rfl) ?_
                            refine wp_eight (.tmp 35) (.tmp 37) (.tmp 39) (.tmp 51) (.tmp 58) (.tmp 65) (.tmp 70) (.tmp 72) rfl q (jP D3 n3 c3 D4 n4 c4 D6 n6 c6 Ar cr) (by with_unfolding_all rfl) (by with_unfolding_all rfl) (by with_unfolding_all rfl) (by rw [HJ3.out]; with_unfolding_all rfl) (by rw [HJ4.out]; with_unfolding_all rfl) (by rw [HJ5.out]; with_unfolding_all rfl) (by rw [HJ6.out]; with_unfolding_all rfl) (by with_unfolding_all rfl) ?_
                            intro g8 w6 R8 L8 dd
                            have b6 := b5.trans (dd.out.mono b5.size)
                            replace O3 := Lib.hid (O3.out.below dd.out)
                            replace O4 := Lib.hid (O4.out.below dd.out)
                            replace O6 := Lib.hid (O6.out.below dd.out)
                            replace R5 := Lib.hid (R5.out.below dd.out)
                            replace ZV := Lib.hid (ZV.out.below dd.out)
                            refine ⟨b6, ?_⟩
                            clear dd
                            go_simp
                            refine wpAnyH_take (i := 44) (v := ?_) rfl (by kernel_rfl) (by kernel_rfl) (by kernel_rfl) (fun _ _ _ h => h) (Or.inl ⟨by rfl, ?_⟩) b6 ?_
                            rotate_left 1
                            · intro u hu
                              go_simp
                              first | done | with_reducible rfl
                            go_simp
                            refine wpAnyH_oneG 45 (by kernel_rfl) rfl (by rfl) ?_
                            obtain ⟨p8, hp8⟩ : ∃ p, (jP D3 n3 c3 D4 n4 c4 D6 n6 c6 Ar cr) k8 = p := ⟨_, rfl⟩
                            have HP8 := Lib.hid hp8
                            have HR8 := Lib.hid (R8.out k8 hk8b)
                            rw [hp8] at HR8
                            obtain ⟨vs, hvs⟩ : ∃ vs, frV (jK k8 q) p8 = vs := ⟨_, rfl⟩
                            have HVS := Lib.hid hvs
                            refine wp_load_at (.tmp 79) rfl g8 (k8 * 10) (by with_unfolding_all rfl) (jK k8 q) p8 HR8.out ?_
                            rw [hvs]
                            clear hvs hp8 HR8 R8 L8
                            refine ⟨b6, ?_⟩
                            go_simp
                            refine wpAnyH_oneG 47 (by kernel_rfl) rfl (by rfl) ?_
                            have HFO := Lib.hid (HOW.out D3 n3 c3 D4 n4 c4 D6 n6 c6 Ar cr _ _ O3.out O4.out O6.out R5.out)
                            rw [HP8.out] at HFO
                            refine wp_store_fr (.tmp 7) (.tmp 80) rfl gv (jK k8 q) p8 (by with_unfolding_all rfl) (by rw [HVS.out]; with_unfolding_all rfl) ZV.out ?_
                            intro w7 MV OV
                            have b7 := b6.trans (OV.out.below b6.size HGV.out)
                            refine ⟨b7, ?_⟩
                            go_simp
                            refine wpAnyH_done (by kernel_rfl) ?_ _
                            go_wp2_with fail
                            go_meet
                            exact ⟨gv, p8, rfl, by rw [← HZw.out]; exact HGV.out, by rw [← HP8.out]; exact jP_nil _ _ _ _ _ _ _ _ _ _ _ _, MV, by rw [← HZw.out]; exact HFO.out.var ZV.out OV.out, HU.out _ b7⟩
                    · as_aux_lemma =>
                        refine wp_alloc_fr rfl ?_
                        intro gv w4 eg ZV dd
                        have HGV : Hid (w0.heap.size ≤ gv) := show _ ≤ _ by rw [eg.out]; exact b3.size
                        have b4 := b3.trans (dd.out.mono b3.size)
                        replace O3 := Lib.hid (O3.out.below dd.out)
                        replace O4 := Lib.hid (O4.out.below dd.out)
                        replace O6 := Lib.hid (O6.out.below dd.out)
                        refine ⟨b4, ?_⟩
                        clear dd eg
                        go_simp
                        refine wpAnyH_oneG 29 (by kernel_rfl) rfl (by rfl) ?_
                        refine wp_pair (.tmp 63) rfl h2 q w0.heap.size b4.size (by with_unfolding_all rfl) ?_
                        intro Ar cr w5 R5 dd
                        have b5 := b4.trans (dd.out.mono b4.size)
                        replace O3 := Lib.hid (O3.out.below dd.out)
                        replace O4 := Lib.hid (O4.out.below dd.out)
                        replace O6 := Lib.hid (O6.out.below dd.out)
                        replace ZV := Lib.hid (ZV.out.below dd.out)
                        refine ⟨b5, ?_⟩
                        clear dd
                        go_simp
                        refine wpAnyH_take (i := 30) (v := ?_) rfl (by kernel_rfl) (by kernel_rfl) (by kernel_rfl) (fun _ _ _ h => h) (Or.inl ⟨by rfl, ?_⟩) b5 ?_
                        rotate_left 1
                        · intro u hu
                          go_simp
                          first | done | with_reducible rfl
                        go_simp
                        refine wpAnyH_oneG 38 (by kernel_rfl) rfl (by rfl) ?_
                        refine wp_eight (.tmp 35) (.tmp 37) (.tmp 39) (.tmp 51) (.tmp 58) (.tmp 65) (.tmp 70) (.tmp 72) rfl q (jP D3 n3 c3 D4 n4 c4 D6 n6 c6 Ar cr) (by with_unfolding_all rfl) (by with_unfolding_all rfl) (by with_unfolding_all rfl) (by rw [HJ3.out]; with_unfolding_all rfl) (by rw [HJ4.out]; with_unfolding_all rfl) (by rw [HJ5.out]; with_unfolding_all rfl) (by rw [HJ6.out]; with_unfolding_all rfl) (by with_unfolding_all rfl) ?_
                        intro g8 w6 R8 L8 dd
                        have b6 := b5.trans (dd.out.mono b5.size)
                        replace O3 := Lib.hid (O3.out.below dd.out)
                        replace O4 := Lib.hid (O4.out.below dd.out)
                        replace O6 := Lib.hid (O6.out.below dd.out)
                        replace ZV := Lib.hid (ZV.out.below dd.out)
                        replace R5 := Lib.hid (R5.out.below dd.out)
                        refine ⟨b6, ?_⟩
                        clear dd
                        go_simp
                        refine wpAnyH_take (i := 44) (v := ?_) rfl (by kernel_rfl) (by kernel_rfl) (by kernel_rfl) (fun _ _ _ h => h) (Or.inl ⟨by rfl, ?_⟩) b6 ?_
                        rotate_left 1
                        · intro u hu
                          go_simp
                          first | done | with_reducible rfl
                        go_simp
                        refine wpAnyH_oneG 45 (by kernel_rfl) rfl (by rfl) ?_
                        obtain ⟨p8, hp8⟩ : ∃ p, (jP D3 n3 c3 D4 n4 c4 D6 n6 c6 Ar cr) k8 = p := ⟨_, rfl⟩
                        have HP8 := Lib.hid hp8
                        have HR8 := Lib.hid (R8.out k8 hk8b)
                        rw [hp8] at HR8
                        obtain ⟨vs, hvs⟩ : ∃ vs, frV (jK k8 q) p8 = vs := ⟨_, rfl⟩
                        have HVS := Lib.hid hvs
                        refine wp_load_at (.tmp 79) rfl g8 (k8 * 10) (by with_unfolding_all rfl) (jK k8 q) p8 HR8.out ?_
                        rw [hvs]
                        clear hvs hp8 HR8 R8 L8
                        refine ⟨b6, ?_⟩
                        go_simp
                        refine wpAnyH_oneG 47 (by kernel_rfl) rfl (by rfl) ?_
                        have HFO := Lib.hid (HOW.out D3 n3 c3 D4 n4 c4 D6 n6 c6 Ar cr _ _ O3.out O4.out O6.out R5.out)
                        rw [HP8.out] at HFO
                        refine wp_store_fr (.tmp 7) (.tmp 80) rfl gv (jK k8 q) p8 (by with_unfolding_all rfl) (by rw [HVS.out]; with_unfolding_all rfl) ZV.out ?_
                        intro w7 MV OV
                        have b7 := b6.trans (OV.out.below b6.size HGV.out)
                        refine ⟨b7, ?_⟩
                        go_simp
                        refine wpAnyH_done (by kernel_rfl) ?_ _
                        go_wp2_with fail
                        go_meet
                        exact ⟨gv, p8, rfl, by rw [← HZw.out]; exact HGV.out, by rw [← HP8.out]; exact jP_nil _ _ _ _ _ _ _ _ _ _ _ _, MV, by rw [← HZw.out]; exact HFO.out.var ZV.out OV.out, HU.out _ b7⟩
                · as_aux_lemma =>
                    refine wp_alloc_fr rfl ?_
                    intro gv w3 eg ZV dd
                    have HGV : Hid (w0.heap.size ≤ gv) := show _ ≤ _ by rw [eg.out]; exact b2.size
                    have b3 := b2.trans (dd.out.mono b2.size)
                    replace O3 := Lib.hid (O3.out.below dd.out)
                    replace O4 := Lib.hid (O4.out.below dd.out)
                    refine ⟨b3, ?_⟩
                    clear dd eg
                    go_simp
                    refine wpAnyH_twoG 29 34 (by kernel_rfl) rfl (by rfl) rfl (by rfl) ?_ ?_
                    · as_aux_lemma =>
                        refine wp_pair (.tmp 63) rfl h2 q w0.heap.size b3.size (by with_unfolding_all rfl) ?_
                        intro Ar cr w4 R5 dd
                        have b4 := b3.trans (dd.out.mono b3.size)
                        replace O3 := Lib.hid (O3.out.below dd.out)
                        replace O4 := Lib.hid (O4.out.below dd.out)
                        replace ZV := Lib.hid (ZV.out.below dd.out)
                        refine ⟨b4, ?_⟩
                        clear dd
                        go_simp
                        refine wpAnyH_take (i := 30) (v := ?_) rfl (by kernel_rfl) (by kernel_rfl) (by kernel_rfl) (fun _ _ _ h => h) (Or.inl ⟨by rfl, ?_⟩) b4 ?_
                        rotate_left 1
                        · intro u hu
                          go_simp
                          first | done | with_reducible rfl
                        go_simp
                        refine wpAnyH_oneG 34 (by kernel_rfl) rfl (by rfl) ?_
                        go_wp2_with fail
                        (with_reducible refine (HGC.out _).mono ?_)
                        rintro e5 w5 ⟨D6, n6, c6, rfl, o, cc⟩
                        have O6 := Lib.hid (o.base b4.size)
                        have b5 := b4.trans (cc.mono b4.size)
                        replace O3 := Lib.hid (O3.out.below cc)
                        replace O4 := Lib.hid (O4.out.below cc)
                        replace ZV := Lib.hid (ZV.out.below cc)
                        replace R5 := Lib.hid (R5.out.below cc)
                        refine ⟨b5, ?_⟩
                        clear o cc
                        go_simp
                        refine wpAnyH_take (i := 35) (v := ?_) rfl (by kernel_rfl) (by kernel_rfl) (by kernel_rfl) (fun _ _ _ h => h) (Or.inl ⟨by rfl, ?_⟩) b5 ?_
                        rotate_left 1
                        · intro u hu
                          go_simp
                          first | done | with_reducible rfl
                        go_simp
                        refine wpAnyH_oneG 38 (by kernel_rfl) rfl (by rfl) ?_
                        refine wp_eight (.tmp 35) (.tmp 37) (.tmp 39) (.tmp 51) (.tmp 58) (.tmp 65) (.tmp 70) (.tmp 72) rfl q (jP D3 n3 c3 D4 n4 c4 D6 n6 c6 Ar cr) (by with_unfolding_all rfl) (by with_unfolding_all rfl) (by with_unfolding_all rfl) (by rw [HJ3.out]; with_unfolding_all rfl) (by rw [HJ4.out]; with_unfolding_all rfl) (by rw [HJ5.out]; with_unfolding_all rfl) (by rw [HJ6.out]; with_unfolding_all rfl) (by with_unfolding_all rfl) ?_
                        intro g8 w6 R8 L8 dd
                        have b6 := b5.trans (dd.out.mono b5.size)
                        replace O3 := Lib.hid (O3.out.below dd.out)
                        replace O4 := Lib.hid (O4.out.below dd.out)
                        replace ZV := Lib.hid (ZV.out.below dd.out)
                        replace R5 := Lib.hid (R5.out.below dd.out)
                        replace O6 := Lib.hid (O6.out.below dd.out)
                        refine ⟨b6, ?_⟩
                        clear dd
                        go_simp
                        refine wpAnyH_take (i := 44) (v := ?_) rfl (by kernel_rfl) (by kernel_rfl) (by kernel_rfl) (fun _ _ _ h => h) (Or.inl ⟨by rfl, ?_⟩) b6 ?_
                        rotate_left 1
                        · intro u hu
                          go_simp
                          first | done | with_reducible rfl
                        go_simp
                        refine wpAnyH_oneG 45 (by kernel_rfl) rfl (by rfl) ?_
                        obtain ⟨p8, hp8⟩ : ∃ p, (jP D3 n3 c3 D4 n4 c4 D6 n6 c6 Ar cr) k8 = p := ⟨_, rfl⟩
                        have HP8 := Lib.hid hp8
                        have HR8 := Lib.hid (R8.out k8 hk8b)
                        rw [hp8] at HR8
                        obtain ⟨vs, hvs⟩ : ∃ vs, frV (jK k8 q) p8 = vs := ⟨_, rfl⟩
                        have HVS := Lib.hid hvs
                        refine wp_load_at (.tmp 79) rfl g8 (k8 * 10) (by with_unfolding_all rfl) (jK k8 q) p8 HR8.out ?_
                        rw [hvs]
                        clear hvs hp8 HR8 R8 L8
                        refine ⟨b6, ?_⟩
                        go_simp
                        refine wpAnyH_oneG 47 (by kernel_rfl) rfl (by rfl) ?_
                        have HFO := Lib.hid (HOW.out D3 n3 c3 D4 n4 c4 D6 n6 c6 Ar cr _ _ O3.out O4.out O6.out R5.out)
                        rw [HP8.out] at HFO
                        refine wp_store_fr (.tmp 7) (.tmp 80) rfl gv (jK k8 q) p8 (by with_unfolding_all rfl) (by rw [HVS.out]; with_unfolding_all rfl) ZV.out ?_
                        intro w7 MV OV
                        have b7 := b6.trans (OV.out.below b6.size HGV.out)
                        refine ⟨b7, ?_⟩
                        go_simp
                        refine wpAnyH_done (by kernel_rfl) ?_ _
                        go_wp2_with fail
                        go_meet
                        exact ⟨gv, p8, rfl, by rw [← HZw.out]; exact HGV.out, by rw [← HP8.out]; exact jP_nil _ _ _ _ _ _ _ _ _ _ _ _, MV, by rw [← HZw.out]; exact HFO.out.var ZV.out OV.out, HU.out _ b7⟩
                    · as_aux_lemma =>
                        go_wp2_with fail
                        (with_reducible refine (HGC.out _).mono ?_)
                        rintro e4 w4 ⟨D6, n6, c6, rfl, o, cc⟩
                        have O6 := Lib.hid (o.base b3.size)
                        have b4 := b3.trans (cc.mono b3.size)
                        replace O3 := Lib.hid (O3.out.below cc)
                        replace O4 := Lib.hid (O4.out.below cc)
                        replace ZV := Lib.hid (ZV.out.below cc)
                        refine ⟨b4, ?_⟩
                        clear o cc
                        go_simp
                        refine wpAnyH_take (i := 35) (v := ?_) rfl (by kernel_rfl) (by kernel_rfl) (by kernel_rfl) (fun _ _ _ h => h) (Or.inl ⟨by rfl, ?_⟩) b4 ?_
                        rotate_left 1
                        · intro u hu
                          go_simp
                          first | done | with_reducible rfl
                        go_simp
                        refine wpAnyH_oneG 29 (by kernel_rfl) rfl (by rfl) ?_
                        refine wp_pair (.tmp 63) rfl h2 q w0.heap.size b4.size (by with_unfolding_all rfl) ?_
                        intro Ar cr w5 R5 dd
                        have b5 := b4.trans (dd.out.mono b4.size)
                        replace O3 := Lib.hid (O3.out.below dd.out)
                        replace O4 := Lib.hid (O4.out.below dd.out)
                        replace ZV := Lib.hid (ZV.out.below dd.out)
                        replace O6 := Lib.hid (O6.out.below dd.out)
                        refine ⟨b5, ?_⟩
                        clear dd
                        go_simp
                        refine wpAnyH_take (i := 30) (v := ?_) rfl (by kernel_rfl) (by kernel_rfl) (by kernel_rfl) (fun _ _ _ h => h) (Or.inl ⟨by rfl, ?_⟩) b5 ?_
                        rotate_left 1
                        · intro u hu
                          go_simp
                          first | done | with_reducible rfl
                        go_simp
                        refine wpAnyH_oneG 38 (by kernel_rfl) rfl (by rfl) ?_
                        refine wp_eight (.tmp 35) (.tmp 37) (.tmp 39) (.tmp 51) (.tmp 58) (.tmp 65) (.tmp 70) (.tmp 72) rfl q (jP D3 n3 c3 D4 n4 c4 D6 n6 c6 Ar cr) (by with_unfolding_all rfl) (by with_unfolding_all rfl) (by with_unfolding_all rfl) (by rw [HJ3.out]; with_unfolding_all rfl) (by rw [HJ4.out]; with_unfolding_all rfl) (by rw [HJ5.out]; with_unfolding_all rfl) (by rw [HJ6.out]; with_unfolding_all rfl) (by with_unfolding_all rfl) ?_
                        intro g8 w6 R8 L8 dd
                        have b6 := b5.trans (dd.out.mono b5.size)
                        replace O3 := Lib.hid (O3.out.below dd.out)
                        replace O4 := Lib.hid (O4.out.below dd.out)
                        replace ZV := Lib.hid (ZV.out.below dd.out)
                        replace O6 := Lib.hid (O6.out.below dd.out)
                        replace R5 := Lib.hid (R5.out.below dd.out)
                        refine ⟨b6, ?_⟩
                        clear dd
                        go_simp
                        refine wpAnyH_take (i := 44) (v := ?_) rfl (by kernel_rfl) (by kernel_rfl) (by kernel_rfl) (fun _ _ _ h => h) (Or.inl ⟨by rfl, ?_⟩) b6 ?_
                        rotate_left 1
                        · intro u hu
                          go_simp
                          first | done | with_reducible rfl
                        go_simp
                        refine wpAnyH_oneG 45 (by kernel_rfl) rfl (by rfl) ?_
                        obtain ⟨p8, hp8⟩ : ∃ p, (jP D3 n3 c3 D4 n4 c4 D6 n6 c6 Ar cr) k8 = p := ⟨_, rfl⟩
                        have HP8 := Lib.hid hp8
                        have HR8 := Lib.hid (R8.out k8 hk8b)
                        rw [hp8] at HR8
                        obtain ⟨vs, hvs⟩ : ∃ vs, frV (jK k8 q) p8 = vs := ⟨_, rfl⟩
                        have HVS := Lib.hid hvs
                        refine wp_load_at (.tmp 79) rfl g8 (k8 * 10) (by with_unfolding_all rfl) (jK k8 q) p8 HR8.out ?_
                        rw [hvs]
                        clear hvs hp8 HR8 R8 L8
                        refine ⟨b6, ?_⟩
                        go_simp
                        refine wpAnyH_oneG 47 (by kernel_rfl) rfl (by rfl) ?_
                        have HFO := Lib.hid (HOW.out D3 n3 c3 D4 n4 c4 D6 n6 c6 Ar cr _ _ O3.out O4.out O6.out R5.out)
                        rw [HP8.out] at HFO
                        refine wp_store_fr (.tmp 7) (.tmp 80) rfl gv (jK k8 q) p8 (by with_unfolding_all rfl) (by rw [HVS.out]; with_unfolding_all rfl) ZV.out ?_
                        intro w7 MV OV
                        have b7 := b6.trans (OV.out.below b6.size HGV.out)
                        refine ⟨b7, ?_⟩
                        go_simp
                        refine wpAnyH_done (by kernel_rfl) ?_ _
                        go_wp2_with fail
                        go_meet
                        exact ⟨gv, p8, rfl, by rw [← HZw.out]; exact HGV.out, by rw [← HP8.out]; exact jP_nil _ _ _ _ _ _ _ _ _ _ _ _, MV, by rw [← HZw.out]; exact HFO.out.var ZV.out OV.out, HU.out _ b7⟩
            · as_aux_lemma =>
                refine wp_pair (.tmp 63) rfl h2 q w0.heap.size b1.size (by with_unfolding_all rfl) ?_
                intro Ar cr w2 R5 dd
                have b2 := b1.trans (dd.out.mono b1.size)
                replace O3 := Lib.hid (O3.out.below dd.out)
                refine ⟨b2, ?_⟩
                clear dd
                go_simp
                refine wpAnyH_take (i := 30) (v := ?_) rfl (by kernel_rfl) (by kernel_rfl) (by kernel_rfl) (fun _ _ _ h => h) (Or.inl ⟨by rfl, ?_⟩) b2 ?_
                rotate_left 1
                · intro u hu
                  go_simp
                  first | done | with_reducible rfl
                go_simp
                refine wpAnyH_twoG 22 46 (by kernel_rfl) rfl (by rfl) rfl (by rfl) ?_ ?_
                · as_aux_lemma =>
                    go_wp2_with fail
                    (with_reducible refine (HGB.out _).mono ?_)
                    rintro e3 w3 ⟨D4, n4, c4, rfl, o, cc⟩
                    have O4 := Lib.hid (o.base b2.size)
                    have b3 := b2.trans (cc.mono b2.size)
                    replace O3 := Lib.hid (O3.out.below cc)
                    replace R5 := Lib.hid (R5.out.below cc)
                    refine ⟨b3, ?_⟩
                    clear o cc
                    go_simp
                    refine wpAnyH_take (i := 23) (v := ?_) rfl (by kernel_rfl) (by kernel_rfl) (by kernel_rfl) (fun _ _ _ h => h) (Or.inl ⟨by rfl, ?_⟩) b3 ?_
                    rotate_left 1
                    · intro u hu
                      go_simp
                      first | done | with_reducible rfl
                    go_simp
                    refine wpAnyH_twoG 34 46 (by kernel_rfl) rfl (by rfl) rfl (by rfl) ?_ ?_
                    · as_aux_lemma =>
                        go_wp2_with fail
                        (with_reducible refine (HGC.out _).mono ?_)
                        rintro e4 w4 ⟨D6, n6, c6, rfl, o, cc⟩
                        have O6 := Lib.hid (o.base b3.size)
                        have b4 := b3.trans (cc.mono b3.size)
                        replace O3 := Lib.hid (O3.out.below cc)
                        replace R5 := Lib.hid (R5.out.below cc)
                        replace O4 := Lib.hid (O4.out.below cc)
                        refine ⟨b4, ?_⟩
                        clear o cc
                        go_simp
                        refine wpAnyH_take (i := 35) (v := ?_) rfl (by kernel_rfl) (by kernel_rfl) (by kernel_rfl) (fun _ _ _ h => h) (Or.inl ⟨by rfl, ?_⟩) b4 ?_
                        rotate_left 1
                        · intro u hu
                          go_simp
                          first | done | with_reducible rfl
                        go_simp
                        refine wpAnyH_twoG 38 46 (by kernel_rfl) rfl (by rfl) rfl (by rfl) ?_ ?_
                        · as_aux_lemma =>
                            refine wp_eight (.tmp 35) (.tmp 37) (.tmp 39) (.tmp 51) (.tmp 58) (.tmp 65) (.tmp 70) (.tmp 72) rfl q (jP D3 n3 c3 D4 n4 c4 D6 n6 c6 Ar cr) (by with_unfolding_all rfl) (by with_unfolding_all rfl) (by with_unfolding_all rfl) (by rw [HJ3.out]; with_unfolding_all rfl) (by rw [HJ4.out]; with_unfolding_all rfl) (by rw [HJ5.out]; with_unfolding_all rfl) (by rw [HJ6.out]; with_unfolding_all rfl) (by with_unfolding_all rfl) ?_
                            intro g8 w5 R8 L8 dd
                            have b5 := b4.trans (dd.out.mono b4.size)
                            replace O3 := Lib.hid (O3.out.below dd.out)
                            replace R5 := Lib.hid (R5.out.below dd.out)
                            replace O4 := Lib.hid (O4.out.below dd.out)
                            replace O6 := Lib.hid (O6.out.below dd.out)
                            refine ⟨b5, ?_⟩
                            clear dd
                            go_simp
                            refine wpAnyH_take (i := 44) (v := ?_) rfl (by kernel_rfl) (by kernel_rfl) (by kernel_rfl) (fun _ _ _ h => h) (Or.inl ⟨by rfl, ?_⟩) b5 ?_
                            rotate_left 1
                            · intro u hu
                              go_simp
                              first | done | with_reducible rfl
                            go_simp
                            refine wpAnyH_twoG 45 46 (by kernel_rfl) rfl (by rfl) rfl (by rfl) ?_ ?_
                            · as_aux_lemma =>
                                obtain ⟨p8, hp8⟩ : ∃ p, (jP D3 n3 c3 D4 n4 c4 D6 n6 c6 Ar cr) k8 = p := ⟨_, rfl⟩
                                have HP8 := Lib.hid hp8
                                have HR8 := Lib.hid (R8.out k8 hk8b)
                                rw [hp8] at HR8
                                obtain ⟨vs, hvs⟩ : ∃ vs, frV (jK k8 q) p8 = vs := ⟨_, rfl⟩
                                have HVS := Lib.hid hvs
                                refine wp_load_at (.tmp 79) rfl g8 (k8 * 10) (by with_unfolding_all rfl) (jK k8 q) p8 HR8.out ?_
                                rw [hvs]
                                clear hvs hp8 HR8 R8 L8
                                refine ⟨b5, ?_⟩
                                go_simp
                                refine wpAnyH_oneG 46 (by kernel_rfl) rfl (by rfl) ?_
                                refine wp_alloc_fr rfl ?_
                                intro gv w6 eg ZV dd
                                have HGV : Hid (w0.heap.size ≤ gv) := show _ ≤ _ by rw [eg.out]; exact b5.size
                                have b6 := b5.trans (dd.out.mono b5.size)
                                replace O3 := Lib.hid (O3.out.below dd.out)
                                replace R5 := Lib.hid (R5.out.below dd.out)
                                replace O4 := Lib.hid (O4.out.below dd.out)
                                replace O6 := Lib.hid (O6.out.below dd.out)
                                refine ⟨b6, ?_⟩
                                clear dd eg
                                go_simp
                                refine wpAnyH_oneG 47 (by kernel_rfl) rfl (by rfl) ?_
                                have HFO := Lib.hid (HOW.out D3 n3 c3 D4 n4 c4 D6 n6 c6 Ar cr _ _ O3.out O4.out O6.out R5.out)
                                rw [HP8.out] at HFO
                                refine wp_store_fr (.tmp 7) (.tmp 80) rfl gv (jK k8 q) p8 (by with_unfolding_all rfl) (by rw [HVS.out]; with_unfolding_all rfl) ZV.out ?_
                                intro w7 MV OV
                                have b7 := b6.trans (OV.out.below b6.size HGV.out)
                                refine ⟨b7, ?_⟩
                                go_simp
                                refine wpAnyH_done (by kernel_rfl) ?_ _
                                go_wp2_with fail
                                go_meet
                                exact ⟨gv, p8, rfl, by rw [← HZw.out]; exact HGV.out, by rw [← HP8.out]; exact jP_nil _ _ _ _ _ _ _ _ _ _ _ _, MV, by rw [← HZw.out]; exact HFO.out.var ZV.out OV.out, HU.out _ b7⟩
                            · as_aux_lemma =>
                                refine wp_alloc_fr rfl ?_
                                intro gv w6 eg ZV dd
                                have HGV : Hid (w0.heap.size ≤ gv) := show _ ≤ _ by rw [eg.out]; exact b5.size
                                have b6 := b5.trans (dd.out.mono b5.size)
                                replace O3 := Lib.hid (O3.out.below dd.out)
                                replace R5 := Lib.hid (R5.out.below dd.out)
                                replace O4 := Lib.hid (O4.out.below dd.out)
                                replace O6 := Lib.hid (O6.out.below dd.out)
                                replace R8 := Lib.hid fun k hk => range_belowJ (R8.out k hk) L8.out dd.out
                                replace L8 := Lib.hid (Nat.lt_of_lt_of_le L8.out (Below.size dd.out))
                                refine ⟨b6, ?_⟩
                                clear dd eg
                                go_simp
                                refine wpAnyH_oneG 45 (by kernel_rfl) rfl (by rfl) ?_
                                obtain ⟨p8, hp8⟩ : ∃ p, (jP D3 n3 c3 D4 n4 c4 D6 n6 c6 Ar cr) k8 = p := ⟨_, rfl⟩
                                have HP8 := Lib.hid hp8
                                have HR8 := Lib.hid (R8.out k8 hk8b)
                                rw [hp8] at HR8
                                obtain ⟨vs, hvs⟩ : ∃ vs, frV (jK k8 q) p8 = vs := ⟨_, rfl⟩
                                have HVS := Lib.hid hvs
                                refine wp_load_at (.tmp 79) rfl g8 (k8 * 10) (by with_unfolding_all rfl) (jK k8 q) p8 HR8.out ?_
                                rw [hvs]
                                clear hvs hp8 HR8 R8 L8
                                refine ⟨b6, ?_⟩
                                go_simp
                                refine wpAnyH_oneG 47 (by kernel_rfl) rfl (by rfl) ?_
                                have HFO := Lib.hid (HOW.out D3 n3 c3 D4 n4 c4 D6 n6 c6 Ar cr _ _ O3.out O4.out O6.out R5.out)
                                rw [HP8.out] at HFO
                                refine wp_store_fr (.tmp 7) (.tmp 80) rfl gv (jK k8 q) p8 (by with_unfolding_all rfl) (by rw [HVS.out]; with_unfolding_all rfl) ZV.out ?_
                                intro w7 MV OV
                                have b7 := b6.trans (OV.out.below b6.size HGV.out)
                                refine ⟨b7, ?_⟩
                                go_simp
                                refine wpAnyH_done (by kernel_rfl) ?_ _
                                go_wp2_with fail
                                go_meet
                                exact ⟨gv, p8, rfl, by rw [← HZw.out]; exact HGV.out, by rw [← HP8.out]; exact jP_nil _ _ _ _ _ _ _ _ _ _ _ _, MV, by rw [← HZw.out]; exact HFO.out.var ZV.out OV.out, HU.out _ b7⟩
                        · as_aux_lemma =>
                            refine wp_alloc_fr rfl ?_
                            intro gv w5 eg ZV dd
                            have HGV : Hid (w0.heap.size ≤ gv) := show _ ≤ _ by rw [eg.out]; exact b4.size
                            have b5 := b4.trans (dd.out.mono b4.size)
                            replace O3 := Lib.hid (O3.out.below dd.out)
                            replace R5 := Lib.hid (R5.out.below dd.out)
                            replace O4 := Lib.hid (O4.out.below dd.out)
                            replace O6 := Lib.hid (O6.out.below dd.out)
                            refine ⟨b5, ?_⟩
                            clear dd eg
                            go_simp
                            refine wpAnyH_oneG 38 (by kernel_rfl) rfl (by rfl) ?_
                            refine wp_eight (.tmp 35) (.tmp 37) (.tmp 39) (.tmp 51) (.tmp 58) (.tmp 65) (.tmp 70) (.tmp 72) rfl q (jP D3 n3 c3 D4 n4 c4 D6 n6 c6 Ar cr) (by with_unfolding_all rfl) (by with_unfolding_all rfl) (by with_unfolding_all rfl) (by rw [HJ3.out]; with_unfolding_all rfl) (by rw [HJ4.out]; with_unfolding_all rfl) (by rw [HJ5.out]; with_unfolding_all rfl) (by rw [HJ6.out]; with_unfolding_all rfl) (by with_unfolding_all rfl) ?_
                            intro g8 w6 R8 L8 dd
                            have b6 := b5.trans (dd.out.mono b5.size)
                            replace O3 := Lib.hid (O3.out.below dd.out)
                            replace R5 := Lib.hid (R5.out.below dd.out)
                            replace O4 := Lib.hid (O4.out.below dd.out)
                            replace O6 := Lib.hid (O6.out.below dd.out)
                            replace ZV := Lib.hid (ZV.out.below dd.out)
                            refine ⟨b6, ?_⟩
                            clear dd
                            go_simp
                            refine wpAnyH_take (i := 44) (v := ?_) rfl (by kernel_rfl) (by kernel_rfl) (by kernel_rfl) (fun _ _ _ h => h) (Or.inl ⟨by rfl, ?_⟩) b6 ?_
                            rotate_left 1
                            · intro u hu
                              go_simp
                              first | done | with_reducible rfl
                            go_simp
                            refine wpAnyH_oneG 45 (by kernel_rfl) rfl (by rfl) ?_
                            obtain ⟨p8, hp8⟩ : ∃ p, (jP D3 n3 c3 D4 n4 c4 D6 n6 c6 Ar cr) k8 = p := ⟨_, rfl⟩
                            have HP8 := Lib.hid hp8
                            have HR8 := Lib.hid (R8.out k8 hk8b)
                            rw [hp8] at HR8
                            obtain ⟨vs, hvs⟩ : ∃ vs, frV (jK k8 q) p8 = vs := ⟨_, rfl⟩
                            have HVS := Lib.hid hvs
                            refine wp_load_at (.tmp 79) rfl g8 (k8 * 10) (by with_unfolding_all rfl) (jK k8 q) p8 HR8.out ?_
                            rw [hvs]
                            clear hvs hp8 HR8 R8 L8
                            refine ⟨b6, ?_⟩
                            go_simp
                            refine wpAnyH_oneG 47 (by kernel_rfl) rfl (by rfl) ?_
                            have HFO := Lib.hid (HOW.out D3 n3 c3 D4 n4 c4 D6 n6 c6 Ar cr _ _ O3.out O4.out O6.out R5.out)
                            rw [HP8.out] at HFO
                            refine wp_store_fr (.tmp 7) (.tmp 80) rfl gv (jK k8 q) p8 (by with_unfolding_all rfl) (by rw [HVS.out]; with_unfolding_all rfl) ZV.out ?_
                            intro w7 MV OV
                            have b7 := b6.trans (OV.out.below b6.size HGV.out)
                            refine ⟨b7, ?_⟩
                            go_simp
                            refine wpAnyH_done (by kernel_rfl) ?_ _
                            go_wp2_with fail
                            go_meet
                            exact ⟨gv, p8, rfl, by rw [← HZw.out]; exact HGV.out, by rw [← HP8.out]; exact jP_nil _ _ _ _ _ _ _ _ _ _ _ _, MV, by rw [← HZw.out]; exact HFO.out.var ZV.out OV.out, HU.out _ b7⟩
                    · as_aux_lemma =>
                        refine wp_alloc_fr rfl ?_
                        intro gv w4 eg ZV dd
                        have HGV : Hid (w0.heap.size ≤ gv) := show _ ≤ _ by rw [eg.out]; exact b3.size
                        have b4 := b3.trans (dd.out.mono b3.size)
                        replace O3 := Lib.hid (O3.out.below dd.out)
                        replace R5 := Lib.hid (R5.out.below dd.out)
                        replace O4 := Lib.hid (O4.out.below dd.out)
                        refine ⟨b4, ?_⟩
                        clear dd eg
                        go_simp
                        refine wpAnyH_oneG 34 (by kernel_rfl) rfl (by rfl) ?_
                        go_wp2_with fail
                        (with_reducible refine (HGC.out _).mono ?_)
                        rintro e5 w5 ⟨D6, n6, c6, rfl, o, cc⟩
                        have O6 := Lib.hid (o.base b4.size)
                        have b5 := b4.trans (cc.mono b4.size)
                        replace O3 := Lib.hid (O3.out.below cc)
                        replace R5 := Lib.hid (R5.out.below cc)
                        replace O4 := Lib.hid (O4.out.below cc)
                        replace ZV := Lib.hid (ZV.out.below cc)
                        refine ⟨b5, ?_⟩
                        clear o cc
                        go_simp
                        refine wpAnyH_take (i := 35) (v := ?_) rfl (by kernel_rfl) (by kernel_rfl) (by kernel_rfl) (fun _ _ _ h => h) (Or.inl ⟨by rfl, ?_⟩) b5 ?_
                        rotate_left 1
                        · intro u hu
                          go_simp
                          first | done | with_reducible rfl
                        go_simp
                        refine wpAnyH_oneG 38 (by kernel_rfl) rfl (by rfl) ?_
                        refine wp_eight (.tmp 35) (.tmp 37) (.tmp 39) (.tmp 51) (.tmp 58) (.tmp 65) (.tmp 70) (.tmp 72) rfl q (jP D3 n3 c3 D4 n4 c4 D6 n6 c6 Ar cr) (by with_unfolding_all rfl) (by with_unfolding_all rfl) (by with_unfolding_all rfl) (by rw [HJ3.out]; with_unfolding_all rfl) (by rw [HJ4.out]; with_unfolding_all rfl) (by rw [HJ5.out]; with_unfolding_all rfl) (by rw [HJ6.out]; with_unfolding_all rfl) (by with_unfolding_all rfl) ?_
                        intro g8 w6 R8 L8 dd
                        have b6 := b5.trans (dd.out.mono b5.size)
                        replace O3 := Lib.hid (O3.out.below dd.out)
                        replace R5 := Lib.hid (R5.out.below dd.out)
                        replace O4 := Lib.hid (O4.out.below dd.out)
                        replace ZV := Lib.hid (ZV.out.below dd.out)
                        replace O6 := Lib.hid (O6.out.below dd.out)
                        refine ⟨b6, ?_⟩
                        clear dd
                        go_simp
                        refine wpAnyH_take (i := 44) (v := ?_) rfl (by kernel_rfl) (by kernel_rfl) (by kernel_rfl) (fun _ _ _ h => h) (Or.inl ⟨by rfl, ?_⟩) b6 ?_
                        rotate_left 1
                        · intro u hu
                          go_simp
                          first | done | with_reducible rfl
                        go_simp
                        refine wpAnyH_oneG 45 (by kernel_rfl) rfl (by rfl) ?_
                        obtain ⟨p8, hp8⟩ : ∃ p, (jP D3 n3 c3 D4 n4 c4 D6 n6 c6 Ar cr) k8 = p := ⟨_, rfl⟩
                        have HP8 := Lib.hid hp8
                        have HR8 := Lib.hid (R8.out k8 hk8b)
                        rw [hp8] at HR8
                        obtain ⟨vs, hvs⟩ : ∃ vs, frV (jK k8 q) p8 = vs := ⟨_, rfl⟩
                        have HVS := Lib.hid hvs
                        refine wp_load_at (.tmp 79) rfl g8 (k8 * 10) (by with_unfolding_all rfl) (jK k8 q) p8 HR8.out ?_
                        rw [hvs]
                        clear hvs hp8 HR8 R8 L8
                        refine ⟨b6, ?_⟩
                        go_simp
                        refine wpAnyH_oneG 47 (by kernel_rfl) rfl (by rfl) ?_
                        have HFO := Lib.hid (HOW.out D3 n3 c3 D4 n4 c4 D6 n6 c6 Ar cr _ _ O3.out O4.out O6.out R5.out)
                        rw [HP8.out] at HFO
                        refine wp_store_fr (.tmp 7) (.tmp 80) rfl gv (jK k8 q) p8 (by with_unfolding_all rfl) (by rw [HVS.out]; with_unfolding_all rfl) ZV.out ?_
                        intro w7 MV OV
                        have b7 := b6.trans (OV.out.below b6.size HGV.out)
                        refine ⟨b7, ?_⟩
                        go_simp
                        refine wpAnyH_done (by kernel_rfl) ?_ _
                        go_wp2_with fail
                        go_meet
                        exact ⟨gv, p8, rfl, by rw [← HZw.out]; exact HGV.out, by rw [← HP8.out]; exact jP_nil _ _ _ _ _ _ _ _ _ _ _ _, MV, by rw [← HZw.out]; exact HFO.out.var ZV.out OV.out, HU.out _ b7⟩
                · as_aux_lemma =>
                    refine wp_alloc_fr rfl ?_
                    intro gv w3 eg ZV dd
                    have HGV : Hid (w0.heap.size ≤ gv) := show _ ≤ _ by rw [eg.out]; exact b2.size
                    have b3 := b2.trans (dd.out.mono b2.size)
                    replace O3 := Lib.hid (O3.out.below dd.out)
                    replace R5 := Lib.hid (R5.out.below dd.out)
                    refine ⟨b3, ?_⟩
                    clear dd eg
                    go_simp
                    refine wpAnyH_oneG 22 (by kernel_rfl) rfl (by rfl) ?_
                    go_wp2_with fail
                    (with_reducible refine (HGB.out _).mono ?_)
                    rintro e4 w4 ⟨D4, n4, c4, rfl, o, cc⟩
                    have O4 := Lib.hid (o.base b3.size)
                    have b4 := b3.trans (cc.mono b3.size)
                    replace O3 := Lib.hid (O3.out.below cc)
                    replace R5 := Lib.hid (R5.out.below cc)
                    replace ZV := Lib.hid (ZV.out.below cc)
                    refine ⟨b4, ?_⟩
                    clear o cc
                    go_simp
                    refine wpAnyH_take (i := 23) (v := ?_) rfl (by kernel_rfl) (by kernel_rfl) (by kernel_rfl) (fun _ _ _ h => h) (Or.inl ⟨by rfl, ?_⟩) b4 ?_
                    rotate_left 1
                    · intro u hu
                      go_simp
                      first | done | with_reducible rfl
                    go_simp
                    refine wpAnyH_oneG 34 (by kernel_rfl) rfl (by rfl) ?_
                    go_wp2_with fail
                    (with_reducible refine (HGC.out _).mono ?_)
                    rintro e5 w5 ⟨D6, n6, c6, rfl, o, cc⟩
                    have O6 := Lib.hid (o.base b4.size)
                    have b5 := b4.trans (cc.mono b4.size)
                    replace O3 := Lib.hid (O3.out.below cc)
                    replace R5 := Lib.hid (R5.out.below cc)
                    replace ZV := Lib.hid (ZV.out.below cc)
                    replace O4 := Lib.hid (O4.out.below cc)
                    refine ⟨b5, ?_⟩
                    clear o cc
                    go_simp
                    refine wpAnyH_take (i := 35) (v := ?_) rfl (by kernel_rfl) (by kernel_rfl) (by kernel_rfl) (fun _ _ _ h => h) (Or.inl ⟨by rfl, ?_⟩) b5 ?_
                    rotate_left 1
                    · intro u hu
                      go_simp
                      first | done | with_reducible rfl
                    go_simp
                    refine wpAnyH_oneG 38 (by kernel_rfl) rfl (by rfl) ?_
                    refine wp_eight (.tmp 35) (.tmp 37) (.tmp 39) (.tmp 51) (.tmp 58) (.tmp 65) (.tmp 70) (.tmp 72) rfl q (jP D3 n3 c3 D4 n4 c4 D6 n6 c6 Ar cr) (by with_unfolding_all rfl) (by with_unfolding_all rfl) (by with_unfolding_all rfl) (by rw [HJ3.out]; with_unfolding_all rfl) (by rw [HJ4.out]; with_unfolding_all rfl) (by rw [HJ5.out]; with_unfolding_all rfl) (by rw [HJ6.out]; with_unfolding_all rfl) (by with_unfolding_all rfl) ?_
                    intro g8 w6 R8 L8 dd
                    have b6 := b5.trans (dd.out.mono b5.size)
                    replace O3 := Lib.hid (O3.out.below dd.out)
                    replace R5 := Lib.hid (R5.out.below dd.out)
                    replace ZV := Lib.hid (ZV.out.below dd.out)
                    replace O4 := Lib.hid (O4.out.below dd.out)
                    replace O6 := Lib.hid (O6.out.below dd.out)
                    refine ⟨b6, ?_⟩
                    clear dd
                    go_simp
                    refine wpAnyH_take (i := 44) (v := ?_) rfl (by kernel_rfl) (by kernel_rfl) (by kernel_rfl) (fun _ _ _ h => h) (Or.inl ⟨by rfl, ?_⟩) b6 ?_
                    rotate_left 1
                    · intro u hu
                      go_simp
                      first | done | with_reducible rfl
                    go_simp
                    refine wpAnyH_oneG 45 (by kernel_rfl) rfl (by rfl) ?_
                    obtain ⟨p8, hp8⟩ : ∃ p, (jP D3 n3 c3 D4 n4 c4 D6 n6 c6 Ar cr) k8 = p := ⟨_, rfl⟩
                    have HP8 := Lib.hid hp8
                    have HR8 := Lib.hid (R8.out k8 hk8b)
                    rw [hp8] at HR8
                    obtain ⟨vs, hvs⟩ : ∃ vs, frV (jK k8 q) p8 = vs := ⟨_, rfl⟩
                    have HVS := Lib.hid hvs
                    refine wp_load_at (.tmp 79) rfl g8 (k8 * 10) (by with_unfolding_all rfl) (jK k8 q) p8 HR8.out ?_
                    rw [hvs]
                    clear hvs hp8 HR8 R8 L8
                    refine ⟨b6, ?_⟩
                    go_simp
                    refine wpAnyH_oneG 47 (by kernel_rfl) rfl (by rfl) ?_
                    have HFO := Lib.hid (HOW.out D3 n3 c3 D4 n4 c4 D6 n6 c6 Ar cr _ _ O3.out O4.out O6.out R5.out)
                    rw [HP8.out] at HFO
                    refine wp_store_fr (.tmp 7) (.tmp 80) rfl gv (jK k8 q) p8 (by with_unfolding_all rfl) (by rw [HVS.out]; with_unfolding_all rfl) ZV.out ?_
                    intro w7 MV OV
                    have b7 := b6.trans (OV.out.below b6.size HGV.out)
                    refine ⟨b7, ?_⟩
                    go_simp
                    refine wpAnyH_done (by kernel_rfl) ?_ _
                    go_wp2_with fail
                    go_meet
                    exact ⟨gv, p8, rfl, by rw [← HZw.out]; exact HGV.out, by rw [← HP8.out]; exact jP_nil _ _ _ _ _ _ _ _ _ _ _ _, MV, by rw [← HZw.out]; exact HFO.out.var ZV.out OV.out, HU.out _ b7⟩
            · as_aux_lemma =>
                refine wp_alloc_fr rfl ?_
                intro gv w2 eg ZV dd
                have HGV : Hid (w0.heap.size ≤ gv) := show _ ≤ _ by rw [eg.out]; exact b1.size
                have b2 := b1.trans (dd.out.mono b1.size)
                replace O3 := Lib.hid (O3.out.below dd.out)
                refine ⟨b2, ?_⟩
                clear dd eg
                go_simp
                refine wpAnyH_twoG 22 29 (by kernel_rfl) rfl (by rfl) rfl (by rfl) ?_ ?_
                · as_aux_lemma =>
                    go_wp2_with fail
                    (with_reducible refine (HGB.out _).mono ?_)
                    rintro e3 w3 ⟨D4, n4, c4, rfl, o, cc⟩
                    have O4 := Lib.hid (o.base b2.size)
                    have b3 := b2.trans (cc.mono b2.size)
                    replace O3 := Lib.hid (O3.out.below cc)
                    replace ZV := Lib.hid (ZV.out.below cc)
                    refine ⟨b3, ?_⟩
                    clear o cc
                    go_simp
                    refine wpAnyH_take (i := 23) (v := ?_) rfl (by kernel_rfl) (by kernel_rfl) (by kernel_rfl) (fun _ _ _ h => h) (Or.inl ⟨by rfl, ?_⟩) b3 ?_
                    rotate_left 1
                    · intro u hu
                      go_simp
                      first | done | with_reducible rfl
                    go_simp
                    refine wpAnyH_twoG 29 34 (by kernel_rfl) rfl (by rfl) rfl (by rfl) ?_ ?_
                    · as_aux_lemma =>
                        refine wp_pair (.tmp 63) rfl h2 q w0.heap.size b3.size (by with_unfolding_all rfl) ?_
                        intro Ar cr w4 R5 dd
                        have b4 := b3.trans (dd.out.mono b3.size)
                        replace O3 := Lib.hid (O3.out.below dd.out)
                        replace ZV := Lib.hid (ZV.out.below dd.out)
                        replace O4 := Lib.hid (O4.out.below dd.out)
                        refine ⟨b4, ?_⟩
                        clear dd
                        go_simp
                        refine wpAnyH_take (i := 30) (v := ?_) rfl (by kernel_rfl) (by kernel_rfl) (by kernel_rfl) (fun _ _ _ h => h) (Or.inl ⟨by rfl, ?_⟩) b4 ?_
                        rotate_left 1
                        · intro u hu
                          go_simp
                          first | done | with_reducible rfl
                        go_simp
                        refine wpAnyH_oneG 34 (by kernel_rfl) rfl (by rfl) ?_
                        go_wp2_with fail
                        (with_reducible refine (HGC.out _).mono ?_)
                        rintro e5 w5 ⟨D6, n6, c6, rfl, o, cc⟩
                        have O6 := Lib.hid (o.base b4.size)
                        have b5 := b4.trans (cc.mono b4.size)
                        replace O3 := Lib.hid (O3.out.below cc)
                        replace ZV := Lib.hid (ZV.out.below cc)
                        replace O4 := Lib.hid (O4.out.below cc)
                        replace R5 := Lib.hid (R5.out.below cc)
                        refine ⟨b5, ?_⟩
                        clear o cc
                        go_simp
                        refine wpAnyH_take (i := 35) (v := ?_) rfl (by kernel_rfl) (by kernel_rfl) (by kernel_rfl) (fun _ _ _ h => h) (Or.inl ⟨by rfl, ?_⟩) b5 ?_
                        rotate_left 1
                        · intro u hu
                          go_simp
                          first | done | with_reducible rfl
                        go_simp
                        refine wpAnyH_oneG 38 (by kernel_rfl) rfl (by rfl) ?_
                        refine wp_eight (.tmp 35) (.tmp 37) (.tmp 39) (.tmp 51) (.tmp 58) (.tmp 65) (.tmp 70) (.tmp 72) rfl q (jP D3 n3 c3 D4 n4 c4 D6 n6 c6 Ar cr) (by with_unfolding_all rfl) (by with_unfolding_all rfl) (by with_unfolding_all rfl) (by rw [HJ3.out]; with_unfolding_all rfl) (by rw [HJ4.out]; with_unfolding_all rfl) (by rw [HJ5.out]; with_unfolding_all rfl) (by rw [HJ6.out]; with_unfolding_all rfl) (by with_unfolding_all rfl) ?_
                        intro g8 w6 R8 L8 dd
                        have b6 := b5.trans (dd.out.mono b5.size)
                        replace O3 := Lib.hid (O3.out.below dd.out)
                        replace ZV := Lib.hid (ZV.out.below dd.out)
                        replace O4 := Lib.hid (O4.out.below dd.out)
                        replace R5 := Lib.hid (R5.out.below dd.out)
                        replace O6 := Lib.hid (O6.out.below dd.out)
                        refine ⟨b6, ?_⟩
                        clear dd
                        go_simp
                        refine wpAnyH_take (i := 44) (v := ?_) rfl (by kernel_rfl) (by kernel_rfl) (by kernel_rfl) (fun _ _ _ h => h) (Or.inl ⟨by rfl, ?_⟩) b6 ?_
                        rotate_left 1
                        · intro u hu
                          go_simp
                          first | done | with_reducible rfl
                        go_simp
                        refine wpAnyH_oneG 45 (by kernel_rfl) rfl (by rfl) ?_
                        obtain ⟨p8, hp8⟩ : ∃ p, (jP D3 n3 c3 D4 n4 c4 D6 n6 c6 Ar cr) k8 = p := ⟨_, rfl⟩
                        have HP8 := Lib.hid hp8
                        have HR8 := Lib.hid (R8.out k8 hk8b)
                        rw [hp8] at HR8
                        obtain ⟨vs, hvs⟩ : ∃ vs, frV (jK k8 q) p8 = vs := ⟨_, rfl⟩
                        have HVS := Lib.hid hvs
                        refine wp_load_at (.tmp 79) rfl g8 (k8 * 10) (by with_unfolding_all rfl) (jK k8 q) p8 HR8.out ?_
                        rw [hvs]
                        clear hvs hp8 HR8 R8 L8
                        refine ⟨b6, ?_⟩
                        go_simp
                        refine wpAnyH_oneG 47 (by kernel_rfl) rfl (by rfl) ?_
                        have HFO := Lib.hid (HOW.out D3 n3 c3 D4 n4 c4 D6 n6 c6 Ar cr _ _ O3.out O4.out O6.out R5.out)
                        rw [HP8.out] at HFO
                        refine wp_store_fr (.tmp 7) (.tmp 80) rfl gv (jK k8 q) p8 (by with_unfolding_all rfl) (by rw [HVS.out]; with_unfolding_all rfl) ZV.out ?_
                        intro w7 MV OV
                        have b7 := b6.trans (OV.out.below b6.size HGV.out)
                        refine ⟨b7, ?_⟩
                        go_simp
                        refine wpAnyH_done (by kernel_rfl) ?_ _
                        go_wp2_with fail
                        go_meet
                        exact ⟨gv, p8, rfl, by rw [← HZw.out]; exact HGV.out, by rw [← HP8.out]; exact jP_nil _ _ _ _ _ _ _ _ _ _ _ _, MV, by rw [← HZw.out]; exact HFO.out.var ZV.out OV.out, HU.out _ b7⟩
                    · as_aux_lemma =>
                        go_wp2_with fail
                        (with_reducible refine (HGC.out _).mono ?_)
                        rintro e4 w4 ⟨D6, n6, c6, rfl, o, cc⟩
                        have O6 := Lib.hid (o.base b3.size)
                        have b4 := b3.trans (cc.mono b3.size)
                        replace O3 := Lib.hid (O3.out.below cc)
                        replace ZV := Lib.hid (ZV.out.below cc)
                        replace O4 := Lib.hid (O4.out.below cc)
                        refine ⟨b4, ?_⟩
                        clear o cc
                        go_simp
                        refine wpAnyH_take (i := 35) (v := ?_) rfl (by kernel_rfl) (by kernel_rfl) (by kernel_rfl) (fun _ _ _ h => h) (Or.inl ⟨by rfl, ?_⟩) b4 ?_
                        rotate_left 1
                        · intro u hu
                          go_simp
                          first | done | with_reducible rfl
                        go_simp
                        refine wpAnyH_oneG 29 (by kernel_rfl) rfl (by rfl) ?_
                        refine wp_pair (.tmp 63) rfl h2 q w0.heap.size b4.size (by with_unfolding_all rfl) ?_
                        intro Ar cr w5 R5 dd
                        have b5 := b4.trans (dd.out.mono b4.size)
                        replace O3 := Lib.hid (O3.out.below dd.out)
                        replace ZV := Lib.hid (ZV.out.below dd.out)
                        replace O4 := Lib.hid (O4.out.below dd.out)
                        replace O6 := Lib.hid (O6.out.below dd.out)
                        refine ⟨b5, ?_⟩
                        clear dd
                        go_simp
                        refine wpAnyH_take (i := 30) (v := ?_) rfl (by kernel_rfl) (by kernel_rfl) (by kernel_rfl) (fun _ _ _ h => h) (Or.inl ⟨by rfl, ?_⟩) b5 ?_
                        rotate_left 1
                        · intro u hu
                          go_simp
                          first | done | with_reducible rfl
                        go_simp
                        refine wpAnyH_oneG 38 (by kernel_rfl) rfl (by rfl) ?_
                        refine wp_eight (.tmp 35) (.tmp 37) (.tmp 39) (.tmp 51) (.tmp 58) (.tmp 65) (.tmp 70) (.tmp 72) rfl q (jP D3 n3 c3 D4 n4 c4 D6 n6 c6 Ar cr) (by with_unfolding_all rfl) (by with_unfolding_all rfl) (by with_unfolding_all rfl) (by rw [HJ3.out]; with_unfolding_all rfl) (by rw [HJ4.out]; with_unfolding_all rfl) (by rw [HJ5.out]; with_unfolding_all rfl) (by rw [HJ6.out]; with_unfolding_all rfl) (by with_unfolding_all rfl) ?_
                        intro g8 w6 R8 L8 dd
                        have b6 := b5.trans (dd.out.mono b5.size)
                        replace O3 := Lib.hid (O3.out.below dd.out)
                        replace ZV := Lib.hid (ZV.out.below dd.out)
                        replace O4 := Lib.hid (O4.out.below dd.out)
                        replace O6 := Lib.hid (O6.out.below dd.out)
                        replace R5 := Lib.hid (R5.out.below dd.out)
                        refine ⟨b6, ?_⟩
                        clear dd
                        go_simp
                        refine wpAnyH_take (i := 44) (v := ?_) rfl (by kernel_rfl) (by kernel_rfl) (by kernel_rfl) (fun _ _ _ h => h) (Or.inl ⟨by rfl, ?_⟩) b6 ?_
                        rotate_left 1
                        · intro u hu
                          go_simp
                          first | done | with_reducible rfl
                        go_simp
                        refine wpAnyH_oneG 45 (by kernel_rfl) rfl (by rfl) ?_
                        obtain ⟨p8, hp8⟩ : ∃ p, (jP D3 n3 c3 D4 n4 c4 D6 n6 c6 Ar cr) k8 = p := ⟨_, rfl⟩
                        have HP8 := Lib.hid hp8
                        have HR8 := Lib.hid (R8.out k8 hk8b)
                        rw [hp8] at HR8
                        obtain ⟨vs, hvs⟩ : ∃ vs, frV (jK k8 q) p8 = vs := ⟨_, rfl⟩
                        have HVS := Lib.hid hvs
                        refine wp_load_at (.tmp 79) rfl g8 (k8 * 10) (by with_unfolding_all rfl) (jK k8 q) p8 HR8.out ?_
                        rw [hvs]
                        clear hvs hp8 HR8 R8 L8
                        refine ⟨b6, ?_⟩
                        go_simp
                        refine wpAnyH_oneG 47 (by kernel_rfl) rfl (by rfl) ?_
                        have HFO := Lib.hid (HOW.out D3 n3 c3 D4 n4 c4 D6 n6 c6 Ar cr _ _ O3.out O4.out O6.out R5.out)
                        rw [HP8.out] at HFO
                        refine wp_store_fr (.tmp 7) (.tmp 80) rfl gv (jK k8 q) p8 (by with_unfolding_all rfl) (by rw [HVS.out]; with_unfolding_all rfl) ZV.out ?_
                        intro w7 MV OV
                        have b7 := b6.trans (OV.out.below b6.size HGV.out)
                        refine ⟨b7, ?_⟩
                        go_simp
                        refine wpAnyH_done (by kernel_rfl) ?_ _
                        go_wp2_with fail
                        go_meet
                        exact ⟨gv, p8, rfl, by rw [← HZw.out]; exact HGV.out, by rw [← HP8.out]; exact jP_nil _ _ _ _ _ _ _ _ _ _ _ _, MV, by rw [← HZw.out]; exact HFO.out.var ZV.out OV.out, HU.out _ b7⟩
                · as_aux_lemma =>
                    refine wp_pair (.tmp 63) rfl h2 q w0.heap.size b2.size (by with_unfolding_all rfl) ?_
                    intro Ar cr w3 R5 dd
                    have b3 := b2.trans (dd.out.mono b2.size)
                    replace O3 := Lib.hid (O3.out.below dd.out)
                    replace ZV := Lib.hid (ZV.out.below dd.out)
                    refine ⟨b3, ?_⟩
                    clear dd
                    go_simp
                    refine wpAnyH_take (i := 30) (v := ?_) rfl (by kernel_rfl) (by kernel_rfl) (by kernel_rfl) (fun _ _ _ h => h) (Or.inl ⟨by rfl, ?_⟩) b3 ?_
                    rotate_left 1
                    · intro u hu
                      go_simp
                      first | done | with_reducible rfl
                    go_simp
                    refine wpAnyH_oneG 22 (by kernel_rfl) rfl (by rfl) ?_
                    go_wp2_with fail
                    (with_reducible refine (HGB.out _).mono ?_)
                    rintro e4 w4 ⟨D4, n4, c4, rfl, o, cc⟩
                    have O4 := Lib.hid (o.base b3.size)
                    have b4 := b3.trans (cc.mono b3.size)
                    replace O3 := Lib.hid (O3.out.below cc)
                    replace ZV := Lib.hid (ZV.out.below cc)
                    replace R5 := Lib.hid (R5.out.below cc)
                    refine ⟨b4, ?_⟩
                    clear o cc
                    go_simp
                    refine wpAnyH_take (i := 23) (v := ?_) rfl (by kernel_rfl) (by kernel_rfl) (by kernel_rfl) (fun _ _ _ h => h) (Or.inl ⟨by rfl, ?_⟩) b4 ?_
                    rotate_left 1
                    · intro u hu
                      go_simp
                      first | done | with_reducible rfl
                    go_simp
                    refine wpAnyH_oneG 34 (by kernel_rfl) rfl (by rfl) ?_
                    go_wp2_with fail
                    (with_reducible refine (HGC.out _).mono ?_)
                    rintro e5 w5 ⟨D6, n6, c6, rfl, o, cc⟩
                    have O6 := Lib.hid (o.base b4.size)
                    have b5 := b4.trans (cc.mono b4.size)
                    replace O3 := Lib.hid (O3.out.below cc)
                    replace ZV := Lib.hid (ZV.out.below cc)
                    replace R5 := Lib.hid (R5.out.below cc)
                    replace O4 := Lib.hid (O4.out.below cc)
                    refine ⟨b5, ?_⟩
                    clear o cc
                    go_simp
                    refine wpAnyH_take (i := 35) (v := ?_) rfl (by kernel_rfl) (by kernel_rfl) (by kernel_rfl) (fun _ _ _ h => h) (Or.inl ⟨by rfl, ?_⟩) b5 ?_
                    rotate_left 1
                    · intro u hu
                      go_simp
                      first | done | with_reducible rfl
                    go_simp
                    refine wpAnyH_oneG 38 (by kernel_rfl) rfl (by rfl) ?_
                    refine wp_eight (.tmp 35) (.tmp 37) (.tmp 39) (.tmp 51) (.tmp 58) (.tmp 65) (.tmp 70) (.tmp 72) rfl q (jP D3 n3 c3 D4 n4 c4 D6 n6 c6 Ar cr) (by with_unfolding_all rfl) (by with_unfolding_all rfl) (by with_unfolding_all rfl) (by rw [HJ3.out]; with_unfolding_all rfl) (by rw [HJ4.out]; with_unfolding_all rfl) (by rw [HJ5.out]; with_unfolding_all rfl) (by rw [HJ6.out]; with_unfolding_all rfl) (by with_unfolding_all rfl) ?_
                    intro g8 w6 R8 L8 dd
                    have b6 := b5.trans (dd.out.mono b5.size)
                    replace O3 := Lib.hid (O3.out.below dd.out)
                    replace ZV := Lib.hid (ZV.out.below dd.out)
                    replace R5 := Lib.hid (R5.out.below dd.out)
                    replace O4 := Lib.hid (O4.out.below dd.out)
                    replace O6 := Lib.hid (O6.out.below dd.out)
                    refine ⟨b6, ?_⟩
                    clear dd
                    go_simp
                    refine wpAnyH_take (i := 44) (v := ?_) rfl (by kernel_rfl) (by kernel_rfl) (by kernel_rfl) (fun _ _ _ h => h) (Or.inl ⟨by rfl, ?_⟩) b6 ?_
                    rotate_left 1
                    · intro u hu
                      go_simp
                      first | done | with_reducible rfl
                    go_simp
                    refine wpAnyH_oneG 45 (by kernel_rfl) rfl (by rfl) ?_
                    obtain ⟨p8, hp8⟩ : ∃ p, (jP D3 n3 c3 D4 n4 c4 D6 n6 c6 Ar cr) k8 = p := ⟨_, rfl⟩
                    have HP8 := Lib.hid hp8
                    have HR8 := Lib.hid (R8.out k8 hk8b)
                    rw [hp8] at HR8
                    obtain ⟨vs, hvs⟩ : ∃ vs, frV (jK k8 q) p8 = vs := ⟨_, rfl⟩
                    have HVS := Lib.hid hvs
                    refine wp_load_at (.tmp 79) rfl g8 (k8 * 10) (by with_unfolding_all rfl) (jK k8 q) p8 HR8.out ?_
                    rw [hvs]
                    clear hvs hp8 HR8 R8 L8
                    refine ⟨b6, ?_⟩
                    go_simp
                    refine wpAnyH_oneG 47 (by kernel_rfl) rfl (by rfl) ?_
                    have HFO := Lib.hid (HOW.out D3 n3 c3 D4 n4 c4 D6 n6 c6 Ar cr _ _ O3.out O4.out O6.out R5.out)
                    rw [HP8.out] at HFO
                    refine wp_store_fr (.tmp 7) (.tmp 80) rfl gv (jK k8 q) p8 (by with_unfolding_all rfl) (by rw [HVS.out]; with_unfolding_all rfl) ZV.out ?_
                    intro w7 MV OV
                    have b7 := b6.trans (OV.out.below b6.size HGV.out)
                    refine ⟨b7, ?_⟩
                    go_simp
                    refine wpAnyH_done (by kernel_rfl) ?_ _
                    go_wp2_with fail
                    go_meet
                    exact ⟨gv, p8, rfl, by rw [← HZw.out]; exact HGV.out, by rw [← HP8.out]; exact jP_nil _ _ _ _ _ _ _ _ _ _ _ _, MV, by rw [← HZw.out]; exact HFO.out.var ZV.out OV.out, HU.out _ b7⟩
        · as_aux_lemma =>
            refine wp_pair (.tmp 63) rfl h2 q w0.heap.size b0.size (by with_unfolding_all rfl) ?_
            intro Ar cr w1 R5 dd
            have b1 := b0.trans (dd.out.mono b0.size)
            refine ⟨b1, ?_⟩
            clear dd
            go_simp
            refine wpAnyH_take (i := 30) (v := ?_) rfl (by kernel_rfl) (by kernel_rfl) (by kernel_rfl) (fun _ _ _ h => h) (Or.inl ⟨by rfl, ?_⟩) b1 ?_
            rotate_left 1
            · intro u hu
              go_simp
              first | done | with_reducible rfl
            go_simp
            refine wpAnyH_twoG 15 46 (by kernel_rfl) rfl (by rfl) rfl (by rfl) ?_ ?_
            · as_aux_lemma =>
                go_wp2_with fail
                (with_reducible refine (HGA.out _).mono ?_)
                rintro e2 w2 ⟨D3, n3, c3, rfl, o, cc⟩
                have O3 := Lib.hid (o.base b1.size)
                have b2 := b1.trans (cc.mono b1.size)
                replace R5 := Lib.hid (R5.out.below cc)
                refine ⟨b2, ?_⟩
                clear o cc
                go_simp
                refine wpAnyH_take (i := 16) (v := ?_) rfl (by kernel_rfl) (by kernel_rfl) (by kernel_rfl) (fun _ _ _ h => h) (Or.inl ⟨by rfl, ?_⟩) b2 ?_
                rotate_left 1
                · intro u hu
                  go_simp
                  first | done | with_reducible rfl
                go_simp
                refine wpAnyH_twoG 22 46 (by kernel_rfl) rfl (by rfl) rfl (by rfl) ?_ ?_
                · as_aux_lemma =>
                    go_wp2_with fail
                    (with_reducible refine (HGB.out _).mono ?_)
                    rintro e3 w3 ⟨D4, n4, c4, rfl, o, cc⟩
                    have O4 := Lib.hid (o.base b2.size)
                    have b3 := b2.trans (cc.mono b2.size)
                    replace R5 := Lib.hid (R5.out.below cc)
                    replace O3 := Lib.hid (O3.out.below cc)
                    refine ⟨b3, ?_⟩
                    clear o cc
                    go_simp
                    refine wpAnyH_take (i := 23) (v := ?_) rfl (by kernel_rfl) (by kernel_rfl) (by kernel_rfl) (fun _ _ _ h => h) (Or.inl ⟨by rfl, ?_⟩) b3 ?_
                    rotate_left 1
                    · intro u hu
                      go_simp
                      first | done | with_reducible rfl
                    go_simp
                    refine wpAnyH_twoG 34 46 (by kernel_rfl) rfl (by rfl) rfl (by rfl) ?_ ?_
                    · as_aux_lemma =>
                        go_wp2_with fail
                        (with_reducible refine (HGC.out _).mono ?_)
                        rintro e4 w4 ⟨D6, n6, c6, rfl, o, cc⟩
                        have O6 := Lib.hid (o.base b3.size)
                        have b4 := b3.trans (cc.mono b3.size)
                        replace R5 := Lib.hid (R5.out.below cc)
                        replace O3 := Lib.hid (O3.out.below cc)
                        replace O4 := Lib.hid (O4.out.below cc)
                        refine ⟨b4, ?_⟩
                        clear o cc
                        go_simp
                        refine wpAnyH_take (i := 35) (v := ?_) rfl (by kernel_rfl) (by kernel_rfl) (by kernel_rfl) (fun _ _ _ h => h) (Or.inl ⟨by rfl, ?_⟩) b4 ?_
                        rotate_left 1
                        · intro u hu
                          go_simp
                          first | done | with_reducible rfl
                        go_simp
                        refine wpAnyH_twoG 38 46 (by kernel_rfl) rfl (by rfl) rfl (by rfl) ?_ ?_
                        · as_aux_lemma =>
                            refine wp_eight (.tmp 35) (.tmp 37) (.tmp 39) (.tmp 51) (.tmp 58) (.tmp 65) (.tmp 70) (.tmp 72) rfl q (jP D3 n3 c3 D4 n4 c4 D6 n6 c6 Ar cr) (by with_unfolding_all rfl) (by with_unfolding_all rfl) (by with_unfolding_all rfl) (by rw [HJ3.out]; with_unfolding_all rfl) (by rw [HJ4.out]; with_unfolding_all rfl) (by rw [HJ5.out]; with_unfolding_all rfl) (by rw [HJ6.out]; with_unfolding_all rfl) (by with_unfolding_all rfl) ?_
                            intro g8 w5 R8 L8 dd
                            have b5 := b4.trans (dd.out.mono b4.size)
                            replace R5 := Lib.hid (R5.out.below dd.out)
                            replace O3 := Lib.hid (O3.out.below dd.out)
                            replace O4 := Lib.hid (O4.out.below dd.out)
                            replace O6 := Lib.hid (O6.out.below dd.out)
                            refine ⟨b5, ?_⟩
                            clear dd
                            go_simp
                            refine wpAnyH_take (i := 44) (v := ?_) rfl (by kernel_rfl) (by kernel_rfl) (by kernel_rfl) (fun _ _ _ h => h) (Or.inl ⟨by rfl, ?_⟩) b5 ?_
                            rotate_left 1
                            · intro u hu
                              go_simp
                              first | done | with_reducible rfl
                            go_simp
                            refine wpAnyH_twoG 45 46 (by kernel_rfl) rfl (by rfl) rfl (by rfl) ?_ ?_
                            · as_aux_lemma =>
                                obtain ⟨p8, hp8⟩ : ∃ p, (jP D3 n3 c3 D4 n4 c4 D6 n6 c6 Ar cr) k8 = p := ⟨_, rfl⟩
                                have HP8 := Lib.hid hp8
                                have HR8 := Lib.hid (R8.out k8 hk8b)
                                rw [hp8] at HR8
                                obtain ⟨vs, hvs⟩ : ∃ vs, frV (jK k8 q) p8 = vs := ⟨_, rfl⟩
                                have HVS := Lib.hid hvs
                                refine wp_load_at (.tmp 79) rfl g8 (k8 * 10) (by with_unfolding_all rfl) (jK k8 q) p8 HR8.out ?_
                                rw [hvs]
                                clear hvs hp8 HR8 R8 L8
                                refine ⟨b5, ?_⟩
                                go_simp
                                refine wpAnyH_oneG 46 (by kernel_rfl) rfl (by rfl) ?_
                                refine wp_alloc_fr rfl ?_
                                intro gv w6 eg ZV dd
                                have HGV : Hid (w0.heap.size ≤ gv) := show _ ≤ _ by rw [eg.out]; exact b5.size
                                have b6 := b5.trans (dd.out.mono b5.size)
                                replace R5 := Lib.hid (R5.out.below dd.out)
                                replace O3 := Lib.hid (O3.out.below dd.out)
                                replace O4 := Lib.hid (O4.out.below dd.out)
                                replace O6 := Lib.hid (O6.out.below dd.out)
                                refine ⟨b6, ?_⟩
                                clear dd eg
                                go_simp
                                refine wpAnyH_oneG 47 (by kernel_rfl) rfl (by rfl) ?_
                                have HFO := Lib.hid (HOW.out D3 n3 c3 D4 n4 c4 D6 n6 c6 Ar cr _ _ O3.out O4.out O6.out R5.out)
                                rw [HP8.out] at HFO
                                refine wp_store_fr (.tmp 7) (.tmp 80) rfl gv (jK k8 q) p8 (by with_unfolding_all rfl) (by rw [HVS.out]; with_unfolding_all rfl) ZV.out ?_
                                intro w7 MV OV
                                have b7 := b6.trans (OV.out.below b6.size HGV.out)
                                refine ⟨b7, ?_⟩
                                go_simp
                                refine wpAnyH_done (by kernel_rfl) ?_ _
                                go_wp2_with fail
                                go_meet
                                exact ⟨gv, p8, rfl, by rw [← HZw.out]; exact HGV.out, by rw [← HP8.out]; exact jP_nil _ _ _ _ _ _ _ _ _ _ _ _, MV, by rw [← HZw.out]; exact HFO.out.var ZV.out OV.out, HU.out _ b7⟩
                            · as_aux_lemma =>
                                refine wp_alloc_fr rfl ?_
                                intro gv w6 eg ZV dd
                                have HGV : Hid (w0.heap.size ≤ gv) := show _ ≤ _ by rw [eg.out]; exact b5.size
                                have b6 := b5.trans (dd.out.mono b5.size)
                                replace R5 := Lib.hid (R5.out.below dd.out)
                                replace O3 := Lib.hid (O3.out.below dd.out)
                                replace O4 := Lib.hid (O4.out.below dd.out)
                                replace O6 := Lib.hid (O6.out.below dd.out)
                                replace R8 := Lib.hid fun k hk => range_belowJ (R8.out k hk) L8.out dd.out
                                replace L8 := Lib.hid (Nat.lt_of_lt_of_le L8.out (Below.size dd.out))
                                refine ⟨b6, ?_⟩
                                clear dd eg
                                go_simp
                                refine wpAnyH_oneG 45 (by kernel_rfl) rfl (by rfl) ?_
                                obtain ⟨p8, hp8⟩ : ∃ p, (jP D3 n3 c3 D4 n4 c4 D6 n6 c6 Ar cr) k8 = p := ⟨_, rfl⟩
                                have HP8 := Lib.hid hp8
                                have HR8 := Lib.hid (R8.out k8 hk8b)
                                rw [hp8] at HR8
                                obtain ⟨vs, hvs⟩ : ∃ vs, frV (jK k8 q) p8 = vs := ⟨_, rfl⟩
                                have HVS := Lib.hid hvs
                                refine wp_load_at (.tmp 79) rfl g8 (k8 * 10) (by with_unfolding_all rfl) (jK k8 q) p8 HR8.out ?_
                                rw [hvs]
                                clear hvs hp8 HR8 R8 L8
                                refine ⟨b6, ?_⟩
                                go_simp
                                refine wpAnyH_oneG 47 (by kernel_rfl) rfl (by rfl) ?_
                                have HFO := Lib.hid (HOW.out D3 n3 c3 D4 n4 c4 D6 n6 c6 Ar cr _ _ O3.out O4.out O6.out R5.out)
                                rw [HP8.out] at HFO
                                refine wp_store_fr (.tmp 7) (.tmp 80) rfl gv (jK k8 q) p8 (by with_unfolding_all rfl) (by rw [HVS.out]; with_unfolding_all rfl) ZV.out ?_
                                intro w7 MV OV
                                have b7 := b6.trans (OV.out.below b6.size HGV.out)
                                refine ⟨b7, ?_⟩
                                go_simp
                                refine wpAnyH_done (by kernel_rfl) ?_ _
                                go_wp2_with fail
                                go_meet
                                exact ⟨gv, p8, rfl, by rw [← HZw.out]; exact HGV.out, by rw [← HP8.out]; exact jP_nil _ _ _ _ _ _ _ _ _ _ _ _, MV, by rw [← HZw.out]; exact HFO.out.var ZV.out OV.out, HU.out _ b7⟩
                        · as_aux_lemma =>
                            refine wp_alloc_fr rfl ?_
                            intro gv w5 eg ZV dd
                            have HGV : Hid (w0.heap.size ≤ gv) := show _ ≤ _ by rw [eg.out]; exact b4.size
                            have b5 := b4.trans (dd.out.mono b4.size)
                            replace R5 := Lib.hid (R5.out.below dd.out)
                            replace O3 := Lib.hid (O3.out.below dd.out)
                            replace O4 := Lib.hid (O4.out.below dd.out)
                            replace O6 := Lib.hid (O6.out.below dd.out)
                            refine ⟨b5, ?_⟩
                            clear dd eg
                            go_simp
                            refine wpAnyH_oneG 38 (by kernel_rfl) rfl (by rfl) ?_
                            refine wp_eight (.tmp 35) (.tmp 37) (.tmp 39) (.tmp 51) (.tmp 58) (.tmp 65) (.tmp 70) (.tmp 72) rfl q (jP D3 n3 c3 D4 n4 c4 D6 n6 c6 Ar cr) (by with_unfolding_all rfl) (by with_unfolding_all rfl) (by with_unfolding_all rfl) (by rw [HJ3.out]; with_unfolding_all rfl) (by rw [HJ4.out]; with_unfolding_all rfl) (by rw [HJ5.out]; with_unfolding_all rfl) (by rw [HJ6.out]; with_unfolding_all rfl) (by with_unfolding_all rfl) ?_
                            intro g8 w6 R8 L8 dd
                            have b6 := b5.trans (dd.out.mono b5.size)
                            replace R5 := Lib.hid (R5.out.below dd.out)
                            replace O3 := Lib.hid (O3.out.below dd.out)
                            replace O4 := Lib.hid (O4.out.below dd.out)
                            replace O6 := Lib.hid (O6.out.below dd.out)
                            replace ZV := Lib.hid (ZV.out.below dd.out)
                            refine ⟨b6, ?_⟩
                            clear dd
                            go_simp
                            refine wpAnyH_take (i := 44) (v := ?_) rfl (by kernel_rfl) (by kernel_rfl) (by kernel_rfl) (fun _ _ _ h => h) (Or.inl ⟨by rfl, ?_⟩) b6 ?_
                            rotate_left 1
                            · intro u hu
                              go_simp
                              first | done | with_reducible rfl
                            go_simp
                            refine wpAnyH_oneG 45 (by kernel_rfl) rfl (by rfl) ?_
                            obtain ⟨p8, hp8⟩ : ∃ p, (jP D3 n3 c3 D4 n4 c4 D6 n6 c6 Ar cr) k8 = p := ⟨_, rfl⟩
                            have HP8 := Lib.hid hp8
                            have HR8 := Lib.hid (R8.out k8 hk8b)
                            rw [hp8] at HR8
                            obtain ⟨vs, hvs⟩ : ∃ vs, frV (jK k8 q) p8 = vs := ⟨_, rfl⟩
                            have HVS := Lib.hid hvs
                            refine wp_load_at (.tmp 79) rfl g8 (k8 * 10) (by with_unfolding_all rfl) (jK k8 q) p8 HR8.out ?_
                            rw [hvs]
                            clear hvs hp8 HR8 R8 L8
                            refine ⟨b6, ?_⟩
                            go_simp
                            refine wpAnyH_oneG 47 (by kernel_rfl) rfl (by rfl) ?_
                            have HFO := Lib.hid (HOW.out D3 n3 c3 D4 n4 c4 D6 n6 c6 Ar cr _ _ O3.out O4.out O6.out R5.out)
                            rw [HP8.out] at HFO
                            refine wp_store_fr (.tmp 7) (.tmp 80) rfl gv (jK k8 q) p8 (by with_unfolding_all rfl) (by rw [HVS.out]; with_unfolding_all rfl) ZV.out ?_
                            intro w7 MV OV
                            have b7 := b6.trans (OV.out.below b6.size HGV.out)
                            refine ⟨b7, ?_⟩
                            go_simp
                            refine wpAnyH_done (by kernel_rfl) ?_ _
                            go_wp2_with fail
                            go_meet
                            exact ⟨gv, p8, rfl, by rw [← HZw.out]; exact HGV.out, by rw [← HP8.out]; exact jP_nil _ _ _ _ _ _ _ _ _ _ _ _, MV, by rw [← HZw.out]; exact HFO.out.var ZV.out OV.out, HU.out _ b7⟩
                    · as_aux_lemma =>
                        refine wp_alloc_fr rfl ?_
                        intro gv w4 eg ZV dd
                        have HGV : Hid (w0.heap.size ≤ gv) := show _ ≤ _ by rw [eg.out]; exact b3.size
                        have b4 := b3.trans (dd.out.mono b3.size)
                        replace R5 := Lib.hid (R5.out.below dd.out)
                        replace O3 := Lib.hid (O3.out.below dd.out)
                        replace O4 := Lib.hid (O4.out.below dd.out)
                        refine ⟨b4, ?_⟩
                        clear dd eg
                        go_simp
                        refine wpAnyH_oneG 34 (by kernel_rfl) rfl (by rfl) ?_
                        go_wp2_with fail
                        (with_reducible refine (HGC.out _).mono ?_)
                        rintro e5 w5 ⟨D6, n6, c6, rfl, o, cc⟩
                        have O6 := Lib.hid (o.base b4.size)
                        have b5 := b4.trans (cc.mono b4.size)
                        replace R5 := Lib.hid (R5.out.below cc)
                        replace O3 := Lib.hid (O3.out.below cc)
                        replace O4 := Lib.hid (O4.out.below cc)
                        replace ZV := Lib.hid (ZV.out.below cc)
                        refine ⟨b5, ?_⟩
                        clear o cc
                        go_simp
                        refine wpAnyH_take (i := 35) (v := ?_) rfl (by kernel_rfl) (by kernel_rfl) (by kernel_rfl) (fun _ _ _ h => h) (Or.inl ⟨by rfl, ?_⟩) b5 ?_
                        rotate_left 1
                        · intro u hu
                          go_simp
                          first | done | with_reducible rfl
                        go_simp
                        refine wpAnyH_oneG 38 (by kernel_rfl) rfl (by rfl) ?_
                        refine wp_eight (.tmp 35) (.tmp 37) (.tmp 39) (.tmp 51) (.tmp 58) (.tmp 65) (.tmp 70) (.tmp 72) rfl q (jP D3 n3 c3 D4 n4 c4 D6 n6 c6 Ar cr) (by with_unfolding_all rfl) (by with_unfolding_all rfl) (by with_unfolding_all rfl) (by rw [HJ3.out]; with_unfolding_all rfl) (by rw [HJ4.out]; with_unfolding_all rfl) (by rw [HJ5.out]; with_unfolding_all rfl) (by rw [HJ6.out]; with_unfolding_all rfl) (by with_unfolding_all rfl) ?_
                        intro g8 w6 R8 L8 dd
                        have b6 := b5.trans (dd.out.mono b5.size)
                        replace R5 := Lib.hid (R5.out.below dd.out)
                        replace O3 := Lib.hid (O3.out.below dd.out)
                        replace O4 := Lib.hid (O4.out.below dd.out)
                        replace ZV := Lib.hid (ZV.out.below dd.out)
                        replace O6 := Lib.hid (O6.out.below dd.out)
                        refine ⟨b6, ?_⟩
                        clear dd
                        go_simp
                        refine wpAnyH_take (i := 44) (v := ?_) rfl (by kernel_rfl) (by kernel_rfl) (by kernel_rfl) (fun _ _ _ h => h) (Or.inl ⟨by rfl, ?_⟩) b6 ?_
                        rotate_left 1
                        · intro u hu
                          go_simp
                          first | done | with_reducible rfl
                        go_simp
                        refine wpAnyH_oneG 45 (by kernel_rfl) rfl (by rfl) ?_
                        obtain ⟨p8, hp8⟩ : ∃ p, (jP D3 n3 c3 D4 n4 c4 D6 n6 c6 Ar cr) k8 = p := ⟨_, rfl⟩
                        have HP8 := Lib.hid hp8
                        have HR8 := Lib.hid (R8.out k8 hk8b)
                        rw [hp8] at HR8
                        obtain ⟨vs, hvs⟩ : ∃ vs, frV (jK k8 q) p8 = vs := ⟨_, rfl⟩
                        have HVS := Lib.hid hvs
                        refine wp_load_at (.tmp 79) rfl g8 (k8 * 10) (by with_unfolding_all rfl) (jK k8 q) p8 HR8.out ?_
                        rw [hvs]
                        clear hvs hp8 HR8 R8 L8
                        refine ⟨b6, ?_⟩
                        go_simp
                        refine wpAnyH_oneG 47 (by kernel_rfl) rfl (by rfl) ?_
                        have HFO := Lib.hid (HOW.out D3 n3 c3 D4 n4 c4 D6 n6 c6 Ar cr _ _ O3.out O4.out O6.out R5.out)
                        rw [HP8.out] at HFO
                        refine wp_store_fr (.tmp 7) (.tmp 80) rfl gv (jK k8 q) p8 (by with_unfolding_all rfl) (by rw [HVS.out]; with_unfolding_all rfl) ZV.out ?_
                        intro w7 MV OV
                        have b7 := b6.trans (OV.out.below b6.size HGV.out)
                        refine ⟨b7, ?_⟩
                        go_simp
                        refine wpAnyH_done (by kernel_rfl) ?_ _
                        go_wp2_with fail
                        go_meet
                        exact ⟨gv, p8, rfl, by rw [← HZw.out]; exact HGV.out, by rw [← HP8.out]; exact jP_nil _ _ _ _ _ _ _ _ _ _ _ _, MV, by rw [← HZw.out]; exact HFO.out.var ZV.out OV.out, HU.out _ b7⟩
                · as_aux_lemma =>
                    refine wp_alloc_fr rfl ?_
                    intro gv w3 eg ZV dd
                    have HGV : Hid (w0.heap.size ≤ gv) := show _ ≤ _ by rw [eg.out]; exact b2.size
                    have b3 := b2.trans (dd.out.mono b2.size)
                    replace R5 := Lib.hid (R5.out.below dd.out)
                    replace O3 := Lib.hid (O3.out.below dd.out)
                    refine ⟨b3, ?_⟩
                    clear dd eg
                    go_simp
                    refine wpAnyH_oneG 22 (by kernel_rfl) rfl (by rfl) ?_
                    go_wp2_with fail
                    (with_reducible refine (HGB.out _).mono ?_)
                    rintro e4 w4 ⟨D4, n4, c4, rfl, o, cc⟩
                    have O4 := Lib.hid (o.base b3.size)
                    have b4 := b3.trans (cc.mono b3.size)
                    replace R5 := Lib.hid (R5.out.below cc)
                    replace O3 := Lib.hid (O3.out.below cc)
                    replace ZV := Lib.hid (ZV.out.below cc)
                    refine ⟨b4, ?_⟩
                    clear o cc
                    go_simp
                    refine wpAnyH_take (i := 23) (v := ?_) rfl (by kernel_rfl) (by kernel_rfl) (by kernel_rfl) (fun _ _ _ h => h) (Or.inl ⟨by rfl, ?_⟩) b4 ?_
                    rotate_left 1
                    · intro u hu
                      go_simp
                      first | done | with_reducible rfl
                    go_simp
                    refine wpAnyH_oneG 34 (by kernel_rfl) rfl (by rfl) ?_
                    go_wp2_with fail
                    (with_reducible refine (HGC.out _).mono ?_)
                    rintro e5 w5 ⟨D6, n6, c6, rfl, o, cc⟩
                    have O6 := Lib.hid (o.base b4.size)
                    have b5 := b4.trans (cc.mono b4.size)
                    replace R5 := Lib.hid (R5.out.below cc)
                    replace O3 := Lib.hid (O3.out.below cc)
                    replace ZV := Lib.hid (ZV.out.below cc)
                    replace O4 := Lib.hid (O4.out.below cc)
                    refine ⟨b5, ?_⟩
                    clear o cc
                    go_simp
                    refine wpAnyH_take (i := 35) (v := ?_) rfl (by kernel_rfl) (by kernel_rfl) (by kernel_rfl) (fun _ _ _ h => h) (Or.inl ⟨by rfl, ?_⟩) b5 ?_
                    rotate_left 1
                    · intro u hu
                      go_simp
                      first | done | with_reducible rfl
                    go_simp
                    refine wpAnyH_oneG 38 (by kernel_rfl) rfl (by rfl) ?_
                    refine wp_eight (.tmp 35) (.tmp 37) (.tmp 39) (.tmp 51) (.tmp 58) (.tmp 65) (.tmp 70) (.tmp 72) rfl q (jP D3 n3 c3 D4 n4 c4 D6 n6 c6 Ar cr) (by with_unfolding_all rfl) (by with_unfolding_all rfl) (by with_unfolding_all rfl) (by rw [HJ3.out]; with_unfolding_all rfl) (by rw [HJ4.out]; with_unfolding_all rfl) (by rw [HJ5.out]; with_unfolding_all rfl) (by rw [HJ6.out]; with_unfolding_all rfl) (by with_unfolding_all rfl) ?_
                    intro g8 w6 R8 L8 dd
                    have b6 := b5.trans (dd.out.mono b5.size)
                    replace R5 := Lib.hid (R5.out.below dd.out)
                    replace O3 := Lib.hid (O3.out.below dd.out)
                    replace ZV := Lib.hid (ZV.out.below dd.out)
                    replace O4 := Lib.hid (O4.out.below dd.out)
                    replace O6 := Lib.hid (O6.out.below dd.out)
                    refine ⟨b6, ?_⟩
                    clear dd
                    go_simp
                    refine wpAnyH_take (i := 44) (v := ?_) rfl (by kernel_rfl) (by kernel_rfl) (by kernel_rfl) (fun _ _ _ h => h) (Or.inl ⟨by rfl, ?_⟩) b6 ?_
                    rotate_left 1
                    · intro u hu
                      go_simp
                      first | done | with_reducible rfl
                    go_simp
                    refine wpAnyH_oneG 45 (by kernel_rfl) rfl (by rfl) ?_
                    obtain ⟨p8, hp8⟩ : ∃ p, (jP D3 n3 c3 D4 n4 c4 D6 n6 c6 Ar cr) k8 = p := ⟨_, rfl⟩
                    have HP8 := Lib.hid hp8
                    have HR8 := Lib.hid (R8.out k8 hk8b)
                    rw [hp8] at HR8
                    obtain ⟨vs, hvs⟩ : ∃ vs, frV (jK k8 q) p8 = vs := ⟨_, rfl⟩
                    have HVS := Lib.hid hvs
                    refine wp_load_at (.tmp 79) rfl g8 (k8 * 10) (by with_unfolding_all rfl) (jK k8 q) p8 HR8.out ?_
                    rw [hvs]
                    clear hvs hp8 HR8 R8 L8
                    refine ⟨b6, ?_⟩
                    go_simp
                    refine wpAnyH_oneG 47 (by kernel_rfl) rfl (by rfl) ?_
                    have HFO := Lib.hid (HOW.out D3 n3 c3 D4 n4 c4 D6 n6 c6 Ar cr _ _ O3.out O4.out O6.out R5.out)
                    rw [HP8.out] at HFO
                    refine wp_store_fr (.tmp 7) (.tmp 80) rfl gv (jK k8 q) p8 (by with_unfolding_all rfl) (by rw [HVS.out]; with_unfolding_all rfl) ZV.out ?_
                    intro w7 MV OV
                    have b7 := b6.trans (OV.out.below b6.size HGV.out)
                    refine ⟨b7, ?_⟩
                    go_simp
                    refine wpAnyH_done (by kernel_rfl) ?_ _
                    go_wp2_with fail
                    go_meet
                    exact ⟨gv, p8, rfl, by rw [← HZw.out]; exact HGV.out, by rw [← HP8.out]; exact jP_nil _ _ _ _ _ _ _ _ _ _ _ _, MV, by rw [← HZw.out]; exact HFO.out.var ZV.out OV.out, HU.out _ b7⟩
            · as_aux_lemma =>
                refine wp_alloc_fr rfl ?_
                intro gv w2 eg ZV dd
                have HGV : Hid (w0.heap.size ≤ gv) := show _ ≤ _ by rw [eg.out]; exact b1.size
                have b2 := b1.trans (dd.out.mono b1.size)
                replace R5 := Lib.hid (R5.out.below dd.out)
                refine ⟨b2, ?_⟩
                clear dd eg
                go_simp
                refine wpAnyH_oneG 15 (by kernel_rfl) rfl (by rfl) ?_
                go_wp2_with fail
                (with_reducible refine (HGA.out _).mono ?_)
                rintro e3 w3 ⟨D3, n3, c3, rfl, o, cc⟩
                have O3 := Lib.hid (o.base b2.size)
                have b3 := b2.trans (cc.mono b2.size)
                replace R5 := Lib.hid (R5.out.below cc)
                replace ZV := Lib.hid (ZV.out.below cc)
                refine ⟨b3, ?_⟩
                clear o cc
                go_simp
                refine wpAnyH_take (i := 16) (v := ?_) rfl (by kernel_rfl) (by kernel_rfl) (by kernel_rfl) (fun _ _ _ h => h) (Or.inl ⟨by rfl, ?_⟩) b3 ?_
                rotate_left 1
                · intro u hu
                  go_simp
                  first | done | with_reducible rfl
                go_simp
                refine wpAnyH_oneG 22 (by kernel_rfl) rfl (by rfl) ?_
                go_wp2_with fail
                (with_reducible refine (HGB.out _).mono ?_)
                rintro e4 w4 ⟨D4, n4, c4, rfl, o, cc⟩
                have O4 := Lib.hid (o.base b3.size)
                have b4 := b3.trans (cc.mono b3.size)
                replace R5 := Lib.hid (R5.out.below cc)
                replace ZV := Lib.hid (ZV.out.below cc)
                replace O3 := Lib.hid (O3.out.below cc)
                refine ⟨b4, ?_⟩
                clear o cc
                go_simp
                refine wpAnyH_take (i := 23) (v := ?_) rfl (by kernel_rfl) (by kernel_rfl) (by kernel_rfl) (fun _ _ _ h => h) (Or.inl ⟨by rfl, ?_⟩) b4 ?_
                rotate_left 1
                · intro u hu
                  go_simp
                  first | done | with_reducible rfl
                go_simp
                refine wpAnyH_oneG 34 (by kernel_rfl) rfl (by rfl) ?_
                go_wp2_with fail
                (with_reducible refine (HGC.out _).mono ?_)
                rintro e5 w5 ⟨D6, n6, c6, rfl, o, cc⟩
                have O6 := Lib.hid (o.base b4.size)
                have b5 := b4.trans (cc.mono b4.size)
                replace R5 := Lib.hid (R5.out.below cc)
                replace ZV := Lib.hid (ZV.out.below cc)
                replace O3 := Lib.hid (O3.out.below cc)
                replace O4 := Lib.hid (O4.out.below cc)
                refine ⟨b5, ?_⟩
                clear o cc
                go_simp
                refine wpAnyH_take (i := 35) (v := ?_) rfl (by kernel_rfl) (by kernel_rfl) (by kernel_rfl) (fun _ _ _ h => h) (Or.inl ⟨by rfl, ?_⟩) b5 ?_
                rotate_left 1
                · intro u hu
                  go_simp
                  first | done | with_reducible rfl
                go_simp
                refine wpAnyH_oneG 38 (by kernel_rfl) rfl (by rfl) ?_
                refine wp_eight (.tmp 35) (.tmp 37) (.tmp 39) (.tmp 51) (.tmp 58) (.tmp 65) (.tmp 70) (.tmp 72) rfl q (jP D3 n3 c3 D4 n4 c4 D6 n6 c6 Ar cr) (by with_unfolding_all rfl) (by with_unfolding_all rfl) (by with_unfolding_all rfl) (by rw [HJ3.out]; with_unfolding_all rfl) (by rw [HJ4.out]; with_unfolding_all rfl) (by rw [HJ5.out]; with_unfolding_all rfl) (by rw [HJ6.out]; with_unfolding_all rfl) (by with_unfolding_all rfl) ?_
                intro g8 w6 R8 L8 dd
                have b6 := b5.trans (dd.out.mono b5.size)
                replace R5 := Lib.hid (R5.out.below dd.out)
                replace ZV := Lib.hid (ZV.out.below dd.out)
                replace O3 := Lib.hid (O3.out.below dd.out)
                replace O4 := Lib.hid (O4.out.below dd.out)
                replace O6 := Lib.hid (O6.out.below dd.out)
                refine ⟨b6, ?_⟩
                clear dd
                go_simp
                refine wpAnyH_take (i := 44) (v := ?_) rfl (by kernel_rfl) (by kernel_rfl) (by kernel_rfl) (fun _ _ _ h => h) (Or.inl ⟨by rfl, ?_⟩) b6 ?_
                rotate_left 1
                · intro u hu
                  go_simp
                  first | done | with_reducible rfl
                go_simp
                refine wpAnyH_oneG 45 (by kernel_rfl) rfl (by rfl) ?_
                obtain ⟨p8, hp8⟩ : ∃ p, (jP D3 n3 c3 D4 n4 c4 D6 n6 c6 Ar cr) k8 = p := ⟨_, rfl⟩
                have HP8 := Lib.hid hp8
                have HR8 := Lib.hid (R8.out k8 hk8b)
                rw [hp8] at HR8
                obtain ⟨vs, hvs⟩ : ∃ vs, frV (jK k8 q) p8 = vs := ⟨_, rfl⟩
                have HVS := Lib.hid hvs
                refine wp_load_at (.tmp 79) rfl g8 (k8 * 10) (by with_unfolding_all rfl) (jK k8 q) p8 HR8.out ?_
                rw [hvs]
                clear hvs hp8 HR8 R8 L8
                refine ⟨b6, ?_⟩
                go_simp
                refine wpAnyH_oneG 47 (by kernel_rfl) rfl (by rfl) ?_
                have HFO := Lib.hid (HOW.out D3 n3 c3 D4 n4 c4 D6 n6 c6 Ar cr _ _ O3.out O4.out O6.out R5.out)
                rw [HP8.out] at HFO
                refine wp_store_fr (.tmp 7) (.tmp 80) rfl gv (jK k8 q) p8 (by with_unfolding_all rfl) (by rw [HVS.out]; with_unfolding_all rfl) ZV.out ?_
                intro w7 MV OV
                have b7 := b6.trans (OV.out.below b6.size HGV.out)
                refine ⟨b7, ?_⟩
                go_simp
                refine wpAnyH_done (by kernel_rfl) ?_ _
                go_wp2_with fail
                go_meet
                exact ⟨gv, p8, rfl, by rw [← HZw.out]; exact HGV.out, by rw [← HP8.out]; exact jP_nil _ _ _ _ _ _ _ _ _ _ _ _, MV, by rw [← HZw.out]; exact HFO.out.var ZV.out OV.out, HU.out _ b7⟩
        · as_aux_lemma =>
            refine wp_alloc_fr rfl ?_
            intro gv w1 eg ZV dd
            have HGV : Hid (w0.heap.size ≤ gv) := show _ ≤ _ by rw [eg.out]; exact b0.size
            have b1 := b0.trans (dd.out.mono b0.size)
            refine ⟨b1, ?_⟩
            clear dd eg
            go_simp
            refine wpAnyH_twoG 15 29 (by kernel_rfl) rfl (by rfl) rfl (by rfl) ?_ ?_
            · as_aux_lemma =>
                go_wp2_with fail
                (with_reducible refine (HGA.out _).mono ?_)
                rintro e2 w2 ⟨D3, n3, c3, rfl, o, cc⟩
                have O3 := Lib.hid (o.base b1.size)
                have b2 := b1.trans (cc.mono b1.size)
                replace ZV := Lib.hid (ZV.out.below cc)
                refine ⟨b2, ?_⟩
                clear o cc
                go_simp
                refine wpAnyH_take (i := 16) (v := ?_) rfl (by kernel_rfl) (by kernel_rfl) (by kernel_rfl) (fun _ _ _ h => h) (Or.inl ⟨by rfl, ?_⟩) b2 ?_
                rotate_left 1
                · intro u hu
                  go_simp
                  first | done | with_reducible rfl
                go_simp
                refine wpAnyH_twoG 22 29 (by kernel_rfl) rfl (by rfl) rfl (by rfl) ?_ ?_
                · as_aux_lemma =>
                    go_wp2_with fail
                    (with_reducible refine (HGB.out _).mono ?_)
                    rintro e3 w3 ⟨D4, n4, c4, rfl, o, cc⟩
                    have O4 := Lib.hid (o.base b2.size)
                    have b3 := b2.trans (cc.mono b2.size)
                    replace ZV := Lib.hid (ZV.out.below cc)
                    replace O3 := Lib.hid (O3.out.below cc)
                    refine ⟨b3, ?_⟩
                    clear o cc
                    go_simp
                    refine wpAnyH_take (i := 23) (v := ?_) rfl (by kernel_rfl) (by kernel_rfl) (by kernel_rfl) (fun _ _ _ h => h) (Or.inl ⟨by rfl, ?_⟩) b3 ?_
                    rotate_left 1
                    · intro u hu
                      go_simp
                      first | done | with_reducible rfl
                    go_simp
                    refine wpAnyH_twoG 29 34 (by kernel_rfl) rfl (by rfl) rfl (by rfl) ?_ ?_
                    · as_aux_lemma =>
                        refine wp_pair (.tmp 63) rfl h2 q w0.heap.size b3.size (by with_unfolding_all rfl) ?_
                        intro Ar cr w4 R5 dd
                        have b4 := b3.trans (dd.out.mono b3.size)
                        replace ZV := Lib.hid (ZV.out.below dd.out)
                        replace O3 := Lib.hid (O3.out.below dd.out)
                        replace O4 := Lib.hid (O4.out.below dd.out)
                        refine ⟨b4, ?_⟩
                        clear dd
                        go_simp
                        refine wpAnyH_take (i := 30) (v := ?_) rfl (by kernel_rfl) (by kernel_rfl) (by kernel_rfl) (fun _ _ _ h => h) (Or.inl ⟨by rfl, ?_⟩) b4 ?_
                        rotate_left 1
                        · intro u hu
                          go_simp
                          first | done | with_reducible rfl
                        go_simp
                        refine wpAnyH_oneG 34 (by kernel_rfl) rfl (by rfl) ?_
                        go_wp2_with fail
                        (with_reducible refine (HGC.out _).mono ?_)
                        rintro e5 w5 ⟨D6, n6, c6, rfl, o, cc⟩
                        have O6 := Lib.hid (o.base b4.size)
                        have b5 := b4.trans (cc.mono b4.size)
                        replace ZV := Lib.hid (ZV.out.below cc)
                        replace O3 := Lib.hid (O3.out.below cc)
                        replace O4 := Lib.hid (O4.out.below cc)
                        replace R5 := Lib.hid (R5.out.below cc)
                        refine ⟨b5, ?_⟩
                        clear o cc
                        go_simp
                        refine wpAnyH_take (i := 35) (v := ?_) rfl (by kernel_rfl) (by kernel_rfl) (by kernel_rfl) (fun _ _ _ h => h) (Or.inl ⟨by rfl, ?_⟩) b5 ?_
                        rotate_left 1
                        · intro u hu
                          go_simp
                          first | done | with_reducible rfl
                        go_simp
                        refine wpAnyH_oneG 38 (by kernel_rfl) rfl (by rfl) ?_
                        refine wp_eight (.tmp 35) (.tmp 37) (.tmp 39) (.tmp 51) (.tmp 58) (.tmp 65) (.tmp 70) (.tmp 72) rfl q (jP D3 n3 c3 D4 n4 c4 D6 n6 c6 Ar cr) (by with_unfolding_all rfl) (by with_unfolding_all rfl) (by with_unfolding_all rfl) (by rw [HJ3.out]; with_unfolding_all rfl) (by rw [HJ4.out]; with_unfolding_all rfl) (by rw [HJ5.out]; with_unfolding_all rfl) (by rw [HJ6.out]; with_unfolding_all rfl) (by with_unfolding_all rfl) ?_
                        intro g8 w6 R8 L8 dd
                        have b6 := b5.trans (dd.out.mono b5.size)
                        replace ZV := Lib.hid (ZV.out.below dd.out)
                        replace O3 := Lib.hid (O3.out.below dd.out)
                        replace O4 := Lib.hid (O4.out.below dd.out)
                        replace R5 := Lib.hid (R5.out.below dd.out)
                        replace O6 := Lib.hid (O6.out.below dd.out)
                        refine ⟨b6, ?_⟩
                        clear dd
                        go_simp
                        refine wpAnyH_take (i := 44) (v := ?_) rfl (by kernel_rfl) (by kernel_rfl) (by kernel_rfl) (fun _ _ _ h => h) (Or.inl ⟨by rfl, ?_⟩) b6 ?_
                        rotate_left 1
                        · intro u hu
                          go_simp
                          first | done | with_reducible rfl
                        go_simp
                        refine wpAnyH_oneG 45 (by kernel_rfl) rfl (by rfl) ?_
                        obtain ⟨p8, hp8⟩ : ∃ p, (jP D3 n3 c3 D4 n4 c4 D6 n6 c6 Ar cr) k8 = p := ⟨_, rfl⟩
                        have HP8 := Lib.hid hp8
                        have HR8 := Lib.hid (R8.out k8 hk8b)
                        rw [hp8] at HR8
                        obtain ⟨vs, hvs⟩ : ∃ vs, frV (jK k8 q) p8 = vs := ⟨_, rfl⟩
                        have HVS := Lib.hid hvs
                        refine wp_load_at (.tmp 79) rfl g8 (k8 * 10) (by with_unfolding_all rfl) (jK k8 q) p8 HR8.out ?_
                        rw [hvs]
                        clear hvs hp8 HR8 R8 L8
                        refine ⟨b6, ?_⟩
                        go_simp
                        refine wpAnyH_oneG 47 (by kernel_rfl) rfl (by rfl) ?_
                        have HFO := Lib.hid (HOW.out D3 n3 c3 D4 n4 c4 D6 n6 c6 Ar cr _ _ O3.out O4.out O6.out R5.out)
                        rw [HP8.out] at HFO
                        refine wp_store_fr (.tmp 7) (.tmp 80) rfl gv (jK k8 q) p8 (by with_unfolding_all rfl) (by rw [HVS.out]; with_unfolding_all rfl) ZV.out ?_
                        intro w7 MV OV
                        have b7 := b6.trans (OV.out.below b6.size HGV.out)
                        refine ⟨b7, ?_⟩
                        go_simp
                        refine wpAnyH_done (by kernel_rfl) ?_ _
                        go_wp2_with fail
                        go_meet
                        exact ⟨gv, p8, rfl, by rw [← HZw.out]; exact HGV.out, by rw [← HP8.out]; exact jP_nil _ _ _ _ _ _ _ _ _ _ _ _, MV, by rw [← HZw.out]; exact HFO.out.var ZV.out OV.out, HU.out _ b7⟩
                    · as_aux_lemma =>
                        go_wp2_with fail
                        (with_reducible refine (HGC.out _).mono ?_)
                        rintro e4 w4 ⟨D6, n6, c6, rfl, o, cc⟩
                        have O6 := Lib.hid (o.base b3.size)
                        have b4 := b3.trans (cc.mono b3.size)
                        replace ZV := Lib.hid (ZV.out.below cc)
                        replace O3 := Lib.hid (O3.out.below cc)
                        replace O4 := Lib.hid (O4.out.below cc)
                        refine ⟨b4, ?_⟩
                        clear o cc
                        go_simp
                        refine wpAnyH_take (i := 35) (v := ?_) rfl (by kernel_rfl) (by kernel_rfl) (by kernel_rfl) (fun _ _ _ h => h) (Or.inl ⟨by rfl, ?_⟩) b4 ?_
                        rotate_left 1
                        · intro u hu
                          go_simp
                          first | done | with_reducible rfl
                        go_simp
                        refine wpAnyH_oneG 29 (by kernel_rfl) rfl (by rfl) ?_
                        refine wp_pair (.tmp 63) rfl h2 q w0.heap.size b4.size (by with_unfolding_all rfl) ?_
                        intro Ar cr w5 R5 dd
                        have b5 := b4.trans (dd.out.mono b4.size)
                        replace ZV := Lib.hid (ZV.out.below dd.out)
                        replace O3 := Lib.hid (O3.out.below dd.out)
                        replace O4 := Lib.hid (O4.out.below dd.out)
                        replace O6 := Lib.hid (O6.out.below dd.out)
                        refine ⟨b5, ?_⟩
                        clear dd
                        go_simp
                        refine wpAnyH_take (i := 30) (v := ?_) rfl (by kernel_rfl) (by kernel_rfl) (by kernel_rfl) (fun _ _ _ h => h) (Or.inl ⟨by rfl, ?_⟩) b5 ?_
                        rotate_left 1
                        · intro u hu
                          go_simp
                          first | done | with_reducible rfl
                        go_simp
                        refine wpAnyH_oneG 38 (by kernel_rfl) rfl (by rfl) ?_
                        refine wp_eight (.tmp 35) (.tmp 37) (.tmp 39) (.tmp 51) (.tmp 58) (.tmp 65) (.tmp 70) (.tmp 72) rfl q (jP D3 n3 c3 D4 n4 c4 D6 n6 c6 Ar cr) (by with_unfolding_all rfl) (by with_unfolding_all rfl) (by with_unfolding_all rfl) (by rw [HJ3.out]; with_unfolding_all rfl) (by rw [HJ4.out]; with_unfolding_all rfl) (by rw [HJ5.out]; with_unfolding_all rfl) (by rw [HJ6.out]; with_unfolding_all rfl) (by with_unfolding_all rfl) ?_
                        intro g8 w6 R8 L8 dd
                        have b6 := b5.trans (dd.out.mono b5.size)
                        replace ZV := Lib.hid (ZV.out.below dd.out)
                        replace O3 := Lib.hid (O3.out.below dd.out)
                        replace O4 := Lib.hid (O4.out.below dd.out)
                        replace O6 := Lib.hid (O6.out.below dd.out)
                        replace R5 := Lib.hid (R5.out.below dd.out)
                        refine ⟨b6, ?_⟩
                        clear dd
                        go_simp
                        refine wpAnyH_take (i := 44) (v := ?_) rfl (by kernel_rfl) (by kernel_rfl) (by kernel_rfl) (fun _ _ _ h => h) (Or.inl ⟨by rfl, ?_⟩) b6 ?_
                        rotate_left 1
                        · intro u hu
                          go_simp
                          first | done | with_reducible rfl
                        go_simp
                        refine wpAnyH_oneG 45 (by kernel_rfl) rfl (by rfl) ?_
                        obtain ⟨p8, hp8⟩ : ∃ p, (jP D3 n3 c3 D4 n4 c4 D6 n6 c6 Ar cr) k8 = p := ⟨_, rfl⟩
                        have HP8 := Lib.hid hp8
                        have HR8 := Lib.hid (R8.out k8 hk8b)
                        rw [hp8] at HR8
                        obtain ⟨vs, hvs⟩ : ∃ vs, frV (jK k8 q) p8 = vs := ⟨_, rfl⟩
                        have HVS := Lib.hid hvs
                        refine wp_load_at (.tmp 79) rfl g8 (k8 * 10) (by with_unfolding_all rfl) (jK k8 q) p8 HR8.out ?_
                        rw [hvs]
                        clear hvs hp8 HR8 R8 L8
                        refine ⟨b6, ?_⟩
                        go_simp
                        refine wpAnyH_oneG 47 (by kernel_rfl) rfl (by rfl) ?_
                        have HFO := Lib.hid (HOW.out D3 n3 c3 D4 n4 c4 D6 n6 c6 Ar cr _ _ O3.out O4.out O6.out R5.out)
                        rw [HP8.out] at HFO
                        refine wp_store_fr (.tmp 7) (.tmp 80) rfl gv (jK k8 q) p8 (by with_unfolding_all rfl) (by rw [HVS.out]; with_unfolding_all rfl) ZV.out ?_
                        intro w7 MV OV
                        have b7 := b6.trans (OV.out.below b6.size HGV.out)
                        refine ⟨b7, ?_⟩
                        go_simp
                        refine wpAnyH_done (by kernel_rfl) ?_ _
                        go_wp2_with fail
                        go_meet
                        exact ⟨gv, p8, rfl, by rw [← HZw.out]; exact HGV.out, by rw [← HP8.out]; exact jP_nil _ _ _ _ _ _ _ _ _ _ _ _, MV, by rw [← HZw.out]; exact HFO.out.var ZV.out OV.out, HU.out _ b7⟩
                · as_aux_lemma =>
                    refine wp_pair (.tmp 63) rfl h2 q w0.heap.size b2.size (by with_unfolding_all rfl) ?_
                    intro Ar cr w3 R5 dd
                    have b3 := b2.trans (dd.out.mono b2.size)
                    replace ZV := Lib.hid (ZV.out.below dd.out)
                    replace O3 := Lib.hid (O3.out.below dd.out)
                    refine ⟨b3, ?_⟩
                    clear dd
                    go_simp
                    refine wpAnyH_take (i := 30) (v := ?_) rfl (by kernel_rfl) (by kernel_rfl) (by kernel_rfl) (fun _ _ _ h => h) (Or.inl ⟨by rfl, ?_⟩) b3 ?_
                    rotate_left 1
                    · intro u hu
                      go_simp
                      first | done | with_reducible rfl
                    go_simp
                    refine wpAnyH_oneG 22 (by kernel_rfl) rfl (by rfl) ?_
                    go_wp2_with fail
                    (with_reducible refine (HGB.out _).mono ?_)
                    rintro e4 w4 ⟨D4, n4, c4, rfl, o, cc⟩
                    have O4 := Lib.hid (o.base b3.size)
                    have b4 := b3.trans (cc.mono b3.size)
                    replace ZV := Lib.hid (ZV.out.below cc)
                    replace O3 := Lib.hid (O3.out.below cc)
                    replace R5 := Lib.hid (R5.out.below cc)
                    refine ⟨b4, ?_⟩
                    clear o cc
                    go_simp
                    refine wpAnyH_take (i := 23) (v := ?_) rfl (by kernel_rfl) (by kernel_rfl) (by kernel_rfl) (fun _ _ _ h => h) (Or.inl ⟨by rfl, ?_⟩) b4 ?_
                    rotate_left 1
                    · intro u hu
                      go_simp
                      first | done | with_reducible rfl
                    go_simp
                    refine wpAnyH_oneG 34 (by kernel_rfl) rfl (by rfl) ?_
                    go_wp2_with fail
                    (with_reducible refine (HGC.out _).mono ?_)
                    rintro e5 w5 ⟨D6, n6, c6, rfl, o, cc⟩
                    have O6 := Lib.hid (o.base b4.size)
                    have b5 := b4.trans (cc.mono b4.size)
                    replace ZV := Lib.hid (ZV.out.below cc)
                    replace O3 := Lib.hid (O3.out.below cc)
                    replace R5 := Lib.hid (R5.out.below cc)
                    replace O4 := Lib.hid (O4.out.below cc)
                    refine ⟨b5, ?_⟩
                    clear o cc
                    go_simp
                    refine wpAnyH_take (i := 35) (v := ?_) rfl (by kernel_rfl) (by kernel_rfl) (by kernel_rfl) (fun _ _ _ h => h) (Or.inl ⟨by rfl, ?_⟩) b5 ?_
                    rotate_left 1
                    · intro u hu
                      go_simp
                      first | done | with_reducible rfl
                    go_simp
                    refine wpAnyH_oneG 38 (by kernel_rfl) rfl (by rfl) ?_
                    refine wp_eight (.tmp 35) (.tmp 37) (.tmp 39) (.tmp 51) (.tmp 58) (.tmp 65) (.tmp 70) (.tmp 72) rfl q (jP D3 n3 c3 D4 n4 c4 D6 n6 c6 Ar cr) (by with_unfolding_all rfl) (by with_unfolding_all rfl) (by with_unfolding_all rfl) (by rw [HJ3.out]; with_unfolding_all rfl) (by rw [HJ4.out]; with_unfolding_all rfl) (by rw [HJ5.out]; with_unfolding_all rfl) (by rw [HJ6.out]; with_unfolding_all rfl) (by with_unfolding_all rfl) ?_
                    intro g8 w6 R8 L8 dd
                    have b6 := b5.trans (dd.out.mono b5.size)
                    replace ZV := Lib.hid (ZV.out.below dd.out)
                    replace O3 := Lib.hid (O3.out.below dd.out)
                    replace R5 := Lib.hid (R5.out.below dd.out)
                    replace O4 := Lib.hid (O4.out.below dd.out)
                    replace O6 := Lib.hid (O6.out.below dd.out)
                    refine ⟨b6, ?_⟩
                    clear dd
                    go_simp
                    refine wpAnyH_take (i := 44) (v := ?_) rfl (by kernel_rfl) (by kernel_rfl) (by kernel_rfl) (fun _ _ _ h => h) (Or.inl ⟨by rfl, ?_⟩) b6 ?_
                    rotate_left 1
                    · intro u hu
                      go_simp
                      first | done | with_reducible rfl
                    go_simp
                    refine wpAnyH_oneG 45 (by kernel_rfl) rfl (by rfl) ?_
                    obtain ⟨p8, hp8⟩ : ∃ p, (jP D3 n3 c3 D4 n4 c4 D6 n6 c6 Ar cr) k8 = p := ⟨_, rfl⟩
                    have HP8 := Lib.hid hp8
                    have HR8 := Lib.hid (R8.out k8 hk8b)
                    rw [hp8] at HR8
                    obtain ⟨vs, hvs⟩ : ∃ vs, frV (jK k8 q) p8 = vs := ⟨_, rfl⟩
                    have HVS := Lib.hid hvs
                    refine wp_load_at (.tmp 79) rfl g8 (k8 * 10) (by with_unfolding_all rfl) (jK k8 q) p8 HR8.out ?_
                    rw [hvs]
                    clear hvs hp8 HR8 R8 L8
                    refine ⟨b6, ?_⟩
                    go_simp
                    refine wpAnyH_oneG 47 (by kernel_rfl) rfl (by rfl) ?_
                    have HFO := Lib.hid (HOW.out D3 n3 c3 D4 n4 c4 D6 n6 c6 Ar cr _ _ O3.out O4.out O6.out R5.out)
                    rw [HP8.out] at HFO
                    refine wp_store_fr (.tmp 7) (.tmp 80) rfl gv (jK k8 q) p8 (by with_unfolding_all rfl) (by rw [HVS.out]; with_unfolding_all rfl) ZV.out ?_
                    intro w7 MV OV
                    have b7 := b6.trans (OV.out.below b6.size HGV.out)
                    refine ⟨b7, ?_⟩
                    go_simp
                    refine wpAnyH_done (by kernel_rfl) ?_ _
                    go_wp2_with fail
                    go_meet
                    exact ⟨gv, p8, rfl, by rw [← HZw.out]; exact HGV.out, by rw [← HP8.out]; exact jP_nil _ _ _ _ _ _ _ _ _ _ _ _, MV, by rw [← HZw.out]; exact HFO.out.var ZV.out OV.out, HU.out _ b7⟩
            · as_aux_lemma =>
                refine wp_pair (.tmp 63) rfl h2 q w0.heap.size b1.size (by with_unfolding_all rfl) ?_
                intro Ar cr w2 R5 dd
                have b2 := b1.trans (dd.out.mono b1.size)
                replace ZV := Lib.hid (ZV.out.below dd.out)
                refine ⟨b2, ?_⟩
                clear dd
                go_simp
                refine wpAnyH_take (i := 30) (v := ?_) rfl (by kernel_rfl) (by kernel_rfl) (by kernel_rfl) (fun _ _ _ h => h) (Or.inl ⟨by rfl, ?_⟩) b2 ?_
                rotate_left 1
                · intro u hu
                  go_simp
                  first | done | with_reducible rfl
                go_simp
                refine wpAnyH_oneG 15 (by kernel_rfl) rfl (by rfl) ?_
                go_wp2_with fail
                (with_reducible refine (HGA.out _).mono ?_)
                rintro e3 w3 ⟨D3, n3, c3, rfl, o, cc⟩
                have O3 := Lib.hid (o.base b2.size)
                have b3 := b2.trans (cc.mono b2.size)
                replace ZV := Lib.hid (ZV.out.below cc)
                replace R5 := Lib.hid (R5.out.below cc)
                refine ⟨b3, ?_⟩
                clear o cc
                go_simp
                refine wpAnyH_take (i := 16) (v := ?_) rfl (by kernel_rfl) (by kernel_rfl) (by kernel_rfl) (fun _ _ _ h => h) (Or.inl ⟨by rfl, ?_⟩) b3 ?_
                rotate_left 1
                · intro u hu
                  go_simp
                  first | done | with_reducible rfl
                go_simp
                refine wpAnyH_oneG 22 (by kernel_rfl) rfl (by rfl) ?_
                go_wp2_with fail
                (with_reducible refine (HGB.out _).mono ?_)
                rintro e4 w4 ⟨D4, n4, c4, rfl, o, cc⟩
                have O4 := Lib.hid (o.base b3.size)
                have b4 := b3.trans (cc.mono b3.size)
                replace ZV := Lib.hid (ZV.out.below cc)
                replace R5 := Lib.hid (R5.out.below cc)
                replace O3 := Lib.hid (O3.out.below cc)
                refine ⟨b4, ?_⟩
                clear o cc
                go_simp
                refine wpAnyH_take (i := 23) (v := ?_) rfl (by kernel_rfl) (by kernel_rfl) (by kernel_rfl) (fun _ _ _ h => h) (Or.inl ⟨by rfl, ?_⟩) b4 ?_
                rotate_left 1
                · intro u hu
                  go_simp
                  first | done | with_reducible rfl
                go_simp
                refine wpAnyH_oneG 34 (by kernel_rfl) rfl (by rfl) ?_
                go_wp2_with fail
                (with_reducible refine (HGC.out _).mono ?_)
                rintro e5 w5 ⟨D6, n6, c6, rfl, o, cc⟩
                have O6 := Lib.hid (o.base b4.size)
                have b5 := b4.trans (cc.mono b4.size)
                replace ZV := Lib.hid (ZV.out.below cc)
                replace R5 := Lib.hid (R5.out.below cc)
                replace O3 := Lib.hid (O3.out.below cc)
                replace O4 := Lib.hid (O4.out.below cc)
                refine ⟨b5, ?_⟩
                clear o cc
                go_simp
                refine wpAnyH_take (i := 35) (v := ?_) rfl (by kernel_rfl) (by kernel_rfl) (by kernel_rfl) (fun _ _ _ h => h) (Or.inl ⟨by rfl, ?_⟩) b5 ?_
                rotate_left 1
                · intro u hu
                  go_simp
                  first | done | with_reducible rfl
                go_simp
                refine wpAnyH_oneG 38 (by kernel_rfl) rfl (by rfl) ?_
                refine wp_eight (.tmp 35) (.tmp 37) (.tmp 39) (.tmp 51) (.tmp 58) (.tmp 65) (.tmp 70) (.tmp 72) rfl q (jP D3 n3 c3 D4 n4 c4 D6 n6 c6 Ar cr) (by with_unfolding_all rfl) (by with_unfolding_all rfl) (by with_unfolding_all rfl) (by rw [HJ3.out]; with_unfolding_all rfl) (by rw [HJ4.out]; with_unfolding_all rfl) (by rw [HJ5.out]; with_unfolding_all rfl) (by rw [HJ6.out]; with_unfolding_all rfl) (by with_unfolding_all rfl) ?_
                intro g8 w6 R8 L8 dd
                have b6 := b5.trans (dd.out.mono b5.size)
                replace ZV := Lib.hid (ZV.out.below dd.out)
                replace R5 := Lib.hid (R5.out.below dd.out)
                replace O3 := Lib.hid (O3.out.below dd.out)
                replace O4 := Lib.hid (O4.out.below dd.out)
                replace O6 := Lib.hid (O6.out.below dd.out)
                refine ⟨b6, ?_⟩
                clear dd
                go_simp
                refine wpAnyH_take (i := 44) (v := ?_) rfl (by kernel_rfl) (by kernel_rfl) (by kernel_rfl) (fun _ _ _ h => h) (Or.inl ⟨by rfl, ?_⟩) b6 ?_
                rotate_left 1
                · intro u hu
                  go_simp
                  first | done | with_reducible rfl
                go_simp
                refine wpAnyH_oneG 45 (by kernel_rfl) rfl (by rfl) ?_
                obtain ⟨p8, hp8⟩ : ∃ p, (jP D3 n3 c3 D4 n4 c4 D6 n6 c6 Ar cr) k8 = p := ⟨_, rfl⟩
                have HP8 := Lib.hid hp8
                have HR8 := Lib.hid (R8.out k8 hk8b)
                rw [hp8] at HR8
                obtain ⟨vs, hvs⟩ : ∃ vs, frV (jK k8 q) p8 = vs := ⟨_, rfl⟩
                have HVS := Lib.hid hvs
                refine wp_load_at (.tmp 79) rfl g8 (k8 * 10) (by with_unfolding_all rfl) (jK k8 q) p8 HR8.out ?_
                rw [hvs]
                clear hvs hp8 HR8 R8 L8
                refine ⟨b6, ?_⟩
                go_simp
                refine wpAnyH_oneG 47 (by kernel_rfl) rfl (by rfl) ?_
                have HFO := Lib.hid (HOW.out D3 n3 c3 D4 n4 c4 D6 n6 c6 Ar cr _ _ O3.out O4.out O6.out R5.out)
                rw [HP8.out] at HFO
                refine wp_store_fr (.tmp 7) (.tmp 80) rfl gv (jK k8 q) p8 (by with_unfolding_all rfl) (by rw [HVS.out]; with_unfolding_all rfl) ZV.out ?_
                intro w7 MV OV
                have b7 := b6.trans (OV.out.below b6.size HGV.out)
                refine ⟨b7, ?_⟩
                go_simp
                refine wpAnyH_done (by kernel_rfl) ?_ _
                go_wp2_with fail
                go_meet
                exact ⟨gv, p8, rfl, by rw [← HZw.out]; exact HGV.out, by rw [← HP8.out]; exact jP_nil _ _ _ _ _ _ _ _ _ _ _ _, MV, by rw [← HZw.out]; exact HFO.out.var ZV.out OV.out, HU.out _ b7⟩
      case rest =>
        obtain ⟨gv, p, rfl, hgv, hpn, RW, FO, BW⟩ := hcut
        clear e1 e2 hk8b f1 lk f2 g1 f3 g2 f4 g3 f5 g4 g5 f6 f6' f7 f8 HJ3 HJ4 HJ5 HJ6 HGA HGB HGC HOW hcz HCZ HQ HCE
        obtain ⟨f, hf⟩ : ∃ f, jK k8 q = f := ⟨_, rfl⟩
        have HPL : Hid ((putF f).length ≤ 200) := show _ ≤ 200 by rw [← hf]; exact jK_put _ _
        rw [hf] at RW FO HFE
        have HNU : Hid (FrN f) := show FrN f by rw [← HFE.out, HZ.out]; exact jF_nums HZB.out
        have HMY : Hid (MayF f) := show MayF f by rw [← HFE.out, HZ.out]; exact jF_may HZB.out
        have HSZ := Lib.hid (frV_size f p)
        have HGV := Lib.hid hgv
        have HPN := Lib.hid hpn
        have O1' := Lib.hid (O1.out.below BW.out)
        have V1' := Lib.hid (V1.out.below BW.out)
        have RV0 := Lib.hid (rangeJ RW.out)
        have BWw := Lib.hid (B1.out.trans (BW.out.mono B1.out.size))
        have HNE : Hid (some gv ≠ (Value.slice A2 j e).ownBlock) := fun h => absurd ((World.ownsRow.lt V1.out.row gv h.symm).2) (by have := HGV.out; omega)
        clear hf hgv hpn
        go_wp2_with (first
          | ((with_reducible refine wpList_load_frJ rfl (.tmp 7) rfl gv 0 ?hx (frV f p) RV0.out HSZ.out ?_); (case hx => with_unfolding_all rfl))
          | (refine wpList_frame1 rfl (.tmp 82) rfl f p ?hx ?_; (case hx => with_unfolding_all rfl); intro ga w1 R1 D1)
          | (at_builtin; refine wpList_append_frame rfl _ _ rfl w.heap.size (.slice A2 j e) j fps rfl (V1'.out.below D1.out) ga f p rfl ?hr ?hf (by omega) (Nat.le_trans BWw.out.size D1.out.size) w (BWw.out.trans (D1.out.mono BWw.out.size)) ?_; (case hr => exact rangeJ R1.out); (case hf => exact (FO.out.base B1.out.size).below D1.out); intro A3 c3 w3 O3 G3 B3; have RW3 := Lib.hid ((RW.out.below D1.out).grownJ G3.out HNE.out); have RV1 := Lib.hid (rangeJ RW3.out))
          | ((with_reducible refine wpList_load_frJ rfl (.tmp 7) rfl gv 0 ?hx (frV f p) RV1.out HSZ.out ?_); (case hx => with_unfolding_all rfl)))
        have FO3 := Lib.hid ((FO.out.below D1.out).grown (V1'.out.below D1.out).row G3.out)
        have OB3 : Hid (Own w3 w.heap.size (.slice A1 m d) m (joinF (jL zs j))) := own_grown (e := 0) (by decide) (O1'.out.below D1.out) (V1'.out.below D1.out).row G3.out
        have HPUT : Hid (Calls Try.prog 12 #[.agg (frV f p).toArray] w3 (MakesB w3 (putF f))) := fput_any f p w3.heap.size w3 (Nat.le_refl _) FO3.out.l HNU.out (putF f) ⟨fun _ => rfl, fun h => absurd HMY.out h⟩
        have HAP : Hid (∀ x ∈ fps ++ [(f, p)], ApartJ A1 x.2) := fun x hx => by
          rcases List.mem_append.1 hx with hx | hx
          · exact HF.out x hx
          · obtain rfl : x = (f, p) := by simpa using hx
            exact ApartJ.new HPN.out O1.out FO.out (Nat.le_refl _)
        (with_reducible refine HPUT.out.mono ?_)
        rintro e4 w4 ⟨A4, n4, c4, rfl, o4, b4⟩
        have hn4 : n4 ≤ 200 := by rw [← o4.len]; exact HPL.out
        have O4 := Lib.hid o4
        have OB4 := Lib.hid (OB3.out.below b4)
        have V4 := Lib.hid (O3.out.below b4)
        have B4 := Lib.hid (B3.out.trans (b4.mono B3.out.size))
        clear o4 b4 HPUT FO3 OB3 O3 G3 B3 RW3 RV1 R1 D1 RV0 V1' O1' BWw HNE HSZ
        go_wp2_with (at_builtin; refine wpList_append_bytesJ rfl _ _ rfl w.heap.size A1 m d (joinF (jL zs j)) rfl OB4.out w4.heap.size A4 n4 c4 (putF f) rfl O4.out.sl (by omega) B4.out.size w B4.out ?_; intro A5 c5 w5 O5 G5 N5 B5)
        have V5 := Lib.hid (V4.out.grownB OB4.out G5.out HAP.out)
        go_roundw
        case rel =>
          refine ⟨j + 1, A5, m + n4, c5, A3, j + 1, c3, fps ++ [(f, p)], by go_num, rfl, rfl, by omega, by omega, rfl, ?_, V5.out, ?_, fun x hx => (HAP.out x hx).next (V4.out.each x hx) N5.out, B5.out⟩
          · show Own _ _ _ _ _
            rw [jL_join, HFE.out]
            exact O5.out
          · show _ = _
            rw [List.map_append, HM.out, jL_succ, HFE.out]
            rfl
        case measure => simp [intOf]; omega
    · obtain rfl : j = n := by omega
      obtain ⟨j1, hj1⟩ : ∃ j1, j = j1 + 1 := ⟨j - 1, by omega⟩
      obtain ⟨m1, hm1⟩ : ∃ m1, m = m1 + 1 := ⟨m - 1, by
        have h0 : 0 < m := by
          rw [← O1.out.len, hj1, jL_join]
          obtain ⟨b', u, hu⟩ := putF_ne _ (jF_may (HIN.out.1 j1))
          rw [hu, List.length_append, List.length_cons]
          omega
        omega⟩
      obtain ⟨g, hg⟩ : ∃ g, jF (zs.getD j1 0) = g := ⟨_, rfl⟩
      have hMs : jL zs j = jL zs j1 ++ [g] := by rw [hj1, jL_succ, hg]
      have hmay := jL_may (j := j) HIN.out.1
      have hgm : MayF g := by rw [← hg]; exact jF_may (HIN.out.1 j1)
      have hgn : FrN g := by rw [← hg]; exact jF_nums (HIN.out.1 j1)
      have hgk : g.kind ≠ 0 := by rw [← hg]; exact jK_kind _ _
      have hX : allX (joinF (jL zs j)) = .ok (jL zs j) := allX_join _ hmay (apart_kinds _ jL_kind) (by rw [jL_len]; omega) (by rw [jL_len]; omega)
      have hXS : allX ((joinF (jL zs j)).take ((joinF (jL zs j)).length - 1)) = if 1 < (putF g).length then .error 3 else if jL zs j1 = [] then .error 5 else .ok (jL zs j1) := by
        rw [hMs]
        exact allX_short _ g (fun f hf => hmay f (by rw [hMs]; exact List.mem_append_left _ hf)) hgm jL_kind hgk (by rw [jL_len]; omega)
      have hXE : (jL zs j1 = []) ↔ j1 = 0 := by
        have := jL_len zs j1
        constructor
        · intro h
          rw [h] at this
          simpa using this.symm
        · intro h
          rw [h] at this
          exact List.eq_nil_of_length_eq_zero (by rw [h]; exact this)
      have HM1 : Hid ((jL zs j1).length = j1) := jL_len zs j1
      have hl0 := O1.out.len
      obtain ⟨L, hL⟩ : ∃ L, joinF (jL zs j) = L := ⟨_, rfl⟩
      rw [hL] at hX hXS O1 hl0
      rw [hl0, show m - 1 = m1 by omega] at hXS
      have HAT : Hid (∀ i, i < j → (jL zs j)[i]? = some (jF (zs.getD i 0))) := fun i hi => jL_at zs hi
      have HML : Hid ((jL zs j).length = j) := jL_len zs j
      obtain ⟨M, hM⟩ : ∃ M, jL zs j = M := ⟨_, rfl⟩
      obtain ⟨N, hN⟩ : ∃ N, jL zs j1 = N := ⟨_, rfl⟩
      rw [hM] at hX HM HAT HML
      rw [hN] at hXS hXE HM1
      obtain ⟨tg, htg⟩ : ∃ t, (putF g).length = t := ⟨_, rfl⟩
      rw [htg] at hXS
      obtain ⟨g1, rfl, hg1, hg1s⟩ := O1.out.at_ (by omega)
      have HD : Hid (m ≤ d ∧ d ≤ maxLen) := O1.out.bnd
      obtain ⟨X2, hX2⟩ : ∃ X, (if 1 < tg then Except.error 3 else if N = [] then Except.error 5 else Except.ok N : Except Nat (List Fr)) = X := ⟨_, rfl⟩
      rw [hX2] at hXS
      have HXV := Lib.hid hX2
      have HXE := Lib.hid hXE
      have HAL1 : Hid (∀ (u : World) (A7 : Option Addr) (c7 : Nat), Own u wr.heap.size (.slice A7 m c7) m L → Calls Try.prog 24 #[.slice A7 m c7] u (AllsF u (.ok M))) := fun u A7 c7 hu => by
        rw [← hX]
        exact fall_any L _ m c7 u.heap.size u hu.sl (Nat.le_refl _) hu.bnd.1 hu.bnd.2
      have HAL2 : Hid (∀ u : World, Own u w.heap.size (.slice (some ⟨g1, 0, none⟩) m d) m L → Calls Try.prog 24 #[.slice (some ⟨g1, 0, none⟩) m1 d] u (AllsF u X2)) := fun u hu => by
        rw [← hXS]
        exact fall_any (L.take m1) _ m1 d u.heap.size u (hu.sl.take (by omega)) (Nat.le_refl _) (by have := HD.out.1; omega) HD.out.2
      have hcut : ∀ u : World, (Instr.slice 24 (.slice (some ⟨g1, 0, none⟩) m d) none (some (.int .i64 (m1 : Int))) none).run Try.prog u = .ok (.slice (some ⟨g1, 0, none⟩) m1 d) u := fun u => by
        rw [run_cut_to u _ m d m1 (by have := HD.out.1; omega), if_neg (by have := HD.out.1; omega)]
        rfl
      have HGM := Lib.hid hgm
      have HGN := Lib.hid hgn
      have HTG := Lib.hid htg
      have HG := Lib.hid hg
      have i1 : (m : Int) - 1 = (m1 : Int) := by omega
      have i2 : (j : Int) - 1 = (j1 : Int) := by omega
      have tm : ((m : Int) == 0) = false := by simp; omega
      have tk : ((j : Int) != (j : Int)) = false := by simp
      have hm4 : m ≤ 4000 := by omega
      have hm14 : m1 < m := by omega
      have hj1j : j1 < j := by omega
      have HJ1 := Lib.hid hj1
      have HM2 := Lib.hid hm1
      clear hM hN hL hX hXS hX2 hXE hMs hmay hgm hgn hgk hg htg hj1 hm1 hl0 hg1s HCE
      go_wp2_with (at_builtin; refine wpList_append_bytesJ rfl _ _ rfl wr.heap.size none 0 0 [] rfl (Own.nil _ _) wr.heap.size (some ⟨g1, 0, none⟩) m d L rfl O1.out.sl (by omega) (Nat.le_refl _) wr (Below.refl _ _) ?_; intro A7 c7 w7 O7 G7 N7 B7)
      simp only [Nat.zero_add, List.nil_append] at O7 ⊢
      (with_reducible refine (HAL1.out w7 A7 c7 O7.out).mono ?_)
      rintro e2 w2 h2
      obtain ⟨A3, n3, c3, fps3, rfl, o3, hf3, b3⟩ := h2
      have hn3 : n3 = j := by
        have e1 := o3.len
        have e3 := congrArg List.length hf3
        rw [List.length_map, HML.out] at e3
        omega
      subst hn3
      have O3 := Lib.hid o3
      have HF3 := Lib.hid hf3
      have C3 : Hid (Below wr.heap.size wr w2) := B7.out.trans (b3.mono B7.out.size)
      have B3 := Lib.hid (B1.out.trans (C3.out.mono B1.out.size))
      have V3 := Lib.hid (V1.out.below C3.out)
      have W3 := Lib.hid (O1.out.below C3.out)
      clear o3 hf3 b3 HAL1 V1 O1 O7 G7 N7 B7
      simp only
      go_wp2_with fail
      go_loopw [10] (fun i wr => ∃ j : Nat, i = .int .i64 j ∧ j ≤ n3 ∧ Hid (Below w2.heap.size w2 wr)) (fun i _ => n3 - (intOf i).toNat)
      case atStart => exact ⟨0, rfl, Nat.zero_le _, Below.refl _ _⟩
      case round =>
        obtain ⟨jj, rfl, hjj, B⟩ := hrel
        by_cases hlt : jj < n3
        · obtain ⟨fj, hfe⟩ : ∃ fj, jF (zs.getD jj 0) = fj := ⟨_, rfl⟩
          have hfj := HAT.out jj hlt
          rw [hfe] at hfj
          have hjm : MayF fj := by rw [← hfe]; exact jF_may (HIN.out.1 jj)
          have hjn : FrN fj := by rw [← hfe]; exact jF_nums (HIN.out.1 jj)
          obtain ⟨p1, g3, rfl, hg3, fo1, r1⟩ := pick_rowJ O3.out jj hlt fj (by rw [HF3.out]; exact hfj)
          obtain ⟨p2, g2, rfl, hg2, fo2, r2⟩ := pick_rowJ V3.out jj hlt fj (by rw [HM.out]; exact hfj)
          have HSAME : Hid (∀ u, Below w2.heap.size w2 u → Calls Try.prog 19 #[.agg (frV fj p1).toArray, .agg (frV fj p2).toArray] u fun e w' => e = .returned (.bool true) ∧ Below w2.heap.size w2 w') := fun u hu =>
            (fsame_any fj fj p1 p2 u.heap.size u (Nat.le_refl _) (fo1.below hu).l (fo2.below hu).l true (by simp)).mono fun e w' h => ⟨h.1, hu.trans (h.2.mono hu.size)⟩
          have HMAY : Hid (∀ u, Below w2.heap.size w2 u → Calls Try.prog 14 #[.agg (frV fj p2).toArray] u fun e w' => e = .returned (.bool true) ∧ Below w2.heap.size w2 w') := fun u hu =>
            (may_any fj p2 u.heap.size u (Nat.le_refl _) (fo2.below hu).l hjn true (by simp [hjm])).mono fun e w' h => ⟨h.1, hu.trans (h.2.mono hu.size)⟩
          have HR : Hid (∀ u, Below w2.heap.size w2 u → u.rangeAt g3 (jj * 10) (frV fj p1) ∧ u.rangeAt g2 (jj * 10) (frV fj p2)) := fun u hu => ⟨range_belowJ r1 hg3 hu, range_belowJ r2 hg2 hu⟩
          have HSZ1 := Lib.hid (frV_size fj p1)
          have HSZ2 := Lib.hid (frV_size fj p2)
          obtain ⟨vs1, hv1⟩ : ∃ y, frV fj p1 = y := ⟨_, rfl⟩
          obtain ⟨vs2, hv2⟩ : ∃ y, frV fj p2 = y := ⟨_, rfl⟩
          rw [hv1, hv2] at HSAME HR
          rw [hv2] at HMAY
          rw [hv1] at HSZ1
          rw [hv2] at HSZ2
          have lt1 : (jj : Int) < (n3 : Int) := by omega
          clear hfj hfe hg3 hg2 fo1 fo2 r1 r2 hv1 hv2 hjm hjn
          go_wp2_with fail
          refine wp_held (S := fun u => Below w2.heap.size w2 u) (by kernel_rfl) ?_
          have hS : Below w2.heap.size w2 wr.drew := below_drJ B.out
          refine wpAnyH_take (i := 0) (v := ?_) rfl (by kernel_rfl) (by kernel_rfl) (by kernel_rfl) (fun _ _ _ h => h) (Or.inl ⟨by rfl, ?_⟩) hS ?_
          rotate_left 1
          · intro u hu
            go_simp
            first | done | with_reducible rfl
          go_simp
          refine wpAnyH_take (i := 1) (v := ?_) rfl (by kernel_rfl) (by kernel_rfl) (by kernel_rfl) (fun _ _ _ h => h) (Or.inl ⟨by rfl, ?_⟩) hS ?_
          rotate_left 1
          · intro u hu
            go_simp
            first | done | with_reducible rfl
          go_simp
          refine wpAnyH_take (i := 2) (v := ?_) rfl (by kernel_rfl) (by kernel_rfl) (by kernel_rfl) (fun _ _ _ h => h) (Or.inl ⟨by rfl, ?_⟩) hS ?_
          rotate_left 1
          · intro u hu
            go_simp
            first | done | with_reducible rfl
          go_simp
          refine wpAnyH_pickG 3 (.agg vs1.toArray) rfl (by kernel_rfl) (by kernel_rfl) (by kernel_rfl) (by rfl) (fun _ _ _ h => h) (fun u hu => exec_load_mid u 26 (.tmp 117) rfl g3 (jj * 10) (by with_unfolding_all rfl) vs1 _ (HR.out u hu).1 Try.underlying26 rfl HSZ1.out) hS ?_
          go_simp
          refine wpAnyH_take (i := 4) (v := ?_) rfl (by kernel_rfl) (by kernel_rfl) (by kernel_rfl) (fun _ _ _ h => h) (Or.inl ⟨by rfl, ?_⟩) hS ?_
          rotate_left 1
          · intro u hu
            go_simp
            first | done | with_reducible rfl
          go_simp
          refine wpAnyH_take (i := 5) (v := ?_) rfl (by kernel_rfl) (by kernel_rfl) (by kernel_rfl) (fun _ _ _ h => h) (Or.inl ⟨by rfl, ?_⟩) hS ?_
          rotate_left 1
          · intro u hu
            go_simp
            first | done | with_reducible rfl
          go_simp
          refine wpAnyH_take (i := 6) (v := ?_) rfl (by kernel_rfl) (by kernel_rfl) (by kernel_rfl) (fun _ _ _ h => h) (Or.inl ⟨by rfl, ?_⟩) hS ?_
          rotate_left 1
          · intro u hu
            go_simp
            first | done | with_reducible rfl
          go_simp
          refine wpAnyH_pickG 7 (.agg vs2.toArray) rfl (by kernel_rfl) (by kernel_rfl) (by kernel_rfl) (by rfl) (fun _ _ _ h => h) (fun u hu => exec_load_mid u 26 (.tmp 121) rfl g2 (jj * 10) (by with_unfolding_all rfl) vs2 _ (HR.out u hu).2 Try.underlying26 rfl HSZ2.out) hS ?_
          go_simp
          refine wpAnyH_oneG 8 (by kernel_rfl) rfl (by rfl) ?_
          go_wp2_with fail
          (with_reducible refine (HSAME.out _ hS).mono ?_)
          rintro e9 w9 ⟨rfl, hS9⟩
          refine ⟨hS9, ?_⟩
          clear hS
          refine wpAnyH_take (i := 9) (v := ?_) rfl (by kernel_rfl) (by kernel_rfl) (by kernel_rfl) (fun _ _ _ h => h) (Or.inl ⟨by rfl, ?_⟩) hS9 ?_
          rotate_left 1
          · intro u hu
            go_simp
            first | done | with_reducible rfl
          go_simp
          refine wpAnyH_take (i := 10) (v := ?_) rfl (by kernel_rfl) (by kernel_rfl) (by kernel_rfl) (fun _ _ _ h => h) (Or.inl ⟨by rfl, ?_⟩) hS9 ?_
          rotate_left 1
          · intro u hu
            go_simp
            first | done | with_reducible rfl
          go_simp
          refine wpAnyH_take (i := 11) (v := ?_) rfl (by kernel_rfl) (by kernel_rfl) (by kernel_rfl) (fun _ _ _ h => h) (Or.inl ⟨by rfl, ?_⟩) hS9 ?_
          rotate_left 1
          · intro u hu
            go_simp
            first | done | with_reducible rfl
          go_simp
          refine wpAnyH_take (i := 12) (v := ?_) rfl (by kernel_rfl) (by kernel_rfl) (by kernel_rfl) (fun _ _ _ h => h) (Or.inl ⟨by rfl, ?_⟩) hS9 ?_
          rotate_left 1
          · intro u hu
            go_simp
            first | done | with_reducible rfl
          go_simp
          refine wpAnyH_take (i := 13) (v := ?_) rfl (by kernel_rfl) (by kernel_rfl) (by kernel_rfl) (fun _ _ _ h => h) (Or.inl ⟨by rfl, ?_⟩) hS9 ?_
          rotate_left 1
          · intro u hu
            go_simp
            first | done | with_reducible rfl
          go_simp
          refine wpAnyH_pickG 14 (.agg vs2.toArray) rfl (by kernel_rfl) (by kernel_rfl) (by kernel_rfl) (by rfl) (fun _ _ _ h => h) (fun u hu => exec_load_mid u 26 (.tmp 128) rfl g2 (jj * 10) (by with_unfolding_all rfl) vs2 _ (HR.out u hu).2 Try.underlying26 rfl HSZ2.out) hS9 ?_
          go_simp
          refine wpAnyH_oneG 15 (by kernel_rfl) rfl (by rfl) ?_
          go_wp2_with fail
          (with_reducible refine (HMAY.out _ hS9).mono ?_)
          rintro e10 w10 ⟨rfl, hSa⟩
          refine ⟨hSa, ?_⟩
          clear hS9
          refine wpAnyH_take (i := 16) (v := ?_) rfl (by kernel_rfl) (by kernel_rfl) (by kernel_rfl) (fun _ _ _ h => h) (Or.inl ⟨by rfl, ?_⟩) hSa ?_
          rotate_left 1
          · intro u hu
            go_simp
            first | done | with_reducible rfl
          go_simp
          refine wpAnyH_take (i := 17) (v := ?_) rfl (by kernel_rfl) (by kernel_rfl) (by kernel_rfl) (fun _ _ _ h => h) (Or.inl ⟨by rfl, ?_⟩) hSa ?_
          rotate_left 1
          · intro u hu
            go_simp
            first | done | with_reducible rfl
          go_simp
          refine wpAnyH_done (by kernel_rfl) ?_ _
          go_wp2_with fail
          go_roundw
          case rel => exact ⟨jj + 1, by go_num, Nat.succ_le_of_lt hlt, hSa⟩
          case measure => simp [intOf]; omega
        · obtain rfl : jj = n3 := by omega
          have lt1 : ¬ (jj : Int) < (jj : Int) := by omega
          have B4 := Lib.hid (B3.out.trans (B.out.mono B3.out.size))
          have W4 := Lib.hid (W3.out.below B.out)
          have hgj : (fps.map (·.1))[j1]? = some g := by rw [HM.out, HAT.out j1 hj1j, HG.out]
          obtain ⟨p2, g2, rfl, hg2, fo2, r2⟩ := pick_rowJ (V3.out.below B.out) j1 hj1j g hgj
          have HLEN : Hid (∀ u, Below wr.heap.size wr u → Calls Try.prog 17 #[.agg (frV g p2).toArray] u fun e w' => e = .returned (.int .i64 (tg : Int)) ∧ Below u.heap.size u w') := fun u hu => by
            rw [← HTG.out]
            exact flen_any g p2 u.heap.size u (Nat.le_refl _) (fo2.below hu).l HGN.out _ ⟨fun _ => rfl, fun h => absurd HGM.out h⟩
          have HR := Lib.hid r2
          have HSZ2 := Lib.hid (frV_size g p2)
          obtain ⟨vs2, hv2⟩ : ∃ y, frV g p2 = y := ⟨_, rfl⟩
          rw [hv2] at HLEN HR HSZ2
          have lt2 : (j1 : Int) < (jj : Int) := by omega
          clear hgj hg2 fo2 r2 hv2 V3 W3 O3 HM HF HF3 C3
          go_wp2_with (first | ((with_reducible refine wpList_load_frJ rfl (.tmp 137) rfl g2 (j1 * 10) ?hx vs2 HR.out HSZ2.out ?_); (case hx => with_unfolding_all rfl)))
          (with_reducible refine (HLEN.out _ (Below.refl _ _)).mono ?_)
          rintro e5 w5 ⟨rfl, b5⟩
          have W5 := Lib.hid (W4.out.below b5)
          have B5 := Lib.hid (B4.out.trans (b5.mono B4.out.size))
          clear b5 W4 B4 HLEN HR HSZ2
          go_wp2_with fail
          (with_reducible refine (HAL2.out _ W5.out).mono ?_)
          intro e6 w6 h6
          by_cases h1t : 1 < tg
          · have hx6 : X2 = .error 3 := by rw [← HXV.out, if_pos h1t]
            rw [hx6] at h6
            obtain ⟨rfl, b6⟩ := h6
            have B6 := Lib.hid (B5.out.trans (b6.mono B5.out.size))
            have l1 : (1 : Int) < (tg : Int) := by omega
            clear hx6 b6
            simp only
            go_wp2_with fail
            (with_reducible refine (HAW.out _ B6.out).mono ?_)
            rintro e10 w10 ⟨rfl, b10⟩
            go_wp2
            go_ret
            exact ⟨rfl, b10⟩
          · by_cases hj0 : j1 = 0
            · have hx6 : X2 = .error 5 := by rw [← HXV.out, if_neg h1t, if_pos (HXE.out.2 hj0)]
              rw [hx6] at h6
              obtain ⟨rfl, b6⟩ := h6
              have B6 := Lib.hid (B5.out.trans (b6.mono B5.out.size))
              have l1 : ¬ (1 : Int) < (tg : Int) := by omega
              have l2 : ((jj : Int) == 1) = true := by have := HJ1.out; simp; omega
              clear hx6 b6
              simp only
              go_wp2_with fail
              (with_reducible refine (HAW.out _ B6.out).mono ?_)
              rintro e10 w10 ⟨rfl, b10⟩
              go_wp2
              go_ret
              exact ⟨rfl, b10⟩
            · have hx6 : X2 = .ok N := by rw [← HXV.out, if_neg h1t, if_neg (fun h => hj0 (HXE.out.1 h))]
              rw [hx6] at h6
              obtain ⟨A6, n6, c6, fps6, rfl, o6, hf6, b6⟩ := h6
              have hn6 : n6 = j1 := by
                have e1 := o6.len
                have e3 := congrArg List.length hf6
                rw [List.length_map, HM1.out] at e3
                omega
              subst hn6
              have B6 := Lib.hid (B5.out.trans (b6.mono B5.out.size))
              have l1 : ¬ (1 : Int) < (tg : Int) := by omega
              have l2 : ((n6 : Int) == (n6 : Int)) = true := by simp
              clear hx6 b6 o6 hf6
              simp only
              go_wp2_with fail
              (with_reducible refine (HAW.out _ B6.out).mono ?_)
              rintro e10 w10 ⟨rfl, b10⟩
              go_wp2
              go_ret
              exact ⟨rfl, b10⟩
end Go.Proofs.Ytcipmfhacloegaa
