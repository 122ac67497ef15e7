/-
  The contract of Open.
-/
import Derived.Test.YtkeleehkjllgeaaGcmI
import Derived.Laws.Cover3
namespace Go.Proofs.Ytkeleehkjllgeaa
open Go.RowKit
set_option linter.unusedVariables false

theorem wp_alloc_blq {P : Program} {o : Oper} {a : Act} {w : World} {K : Act → World → Prop} {Q : Exit → Act → World → Prop} (ty : TypeId) (ho : o.op = .alloc ty) (z : List UInt64) (hz : ∀ u : World, (zeroValue ty).run P u = .ok (.agg (qvs z).toArray) u)
    (h : ∀ g w', Hid (g = w.heap.size) → Hid (Blq w' g ty z) → Hid (Below w.heap.size w w') → K (a.put o.dst (.pointer (some ⟨g, 0, none⟩))) w') : o.wp P a w K Q := by
  have h1 := h w.heap.size (w.alloc (.cells (qvs z).toArray ty)) rfl (heap_alloc_new _ _) ((Below.refl _ _).alloc (Nat.le_refl _) _)
  unfold Oper.wp execOp
  simp only [ho, Instr.alloc, newVar, newRow, Value.cells, Sem.run_bind, Sem.run_pure, Result.andThen_ok, hz]
  exact h1
theorem xor_zero_eq (a b : UInt64) (h : a ^^^ b = 0) : a = b := by
  have e : a ^^^ b ^^^ b = a := by rw [UInt64.xor_assoc, UInt64.xor_self, UInt64.xor_zero]
  rw [← e, h, UInt64.zero_xor]
theorem or_zero (x y : UInt64) (h : x ||| y = 0) : x = 0 ∧ y = 0 := by
  have e : (x ||| y).toNat = 0 := by rw [h]; rfl
  rw [UInt64.toNat_or, Nat.or_eq_zero_iff] at e
  exact ⟨UInt64.toNat_inj.1 e.1, UInt64.toNat_inj.1 e.2⟩
/-- blocks that are the same just if their halves, crossed, have no bit -/
theorem unlike_iff (t s : List UInt8) (ht : t.length = 16) (hs : s.length = 16) : (hiQ t ^^^ hiQ s) ||| (loQ t ^^^ loQ s) = 0 ↔ t = s := by
  constructor
  · intro h
    obtain ⟨h1, h2⟩ := or_zero _ _ h
    rw [← pair_halves t ht, ← pair_halves s hs, xor_zero_eq _ _ h1, xor_zero_eq _ _ h2]
  · rintro rfl
    rw [UInt64.xor_self, UInt64.xor_self]
    rfl
/-- what Open answers -/
def Opens (w : World) (r : List UInt8 × Int) (e : Ending) (w' : World) : Prop :=
  ∃ A n c, e = .returned (.tuple #[.slice A n c, .int .i64 r.2]) ∧ Own w' w.heap.size (.slice A n c) n r.1 ∧ n ≤ c ∧ c ≤ maxLen ∧ Below w.heap.size w w'

attribute [local go_sem] u64_or'
set_option maxHeartbeats 4000000 in
theorem open_any (key nonce sld data : List UInt8) (hk : key.length = 16) (hno : nonce.length = 12) (A1 A2 : Option Addr) (n1 c1 n2 c2 B : Nat) (w : World) (hs1 : Sl w B A1 n1 sld) (hs2 : Sl w B A2 n2 data) (hB : B ≤ w.heap.size) (hnc1 : n1 ≤ c1) (hcm1 : c1 ≤ maxLen) (hn1 : n1 ≤ 1000000) (hnc2 : n2 ≤ c2) (hcm2 : c2 ≤ maxLen) (hn2 : n2 ≤ 1000000) :
    Calls Try.prog 13 #[.agg (bvs key).toArray, .agg (bvs nonce).toArray, .slice A1 n1 c1, .slice A2 n2 c2] w (Opens w (openG key nonce sld data 3 7)) := by
  by_cases hsh : n1 < 16
  · have e : openG key nonce sld data 3 7 = ([], 3) := by unfold openG; rw [if_pos (by rw [hs1.1]; exact hsh)]
    rw [e]
    have t1 : decide ((n1 : Int) < 16) = true := by simp; omega
    clear hs1 hs2 e
    go_enter Try.func13, Try.ntmps13
    go_wp2_with fail
    go_ret2
    exact ⟨none, 0, 0, rfl, Own.nil _ _, Nat.le_refl _, by simp [maxLen], ((Below.refl _ _).alloc (Nat.le_refl _) _).alloc (by simp) _⟩
  · have t1 : decide ((n1 : Int) < 16) = false := by simp; omega
    obtain ⟨m, hm⟩ : ∃ m, n1 - 16 = m := ⟨_, rfl⟩
    have hmi : (n1 : Int) - 16 = (m : Int) := by omega
    obtain ⟨b, off, rfl, hbB, hcell⟩ := hs1.2 (by omega)
    obtain ⟨hid, hhid⟩ : ∃ x, sld.take m = x := ⟨_, rfl⟩
    obtain ⟨told, htold⟩ : ∃ x, sld.drop m = x := ⟨_, rfl⟩
    obtain ⟨tg, htg⟩ : ∃ x, tagG key nonce hid data = x := ⟨_, rfl⟩
    have hl1 := hs1.1
    have HTL : Hid (told.length = 16) := show _ = _ by rw [← htold, List.length_drop]; omega
    have HGL : Hid (tg.length = 16) := show _ = _ by rw [← htg]; exact tagG_length _ _ _ _ hk hno
    have hS1 : Sl w B (some ⟨b, off, none⟩) m hid := by rw [← hhid]; exact hs1.take (by omega)
    have hS3 : Sl w B (some ⟨b, off + m, none⟩) 16 told := by
      have h := hs1.drop (k := m) (c := c1) (by omega) hnc1
      rw [if_neg (by omega), htold] at h
      have e : n1 - m = 16 := by omega
      rw [e] at h
      simpa [addr_add] using h
    have HP : Hid (∀ u : World, Below w.heap.size w u → Sl u B (some ⟨b, off, none⟩) m hid ∧ Sl u B A2 n2 data ∧ Sl u B (some ⟨b, off + m, none⟩) 16 told) := fun u hu => ⟨hS1.below (hu.mono hB), hs2.below (hu.mono hB), hS3.below (hu.mono hB)⟩
    have HO : Hid (openG key nonce sld data 3 7 = if tg = told then (turnG key nonce hid, 0) else ([], 7)) := show _ = _ by
      unfold openG
      rw [if_neg (by omega), hl1, hm, hhid, htold, htg]
    obtain ⟨r, hr⟩ : ∃ r, openG key nonce sld data 3 7 = r := ⟨_, rfl⟩
    rw [hr] at HO ⊢
    have Hk := Lib.hid hk
    have Hno := Lib.hid hno
    have HB := Lib.hid hB
    have HN2 : Hid (n2 ≤ c2 ∧ c2 ≤ maxLen) := ⟨hnc2, hcm2⟩
    have HTG := Lib.hid htg
    have HCM := Lib.hid hcm1
    have cu1 : ∀ u : World, (Instr.slice 24 (.slice (some ⟨b, off, none⟩) n1 c1) none (some (.int .i64 (m : Int))) none).run Try.prog u = .ok (.slice (some ⟨b, off, none⟩) m c1) u := fun u => by
      rw [run_cut_to u _ n1 c1 m (by omega), if_neg (by omega)]
      simp [addr_add]
    have cu2 : ∀ u : World, (Instr.slice 24 (.slice (some ⟨b, off, none⟩) n1 c1) (some (.int .i64 (m : Int))) none none).run Try.prog u = .ok (.slice (some ⟨b, off + m, none⟩) 16 (c1 - m)) u := fun u => by
      rw [run_cut_bytes u _ n1 c1 m (by omega) (by omega), if_neg (by omega), show n1 - m = 16 by omega]
      simp [addr_add]
    have cu3 : ∀ u : World, (Instr.arrayAt 22 (.slice (some ⟨b, off + m, none⟩) 16 (c1 - m))).run Try.prog u = .ok (.pointer (some ⟨b, off + m, none⟩)) u := fun u => run_arrayAt u _ _ 16 _ 16 _ Try.underlying22 (Nat.le_refl _)
    have HM : Hid (m ≤ c1 ∧ m ≤ 1000000) := ⟨by omega, by omega⟩
    clear hs1 hs2 hk hno hcell hcm2 hnc2 hcm1 htold hhid htg hl1 hS1 hS3 hm hB hr
    go_enter Try.func13, Try.ntmps13
    go_upto_region 3 with fail
    refine wp_forget (fun w1 => Blk w1 w.heap.size 22 key ∧ Blk w1 (w.heap.size + 1) 23 nonce ∧ Below w.heap.size w w1) ⟨heap_allocs w [_, _] 0 _ rfl, heap_allocs w [_, _] 1 _ rfl, ((Below.refl _ _).alloc (Nat.le_refl _) _).alloc (by simp) _⟩ ?_
    intro wr ⟨h1, h2, h3⟩
    have K1 := Lib.hid h1
    have N1 := Lib.hid h2
    have B1 := Lib.hid h3
    clear h1 h2 h3
    go_upto_region 4 with fail
    go_cut [11, 12] from 15 to 48 (fun v11 v wx => v11 = .slice (some ⟨b, off, none⟩) m c1 ∧ ∃ gA : Nat, v = .pointer (some ⟨gA, 0, none⟩) ∧ Hid (wr.heap.size ≤ gA) ∧ Hid (Blk wx gA 22 told) ∧ Hid (Below wr.heap.size wr wx))
    case first =>
      refine wp_held (S := fun u => Below wr.drew.heap.size wr.drew u) (by kernel_rfl) ?_
      have BW0 := Lib.hid B1.out.drew
      obtain ⟨w0, hw0⟩ : ∃ x, wr.drew = x := ⟨_, rfl⟩
      have HU : Hid (∀ u, Below w0.heap.size w0 u → Below wr.heap.size wr u) := fun u hu => by rw [← hw0] at hu; exact ⟨hu.os, hu.tape, hu.output, hu.size, hu.block⟩
      have HZ : Hid (w0.heap.size = wr.heap.size) := show _ = _ by rw [← hw0]; rfl
      rw [hw0] at BW0 ⊢
      clear hw0
      have b0 : Below w0.heap.size w0 w0 := Below.refl _ _
      refine wpAnyH_take (i := 0) (v := ?_) rfl (by kernel_rfl) (by kernel_rfl) (by kernel_rfl) (fun _ _ _ h => h) (Or.inl ⟨by rfl, ?_⟩) b0 ?_
      rotate_left 1
      · intro u hu
        go_simp
        first | done | with_reducible rfl
      go_simp
      refine wpAnyH_take (i := 1) (v := ?_) rfl (by kernel_rfl) (by kernel_rfl) (by kernel_rfl) (fun _ _ _ h => h) (Or.inl ⟨by rfl, ?_⟩) b0 ?_
      rotate_left 1
      · intro u hu
        go_simp
        first | done | with_reducible rfl
      go_simp
      refine wpAnyH_take (i := 2) (v := ?_) rfl (by kernel_rfl) (by kernel_rfl) (by kernel_rfl) (fun _ _ _ h => h) (Or.inl ⟨by rfl, ?_⟩) b0 ?_
      rotate_left 1
      · intro u hu
        go_simp
        first | done | with_reducible rfl
      go_simp
      refine wpAnyH_take (i := 3) (v := ?_) rfl (by kernel_rfl) (by kernel_rfl) (by kernel_rfl) (fun _ _ _ h => h) (Or.inl ⟨by rfl, ?_⟩) b0 ?_
      rotate_left 1
      · intro u hu
        go_simp
        first | done | with_reducible rfl
      go_simp
      refine wpAnyH_take (i := 4) (v := ?_) rfl (by kernel_rfl) (by kernel_rfl) (by kernel_rfl) (fun _ _ _ h => h) (Or.inl ⟨by rfl, ?_⟩) b0 ?_
      rotate_left 1
      · intro u hu
        go_simp
        first | done | with_reducible rfl
      go_simp
      refine wpAnyH_take (i := 5) (v := ?_) rfl (by kernel_rfl) (by kernel_rfl) (by kernel_rfl) (fun _ _ _ h => h) (Or.inl ⟨by rfl, ?_⟩) b0 ?_
      rotate_left 1
      · intro u hu
        go_simp
        first | done | with_reducible rfl
      go_simp
      refine wpAnyH_take (i := 6) (v := ?_) rfl (by kernel_rfl) (by kernel_rfl) (by kernel_rfl) (fun _ _ _ h => h) (Or.inl ⟨by rfl, ?_⟩) b0 ?_
      rotate_left 1
      · intro u hu
        go_simp
        first | done | with_reducible rfl
      go_simp
      refine wpAnyH_pickG 7 (.agg (bvs told).toArray) rfl (by kernel_rfl) (by kernel_rfl) (by kernel_rfl) (by rfl) (fun _ _ _ h => h) (fun u hu => exec_load_part u 22 (.tmp 27) rfl b (off + m) (by with_unfolding_all rfl) told ((HP.out u (BW0.out.trans (hu.mono BW0.out.size))).2.2.range) 16 5 Try.underlying22 16 sizeRow HTL.out) b0 ?_
      go_simp
      refine wpAnyH_oneG 8 (by kernel_rfl) rfl (by rfl) ?_
      refine wp_alloc_blk 22 rfl (List.replicate 16 0) zero16v ?_
      intro gA w1 eA Z1 c1
      have b1 := b0.trans (c1.out.mono b0.size)
      have HG : Hid (w0.heap.size ≤ gA) := show _ ≤ _ by rw [eA.out]; exact b0.size
      refine ⟨b1, ?_⟩
      clear c1 eA
      refine wpAnyH_take (i := 9) (v := ?_) rfl (by kernel_rfl) (by kernel_rfl) (by kernel_rfl) (fun _ _ _ h => h) (Or.inl ⟨by rfl, ?_⟩) b1 ?_
      rotate_left 1
      · intro u hu
        go_simp
        first | done | with_reducible rfl
      go_simp
      refine wpAnyH_oneG 10 (by kernel_rfl) rfl (by rfl) ?_
      refine wp_store_blk 22 (.tmp 12) (.tmp 28) rfl gA (told) (by with_unfolding_all rfl) (by with_unfolding_all rfl) 22 (List.replicate 16 0) Z1.out 16 sizeRow HTL.out rfl ?_
      intro w2 M2 O2
      have b2 := b1.trans (O2.out.below b1.size HG.out)
      refine ⟨b2, ?_⟩
      refine wpAnyH_done (by kernel_rfl) ?_ _
      go_wp2_with fail
      go_meet
      exact ⟨rfl, gA, rfl, show _ ≤ _ by rw [← HZ.out]; exact HG.out, M2, HU.out _ b2⟩
    case rest =>
      obtain ⟨rfl, g12, rfl, HG12, T2, HB2⟩ := hcut
      have K2 := Lib.hid (K1.out.below HB2.out)
      have N2 := Lib.hid (N1.out.below HB2.out)
      have B2 := Lib.hid (B1.out.trans (HB2.out.mono B1.out.size))
      have hg12 : w.heap.size + 1 < g12 := Nat.lt_of_lt_of_le N1.out.lt HG12.out
      clear K1 N1 B1 HG12 HB2 cu1 cu2 cu3
      obtain ⟨w2, hw2⟩ : ∃ x, wc = x := ⟨_, rfl⟩
      rw [hw2] at T2 K2 N2 B2 ⊢
      clear hw2
      clear wr
      go_wp2_with (first
        | ((with_reducible refine wpList_load_blk rfl 22 (.tmp 4) rfl w.heap.size ?hx 22 key ?hg 16 5 Try.underlying22 16 sizeRow Hk.out ?_); (case hx => with_unfolding_all rfl); (case hg => with_reducible exact K2.out))
        | ((with_reducible refine wpList_load_blk rfl 23 (.tmp 5) rfl (w.heap.size + 1) ?hx 23 nonce ?hg 12 5 Try.underlying23 12 size12 Hno.out ?_); (case hx => with_unfolding_all rfl); (case hg => with_reducible exact N2.out))
        | (go_at_call 23; (with_reducible refine (tagOf_any key nonce hid data Hk.out Hno.out _ A2 m c1 n2 c2 B _ (HP.out _ B2.out).1 (HP.out _ B2.out).2.1 (Nat.le_trans HB.out B2.out.size) HM.out.1 HCM.out HM.out.2 HN2.out.1 HN2.out.2 hn2).mono ?_); rintro e3 w3 ⟨rfl, hb3⟩; rw [HTG.out];
            have K3 := Lib.hid (K2.out.below hb3); have N3 := Lib.hid (N2.out.below hb3); have T3 := Lib.hid (T2.out.below hb3); have B3 := Lib.hid (B2.out.trans (hb3.mono B2.out.size)); clear hb3)
        | ((with_reducible refine wpList_store_blk rfl 22 (.tmp 13) (.tmp 33) rfl w3.heap.size tg ?hx ?hy 22 (List.replicate 16 0) ?hg 16 sizeRow HGL.out ?ho ?_); (case hx => with_unfolding_all rfl); (case hy => with_unfolding_all rfl); (case hg => exact heap_alloc_new _ _); (case ho => rfl); intro w4 G4 P4;
            have b4 : Below w3.heap.size w3 w4 := ((Below.refl _ _).alloc (Nat.le_refl _) _).trans (P4.out.below (by simp) (Nat.le_refl _)); have B4 := Lib.hid (B3.out.trans (b4.mono B3.out.size)); have K4 := Lib.hid (K3.out.below b4); have N4 := Lib.hid (N3.out.below b4); have T4 := Lib.hid (T3.out.below b4); clear b4 P4))
      obtain ⟨g13, eg13⟩ : ∃ g, w3.heap.size = g := ⟨_, rfl⟩
      rw [eg13] at G4 ⊢
      clear eg13 K2 N2 T2 B2 K3 N3 T3 B3
      clear w2 w3
      obtain ⟨wr, hwr⟩ : ∃ x, w4 = x := ⟨_, rfl⟩
      rw [hwr] at G4 K4 N4 T4 B4 ⊢
      clear hwr
      go_simp
      go_cut [14] from 15 to 48 (fun v wx => ∃ gA : Nat, v = .pointer (some ⟨gA, 0, none⟩) ∧ Hid (wr.heap.size ≤ gA) ∧ Hid (Blq wx gA 51 [hiQ tg ^^^ hiQ told, loQ tg ^^^ loQ told]) ∧ Hid (Below wr.heap.size wr wx))
      case first =>
        refine wp_held (S := fun u => Below wr.drew.heap.size wr.drew u) (by kernel_rfl) ?_
        have T0 := Lib.hid T4.out.drew
        have G0 := Lib.hid G4.out.drew
        obtain ⟨w0, hw0⟩ : ∃ x, wr.drew = x := ⟨_, rfl⟩
        have HU : Hid (∀ u, Below w0.heap.size w0 u → Below wr.heap.size wr u) := fun u hu => by rw [← hw0] at hu; exact ⟨hu.os, hu.tape, hu.output, hu.size, hu.block⟩
        have HZ : Hid (w0.heap.size = wr.heap.size) := show _ = _ by rw [← hw0]; rfl
        rw [hw0] at T0 G0 ⊢
        clear hw0
        have b0 : Below w0.heap.size w0 w0 := Below.refl _ _
        refine wpAnyH_pickG 0 (.agg (bvs tg).toArray) rfl (by kernel_rfl) (by kernel_rfl) (by kernel_rfl) (by rfl) (fun _ _ _ h => h) (fun u hu => exec_load_blk u 22 (.tmp 13) rfl g13 (by with_unfolding_all rfl) 22 tg (G0.out.below hu) 16 5 Try.underlying22 16 sizeRow HGL.out) b0 ?_
        go_simp
        refine wpAnyH_pickG 2 (.agg (bvs told).toArray) rfl (by kernel_rfl) (by kernel_rfl) (by kernel_rfl) (by rfl) (fun _ _ _ h => h) (fun u hu => exec_load_blk u 22 (.tmp 12) rfl g12 (by with_unfolding_all rfl) 22 told (T0.out.below hu) 16 5 Try.underlying22 16 sizeRow HTL.out) b0 ?_
        go_simp
        refine wpAnyH_twoG 1 5 (by kernel_rfl) rfl (by rfl) rfl (by rfl) ?_ ?_
        · go_wp2_with fail
          (with_reducible refine (halves_any tg HGL.out _).mono ?_)
          rintro e1 w1 ⟨rfl, c1⟩
          have b1 := b0.trans (c1.mono b0.size)
          refine ⟨b1, ?_⟩
          clear c1
          refine wpAnyH_twoG 3 5 (by kernel_rfl) rfl (by rfl) rfl (by rfl) ?_ ?_
          · go_wp2_with fail
            (with_reducible refine (halves_any told HTL.out _).mono ?_)
            rintro e2 w2 ⟨rfl, c2⟩
            have b2 := b1.trans (c2.mono b1.size)
            refine ⟨b2, ?_⟩
            clear c2
            refine wpAnyH_twoG 4 5 (by kernel_rfl) rfl (by rfl) rfl (by rfl) ?_ ?_
            · go_wp2_with fail
              (with_reducible refine (pcross_any _ _ _ _ _).mono ?_)
              rintro e3 w3 ⟨rfl, c3⟩
              have b3 := b2.trans (c3.mono b2.size)
              refine ⟨b3, ?_⟩
              clear c3
              refine wpAnyH_oneG 5 (by kernel_rfl) rfl (by rfl) ?_
              refine wp_alloc_blq 51 rfl ([0, 0]) zeroPair ?_
              intro gA w4 eA Z4 c4
              have b4 := b3.trans (c4.out.mono b3.size)
              have HG : Hid (w0.heap.size ≤ gA) := show _ ≤ _ by rw [eA.out]; exact b3.size
              refine ⟨b4, ?_⟩
              clear c4 eA
              refine wpAnyH_oneG 6 (by kernel_rfl) rfl (by rfl) ?_
              refine wp_store_blq 51 (.tmp 14) (.tmp 38) rfl gA ([hiQ tg ^^^ hiQ told, loQ tg ^^^ loQ told]) (by with_unfolding_all rfl) (by with_unfolding_all rfl) 51 ([0, 0]) Z4.out 2 sizePair rfl rfl ?_
              intro w5 M5 O5
              have b5 := b4.trans (O5.out.below b4.size HG.out)
              refine ⟨b5, ?_⟩
              refine wpAnyH_done (by kernel_rfl) ?_ _
              go_wp2_with fail
              go_meet
              exact ⟨gA, rfl, show _ ≤ _ by rw [← HZ.out]; exact HG.out, M5, HU.out _ b5⟩
            · refine wp_alloc_blq 51 rfl ([0, 0]) zeroPair ?_
              intro gA w3 eA Z3 c3
              have b3 := b2.trans (c3.out.mono b2.size)
              have HG : Hid (w0.heap.size ≤ gA) := show _ ≤ _ by rw [eA.out]; exact b2.size
              refine ⟨b3, ?_⟩
              clear c3 eA
              refine wpAnyH_oneG 4 (by kernel_rfl) rfl (by rfl) ?_
              go_wp2_with fail
              (with_reducible refine (pcross_any _ _ _ _ _).mono ?_)
              rintro e4 w4 ⟨rfl, c4⟩
              have b4 := b3.trans (c4.mono b3.size)
              have Z4 := Lib.hid (Z3.out.below c4)
              refine ⟨b4, ?_⟩
              clear c4
              refine wpAnyH_oneG 6 (by kernel_rfl) rfl (by rfl) ?_
              refine wp_store_blq 51 (.tmp 14) (.tmp 38) rfl gA ([hiQ tg ^^^ hiQ told, loQ tg ^^^ loQ told]) (by with_unfolding_all rfl) (by with_unfolding_all rfl) 51 ([0, 0]) Z4.out 2 sizePair rfl rfl ?_
              intro w5 M5 O5
              have b5 := b4.trans (O5.out.below b4.size HG.out)
              refine ⟨b5, ?_⟩
              refine wpAnyH_done (by kernel_rfl) ?_ _
              go_wp2_with fail
              go_meet
              exact ⟨gA, rfl, show _ ≤ _ by rw [← HZ.out]; exact HG.out, M5, HU.out _ b5⟩
          · refine wp_alloc_blq 51 rfl ([0, 0]) zeroPair ?_
            intro gA w2 eA Z2 c2
            have b2 := b1.trans (c2.out.mono b1.size)
            have HG : Hid (w0.heap.size ≤ gA) := show _ ≤ _ by rw [eA.out]; exact b1.size
            refine ⟨b2, ?_⟩
            clear c2 eA
            refine wpAnyH_oneG 3 (by kernel_rfl) rfl (by rfl) ?_
            go_wp2_with fail
            (with_reducible refine (halves_any told HTL.out _).mono ?_)
            rintro e3 w3 ⟨rfl, c3⟩
            have b3 := b2.trans (c3.mono b2.size)
            have Z3 := Lib.hid (Z2.out.below c3)
            refine ⟨b3, ?_⟩
            clear c3
            refine wpAnyH_oneG 4 (by kernel_rfl) rfl (by rfl) ?_
            go_wp2_with fail
            (with_reducible refine (pcross_any _ _ _ _ _).mono ?_)
            rintro e4 w4 ⟨rfl, c4⟩
            have b4 := b3.trans (c4.mono b3.size)
            have Z4 := Lib.hid (Z3.out.below c4)
            refine ⟨b4, ?_⟩
            clear c4
            refine wpAnyH_oneG 6 (by kernel_rfl) rfl (by rfl) ?_
            refine wp_store_blq 51 (.tmp 14) (.tmp 38) rfl gA ([hiQ tg ^^^ hiQ told, loQ tg ^^^ loQ told]) (by with_unfolding_all rfl) (by with_unfolding_all rfl) 51 ([0, 0]) Z4.out 2 sizePair rfl rfl ?_
            intro w5 M5 O5
            have b5 := b4.trans (O5.out.below b4.size HG.out)
            refine ⟨b5, ?_⟩
            refine wpAnyH_done (by kernel_rfl) ?_ _
            go_wp2_with fail
            go_meet
            exact ⟨gA, rfl, show _ ≤ _ by rw [← HZ.out]; exact HG.out, M5, HU.out _ b5⟩
        · refine wp_alloc_blq 51 rfl ([0, 0]) zeroPair ?_
          intro gA w1 eA Z1 c1
          have b1 := b0.trans (c1.out.mono b0.size)
          have HG : Hid (w0.heap.size ≤ gA) := show _ ≤ _ by rw [eA.out]; exact b0.size
          refine ⟨b1, ?_⟩
          clear c1 eA
          refine wpAnyH_oneG 1 (by kernel_rfl) rfl (by rfl) ?_
          go_wp2_with fail
          (with_reducible refine (halves_any tg HGL.out _).mono ?_)
          rintro e2 w2 ⟨rfl, c2⟩
          have b2 := b1.trans (c2.mono b1.size)
          have Z2 := Lib.hid (Z1.out.below c2)
          refine ⟨b2, ?_⟩
          clear c2
          refine wpAnyH_oneG 3 (by kernel_rfl) rfl (by rfl) ?_
          go_wp2_with fail
          (with_reducible refine (halves_any told HTL.out _).mono ?_)
          rintro e3 w3 ⟨rfl, c3⟩
          have b3 := b2.trans (c3.mono b2.size)
          have Z3 := Lib.hid (Z2.out.below c3)
          refine ⟨b3, ?_⟩
          clear c3
          refine wpAnyH_oneG 4 (by kernel_rfl) rfl (by rfl) ?_
          go_wp2_with fail
          (with_reducible refine (pcross_any _ _ _ _ _).mono ?_)
          rintro e4 w4 ⟨rfl, c4⟩
          have b4 := b3.trans (c4.mono b3.size)
          have Z4 := Lib.hid (Z3.out.below c4)
          refine ⟨b4, ?_⟩
          clear c4
          refine wpAnyH_oneG 6 (by kernel_rfl) rfl (by rfl) ?_
          refine wp_store_blq 51 (.tmp 14) (.tmp 38) rfl gA ([hiQ tg ^^^ hiQ told, loQ tg ^^^ loQ told]) (by with_unfolding_all rfl) (by with_unfolding_all rfl) 51 ([0, 0]) Z4.out 2 sizePair rfl rfl ?_
          intro w5 M5 O5
          have b5 := b4.trans (O5.out.below b4.size HG.out)
          refine ⟨b5, ?_⟩
          refine wpAnyH_done (by kernel_rfl) ?_ _
          go_wp2_with fail
          go_meet
          exact ⟨gA, rfl, show _ ≤ _ by rw [← HZ.out]; exact HG.out, M5, HU.out _ b5⟩
      case rest =>
        obtain ⟨g14, rfl, HG14, X5, HB5⟩ := hcut
        have K5 := Lib.hid (K4.out.below HB5.out)
        have N5 := Lib.hid (N4.out.below HB5.out)
        have B5 := Lib.hid (B4.out.trans (HB5.out.mono B4.out.size))
        clear K4 N4 T4 G4 B4 HG14 HB5
        obtain ⟨x, hx⟩ : ∃ x, hiQ tg ^^^ hiQ told = x := ⟨_, rfl⟩
        obtain ⟨y, hy⟩ : ∃ y, loQ tg ^^^ loQ told = y := ⟨_, rfl⟩
        have hun := unlike_iff tg told HGL.out HTL.out
        rw [hx, hy] at hun X5
        have cx : wc.cell? ⟨g14, 0, none⟩ = some (.int .u64 (qn x)) := X5.out.cell 0 (by simp)
        have cy : wc.cell? ⟨g14, 1, none⟩ = some (.int .u64 (qn y)) := X5.out.cell 1 (by simp)
        obtain ⟨z, hz⟩ : ∃ z, x ||| y = z := ⟨_, rfl⟩
        rw [hz] at hun
        by_cases hq : tg = told
        · have hz0 : z = 0 := hun.2 hq
          have t2 : (qn z != 0) = false := by rw [hz0]; rfl
          have hr : r = (turnG key nonce hid, 0) := by rw [HO.out, if_pos hq]
          subst hr
          clear hun hx hy hq hz0
          go_wp2_with (first
            | ((with_reducible refine wpList_load_blk rfl 22 (.tmp 4) rfl w.heap.size ?hx 22 key ?hg 16 5 Try.underlying22 16 sizeRow Hk.out ?_); (case hx => with_unfolding_all rfl); (case hg => with_reducible exact K5.out))
            | ((with_reducible refine wpList_load_blk rfl 23 (.tmp 5) rfl (w.heap.size + 1) ?hx 23 nonce ?hg 12 5 Try.underlying23 12 size12 Hno.out ?_); (case hx => with_unfolding_all rfl); (case hg => with_reducible exact N5.out))
            | (go_at_call 22; (with_reducible refine (turned_any key nonce hid Hk.out Hno.out _ m c1 B _ (HP.out _ B5.out).1 (Nat.le_trans HB.out B5.out.size) HM.out.1 HCM.out HM.out.2).mono ?_); rintro e6 w6 ⟨A', c', rfl, ho6, hle6, hc6, hb6⟩))
          go_ret2
          exact ⟨A', m, c', rfl, ho6.base B5.out.size, hle6, hc6, B5.out.trans (hb6.mono B5.out.size)⟩
        · have hz0 : z ≠ 0 := fun h => hq (hun.1 h)
          have t2 : (qn z != 0) = true := by
            have h : qn z ≠ 0 := fun h => hz0 (UInt64.toNat_inj.1 (by unfold qn at h; simpa using h))
            simp [h]
          have hr : r = ([], 7) := by rw [HO.out, if_neg hq]
          subst hr
          clear hun hx hy hq hz0
          go_wp2_with fail
          go_ret2
          exact ⟨none, 0, 0, rfl, Own.nil _ _, Nat.le_refl _, by simp [maxLen], B5.out⟩
end Go.Proofs.Ytkeleehkjllgeaa
