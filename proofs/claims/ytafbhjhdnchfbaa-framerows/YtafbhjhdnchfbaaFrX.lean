/-
  Two frames compared, by the document: Same. (Its ways are written out by a small program.)
-/
import Derived.Test.YtafbhjhdnchfbaaFrB
namespace Go.Proofs.Ytafbhjhdnchfbaa
open Go.RowKit
set_option linter.unusedVariables false

set_option maxHeartbeats 8000000 in
set_option maxRecDepth 4000 in
theorem rsam_any (f g : Fr) (p q : Fp) (B : Nat) (w : World) (hB : B ≤ w.heap.size) (hf : FrL w B f p) (hg : FrL w B g q) (b : Bool) (hb : decide (f = g) = b) :
    Calls Try.prog 20 #[.agg (frV f p).toArray, .agg (frV g q).toArray] w fun e w' => e = .returned (.bool b) ∧ Below w.heap.size w w' := by
  have HP : Hid (∀ u : World, Below w.heap.size w u → FrL u B f p ∧ FrL u B g q) := fun u hu => ⟨hf.below (hu.mono hB), hg.below (hu.mono hB)⟩
  obtain ⟨W0, hW0⟩ : ∃ W0, W0 = (w.alloc (.cells (frV f p).toArray 26)).alloc (.cells (frV g q).toArray 26) := ⟨_, rfl⟩
  have B0 : Hid (Below w.heap.size w W0) := by rw [hW0]; exact ((Below.refl _ _).alloc (Nat.le_refl _) _).alloc (by simp) _
  have BN : Hid (∀ k, Below w.heap.size w (W0.drewN k)) := fun k => ⟨B0.out.os, B0.out.tape, B0.out.output, B0.out.size, B0.out.block⟩
  have R0 : Rw W0 w.heap.size 26 (frV f p) := by rw [hW0]; exact heap_allocs w [_, _] 0 _ rfl
  have Q0 : Rw W0 (w.heap.size + 1) 26 (frV g q) := by rw [hW0]; exact heap_allocs w [_, _] 1 _ rfl
  obtain ⟨k0, k1, k2, k3, k4, k5, k6, k7, k8, k9⟩ := fr_cells R0
  obtain ⟨j0, j1, j2, j3, j4, j5, j6, j7, j8, j9⟩ := fr_cells Q0
  have HW0 := Lib.hid hW0
  obtain ⟨k, n, d, rs, id, of, fi, da, ci, tk⟩ := f
  obtain ⟨k', n', d', rs', id', of', fi', da', ci', tk'⟩ := g
  obtain ⟨ra, rn, rc, dA, dn, dc, ca, cn, cc, ta, tn, tc⟩ := p
  obtain ⟨ra', rn', rc', dA', dn', dc', ca', cn', cc', ta', tn', tc'⟩ := q
  simp only at k0 k1 k2 k3 k4 k5 k6 k7 k8 k9 j0 j1 j2 j3 j4 j5 j6 j7 j8 j9
  have hl : rs.length = rn := hf.r.1
  have hl' : rs'.length = rn' := hg.r.1
  have hn63 : rn ≤ 9223372036854775807 := by have := hf.rb; simp only [maxLen] at this; omega
  have hn63' : rn' ≤ 9223372036854775807 := by have := hg.rb; simp only [maxLen] at this; omega
  have HS : Hid (SlR W0 B ra rn rs ∧ SlR W0 B ra' rn' rs') := ⟨(HP.out _ B0.out).1.r, (HP.out _ B0.out).2.r⟩
  clear hf hg R0 Q0
  by_cases hrn : rn = rn'
  · subst hrn
    have hne : ((rn : Int) != (rn : Int)) = false := by simp
    have Hl := Lib.hid hl
    have Hl' := Lib.hid hl'
    have Hb := Lib.hid hb
    clear hl hl' hW0 hb
    unfold frV
    go_enter Try.func20, Try.ntmps20
    go_wp2_with fail
    go_loopw [5] (fun i wr => ∃ j m : Nat, j ≤ rn ∧ i = .int .i64 j ∧ wr = W0.drewN m ∧ Hid (rs.take j = rs'.take j)) (fun i _ => rn - (intQ i).toNat)
    case atStart => exact ⟨0, 0, by omega, rfl, by rw [HW0.out]; rfl, rfl⟩
    case round =>
      obtain ⟨j, m, hj, rfl, rfl, HE⟩ := hrel
      by_cases hlt : j < rn
      · obtain ⟨b1, off, rfl, hb1, hcell⟩ := HS.out.1.2 (by omega)
        obtain ⟨b2, off', rfl, hb2, hcell'⟩ := HS.out.2.2 (by omega)
        have hjl : j < rs.length := by have := Hl.out; omega
        have hjr : j < rs'.length := by have := Hl'.out; omega
        obtain ⟨⟨x, x2⟩, hx⟩ : ∃ x, rs[j] = x := ⟨_, rfl⟩
        obtain ⟨⟨y, y2⟩, hy⟩ : ∃ y, rs'[j] = y := ⟨_, rfl⟩
        have c1 := hcell j hjl
        have c2 := hcell' j hjr
        rw [hx] at c1
        rw [hy] at c2
        simp only at c1 c2
        obtain ⟨c11, c12⟩ := c1
        obtain ⟨c21, c22⟩ := c2
        have Hx := Lib.hid hx
        have Hy := Lib.hid hy
        have hgd := range_guard
        clear hx hy hcell hcell'
        cases hxy : decide ((x, x2) = (y, y2))
        · have hq := range_neq (x, x2) (y, y2) false hxy
          simp only at hq
          have hne2 : rs ≠ rs' := by
            rintro rfl
            have e : (x, x2) = (y, y2) := by rw [← Hx.out, ← Hy.out]
            rw [e] at hxy
            simp at hxy
          obtain rfl : b = false := by rw [← Hb.out]; simp [hne2]
          clear hne2 hxy
          go_wp2_with fail
          go_quiet (fail)
          go_wp2
          go_ret
          exact ⟨rfl, by simp only [World.drewN_drewN]; exact BN.out _⟩
        · have hq := range_neq (x, x2) (y, y2) true hxy
          simp only at hq
          have Hxy := Lib.hid (of_decide_eq_true hxy)
          clear hxy
          go_wp2_with fail
          go_quiet (fail)
          go_wp2
          go_roundw
          case rel =>
            refine ⟨j + 1, m + nq, by omega, by go_num, by simp, ?_⟩
            show rs.take (j + 1) = rs'.take (j + 1)
            rw [List.take_succ_eq_append_getElem hjl, List.take_succ_eq_append_getElem hjr, HE.out, Hx.out, Hy.out, Hxy.out]
          case measure => simp [intQ]; omega
      · have hrs : rs = rs' := by
          have h := HE.out
          rwa [List.take_of_length_le (by have := Hl.out; omega), List.take_of_length_le (by have := Hl'.out; omega)] at h
        have hb := Hb.out
        have HD := HP.out _ (BN.out m)
        have v1 := conv_bytes da dA dn dc B (W0.drewN m) HD.1.d
        have v2 := conv_bytes da' dA' dn' dc' B (W0.drewN m) HD.2.d
        have v3 := conv_bytes ci ca cn cc B (W0.drewN m) HD.1.c
        have v4 := conv_bytes ci' ca' cn' cc' B (W0.drewN m) HD.2.c
        have v5 := conv_bytes tk ta tn tc B (W0.drewN m) HD.1.t
        have v6 := conv_bytes tk' ta' tn' tc' B (W0.drewN m) HD.2.t
        clear HD
        by_cases hk : k = k'
        rotate_left
        · obtain rfl : b = false := by rw [← hb]; simp [hrs, hk]
          have e_k : (k == k') = false := by simp; omega
          clear hb hrs hk
          go_wp2
          go_ret
          exact ⟨by first | rfl | simp, BN.out _⟩
        by_cases hn : n = n'
        rotate_left
        · obtain rfl : b = false := by rw [← hb]; simp [hrs, hk, hn]
          have e_k : (k == k') = true := by simp [hk]
          have e_n : ((n : Int) == (n' : Int)) = false := by simp; omega
          clear hb hrs hk hn
          go_wp2
          go_ret
          exact ⟨by first | rfl | simp, BN.out _⟩
        by_cases hd : d = d'
        rotate_left
        · obtain rfl : b = false := by rw [← hb]; simp [hrs, hk, hn, hd]
          have e_k : (k == k') = true := by simp [hk]
          have e_n : ((n : Int) == (n' : Int)) = true := by simp [hn]
          have e_d : ((d : Int) == (d' : Int)) = false := by simp; omega
          clear hb hrs hk hn hd
          go_wp2
          go_ret
          exact ⟨by first | rfl | simp, BN.out _⟩
        by_cases hid : id = id'
        rotate_left
        · obtain rfl : b = false := by rw [← hb]; simp [hrs, hk, hn, hd, hid]
          have e_k : (k == k') = true := by simp [hk]
          have e_n : ((n : Int) == (n' : Int)) = true := by simp [hn]
          have e_d : ((d : Int) == (d' : Int)) = true := by simp [hd]
          have e_id : ((id : Int) == (id' : Int)) = false := by simp; omega
          clear hb hrs hk hn hd hid
          go_wp2
          go_ret
          exact ⟨by first | rfl | simp, BN.out _⟩
        by_cases hof : of = of'
        rotate_left
        · obtain rfl : b = false := by rw [← hb]; simp [hrs, hk, hn, hd, hid, hof]
          have e_k : (k == k') = true := by simp [hk]
          have e_n : ((n : Int) == (n' : Int)) = true := by simp [hn]
          have e_d : ((d : Int) == (d' : Int)) = true := by simp [hd]
          have e_id : ((id : Int) == (id' : Int)) = true := by simp [hid]
          have e_of : ((of : Int) == (of' : Int)) = false := by simp; omega
          clear hb hrs hk hn hd hid hof
          go_wp2
          go_ret
          exact ⟨by first | rfl | simp, BN.out _⟩
        by_cases hfi : fi = fi'
        rotate_left
        · obtain rfl : b = false := by rw [← hb]; simp [hrs, hk, hn, hd, hid, hof, hfi]
          have e_k : (k == k') = true := by simp [hk]
          have e_n : ((n : Int) == (n' : Int)) = true := by simp [hn]
          have e_d : ((d : Int) == (d' : Int)) = true := by simp [hd]
          have e_id : ((id : Int) == (id' : Int)) = true := by simp [hid]
          have e_of : ((of : Int) == (of' : Int)) = true := by simp [hof]
          have e_fi : (fi == fi') = false := by simpa using hfi
          clear hb hrs hk hn hd hid hof hfi
          go_wp2
          go_ret
          exact ⟨by first | rfl | simp, BN.out _⟩
        by_cases hda : da = da'
        rotate_left
        · obtain rfl : b = false := by rw [← hb]; simp [hrs, hk, hn, hd, hid, hof, hfi, hda]
          have e_k : (k == k') = true := by simp [hk]
          have e_n : ((n : Int) == (n' : Int)) = true := by simp [hn]
          have e_d : ((d : Int) == (d' : Int)) = true := by simp [hd]
          have e_id : ((id : Int) == (id' : Int)) = true := by simp [hid]
          have e_of : ((of : Int) == (of' : Int)) = true := by simp [hof]
          have e_fi : (fi == fi') = true := by simp [hfi]
          have e_da : (da == da') = false := by simpa using hda
          clear hb hrs hk hn hd hid hof hfi hda
          go_wp2
          go_ret
          exact ⟨by first | rfl | simp, BN.out _⟩
        by_cases hci : ci = ci'
        rotate_left
        · obtain rfl : b = false := by rw [← hb]; simp [hrs, hk, hn, hd, hid, hof, hfi, hda, hci]
          have e_k : (k == k') = true := by simp [hk]
          have e_n : ((n : Int) == (n' : Int)) = true := by simp [hn]
          have e_d : ((d : Int) == (d' : Int)) = true := by simp [hd]
          have e_id : ((id : Int) == (id' : Int)) = true := by simp [hid]
          have e_of : ((of : Int) == (of' : Int)) = true := by simp [hof]
          have e_fi : (fi == fi') = true := by simp [hfi]
          have e_da : (da == da') = true := by simp [hda]
          have e_ci : (ci == ci') = false := by simpa using hci
          clear hb hrs hk hn hd hid hof hfi hda hci
          go_wp2
          go_ret
          exact ⟨by first | rfl | simp, BN.out _⟩
        by_cases htk : tk = tk'
        rotate_left
        · obtain rfl : b = false := by rw [← hb]; simp [hrs, hk, hn, hd, hid, hof, hfi, hda, hci, htk]
          have e_k : (k == k') = true := by simp [hk]
          have e_n : ((n : Int) == (n' : Int)) = true := by simp [hn]
          have e_d : ((d : Int) == (d' : Int)) = true := by simp [hd]
          have e_id : ((id : Int) == (id' : Int)) = true := by simp [hid]
          have e_of : ((of : Int) == (of' : Int)) = true := by simp [hof]
          have e_fi : (fi == fi') = true := by simp [hfi]
          have e_da : (da == da') = true := by simp [hda]
          have e_ci : (ci == ci') = true := by simp [hci]
          have e_tk : (tk == tk') = false := by simpa using htk
          clear hb hrs hk hn hd hid hof hfi hda hci htk
          go_wp2
          go_ret
          exact ⟨by first | rfl | simp, BN.out _⟩
        obtain rfl : b = true := by rw [← hb]; simp [hrs, hk, hn, hd, hid, hof, hfi, hda, hci, htk]
        have e_k : (k == k') = true := by simp [hk]
        have e_n : ((n : Int) == (n' : Int)) = true := by simp [hn]
        have e_d : ((d : Int) == (d' : Int)) = true := by simp [hd]
        have e_id : ((id : Int) == (id' : Int)) = true := by simp [hid]
        have e_of : ((of : Int) == (of' : Int)) = true := by simp [hof]
        have e_fi : (fi == fi') = true := by simp [hfi]
        have e_da : (da == da') = true := by simp [hda]
        have e_ci : (ci == ci') = true := by simp [hci]
        have e_tk : (tk == tk') = true := by simp [htk]
        clear hb hrs hk hn hd hid hof hfi hda hci htk
        go_wp2
        go_ret
        exact ⟨by first | rfl | simp, BN.out _⟩
  · have ht : ((rn : Int) != (rn' : Int)) = true := by simp; omega
    obtain rfl : b = false := by
      rw [← hb]
      have : rs ≠ rs' := by
        rintro rfl
        omega
      simp [this]
    have B1 : Hid (Below w.heap.size w ((w.alloc (.cells (frV ⟨k, n, d, rs, id, of, fi, da, ci, tk⟩ ⟨ra, rn, rc, dA, dn, dc, ca, cn, cc, ta, tn, tc⟩).toArray 26)).alloc (.cells (frV ⟨k', n', d', rs', id', of', fi', da', ci', tk'⟩ ⟨ra', rn', rc', dA', dn', dc', ca', cn', cc', ta', tn', tc'⟩).toArray 26))) := ((Below.refl _ _).alloc (Nat.le_refl _) _).alloc (by simp) _
    clear hl hl' hb hrn hW0
    unfold frV
    go_enter Try.func20, Try.ntmps20
    go_wp2
    go_ret
    exact ⟨rfl, B1.out⟩
end Go.Proofs.Ytafbhjhdnchfbaa
