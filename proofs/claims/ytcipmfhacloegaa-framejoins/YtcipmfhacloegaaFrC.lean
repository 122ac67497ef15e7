/-
  Two frames compared: frame.Same.
-/
import Derived.Test.YtcipmfhacloegaaFrB
namespace Go.Proofs.Ytcipmfhacloegaa
open Go.RowKit
set_option linter.unusedVariables false

set_option maxHeartbeats 4000000 in
set_option maxRecDepth 4000 in
theorem fsame_any (f g : Fr) (p q : Fp) (B : Nat) (w : World) (hB : B ≤ w.heap.size) (hf : FrL w B f p) (hg : FrL w B g q) (b : Bool) (hb : decide (f = g) = b) :
    Calls Try.prog 19 #[.agg (frV f p).toArray, .agg (frV g q).toArray] w fun e w' => e = .returned (.bool b) ∧ Below w.heap.size w w' := by
  have HP : Hid (∀ u : World, Below w.heap.size w u → FrL u B f p ∧ FrL u B g q) := fun u hu => ⟨hf.below (hu.mono hB), hg.below (hu.mono hB)⟩
  obtain ⟨vs, hvs⟩ : ∃ vs, frV f p = vs := ⟨_, rfl⟩
  obtain ⟨us, hus⟩ : ∃ vs, frV g q = vs := ⟨_, rfl⟩
  have HVS := Lib.hid hvs
  have HUS := Lib.hid hus
  have B0 : Hid (Below w.heap.size w ((w.alloc (.cells (frV f p).toArray 26)).alloc (.cells (frV g q).toArray 26))) := ((Below.refl _ _).alloc (Nat.le_refl _) _).alloc (by simp) _
  clear hvs hus hf hg
  obtain ⟨k, n, d, rs, id, of, fi, da, ci, tk⟩ := f
  obtain ⟨k', n', d', rs', id', of', fi', da', ci', tk'⟩ := g
  obtain ⟨ra, rn, rc, dA, dn, dc, ca, cn, cc, ta, tn, tc⟩ := p
  obtain ⟨ra', rn', rc', dA', dn', dc', ca', cn', cc', ta', tn', tc'⟩ := q
  by_cases hk : k = k'
  rotate_left
  · obtain rfl : b = false := by rw [← hb]; simp [hk]
    have e_k : (k == k') = false := by simp; omega
    clear hb hk
    unfold frV
    go_enter Try.func19, Try.ntmps19
    go_wp2
    go_ret
    exact ⟨rfl, B0.out⟩
  by_cases hn : n = n'
  rotate_left
  · obtain rfl : b = false := by rw [← hb]; simp [hk, hn]
    have e_k : (k == k') = true := by simp [hk]
    have e_n : ((n : Int) == (n' : Int)) = false := by simp; omega
    clear hb hk hn
    unfold frV
    go_enter Try.func19, Try.ntmps19
    go_wp2
    go_ret
    exact ⟨rfl, B0.out⟩
  by_cases hd : d = d'
  rotate_left
  · obtain rfl : b = false := by rw [← hb]; simp [hk, hn, hd]
    have e_k : (k == k') = true := by simp [hk]
    have e_n : ((n : Int) == (n' : Int)) = true := by simp [hn]
    have e_d : ((d : Int) == (d' : Int)) = false := by simp; omega
    clear hb hk hn hd
    unfold frV
    go_enter Try.func19, Try.ntmps19
    go_wp2
    go_ret
    exact ⟨rfl, B0.out⟩
  by_cases hid : id = id'
  rotate_left
  · obtain rfl : b = false := by rw [← hb]; simp [hk, hn, hd, hid]
    have e_k : (k == k') = true := by simp [hk]
    have e_n : ((n : Int) == (n' : Int)) = true := by simp [hn]
    have e_d : ((d : Int) == (d' : Int)) = true := by simp [hd]
    have e_id : ((id : Int) == (id' : Int)) = false := by simp; omega
    clear hb hk hn hd hid
    unfold frV
    go_enter Try.func19, Try.ntmps19
    go_wp2
    go_ret
    exact ⟨rfl, B0.out⟩
  by_cases hof : of = of'
  rotate_left
  · obtain rfl : b = false := by rw [← hb]; simp [hk, hn, hd, hid, hof]
    have e_k : (k == k') = true := by simp [hk]
    have e_n : ((n : Int) == (n' : Int)) = true := by simp [hn]
    have e_d : ((d : Int) == (d' : Int)) = true := by simp [hd]
    have e_id : ((id : Int) == (id' : Int)) = true := by simp [hid]
    have e_of : ((of : Int) == (of' : Int)) = false := by simp; omega
    clear hb hk hn hd hid hof
    unfold frV
    go_enter Try.func19, Try.ntmps19
    go_wp2
    go_ret
    exact ⟨rfl, B0.out⟩
  by_cases hfi : fi = fi'
  rotate_left
  · obtain rfl : b = false := by rw [← hb]; simp [hk, hn, hd, hid, hof, hfi]
    have e_k : (k == k') = true := by simp [hk]
    have e_n : ((n : Int) == (n' : Int)) = true := by simp [hn]
    have e_d : ((d : Int) == (d' : Int)) = true := by simp [hd]
    have e_id : ((id : Int) == (id' : Int)) = true := by simp [hid]
    have e_of : ((of : Int) == (of' : Int)) = true := by simp [hof]
    have e_fi : (fi == fi') = false := by simpa using hfi
    clear hb hk hn hd hid hof hfi
    unfold frV
    go_enter Try.func19, Try.ntmps19
    go_wp2
    go_ret
    exact ⟨rfl, B0.out⟩
  by_cases hrs : rs = rs'
  rotate_left
  · obtain rfl : b = false := by rw [← hb]; simp [hk, hn, hd, hid, hof, hfi, hrs]
    have e_k : (k == k') = true := by simp [hk]
    have e_n : ((n : Int) == (n' : Int)) = true := by simp [hn]
    have e_d : ((d : Int) == (d' : Int)) = true := by simp [hd]
    have e_id : ((id : Int) == (id' : Int)) = true := by simp [hid]
    have e_of : ((of : Int) == (of' : Int)) = true := by simp [hof]
    have e_fi : (fi == fi') = true := by simp [hfi]
    have Trs : Hid (decide (rs = rs') = false) := show _ = _ by simp [hrs]
    clear hb hk hn hd hid hof hfi hrs
    unfold frV
    go_enter Try.func19, Try.ntmps19
    go_wp2_with fail
    (with_reducible refine (requal_any rs rs' ra ra' rn rn' rc rc' B B _ (HP.out _ ?hb).1.r (HP.out _ ?hb).2.r ?hm _ Trs.out).mono ?_)
    case hb => exact B0.out
    case hm => have := (HP.out _ B0.out).1.rb; simp only at this; omega
    rintro e1 w1 ⟨rfl, b1⟩
    have R1 : Hid (Rw w1 w.heap.size 26 vs) := (show Rw _ _ _ vs by rw [← HVS.out]; exact heap_allocs w [_, _] 0 _ rfl).below b1
    have Q1 : Hid (Rw w1 (w.heap.size + 1) 26 us) := (show Rw _ _ _ us by rw [← HUS.out]; exact heap_allocs w [_, _] 1 _ rfl).below b1
    have B1 : Hid (Below w.heap.size w w1) := B0.out.trans (b1.mono (by simp; omega))
    clear b1
    obtain ⟨k0, k1, k2, k3, k4, k5, k6, k7, k8, k9⟩ := fr_cells (HVS.out ▸ R1.out)
    obtain ⟨j0, j1, j2, j3, j4, j5, j6, j7, j8, j9⟩ := fr_cells (HUS.out ▸ Q1.out)
    simp only at k0 k1 k2 k3 k4 k5 k6 k7 k8 k9 j0 j1 j2 j3 j4 j5 j6 j7 j8 j9
    go_wp2_with fail
    go_ret
    exact ⟨by first | rfl | simp, B1.out⟩
  by_cases hda : da = da'
  rotate_left
  · obtain rfl : b = false := by rw [← hb]; simp [hk, hn, hd, hid, hof, hfi, hrs, hda]
    have e_k : (k == k') = true := by simp [hk]
    have e_n : ((n : Int) == (n' : Int)) = true := by simp [hn]
    have e_d : ((d : Int) == (d' : Int)) = true := by simp [hd]
    have e_id : ((id : Int) == (id' : Int)) = true := by simp [hid]
    have e_of : ((of : Int) == (of' : Int)) = true := by simp [hof]
    have e_fi : (fi == fi') = true := by simp [hfi]
    have Trs : Hid (decide (rs = rs') = true) := show _ = _ by simp [hrs]
    have Tda : Hid (decide (da = da') = false) := show _ = _ by simp [hda]
    clear hb hk hn hd hid hof hfi hrs hda
    unfold frV
    go_enter Try.func19, Try.ntmps19
    go_wp2_with fail
    (with_reducible refine (requal_any rs rs' ra ra' rn rn' rc rc' B B _ (HP.out _ ?hb).1.r (HP.out _ ?hb).2.r ?hm _ Trs.out).mono ?_)
    case hb => exact B0.out
    case hm => have := (HP.out _ B0.out).1.rb; simp only at this; omega
    rintro e1 w1 ⟨rfl, b1⟩
    have R1 : Hid (Rw w1 w.heap.size 26 vs) := (show Rw _ _ _ vs by rw [← HVS.out]; exact heap_allocs w [_, _] 0 _ rfl).below b1
    have Q1 : Hid (Rw w1 (w.heap.size + 1) 26 us) := (show Rw _ _ _ us by rw [← HUS.out]; exact heap_allocs w [_, _] 1 _ rfl).below b1
    have B1 : Hid (Below w.heap.size w w1) := B0.out.trans (b1.mono (by simp; omega))
    clear b1
    obtain ⟨k0, k1, k2, k3, k4, k5, k6, k7, k8, k9⟩ := fr_cells (HVS.out ▸ R1.out)
    obtain ⟨j0, j1, j2, j3, j4, j5, j6, j7, j8, j9⟩ := fr_cells (HUS.out ▸ Q1.out)
    simp only at k0 k1 k2 k3 k4 k5 k6 k7 k8 k9 j0 j1 j2 j3 j4 j5 j6 j7 j8 j9
    go_wp2_with fail
    (with_reducible refine (bequal_any da da' dA dA' dn dn' dc dc' B B w1 (HP.out _ B1.out).1.d (HP.out _ B1.out).2.d _ Tda.out).mono ?_)
    rintro e2 w2 ⟨rfl, rfl⟩
    go_wp2_with fail
    go_ret
    exact ⟨by first | rfl | simp, B1.out⟩
  by_cases hci : ci = ci'
  rotate_left
  · obtain rfl : b = false := by rw [← hb]; simp [hk, hn, hd, hid, hof, hfi, hrs, hda, hci]
    have e_k : (k == k') = true := by simp [hk]
    have e_n : ((n : Int) == (n' : Int)) = true := by simp [hn]
    have e_d : ((d : Int) == (d' : Int)) = true := by simp [hd]
    have e_id : ((id : Int) == (id' : Int)) = true := by simp [hid]
    have e_of : ((of : Int) == (of' : Int)) = true := by simp [hof]
    have e_fi : (fi == fi') = true := by simp [hfi]
    have Trs : Hid (decide (rs = rs') = true) := show _ = _ by simp [hrs]
    have Tda : Hid (decide (da = da') = true) := show _ = _ by simp [hda]
    have Tci : Hid (decide (ci = ci') = false) := show _ = _ by simp [hci]
    clear hb hk hn hd hid hof hfi hrs hda hci
    unfold frV
    go_enter Try.func19, Try.ntmps19
    go_wp2_with fail
    (with_reducible refine (requal_any rs rs' ra ra' rn rn' rc rc' B B _ (HP.out _ ?hb).1.r (HP.out _ ?hb).2.r ?hm _ Trs.out).mono ?_)
    case hb => exact B0.out
    case hm => have := (HP.out _ B0.out).1.rb; simp only at this; omega
    rintro e1 w1 ⟨rfl, b1⟩
    have R1 : Hid (Rw w1 w.heap.size 26 vs) := (show Rw _ _ _ vs by rw [← HVS.out]; exact heap_allocs w [_, _] 0 _ rfl).below b1
    have Q1 : Hid (Rw w1 (w.heap.size + 1) 26 us) := (show Rw _ _ _ us by rw [← HUS.out]; exact heap_allocs w [_, _] 1 _ rfl).below b1
    have B1 : Hid (Below w.heap.size w w1) := B0.out.trans (b1.mono (by simp; omega))
    clear b1
    obtain ⟨k0, k1, k2, k3, k4, k5, k6, k7, k8, k9⟩ := fr_cells (HVS.out ▸ R1.out)
    obtain ⟨j0, j1, j2, j3, j4, j5, j6, j7, j8, j9⟩ := fr_cells (HUS.out ▸ Q1.out)
    simp only at k0 k1 k2 k3 k4 k5 k6 k7 k8 k9 j0 j1 j2 j3 j4 j5 j6 j7 j8 j9
    go_wp2_with fail
    (with_reducible refine (bequal_any da da' dA dA' dn dn' dc dc' B B w1 (HP.out _ B1.out).1.d (HP.out _ B1.out).2.d _ Tda.out).mono ?_)
    rintro e2 w2 ⟨rfl, rfl⟩
    go_wp2_with fail
    (with_reducible refine (bequal_any ci ci' ca ca' cn cn' cc cc' B B w1 (HP.out _ B1.out).1.c (HP.out _ B1.out).2.c _ Tci.out).mono ?_)
    rintro e2 w2 ⟨rfl, rfl⟩
    go_wp2_with fail
    go_ret
    exact ⟨by first | rfl | simp, B1.out⟩
  by_cases htk : tk = tk'
  rotate_left
  · obtain rfl : b = false := by rw [← hb]; simp [hk, hn, hd, hid, hof, hfi, hrs, hda, hci, htk]
    have e_k : (k == k') = true := by simp [hk]
    have e_n : ((n : Int) == (n' : Int)) = true := by simp [hn]
    have e_d : ((d : Int) == (d' : Int)) = true := by simp [hd]
    have e_id : ((id : Int) == (id' : Int)) = true := by simp [hid]
    have e_of : ((of : Int) == (of' : Int)) = true := by simp [hof]
    have e_fi : (fi == fi') = true := by simp [hfi]
    have Trs : Hid (decide (rs = rs') = true) := show _ = _ by simp [hrs]
    have Tda : Hid (decide (da = da') = true) := show _ = _ by simp [hda]
    have Tci : Hid (decide (ci = ci') = true) := show _ = _ by simp [hci]
    have Ttk : Hid (decide (tk = tk') = false) := show _ = _ by simp [htk]
    clear hb hk hn hd hid hof hfi hrs hda hci htk
    unfold frV
    go_enter Try.func19, Try.ntmps19
    go_wp2_with fail
    (with_reducible refine (requal_any rs rs' ra ra' rn rn' rc rc' B B _ (HP.out _ ?hb).1.r (HP.out _ ?hb).2.r ?hm _ Trs.out).mono ?_)
    case hb => exact B0.out
    case hm => have := (HP.out _ B0.out).1.rb; simp only at this; omega
    rintro e1 w1 ⟨rfl, b1⟩
    have R1 : Hid (Rw w1 w.heap.size 26 vs) := (show Rw _ _ _ vs by rw [← HVS.out]; exact heap_allocs w [_, _] 0 _ rfl).below b1
    have Q1 : Hid (Rw w1 (w.heap.size + 1) 26 us) := (show Rw _ _ _ us by rw [← HUS.out]; exact heap_allocs w [_, _] 1 _ rfl).below b1
    have B1 : Hid (Below w.heap.size w w1) := B0.out.trans (b1.mono (by simp; omega))
    clear b1
    obtain ⟨k0, k1, k2, k3, k4, k5, k6, k7, k8, k9⟩ := fr_cells (HVS.out ▸ R1.out)
    obtain ⟨j0, j1, j2, j3, j4, j5, j6, j7, j8, j9⟩ := fr_cells (HUS.out ▸ Q1.out)
    simp only at k0 k1 k2 k3 k4 k5 k6 k7 k8 k9 j0 j1 j2 j3 j4 j5 j6 j7 j8 j9
    go_wp2_with fail
    (with_reducible refine (bequal_any da da' dA dA' dn dn' dc dc' B B w1 (HP.out _ B1.out).1.d (HP.out _ B1.out).2.d _ Tda.out).mono ?_)
    rintro e2 w2 ⟨rfl, rfl⟩
    go_wp2_with fail
    (with_reducible refine (bequal_any ci ci' ca ca' cn cn' cc cc' B B w1 (HP.out _ B1.out).1.c (HP.out _ B1.out).2.c _ Tci.out).mono ?_)
    rintro e2 w2 ⟨rfl, rfl⟩
    go_wp2_with fail
    (with_reducible refine (bequal_any tk tk' ta ta' tn tn' tc tc' B B w1 (HP.out _ B1.out).1.t (HP.out _ B1.out).2.t _ Ttk.out).mono ?_)
    rintro e2 w2 ⟨rfl, rfl⟩
    go_wp2_with fail
    go_ret
    exact ⟨by first | rfl | simp, B1.out⟩
  obtain rfl : b = true := by rw [← hb]; simp [hk, hn, hd, hid, hof, hfi, hrs, hda, hci, htk]
  have e_k : (k == k') = true := by simp [hk]
  have e_n : ((n : Int) == (n' : Int)) = true := by simp [hn]
  have e_d : ((d : Int) == (d' : Int)) = true := by simp [hd]
  have e_id : ((id : Int) == (id' : Int)) = true := by simp [hid]
  have e_of : ((of : Int) == (of' : Int)) = true := by simp [hof]
  have e_fi : (fi == fi') = true := by simp [hfi]
  have Trs : Hid (decide (rs = rs') = true) := show _ = _ by simp [hrs]
  have Tda : Hid (decide (da = da') = true) := show _ = _ by simp [hda]
  have Tci : Hid (decide (ci = ci') = true) := show _ = _ by simp [hci]
  have Ttk : Hid (decide (tk = tk') = true) := show _ = _ by simp [htk]
  clear hb hk hn hd hid hof hfi hrs hda hci htk
  unfold frV
  go_enter Try.func19, Try.ntmps19
  go_wp2_with fail
  (with_reducible refine (requal_any rs rs' ra ra' rn rn' rc rc' B B _ (HP.out _ ?hb).1.r (HP.out _ ?hb).2.r ?hm _ Trs.out).mono ?_)
  case hb => exact B0.out
  case hm => have := (HP.out _ B0.out).1.rb; simp only at this; omega
  rintro e1 w1 ⟨rfl, b1⟩
  have R1 : Hid (Rw w1 w.heap.size 26 vs) := (show Rw _ _ _ vs by rw [← HVS.out]; exact heap_allocs w [_, _] 0 _ rfl).below b1
  have Q1 : Hid (Rw w1 (w.heap.size + 1) 26 us) := (show Rw _ _ _ us by rw [← HUS.out]; exact heap_allocs w [_, _] 1 _ rfl).below b1
  have B1 : Hid (Below w.heap.size w w1) := B0.out.trans (b1.mono (by simp; omega))
  clear b1
  obtain ⟨k0, k1, k2, k3, k4, k5, k6, k7, k8, k9⟩ := fr_cells (HVS.out ▸ R1.out)
  obtain ⟨j0, j1, j2, j3, j4, j5, j6, j7, j8, j9⟩ := fr_cells (HUS.out ▸ Q1.out)
  simp only at k0 k1 k2 k3 k4 k5 k6 k7 k8 k9 j0 j1 j2 j3 j4 j5 j6 j7 j8 j9
  go_wp2_with fail
  (with_reducible refine (bequal_any da da' dA dA' dn dn' dc dc' B B w1 (HP.out _ B1.out).1.d (HP.out _ B1.out).2.d _ Tda.out).mono ?_)
  rintro e2 w2 ⟨rfl, rfl⟩
  go_wp2_with fail
  (with_reducible refine (bequal_any ci ci' ca ca' cn cn' cc cc' B B w1 (HP.out _ B1.out).1.c (HP.out _ B1.out).2.c _ Tci.out).mono ?_)
  rintro e2 w2 ⟨rfl, rfl⟩
  go_wp2_with fail
  (with_reducible refine (bequal_any tk tk' ta ta' tn tn' tc tc' B B w1 (HP.out _ B1.out).1.t (HP.out _ B1.out).2.t _ Ttk.out).mono ?_)
  rintro e2 w2 ⟨rfl, rfl⟩
  go_wp2_with fail
  go_ret
  exact ⟨by first | rfl | simp, B1.out⟩
end Go.Proofs.Ytcipmfhacloegaa
