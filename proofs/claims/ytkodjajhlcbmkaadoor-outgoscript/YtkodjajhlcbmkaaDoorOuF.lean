/-
  Package outgo: pick, Next.
-/
import Derived.Test.YtkodjajhlcbmkaaDoorOuD
namespace Go.Proofs.YtkodjajhlcbmkaaDoor
open Go.RowKit Go.Lib
set_option linter.unusedVariables false

theorem first_ex (p : Nat → Bool) (t : Bool) (lo : Nat) : ∀ d : Nat, ∃ r, FirstW p t lo (lo + d) r
  | 0 => ⟨lo, Nat.le_refl _, by omega, fun i h1 h2 => absurd h2 (by omega), fun h => absurd h (by omega)⟩
  | d + 1 => by
    obtain ⟨r, h1, h2, h3, h4⟩ := first_ex p t lo d
    by_cases c : r < lo + d
    · exact ⟨r, h1, by omega, h3, fun _ => h4 c⟩
    · obtain rfl : r = lo + d := by omega
      by_cases c2 : p (lo + d) = t
      · refine ⟨lo + d + 1, by omega, by omega, fun i a b => ?_, fun h => absurd h (by omega)⟩
        by_cases e : i = lo + d
        · subst e; exact c2
        · exact h3 i a (by omega)
      · exact ⟨lo + d, h1, by omega, h3, fun _ => c2⟩
theorem first_of (p : Nat → Bool) (t : Bool) {lo hi : Nat} (h : lo ≤ hi) : ∃ r, FirstW p t lo hi r := by
  obtain ⟨r, hr⟩ := first_ex p t lo (hi - lo)
  rw [show lo + (hi - lo) = hi by omega] at hr
  exact ⟨r, hr⟩
section
variable {w : World} {B g gl gt k n c sent left low e : Nat} {A : Option Addr} {D : List UInt8} {p q : Nat → Bool}
set_option maxHeartbeats 2000000 in
theorem pick_any (h : OutW w B g gl gt k A n c D sent left low e p q) (hsn : sent ≤ n) (hlo : low ≤ sent) (hG : Glob w) (R : Nat) (hR : (R : Int) ≤ 9223372036854775807) (allow : Int) (ha : (Lit.int .i64 allow).wf = true) :
    Calls Tryd.prog 28 #[.pointer (some ⟨g, 0, none⟩), .int .i64 (R : Int), .int .i64 allow] w
      fun e w' => ∃ f t : Nat, e = .returned (.tuple #[.int .i64 (f : Int), .int .i64 (t : Int)]) ∧ PickV n sent low p R allow f t ∧ ∃ k, w' = w.drewN k := by
  obtain ⟨c0, c1, c2, c3, c4, c5, c6⟩ := h.cells
  have n6 := h.n6
  have kn := h.kn
  have cl := h.nc
  have cm := h.cm
  obtain ⟨f, hF⟩ := first_of p false hlo
  have hf1 := hF.1
  have hf2 := hF.2.1
  have P : Hid (∀ m : Nat, Calls Tryd.prog 36 #[.slice (some ⟨gl, 0, none⟩) k k, .int .i64 (low : Int), .int .i64 (sent : Int)] (w.drewN m) (Quiet (.int .i64 (f : Int)) (w.drewN m))) :=
    fun m => first_any (h.l.drewN m) (show sent ≤ 64 * k by omega) (by omega) hlo (show Glob (w.drewN m) from hG) hF
  have bf : (f : Int) ≤ 1000000 := by omega
  have bs : (sent : Int) ≤ 1000000 := by omega
  by_cases hfs : f < sent
  · obtain ⟨d, hd⟩ : ∃ d : Nat, min (R : Int) ((sent : Int) - (f : Int)) = (d : Int) := ⟨min R (sent - f), by omega⟩
    obtain ⟨z, hz⟩ : ∃ z, f + d = z := ⟨_, rfl⟩
    have hz' : (f : Int) + (d : Int) = (z : Int) := by omega
    have hzs : z ≤ sent := by omega
    obtain ⟨t, hT⟩ := first_of p true (show f ≤ z by omega)
    have T : Hid (∀ m : Nat, Calls Tryd.prog 37 #[.slice (some ⟨gl, 0, none⟩) k k, .int .i64 (f : Int), .int .i64 (z : Int)] (w.drewN m) (Quiet (.int .i64 (t : Int)) (w.drewN m))) :=
      fun m => gap_any (h.l.drewN m) (show z ≤ 64 * k by omega) (by omega) (by omega) (show Glob (w.drewN m) from hG) hT
    have hP : Hid (PickV n sent low p R allow f t) := ⟨hT.1, by have := hT.2.1; omega, hf2, .inl ⟨hfs, hF, by rw [show f + min R (sent - f) = z by omega]; exact hT⟩⟩
    have hlt : ((f : Int) < (sent : Int)) := by omega
    have bd : (d : Int) ≤ 1000000 := by omega
    clear h hsn hlo hG ha n6 kn cl cm hF hT hz hzs hf1 hf2
    go_enter Tryd.func28, Tryd.ntmps28
    go_wp2_with fail
    go_quiet ((go_at_call 36; exact Calls.quiet_of (P.out _)))
    go_wp2_with fail
    go_quiet ((go_at_call 37; exact quietQ (T.out _)))
    go_wp2_with fail
    go_ret2
    exact ⟨f, t, rfl, hP.out, _, by simp only [World.drewN_drewN]; rfl⟩
  · obtain rfl : f = sent := by omega
    obtain ⟨x, hx⟩ : ∃ x : Int, min allow (n : Int) = x := ⟨_, rfl⟩
    obtain ⟨L, hL⟩ : ∃ L : Nat, max (f : Int) x = (L : Int) := ⟨(max (f : Int) x).toNat, by omega⟩
    obtain ⟨d, hd⟩ : ∃ d : Nat, min (R : Int) ((L : Int) - (f : Int)) = (d : Int) := ⟨min R (L - f), by omega⟩
    have hP : Hid (PickV n f low p R allow f (f + d)) := ⟨by omega, by omega, Nat.le_refl _, .inr ⟨rfl, hF, by rw [hx, hL]; omega⟩⟩
    have hlt : ¬ ((f : Int) < (f : Int)) := by omega
    have bd : (d : Int) ≤ 1000000 := by omega
    have bL : (L : Int) ≤ 1000000 := by omega
    have bn : (n : Int) ≤ 1000000 := by omega
    clear h hsn hlo hG ha n6 kn cl cm hF hf1 hf2
    go_enter Tryd.func28, Tryd.ntmps28
    go_wp2_with fail
    go_quiet ((go_at_call 36; exact Calls.quiet_of (P.out _)))
    go_wp2_with fail
    go_quiet (fail)
    go_wp2_with fail
    go_quiet (fail)
    go_wp2_with fail
    go_ret2
    exact ⟨f, f + d, by go_num, hP.out, _, by simp only [World.drewN_drewN]; rfl⟩
end
/-- the Out at block g, of what it holds, beside each place's state -/
def OutS (w : World) (B g n : Nat) (D : List UInt8) (s : Nat → Nat) : Prop := ∃ gl gt k A c sent left low e p q, OutW w B g gl gt k A n c D sent left low e p q ∧ OuM n sent left low e p q s
theorem OutS.keep {w w' : World} {B g n : Nat} {D : List UInt8} {s : Nat → Nat} (h : OutS w B g n D s) (hk : ∀ i, B ≤ i → i ≤ g → w'.heap[i]? = w.heap[i]?) : OutS w' B g n D s := by
  obtain ⟨gl, gt, k, A, c, sent, left, low, e, p, q, h1, h2⟩ := h
  exact ⟨gl, gt, k, A, c, sent, left, low, e, p, q, h1.keep hk, h2⟩
theorem OutS.below {w w' : World} {B g n : Nat} {D : List UInt8} {s : Nat → Nat} (h : OutS w B g n D s) (hb : Below (g + 1) w w') : OutS w' B g n D s := h.keep fun i _ hi => hb.block i (by omega)
theorem OutS.lt {w : World} {B g n : Nat} {D : List UInt8} {s : Nat → Nat} (h : OutS w B g n D s) : B ≤ g ∧ g < w.heap.size := by
  obtain ⟨gl, gt, k, A, c, sent, left, low, e, p, q, h1, h2⟩ := h
  have := h1.b1
  have := h1.b2
  have := h1.b3
  exact ⟨by omega, h1.lt⟩
theorem OutS.len {w : World} {B g n : Nat} {D : List UInt8} {s : Nat → Nat} (h : OutS w B g n D s) : D.length = n := by
  obtain ⟨gl, gt, k, A, c, sent, left, low, e, p, q, h1, h2⟩ := h
  exact h1.d.1
theorem results_tmp4 {fn : Func} {t u v x : Tmp} (h : fn.results = #[.tmp t, .tmp u, .tmp v, .tmp x]) (tmps : Array Value) (P : Program) (w : World) :
    (results fn tmps).run P w = .ok (.tuple #[tmps.getD t undef, tmps.getD u undef, tmps.getD v undef, tmps.getD x undef]) w := by
  simp [results, h]
set_option maxHeartbeats 2000000 in
theorem onext_none {w : World} {B g n : Nat} {D : List UInt8} {s : Nat → Nat} (h : OutS w B g n D s) (hG : Glob w) (room allow : Int) (hr : (Lit.int .i64 room).wf = true) (ha : (Lit.int .i64 allow).wf = true) (hv : nextV n s room allow = none) :
    Calls Tryd.prog 13 #[.pointer (some ⟨g, 0, none⟩), .int .i64 room, .int .i64 allow] w
      fun e w' => e = .returned (.tuple #[.int .i64 0, .slice none 0 0, .bool false, .bool false]) ∧ OutS w' B g n D s ∧ Mv B (g + 1) w w' := by
  have hlt := h.lt
  obtain ⟨gl, gt, k, A, c, sent, left, low, e, p, q, h, hM⟩ := h
  obtain ⟨R, hR⟩ : ∃ R : Nat, max room 0 = (R : Int) := ⟨(max room 0).toNat, by omega⟩
  have rb := bd_of_i64 hr
  have P := Lib.hid (pick_any h hM.sn hM.lo hG R (by omega) allow ha)
  obtain ⟨c0, c1, c2, c3, c4, c5, c6⟩ := h.cells
  have cf := h.r.frozen
  have HH := Lib.hid h
  have HM := Lib.hid hM
  have HV := Lib.hid hv
  have HR : Hid (R = room.toNat) := by show _ = _; omega
  have HL := Lib.hid hlt
  clear h hM hv hG hr ha rb hlt
  go_enter Tryd.func13, Tryd.ntmps13
  go_wp2_with fail
  (with_reducible refine P.out.mono ?_)
  rintro e1 w1 ⟨f, t, rfl, hP, m, rfl⟩
  have hs := HM.out.pick (room := room) HR.out hP
  rw [HV.out] at hs
  have HP := Lib.hid hP
  have hft : f = t ∧ endV n s f t = false := Classical.byContradiction fun hh => by
    unfold sendV at hs
    rw [if_neg hh] at hs
    cases hs
  obtain ⟨rfl, hev⟩ := hft
  have hev2 : (decide (f = n) && (decide (e = 0) || decide (e = 2))) = false := by
    unfold endV at hev
    rw [HM.out.en]
    by_cases c : f = n
    · simpa [c] using hev
    · simp [c]
  have fin : OutS ((w.drewN m).setCell ⟨g, 5, none⟩ (.int .i64 (f : Int))) B g n D s ∧ Mv B (g + 1) w ((w.drewN m).setCell ⟨g, 5, none⟩ (.int .i64 (f : Int))) :=
    ⟨⟨gl, gt, k, A, c, sent, left, f, e, p, q, (HH.out.drewN m).setR ((HH.out.drewN m).r.put 5 _) ((Only.refl g _).setCell 5 _), HM.out.none hP⟩, Mv.of_only (((Only.refl g w).drewN m).setCell 5 _) HL.out.1 (by omega)⟩
  clear hs hev hP
  have t1 : ((f : Int) == (n : Int)) = decide (f = n) := by
    rw [Bool.eq_iff_iff]; simp; omega
  have t2 : ((e : Int) == 0) = decide (e = 0) := by
    rw [Bool.eq_iff_iff]; simp
  have t3 : ((e : Int) == 2) = decide (e = 2) := by
    rw [Bool.eq_iff_iff]; simp; omega
  cases h1 : decide (f = n)
  · rw [h1] at t1
    clear t2 t3 hev2
    go_wp2_with fail
    refine bodyPost_ret (results_tmp4 rfl _ _ _) rfl ?_
    exact ⟨rfl, fin⟩
  · rw [h1] at t1 hev2
    rw [Bool.true_and, Bool.or_eq_false_iff] at hev2
    rw [hev2.1] at t2
    rw [hev2.2] at t3
    clear hev2
    go_wp2_with fail
    refine bodyPost_ret (results_tmp4 rfl _ _ _) rfl ?_
    exact ⟨rfl, fin⟩
set_option maxHeartbeats 4000000 in
theorem onext_some {w : World} {B g n : Nat} {D : List UInt8} {s : Nat → Nat} (h : OutS w B g n D s) (hG : Glob w) (room allow : Int) (hr : (Lit.int .i64 room).wf = true) (ha : (Lit.int .i64 allow).wf = true) {f t : Nat} {b : Bool} (hv : nextV n s room allow = some (f, t, b)) :
    Calls Tryd.prog 13 #[.pointer (some ⟨g, 0, none⟩), .int .i64 room, .int .i64 allow] w
      fun e w' => ∃ A1 c1, e = .returned (.tuple #[.int .i64 (f : Int), .slice A1 (t - f) c1, .bool b, .bool true]) ∧ Own w' w.heap.size (.slice A1 (t - f) c1) (t - f) ((D.drop f).take (t - f)) ∧ (t - f ≤ c1 ∧ c1 ≤ maxLen) ∧ f ≤ t ∧ t ≤ n ∧
        OutS w' B g n D (landV n s 1 (some (f, t, b))) ∧ Mv B (g + 1) w w' := by
  have hlt := h.lt
  obtain ⟨gl, gt, k, A, c, sent, left, low, e, p, q, h, hM⟩ := h
  obtain ⟨R, hR⟩ : ∃ R : Nat, max room 0 = (R : Int) := ⟨(max room 0).toNat, by omega⟩
  have rb := bd_of_i64 hr
  have P := Lib.hid (pick_any h hM.sn hM.lo hG R (by omega) allow ha)
  obtain ⟨c0, c1, c2, c3, c4, c5, c6⟩ := h.cells
  have cf := h.r.frozen
  have HH := Lib.hid h
  have HM := Lib.hid hM
  have HV := Lib.hid hv
  have HR : Hid (R = room.toNat) := by show _ = _; omega
  have HL := Lib.hid hlt
  clear h hM hv hG hr ha rb hlt
  go_enter Tryd.func13, Tryd.ntmps13
  go_wp2_with fail
  (with_reducible refine P.out.mono ?_)
  rintro e1 w1 ⟨f1, t1, rfl, hP, m, rfl⟩
  have hs := HM.out.pick (room := room) HR.out hP
  rw [HV.out] at hs
  have HP := Lib.hid hP
  have hne : ¬ (f1 = t1 ∧ endV n s f1 t1 = false) := fun hh => by
    unfold sendV at hs
    rw [if_pos hh] at hs
    cases hs
  unfold sendV at hs
  rw [if_neg hne] at hs
  injection hs with hs
  injection hs with e1 e2
  injection e2 with e2 e3
  subst e1
  subst e2
  have hft := hP.ft
  have htn := hP.tn
  have hev2 : (decide (t = n) && (decide (e = 0) || decide (e = 2))) = b := by
    rw [e3, HM.out.en]
    unfold endV
    by_cases c : t = n
    · have : f < t ∨ f = n := by omega
      rcases this with h' | h' <;> simp [c, h'] <;> omega
    · simp [c]
  rw [← e3] at hne
  have hgo : f ≠ t ∨ b = true := by
    by_cases c : f = t
    · right
      cases b
      · exact absurd ⟨c, rfl⟩ hne
      · rfl
    · exact .inl c
  clear e3 hne hP
  have t1 : ((t : Int) == (n : Int)) = decide (t = n) := by
    rw [Bool.eq_iff_iff]; simp; omega
  have t2 : ((e : Int) == 0) = decide (e = 0) := by
    rw [Bool.eq_iff_iff]; simp
  have t3 : ((e : Int) == 2) = decide (e = 2) := by
    rw [Bool.eq_iff_iff]; simp; omega
  obtain ⟨M, hMx⟩ : ∃ M, max sent t = M := ⟨_, rfl⟩
  have t4 : max (sent : Int) (t : Int) = (M : Int) := by omega
  have HT1 := HM.out.told HP.out b (by rw [hev2])
  rw [hMx] at HT1
  obtain ⟨Ac, hAc⟩ : ∃ Ac, (if c = f then A else A.map (·.add f)) = Ac := ⟨_, rfl⟩
  have hnc := HH.out.nc
  have hn6 := HH.out.n6
  have hk64 := HH.out.kn
  have hcut : ∀ u : World, (Instr.slice 22 (.slice A n c) (some (.int .i64 (f : Int))) (some (.int .i64 (t : Int))) none).run Tryd.prog u = .ok (.slice Ac (t - f) (c - f)) u := fun u => by
    rw [← hAc]
    exact run_cut2 u A n c f t hft (by omega)
  have CN : Hid (∀ u, Sl u gl A n D → gl ≤ u.heap.size → Calls Tryd.prog 26 #[.slice Ac (t - f) (c - f)] u (MakesBytes u (t - f) ((D.drop f).take (t - f)))) := fun u hu hg => by
    rw [← hAc]
    exact clone_any _ (t - f) _ gl _ u ((hu.drop (k := f) (c := c) (by omega) hnc).take (by omega)) hg (by omega)
  have hgl : B ≤ gl ∧ gl < g + 1 := ⟨HH.out.b1, by have := HH.out.b2; have := HH.out.b3; omega⟩
  have hgl2 : gl ≠ g := by have := HH.out.b2; have := HH.out.b3; omega
  have CL : Hid (∀ u, Only g w u → Calls Tryd.prog 29 #[.slice (some ⟨gl, 0, none⟩) k k, .int .i64 (f : Int), .int .i64 (t : Int)] u
      fun e w' => e = .returned (.tuple #[]) ∧ MkW w' gl k (putW p (fun _ => false) f t) ∧ Only gl u w') := fun u hu => clear_any (HH.out.l.only hu hgl2) (by omega) (by omega) (by omega)
  have X2 := Lib.hid (((HH.out.drewN m).setR ((HH.out.drewN m).r.put 5 (.int .i64 (f : Int))) ((Only.refl g _).setCell 5 _)).setR (sent' := M) (((HH.out.drewN m).r.put 5 (.int .i64 (f : Int))).put 1 (.int .i64 (M : Int))) ((Only.refl g _).setCell 1 _))
  have M2 := Lib.hid (Mv.of_only (B := B) (C := g + 1) ((((Only.refl g w).drewN m).setCell 5 (.int .i64 (f : Int))).setCell 1 (.int .i64 (M : Int))) HL.out.1 (by omega))
  clear hAc hnc hn6 hk64 hMx
  have hfn : f ≠ t → ((f : Int) == (t : Int)) = false := fun hh => by simp; omega
  cases b
  · have HT := Lib.hid HT1
    have hfv := hfn (by simpa using hgo)
    clear HT1 hfn hgo
    cases h1 : decide (t = n)
    · rw [h1] at t1
      clear t2 t3 hev2 h1
      go_wp2_with fail
      (with_reducible refine (CL.out _ ((((Only.refl g w).drewN m).setCell 5 _).setCell 1 _)).mono ?_)
      rintro e3 w3 ⟨rfl, l3, o3⟩
      have X3 := Lib.hid (X2.out.setL l3 o3)
      have O3 := Lib.hid o3
      have d0 := X3.out.r.cell 0 _ rfl
      have d6 := X3.out.r.cell 6 _ rfl
      have df := X3.out.r.frozen
      clear l3 o3 c0 c1 c2 c3 c4 c5 c6 cf
      go_wp2_with fail
      have X4 := Lib.hid X3.out
      have M4 := Lib.hid (M2.out.trans (Mv.of_only O3.out hgl.1 hgl.2))
      (with_reducible refine (CN.out _ X4.out.d (Nat.le_of_lt X4.out.l.lt)).mono ?_)
      rintro e4 w4 ⟨A1, c1, rfl, ho, hle, hcm, hb⟩
      have HO := Lib.hid ho
      have HB := Lib.hid hb
      have HE := Lib.hid hle
      have HC := Lib.hid hcm
      clear ho hb hle hcm d0 d6 df
      go_wp2_with fail
      refine bodyPost_ret (results_tmp4 rfl _ _ _) rfl ?_
      exact ⟨A1, c1, rfl, HO.out.base M4.out.size, ⟨HE.out, HC.out⟩, hft, htn, ⟨gl, gt, k, A, c, M, left, f, _, _, q, X4.out.keep fun i _ hi => HB.out.block i (Nat.lt_of_le_of_lt hi X4.out.lt), HT.out⟩, M4.out.trans (Mv.of_below HB.out)⟩
    · rw [h1] at t1 hev2
      rw [Bool.true_and, Bool.or_eq_false_iff] at hev2
      rw [hev2.1] at t2
      rw [hev2.2] at t3
      clear hev2 h1
      go_wp2_with fail
      (with_reducible refine (CL.out _ ((((Only.refl g w).drewN m).setCell 5 _).setCell 1 _)).mono ?_)
      rintro e3 w3 ⟨rfl, l3, o3⟩
      have X3 := Lib.hid (X2.out.setL l3 o3)
      have O3 := Lib.hid o3
      have d0 := X3.out.r.cell 0 _ rfl
      have d6 := X3.out.r.cell 6 _ rfl
      have df := X3.out.r.frozen
      clear l3 o3 c0 c1 c2 c3 c4 c5 c6 cf
      go_wp2_with fail
      have X4 := Lib.hid X3.out
      have M4 := Lib.hid (M2.out.trans (Mv.of_only O3.out hgl.1 hgl.2))
      (with_reducible refine (CN.out _ X4.out.d (Nat.le_of_lt X4.out.l.lt)).mono ?_)
      rintro e4 w4 ⟨A1, c1, rfl, ho, hle, hcm, hb⟩
      have HO := Lib.hid ho
      have HB := Lib.hid hb
      have HE := Lib.hid hle
      have HC := Lib.hid hcm
      clear ho hb hle hcm d0 d6 df
      go_wp2_with fail
      refine bodyPost_ret (results_tmp4 rfl _ _ _) rfl ?_
      exact ⟨A1, c1, rfl, HO.out.base M4.out.size, ⟨HE.out, HC.out⟩, hft, htn, ⟨gl, gt, k, A, c, M, left, f, _, _, q, X4.out.keep fun i _ hi => HB.out.block i (Nat.lt_of_le_of_lt hi X4.out.lt), HT.out⟩, M4.out.trans (Mv.of_below HB.out)⟩
  · have HT := Lib.hid HT1
    have h1 : decide (t = n) = true := by
      cases h1 : decide (t = n)
      · rw [h1] at hev2; cases hev2
      · rfl
    rw [h1] at t1 hev2
    rw [Bool.true_and] at hev2
    have hfv : ((f : Int) == (t : Int)) = true ∨ ((f : Int) == (t : Int)) = false := by
      cases ((f : Int) == (t : Int)) <;> simp
    clear HT1 hfn hgo h1
    cases h2 : decide (e = 0)
    · rw [h2] at t2 hev2
      rw [Bool.false_or] at hev2
      rw [hev2] at t3
      clear hev2 h2
      rcases hfv with hfv | hfv
      · -- no byte, the end alone
        go_wp2_with fail
        (with_reducible refine (CL.out _ ((((Only.refl g w).drewN m).setCell 5 _).setCell 1 _)).mono ?_)
        rintro e3 w3 ⟨rfl, l3, o3⟩
        have X3 := Lib.hid (X2.out.setL l3 o3)
        have O3 := Lib.hid o3
        have d0 := X3.out.r.cell 0 _ rfl
        have d6 := X3.out.r.cell 6 _ rfl
        have df := X3.out.r.frozen
        clear l3 o3 c0 c1 c2 c3 c4 c5 c6 cf
        go_wp2_with fail
        have X4 : Hid (OutW (w3.setCell ⟨g, 6, none⟩ (.int .i64 1)) B g gl gt k A n c D M left f 1 (putW p (fun _ => false) f t) q) := X3.out.setR (e' := 1) (X3.out.r.put 6 (.int .i64 1)) ((Only.refl g w3).setCell 6 _)
        have M4 := Lib.hid ((M2.out.trans (Mv.of_only O3.out hgl.1 hgl.2)).trans (Mv.of_only (B := B) (C := g + 1) ((Only.refl g w3).setCell 6 (.int .i64 1)) HL.out.1 (by omega)))
        (with_reducible refine (CN.out _ X4.out.d (Nat.le_of_lt X4.out.l.lt)).mono ?_)
        rintro e4 w4 ⟨A1, c1, rfl, ho, hle, hcm, hb⟩
        have HO := Lib.hid ho
        have HB := Lib.hid hb
        have HE := Lib.hid hle
        have HC := Lib.hid hcm
        clear ho hb hle hcm d0 d6 df
        go_wp2_with fail
        refine bodyPost_ret (results_tmp4 rfl _ _ _) rfl ?_
        exact ⟨A1, c1, rfl, HO.out.base M4.out.size, ⟨HE.out, HC.out⟩, hft, htn, ⟨gl, gt, k, A, c, M, left, f, _, _, q, X4.out.keep fun i _ hi => HB.out.block i (Nat.lt_of_le_of_lt hi X4.out.lt), HT.out⟩, M4.out.trans (Mv.of_below HB.out)⟩
      · -- bytes, and the end
        go_wp2_with fail
        (with_reducible refine (CL.out _ ((((Only.refl g w).drewN m).setCell 5 _).setCell 1 _)).mono ?_)
        rintro e3 w3 ⟨rfl, l3, o3⟩
        have X3 := Lib.hid (X2.out.setL l3 o3)
        have O3 := Lib.hid o3
        have d0 := X3.out.r.cell 0 _ rfl
        have d6 := X3.out.r.cell 6 _ rfl
        have df := X3.out.r.frozen
        clear l3 o3 c0 c1 c2 c3 c4 c5 c6 cf
        go_wp2_with fail
        have X4 : Hid (OutW (w3.setCell ⟨g, 6, none⟩ (.int .i64 1)) B g gl gt k A n c D M left f 1 (putW p (fun _ => false) f t) q) := X3.out.setR (e' := 1) (X3.out.r.put 6 (.int .i64 1)) ((Only.refl g w3).setCell 6 _)
        have M4 := Lib.hid ((M2.out.trans (Mv.of_only O3.out hgl.1 hgl.2)).trans (Mv.of_only (B := B) (C := g + 1) ((Only.refl g w3).setCell 6 (.int .i64 1)) HL.out.1 (by omega)))
        (with_reducible refine (CN.out _ X4.out.d (Nat.le_of_lt X4.out.l.lt)).mono ?_)
        rintro e4 w4 ⟨A1, c1, rfl, ho, hle, hcm, hb⟩
        have HO := Lib.hid ho
        have HB := Lib.hid hb
        have HE := Lib.hid hle
        have HC := Lib.hid hcm
        clear ho hb hle hcm d0 d6 df
        go_wp2_with fail
        refine bodyPost_ret (results_tmp4 rfl _ _ _) rfl ?_
        exact ⟨A1, c1, rfl, HO.out.base M4.out.size, ⟨HE.out, HC.out⟩, hft, htn, ⟨gl, gt, k, A, c, M, left, f, _, _, q, X4.out.keep fun i _ hi => HB.out.block i (Nat.lt_of_le_of_lt hi X4.out.lt), HT.out⟩, M4.out.trans (Mv.of_below HB.out)⟩
    · rw [h2] at t2
      clear hev2 h2 t3
      rcases hfv with hfv | hfv
      · -- no byte, the end alone
        go_wp2_with fail
        (with_reducible refine (CL.out _ ((((Only.refl g w).drewN m).setCell 5 _).setCell 1 _)).mono ?_)
        rintro e3 w3 ⟨rfl, l3, o3⟩
        have X3 := Lib.hid (X2.out.setL l3 o3)
        have O3 := Lib.hid o3
        have d0 := X3.out.r.cell 0 _ rfl
        have d6 := X3.out.r.cell 6 _ rfl
        have df := X3.out.r.frozen
        clear l3 o3 c0 c1 c2 c3 c4 c5 c6 cf
        go_wp2_with fail
        have X4 : Hid (OutW (w3.setCell ⟨g, 6, none⟩ (.int .i64 1)) B g gl gt k A n c D M left f 1 (putW p (fun _ => false) f t) q) := X3.out.setR (e' := 1) (X3.out.r.put 6 (.int .i64 1)) ((Only.refl g w3).setCell 6 _)
        have M4 := Lib.hid ((M2.out.trans (Mv.of_only O3.out hgl.1 hgl.2)).trans (Mv.of_only (B := B) (C := g + 1) ((Only.refl g w3).setCell 6 (.int .i64 1)) HL.out.1 (by omega)))
        (with_reducible refine (CN.out _ X4.out.d (Nat.le_of_lt X4.out.l.lt)).mono ?_)
        rintro e4 w4 ⟨A1, c1, rfl, ho, hle, hcm, hb⟩
        have HO := Lib.hid ho
        have HB := Lib.hid hb
        have HE := Lib.hid hle
        have HC := Lib.hid hcm
        clear ho hb hle hcm d0 d6 df
        go_wp2_with fail
        refine bodyPost_ret (results_tmp4 rfl _ _ _) rfl ?_
        exact ⟨A1, c1, rfl, HO.out.base M4.out.size, ⟨HE.out, HC.out⟩, hft, htn, ⟨gl, gt, k, A, c, M, left, f, _, _, q, X4.out.keep fun i _ hi => HB.out.block i (Nat.lt_of_le_of_lt hi X4.out.lt), HT.out⟩, M4.out.trans (Mv.of_below HB.out)⟩
      · -- bytes, and the end
        go_wp2_with fail
        (with_reducible refine (CL.out _ ((((Only.refl g w).drewN m).setCell 5 _).setCell 1 _)).mono ?_)
        rintro e3 w3 ⟨rfl, l3, o3⟩
        have X3 := Lib.hid (X2.out.setL l3 o3)
        have O3 := Lib.hid o3
        have d0 := X3.out.r.cell 0 _ rfl
        have d6 := X3.out.r.cell 6 _ rfl
        have df := X3.out.r.frozen
        clear l3 o3 c0 c1 c2 c3 c4 c5 c6 cf
        go_wp2_with fail
        have X4 : Hid (OutW (w3.setCell ⟨g, 6, none⟩ (.int .i64 1)) B g gl gt k A n c D M left f 1 (putW p (fun _ => false) f t) q) := X3.out.setR (e' := 1) (X3.out.r.put 6 (.int .i64 1)) ((Only.refl g w3).setCell 6 _)
        have M4 := Lib.hid ((M2.out.trans (Mv.of_only O3.out hgl.1 hgl.2)).trans (Mv.of_only (B := B) (C := g + 1) ((Only.refl g w3).setCell 6 (.int .i64 1)) HL.out.1 (by omega)))
        (with_reducible refine (CN.out _ X4.out.d (Nat.le_of_lt X4.out.l.lt)).mono ?_)
        rintro e4 w4 ⟨A1, c1, rfl, ho, hle, hcm, hb⟩
        have HO := Lib.hid ho
        have HB := Lib.hid hb
        have HE := Lib.hid hle
        have HC := Lib.hid hcm
        clear ho hb hle hcm d0 d6 df
        go_wp2_with fail
        refine bodyPost_ret (results_tmp4 rfl _ _ _) rfl ?_
        exact ⟨A1, c1, rfl, HO.out.base M4.out.size, ⟨HE.out, HC.out⟩, hft, htn, ⟨gl, gt, k, A, c, M, left, f, _, _, q, X4.out.keep fun i _ hi => HB.out.block i (Nat.lt_of_le_of_lt hi X4.out.lt), HT.out⟩, M4.out.trans (Mv.of_below HB.out)⟩
end Go.Proofs.YtkodjajhlcbmkaaDoor
