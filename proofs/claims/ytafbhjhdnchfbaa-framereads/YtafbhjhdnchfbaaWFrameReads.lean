/-
  The document's Get and All, whatever the bytes. (All: out of the walk of the program's own, FrAll, by program.)
-/
import Derived.Test.YtafbhjhdnchfbaaFrRe
import Derived.Test.YtafbhjhdnchfbaaFrAll
import Derived.Test.YtafbhjhdnchfbaaFrX
import Derived.Test.YtafbhjhdnchfbaaFrU
namespace Go.Proofs.Ytafbhjhdnchfbaa
open Go.RowKit
set_option linter.unusedVariables false

theorem tell_same (n : Nat) (x : Except Nat (Fr × List UInt8)) : tellY n x = tellX n x := by cases x <;> rfl
theorem rfget_any (l : List UInt8) (A : Option Addr) (n c B : Nat) (w : World) (hs : Sl w B A n l) (hB : B ≤ w.heap.size) (hnc : n ≤ c) (hcm : c ≤ maxLen) :
    Calls Try.prog 23 #[.slice A n c] w (GetsF w (getR l)) := by
  rw [getR_tell, ← tell_same]
  cases l with
  | nil =>
    obtain rfl : n = 0 := by have := hs.1; simpa using this.symm
    clear hs
    go_enter Try.func23, Try.ntmps23
    go_wp2
    refine ret_rw2 rfl w.heap.size 26 fr0 _ rfl (heap_alloc_new w _) Try.underlying26 rfl fr_size rfl ?_
    exact ⟨Fp.nil, rfl, FrO.nil _ _ _, (Below.refl _ _).alloc (Nat.le_refl _) _⟩
  | cons x r => exact rget_cons (x :: r) r x A n c B w rfl hs hB hnc hcm
set_option maxHeartbeats 4000000 in
theorem rall_any (l : List UInt8) (A : Option Addr) (n c B : Nat) (w : World) (hs : Sl w B A n l) (hB : B ≤ w.heap.size) (hnc : n ≤ c) (hcm : c ≤ maxLen) :
    Calls Try.prog 25 #[.slice A n c] w (AllsF w (allX l)) := by
  have hl := hs.1
  by_cases h0 : l = []
  · subst h0
    obtain rfl : n = 0 := by simpa using hl.symm
    clear hs hl
    go_enter Try.func25, Try.ntmps25
    go_wp2_with fail
    go_loopw [0, 4, 5, 6, 7] (fun bs fv _ _ _ wr => bs = .slice A 0 c ∧ fv = .slice none 0 0 ∧ wr = w) (fun _ _ _ _ _ _ => 0)
    case atStart => exact ⟨rfl, rfl, rfl⟩
    case round =>
      obtain ⟨rfl, rfl, rfl⟩ := hrel
      go_wp2
      go_ret2
      exact ⟨rfl, Below.refl _ _⟩
  · have hn0 : 0 < n := by
      have : l.length ≠ 0 := fun h => h0 (List.eq_nil_of_length_eq_zero h)
      omega
    have e : allX l = rowX l.length 0 l := by unfold allX; rw [if_neg h0]
    rw [e]
    obtain ⟨X, hX⟩ : ∃ X, rowX l.length 0 l = X := ⟨_, rfl⟩
    rw [hX]
    have HX := Lib.hid hX
    have HS := Lib.hid hs
    have hn63 : n ≤ 9223372036854775807 := by unfold maxLen at hcm; omega
    have HC : Hid (n ≤ c ∧ c ≤ maxLen) := ⟨hnc, hcm⟩
    clear hX hs e h0 hl hnc hcm
    go_enter Try.func25, Try.ntmps25
    go_wp2_with fail
    go_loopw [0, 4, 5, 6, 7] (fun bs fv _ _ _ wr => ∃ (A1 : Option Addr) (m d : Nat) (l1 : List UInt8) (A2 : Option Addr) (k e : Nat) (fps : List (Fr × Fp)) (fuel : Nat), bs = .slice A1 m d ∧ fv = .slice A2 k e ∧ m ≤ n ∧ k ≤ 64 ∧ Hid (m = n ∨ 0 < k) ∧ Hid (m ≤ d ∧ d ≤ maxLen) ∧ Hid (Sl wr B A1 m l1) ∧ Hid (OwnF wr w.heap.size (.slice A2 k e) k fps) ∧ Hid (Below w.heap.size w wr) ∧ Hid (m ≤ fuel ∧ X = thenX (rowX fuel k l1) fun t => .ok (fps.map (·.1) ++ t))) (fun bs _ _ _ _ _ => match bs with | .slice _ m _ => m | _ => 0)
    case atStart =>
      refine ⟨A, n, c, l, none, 0, 0, [], l.length, rfl, rfl, Nat.le_refl _, by omega, .inl rfl, HC, HS, OwnF.nil _ _, Below.refl _ _, by rw [HS.out.1]; exact Nat.le_refl _, ?_⟩
      rw [← HX.out]
      cases rowX l.length 0 l <;> rfl
    case round =>
      obtain ⟨A1, m, d, l1, A2, k, e, fps, fuel, rfl, rfl, hm, hk, HK0, HD, S1, O1, B1, HF⟩ := hrel
      have hl1 := S1.out.1
      by_cases hm0 : m = 0
      · subst hm0
        obtain rfl : l1 = [] := List.eq_nil_of_length_eq_zero hl1
        have hXe : X = .ok (fps.map (·.1)) := by
          rw [HF.out.2]
          cases fuel <;> simp [rowX, thenX]
        have HXe := Lib.hid hXe
        have tk0 : ((k : Int) == 0) = false := by
          rcases HK0.out with h | h
          · omega
          · simp; omega
        clear hXe HX hl1
        go_wp2
        go_ret2
        rw [HXe.out]
        exact ⟨A2, k, e, fps, rfl, O1.out, rfl, B1.out⟩
      · obtain ⟨b, r, hbr⟩ : ∃ b r, l1 = b :: r := by
          cases l1 with
          | nil => simp at hl1; omega
          | cons b r => exact ⟨b, r, rfl⟩
        obtain ⟨fu, hfu⟩ : ∃ fu, fuel = fu + 1 := ⟨fuel - 1, by have := HF.out.1; omega⟩
        have hXr := HF.out.2
        rw [hbr, hfu, rowX_cons, ← hbr] at hXr
        have HBR := Lib.hid hbr
        have HFU := Lib.hid hfu
        have hmp : 0 < m := by omega
        have tm : decide ((0 : Int) < (m : Int)) = true := decide_eq_true (by omega)
        clear hbr hfu hl1
        by_cases h64 : k = 64
        · rw [if_pos h64] at hXr
          have HXe := Lib.hid hXr
          clear hXr
          subst h64
          have HG := Lib.hid (rfget_any l1 A1 m d B wr S1.out (Nat.le_trans hB B1.out.size) HD.out.1 HD.out.2)
          obtain ⟨⟨⟨f9, n9⟩, c9⟩, hg9⟩ : ∃ y, getR l1 = y := ⟨_, rfl⟩
          rw [hg9] at HG
          clear hg9
          go_wp2_with fail
          (with_reducible refine HG.out.mono ?_)
          rintro e1 w1 ⟨p, rfl, hfo, b1⟩
          simp only
          have HB1 := Lib.hid b1
          have HSZ := Lib.hid (frV_size f9 p)
          have HONE := Lib.hid (frV_one f9 p)
          have HL0 : Hid (fr0.length = (frV f9 p).length) := rfl
          generalize frV f9 p = vs at HSZ HONE HL0 ⊢
          clear hfo b1
          go_wp2_with ((with_reducible refine wpList_store_rw rfl 26 (.tmp 5) (.tmp 14) rfl w1.heap.size vs ?hx ?hy 26 fr0 ?hB HSZ.out HL0.out HONE.out ?_); (case hx => with_unfolding_all rfl); (case hy => with_unfolding_all rfl); (case hB => exact heap_alloc_new w1 _); intro w2 R2 O2)
          go_ret2
          rw [HXe.out]
          exact ⟨rfl, (B1.out.trans (HB1.out.mono B1.out.size)).trans (((Below.refl _ w1).alloc (Nat.le_refl _) _).trans (O2.out.below (by simp) (Nat.le_refl _)) |>.mono (Nat.le_trans B1.out.size HB1.out.size))⟩
        · rw [if_neg h64] at hXr
          have t64 : ((k : Int) == 64) = false := by simp; omega
          have HG := Lib.hid (rfget_any l1 A1 m d B wr S1.out (Nat.le_trans hB B1.out.size) HD.out.1 HD.out.2)
          cases hgx : getX l1 with
          | error cd =>
            rw [hgx, thenX_err, thenX_err] at hXr
            have hgr : getR l1 = ((Fr.of 0, 0), cd) := by unfold getR; rw [hgx]
            have hcd : cd ≠ 0 := getX_err l1 cd hgx
            rw [hgr] at HG
            have tc : ((cd : Int) != 0) = true := by simp; omega
            have HXe := Lib.hid hXr
            clear hXr hgx hgr hcd
            go_wp2_with fail
            (with_reducible refine HG.out.mono ?_)
            rintro e1 w1 ⟨p, rfl, hfo, b1⟩
            simp only
            have HB1 := Lib.hid b1
            have HSZ := Lib.hid (frV_size (Fr.of 0) p)
            have HONE := Lib.hid (frV_one (Fr.of 0) p)
            have HL0 : Hid (fr0.length = (frV (Fr.of 0) p).length) := rfl
            generalize frV (Fr.of 0) p = vs at HSZ HONE HL0 ⊢
            clear hfo b1
            go_wp2_with ((with_reducible refine wpList_store_rw rfl 26 (.tmp 5) (.tmp 14) rfl w1.heap.size vs ?hx ?hy 26 fr0 ?hB HSZ.out HL0.out HONE.out ?_); (case hx => with_unfolding_all rfl); (case hy => with_unfolding_all rfl); (case hB => exact heap_alloc_new w1 _); intro w2 R2 O2)
            go_ret2
            rw [HXe.out]
            exact ⟨rfl, (B1.out.trans (HB1.out.mono B1.out.size)).trans (((Below.refl _ w1).alloc (Nat.le_refl _) _).trans (O2.out.below (by simp) (Nat.le_refl _)) |>.mono (Nat.le_trans B1.out.size HB1.out.size))⟩
          | ok y =>
            obtain ⟨f, rst⟩ := y
            obtain ⟨hsl, hsd⟩ := getX_suf l1 f rst hgx
            have hgr : getR l1 = ((f, l1.length - rst.length), 0) := by unfold getR; rw [hgx]
            rw [hgr] at HG
            rw [hgx, thenX_ok] at hXr
            obtain ⟨sz, hsz⟩ : ∃ sz, l1.length - rst.length = sz := ⟨_, rfl⟩
            rw [hsz] at HG hsd
            have hlm := S1.out.1
            have hszm : sz ≤ m := by omega
            have hsz1 : 1 ≤ sz := by omega
            have HRL : Hid (rst.length = m - sz) := show _ = _ by omega
            obtain ⟨A5, eA5⟩ : ∃ v, (if d = sz then A1 else A1.map (·.add sz)) = v := ⟨_, rfl⟩
            have hcB : ∀ u : World, (Instr.slice 24 (.slice A1 m d) (some (.int .i64 (sz : Int))) none none).run Try.prog u = .ok (.slice A5 (m - sz) (d - sz)) u := fun u => by
              rw [run_cut_bytes u A1 m d sz hszm HD.out.1, eA5]
            have HS5 : Hid (∀ u : World, Below w.heap.size wr u → Sl u B A5 (m - sz) rst) := fun u hu => by
              have h1' := (S1.out.below (hu.mono hB)).drop hszm HD.out.1
              rw [eA5, ← hsd] at h1'
              exact h1'
            have HXe := Lib.hid hXr
            clear hXr hgx hgr hsd hsz hsl hlm eA5
            go_wp2_with fail
            (with_reducible refine HG.out.mono ?_)
            rintro e1 w1 ⟨p, rfl, hfo, b1⟩
            simp only at hfo
            simp only
            have HB1 := Lib.hid b1
            have HFO := Lib.hid hfo
            have HSZ := Lib.hid (frV_size f p)
            have HONE := Lib.hid (frV_one f p)
            have HL0 : Hid (fr0.length = (frV f p).length) := rfl
            obtain ⟨vs, hvs⟩ : ∃ vs, frV f p = vs := ⟨_, rfl⟩
            have HVS := Lib.hid hvs
            rw [hvs] at HSZ HONE HL0 ⊢
            clear hfo b1
            have hcells : vs = [.int .i64 f.kind, .int .u64 (f.n : Int), .int .u64 (f.delay : Int), .slice p.ra p.rn p.rc, .int .u64 (f.id : Int), .int .u64 (f.off : Int), .bool f.fin, .slice p.da p.dn p.dc, .slice p.ca p.cn p.cc, .slice p.ta p.tn p.tc] := hvs.symm
            clear hvs
            clear HSZ HONE HL0
            subst hcells
            have HBz : Hid (∀ o1 o2, Below w1.heap.size w1 ((w1.alloc o1).alloc o2)) := fun _ _ => ((Below.refl _ _).alloc (Nat.le_refl _) _).alloc (by simp) _
            have HBw : Hid (∀ o1 o2, Below w.heap.size w ((w1.alloc o1).alloc o2)) := fun o1 o2 => (B1.out.trans (HB1.out.mono B1.out.size)).trans ((HBz.out o1 o2).mono (Nat.le_trans B1.out.size HB1.out.size))
            have HBr : Hid (∀ o1 o2, Below w.heap.size wr ((w1.alloc o1).alloc o2)) := fun o1 o2 => (HB1.out.mono B1.out.size).trans ((HBz.out o1 o2).mono (Nat.le_trans B1.out.size HB1.out.size))
            go_wp2_with (at_builtin; refine wpList_append_frame rfl _ _ rfl w.heap.size (.slice A2 k e) k fps rfl ((O1.out.below HB1.out).below (HBz.out _ _)) (w1.heap.size + 1) f p rfl ?hr ?hf (by omega) (HBw.out _ _).size _ (Below.refl _ _) ?_; (case hr => exact range_row (t := 26) (fr := (0, 0)) (heap_allocs w1 [_, _] 1 _ rfl)); (case hf => exact (HFO.out.base B1.out.size).below (HBz.out _ _)); intro A6 c6 w6 O6 G6 B6)
            go_roundw
            case rel =>
              refine ⟨A5, m - sz, d - sz, rst, A6, k + 1, c6, fps ++ [(f, p)], fu, rfl, rfl, by omega, by omega, .inr (Nat.succ_pos _), ⟨by have := HD.out; omega, by have := HD.out; omega⟩, HS5.out _ ((HBr.out _ _).trans B6.out), O6, (HBw.out _ _).trans B6.out, by have := HF.out.1; have := HFU.out; omega, ?_⟩
              rw [HXe.out]
              cases rowX fu (k + 1) rst <;> simp [thenX]
            case measure => simp; omega
end Go.Proofs.Ytafbhjhdnchfbaa

/-
  The walk of FrameReads.
-/
namespace Go.Proofs.Ytafbhjhdnchfbaa
open Go.RowKit
set_option linter.unusedVariables false

theorem pick_row {w : World} {B n c : Nat} {A : Option Addr} {l : List (Fr × Fp)} (h : OwnF w B (.slice A n c) n l) (i : Nat) (hi : i < n) (f : Fr) (hf : (l.map (·.1))[i]? = some f) : ∃ p g, A = some ⟨g, 0, none⟩ ∧ g < w.heap.size ∧ FrO w B f p ∧ w.rangeAt g (i * 10) (frV f p) := by
  have hl := h.len
  obtain ⟨g, hA, _, hg, hat⟩ := h.at_ (by omega)
  have hx := hat i (by omega)
  have hm : l[i] ∈ l := List.getElem_mem _
  have hfe : l[i].1 = f := by
    have : i < (l.map (·.1)).length := by simp; omega
    rw [List.getElem?_eq_getElem this] at hf
    simpa using hf
  rw [hfe] at hx
  exact ⟨l[i].2, g, hA, hg, by rw [← hfe]; exact h.each _ hm, hx⟩
theorem range_belowR {w u : World} {g off : Nat} {cs : List Value} (h : w.rangeAt g off cs) (hg : g < w.heap.size) (hb : Below w.heap.size w u) : u.rangeAt g off cs := fun j v hv => (Below.cell hb (p := ⟨g, off + j, none⟩) hg).trans (h j v hv)
theorem row_len : ∀ (fuel cnt : Nat) (l : List UInt8) (fs : List Fr), rowX fuel cnt l = .ok fs → cnt ≤ 64 → cnt + fs.length ≤ 64
  | _, cnt, [], fs, h, hc => by
    have : fs = [] := by
      unfold rowX at h
      cases h
      rfl
    subst this
    simpa using hc
  | 0, cnt, b :: r, fs, h, hc => by
    unfold rowX at h
    cases h
  | fuel + 1, cnt, b :: r, fs, h, hc => by
    rw [rowX_cons] at h
    split at h
    · cases h
    · rcases hg : getX (b :: r) with e | ⟨f, l'⟩
      · rw [hg] at h; cases h
      · rw [hg, thenX_ok] at h
        simp only at h
        rcases hr : rowX fuel (cnt + 1) l' with e | t
        · rw [hr] at h; cases h
        · rw [hr, thenX_ok] at h
          cases h
          have := row_len fuel (cnt + 1) l' t hr (by omega)
          simp only [List.length_cons]
          omega
theorem all_len {l : List UInt8} {fs : List Fr} (h : allX l = .ok fs) : fs.length ≤ 64 := by
  unfold allX at h
  split at h
  · cases h
  · have := row_len _ _ _ _ h (Nat.zero_le _)
    omega
theorem below_dr {B : Nat} {w w' : World} (h : Below B w w') : Below B w w'.drew := ⟨h.os, h.tape, h.output, h.size, h.block⟩
theorem reads_long (A : Option Addr) (n c : Nat) (w : World) (h : 300 < n) : Calls Try.prog 4 #[.slice A n c] w fun e w' => e = .returned (.bool true) ∧ Below w.heap.size w w' := by
  have h1 : (300 : Int) < (n : Int) := by omega
  go_enter Try.func4, Try.ntmps4
  go_wp2_with fail
  (with_reducible refine (awake_any _).mono ?_)
  rintro e1 w1 ⟨rfl, b1⟩
  go_wp2
  go_ret
  exact ⟨rfl, b1⟩
set_option maxHeartbeats 8000000 in
set_option maxRecDepth 8000 in
theorem reads_any (l : List UInt8) (A : Option Addr) (n c : Nat) (w : World) (hn : n ≤ 300) (hs : Sl w w.heap.size A n l) (hnc : n ≤ c) (hcm : c ≤ maxLen) : Calls Try.prog 4 #[.slice A n c] w fun e w' => e = .returned (.bool true) ∧ Below w.heap.size w w' := by
  have k1 : ¬ (300 : Int) < (n : Int) := by omega
  obtain ⟨⟨⟨f, n9⟩, c9⟩, hg⟩ : ∃ y, getR l = y := ⟨_, rfl⟩
  obtain ⟨X, hX⟩ : ∃ X, allX l = X := ⟨_, rfl⟩
  have HG1 := Lib.hid (fget_any l A n c w.heap.size w hs (Nat.le_refl _) hnc hcm)
  have HG2 := Lib.hid (fun u (hu : Below w.heap.size w u) => rfget_any l A n c w.heap.size u (hs.below hu) hu.size hnc hcm)
  have HA1 := Lib.hid (fun u (hu : Below w.heap.size w u) => fall_any l A n c w.heap.size u (hs.below hu) hu.size hnc hcm)
  have HA2 := Lib.hid (fun u (hu : Below w.heap.size w u) => rall_any l A n c w.heap.size u (hs.below hu) hu.size hnc hcm)
  rw [hg] at HG1 HG2
  rw [hX] at HA1 HA2
  have HAW : Hid (∀ u, Below w.heap.size w u → Calls Try.prog 11 #[] u fun e w' => e = .returned (.bool true) ∧ Below w.heap.size w w') := fun u hu => (awake_any u).mono fun e w' h => ⟨h.1, hu.trans (h.2.mono hu.size)⟩
  have tn : ((n9 : Int) != (n9 : Int)) = false := by simp
  have tc : ((c9 : Int) != (c9 : Int)) = false := by simp
  have HXL : Hid (∀ fs, X = .ok fs → fs.length ≤ 64) := fun fs h => all_len (hX.trans h)
  clear hg hX hs hnc hcm hn
  go_enter Try.func4, Try.ntmps4
  go_wp2_with fail
  (with_reducible refine HG1.out.mono ?_)
  rintro e1 w1 ⟨p, rfl, hfo, b1⟩
  simp only at hfo
  simp only
  obtain ⟨vs, hvs⟩ : ∃ vs, frV f p = vs := ⟨_, rfl⟩
  have HV := Lib.hid hvs
  have HSZ : Hid ((Try.prog.info? 26).map (·.size) = some vs.length) := by rw [← hvs]; exact frV_size f p
  have HONE : Hid (∀ v ∈ vs, v.oneCell' = true) := by rw [← hvs]; exact frV_one f p
  have HL0 : Hid (fr0.length = vs.length) := by rw [← hvs]; exact rfl
  have HFO := Lib.hid hfo
  have HB1 := Lib.hid b1
  rw [hvs]
  clear hvs hfo b1 HG1
  go_wp2_with ((with_reducible refine wpList_store_rw rfl 26 (.tmp 3) (.tmp 21) rfl w1.heap.size vs ?hx ?hy 26 fr0 ?hB HSZ.out HL0.out HONE.out ?_); (case hx => with_unfolding_all rfl); (case hy => with_unfolding_all rfl); (case hB => exact heap_alloc_new w1 _); intro w2 R2 O2)
  have BB2 : Hid (Below w1.heap.size w1 w2) := ((Below.refl _ w1).alloc (Nat.le_refl _) _).trans (O2.out.below (by simp) (Nat.le_refl _))
  have B2 : Hid (Below w.heap.size w w2) := HB1.out.trans (BB2.out.mono HB1.out.size)
  have F2 := Lib.hid (HFO.out.below BB2.out)
  clear O2 HFO HL0 HONE
  (with_reducible refine (HG2.out _ B2.out).mono ?_)
  rintro e3 w3 ⟨q, rfl, hfo, b3⟩
  simp only at hfo
  simp only
  obtain ⟨us, hus⟩ : ∃ us, frV f q = us := ⟨_, rfl⟩
  have HU := Lib.hid hus
  have HSU : Hid ((Try.prog.info? 26).map (·.size) = some us.length) := by rw [← hus]; exact frV_size f q
  have HONU : Hid (∀ v ∈ us, v.oneCell' = true) := by rw [← hus]; exact frV_one f q
  have HL0 : Hid (fr0.length = us.length) := by rw [← hus]; exact rfl
  have HFO := Lib.hid hfo
  have HB3 := Lib.hid b3
  rw [hus]
  clear hus hfo b3 HG2
  go_wp2_with (first
    | ((with_reducible refine wpList_store_rw rfl 26 (.tmp 6) (.tmp 27) rfl w3.heap.size us ?hx ?hy 26 fr0 ?hB HSU.out HL0.out HONU.out ?_); (case hx => with_unfolding_all rfl); (case hy => with_unfolding_all rfl); (case hB => exact heap_alloc_new w3 _); intro w4 R4 O4; have R3 : Hid (Rw w4 w1.heap.size 26 vs) := (R2.out.below HB3.out).below (((Below.refl _ w3).alloc (Nat.le_refl _) _).trans (O4.out.below (by simp) (Nat.le_refl _))))
    | ((with_reducible refine wpList_load_rw rfl 26 (.tmp 3) rfl w1.heap.size ?hx 26 vs R3.out _ Try.underlying26 rfl HSZ.out ?_); (case hx => with_unfolding_all rfl))
    | ((with_reducible refine wpList_load_rw rfl 26 (.tmp 6) rfl w3.heap.size ?hx 26 us R4.out _ Try.underlying26 rfl HSU.out ?_); (case hx => with_unfolding_all rfl)))
  have BB4 : Hid (Below w3.heap.size w3 w4) := ((Below.refl _ w3).alloc (Nat.le_refl _) _).trans (O4.out.below (by simp) (Nat.le_refl _))
  have B4 : Hid (Below w.heap.size w w4) := (B2.out.trans (HB3.out.mono B2.out.size)).trans (BB4.out.mono (Nat.le_trans B2.out.size HB3.out.size))
  have FA : Hid (FrL w4 w4.heap.size f p) := ((F2.out.below HB3.out).below BB4.out).l
  have FB : Hid (FrL w4 w4.heap.size f q) := (HFO.out.below BB4.out).l
  have HSAME : Hid (Calls Try.prog 20 #[.agg vs.toArray, .agg us.toArray] w4 fun e w' => e = .returned (.bool true) ∧ Below w4.heap.size w4 w') := by
    rw [← HV.out, ← HU.out]
    exact rsam_any f f p q w4.heap.size w4 (Nat.le_refl _) FA.out FB.out true (by simp)
  clear R2 R3 R4 O4 F2 HFO FA FB HSZ HSU HONU HL0 BB2 BB4 HB1 HB3
  (with_reducible refine HSAME.out.mono ?_)
  rintro e5 w5 ⟨rfl, b5⟩
  have B5 := Lib.hid (B4.out.trans (b5.mono B4.out.size))
  clear HSAME b5
  go_wp2_with fail
  (with_reducible refine (HA1.out _ B5.out).mono ?_)
  rintro e6 w6 h6
  have H6 := Lib.hid h6
  clear h6 HA1
  cases X with
  | error cd =>
    obtain ⟨rfl, b6⟩ := H6.out
    have B6 := Lib.hid (B5.out.trans (b6.mono B5.out.size))
    have td : ((cd : Int) != (cd : Int)) = false := by simp
    clear H6 b6
    go_wp2_with fail
    (with_reducible refine (HA2.out _ B6.out).mono ?_)
    rintro e7 w7 ⟨rfl, b7⟩
    have B7 := Lib.hid (B6.out.trans (b7.mono B6.out.size))
    clear b7
    go_wp2_with fail
    go_loopw [13] (fun i wr => i = .int .i64 0 ∧ wr = w7) (fun _ _ => 0)
    case atStart => exact ⟨rfl, rfl⟩
    case round =>
      obtain ⟨rfl, rfl⟩ := hrel
      go_wp2_with fail
      (with_reducible refine (HAW.out _ B7.out).mono ?_)
      rintro e8 w8 ⟨rfl, b8⟩
      go_wp2
      go_ret
      exact ⟨rfl, b8⟩
  | ok fs =>
    obtain ⟨A1, k, c1, fps, rfl, o6, hf6, b6⟩ := H6.out
    have O6 := Lib.hid o6
    have B6 := Lib.hid (B5.out.trans (b6.mono B5.out.size))
    have HF6 := Lib.hid hf6
    have hk1 : k = fs.length := by rw [← hf6, List.length_map]; exact o6.len.symm
    have HK1 := Lib.hid hk1
    clear H6 o6 hf6 b6 hk1
    go_wp2_with fail
    (with_reducible refine (HA2.out _ B6.out).mono ?_)
    rintro e7 w7 ⟨A2, k2, c2, fps2, rfl, o7, hf7, b7⟩
    have hk2 : k2 = k := by rw [HK1.out, ← hf7, List.length_map]; exact o7.len.symm
    subst hk2
    have O7 := Lib.hid o7
    have O67 := Lib.hid (O6.out.below b7)
    have B7 := Lib.hid (B6.out.trans (b7.mono B6.out.size))
    have HF7 := Lib.hid hf7
    have HK := HK1
    have tk : ((k2 : Int) != (k2 : Int)) = false := by simp
    have hk64 : k2 ≤ 64 := by rw [HK.out]; exact HXL.out fs rfl
    clear o7 hf7 b7 O6 HK1
    go_wp2_with fail
    go_loopw [13] (fun i wr => ∃ j : Nat, i = .int .i64 j ∧ j ≤ k2 ∧ Hid (Below w7.heap.size w7 wr)) (fun i _ => k2 - (intOf i).toNat)
    case atStart => exact ⟨0, rfl, Nat.zero_le _, Below.refl _ _⟩
    case round =>
      obtain ⟨j, rfl, hj, B⟩ := hrel
      by_cases hlt : j < k2
      · have hfj : fs[j]? = some (fs[j]'(by have := HK.out; omega)) := List.getElem?_eq_getElem _
        obtain ⟨fj, hfe⟩ : ∃ fj, fs[j]'(by have := HK.out; omega) = fj := ⟨_, rfl⟩
        rw [hfe] at hfj
        obtain ⟨p1, g1, rfl, hg1, fo1, r1⟩ := pick_row O67.out j hlt fj (by rw [HF6.out]; exact hfj)
        obtain ⟨p2, g2, rfl, hg2, fo2, r2⟩ := pick_row O7.out j hlt fj (by rw [HF7.out]; exact hfj)
        have HSAME : Hid (∀ u, Below w7.heap.size w7 u → Calls Try.prog 20 #[.agg (frV fj p1).toArray, .agg (frV fj p2).toArray] u fun e w' => e = .returned (.bool true) ∧ Below w7.heap.size w7 w') := fun u hu =>
          (rsam_any fj fj p1 p2 u.heap.size u (Nat.le_refl _) (fo1.below hu).l (fo2.below hu).l true (by simp)).mono fun e w' h => ⟨h.1, hu.trans (h.2.mono hu.size)⟩
        have HR : Hid (∀ u, Below w7.heap.size w7 u → u.rangeAt g1 (j * 10) (frV fj p1) ∧ u.rangeAt g2 (j * 10) (frV fj p2)) := fun u hu => ⟨range_belowR r1 hg1 hu, range_belowR r2 hg2 hu⟩
        have HSZ1 := Lib.hid (frV_size fj p1)
        have HSZ2 := Lib.hid (frV_size fj p2)
        obtain ⟨vs1, hv1⟩ : ∃ y, frV fj p1 = y := ⟨_, rfl⟩
        obtain ⟨vs2, hv2⟩ : ∃ y, frV fj p2 = y := ⟨_, rfl⟩
        rw [hv1, hv2] at HSAME HR
        rw [hv1] at HSZ1
        rw [hv2] at HSZ2
        have lt1 : (j : Int) < (k2 : Int) := by omega
        clear hfj hfe hg1 hg2 fo1 fo2 r1 r2 hv1 hv2
        go_wp2_with fail
        refine wp_held (S := fun u => Below w7.heap.size w7 u) (by kernel_rfl) ?_
        have hS : Below w7.heap.size w7 wr.drew := below_dr B.out
        refine wpAnyH_take (i := 0) (v := ?_) rfl (by kernel_rfl) (by kernel_rfl) (by kernel_rfl) (fun _ _ _ h => h) (Or.inl ⟨by rfl, ?_⟩) hS ?_
        rotate_left 1
        · intro u hu
          go_simp
          first | done | with_reducible rfl
        go_simp
        refine wpAnyH_take (i := 1) (v := ?_) rfl (by kernel_rfl) (by kernel_rfl) (by kernel_rfl) (fun _ _ _ h => h) (Or.inl ⟨by rfl, ?_⟩) hS ?_
        rotate_left 1
        · intro u hu
          go_simp
          first | done | with_reducible rfl
        go_simp
        refine wpAnyH_take (i := 2) (v := ?_) rfl (by kernel_rfl) (by kernel_rfl) (by kernel_rfl) (fun _ _ _ h => h) (Or.inl ⟨by rfl, ?_⟩) hS ?_
        rotate_left 1
        · intro u hu
          go_simp
          first | done | with_reducible rfl
        go_simp
        refine wpAnyH_pickG 3 (.agg vs1.toArray) rfl (by kernel_rfl) (by kernel_rfl) (by kernel_rfl) (by rfl) (fun _ _ _ h => h) (fun u hu => exec_load_mid u 26 (.tmp 72) rfl g1 (j * 10) (by with_unfolding_all rfl) vs1 _ (HR.out u hu).1 Try.underlying26 rfl HSZ1.out) hS ?_
        go_simp
        refine wpAnyH_take (i := 4) (v := ?_) rfl (by kernel_rfl) (by kernel_rfl) (by kernel_rfl) (fun _ _ _ h => h) (Or.inl ⟨by rfl, ?_⟩) hS ?_
        rotate_left 1
        · intro u hu
          go_simp
          first | done | with_reducible rfl
        go_simp
        refine wpAnyH_take (i := 5) (v := ?_) rfl (by kernel_rfl) (by kernel_rfl) (by kernel_rfl) (fun _ _ _ h => h) (Or.inl ⟨by rfl, ?_⟩) hS ?_
        rotate_left 1
        · intro u hu
          go_simp
          first | done | with_reducible rfl
        go_simp
        refine wpAnyH_take (i := 6) (v := ?_) rfl (by kernel_rfl) (by kernel_rfl) (by kernel_rfl) (fun _ _ _ h => h) (Or.inl ⟨by rfl, ?_⟩) hS ?_
        rotate_left 1
        · intro u hu
          go_simp
          first | done | with_reducible rfl
        go_simp
        refine wpAnyH_pickG 7 (.agg vs2.toArray) rfl (by kernel_rfl) (by kernel_rfl) (by kernel_rfl) (by rfl) (fun _ _ _ h => h) (fun u hu => exec_load_mid u 26 (.tmp 76) rfl g2 (j * 10) (by with_unfolding_all rfl) vs2 _ (HR.out u hu).2 Try.underlying26 rfl HSZ2.out) hS ?_
        go_simp
        refine wpAnyH_oneG 8 (by kernel_rfl) rfl (by rfl) ?_
        go_wp2_with fail
        (with_reducible refine (HSAME.out _ hS).mono ?_)
        rintro e9 w9 ⟨rfl, hS9⟩
        refine ⟨hS9, ?_⟩
        clear hS
        refine wpAnyH_take (i := 9) (v := ?_) rfl (by kernel_rfl) (by kernel_rfl) (by kernel_rfl) (fun _ _ _ h => h) (Or.inl ⟨by rfl, ?_⟩) hS9 ?_
        rotate_left 1
        · intro u hu
          go_simp
          first | done | with_reducible rfl
        go_simp
        refine wpAnyH_done (by kernel_rfl) ?_ _
        go_wp2_with fail
        go_roundw
        case rel => exact ⟨j + 1, by go_num, Nat.succ_le_of_lt hlt, hS9⟩
        case measure => simp [intOf]; omega
      · obtain rfl : j = k2 := by omega
        have lt1 : ¬ (j : Int) < (j : Int) := by omega
        go_wp2_with fail
        (with_reducible refine (HAW.out _ (B7.out.trans (B.out.mono B7.out.size))).mono ?_)
        rintro e8 w8 ⟨rfl, b8⟩
        go_wp2
        go_ret
        exact ⟨rfl, b8⟩
theorem reads_all (l : List UInt8) (A : Option Addr) (n c : Nat) (w : World) (hs : Sl w w.heap.size A n l) (hnc : n ≤ c) (hcm : c ≤ maxLen) : Calls Try.prog 4 #[.slice A n c] w fun e w' => e = .returned (.bool true) ∧ Below w.heap.size w w' := by
  by_cases h : 300 < n
  · exact reads_long A n c w h
  · exact reads_any l A n c w (by omega) hs hnc hcm
end Go.Proofs.Ytafbhjhdnchfbaa
