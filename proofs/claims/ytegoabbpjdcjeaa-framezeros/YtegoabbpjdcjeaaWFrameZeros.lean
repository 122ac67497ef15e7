/-
  FrameZeros: the law's walk.
-/
import Derived.Test.YtegoabbpjdcjeaaFrV
import Derived.Test.YtegoabbpjdcjeaaFrU
import Derived.Test.YtegoabbpjdcjeaaWFrameSizes
import Derived.Lib.MinMax
namespace Go.Proofs.Ytegoabbpjdcjeaa
open Go.RowKit
set_option linter.unusedVariables false

theorem OwnF.pick {w : World} {B n c : Nat} {A : Option Addr} {l : List (Fr × Fp)} (h : OwnF w B (.slice A n c) n l) (i : Nat) (hi : i < n) (f : Fr) (hf : (l.map (·.1))[i]? = some f) : ∃ p, FrO w B f p ∧ ∀ g, A = some ⟨g, 0, none⟩ → w.rangeAt g (i * 10) (frV f p) := by
  have hl := h.len
  obtain ⟨g, hA, _, _, hat⟩ := h.at_ (by omega)
  have hx := hat i (by omega)
  have hm : l[i] ∈ l := List.getElem_mem _
  have hfe : l[i].1 = f := by
    have : i < (l.map (·.1)).length := by simp; omega
    rw [List.getElem?_eq_getElem this] at hf
    simpa using hf
  rw [hfe] at hx
  refine ⟨l[i].2, by rw [← hfe]; exact h.each _ hm, fun g' hg' => ?_⟩
  rw [hA] at hg'
  have : g = g' := by simpa using hg'
  subst this
  exact hx
theorem range_below {w u : World} {g off : Nat} {cs : List Value} (h : w.rangeAt g off cs) (hg : g < w.heap.size) (hb : Below w.heap.size w u) : u.rangeAt g off cs := fun j v hv => (Below.cell hb (p := ⟨g, off + j, none⟩) hg).trans (h j v hv)
theorem range_drew {w : World} {g off : Nat} {cs : List Value} (h : w.rangeAt g off cs) : w.drew.rangeAt g off cs := h
theorem wpList_load_mid51 {P : Program} {ops : Array Oper} {rest : List Oper} {o : Oper} {a : Act} {w : World} {Q : Exit → Act → World → Prop} (hgd : o.guard = none) (ty : TypeId) (x : Operand) (ho : o.op = .load ty x)
    (g off : Nat) (hx : a.eval x = .pointer (some ⟨g, off, none⟩)) (cs : List Value) (hc : w.rangeAt g off cs) (d : TypeDesc) (hu : P.underlying ty = some d) (hd : d.isRow = true) (hi : (P.info? ty).map (·.size) = some cs.length)
    (h : wpList P ops Q rest (a.put o.dst (.agg cs.toArray)) w) : wpList P ops Q (o :: rest) a w :=
  wpList_plain hgd fun _ hK => by
    unfold Oper.wp
    rw [exec_load_mid w ty x ho g off hx cs d hc hu hd hi]
    exact hK _ _ h
set_option maxHeartbeats 8000000 in
set_option maxRecDepth 8000 in
theorem zeros_walk (a : Int) (n0 : Nat) (hn0 : n0 < 18446744073709551616) (w : World) :
    Calls Try.prog 9 #[.int .i64 a, .int .u64 (n0 : Int)] w fun e w' => e = .returned (.bool true) ∧ Below w.heap.size w w' := by
  obtain ⟨m, hm, hlow⟩ := low_nat a 40001 (by omega) (by omega)
  have HLOW : Hid (∀ u : World, Calls Try.prog 26 #[.int .i64 a, .int .i64 40001] u fun e w' => e = .returned (.int .i64 (m : Int)) ∧ u = w') := hlow
  obtain ⟨v, hv⟩ : ∃ v, n0 % 4611686018427387904 = v := ⟨_, rfl⟩
  have e1 := and_u64F n0 4611686018427387903 v hn0 (by omega) 4611686018427387903 rfl (by rw [← hv]; exact Nat.and_two_pow_sub_one_eq_mod n0 62)
  have hv2 : v ≤ maxV := by unfold maxV; omega
  have hvm : v < 4611686018427387904 := by omega
  obtain ⟨one, hone⟩ : ∃ l, putF (mdF v) = l := ⟨_, rfl⟩
  have hn : FrN (mdF v) := ⟨by show -9223372036854775808 ≤ (16 : Int) ∧ (16 : Int) < _; omega, by show v < _; omega, by show 0 < _; omega, by show 0 < _; omega, by show 0 < _; omega, fun x hx => by cases hx⟩
  have HPUT : Hid (∀ u : World, Calls Try.prog 12 #[.agg #[.int .i64 16, .int .u64 (v : Int), .int .u64 0, .slice none 0 0, .int .u64 0, .int .u64 0, .bool false, .slice none 0 0, .slice none 0 0, .slice none 0 0]] u (MakesB u one)) := fun u => by
    have h := fput_any (mdF v) Fp.nil u.heap.size u (Nat.le_refl _) (nilL u _ 16 |> fun z => ⟨z.r, z.d, z.c, z.t, z.rb, z.db, z.cb, z.tb⟩) hn one ⟨fun _ => hone.symm, fun h => absurd (mdF_may v hv2) h⟩
    exact h
  have hol : one.length ≤ 9 := by rw [← hone, mdF_put]; have := enc_le v; simp; omega
  obtain ⟨pc, hpc⟩ : ∃ k, (m + 16383) / 16384 = k := ⟨_, rfl⟩
  have hpc3 : pc ≤ 3 := by omega
  obtain ⟨fs, hfs⟩ : ∃ l, mdF v :: (padsF 3 m ++ [mdF v]) = l := ⟨_, rfl⟩
  have hpl : (padsF 3 m).length = pc := by rw [padsF_len 3 m (by omega)]; exact hpc
  have HFL : Hid (fs.length = pc + 2) := show _ = _ by rw [← hfs]; simp; omega
  have HF0 : Hid (fs[0]? = some (mdF v)) := show _ = _ by rw [← hfs]; rfl
  have HFI : Hid (∀ i, 1 ≤ i → i ≤ pc → fs[i]? = some (padF (min (m - 16384 * (i - 1)) 16384))) := fun i h1 h2 => by
    obtain ⟨j, rfl⟩ : ∃ j, i = j + 1 := ⟨i - 1, by omega⟩
    rw [← hfs, List.getElem?_cons_succ, List.getElem?_append_left (by omega), List.getElem?_eq_getElem (by omega), padsF_at 3 m j (by omega) (by omega)]
    rfl
  have HFE : Hid (fs[pc + 1]? = some (mdF v)) := show _ = _ by rw [← hfs, List.getElem?_cons_succ, List.getElem?_append_right (by omega), hpl]; simp
  have HALL : Hid (∀ (A : Option Addr) (n c : Nat) (u : World), Sl u u.heap.size A n (one ++ (List.replicate m 0 ++ one)) → n ≤ c → c ≤ maxLen → Calls Try.prog 24 #[.slice A n c] u (AllsF u (.ok fs))) := fun A n c u h h1 h2 => by
    have h3 := fall_any _ A n c u.heap.size u h (Nat.le_refl _) h1 h2
    rw [← hone, zeros_all v m hv2 (by omega), hfs] at h3
    exact h3
  have HAW := Lib.hid awake_any
  have wm : IntKind.u64.wrap (m : Int) = (m : Int) := by rw [wrap_u64N]; omega
  have hpq : ((m : Int) + 16384 - 1) / 16384 = (pc : Int) := by omega
  clear hone hn hfs hpl hpc hv hv2 hlow
  go_enter Try.func9, Try.ntmps9
  go_wp2_with fail
  (with_reducible refine (HLOW.out _).mono ?_)
  rintro e0 w0 ⟨rfl, rfl⟩
  go_wp2_with fail
  (with_reducible refine (HPUT.out _).mono ?_)
  rintro e1 w1 ⟨A1, n1, c1, rfl, o, b⟩
  have hn1 : n1 ≤ 9 := by have := o.len; omega
  have O1 := Lib.hid o
  have B1 := Lib.hid b
  clear o b
  obtain ⟨N3, hN3⟩ : ∃ N, n1 + m = N := ⟨_, rfl⟩
  have HN3 := Lib.hid hN3
  have hN3b : N3 ≤ 50000 := by omega
  clear hN3
  go_wp2_with (first | (at_builtin; refine wpList_append_bytes rfl (.tmp 22) (.tmp 23) rfl w1.heap.size (.slice A3 N3 c3) N3 (one ++ List.replicate m 0) rfl O3.out w3.heap.size A1 n1 c1 one rfl P3.out.sl (by omega) C3.out.size w1 C3.out ?_; intro A4 c4 w4 o hle hc hg b; have O4 := Lib.hid o; have C4 := Lib.hid b; have HCC : Hid (N3 + n1 ≤ c4 ∧ c4 ≤ maxLen) := ⟨hle, hc⟩; clear o hle hc hg b) | (at_builtin; refine wpList_append_zeros rfl (.tmp 20) (.tmp 21) rfl w1.heap.size (.slice A2 n1 c2) n1 m N3 one rfl O2.out rfl HN3.out (by omega) C2.out.size w1 C2.out ?_; intro A3 c3 w3 O3 hle hc C3; have P3 := Lib.hid (O1.out.below C3.out); clear hle hc) | (at_builtin; refine wpList_append_bytes rfl _ _ rfl w1.heap.size (.slice none 0 0) 0 [] rfl (Own.nil _ _) w1.heap.size A1 n1 c1 one rfl O1.out.sl (by omega) (Nat.le_refl _) w1 (Below.refl _ _) ?_; intro A2 c2 w2 o hle hc hg b; simp only [Nat.zero_add, List.nil_append] at o; simp only [Nat.zero_add]; have O2 := Lib.hid o; have P2 := Lib.hid (O1.out.below b); have C2 := Lib.hid b; clear o hle hc hg b))
  rw [List.append_assoc] at O4
  (with_reducible refine (HALL.out A4 (N3 + n1) c4 w4 O4.out.sl HCC.out.1 HCC.out.2).mono ?_)
  rintro e5 w5 ⟨A5, n5, c5, fps, rfl, hof, hmp, b⟩
  obtain rfl : n5 = pc + 2 := by have h1 := hof.len; have h2 := congrArg List.length hmp; have h3 := HFL.out; simp at h2; omega
  obtain ⟨g, rfl, _, hg, _⟩ := hof.at_ (by omega)
  have HG := Lib.hid hg
  have HOF := Lib.hid hof
  have HMP := Lib.hid hmp
  have B5 : Hid (Below w.heap.size w w5) := (B1.out.trans (C4.out.mono B1.out.size)).trans (b.mono (Nat.le_trans B1.out.size C4.out.size))
  clear hof hmp b hg O1 P2 P3 O2 O3 O4
  have tl : (((pc : Int) + 2) != (pc : Int) + 2) = false := by simp
  go_wp2_with fail
  rw [hpq]
  clear hpq
  go_loopw [9, 10] (fun lf i wr => ∃ j : Nat, 1 ≤ j ∧ j ≤ pc + 1 ∧ i = .int .i64 (j : Int) ∧ lf = .int .u64 ((m - 16384 * (j - 1) : Nat) : Int) ∧ Hid (Below w5.heap.size w5 wr)) (fun _ i _ => pc + 1 - (intOf i).toNat)
  case atStart => exact ⟨1, by omega, by omega, rfl, by simp, Below.refl _ _⟩
  case round =>
    obtain ⟨j, hj1, hj2, rfl, rfl, HB⟩ := hrel
    by_cases hlt : j ≤ pc
    · obtain ⟨lf, hlf⟩ : ∃ x, m - 16384 * (j - 1) = x := ⟨_, rfl⟩
      have hfi := HFI.out j hj1 hlt
      rw [hlf] at hfi ⊢
      obtain ⟨k, hk⟩ : ∃ k, min lf 16384 = k := ⟨_, rfl⟩
      rw [hk] at hfi
      have hmin : min (lf : Int) 16384 = (k : Int) := by omega
      have hlfm : lf ≤ 50000 := by omega
      have hkl : k ≤ lf := by omega
      rw [← HMP.out] at hfi
      obtain ⟨pp, hfo, hrg⟩ := HOF.out.pick j (by omega) _ hfi
      have HR := Lib.hid (range_below (hrg g rfl) HG.out HB.out)
      have HFO := Lib.hid (hfo.below HB.out)
      have cN : wr.cell? ⟨g, j * 10 + 1, none⟩ = some (.int .u64 (k : Int)) := HR.out 1 _ rfl
      have HCN : Hid (∀ u : World, Below wr.heap.size wr u → u.cell? ⟨g, j * 10 + 1, none⟩ = some (.int .u64 (k : Int))) := fun u hu => (Below.cell hu (p := ⟨g, j * 10 + 1, none⟩) (Nat.lt_of_lt_of_le HG.out HB.out.size)).trans cN
      have HSM : Hid (Calls Try.prog 19 #[.agg (frV (padF k) pp).toArray, .agg #[.int .i64 0, .int .u64 (k : Int), .int .u64 0, .slice none 0 0, .int .u64 0, .int .u64 0, .bool false, .slice none 0 0, .slice none 0 0, .slice none 0 0]] wr fun e w' => e = .returned (.bool true) ∧ Below wr.heap.size wr w') := fsame_any (padF k) (padF k) pp Fp.nil wr.heap.size wr (Nat.le_refl _) HFO.out.l (nilL wr _ 0 |> fun z => ⟨z.r, z.d, z.c, z.t, z.rb, z.db, z.cb, z.tb⟩) true (by simp)
      have HSZ := Lib.hid (frV_size (padF k) pp)
      obtain ⟨vs, hvs⟩ : ∃ vs, frV (padF k) pp = vs := ⟨_, rfl⟩
      rw [hvs] at HSZ HSM HR
      have wk : (lf : Int) - (k : Int) = ((lf - k : Nat) : Int) := by omega
      have HNX : Hid (lf - k = m - 16384 * (j + 1 - 1)) := show _ = _ by omega
      have hjl : j < pc + 2 := by omega
      clear hvs hrg hfo hfi cN hlf hk HFO
      go_wp2_with (first | ((with_reducible refine wpList_load_mid51 rfl 26 (.tmp 50) rfl g (j * 10) ?hx vs HR.out _ Try.underlying26 rfl HSZ.out ?_); (case hx => with_unfolding_all rfl)))
      (with_reducible refine HSM.out.mono ?_)
      rintro e6 w6 ⟨rfl, b⟩
      have cN2 := HCN.out w6 b
      have HB6 := Lib.hid (HB.out.trans (b.mono HB.out.size))
      clear b
      go_wp2_with fail
      go_roundw
      case rel => exact ⟨j + 1, by omega, by omega, by go_num, by rw [← HNX.out], HB6⟩
      case measure => simp [intOf]; omega
    · obtain rfl : j = pc + 1 := by omega
      obtain ⟨lf, hlf⟩ : ∃ x, m - 16384 * (pc + 1 - 1) = x := ⟨_, rfl⟩
      rw [hlf]
      clear hlf
      have hf0 := HF0.out
      have hfe := HFE.out
      rw [← HMP.out] at hf0 hfe
      obtain ⟨p0, hfo0, hrg0⟩ := HOF.out.pick 0 (by omega) _ hf0
      obtain ⟨pe, hfoe, hrge⟩ := HOF.out.pick (pc + 1) (by omega) _ hfe
      have HR0 := Lib.hid (range_below (hrg0 g rfl) HG.out HB.out)
      have HRE := Lib.hid (range_below (hrge g rfl) HG.out HB.out)
      have HO0 := Lib.hid (hfo0.below HB.out)
      have HOE := Lib.hid (hfoe.below HB.out)
      have HSM : Hid (∀ u, Below wr.heap.size wr u → Calls Try.prog 19 #[.agg (frV (mdF v) p0).toArray, .agg (frV (mdF v) pe).toArray] u fun e w' => e = .returned (.bool true) ∧ Below u.heap.size u w') := fun u hu => fsame_any (mdF v) (mdF v) p0 pe u.heap.size u (Nat.le_refl _) (HO0.out.below hu).l (HOE.out.below hu).l true (by simp)
      have HSZ0 := Lib.hid (frV_size (mdF v) p0)
      have HSZE := Lib.hid (frV_size (mdF v) pe)
      have HC0 : Hid ((frV (mdF v) p0)[0]? = some (.int .i64 16) ∧ (frV (mdF v) p0)[1]? = some (.int .u64 (v : Int))) := ⟨rfl, rfl⟩
      rw [Nat.zero_mul] at HR0
      obtain ⟨vs, hvs⟩ : ∃ vs, frV (mdF v) p0 = vs := ⟨_, rfl⟩
      obtain ⟨us, hus⟩ : ∃ vs, frV (mdF v) pe = vs := ⟨_, rfl⟩
      rw [hvs] at HSZ0 HSM HR0 HC0
      rw [hus] at HSZE HSM HRE
      clear hvs hus hrg0 hfo0 hf0 hrge hfoe hfe HO0 HOE
      have wl : IntKind.i64.wrap ((pc : Int) + 2 - 1) = ((pc + 1 : Nat) : Int) := by rw [show (pc : Int) + 2 - 1 = ((pc + 1 : Nat) : Int) by omega]; exact IntWalk.i64_in _ (by omega)
      have wl2 : (pc : Int) + 1 < (pc : Int) + 2 := by omega
      have wl3 : pc + 1 < pc + 2 := by omega
      have wl4 : 0 < pc + 2 := by omega
      have wl5 : (0 : Int) < (pc : Int) + 2 := by omega
      have wl6 : (0 : Int) ≤ (pc : Int) + 1 := by omega
      go_wp2_with fail
      refine wp_held (S := fun u => u.rangeAt g 0 vs ∧ u.rangeAt g ((pc + 1) * 10) us) (by kernel_rfl) ?_
      have hS : wr.drew.rangeAt g 0 vs ∧ wr.drew.rangeAt g ((pc + 1) * 10) us := ⟨HR0.out, HRE.out⟩
      have b0 : Below wr.heap.size wr wr.drew := (Below.refl _ _).drew
      have HRB : Hid (∀ u, Below wr.heap.size wr u → u.rangeAt g 0 vs ∧ u.rangeAt g ((pc + 1) * 10) us) := fun u hu => ⟨range_below HR0.out (Nat.lt_of_lt_of_le HG.out HB.out.size) hu, range_below HRE.out (Nat.lt_of_lt_of_le HG.out HB.out.size) hu⟩
      refine wpAnyH_take (i := 0) (v := ?_) rfl (by kernel_rfl) (by kernel_rfl) (by kernel_rfl) (fun _ _ _ h => h) (Or.inl ⟨by rfl, ?_⟩) hS ?_
      rotate_left 1
      · intro u hu
        go_simp
        first | done | with_reducible rfl
      go_simp
      refine wpAnyH_take (i := 1) (v := ?_) rfl (by kernel_rfl) (by kernel_rfl) (by kernel_rfl) (fun _ _ _ h => h) (Or.inl ⟨by rfl, ?_⟩) hS ?_
      rotate_left 1
      · intro u hu
        go_simp
        first | done | with_reducible rfl
      go_simp
      refine wpAnyH_take (i := 2) (v := ?_) rfl (by kernel_rfl) (by kernel_rfl) (by kernel_rfl) (fun _ _ _ h => h) (Or.inl ⟨by rfl, ?_⟩) hS ?_
      rotate_left 1
      · intro u hu
        go_simp
        first | done | with_reducible rfl
      go_simp
      refine wpAnyH_take (i := 3) (v := ?_) rfl (by kernel_rfl) (by kernel_rfl) (by kernel_rfl) (fun _ _ _ h => h) (Or.inl ⟨by rfl, ?_⟩) hS ?_
      rotate_left 1
      · intro u hu
        have hc : u.cell? ⟨g, 1, none⟩ = some (.int .u64 (v : Int)) := by have := hu.1 1 _ HC0.out.2; simpa using this
        go_simp
        first | done | with_reducible rfl
      go_simp
      refine wpAnyH_take (i := 4) (v := ?_) rfl (by kernel_rfl) (by kernel_rfl) (by kernel_rfl) (fun _ _ _ h => h) (Or.inl ⟨by rfl, ?_⟩) hS ?_
      rotate_left 1
      · intro u hu
        go_simp
        first | done | with_reducible rfl
      go_simp
      refine wpAnyH_take (i := 5) (v := ?_) rfl (by kernel_rfl) (by kernel_rfl) (by kernel_rfl) (fun _ _ _ h => h) (Or.inl ⟨by rfl, ?_⟩) hS ?_
      rotate_left 1
      · intro u hu
        go_simp
        first | done | with_reducible rfl
      go_simp
      refine wpAnyH_take (i := 6) (v := ?_) rfl (by kernel_rfl) (by kernel_rfl) (by kernel_rfl) (fun _ _ _ h => h) (Or.inl ⟨by rfl, ?_⟩) hS ?_
      rotate_left 1
      · intro u hu
        go_simp
        first | done | with_reducible rfl
      go_simp
      refine wpAnyH_take (i := 7) (v := ?_) rfl (by kernel_rfl) (by kernel_rfl) (by kernel_rfl) (fun _ _ _ h => h) (Or.inl ⟨by rfl, ?_⟩) hS ?_
      rotate_left 1
      · intro u hu
        go_simp
        first | done | with_reducible rfl
      go_simp
      refine wpAnyH_take (i := 8) (v := ?_) rfl (by kernel_rfl) (by kernel_rfl) (by kernel_rfl) (fun _ _ _ h => h) (Or.inl ⟨by rfl, ?_⟩) hS ?_
      rotate_left 1
      · intro u hu
        go_simp
        first | done | with_reducible rfl
      go_simp
      refine wpAnyH_take (i := 9) (v := ?_) rfl (by kernel_rfl) (by kernel_rfl) (by kernel_rfl) (fun _ _ _ h => h) (Or.inl ⟨by rfl, ?_⟩) hS ?_
      rotate_left 1
      · intro u hu
        go_simp
        first | done | with_reducible rfl
      go_simp
      refine wpAnyH_take (i := 10) (v := ?_) rfl (by kernel_rfl) (by kernel_rfl) (by kernel_rfl) (fun _ _ _ h => h) (Or.inl ⟨by rfl, ?_⟩) hS ?_
      rotate_left 1
      · intro u hu
        have hc : u.cell? ⟨g, 0, none⟩ = some (.int .i64 16) := by have := hu.1 0 _ HC0.out.1; simpa using this
        go_simp
        first | done | with_reducible rfl
      go_simp
      refine wpAnyH_take (i := 11) (v := ?_) rfl (by kernel_rfl) (by kernel_rfl) (by kernel_rfl) (fun _ _ _ h => h) (Or.inl ⟨by rfl, ?_⟩) hS ?_
      rotate_left 1
      · intro u hu
        go_simp
        first | done | with_reducible rfl
      go_simp
      refine wpAnyH_take (i := 12) (v := ?_) rfl (by kernel_rfl) (by kernel_rfl) (by kernel_rfl) (fun _ _ _ h => h) (Or.inl ⟨by rfl, ?_⟩) hS ?_
      rotate_left 1
      · intro u hu
        go_simp
        first | done | with_reducible rfl
      go_simp
      refine wpAnyH_take (i := 13) (v := ?_) rfl (by kernel_rfl) (by kernel_rfl) (by kernel_rfl) (fun _ _ _ h => h) (Or.inl ⟨by rfl, ?_⟩) hS ?_
      rotate_left 1
      · intro u hu
        go_simp
        first | done | with_reducible rfl
      go_simp
      refine wpAnyH_take (i := 14) (v := ?_) rfl (by kernel_rfl) (by kernel_rfl) (by kernel_rfl) (fun _ _ _ h => h) (Or.inl ⟨by rfl, ?_⟩) hS ?_
      rotate_left 1
      · intro u hu
        go_simp
        first | done | with_reducible rfl
      go_simp
      refine wpAnyH_take (i := 15) (v := ?_) rfl (by kernel_rfl) (by kernel_rfl) (by kernel_rfl) (fun _ _ _ h => h) (Or.inl ⟨by rfl, ?_⟩) hS ?_
      rotate_left 1
      · intro u hu
        go_simp
        first | done | with_reducible rfl
      go_simp
      refine wpAnyH_pickG 16 (.agg vs.toArray) rfl (by kernel_rfl) (by kernel_rfl) (by kernel_rfl) (by rfl) (fun _ _ _ h => h) (fun u hu => exec_load_mid u 26 (.tmp 79) rfl g 0 (by with_unfolding_all rfl) vs _ hu.1 Try.underlying26 rfl HSZ0.out) hS ?_
      go_simp
      refine wpAnyH_take (i := 17) (v := ?_) rfl (by kernel_rfl) (by kernel_rfl) (by kernel_rfl) (fun _ _ _ h => h) (Or.inl ⟨by rfl, ?_⟩) hS ?_
      rotate_left 1
      · intro u hu
        go_simp
        first | done | with_reducible rfl
      go_simp
      refine wpAnyH_take (i := 18) (v := ?_) rfl (by kernel_rfl) (by kernel_rfl) (by kernel_rfl) (fun _ _ _ h => h) (Or.inl ⟨by rfl, ?_⟩) hS ?_
      rotate_left 1
      · intro u hu
        go_simp
        first | done | with_reducible rfl
      go_simp
      refine wpAnyH_take (i := 19) (v := ?_) rfl (by kernel_rfl) (by kernel_rfl) (by kernel_rfl) (fun _ _ _ h => h) (Or.inl ⟨by rfl, ?_⟩) hS ?_
      rotate_left 1
      · intro u hu
        go_simp
        first | done | with_reducible rfl
      go_simp
      refine wpAnyH_take (i := 20) (v := ?_) rfl (by kernel_rfl) (by kernel_rfl) (by kernel_rfl) (fun _ _ _ h => h) (Or.inl ⟨by rfl, ?_⟩) hS ?_
      rotate_left 1
      · intro u hu
        go_simp
        first | done | with_reducible rfl
      go_simp
      refine wpAnyH_take (i := 21) (v := ?_) rfl (by kernel_rfl) (by kernel_rfl) (by kernel_rfl) (fun _ _ _ h => h) (Or.inl ⟨by rfl, ?_⟩) hS ?_
      rotate_left 1
      · intro u hu
        go_simp
        first | done | with_reducible rfl
      go_simp
      refine wpAnyH_pickG 22 (.agg us.toArray) rfl (by kernel_rfl) (by kernel_rfl) (by kernel_rfl) (by rfl) (fun _ _ _ h => h) (fun u hu => exec_load_mid u 26 (.tmp 85) rfl g ((pc + 1) * 10) (by with_unfolding_all rfl) us _ hu.2 Try.underlying26 rfl HSZE.out) hS ?_
      go_simp
      refine wpAnyH_oneG 23 (by kernel_rfl) rfl (by rfl) ?_
      go_wp2_with fail
      (with_reducible refine (HSM.out _ b0).mono ?_)
      rintro e21 w21 ⟨rfl, bb⟩
      have b1 := b0.trans (bb.mono b0.size)
      clear bb
      clear hS
      have hS := HRB.out _ b1
      refine ⟨hS, ?_⟩
      go_simp
      refine wpAnyH_take (i := 24) (v := ?_) rfl (by kernel_rfl) (by kernel_rfl) (by kernel_rfl) (fun _ _ _ h => h) (Or.inl ⟨by rfl, ?_⟩) hS ?_
      rotate_left 1
      · intro u hu
        go_simp
        first | done | with_reducible rfl
      go_simp
      refine wpAnyH_take (i := 25) (v := ?_) rfl (by kernel_rfl) (by kernel_rfl) (by kernel_rfl) (fun _ _ _ h => h) (Or.inl ⟨by rfl, ?_⟩) hS ?_
      rotate_left 1
      · intro u hu
        go_simp
        first | done | with_reducible rfl
      go_simp
      refine wpAnyH_oneG 26 (by kernel_rfl) rfl (by rfl) ?_
      go_wp2_with fail
      (with_reducible refine (HAW.out _).mono ?_)
      rintro e22 w22 ⟨rfl, bb⟩
      have b2 := b1.trans (bb.mono b1.size)
      clear bb
      clear hS
      have hS := HRB.out _ b2
      refine ⟨hS, ?_⟩
      go_simp
      refine wpAnyH_take (i := 27) (v := ?_) rfl (by kernel_rfl) (by kernel_rfl) (by kernel_rfl) (fun _ _ _ h => h) (Or.inl ⟨by rfl, ?_⟩) hS ?_
      rotate_left 1
      · intro u hu
        go_simp
        first | done | with_reducible rfl
      go_simp
      refine wpAnyH_take (i := 28) (v := ?_) rfl (by kernel_rfl) (by kernel_rfl) (by kernel_rfl) (fun _ _ _ h => h) (Or.inl ⟨by rfl, ?_⟩) hS ?_
      rotate_left 1
      · intro u hu
        go_simp
        first | done | with_reducible rfl
      go_simp
      refine wpAnyH_done (by kernel_rfl) ?_ _
      go_wp2_with fail
      go_ret
      exact ⟨by first | rfl | simp, B5.out.trans ((HB.out.trans (b2.mono HB.out.size)).mono B5.out.size)⟩
end Go.Proofs.Ytegoabbpjdcjeaa
