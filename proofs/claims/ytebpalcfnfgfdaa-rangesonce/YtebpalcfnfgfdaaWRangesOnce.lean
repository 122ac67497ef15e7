/-
  The walk of RangesOnce.
-/
import Derived.Test.YtebpalcfnfgfdaaRgL
import Derived.Test.YtebpalcfnfgfdaaLow
import Derived.Test.YtebpalcfnfgfdaaInts
import Derived.Deep.RegionHeld3
namespace Go.Proofs.Ytebpalcfnfgfdaa
open Go.RowKit Go.Lib
set_option linter.unusedVariables false

def vz (zs : List Int) (u : Nat) : Nat := (lowV (zs.getD u 0) 60).toNat
theorem vz_lt (zs : List Int) (u : Nat) : vz zs u < 60 := by have := low_bd (zs.getD u 0) 60 (by omega) (by omega); unfold vz; omega
theorem low60 (z : Int) (u : World) : Calls Try.prog 20 #[.int .i64 z, .int .i64 60] u fun e w' => e = .returned (.int .i64 (((lowV z 60).toNat : Nat) : Int)) ∧ u = w' := by
  have h := low_any z 60 u (by omega) (by omega)
  have hb := low_bd z 60 (by omega) (by omega)
  rwa [show (((lowV z 60).toNat : Nat) : Int) = lowV z 60 by omega]
/-- the first j of them -/
def OneP (zs : List Int) (j m : Nat) : Prop := ∃ u, u < j ∧ vz zs u = m
/-- the first j of the turned ones -/
def TurnP (zs : List Int) (n r j m : Nat) : Prop := ∃ u, u < j ∧ vz zs ((u + r) % n) = m
theorem one_zero (zs : List Int) (m : Nat) : False ↔ OneP zs 0 m := ⟨fun h => h.elim, fun ⟨_, h, _⟩ => absurd h (Nat.not_lt_zero _)⟩
theorem turn_zero (zs : List Int) (n r m : Nat) : False ↔ TurnP zs n r 0 m := ⟨fun h => h.elim, fun ⟨_, h, _⟩ => absurd h (Nat.not_lt_zero _)⟩
theorem one_lt {zs : List Int} {j m : Nat} (h : OneP zs j m) : m < 60 := by obtain ⟨u, _, rfl⟩ := h; exact vz_lt _ _
theorem turn_lt {zs : List Int} {n r j m : Nat} (h : TurnP zs n r j m) : m < 60 := by obtain ⟨u, _, rfl⟩ := h; exact vz_lt _ _
theorem one_succ {zs : List Int} {j m : Nat} : (m = vz zs j ∨ OneP zs j m) ↔ OneP zs (j + 1) m := by
  constructor
  · rintro (rfl | ⟨u, h1, h2⟩)
    · exact ⟨j, by omega, rfl⟩
    · exact ⟨u, by omega, h2⟩
  · rintro ⟨u, h1, h2⟩
    by_cases e : u = j
    · subst e; exact .inl h2.symm
    · exact .inr ⟨u, by omega, h2⟩
theorem turn_succ {zs : List Int} {n r j m : Nat} : (m = vz zs ((j + r) % n) ∨ TurnP zs n r j m) ↔ TurnP zs n r (j + 1) m := by
  constructor
  · rintro (rfl | ⟨u, h1, h2⟩)
    · exact ⟨j, by omega, rfl⟩
    · exact ⟨u, by omega, h2⟩
  · rintro ⟨u, h1, h2⟩
    by_cases e : u = j
    · subst e; exact .inl h2.symm
    · exact .inr ⟨u, by omega, h2⟩
theorem turn_all {zs : List Int} {n r m : Nat} (hr : r < n) : OneP zs n m ↔ TurnP zs n r n m := by
  constructor
  · rintro ⟨u, h1, h2⟩
    refine ⟨(u + (n - r)) % n, Nat.mod_lt _ (by omega), ?_⟩
    rw [show ((u + (n - r)) % n + r) % n = u by
      rw [Nat.mod_add_mod, show u + (n - r) + r = u + n by omega, Nat.add_mod_right, Nat.mod_eq_of_lt h1]]
    exact h2
  · rintro ⟨u, h1, h2⟩
    exact ⟨(u + r) % n, Nat.mod_lt _ (by omega), h2⟩
theorem set_add {s : RS} {k : Nat} {P : Nat → Prop} (h : SetP s 64 P) (hP : ∀ m, P m → m < 60) (hk : k < 60) : SetP (s.add k) 64 (fun m => m = k ∨ P m) := by
  by_cases hp : P k
  · rw [RS.add_old (h.old hp)]
    refine h.to fun m => ⟨.inr, fun hh => ?_⟩
    rcases hh with rfl | hh
    · exact hp
    · exact hh
  · exact (h.new_ hP hk (by omega) (by omega) hp).2
theorem set_newB {s : RS} {k : Nat} {P : Nat → Prop} (h : SetP s 64 P) (hP : ∀ m, P m → m < 60) (hk : k < 60) (b : Bool) (hb : b = true ↔ P k) : s.newB k = !b := by
  cases hbb : b
  · exact (h.new_ hP hk (by omega) (by omega) (fun hh => by rw [hb.2 hh] at hbb; cases hbb)).1
  · exact h.old (hb.1 hbb)
theorem cnt_zero (N : Nat) : cntB (fun _ => false) N = 0 := by
  induction N with
  | zero => rfl
  | succ N ih => simp [cntB, ih]
theorem two_start {w w1 w2 : World} {B gs gt : Nat} {M : Nat} {s t : RS} (hs : SetW w2 B gs none 0 0 s) (ht : SetW w2 B gt none 0 0 t) (os : s.Ok) (ot : t.Ok) (hne : gs ≠ gt) (hB : B ≤ w2.heap.size) (T : TypeId) (cs : Array Value) (hcs : cs = (seenV (fun _ => false)).toArray) :
    Two (w2.alloc (.cells cs T)) B gs gt w2.heap.size T s t (fun _ => false) := by
  subst hcs
  have hb : Below w2.heap.size w2 (w2.alloc (.cells (seenV (fun _ => false)).toArray T)) := (Below.refl _ _).alloc (Nat.le_refl _) _
  exact ⟨os, ot, ⟨none, 0, 0, none, 0, 0, hs.below hb, ht.below hb, fun a ha => (by cases ha), fun a ha => (by cases ha)⟩, heap_alloc_new w2 _, hne, by have := hs.lt; omega, by have := ht.lt; omega, hB⟩
theorem sum_take (l : RL) : ∀ k, k < l.length → sumR (l.take (k + 1)) = sumR (l.take k) + ((l.getD k (0, 0)).2 + 1 - (l.getD k (0, 0)).1) := by
  induction l with
  | nil => intro k h; simp at h
  | cons x r ih =>
    intro k h
    cases k with
    | zero => simp [sumR]
    | succ k =>
      have := ih k (by simpa using h)
      simp only [List.take_succ_cons, sumR, List.getD_cons_succ, this]
      omega
theorem sum_take_le (l : RL) : ∀ k, sumR (l.take k) ≤ sumR l := by
  induction l with
  | nil => intro k; simp
  | cons x r ih =>
    intro k
    cases k with
    | zero => simp [sumR]
    | succ k => have := ih k; simp only [List.take_succ_cons, sumR]; omega
theorem fall_gap2 : ∀ {l : RL} {B : Nat}, Fall B l → ∀ a b, a < b → b < l.length → (l.getD b (0, 0)).2 + 1 < (l.getD a (0, 0)).1 := fun h => fall_gap h
theorem own_some3 {w : World} {B n c : Nat} {A : Option Addr} {l : RL} (h : OwnR w B (.slice A n c) n l) (hn : 0 < n) : ∃ g, A = some ⟨g, 0, none⟩ ∧ g < w.heap.size := by
  obtain ⟨b, off, e, _⟩ := h.sl.2 hn
  subst e
  have h1 := h.spot _ rfl
  have h2 := h.blk _ rfl
  exact ⟨b, by rw [h1], h2.2⟩
theorem size_bool : (Try.prog.info? 4).map (·.size) = some 1 := by kernel_rfl
theorem once_long (a1 : Option Addr) (n c : Nat) (z2 : Int) (w : World) (h : 30 < n ∨ n = 0) : Calls Try.prog 4 #[.slice a1 n c, .int .i64 z2] w fun e w' => e = .returned (.bool true) ∧ Below w.heap.size w w' := by
  by_cases h1 : 30 < n
  · have h2 : (30 : Int) < (n : Int) := by omega
    go_enter Try.func4, Try.ntmps4
    go_wp2_with fail
    (with_reducible refine (awake_any _).mono ?_)
    rintro e1 w1 ⟨rfl, b1⟩
    go_wp2
    go_ret
    exact ⟨rfl, b1⟩
  · obtain rfl : n = 0 := by omega
    go_enter Try.func4, Try.ntmps4
    go_wp2_with fail
    (with_reducible refine (awake_any _).mono ?_)
    rintro e1 w1 ⟨rfl, b1⟩
    go_wp2
    go_ret
    exact ⟨rfl, b1⟩
set_option maxHeartbeats 4000000 in
set_option maxRecDepth 8000 in
theorem once_any (a1 : Option Addr) (n c : Nat) (zs : List Int) (z2 : Int) (w : World) (hn : n ≤ 30) (h0 : 0 < n) (hz : n ≤ zs.length)
    (hin : ∃ b off, a1 = some ⟨b, off, none⟩ ∧ b < w.heap.size ∧ ∀ i, i < zs.length → w.cell? ⟨b, off + i, none⟩ = some (.int .i64 (zs.getD i 0))) :
    Calls Try.prog 4 #[.slice a1 n c, .int .i64 z2] w fun e w' => e = .returned (.bool true) ∧ Below w.heap.size w w' := by
  obtain ⟨gb, go, rfl, hgb, hcell⟩ := hin
  have h30 : ¬ (30 : Int) < (n : Int) := by omega
  have hn0 : ¬ (n : Int) = 0 := by omega
  have HC := Lib.hid hcell
  have HN : Hid (∀ u : World, w.heap.size ≤ u.heap.size → Calls Try.prog 9 #[.int .i64 64] u fun e w' => e = .returned (.pointer (some ⟨u.heap.size, 0, none⟩)) ∧ SetW w' w.heap.size u.heap.size none 0 0 (RS.new 64) ∧ Below u.heap.size u w') := fun u hu => new_any 64 (by omega) (by omega) u w.heap.size hu
  clear hcell
  go_enter Try.func4, Try.ntmps4
  go_wp2_with fail
  (with_reducible refine (HN.out _ (Nat.le_refl _)).mono ?_)
  rintro e1 w1 ⟨rfl, s1, b1⟩
  have S1 := Lib.hid s1
  have B1 := Lib.hid b1
  clear s1 b1
  go_wp2_with fail
  (with_reducible refine (HN.out _ B1.out.size).mono ?_)
  rintro e2 w2 ⟨rfl, s2, b2⟩
  have S2 := Lib.hid s2
  have S1b := Lib.hid (S1.out.below b2)
  have B2 := Lib.hid (B1.out.trans (b2.mono B1.out.size))
  have HLT := Lib.hid S1.out.lt
  clear s2 b2 S1 HN
  obtain ⟨r, hr, hL⟩ := low_nat z2 n h0 (by omega)
  have LT : Hid (∀ u : World, Calls Try.prog 20 #[.int .i64 z2, .int .i64 (n : Int)] u fun e w' => e = .returned (.int .i64 (r : Int)) ∧ u = w') := hL
  have HGT : Hid (w.heap.size ≠ w1.heap.size) := show w.heap.size ≠ w1.heap.size by have := HLT.out; omega
  have HB1 : Hid (w.heap.size ≤ w2.heap.size) := B2.out.size
  obtain ⟨gs, hgs⟩ : ∃ gs, w.heap.size = gs := ⟨_, rfl⟩
  obtain ⟨gt, hgt⟩ : ∃ gt, w1.heap.size = gt := ⟨_, rfl⟩
  obtain ⟨gq, hgq⟩ : ∃ gq, w2.heap.size = gq := ⟨_, rfl⟩
  clear hL
  go_wp2_with fail
  go_loopw [8, 9] (fun mm i wr => ∃ (j many : Nat) (s t : RS) (f : Nat → Bool), j ≤ n ∧ mm = .int .i64 (many : Int) ∧ i = .int .i64 j ∧ Hid (many = cntB f 60) ∧ Hid (∀ m, f m = true ↔ OneP zs j m) ∧ Hid (SetP s 64 (OneP zs j)) ∧ Hid (SetP t 64 (TurnP zs n r j)) ∧
    Hid (Two wr gs gs gt gq 42 s t f) ∧ Hid (Below gs w wr)) (fun _ i _ => n - (intOf i).toNat)
  case atStart =>
    refine ⟨0, 0, RS.new 64, RS.new 64, fun _ => false, by omega, rfl, rfl, (cnt_zero 60).symm, fun m => ⟨fun h => (by cases h), fun ⟨_, h, _⟩ => absurd h (Nat.not_lt_zero _)⟩, (SetP.new (by omega) (by omega)).to fun m => one_zero zs m, (SetP.new (by omega) (by omega)).to fun m => turn_zero zs n r m, ?_, ?_⟩
    · rw [← hgs, ← hgt, ← hgq]
      exact two_start (w := w) (w1 := w1) (M := 0) S1b.out S2.out (RS.new_ok (by omega) (by omega)) (RS.new_ok (by omega) (by omega)) HGT.out HB1.out _ _ rfl
    · rw [← hgs]
      exact B2.out.alloc HB1.out _
  case round =>
    obtain ⟨j, many, s, t, f, hj, rfl, rfl, MN, F, PS, PT, TW, B⟩ := hrel
    by_cases hlt : j < n
    · have hc1 : wr.cell? ⟨gb, go + j, none⟩ = some (.int .i64 (zs.getD j 0)) := (B.out.cell (p := ⟨gb, go + j, none⟩) (by show gb < gs; omega)).trans (HC.out j (by omega))
      have L2 : Hid (∀ u : World, Calls Try.prog 20 #[.int .i64 (zs.getD j 0), .int .i64 60] u fun e w' => e = .returned (.int .i64 ((vz zs j : Nat) : Int)) ∧ u = w') := fun u => low60 _ u
      have hv := vz_lt zs j
      have hfv := F.out (vz zs j)
      obtain ⟨v, hvv⟩ : ∃ v, vz zs j = v := ⟨_, rfl⟩
      rw [hvv] at L2 hv hfv
      generalize zs.getD j 0 = z at hc1 L2
      obtain ⟨b, hb⟩ : ∃ b, f v = b := ⟨_, rfl⟩
      rw [hb] at hfv
      have hcq : wr.cell? ⟨gq, v, none⟩ = some (.bool b) := by rw [← hb]; exact TW.out.q.cell v _ (seen_at f v hv)
      have hnb := set_newB PS.out (fun m h => one_lt h) hv b hfv
      have HA : Hid (Calls Try.prog 11 #[.pointer (some ⟨gs, 0, none⟩), .int .u64 (v : Int)] wr.drew fun e w' => e = .returned (.bool (!b)) ∧ Two w' gs gs gt gq 42 (s.add v) t f ∧ Below gs wr w' ∧ w'.cell? ⟨gq, v, none⟩ = some (.bool b)) := by
        have h1 := two_adds (TW.out.below (w' := wr.drew) ⟨rfl, rfl, rfl, Nat.le_refl _, fun _ _ => rfl⟩) (show gs ≤ wr.heap.size by have := B.out.size; omega) v (v : Int) rfl
        rw [hnb] at h1
        refine h1.mono ?_
        rintro e w' ⟨rfl, h2, h3⟩
        exact ⟨rfl, h2, ⟨h3.os, h3.tape, h3.output, h3.size, h3.block⟩, by rw [← hb]; exact h2.q.cell v _ (seen_at f v hv)⟩
      have PS1 : Hid (SetP (s.add v) 64 (OneP zs (j + 1))) := (set_add PS.out (fun m h => one_lt h) hv).to fun m => (by rw [← hvv]; exact one_succ)
      have hmany : many ≤ 60 := by have h1 := cnt_le f 60; have h2 := MN.out; omega
      obtain ⟨p, hp⟩ : ∃ p, (j + r) % n = p := ⟨_, rfl⟩
      have hpn : p < n := by rw [← hp]; exact Nat.mod_lt _ h0
      have hpt : ((j : Int) + (r : Int)).tmod (n : Int) = (p : Int) := by rw [← hp]; rfl
      have HP := Lib.hid hp
      clear hp
      have HV := Lib.hid hvv
      have HB := Lib.hid hb
      have hw : IntKind.u64.wrap (v : Int) = (v : Int) := by simp [IntKind.wrap, IntKind.bits, IntKind.signed]; omega
      have hv' : (v : Int) < 60 := by omega
      clear hfv hnb hvv hb
      cases b with
      | false =>
        go_wp2_with fail
        (with_reducible refine (L2.out _).mono ?_)
        rintro e4 w4 ⟨rfl, rfl⟩
        go_wp2_with fail
        go_region_held3 (fun u => u.cell? ⟨gq, v, none⟩ = some (.bool false)) (first | go_keep | assumption) (first | (go_at_call 11; (with_reducible refine HA.out.mono ?_); rintro e5 w5 ⟨rfl, tw5, b5, hc5⟩))
        have TW5 := Lib.hid tw5
        have B5 := Lib.hid (B.out.trans b5)
        clear tw5 b5
        go_wp2_with ((with_reducible refine wpList_put_rw rfl 4 (.tmp 58) (.const (.bool true)) rfl gq v (.bool true) ?hx ?hy ?hv ?h1 42 _ TW5.out.q size_bool ?hl ?_); (case hx => with_unfolding_all rfl); (case hy => with_unfolding_all rfl); (case hv => rfl); (case h1 => rfl); (case hl => rw [seen_len]; omega); intro w6 R6 O6)
        have TW6 := Lib.hid (TW5.out.store O6.out (f' := fun m => m == v || f m) (by rw [← seen_set f v hv]; exact R6.out))
        have B6 : Hid (Below gs w w6) := B5.out.trans (O6.out.below (show gs ≤ w5.heap.size by have := B5.out.size; omega) TW5.out.d.2.2.2)
        have hc8 : w6.cell? ⟨gb, go + p, none⟩ = some (.int .i64 (zs.getD p 0)) := (B6.out.cell (p := ⟨gb, go + p, none⟩) (by show gb < gs; omega)).trans (HC.out p (by omega))
        have L3 : Hid (∀ u : World, Calls Try.prog 20 #[.int .i64 (zs.getD p 0), .int .i64 60] u fun e w' => e = .returned (.int .i64 ((vz zs p : Nat) : Int)) ∧ u = w') := fun u => low60 _ u
        have hv2 := vz_lt zs p
        have PT1 : Hid (SetP (t.add (vz zs p)) 64 (TurnP zs n r (j + 1))) := (set_add PT.out (fun m h => turn_lt h) hv2).to fun m => (by rw [← HP.out]; exact turn_succ)
        have HAT := Lib.hid (two_addt TW6.out (show gs ≤ w6.heap.size by have := B6.out.size; omega) (vz zs p) ((vz zs p : Nat) : Int) rfl)
        obtain ⟨v2, hvv2⟩ : ∃ v2, vz zs p = v2 := ⟨_, rfl⟩
        rw [hvv2] at L3 hv2 PT1 HAT
        generalize zs.getD p 0 = z3 at hc8 L3
        clear hvv2 hc5 hcq
        (with_reducible refine (LT.out _).mono ?_)
        rintro e7 w7 ⟨rfl, rfl⟩
        go_wp2_with fail
        (with_reducible refine (L3.out _).mono ?_)
        rintro e8 w8 ⟨rfl, rfl⟩
        go_wp2_with fail
        (with_reducible refine HAT.out.mono ?_)
        rintro e9 w9 ⟨rfl, tw9, b9⟩
        have TW9 := Lib.hid tw9
        have B9 := Lib.hid (B6.out.trans b9)
        have F1 : Hid (∀ m, (m == v || f m) = true ↔ OneP zs (j + 1) m) := fun m => by
          rw [← one_succ, HV.out, ← F.out m]
          simp
        have MN1 : Hid ((many + 1) = cntB (fun m => m == v || f m) 60) := by
          show (many + 1) = _
          rw [cnt_set f v HB.out 60 hv, MN.out]
        clear tw9 b9
        go_wp2_with fail
        go_roundw
        case rel => exact ⟨j + 1, (many + 1), s.add v, t.add v2, _, by omega, by go_num, by go_num, MN1, F1, PS1, PT1, TW9, B9⟩
        case measure => first | (simp [intOf]; done) | (simp [intOf]; omega)
      | true =>
        go_wp2_with fail
        (with_reducible refine (L2.out _).mono ?_)
        rintro e4 w4 ⟨rfl, rfl⟩
        go_wp2_with fail
        go_region_held3 (fun u => u.cell? ⟨gq, v, none⟩ = some (.bool true)) (first | go_keep | assumption) (first | (go_at_call 11; (with_reducible refine HA.out.mono ?_); rintro e5 w5 ⟨rfl, tw5, b5, hc5⟩))
        have TW5 := Lib.hid tw5
        have B5 := Lib.hid (B.out.trans b5)
        clear tw5 b5
        go_wp2_with ((with_reducible refine wpList_put_rw rfl 4 (.tmp 58) (.const (.bool true)) rfl gq v (.bool true) ?hx ?hy ?hv ?h1 42 _ TW5.out.q size_bool ?hl ?_); (case hx => with_unfolding_all rfl); (case hy => with_unfolding_all rfl); (case hv => rfl); (case h1 => rfl); (case hl => rw [seen_len]; omega); intro w6 R6 O6)
        have TW6 := Lib.hid (TW5.out.store O6.out (f' := fun m => m == v || f m) (by rw [← seen_set f v hv]; exact R6.out))
        have B6 : Hid (Below gs w w6) := B5.out.trans (O6.out.below (show gs ≤ w5.heap.size by have := B5.out.size; omega) TW5.out.d.2.2.2)
        have hc8 : w6.cell? ⟨gb, go + p, none⟩ = some (.int .i64 (zs.getD p 0)) := (B6.out.cell (p := ⟨gb, go + p, none⟩) (by show gb < gs; omega)).trans (HC.out p (by omega))
        have L3 : Hid (∀ u : World, Calls Try.prog 20 #[.int .i64 (zs.getD p 0), .int .i64 60] u fun e w' => e = .returned (.int .i64 ((vz zs p : Nat) : Int)) ∧ u = w') := fun u => low60 _ u
        have hv2 := vz_lt zs p
        have PT1 : Hid (SetP (t.add (vz zs p)) 64 (TurnP zs n r (j + 1))) := (set_add PT.out (fun m h => turn_lt h) hv2).to fun m => (by rw [← HP.out]; exact turn_succ)
        have HAT := Lib.hid (two_addt TW6.out (show gs ≤ w6.heap.size by have := B6.out.size; omega) (vz zs p) ((vz zs p : Nat) : Int) rfl)
        obtain ⟨v2, hvv2⟩ : ∃ v2, vz zs p = v2 := ⟨_, rfl⟩
        rw [hvv2] at L3 hv2 PT1 HAT
        generalize zs.getD p 0 = z3 at hc8 L3
        clear hvv2 hc5 hcq
        (with_reducible refine (LT.out _).mono ?_)
        rintro e7 w7 ⟨rfl, rfl⟩
        go_wp2_with fail
        (with_reducible refine (L3.out _).mono ?_)
        rintro e8 w8 ⟨rfl, rfl⟩
        go_wp2_with fail
        (with_reducible refine HAT.out.mono ?_)
        rintro e9 w9 ⟨rfl, tw9, b9⟩
        have TW9 := Lib.hid tw9
        have B9 := Lib.hid (B6.out.trans b9)
        have F1 : Hid (∀ m, (m == v || f m) = true ↔ OneP zs (j + 1) m) := fun m => by
          rw [← one_succ, HV.out, ← F.out m]
          simp
        have MN1 : Hid (many = cntB (fun m => m == v || f m) 60) := by
          show many = _
          rw [cnt_same f v HB.out]; exact MN.out
        clear tw9 b9
        go_wp2_with fail
        go_roundw
        case rel => exact ⟨j + 1, many, s.add v, t.add v2, _, by omega, by go_num, by go_num, MN1, F1, PS1, PT1, TW9, B9⟩
        case measure => first | (simp [intOf]; done) | (simp [intOf]; omega)
    · obtain rfl : j = n := by omega
      have PST := Lib.hid (PS.out)
      have hml : t.l = s.l := fall_ext PT.out.ok.fall PS.out.ok.fall fun m => by rw [PT.out.mem, PS.out.mem, turn_all hr]
      have hsum : sumR s.l = cntB f 60 := sum_cnt f 60 s.l (fall_tight PS.out.ok.fall fun m hm => one_lt ((PS.out.mem m).1 hm)) fun m => by
        rw [PS.out.mem, F.out]
        exact ⟨fun h => ⟨one_lt h, h⟩, fun h => h.2⟩
      have HML := Lib.hid hml
      have HSUM := Lib.hid (hsum.trans MN.out.symm)
      have HLS := Lib.hid (st_list TW.out.sts)
      clear hml hsum PT
      go_wp2_with fail
      (with_reducible refine HLS.out.mono ?_)
      rintro e3 w3 ⟨A3, c3, rfl, o3, b3⟩
      have O3 := Lib.hid o3
      have TW3 := Lib.hid (TW.out.below b3)
      have B3 : Hid (Below gs w w3) := B.out.trans (b3.mono (show gs ≤ wr.heap.size by have := B.out.size; omega))
      clear o3 b3
      have hle : ∀ k, sumR (s.l.take k) ≤ 60 := fun k => by have h1 := sum_take_le s.l k; have h2 := HSUM.out; have h3 := cnt_le f 60; have h4 := MN.out; omega
      obtain ⟨q, hq⟩ : ∃ q, s.l.length = q := ⟨_, rfl⟩
      have hq64 : q ≤ 64 := by have h1 := PS.out.ok.len; have h2 := PS.out.ok.most.2; omega
      rw [hq] at O3 ⊢
      have HQ := Lib.hid hq
      have HLE := Lib.hid hle
      clear hq hle
      go_wp2_with fail
      go_loopw [12, 13] (fun cc i wr2 => ∃ k m : Nat, k ≤ q ∧ cc = .int .i64 ((sumR (s.l.take k) : Nat) : Int) ∧ i = .int .i64 k ∧ wr2 = w3.drewN m) (fun _ i _ => q - (intOf i).toNat)
      case atStart => exact ⟨0, 0, by omega, rfl, rfl, rfl⟩
      case round =>
        obtain ⟨k, m, hk, rfl, rfl, rfl⟩ := hrel
        by_cases hkq : k < q
        · have hk1 : k < s.l.length := by have := HQ.out; omega
          obtain ⟨g3, rfl, _⟩ := own_some3 O3.out (by omega)
          obtain ⟨⟨xl, xh⟩, hx⟩ : ∃ x, s.l.getD k (0, 0) = x := ⟨_, rfl⟩
          obtain ⟨c1, c2⟩ := O3.out.cells k hkq
          rw [hx] at c1 c2
          simp only at c1 c2
          have hxm : (xl, xh) ∈ s.l := by rw [← hx, getD_at hk1]; exact List.getElem_mem hk1
          have hx1 := (PS.out.ok.fall.at_ hxm).1
          have hx2 : xh < 60 := one_lt ((PS.out.mem xh).1 (mem_of PS.out.ok.fall hxm).1)
          have hseen : ∀ z, xl ≤ z → z ≤ xh → w3.cell? ⟨gq, z, none⟩ = some (.bool true) := fun z h1 h2 => by
            have h3 := TW3.out.q.cell z _ (seen_at f z (by omega))
            rwa [(F.out z).2 ((PS.out.mem z).1 ⟨_, hxm, h1, h2⟩)] at h3
          have hsum := sum_take s.l k hk1
          rw [hx] at hsum
          simp only at hsum hx1
          have hs60 := HLE.out (k + 1)
          obtain ⟨S0, hS0⟩ : ∃ S0, sumR (s.l.take k) = S0 := ⟨_, rfl⟩
          rw [hS0] at hsum ⊢
          have HS := Lib.hid hsum
          have HSE := Lib.hid hseen
          have h60 : S0 + (xh + 1 - xl) ≤ 60 := by omega
          have f1 : ¬ (xh : Int) < (xl : Int) := by omega
          have f2 : ¬ (60 : Int) ≤ (xh : Int) := by omega
          have HX := Lib.hid hx
          clear hsum hseen hs60 hS0 hxm hk1 hx
          have g1 : decide ((xh : Int) < (xl : Int)) = false := decide_eq_false f1
          have g2 : decide ((60 : Int) ≤ (xh : Int)) = false := decide_eq_false f2
          have g3 : decide (xh < xl) = false := decide_eq_false (by omega)
          have g4 : decide (60 ≤ xh) = false := decide_eq_false (by omega)
          by_cases hk0 : k = 0
          · have f3 : ¬ (0 : Int) < (k : Int) := by omega
            have g5 : decide ((0 : Int) < (k : Int)) = false := decide_eq_false f3
            have g6 : decide (0 < k) = false := decide_eq_false (by omega)
            clear hk0
            go_wp2_with fail
            go_quiet (fail)
            go_wp2_with fail
            go_loopw [12, 14] (fun cc nn wr3 => ∃ d m2 : Nat, xl + d ≤ xh + 1 ∧ nn = .int .u64 ((xl + d : Nat) : Int) ∧ cc = .int .i64 ((S0 + d : Nat) : Int) ∧ wr3 = w3.drewN m2) (fun _ nn _ => xh + 1 - (intOf nn).toNat)
            case atStart => exact ⟨0, _, by omega, by simp, by simp, rfl⟩
            case round =>
              obtain ⟨d, m2, hd, rfl, rfl, rfl⟩ := hrel
              obtain ⟨e, he⟩ : ∃ e, xl + d = e := ⟨_, rfl⟩
              obtain ⟨S, hS⟩ : ∃ S, S0 + d = S := ⟨_, rfl⟩
              have hS60 : S ≤ 62 := by omega
              have he62 : e ≤ 62 := by omega
              have HE := Lib.hid he
              have HSS := Lib.hid hS
              rw [he, hS]
              clear he hS
              by_cases hex : e ≤ xh
              · have hse := HSE.out e (by have := HE.out; omega) hex
                have hex' : (e : Int) ≤ (xh : Int) := by omega
                have he60 : (e : Int) < 60 := by omega
                go_wp2_with fail
                go_roundw
                case rel => exact ⟨d + 1, m2, by have := HE.out; omega, by have := HE.out; go_num, by have := HSS.out; go_num, rfl⟩
                case measure => first | (simp [intOf]; done) | (simp [intOf]; omega)
              · have hex' : ¬ (e : Int) ≤ (xh : Int) := by omega
                have hsum : S = sumR (s.l.take (k + 1)) := by
                  rw [HS.out]
                  have h1 := HE.out
                  have h2 := HSS.out
                  omega
                go_wp2_with fail
                exact ⟨⟨k + 1, m2, by omega, congrArg (fun z : Nat => Value.int .i64 (z : Int)) hsum, by go_num, rfl⟩, by first | (simp [intOf]; done) | (simp [intOf]; omega)⟩
          · obtain ⟨p, hp⟩ : ∃ p, k = p + 1 := ⟨k - 1, by omega⟩
            have f3 : (0 : Int) < (k : Int) := by omega
            have f4 : (k : Int) - 1 = (p : Int) := by omega
            have hpq : p < q := by omega
            have hgap := fall_gap PS.out.ok.fall p k (by omega) (by have := HQ.out; omega)
            rw [HX.out] at hgap
            obtain ⟨c3', _⟩ := O3.out.cells p hpq
            generalize (s.l.getD p (0, 0)).1 = yl at hgap c3'
            simp only at hgap
            have f5 : ¬ (yl : Int) ≤ (xh : Int) + 1 := by omega
            have f6 : IntKind.i64.wrap (p : Int) = (p : Int) := by rw [IntKind.wrap_i64]; omega
            have f7 : IntKind.u64.wrap ((xh : Int) + 1) = (xh : Int) + 1 := by simp [IntKind.wrap, IntKind.bits, IntKind.signed]; omega
            have g5 : decide ((yl : Int) ≤ (xh : Int) + 1) = false := decide_eq_false f5
            have g6 : decide ((0 : Int) < (k : Int)) = true := decide_eq_true f3
            have g7 : decide (0 < k) = true := decide_eq_true (by omega)
            have g8 : decide (yl ≤ xh + 1) = false := decide_eq_false (by omega)
            have HPK := Lib.hid hp
            clear hp hgap hk0
            go_wp2_with fail
            refine wp_tail 37 (by kernel_rfl) (by kernel_rfl) ?_
            simp only [List.take_succ_cons, List.take_zero, List.drop_succ_cons, List.drop_zero]
            repeat still_step
            refine wpStill_nil ?_
            go_wp2_with fail
            go_loopw [12, 14] (fun cc nn wr3 => ∃ d m2 : Nat, xl + d ≤ xh + 1 ∧ nn = .int .u64 ((xl + d : Nat) : Int) ∧ cc = .int .i64 ((S0 + d : Nat) : Int) ∧ wr3 = w3.drewN m2) (fun _ nn _ => xh + 1 - (intOf nn).toNat)
            case atStart => exact ⟨0, m + 1, by omega, by simp, by simp, rfl⟩
            case round =>
              obtain ⟨d, m2, hd, rfl, rfl, rfl⟩ := hrel
              obtain ⟨e, he⟩ : ∃ e, xl + d = e := ⟨_, rfl⟩
              obtain ⟨S, hS⟩ : ∃ S, S0 + d = S := ⟨_, rfl⟩
              have hS60 : S ≤ 62 := by omega
              have he62 : e ≤ 62 := by omega
              have HE := Lib.hid he
              have HSS := Lib.hid hS
              rw [he, hS]
              clear he hS
              by_cases hex : e ≤ xh
              · have hse := HSE.out e (by have := HE.out; omega) hex
                have hex' : (e : Int) ≤ (xh : Int) := by omega
                have he60 : (e : Int) < 60 := by omega
                go_wp2_with fail
                go_roundw
                case rel => exact ⟨d + 1, m2, by have := HE.out; omega, by have := HE.out; go_num, by have := HSS.out; go_num, rfl⟩
                case measure => first | (simp [intOf]; done) | (simp [intOf]; omega)
              · have hex' : ¬ (e : Int) ≤ (xh : Int) := by omega
                have hsum : S = sumR (s.l.take (k + 1)) := by
                  rw [HS.out]
                  have h1 := HE.out
                  have h2 := HSS.out
                  omega
                go_wp2_with fail
                exact ⟨⟨k + 1, m2, by omega, congrArg (fun z : Nat => Value.int .i64 (z : Int)) hsum, by go_num, rfl⟩, by first | (simp [intOf]; done) | (simp [intOf]; omega)⟩
        · obtain rfl : k = q := by omega
          have htk : s.l.take k = s.l := List.take_of_length_le (by have := HQ.out; omega)
          rw [htk, HSUM.out]
          have TWm := Lib.hid (TW3.out.below (w' := w3.drewN m) ⟨rfl, rfl, rfl, Nat.le_refl _, fun _ _ => rfl⟩)
          have HLT2 := Lib.hid (st_list TWm.out.stt)
          rw [HML.out, HQ.out] at HLT2
          have Bm : Hid (Below gs w (w3.drewN m)) := ⟨B3.out.os, B3.out.tape, B3.out.output, B3.out.size, B3.out.block⟩
          have Om : Hid (OwnR (w3.drewN m) wr.heap.size (.slice A3 k c3) k s.l) := O3.out
          clear htk TWm
          go_wp2_with fail
          (with_reducible refine HLT2.out.mono ?_)
          rintro e4 w4 ⟨A4, c4, rfl, o4, b4⟩
          have HSM := Lib.hid (rsame_any s.l s.l A4 A3 k k c4 c3 _ _ w4 o4.sl (Om.out.below b4).sl (by simp [maxLen]; omega) true (by simp))
          have B4 : Hid (Below gs w w4) := Bm.out.trans (b4.mono (by have := Bm.out.size; omega))
          clear o4 b4
          go_wp2_with fail
          (with_reducible refine HSM.out.mono ?_)
          rintro e5 w5 ⟨rfl, b5⟩
          have B5 : Hid (Below gs w w5) := B4.out.trans (b5.mono (by have := B4.out.size; omega))
          clear b5
          go_wp2_with fail
          (with_reducible refine (awake_any _).mono ?_)
          rintro e6 w6 ⟨rfl, b6⟩
          go_wp2
          go_ret
          exact ⟨rfl, by rw [hgs]; exact B5.out.trans (b6.mono (by have := B5.out.size; omega))⟩
end Go.Proofs.Ytebpalcfnfgfdaa
