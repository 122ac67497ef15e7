/-
  The document's Below.
-/
import Derived.Test.YtjbhhmjkdhkhaaaRfE
import Derived.Lib.MinMax
namespace Go.Proofs.Ytjbhhmjkdhkhaaa
open Go.RowKit Go.Lib
set_option linter.unusedVariables false

theorem SlU.only {w w' : World} {B n g : Nat} {A : Option Addr} {l : List Nat} (h : SlU w B A n l) (ho : Only g w w') (hne : ∀ a, A = some a → a.block ≠ g) (hB : B ≤ w.heap.size) : SlU w' B A n l := by
  refine ⟨h.1, fun hn => ?_⟩
  obtain ⟨b, off, e, hb, hc⟩ := h.2 hn
  refine ⟨b, off, e, hb, fun j hj => ?_⟩
  rw [World.cell?_of_block (ho.block b (by omega) (hne _ e))]
  exact hc j hj
def lenAt (w : World) (g : Nat) : Nat := match w.cell? ⟨g, 1, none⟩ with
  | some (.slice _ n _) => n
  | _ => 0
theorem RefW.lenAt {w : World} {g n c most fl : Nat} {A : Option Addr} {N : List Nat} (h : RefW w g A n c most fl N) : lenAt w g = n := by
  unfold Go.Proofs.Ytjbhhmjkdhkhaaa.lenAt
  rw [h.cells.2.1]
theorem size_slU : (Try.prog.info? 22).map (·.size) = some 1 := by kernel_rfl
set_option maxHeartbeats 2000000 in
theorem rbelow_w (w : World) (g n c most fl k : Nat) (A : Option Addr) (N : List Nat) (h : RefW w g A n c most fl N) (hn : n ≤ 1000) (hA : ∀ a, A = some a → a.block ≠ g ∧ a.spot = none) (F : Nat) (hF : max fl k = F) :
    Calls Try.prog 15 #[.pointer (some ⟨g, 0, none⟩), .int .u64 (k : Int)] w fun e w' => e = .returned (.tuple #[]) ∧ ∃ (j : Nat) (A' : Option Addr), j ≤ n ∧ RefW w' g A' (n - j) (c - j) most F (N.drop j) ∧
      (∀ t, t < j → N.getD t 0 < F) ∧ (N.length ≤ j ∨ F ≤ N.getD j 0) ∧ Only g w w' ∧ (∀ a', A' = some a' → a'.spot = none ∧ ∃ a, A = some a ∧ a.block = a'.block) := by
  obtain ⟨h0, h1, h2⟩ := h.cells
  have f2 := Rw.frozen h.r 2
  have hl := h.s.1
  have hFi : max (fl : Int) (k : Int) = (F : Int) := by omega
  have HA := Lib.hid hA
  have HL := Lib.hid hl
  have H1 : Hid (RefW (w.setCell ⟨g, 2, none⟩ (.int .u64 (F : Int))) g A n c most F N) := ⟨h.r.put 2 _, (h.s.only ((Only.refl g w).setCell 2 (.int .u64 (F : Int))) (fun a ha => (hA a ha).1) (Nat.le_refl _)).more (((Only.refl g w).setCell 2 (.int .u64 (F : Int))).size), h.le⟩
  have O1 : Hid (Only g w (w.setCell ⟨g, 2, none⟩ (.int .u64 (F : Int)))) := (Only.refl g w).setCell 2 _
  clear h hA hF hl
  go_enter Try.func15, Try.ntmps15
  go_wp2_with fail
  clear h0 h1 h2 f2 hFi
  go_loopw [] (fun wr => ∃ (j : Nat) (A' : Option Addr), j ≤ n ∧ Hid (RefW wr g A' (n - j) (c - j) most F (N.drop j)) ∧ Hid (∀ t, t < j → N.getD t 0 < F) ∧ Hid (Only g w wr) ∧ Hid (∀ a', A' = some a' → a'.spot = none ∧ ∃ a, A = some a ∧ a.block = a'.block)) (fun wr => lenAt wr g)
  case atStart => exact ⟨0, A, by omega, H1.out, fun t ht => absurd ht (Nat.not_lt_zero _), O1.out, fun a ha => ⟨(HA.out a ha).2, a, ha, rfl⟩⟩
  case round =>
    obtain ⟨j, A', hj, R, HT, O, HB⟩ := hrel
    obtain ⟨c0, c1, c2⟩ := R.out.cells
    have f1 := Rw.frozen R.out.r 1
    obtain ⟨n', hn'⟩ : ∃ n', n - j = n' := ⟨_, rfl⟩
    obtain ⟨c', hc'⟩ : ∃ c', c - j = c' := ⟨_, rfl⟩
    rw [hn', hc'] at c1
    by_cases h0 : n' = 0
    · subst h0
      have g1 : decide ((0 : Int) < (0 : Int)) = false := rfl
      have HN := Lib.hid hn'
      clear hn' hc'
      go_wp2_with fail
      go_quiet (fail)
      go_wp2_with fail
      go_end0
      exact ⟨rfl, j, A', hj, ⟨R.out.r, R.out.s, R.out.le⟩, HT.out, .inl (by have := HL.out; have := HN.out; omega), O.out.drewN _, HB.out⟩
    · have hle := R.out.le
      rw [hn', hc'] at hle
      obtain ⟨b, off, rfl, hb, hcell⟩ := R.out.s.2 (by omega)
      have hc0 := hcell 0 (by rw [List.length_drop]; have := HL.out; omega)
      rw [Nat.add_zero, getD_drop, Nat.add_zero] at hc0
      obtain ⟨x, hx⟩ : ∃ x, N.getD j 0 = x := ⟨_, rfl⟩
      rw [hx] at hc0
      have g1 : decide ((0 : Int) < (n' : Int)) = true := decide_eq_true (by omega)
      have g2 : (0 : Int) < (n' : Int) := by omega
      have g3 : decide (0 < n') = true := decide_eq_true (by omega)
      have HX := Lib.hid hx
      have HN := Lib.hid hn'
      have HC := Lib.hid hc'
      have HLE := Lib.hid hle
      have hbg : b ≠ g := by
        obtain ⟨_, a, e1, e2⟩ := HB.out _ rfl
        exact fun e => (HA.out a e1).1 (e2.trans e)
      have HBG := Lib.hid hbg
      clear hcell hx hn' hc' hle hbg
      by_cases hxF : x < F
      · have t1 : decide ((x : Int) < (F : Int)) = true := decide_eq_true (by omega)
        have t2 : decide (x < F) = true := decide_eq_true hxF
        have hcut : ∀ u, _ := fun u => run_cutU_from u (some ⟨b, off, none⟩) n' c' 1 (by omega) HLE.out.1 1 rfl
        obtain ⟨A2, hA2⟩ : ∃ A2, (if c' = 1 then (some ⟨b, off, none⟩ : Option Addr) else (some ⟨b, off, none⟩ : Option Addr).map (·.add 1)) = A2 := ⟨_, rfl⟩
        simp only [hA2] at hcut
        have HA2 := Lib.hid hA2
        clear hA2
        go_wp2_with fail
        go_quiet (fail)
        go_wp2_with fail
        have O2 : Hid (Only g wr ((wr.drewN nq).setCell ⟨g, 1, none⟩ (.slice A2 (n' - 1) (c' - 1)))) := (((Only.refl g wr).drewN nq).setCell 1 _)
        have R2 : Hid (RefW ((wr.drewN nq).setCell ⟨g, 1, none⟩ (.slice A2 (n' - 1) (c' - 1))) g A2 (n - (j + 1)) (c - (j + 1)) most F (N.drop (j + 1))) := by
          have e1 : n - (j + 1) = n' - 1 := by have := HN.out; omega
          have e2 : c - (j + 1) = c' - 1 := by have := HC.out; omega
          have hs := R.out.s
          rw [HN.out] at hs
          have hs2 := (hs.drop 1 c' (by omega) HLE.out.1).only O2.out (fun a ha => by
            rw [HA2.out] at ha
            have ha2 := HA2.out
            rw [ha] at ha2
            split at ha2
            · injection ha2 with ha2; rw [← ha2]; exact HBG.out
            · simp [addr_at] at ha2; rw [← ha2]; exact HBG.out) (Nat.le_refl _)
          rw [HA2.out, List.drop_drop] at hs2
          refine ⟨?_, ?_, ?_⟩
          · rw [e1, e2]
            exact Rw.put (w := wr.drewN nq) R.out.r 1 _
          · rw [e1]
            exact hs2.more O2.out.size
          · rw [e1, e2]
            have := HLE.out
            exact ⟨by omega, by omega⟩
        have HB2 : Hid (∀ a', A2 = some a' → a'.spot = none ∧ ∃ a, A = some a ∧ a.block = a'.block) := fun a' ha => by
          obtain ⟨_, a, e1, e2⟩ := HB.out _ rfl
          have ha2 := HA2.out
          rw [ha] at ha2
          split at ha2
          · injection ha2 with ha2; rw [← ha2]; exact ⟨rfl, a, e1, e2⟩
          · simp [addr_at] at ha2; rw [← ha2]; exact ⟨rfl, a, e1, e2⟩
        have M2 := R2.out.lenAt
        have M1 := R.out.lenAt
        go_roundw
        case rel => exact ⟨j + 1, A2, by have := HN.out; omega, R2, fun t ht => by
          by_cases e : t = j
          · subst e; rw [HX.out]; exact hxF
          · exact HT.out t (by omega), O.out.trans O2.out, HB2.out⟩
        case measure => rw [M1, M2]; have := HN.out; omega
      · have t1 : decide ((x : Int) < (F : Int)) = false := decide_eq_false (by omega)
        have t2 : decide (x < F) = false := decide_eq_false hxF
        go_wp2_with fail
        go_quiet (fail)
        go_wp2_with fail
        go_end0
        exact ⟨rfl, j, _, hj, ⟨R.out.r, R.out.s, R.out.le⟩, HT.out, .inr (by rw [HX.out]; omega), O.out.drewN _, HB.out⟩
theorem rbelow_any {w : World} {g cnt : Nat} {A : Option Addr} {s : RS} (h : RefS w g A cnt s) (ok : s.Ok) (hc : cnt ≤ 1000) (k : Nat) (z : Int) (hz : z = (k : Int)) :
    Calls Try.prog 15 #[.pointer (some ⟨g, 0, none⟩), .int .u64 z] w fun e w' => e = .returned (.tuple #[]) ∧ ∃ A', RefS w' g A' cnt (s.below k) ∧ Moves g A A' w w' := by
  subst hz
  obtain ⟨n, c, N, h1, h2, h3⟩ := h.ex
  refine (rbelow_w w g n c s.most s.fl k A N h1 (by omega) (fun a ha => (h.at_ a ha).2) _ rfl).mono ?_
  rintro e w' ⟨rfl, j, A', hj, r, ht, hlast, o, hat⟩
  obtain ⟨k1, k2, k3⟩ := h2.below ok k (rise_drop h2.1 j) (fun m => drop_mem h2.1 ht hlast m)
  refine ⟨rfl, A', ⟨⟨n - j, c - j, N.drop j, by rw [k2, k3]; exact r, k1, by omega⟩, fun a' ha => ?_⟩, ⟨o.os, o.tape, o.output, o.size, fun i hi h4 _ => o.block i hi h4, fun a' ha => ?_⟩⟩
  · obtain ⟨e1, a, e2, e3⟩ := hat a' ha
    have := h.at_ a e2
    exact ⟨by have := o.size; omega, by omega, e1⟩
  · obtain ⟨e1, a, e2, e3⟩ := hat a' ha
    exact .inl ⟨a, e2, e3.symm⟩
theorem rhas_ref {w : World} {g cnt : Nat} {A : Option Addr} {s : RS} (h : RefS w g A cnt s) (hc : cnt ≤ 1000) (k : Nat) (z : Int) (hz : z = (k : Int)) (b : Bool) (hb : decide (s.mem k) = b) :
    Calls Try.prog 19 #[.pointer (some ⟨g, 0, none⟩), .int .u64 z] w (Quiet (.bool b) w) := by
  subst hz
  obtain ⟨n, c, N, h1, h2, h3⟩ := h.ex
  refine rhas_any w g n c s.most s.fl k A N h1 b ?_ (by omega)
  rw [← hb, decide_eq_true_iff]
  exact h2.has k
theorem rlist_ref {w : World} {g cnt : Nat} {A : Option Addr} {s : RS} (h : RefS w g A cnt s) (ok : s.Ok) (hc : cnt ≤ 1000) :
    Calls Try.prog 17 #[.pointer (some ⟨g, 0, none⟩)] w fun e w' => ∃ A' c', e = .returned (.slice A' s.l.length c') ∧ OwnR w' w.heap.size (.slice A' s.l.length c') s.l.length s.l ∧ Below w.heap.size w w' := by
  obtain ⟨n, c, N, h1, h2, h3⟩ := h.ex
  refine (rlist_any w g n c s.most s.fl A N h1 h2.1 (by omega)).mono ?_
  rintro e w' ⟨L, A', c', rfl, hd, ho, hb⟩
  obtain rfl := h2.list ok.fall hd
  exact ⟨A', c', rfl, ho, hb⟩
end Go.Proofs.Ytjbhhmjkdhkhaaa
