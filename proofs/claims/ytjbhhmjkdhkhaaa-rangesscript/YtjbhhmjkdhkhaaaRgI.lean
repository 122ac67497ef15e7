/-
  (*Set).put, forget, Add; New.
-/
import Derived.Test.YtjbhhmjkdhkhaaaRgH
namespace Go.Proofs.Ytjbhhmjkdhkhaaa
open Go.RowKit Go.Lib
set_option linter.unusedVariables false

theorem put_any (g : Nat) (A : Option Addr) (n c B k : Nat) (s : RS) (w : World) (h : SetW w B g A n c s) {T : Nat} (hf : Fall T s.l) (hk : k ≤ topV) (hnm : ¬ Mem k s.l) (hn : n ≤ 100) (hBw : B ≤ w.heap.size) :
    Calls Try.prog 21 #[.pointer (some ⟨g, 0, none⟩), .int .u64 (k : Int)] w (Puts w B g A s k) := by
  obtain ⟨i, hp⟩ := place_ex k hf
  have hl := h.o.len
  have hin := hp.1
  cases hi : i with
  | zero =>
    by_cases h1 : i < n
    · by_cases h2 : (s.l.getD i (0, 0)).2 + 1 = k
      · exact put_znb g A n c B k i _ _ s w h hf hk hnm hn hBw hp hi h1 rfl rfl h2
      · exact put_zn g A n c B k i _ _ s w h hf hk hnm hn hBw hp hi h1 rfl rfl h2
    · exact put_ze g A n c B k i s w h hf hk hnm hn hBw hp hi (by omega)
  | succ j =>
    by_cases h3 : (s.l.getD j (0, 0)).1 = k + 1
    · by_cases h1 : i < n
      · by_cases h2 : (s.l.getD i (0, 0)).2 + 1 = k
        · exact put_pnab g A n c B k i j _ _ _ s w h hf hk hnm hn hBw hp hi rfl h3 h1 rfl rfl h2
        · exact put_pna g A n c B k i j _ _ _ s w h hf hk hnm hn hBw hp hi rfl h3 h1 rfl rfl h2
      · exact put_pea g A n c B k i j _ s w h hf hk hnm hn hBw hp hi rfl h3 (by omega)
    · by_cases h1 : i < n
      · by_cases h2 : (s.l.getD i (0, 0)).2 + 1 = k
        · exact put_pnb g A n c B k i j _ _ _ s w h hf hk hnm hn hBw hp hi rfl h3 h1 rfl rfl h2
        · exact put_pn g A n c B k i j _ _ _ s w h hf hk hnm hn hBw hp hi rfl h3 h1 rfl rfl h2
      · exact put_pe g A n c B k i j _ s w h hf hk hnm hn hBw hp hi rfl h3 (by omega)

set_option maxHeartbeats 2000000 in
theorem forget_no (g : Nat) (A : Option Addr) (n c B : Nat) (s : RS) (w : World) (h : SetW w B g A n c s) (hn : n ≤ s.most) (hm : s.most ≤ 64) :
    Calls Try.prog 22 #[.pointer (some ⟨g, 0, none⟩)] w fun e w' => e = .returned (.tuple #[]) ∧ Below w.heap.size w w' := by
  obtain ⟨h0, h1, h2⟩ := h.cells
  have k1 : ¬ (s.most : Int) < (n : Int) := by omega
  clear h
  go_enter Try.func22, Try.ntmps22
  go_wp2_with fail
  go_quiet (fail)
  go_wp2
  go_end0
  exact ⟨rfl, rfl, rfl, rfl, Nat.le_refl _, fun _ _ => rfl⟩
set_option maxHeartbeats 2000000 in
theorem forget_yes (g : Nat) (A : Option Addr) (n c B m x : Nat) (s : RS) (w : World) (h : SetW w B g A n c s) (hf : ∃ T, Fall T s.l) (hfl : s.fl < 18446744073709551616) (hn : s.most < n) (hn' : n ≤ 1000) (hm : n = m + 1) (hx : (s.l.getD m (0, 0)).2 = x) (hx' : x < 4611686018427387904) :
    Calls Try.prog 22 #[.pointer (some ⟨g, 0, none⟩)] w fun e w' => e = .returned (.tuple #[]) ∧ ∃ n', SetW w' B g A n' c (s.below (x + 1)) ∧ Moves g A A w w' := by
  obtain ⟨h0, h1, h2⟩ := h.cells
  have k1 : (s.most : Int) < (n : Int) := by omega
  have k2 : (n : Int) - 1 = (m : Int) := by omega
  have k3 : (m : Int) < (n : Int) := by omega
  have k8 : IntKind.i64.wrap (m : Int) = (m : Int) := by rw [IntKind.wrap_i64]; omega
  have k9 : IntKind.u64.wrap ((x : Int) + 1) = ((x + 1 : Nat) : Int) := by simp [IntKind.wrap, IntKind.bits, IntKind.signed]; omega
  obtain ⟨a, rfl⟩ : ∃ a, A = some a := by
    cases A with
    | none => exact absurd (h.o.sl.2 (by omega)) (fun ⟨_, _, e, _⟩ => by cases e)
    | some a => exact ⟨a, rfl⟩
  obtain ⟨gl, rfl⟩ : ∃ gl, a = ⟨gl, 0, none⟩ := ⟨_, h.o.spot a rfl⟩
  have c3 := (h.o.cells m (by omega)).2
  rw [hx] at c3
  have HB := Lib.hid (fun q => below_any (w.drewN q) g (some ⟨gl, 0, none⟩) n c B (x + 1) s (h.drewN q) hf hfl (by omega) hn')
  have HH := Lib.hid h
  clear h hf hx hm
  obtain ⟨x1, hx1⟩ : ∃ x1, x + 1 = x1 := ⟨_, rfl⟩
  rw [hx1] at k9 HB ⊢
  clear hx1
  go_enter Try.func22, Try.ntmps22
  go_wp2_with fail
  go_quiet (fail)
  go_wp2_with fail
  refine wp_tail 15 (by kernel_rfl) (by kernel_rfl) ?_
  simp only [List.take_succ_cons, List.take_zero, List.drop_succ_cons, List.drop_zero]
  repeat still_step
  refine wpStill_nil ?_
  go_wp2_with fail
  (with_reducible refine (HB.out (nq + 1)).mono ?_)
  rintro e1 w1 ⟨rfl, n', S1, M1⟩
  go_wp2
  go_end0
  exact ⟨rfl, n', S1, (Moves.of_below (w := w) (w' := w.drewN (nq + 1)) ⟨rfl, rfl, rfl, Nat.le_refl _, fun _ _ => rfl⟩).trans M1 HH.out.lt⟩
/-- what Add leaves -/
def Adds (w : World) (B g : Nat) (A : Option Addr) (s : RS) (k : Nat) (e : Ending) (w' : World) : Prop :=
  e = .returned (.bool (s.newB k)) ∧ ∃ A' n' c', SetW w' B g A' n' c' (s.add k) ∧ Moves g A A' w w'
set_option maxHeartbeats 2000000 in
theorem add_great (g : Nat) (A : Option Addr) (n c B k : Nat) (s : RS) (w : World) (h : SetW w B g A n c s) (hk : topV < k) :
    Calls Try.prog 11 #[.pointer (some ⟨g, 0, none⟩), .int .u64 (k : Int)] w (Adds w B g A s k) := by
  have hn : s.newB k = false := decide_eq_false (fun hh => by omega)
  have k1 : (4611686018427387903 : Int) < (k : Int) := by unfold topV at hk; omega
  have H : Calls Try.prog 11 #[.pointer (some ⟨g, 0, none⟩), .int .u64 (k : Int)] w fun e w' => e = .returned (.bool false) ∧ w = w' := by
    clear h hn hk
    go_enter Try.func11, Try.ntmps11
    go_wp2
    go_ret
    exact ⟨rfl, rfl⟩
  refine H.mono ?_
  rintro e w' ⟨rfl, rfl⟩
  exact ⟨by rw [hn], A, n, c, by rw [RS.add_old hn]; exact h, Moves.of_below (Below.refl _ _)⟩
theorem add_nil (k : Nat) (w : World) : Calls Try.prog 11 #[.pointer none, .int .u64 (k : Int)] w fun e w' => e = .returned (.bool false) ∧ w = w' := by
  go_enter Try.func11, Try.ntmps11
  go_wp2
  go_ret
  exact ⟨rfl, rfl⟩
set_option maxHeartbeats 2000000 in
theorem add_known (g : Nat) (A : Option Addr) (n c B k : Nat) (s : RS) (w : World) (h : SetW w B g A n c s) (ok : s.Ok) (hk : k ≤ topV) (hm : s.mem k) (hn : n ≤ 1000) :
    Calls Try.prog 11 #[.pointer (some ⟨g, 0, none⟩), .int .u64 (k : Int)] w (Adds w B g A s k) := by
  have hnb : s.newB k = false := decide_eq_false (fun hh => hh.2 hm)
  have k1 : ¬ (4611686018427387903 : Int) < (k : Int) := by unfold topV at hk; omega
  have HB := Lib.hid (has_any g A n c B k s w h ⟨_, ok.fall⟩ ok.flt (by unfold topV at hk; omega) hn true (decide_eq_true hm))
  have H : Calls Try.prog 11 #[.pointer (some ⟨g, 0, none⟩), .int .u64 (k : Int)] w fun e w' => e = .returned (.bool false) ∧ Below w.heap.size w w' := by
    clear h hnb hk hm ok
    go_enter Try.func11, Try.ntmps11
    go_wp2_with fail
    (with_reducible refine HB.out.mono ?_)
    rintro e1 w1 ⟨rfl, hb⟩
    go_wp2
    go_ret
    exact ⟨rfl, hb⟩
  refine H.mono ?_
  rintro e w' ⟨rfl, hb⟩
  exact ⟨by rw [hnb], A, n, c, by rw [RS.add_old hnb]; exact h.below hb, Moves.of_below hb⟩
set_option maxHeartbeats 2000000 in
theorem add_new (g : Nat) (A : Option Addr) (n c B k : Nat) (s : RS) (w : World) (h : SetW w B g A n c s) (ok : s.Ok) (hk : k ≤ topV) (hm : ¬ s.mem k) (hBw : B ≤ w.heap.size) :
    Calls Try.prog 11 #[.pointer (some ⟨g, 0, none⟩), .int .u64 (k : Int)] w (Adds w B g A s k) := by
  have hnb : s.newB k = true := decide_eq_true ⟨hk, hm⟩
  have hl := h.o.len
  have hn : n ≤ 64 := by have := ok.len; have := ok.most.2; omega
  have k1 : ¬ (4611686018427387903 : Int) < (k : Int) := by unfold topV at hk; omega
  have HB := Lib.hid (has_any g A n c B k s w h ⟨_, ok.fall⟩ ok.flt (by unfold topV at hk; omega) (by omega) false (decide_eq_false hm))
  have H := Lib.hid h
  have OK := Lib.hid ok
  have HK := Lib.hid hk
  have HM2 : Hid (¬ Mem k s.l) := fun hh => hm (.inr hh)
  have HNB := Lib.hid hnb
  have HBW := Lib.hid hBw
  clear h hnb hk hm ok hBw hl
  go_enter Try.func11, Try.ntmps11
  go_wp2_with fail
  (with_reducible refine HB.out.mono ?_)
  rintro e1 w1 ⟨rfl, hb⟩
  have B1 := Lib.hid hb
  clear hb
  go_wp2_with fail
  (with_reducible refine (put_any g A n c B k s w1 (H.out.below B1.out) OK.out.fall HK.out HM2.out (by omega) (Nat.le_trans HBW.out B1.out.size)).mono ?_)
  rintro e2 w2 ⟨rfl, A2, n2, c2, s2, m2⟩
  have S2 := Lib.hid s2
  have M2 : Hid (Moves g A A2 w w2) := (Moves.of_below B1.out).trans m2 H.out.lt
  clear s2 m2
  obtain ⟨l1, e1, F1, M1, L1, FL1, hcase⟩ := RS.add_new OK.out HNB.out
  have HL2 : Hid (l1.length = n2) := by have := S2.out.o.len; simp only at this; rw [e1] at this; exact this
  have hm64 := OK.out.most.2
  rw [e1] at S2
  rcases hcase with ⟨hle, hadd⟩ | ⟨l2, x, hx1, hx2, hadd⟩
  · have HF := Lib.hid (forget_no g A2 n2 c2 B { s with l := l1 } w2 S2.out (by have := HL2.out; simp only; omega) hm64)
    have HADD := Lib.hid hadd
    clear hle hadd F1 M1 L1 FL1 e1
    go_wp2_with fail
    (with_reducible refine HF.out.mono ?_)
    rintro e3 w3 ⟨rfl, hb⟩
    have B3 := Lib.hid hb
    clear hb
    go_wp2
    go_ret
    exact ⟨by rw [HNB.out]; rfl, A2, n2, c2, by rw [HADD.out]; exact S2.out.below B3.out, M2.out.trans (Moves.of_below B3.out) H.out.lt⟩
  · have hlen : l1.length = l2.length + 1 := by rw [hx1]; simp
    have hx3 : l1.getD l2.length (0, 0) = x := by rw [hx1]; simp
    have hx4 := (F1.at_ (x := x) (by rw [hx1]; simp)).2
    have hn2 : n2 = l2.length + 1 := by have := HL2.out; omega
    have hbel : ({ s with l := l1 } : RS).below (x.2 + 1) = s.add k := by
      have h1 := FL1 x (by rw [hx1]; simp)
      have h2 := (F1.at_ (x := x) (by rw [hx1]; simp)).1
      rw [hadd, RS.below, if_neg (by simp only; omega)]
      simp only
      rw [hx1, fall_last (by rw [← hx1]; exact F1)]
    have HF := Lib.hid (forget_yes g A2 n2 c2 B l2.length x.2 { s with l := l1 } w2 S2.out ⟨_, F1⟩ OK.out.flt (by simp only; omega) (by omega) hn2 (by rw [hx3]) (by unfold topV at hx4; omega))
    rw [hbel] at HF
    clear hadd F1 M1 L1 FL1 e1 hx1 hx2 hlen hx3 hx4 hn2 hbel
    go_wp2_with fail
    (with_reducible refine HF.out.mono ?_)
    rintro e3 w3 ⟨rfl, n3, s3, m3⟩
    have S3 := Lib.hid s3
    have M3 := Lib.hid m3
    clear s3 m3
    go_wp2
    go_ret
    exact ⟨by rw [HNB.out]; rfl, A2, n3, c2, S3.out, M2.out.trans M3.out H.out.lt⟩
/-- Add -/
theorem add_any (g : Nat) (A : Option Addr) (n c B k : Nat) (s : RS) (w : World) (h : SetW w B g A n c s) (ok : s.Ok) (hBw : B ≤ w.heap.size) :
    Calls Try.prog 11 #[.pointer (some ⟨g, 0, none⟩), .int .u64 (k : Int)] w (Adds w B g A s k) := by
  have hl := h.o.len
  have hn : n ≤ 1000 := by have := ok.len; have := ok.most.2; omega
  by_cases h1 : k ≤ topV
  · by_cases h2 : s.mem k
    · exact add_known g A n c B k s w h ok h1 h2 hn
    · exact add_new g A n c B k s w h ok h1 h2 hBw
  · exact add_great g A n c B k s w h (by omega)
set_option maxHeartbeats 1000000 in
/-- New -/
theorem new_any (m : Nat) (h1 : 1 ≤ m) (h2 : m ≤ 64) (w : World) (B : Nat) (hB : B ≤ w.heap.size) :
    Calls Try.prog 9 #[.int .i64 (m : Int)] w fun e w' => e = .returned (.pointer (some ⟨w.heap.size, 0, none⟩)) ∧ SetW w' B w.heap.size none 0 0 (RS.new m) ∧ Below w.heap.size w w' := by
  have k1 : ¬ (m : Int) < 1 := by omega
  have k2 : ¬ (64 : Int) < (m : Int) := by omega
  go_enter Try.func9, Try.ntmps9
  go_wp2
  go_ret
  exact ⟨rfl, ⟨heap_alloc_new w _, OwnR.nil _ _, hB, fun a ha => by cases ha⟩, (Below.refl _ _).alloc (Nat.le_refl _) _⟩
theorem new_out (m : Int) (h : m < 1 ∨ 64 < m) (w : World) :
    Calls Try.prog 9 #[.int .i64 m] w fun e w' => e = .returned (.pointer none) ∧ w = w' := by
  by_cases k1 : m < 1
  · go_enter Try.func9, Try.ntmps9
    go_wp2
    go_ret
    exact ⟨rfl, rfl⟩
  · have k2 : 64 < m := by omega
    go_enter Try.func9, Try.ntmps9
    go_wp2
    go_ret
    exact ⟨rfl, rfl⟩
end Go.Proofs.Ytjbhhmjkdhkhaaa
