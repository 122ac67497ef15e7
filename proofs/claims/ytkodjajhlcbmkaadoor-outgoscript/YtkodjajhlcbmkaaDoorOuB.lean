/-
  Package outgo's marks: a row of words known whole; set, setBut, clear, count, find.
-/
import Derived.Test.YtkodjajhlcbmkaaDoorOuA
import Derived.Test.YtkodjajhlcbmkaaDoorQTail
import Derived.LoopTactic
namespace Go.Proofs.YtkodjajhlcbmkaaDoor
open Go.RowKit Go.Lib
set_option linter.unusedVariables false

/-- block g holds k words that mark what p says -/
def MkW (w : World) (g k : Nat) (p : Nat → Bool) : Prop := ∃ ws, Rw w g 41 (qvs ws) ∧ Mk ws k p
theorem MkW.below {w w' : World} {g k : Nat} {p : Nat → Bool} (h : MkW w g k p) (hb : Below w.heap.size w w') : MkW w' g k p := by
  obtain ⟨ws, h1, h2⟩ := h
  exact ⟨ws, h1.below hb, h2⟩
theorem MkW.only {w w' : World} {g g' k : Nat} {p : Nat → Bool} (h : MkW w g k p) (ho : Only g' w w') (hne : g ≠ g') : MkW w' g k p := by
  obtain ⟨ws, h1, h2⟩ := h
  exact ⟨ws, h1.only ho hne, h2⟩
theorem MkW.drewN {w : World} {g k : Nat} {p : Nat → Bool} (h : MkW w g k p) (n : Nat) : MkW (w.drewN n) g k p := h
theorem MkW.lt {w : World} {g k : Nat} {p : Nat → Bool} (h : MkW w g k p) : g < w.heap.size := by
  obtain ⟨ws, h1, h2⟩ := h
  exact h1.lt
theorem MkW.cong {w : World} {g k : Nat} {p q : Nat → Bool} (h : MkW w g k p) (hpq : ∀ i, i < 64 * k → p i = q i) : MkW w g k q := by
  obtain ⟨ws, h1, h2⟩ := h
  exact ⟨ws, h1, h2.cong hpq⟩
theorem Rw.word {w : World} {g v : Nat} {ws : List UInt64} (h : Rw w g 41 (qvs ws)) (hv : v < ws.length) : w.cell? ⟨g, v, none⟩ = some (.int .u64 (qn (ws.getD v 0))) := h.cell v _ (qvs_at ws v hv)
theorem Rw.putQ {w : World} {g v : Nat} {ws : List UInt64} (h : Rw w g 41 (qvs ws)) (x : UInt64) : Rw (w.setCell ⟨g, v, none⟩ (.int .u64 (qn x))) g 41 (qvs (ws.set v x)) := by
  have := h.put v (.int .u64 (qn x))
  rwa [qvs_set] at this

attribute [local go_sem] u64_or' in
set_option maxHeartbeats 1000000 in
theorem set_any {w : World} {g k lo hi : Nat} {p : Nat → Bool} (h : MkW w g k p) (hhi : hi ≤ 64 * k) (hlo : lo < 4611686018427387904) (hh : hi < 4611686018427387904) :
    Calls Tryd.prog 33 #[.slice (some ⟨g, 0, none⟩) k k, .int .i64 (lo : Int), .int .i64 (hi : Int)] w
      fun e w' => e = .returned (.tuple #[]) ∧ MkW w' g k (putW p (fun _ => true) lo hi) ∧ Only g w w' := by
  obtain ⟨ws0, h1, h2⟩ := h
  obtain ⟨v0, hv0⟩ : ∃ v0, lo / 64 = v0 := ⟨_, rfl⟩
  have hd : (lo : Int) / 64 = (v0 : Int) := by omega
  have hd2 : Int.tdiv (lo : Int) 64 = (v0 : Int) := by
    rw [← hd]; rfl
  have hv1 : 64 * v0 ≤ lo := by omega
  have hv2 : lo < 64 * v0 + 64 := by omega
  have H1 := Lib.hid h1
  have H2 : Hid (Mk ws0 k (upW p (fun _ => true) lo hi v0)) := up_start h2 hv0.symm
  have HV := Lib.hid hv0
  clear h1 h2 hv0
  go_enter Tryd.func33, Tryd.ntmps33
  go_wp2_with fail
  go_loopw [6] (fun i wr => ∃ (v : Nat) (ws : List UInt64), i = .int .i64 (v : Int) ∧ v0 ≤ v ∧ (v : Int) < 144115188075855872 ∧ Hid (Rw wr g 41 (qvs ws)) ∧ Hid (Mk ws k (upW p (fun _ => true) lo hi v)) ∧ Hid (Only g w wr)) (fun i _ => k + 1 - (intOf i).toNat)
  case atStart => exact ⟨v0, ws0, rfl, Nat.le_refl _, by omega, H1, H2, Only.refl _ _⟩
  case round =>
    clear H1 H2
    obtain ⟨v, ws, rfl, hv, hvb, R, M, O⟩ := hrel
    by_cases hlt : 64 * v < hi
    · have hvk : v < k := by omega
      have hl : v < ws.length := by have := M.out.1; omega
      have hc := R.out.word hl
      obtain ⟨x, hx⟩ : ∃ x, ws.getD v 0 = x := ⟨_, rfl⟩
      rw [hx] at hc
      have HX : Hid (∀ j, j < 64 → bitQ (x ||| partQ v lo hi) j = if lo ≤ 64 * v + j ∧ 64 * v + j < hi then (fun _ => true) (64 * v + j) else p (64 * v + j)) := fun j hj => bit_set M.out hvk hlt hx hj
      clear hx hl
      have hf := R.out.frozen v
      have hvi : (v : Int) < (k : Int) := by omega
      have P1 := part_any v lo hi hlt (by omega) hlo hh
      have ht : ((v : Int) * 64 < (hi : Int)) := by omega
      have P := Lib.hid P1
      clear P1
      go_wp2_with fail
      refine wp_quiet_tail 10 (by kernel_rfl) (by kernel_rfl) ?_
      simp only [List.take_succ_cons, List.take_zero, List.drop_succ_cons, List.drop_zero]
      repeat (go_big_quiet_step ((go_at_call 38; exact Calls.quiet_of (P.out _))))
      refine wpQuiet_nil ?_
      rintro _ ⟨nq, rfl⟩
      go_wp2_with fail
      go_roundw
      case rel => exact ⟨v + 1, ws.set v (x ||| partQ v lo hi), by go_num, by omega, by omega, (R.out.drewN nq).putQ _, up_step M.out hvk HX.out, (O.out.drewN nq).setCell _ _⟩
      case measure => simp [intOf]; omega
    · have ht : ¬ ((v : Int) * 64 < (hi : Int)) := by omega
      go_wp2_with fail
      go_end0
      exact ⟨rfl, ⟨ws, R.out, up_end M.out (by omega)⟩, O.out⟩
attribute [local go_sem] u64_andNot' in
set_option maxHeartbeats 1000000 in
theorem clear_any {w : World} {g k lo hi : Nat} {p : Nat → Bool} (h : MkW w g k p) (hhi : hi ≤ 64 * k) (hlo : lo < 4611686018427387904) (hh : hi < 4611686018427387904) :
    Calls Tryd.prog 29 #[.slice (some ⟨g, 0, none⟩) k k, .int .i64 (lo : Int), .int .i64 (hi : Int)] w
      fun e w' => e = .returned (.tuple #[]) ∧ MkW w' g k (putW p (fun _ => false) lo hi) ∧ Only g w w' := by
  obtain ⟨ws0, h1, h2⟩ := h
  obtain ⟨v0, hv0⟩ : ∃ v0, lo / 64 = v0 := ⟨_, rfl⟩
  have hd : (lo : Int) / 64 = (v0 : Int) := by omega
  have hd2 : Int.tdiv (lo : Int) 64 = (v0 : Int) := by
    rw [← hd]; rfl
  have hv1 : 64 * v0 ≤ lo := by omega
  have hv2 : lo < 64 * v0 + 64 := by omega
  have H1 := Lib.hid h1
  have H2 : Hid (Mk ws0 k (upW p (fun _ => false) lo hi v0)) := up_start h2 hv0.symm
  have HV := Lib.hid hv0
  clear h1 h2 hv0
  go_enter Tryd.func29, Tryd.ntmps29
  go_wp2_with fail
  go_loopw [6] (fun i wr => ∃ (v : Nat) (ws : List UInt64), i = .int .i64 (v : Int) ∧ v0 ≤ v ∧ (v : Int) < 144115188075855872 ∧ Hid (Rw wr g 41 (qvs ws)) ∧ Hid (Mk ws k (upW p (fun _ => false) lo hi v)) ∧ Hid (Only g w wr)) (fun i _ => k + 1 - (intOf i).toNat)
  case atStart => exact ⟨v0, ws0, rfl, Nat.le_refl _, by omega, H1, H2, Only.refl _ _⟩
  case round =>
    clear H1 H2
    obtain ⟨v, ws, rfl, hv, hvb, R, M, O⟩ := hrel
    by_cases hlt : 64 * v < hi
    · have hvk : v < k := by omega
      have hl : v < ws.length := by have := M.out.1; omega
      have hc := R.out.word hl
      obtain ⟨x, hx⟩ : ∃ x, ws.getD v 0 = x := ⟨_, rfl⟩
      rw [hx] at hc
      have HX : Hid (∀ j, j < 64 → bitQ (x &&& ~~~ partQ v lo hi) j = if lo ≤ 64 * v + j ∧ 64 * v + j < hi then (fun _ => false) (64 * v + j) else p (64 * v + j)) := fun j hj => bit_clear M.out hvk hlt hx hj
      clear hx hl
      have hf := R.out.frozen v
      have hvi : (v : Int) < (k : Int) := by omega
      have P1 := part_any v lo hi hlt (by omega) hlo hh
      have ht : ((v : Int) * 64 < (hi : Int)) := by omega
      have P := Lib.hid P1
      clear P1
      go_wp2_with fail
      refine wp_quiet_tail 10 (by kernel_rfl) (by kernel_rfl) ?_
      simp only [List.take_succ_cons, List.take_zero, List.drop_succ_cons, List.drop_zero]
      repeat (go_big_quiet_step ((go_at_call 38; exact Calls.quiet_of (P.out _))))
      refine wpQuiet_nil ?_
      rintro _ ⟨nq, rfl⟩
      go_wp2_with fail
      go_roundw
      case rel => exact ⟨v + 1, ws.set v (x &&& ~~~ partQ v lo hi), by go_num, by omega, by omega, (R.out.drewN nq).putQ _, up_step M.out hvk HX.out, (O.out.drewN nq).setCell _ _⟩
      case measure => simp [intOf]; omega
    · have ht : ¬ ((v : Int) * 64 < (hi : Int)) := by omega
      go_wp2_with fail
      go_end0
      exact ⟨rfl, ⟨ws, R.out, up_end M.out (by omega)⟩, O.out⟩
attribute [local go_sem] u64_andNot' u64_or' in
set_option maxHeartbeats 1000000 in
theorem but_any {w : World} {g k lo hi : Nat} {p : Nat → Bool} {gq : Nat} {q : Nat → Bool} (hq : MkW w gq k q) (hne : gq ≠ g) (h : MkW w g k p) (hhi : hi ≤ 64 * k) (hlo : lo < 4611686018427387904) (hh : hi < 4611686018427387904) :
    Calls Tryd.prog 35 #[.slice (some ⟨g, 0, none⟩) k k, .int .i64 (lo : Int), .int .i64 (hi : Int), .slice (some ⟨gq, 0, none⟩) k k] w
      fun e w' => e = .returned (.tuple #[]) ∧ MkW w' g k (putW p (fun i => p i || !q i) lo hi) ∧ Only g w w' := by
  obtain ⟨ws0, h1, h2⟩ := h
  obtain ⟨us, k1, k2⟩ := hq
  have K1 := Lib.hid k1
  have K2 := Lib.hid k2
  have HNE := Lib.hid hne
  clear k1 k2 hne
  obtain ⟨v0, hv0⟩ : ∃ v0, lo / 64 = v0 := ⟨_, rfl⟩
  have hd : (lo : Int) / 64 = (v0 : Int) := by omega
  have hd2 : Int.tdiv (lo : Int) 64 = (v0 : Int) := by
    rw [← hd]; rfl
  have hv1 : 64 * v0 ≤ lo := by omega
  have hv2 : lo < 64 * v0 + 64 := by omega
  have H1 := Lib.hid h1
  have H2 : Hid (Mk ws0 k (upW p (fun i => p i || !q i) lo hi v0)) := up_start h2 hv0.symm
  have HV := Lib.hid hv0
  clear h1 h2 hv0
  go_enter Tryd.func35, Tryd.ntmps35
  go_wp2_with fail
  go_loopw [8] (fun i wr => ∃ (v : Nat) (ws : List UInt64), i = .int .i64 (v : Int) ∧ v0 ≤ v ∧ (v : Int) < 144115188075855872 ∧ Hid (Rw wr g 41 (qvs ws)) ∧ Hid (Mk ws k (upW p (fun i => p i || !q i) lo hi v)) ∧ Hid (Only g w wr)) (fun i _ => k + 1 - (intOf i).toNat)
  case atStart => exact ⟨v0, ws0, rfl, Nat.le_refl _, by omega, H1, H2, Only.refl _ _⟩
  case round =>
    clear H1 H2
    obtain ⟨v, ws, rfl, hv, hvb, R, M, O⟩ := hrel
    by_cases hlt : 64 * v < hi
    · have hvk : v < k := by omega
      have hl : v < ws.length := by have := M.out.1; omega
      have hc := R.out.word hl
      obtain ⟨x, hx⟩ : ∃ x, ws.getD v 0 = x := ⟨_, rfl⟩
      rw [hx] at hc
      have hl2 : v < us.length := by have := K2.out.1; omega
      have hQ := K2.out
      have hcq := (K1.out.only O.out HNE.out).word hl2
      obtain ⟨y, hy⟩ : ∃ y, us.getD v 0 = y := ⟨_, rfl⟩
      rw [hy] at hcq
      have HX : Hid (∀ j, j < 64 → bitQ (x ||| (partQ v lo hi &&& ~~~ y)) j = if lo ≤ 64 * v + j ∧ 64 * v + j < hi then (fun i => p i || !q i) (64 * v + j) else p (64 * v + j)) := fun j hj => bit_but M.out hQ hvk hlt hx hy hj
      clear hx hl hy hl2 hQ
      have hf := R.out.frozen v
      have hvi : (v : Int) < (k : Int) := by omega
      have P1 := part_any v lo hi hlt (by omega) hlo hh
      have ht : ((v : Int) * 64 < (hi : Int)) := by omega
      have P := Lib.hid P1
      clear P1
      go_wp2_with fail
      refine wp_quiet_tail 15 (by kernel_rfl) (by kernel_rfl) ?_
      simp only [List.take_succ_cons, List.take_zero, List.drop_succ_cons, List.drop_zero]
      repeat (go_big_quiet_step ((go_at_call 38; exact Calls.quiet_of (P.out _))))
      refine wpQuiet_nil ?_
      rintro _ ⟨nq, rfl⟩
      go_wp2_with fail
      go_roundw
      case rel => exact ⟨v + 1, ws.set v (x ||| (partQ v lo hi &&& ~~~ y)), by go_num, by omega, by omega, (R.out.drewN nq).putQ _, up_step M.out hvk HX.out, (O.out.drewN nq).setCell _ _⟩
      case measure => simp [intOf]; omega
    · have ht : ¬ ((v : Int) * 64 < (hi : Int)) := by omega
      go_wp2_with fail
      go_end0
      exact ⟨rfl, ⟨ws, R.out, up_end M.out (by omega)⟩, O.out⟩
/-- a callee that only reads, in a world that has drawn already -/
theorem stillQ {P : Program} {f : FuncId} {args : Array Value} {w : World} {a n : Nat} {v : Value} (h : Calls P f args (w.drewN (a + n)) fun e w' => e = .returned v ∧ w.drewN (a + n) = w') :
    Calls P f args (w.drewN (a + n)) fun e w'' => e = .returned v ∧ ∃ m, w'' = w.drewN (a + m) := h.mono fun _ _ ⟨he, hm⟩ => ⟨he, n, hm.symm⟩
theorem quietQ {P : Program} {f : FuncId} {args : Array Value} {w : World} {a n : Nat} {v : Value} (h : Calls P f args (w.drewN (a + n)) (Quiet v (w.drewN (a + n)))) :
    Calls P f args (w.drewN (a + n)) fun e w'' => e = .returned v ∧ ∃ m, w'' = w.drewN (a + m) := h.mono fun _ _ ⟨he, m, hm⟩ => ⟨he, n + m, by rw [hm, World.drewN_drewN, Nat.add_assoc]⟩
attribute [local go_sem] u64_and' in
set_option maxHeartbeats 1000000 in
theorem count_any {w : World} {g k lo hi : Nat} {p : Nat → Bool} (h : MkW w g k p) (hhi : hi ≤ 64 * k) (hlo : lo < 4611686018427387904) (hh : hi < 4611686018427387904) :
    Calls Tryd.prog 32 #[.slice (some ⟨g, 0, none⟩) k k, .int .i64 (lo : Int), .int .i64 (hi : Int)] w (Quiet (.int .i64 (cntV (inW p lo hi) hi : Nat)) w) := by
  obtain ⟨ws, h1, h2⟩ := h
  obtain ⟨v0, hv0⟩ : ∃ v0, lo / 64 = v0 := ⟨_, rfl⟩
  have hd : (lo : Int) / 64 = (v0 : Int) := by omega
  have hd2 : Int.tdiv (lo : Int) 64 = (v0 : Int) := by
    rw [← hd]; rfl
  have hv1 : 64 * v0 ≤ lo := by omega
  have hv2 : lo < 64 * v0 + 64 := by omega
  obtain ⟨c, hc⟩ : ∃ c, cntV (inW p lo hi) hi = c := ⟨_, rfl⟩
  rw [hc]
  have HC := Lib.hid hc
  have M := Lib.hid h2
  have R := Lib.hid h1
  have H0 : Hid (cntV (inW p lo hi) (64 * v0) = 0) := in_start hv0.symm
  clear h1 h2 hv0 hc
  go_enter Tryd.func32, Tryd.ntmps32
  go_wp2_with fail
  go_loopw [7, 8] (fun s i wr => ∃ (v n q : Nat), i = .int .i64 (v : Int) ∧ s = .int .i64 (n : Int) ∧ wr = w.drewN q ∧ v0 ≤ v ∧ (v : Int) ≤ 72057594037927936 ∧ n ≤ 64 * v ∧ Hid (cntV (inW p lo hi) (64 * v) = n)) (fun _ i _ => k + 1 - (intOf i).toNat)
  case atStart => exact ⟨v0, 0, 0, rfl, rfl, rfl, Nat.le_refl _, by omega, by omega, H0⟩
  case round =>
    clear H0
    obtain ⟨v, n, q, rfl, rfl, rfl, hv, hvb, hn, HN⟩ := hrel
    by_cases hlt : 64 * v < hi
    · have hvk : v < k := by omega
      have hl : v < ws.length := by have := M.out.1; omega
      have hc := R.out.word hl
      obtain ⟨x, hx⟩ : ∃ x, ws.getD v 0 = x := ⟨_, rfl⟩
      rw [hx] at hc
      obtain ⟨d, hdd⟩ : ∃ d, cntV (bitQ (x &&& partQ v lo hi)) 64 = d := ⟨_, rfl⟩
      have hd64 : d ≤ 64 := by rw [← hdd]; exact cnt_le _ _
      have HS : Hid (cntV (inW p lo hi) (64 * (v + 1)) = n + d) := by
        have := in_step (p := p) (lo := lo) M.out hvk hlt hx
        rw [HN.out, hdd] at this
        exact this
      have P1 := part_any v lo hi hlt (by omega) hlo hh
      have O1 := ones_any (x &&& partQ v lo hi)
      rw [hdd] at O1
      clear hx hl hdd
      have hvi : (v : Int) < (k : Int) := by omega
      have ht : ((v : Int) * 64 < (hi : Int)) := by omega
      have P := Lib.hid P1
      have O := Lib.hid O1
      clear P1 O1
      go_wp2_with fail
      go_quiet (first
        | (go_at_call 38; exact quietQ (P.out _))
        | (go_at_call 39; exact stillQ (O.out _)))
      go_wp2_with fail
      go_roundw
      case rel => exact ⟨v + 1, n + d, _, by go_num, by go_num, rfl, by omega, by omega, by omega, HS⟩
      case measure => simp [intOf]; omega
    · have ht : ¬ ((v : Int) * 64 < (hi : Int)) := by omega
      have hnc : n = c := by
        rw [← HN.out, ← HC.out]
        exact in_end (by omega)
      clear HN
      go_wp2_with fail
      go_ret
      exact ⟨by subst hnc; rfl, q, rfl⟩
attribute [local go_sem] u64_and' u64_xor' in
set_option maxHeartbeats 1000000 in
theorem find_any {w : World} {g k lo hi r : Nat} {p : Nat → Bool} (h : MkW w g k p) (hhi : hi ≤ 64 * k) (hh : hi < 4611686018427387904) (hlh : lo ≤ hi) (hG : Glob w) (t : UInt64) (tb : Bool) (hT : ∀ j, j < 64 → bitQ t j = tb) (hF : FirstW p tb lo hi r) :
    Calls Tryd.prog 40 #[.slice (some ⟨g, 0, none⟩) k k, .int .i64 (lo : Int), .int .i64 (hi : Int), .int .u64 (qn t)] w (Quiet (.int .i64 (r : Int)) w) := by
  obtain ⟨ws, h1, h2⟩ := h
  obtain ⟨v0, hv0⟩ : ∃ v0, lo / 64 = v0 := ⟨_, rfl⟩
  have hd : (lo : Int) / 64 = (v0 : Int) := by omega
  have hd2 : Int.tdiv (lo : Int) 64 = (v0 : Int) := by
    rw [← hd]; rfl
  have hv1 : 64 * v0 ≤ lo := by omega
  have hv2 : lo < 64 * v0 + 64 := by omega
  have hr1 := hF.1
  have hr2 := hF.2.1
  have M := Lib.hid h2
  have R := Lib.hid h1
  have HF := Lib.hid hF
  have HT := Lib.hid hT
  have HG := Lib.hid hG
  clear h1 h2 hv0 hF hT hG
  go_enter Tryd.func40, Tryd.ntmps40
  go_wp2_with fail
  go_loopw [9, 10] (fun i j wr => ∃ (v q : Nat), i = .int .i64 (v : Int) ∧ wr = w.drewN q ∧ v0 ≤ v ∧ (v : Int) ≤ 72057594037927936 ∧ (64 * v ≤ r ∨ r = hi)) (fun i _ _ => k + 1 - (intOf i).toNat)
  case atStart => exact ⟨v0, 0, rfl, rfl, Nat.le_refl _, by omega, .inl (by omega)⟩
  case round =>
    obtain ⟨v, q, rfl, rfl, hv, hvb, hvr⟩ := hrel
    by_cases hlt : 64 * v < hi
    · have hvk : v < k := by omega
      have hl : v < ws.length := by have := M.out.1; omega
      have hc := R.out.word hl
      obtain ⟨x, hx⟩ : ∃ x, ws.getD v 0 = x := ⟨_, rfl⟩
      rw [hx] at hc
      have P1 := part_any v lo hi hlt (by omega) (by omega) hh
      have hvi : (v : Int) < (k : Int) := by omega
      have ht : ((v : Int) * 64 < (hi : Int)) := by omega
      have P := Lib.hid P1
      clear P1
      by_cases hin : r < 64 * v + 64 ∧ r < hi
      · obtain ⟨y0, yc⟩ := find_yes M.out hvk hlt hx HT.out HF.out (by omega) hin.1 hin.2
        obtain ⟨y, hy⟩ : ∃ y, (x ^^^ t) &&& partQ v lo hi = y := ⟨_, rfl⟩
        have hyq : qn ((x ^^^ t) &&& partQ v lo hi) = qn y := by rw [hy]
        rw [hy] at y0 yc
        have hn : ¬ qn y = 0 := fun e => y0 (UInt64.toNat_inj.1 (by have : (y.toNat : Int) = 0 := e; simp; omega))
        have T1 := tz_any y y0
        rw [yc] at T1
        have T := Lib.hid T1
        clear T1 hx hl y0 yc hy
        go_wp2_with fail
        go_quiet ((go_at_call 38; exact quietQ (P.out _)))
        go_wp2_with fail
        have T2 := T.out (w.drewN (q + nq)) (show Glob (w.drewN (q + nq)) from HG.out)
        (with_reducible refine T2.mono ?_)
        rintro e w' ⟨rfl, rfl⟩
        go_wp2_with fail
        go_ret
        exact ⟨by go_num, _, rfl⟩
      · have hz := find_no M.out hvk hlt hx HT.out HF.out (by omega)
        have hyq : qn ((x ^^^ t) &&& partQ v lo hi) = 0 := by rw [hz]; rfl
        clear hx hl hz
        go_wp2_with fail
        go_quiet ((go_at_call 38; exact quietQ (P.out _)))
        go_wp2_with fail
        go_roundw
        case rel => exact ⟨v + 1, _, by go_num, rfl, by omega, by omega, by omega⟩
        case measure => simp [intOf]; omega
    · have ht : ¬ ((v : Int) * 64 < (hi : Int)) := by omega
      have hre : r = hi := by omega
      go_wp2_with fail
      go_ret
      exact ⟨by subst hre; rfl, q, rfl⟩
end Go.Proofs.YtkodjajhlcbmkaaDoor
