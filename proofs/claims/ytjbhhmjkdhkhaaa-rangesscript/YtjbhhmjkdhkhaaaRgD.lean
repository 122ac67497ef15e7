/-
  (*Set).Below.
-/
import Derived.Test.YtjbhhmjkdhkhaaaRgC
namespace Go.Proofs.Ytjbhhmjkdhkhaaa
open Go.RowKit Go.Lib
set_option linter.unusedVariables false

theorem fall_mono2 {l : RL} {B : Nat} (h : Fall B l) : ∀ a b, a ≤ b → b < l.length → (l.getD b (0, 0)).2 ≤ (l.getD a (0, 0)).2 := by
  induction l generalizing B with
  | nil => intro a b _ hb; simp at hb
  | cons x r ih =>
    intro a b hab hb
    cases b with
    | zero => obtain rfl : a = 0 := by omega
              exact Nat.le_refl _
    | succ b =>
      have hb' : b < r.length := by simpa using hb
      cases a with
      | zero =>
        have h1 := h.1
        have h2 := (h.2.2.at_ (List.getElem_mem hb')).2
        simp only [List.getD_cons_succ, List.getD_cons_zero, getD_at hb']
        omega
      | succ a => simpa using ih h.2.2 a b (by omega) hb'
theorem rvs_set1 (l : RL) (j x : Nat) (h : j < l.length) : (rvs l).set (j * 2) (.int .u64 (x : Int)) = rvs (l.set j (x, (l.getD j (0, 0)).2)) := by
  induction l generalizing j with
  | nil => simp at h
  | cons y r ih =>
    cases j with
    | zero => simp [rvs]
    | succ j =>
      have := ih j (by simpa using h)
      rw [show (j + 1) * 2 = j * 2 + 1 + 1 by omega]
      simp only [rvs, List.set_cons_succ, List.getD_cons_succ, this]
theorem rvs_set2 (l : RL) (j x : Nat) (h : j < l.length) : (rvs l).set (j * 2 + 1) (.int .u64 (x : Int)) = rvs (l.set j ((l.getD j (0, 0)).1, x)) := by
  induction l generalizing j with
  | nil => simp at h
  | cons y r ih =>
    cases j with
    | zero => simp [rvs]
    | succ j =>
      have := ih j (by simpa using h)
      rw [show (j + 1) * 2 + 1 = j * 2 + 1 + 1 + 1 by omega]
      simp only [rvs, List.set_cons_succ, List.getD_cons_succ, this]
section
variable {w w' : World} {B g n c : Nat} {A : Option Addr} {l : RL}
theorem OwnR.cut {a : Addr} (h : OwnR w B (.slice (some a) n c) n l) {i : Nat} (hi : i ≤ n) : OwnR w B (.slice (some a) i c) i (l.take i) := by
  have hl := h.len
  rcases h.2 with ⟨hv, _⟩ | ⟨g, cap, cur, hv, hB, hg, hnc, hm, hs, ht⟩
  · cases hv
  · injection hv with h1 h2 h3
    injection h1 with h1
    subst h1
    subst h3
    refine ⟨by rw [rvs_length, List.length_take]; omega, .inr ⟨g, c, cur, rfl, hB, hg, by omega, hm, hs, ?_⟩⟩
    rw [← rvs_take, ← ht, List.take_take]
    congr 1
    omega
theorem OwnR.cutA (h : OwnR w B (.slice A n c) n l) {i : Nat} (hi : i ≤ n) : OwnR w B (.slice A i c) i (l.take i) := by
  cases A with
  | some a => exact h.cut hi
  | none =>
    rcases h.2 with ⟨hv, rfl⟩ | ⟨g, cap, cur, hv, _⟩
    · injection hv with _ _ h3
      subst h3
      obtain rfl : i = 0 := by omega
      exact OwnR.nil _ _
    · cases hv
/-- the first number of a range stored -/
theorem OwnR.put1 (h : OwnR w B (.slice (some ⟨g, 0, none⟩) n c) n l) (j x : Nat) (hj : j < n) : OwnR (w.setCell ⟨g, j * 2, none⟩ (.int .u64 (x : Int))) B (.slice (some ⟨g, 0, none⟩) n c) n (l.set j (x, (l.getD j (0, 0)).2)) := by
  have := (World.ownsRow.stored h (j * 2) (.int .u64 (x : Int))).1
  rw [rvs_set1 l j x (by have := h.len; omega)] at this
  exact this
theorem OwnR.put2 (h : OwnR w B (.slice (some ⟨g, 0, none⟩) n c) n l) (j x : Nat) (hj : j < n) : OwnR (w.setCell ⟨g, j * 2 + 1, none⟩ (.int .u64 (x : Int))) B (.slice (some ⟨g, 0, none⟩) n c) n (l.set j ((l.getD j (0, 0)).1, x)) := by
  have := (World.ownsRow.stored h (j * 2 + 1) (.int .u64 (x : Int))).1
  rw [rvs_set2 l j x (by have := h.len; omega)] at this
  exact this
theorem OwnR.cells (h : OwnR w B (.slice (some ⟨g, 0, none⟩) n c) n l) (j : Nat) (hj : j < n) : w.cell? ⟨g, j * 2, none⟩ = some (.int .u64 (((l.getD j (0, 0)).1 : Nat) : Int)) ∧ w.cell? ⟨g, j * 2 + 1, none⟩ = some (.int .u64 (((l.getD j (0, 0)).2 : Nat) : Int)) := by
  have hl := h.len
  have h1 := rvs_at l j (by omega)
  rw [← getD_at (by omega : j < l.length)] at h1
  exact ⟨(World.ownsRow.cellAt h (j * 2) (by omega)).trans h1.1, (World.ownsRow.cellAt h (j * 2 + 1) (by omega)).trans h1.2⟩
theorem Moves.onlyG (h : Only g w w') : Moves g A A w w' := ⟨h.os, h.tape, h.output, h.size, fun k hk h1 _ => h.block k hk h1, fun a ha => .inl ⟨a, ha, rfl⟩⟩
theorem Moves.onlyA {a : Addr} (h : Only a.block w w') : Moves g (some a) (some a) w w' := ⟨h.os, h.tape, h.output, h.size, fun k hk _ h1 => h.block k hk (h1 a rfl), fun a ha => .inl ⟨a, ha, rfl⟩⟩
theorem Moves.drewN (h : Moves g A A w w') (k : Nat) : Moves g A A w (w'.drewN k) := ⟨h.os, h.tape, h.output, h.size, h.block, h.at_⟩
/-- a cell of a range stored, in the walk -/
theorem run_put_own {P : Program} {ty : TypeId} {j : Nat} {v : Value} (hi : (P.info? ty).map (·.size) = some 1) (h : OwnR w B (.slice (some ⟨g, 0, none⟩) n c) n l) (hj : j < n * 2) (hv : v.cells = #[v]) (h1 : v.oneCell' = true) :
    (storeVar ty ⟨g, j, none⟩ v).run P w = .ok () (w.setCell ⟨g, j, none⟩ v) := by
  obtain ⟨cur, hR, _, hc, hn, _, _⟩ := ownR_cur h
  exact run_put_rw hi hR (by omega) v hv h1
end
theorem wpList_put_own {P : Program} {ops : Array Oper} {rest : List Oper} {o : Oper} {a : Act} {w : World} {Q : Exit → Act → World → Prop} (hgd : o.guard = none) (ty : TypeId) (x y : Operand) (ho : o.op = .store ty x y)
    (g j : Nat) (v : Value) (hx : a.eval x = .pointer (some ⟨g, j, none⟩)) (hy : a.eval y = v) (hv : v.cells = #[v]) (h1 : v.oneCell' = true) {B n c : Nat} {l : RL} (hB : OwnR w B (.slice (some ⟨g, 0, none⟩) n c) n l) (hi : (P.info? ty).map (·.size) = some 1) (hl : j < n * 2)
    (h : Hid (Only g w (w.setCell ⟨g, j, none⟩ v)) → wpList P ops Q rest (a.put o.dst undef) (w.setCell ⟨g, j, none⟩ v)) : wpList P ops Q (o :: rest) a w :=
  wpList_plain hgd fun _ hK => by
    unfold Oper.wp execOp
    simp only [ho, hx, hy, Instr.storeAt, Instr.sureAddr, Sem.run_bind, Sem.run_pure, Result.andThen_ok, run_put_own hi hB hl hv h1]
    exact hK _ _ (h ((Only.refl g w).setCell j v))
theorem size_u64 : (Try.prog.info? 27).map (·.size) = some 1 := by kernel_rfl
theorem size_slR : (Try.prog.info? 31).map (·.size) = some 1 := by kernel_rfl

set_option maxHeartbeats 2000000 in
/-- the function that Below searches by -/
theorem below_fn (g : Nat) (A : Option Addr) (n c b1 b2 B k i : Nat) (s : RS) (w : World) (h : SetW w B g A n c s) (hi : i < s.l.length) (hk : k < 18446744073709551616)
    (c1 : w.cell? ⟨b1, 0, none⟩ = some (.pointer (some ⟨g, 0, none⟩))) (c2 : w.cell? ⟨b2, 0, none⟩ = some (.int .u64 (k : Int))) :
    Calls Try.prog 26 (#[.int .i64 (i : Int)] ++ #[.pointer (some ⟨b1, 0, none⟩), .pointer (some ⟨b2, 0, none⟩)]) w (Quiet (.bool (decide (s.l[i].2 < k))) w) := by
  obtain ⟨h0, h1, h2⟩ := h.cells
  have hn := h.o.len
  obtain ⟨b, off, rfl, hb, hcell⟩ := h.o.sl.2 (by omega)
  have c3 := (hcell i hi).2
  generalize s.l[i].2 = x at c3 ⊢
  have hin : i < n := by omega
  have hin' : (i : Int) < (n : Int) := by omega
  clear h hi hcell hb h0 h1 hn
  go_enter Try.func26, Try.ntmps26
  go_wp2_with fail
  go_quiet (fail)
  go_wp2
  go_ret
  exact ⟨by simp, _, rfl⟩
/-- a slice of ranges cut -/
theorem range_elem : Try.prog.elem 31 = 39 := by simp [Program.elem, Try.underlying31]
theorem run_cutR (u : World) (A : Option Addr) (hA : ∀ a, A = some a → a.spot = none) (n c i : Nat) (hi : i ≤ c) : (Instr.slice 31 (.slice A n c) none (some (.int .i64 (i : Int))) none).run Try.prog u = .ok (.slice A i c) u := by
  obtain ⟨d, hd, _, hz1, _⟩ := info_parts range_info
  have h := run_slice_h (P := Try.prog) u 31 A n c (by rw [range_elem]; exact Try.underlying31) .i64 (i : Int) (by omega) (by omega)
  rw [h, range_elem]
  cases A with
  | none => simp [sizeOf, typeInfo, hd, hz1, sliced]
  | some a =>
    obtain ⟨b, o, sp⟩ := a
    have : sp = none := hA _ rfl
    subst this
    simp [sizeOf, typeInfo, hd, hz1, sliced, addr_at]
theorem run_cutR_from (u : World) (g o n c i : Nat) (hi : i ≤ n) (hn : n ≤ c) : (Instr.slice 31 (.slice (some ⟨g, o, none⟩) n c) (some (.int .i64 (i : Int))) none none).run Try.prog u = .ok (.slice (some ⟨g, if c = i then o else o + i * 2, none⟩) (n - i) (c - i)) u := by
  obtain ⟨d, hd, _, hz1, _⟩ := info_parts range_info
  have h := run_slice_l (P := Try.prog) u 31 (some ⟨g, o, none⟩) n c (by rw [range_elem]; exact Try.underlying31) .i64 (i : Int) (by omega) (by omega)
  rw [h, range_elem]
  by_cases e : c = i
  · simp [sizeOf, typeInfo, hd, hz1, sliced, e]
  · simp [sizeOf, typeInfo, hd, hz1, sliced, e, addr_at]
theorem run_cutR_mid (u : World) (g o n c lo hi : Nat) (h1 : lo ≤ hi) (h2 : hi ≤ c) : (Instr.slice 31 (.slice (some ⟨g, o, none⟩) n c) (some (.int .i64 (lo : Int))) (some (.int .i64 (hi : Int))) none).run Try.prog u = .ok (.slice (some ⟨g, if c = lo then o else o + lo * 2, none⟩) (hi - lo) (c - lo)) u := by
  obtain ⟨d, hd, _, hz1, _⟩ := info_parts range_info
  have h := run_slice_lh (P := Try.prog) u 31 (some ⟨g, o, none⟩) n c (by rw [range_elem]; exact Try.underlying31) .i64 .i64 (lo : Int) (hi : Int) (by omega) (by omega) (by omega)
  rw [h, range_elem]
  by_cases e : c = lo
  · simp [sizeOf, typeInfo, hd, hz1, sliced, e]
  · simp [sizeOf, typeInfo, hd, hz1, sliced, e, addr_at]
theorem OwnR.spot {w : World} {B n c : Nat} {A : Option Addr} {l : RL} (h : OwnR w B (.slice A n c) n l) : ∀ a, A = some a → a = ⟨a.block, 0, none⟩ := by
  rintro a rfl
  rcases h.2 with ⟨hv, _⟩ | ⟨g, cap, cur, hv, _⟩
  · cases hv
  · injection hv with h1
    injection h1 with h1
    rw [h1]
theorem max_cast (x k : Nat) : (if x < k then (k : Int) else (x : Int)) = ((max x k : Nat) : Int) := by split <;> omega
/-- two boxes and draws -/
theorem two_boxes (w : World) (o1 o2 : Obj) (m : Nat) : Below w.heap.size w (((w.alloc o1).alloc o2).drewN m) :=
  ((((Below.refl _ w).alloc (Nat.le_refl _) o1).alloc (by simp) o2)).trans ⟨rfl, rfl, rfl, by simp, fun _ _ => rfl⟩
theorem below_le (w : World) (g : Nat) (A : Option Addr) (n c B k : Nat) (s : RS) (h : SetW w B g A n c s) (hk : k ≤ s.fl) (hfl : s.fl < 18446744073709551616) :
    Calls Try.prog 14 #[.pointer (some ⟨g, 0, none⟩), .int .u64 (k : Int)] w fun e w' => e = .returned (.tuple #[]) ∧ Below w.heap.size w w' := by
  obtain ⟨h0, h1, h2⟩ := h.cells
  have hk' : (k : Int) ≤ (s.fl : Int) := by omega
  have h1' : ((w.alloc (.cells #[.pointer (some ⟨g, 0, none⟩)] 25)).alloc (.cells #[.int .u64 (k : Int)] 27)).cell? ⟨g, 1, none⟩ = some (.int .u64 (s.fl : Int)) := cell?_alloc_some _ (cell?_alloc_some _ h1)
  clear h h0 h1 h2
  go_enter Try.func14, Try.ntmps14
  go_wp2_with fail
  go_quiet (fail)
  go_wp2
  refine bodyPost_ret (results_none rfl _ _ _) rfl ?_
  exact ⟨rfl, two_boxes w _ _ _⟩
/-- how many ranges reach k -/
def Reach (l : RL) (k i : Nat) : Prop := i ≤ l.length ∧ (∀ t, t < i → k ≤ (l.getD t (0, 0)).2) ∧ (∀ t, i ≤ t → t < l.length → (l.getD t (0, 0)).2 < k)
theorem reach_none {l : RL} {k : Nat} (h : Reach l k 0) : belowR k l = [] := by
  refine below_none fun x hx => ?_
  obtain ⟨t, ht, rfl⟩ := List.getElem_of_mem hx
  have := h.2.2 t (Nat.zero_le _) ht
  rwa [getD_at ht] at this
theorem reach_some {l : RL} {k j T : Nat} (hf : Fall T l) (h : Reach l k (j + 1)) : belowR k l = (l.take (j + 1)).set j (max (l.getD j (0, 0)).1 k, (l.getD j (0, 0)).2) := by
  have hj : j < l.length := by have := h.1; omega
  have e : l = l.take j ++ l[j] :: l.drop (j + 1) := by simp
  have h1 := h.2.1 j (by omega)
  rw [getD_at hj] at h1 ⊢
  rw [e] at hf
  have h2 := below_cut (n := k) (x := l[j]) (bs := l.drop (j + 1)) h1 (fun y hy => by
    obtain ⟨t, ht, rfl⟩ := List.getElem_of_mem hy
    rw [List.length_drop] at ht
    have := h.2.2 (j + 1 + t) (by omega) (by omega)
    rw [getD_at (by omega)] at this
    simpa using this) hf
  rw [← e] at h2
  rw [h2, List.take_succ_eq_append_getElem hj, List.set_append, if_neg (by simp; omega)]
  simp [show j - min j l.length = 0 by omega]
theorem SetW.floor {w w' : World} {B g n c k : Nat} {A : Option Addr} {s : RS} (h : SetW w B g A n c s) (hR : Rw w' g 49 ([.int .i64 (s.most : Int), .int .u64 (s.fl : Int), .slice A n c].set 1 (.int .u64 (k : Int)))) (ho : Only g w w') : SetW w' B g A n c { s with fl := k } :=
  ⟨hR, h.o.onlyA ho h.ne, h.hB, h.ne⟩
theorem SetW.put {w w' : World} {B g n c n' c' : Nat} {A A' : Option Addr} {s s' : RS} (h : SetW w B g A n c s) (hR : Rw w' g 49 ([.int .i64 (s.most : Int), .int .u64 (s.fl : Int), .slice A n c].set 2 (.slice A' n' c'))) (hs : s'.most = s.most ∧ s'.fl = s.fl) (ho : OwnR w' B (.slice A' n' c') n' s'.l) (hne : ∀ a, A' = some a → a.block ≠ g) : SetW w' B g A' n' c' s' :=
  ⟨by rw [hs.1, hs.2]; exact hR, ho, h.hB, hne⟩
theorem set_box {w w' : World} {g b : Nat} {v : Value} (ho : Only g w w') (hne : b ≠ g) (h : w.cell? ⟨b, 0, none⟩ = some v) : w'.cell? ⟨b, 0, none⟩ = some v :=
  (World.cell?_of_block (a := ⟨b, 0, none⟩) (ho.block b (World.block_lt_of_cell? _ _ h) hne)).trans h
theorem below_search (g : Nat) (A : Option Addr) (n c b1 b2 B k : Nat) (s : RS) (w : World) (h : SetW w B g A n c s) (hf : ∃ T, Fall T s.l) (hk : k < 18446744073709551616) (hn : n ≤ 1000)
    (c1 : w.cell? ⟨b1, 0, none⟩ = some (.pointer (some ⟨g, 0, none⟩))) (c2 : w.cell? ⟨b2, 0, none⟩ = some (.int .u64 (k : Int))) :
    Calls Try.prog 25 #[.int .i64 (n : Int), .func (.func 26) #[] #[.pointer (some ⟨b1, 0, none⟩), .pointer (some ⟨b2, 0, none⟩)]] w fun e w' => ∃ i : Nat, e = .returned (.int .i64 (i : Int)) ∧ Reach s.l k i ∧ ∃ q, w' = w.drewN q := by
  have hl := h.o.len
  refine (search_any 26 #[.pointer (some ⟨b1, 0, none⟩), .pointer (some ⟨b2, 0, none⟩)] n (fun i => decide ((s.l.getD i (0, 0)).2 < k)) w (enters Try.func26 (by kernel_rfl) rfl) (by omega)
    (fun m i hi => by
      have h1 := below_fn g A n c b1 b2 B k i s (w.drewN m) (h.drewN m) (by omega) hk c1 c2
      rwa [← getD_at (by omega : i < s.l.length)] at h1)
    (fun a b hab hb ha => by
      obtain ⟨T, hf⟩ := hf
      have := fall_mono2 hf a b hab (by omega)
      have := of_decide_eq_true ha
      exact decide_eq_true (by omega))).mono ?_
  rintro e w' ⟨i, rfl, hi, ha, hb, q, rfl⟩
  refine ⟨i, rfl, ⟨by omega, fun t ht => ?_, fun t h1 h2 => ?_⟩, q, rfl⟩
  · have := ha t ht; simpa using this
  · have := hb t h1 (by omega); simpa using this
set_option maxHeartbeats 4000000 in
theorem below_gt (w : World) (g : Nat) (A : Option Addr) (n c B k : Nat) (s : RS) (h : SetW w B g A n c s) (hf : ∃ T, Fall T s.l) (hk : s.fl < k) (hkk : k < 18446744073709551616) (hn : n ≤ 1000) :
    Calls Try.prog 14 #[.pointer (some ⟨g, 0, none⟩), .int .u64 (k : Int)] w fun e w' => e = .returned (.tuple #[]) ∧ ∃ n', SetW w' B g A n' c (s.below k) ∧ Moves g A A w w' := by
  obtain ⟨T, hf⟩ := hf
  have HT := Lib.hid hf
  have hsb : s.below k = { s with fl := k, l := belowR k s.l } := by unfold RS.below; rw [if_neg (by omega)]
  have HSB := Lib.hid hsb
  obtain ⟨h0, h1, h2⟩ := h.cells
  have hk' : ¬ (k : Int) ≤ (s.fl : Int) := by omega
  have h1' : ((w.alloc (.cells #[.pointer (some ⟨g, 0, none⟩)] 25)).alloc (.cells #[.int .u64 (k : Int)] 27)).cell? ⟨g, 1, none⟩ = some (.int .u64 (s.fl : Int)) := cell?_alloc_some _ (cell?_alloc_some _ h1)
  have H := Lib.hid h
  have HL := Lib.hid h.lt
  have e25 : ∀ args w, (callFunc 25 args).run Try.prog w = .ok (.enter 25 args) w := enters Try.func25 (by kernel_rfl) rfl
  clear h h0 h1 h2 hf hsb
  go_enter Try.func14, Try.ntmps14
  go_wp2_with fail
  go_quiet (fail)
  have B0 := Lib.hid (two_boxes w (.cells #[.pointer (some ⟨g, 0, none⟩)] 25) (.cells #[.int .u64 (k : Int)] 27) nq)
  have hb1 : (((w.alloc (.cells #[.pointer (some ⟨g, 0, none⟩)] 25)).alloc (.cells #[.int .u64 (k : Int)] 27)).drewN nq).cell? ⟨w.heap.size, 0, none⟩ = some (.pointer (some ⟨g, 0, none⟩)) := by simp
  have hb2 : (((w.alloc (.cells #[.pointer (some ⟨g, 0, none⟩)] 25)).alloc (.cells #[.int .u64 (k : Int)] 27)).drewN nq).cell? ⟨w.heap.size + 1, 0, none⟩ = some (.int .u64 (k : Int)) := by simp
  have hsz : (((w.alloc (.cells #[.pointer (some ⟨g, 0, none⟩)] 25)).alloc (.cells #[.int .u64 (k : Int)] 27)).drewN nq).heap.size = w.heap.size + 1 + 1 := by simp
  generalize ((w.alloc (.cells #[.pointer (some ⟨g, 0, none⟩)] 25)).alloc (.cells #[.int .u64 (k : Int)] 27)).drewN nq = w1 at B0 hb1 hb2 hsz ⊢
  have H1 := Lib.hid (H.out.below B0.out)
  have HZ := Lib.hid hsz
  clear hsz h1'
  go_wp2_with ((with_reducible refine wpList_put_rw rfl 27 (.tmp 19) (.tmp 17) rfl g 1 (.int .u64 (k : Int)) ?hx ?hy ?hv ?h1 49 _ H1.out.r size_u64 ?hl ?_); (case hx => with_unfolding_all rfl); (case hy => with_unfolding_all rfl); (case hv => rfl); (case h1 => rfl); (case hl => simp); intro w2 R2 O2; have hc1 := set_box (O2.out) (by have := HL.out; omega) hb1; have hc2 := set_box (O2.out) (by have := HL.out; omega) hb2; have S2 := Lib.hid (H1.out.floor R2.out O2.out); have hc3 : w2.cell? ⟨g, 2, none⟩ = some (.slice A n c) := S2.out.cells.2.2)
  (with_reducible refine (below_search g A n c w.heap.size (w.heap.size + 1) B k { s with fl := k } w2 S2.out ⟨T, HT.out⟩ hkk hn hc1 hc2).mono ?_)
  rintro e3 w3 ⟨i, rfl, hi, q, rfl⟩
  have hin : i ≤ n := by have := S2.out.o.len; have := hi.1; omega
  have hnc := S2.out.o.bnd
  have HI := Lib.hid hi
  have hcut := fun u => run_cutR u A (fun a ha => by rw [S2.out.o.spot a ha]) n c i (by omega)
  have M2 : Hid (Moves g A A w (w2.drewN q).drew) := (Moves.of_below B0.out).trans (Moves.onlyG ((O2.out.drewN q).drew)) HL.out
  clear hi
  by_cases h0 : i = 0
  · subst h0
    have hz : (((0 : Nat) : Int)) = 0 := rfl
    go_wp2_with fail
    refine wp_tail 9 (by kernel_rfl) (by kernel_rfl) ?_
    simp only [List.take_succ_cons, List.take_zero, List.drop_succ_cons, List.drop_zero]
    repeat still_step
    refine wpStill_nil ?_
    go_wp2_with ((with_reducible refine wpList_put_rw rfl 31 (.tmp 35) (.tmp 33) rfl g 2 (.slice A 0 c) ?hx ?hy ?hv ?h1 49 _ (S2.out.drewN q).drew.r size_slR ?hl ?_); (case hx => with_unfolding_all rfl); (case hy => with_unfolding_all rfl); (case hv => rfl); (case h1 => rfl); (case hl => simp); intro w4 R4 O4)
    go_end0
    refine ⟨rfl, ⟨0, ?_⟩, M2.out.trans (Moves.onlyG O4.out) HL.out⟩
    rw [HSB.out, reach_none HI.out]
    exact (S2.out.drewN q).drew.put R4.out ⟨rfl, rfl⟩ (((S2.out.drewN q).drew.o.cutA (Nat.zero_le _)).onlyA O4.out S2.out.ne) S2.out.ne
  · obtain ⟨j, rfl⟩ : ∃ j, i = j + 1 := ⟨i - 1, by omega⟩
    cases A with
    | none => exact absurd (H.out.o.sl.2 (by omega)) (fun ⟨_, _, e, _⟩ => by cases e)
    | some a =>
      obtain ⟨gl, rfl⟩ : ∃ gl, a = ⟨gl, 0, none⟩ := ⟨_, H.out.o.spot a rfl⟩
      have hj0 : (j : Int) < (j : Int) + 1 := by omega
      have hj1 : j < n := by omega
      generalize hx0 : (s.l.getD j (0, 0)).1 = x
      have hjl : j < s.l.length := by have : s.l.length = n := S2.out.o.len; omega
      have hx1 : ((s.l.take (j + 1)).getD j (0, 0)) = s.l.getD j (0, 0) := by
        rw [getD_at hjl, getD_at (by rw [List.length_take]; omega), List.getElem_take]
      have HX := Lib.hid hx0
      have HX1 := Lib.hid hx1
      have hcut2 : ∀ u, (Instr.slice 31 (.slice (some ⟨gl, 0, none⟩) n c) none (some (.int .i64 ((j : Int) + 1))) none).run Try.prog u = .ok (.slice (some ⟨gl, 0, none⟩) (j + 1) c) u := fun u => hcut u
      clear hx0 hx1 hcut
      go_wp2_with fail
      refine wp_tail 9 (by kernel_rfl) (by kernel_rfl) ?_
      simp only [List.take_succ_cons, List.take_zero, List.drop_succ_cons, List.drop_zero]
      repeat still_step
      refine wpStill_nil ?_
      go_wp2_with ((with_reducible refine wpList_put_rw rfl 31 (.tmp 35) (.tmp 33) rfl g 2 (.slice (some ⟨gl, 0, none⟩) (j + 1) c) ?hx ?hy ?hv ?h1 49 _ (S2.out.drewN q).drew.r size_slR ?hl ?_); (case hx => with_unfolding_all rfl); (case hy => with_unfolding_all rfl); (case hv => rfl); (case h1 => rfl); (case hl => simp); intro w4 R4 O4; have hc4 := set_box O4.out (by have := HL.out; omega) (show ((w2.drewN q).drew).cell? _ = _ from hc1); have hc5 := set_box O4.out (by have := HL.out; omega) (show ((w2.drewN q).drew).cell? _ = _ from hc2); have S4 : Hid (SetW w4 B g (some ⟨gl, 0, none⟩) (j + 1) c { s with fl := k, l := s.l.take (j + 1) }) := (S2.out.drewN q).drew.put R4.out ⟨rfl, rfl⟩ (((S2.out.drewN q).drew.o.cutA hin).onlyA O4.out S2.out.ne) S2.out.ne; have hc6 : w4.cell? ⟨g, 2, none⟩ = some (.slice (some ⟨gl, 0, none⟩) (j + 1) c) := S4.out.cells.2.2; have hc7 := (S4.out.o.cells j (by omega)).1; rw [HX1.out, HX.out] at hc7)
      refine wp_tail 9 (by kernel_rfl) (by kernel_rfl) ?_
      simp only [List.take_succ_cons, List.take_zero, List.drop_succ_cons, List.drop_zero]
      repeat still_step
      refine wpStill_nil ?_
      go_wp2_with ((with_reducible refine wpList_put_own rfl 27 (.tmp 53) (.tmp 51) rfl gl (j * 2) (.int .u64 ((max x k : Nat) : Int)) ?hx ?hy ?hv ?h1 S4.out.drew.o size_u64 ?hl ?_); (case hx => with_unfolding_all rfl); (case hy => exact congrArg (Value.int .u64) (max_cast x k)); (case hv => rfl); (case h1 => rfl); (case hl => omega); intro O5)
      all_goals
        go_end0
        refine ⟨rfl, ⟨j + 1, ?_⟩, M2.out.trans ((Moves.onlyG O4.out).trans (Moves.onlyA (a := ⟨gl, 0, none⟩) (Only.trans (Only.refl gl _).drew O5.out)) ?_) HL.out⟩
        · rw [HSB.out, reach_some HT.out HI.out]
          have S5 := S4.out.drew
          refine ⟨S5.r.only O5.out (fun e => S5.ne _ rfl e.symm), ?_, S5.hB, S5.ne⟩
          have h5 := S5.o.put1 j (max x k) (by omega)
          rw [HX1.out] at h5
          rw [HX.out]
          exact h5
        · exact (S2.out.drewN q).drew.lt
/-- Below -/
theorem below_any (w : World) (g : Nat) (A : Option Addr) (n c B k : Nat) (s : RS) (h : SetW w B g A n c s) (hf : ∃ T, Fall T s.l) (hfl : s.fl < 18446744073709551616) (hkk : k < 18446744073709551616) (hn : n ≤ 1000) :
    Calls Try.prog 14 #[.pointer (some ⟨g, 0, none⟩), .int .u64 (k : Int)] w fun e w' => e = .returned (.tuple #[]) ∧ ∃ n', SetW w' B g A n' c (s.below k) ∧ Moves g A A w w' := by
  by_cases hk : k ≤ s.fl
  · refine (below_le w g A n c B k s h hk hfl).mono ?_
    rintro e w' ⟨rfl, hb⟩
    refine ⟨rfl, n, ?_, Moves.of_below hb⟩
    unfold RS.below
    rw [if_pos hk]
    exact h.below hb
  · exact below_gt w g A n c B k s h hf (by omega) hkk hn
end Go.Proofs.Ytjbhhmjkdhkhaaa
