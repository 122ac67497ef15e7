/-
  Package income's pages: a word that marks which of 64 bytes came, and the bytes.
-/
import Derived.Test.YtocolaccgoochaaDoorRwC
import Derived.Test.YtocolaccgoochaaDoorOver
import Derived.Test.YtocolaccgoochaaDoorTzA
import Derived.LoopTactic
namespace Go.Proofs.YtocolaccgoochaaDoor
open Go.RowKit Go.Lib
set_option linter.unusedVariables false

/-- the page at block g -/
def Pg (w : World) (g : Nat) (q : UInt64) (d : List UInt8) : Prop := Rw w g 62 (Value.int .u64 (qn q) :: bvs d) ∧ d.length = 64
section
variable {w w' : World} {g : Nat} {q : UInt64} {d : List UInt8}
theorem Pg.lt (h : Pg w g q d) : g < w.heap.size := Rw.lt h.1
theorem Pg.came (h : Pg w g q d) : w.cell? ⟨g, 0, none⟩ = some (.int .u64 (qn q)) := Rw.cell h.1 0 _ rfl
theorem Pg.cell (h : Pg w g q d) (j : Nat) (hj : j < 64) : w.cell? ⟨g, 1 + j, none⟩ = some (.int .u8 (bn (d.getD j 0))) := by
  refine Rw.cell h.1 (1 + j) _ ?_
  have hl := h.2
  rw [Nat.add_comm, List.getElem?_cons_succ]
  simp [bvs, bv, bn, hl, hj]
theorem Pg.frozen (h : Pg w g q d) (j : Nat) : w.frozen? ⟨g, j, none⟩ = false := Rw.frozen h.1 j
theorem Pg.below {B : Nat} (h : Pg w g q d) (hb : Below B w w') (hg : g < B) : Pg w' g q d := ⟨Rw.belowB h.1 hb hg, h.2⟩
theorem Pg.only {g' : Nat} (h : Pg w g q d) (ho : Only g' w w') (hne : g ≠ g') : Pg w' g q d := ⟨Rw.only h.1 ho hne, h.2⟩
end
/-- one of the bytes came as another one -/
def diffP (q : UInt64) (d : List UInt8) (o : Nat) (l : List UInt8) : Bool := (List.range l.length).any fun k => bitQ q (o + k) && !(d.getD (o + k) 0 == l.getD k 0)
theorem diff_yes {q : UInt64} {d : List UInt8} {o k : Nat} {l : List UInt8} (hk : k < l.length) (h1 : bitQ q (o + k) = true) (h2 : d.getD (o + k) 0 ≠ l.getD k 0) : diffP q d o l = true := by
  unfold diffP
  rw [List.any_eq_true]
  have h3 : (d.getD (o + k) 0 == l.getD k 0) = false := beq_false_of_ne h2
  exact ⟨k, by simpa using hk, by rw [h1, h3]; rfl⟩
theorem diff_no {q : UInt64} {d : List UInt8} {o : Nat} {l : List UInt8} (h : ∀ k, k < l.length → bitQ q (o + k) = true → d.getD (o + k) 0 = l.getD k 0) : diffP q d o l = false := by
  unfold diffP
  rw [List.any_eq_false]
  intro k hk
  have hk' : k < l.length := by simpa using hk
  cases hb : bitQ q (o + k) with
  | false => simp
  | true => rw [h k hk' hb]; simp
theorem bit_shift (q : UInt64) (k : Nat) : bits .and .u64 (qn q / 2 ^ k) 1 = if bitQ q k = true then 1 else 0 := by
  have e : (qn q / 2 ^ k : Int) = ((q.toNat / 2 ^ k : Nat) : Int) := by unfold qn; simp
  have hlt : q.toNat / 2 ^ k < 2 ^ 64 := Nat.lt_of_le_of_lt (Nat.div_le_self _ _) q.toNat_lt
  have h1 : (1 : Int) = ((1 : Nat) : Int) := rfl
  rw [e, h1, u64_and_nat _ _ hlt (by decide), Nat.and_one_is_mod]
  unfold bitQ
  rw [Nat.testBit_eq_decide_div_mod_eq]
  rcases Nat.mod_two_eq_zero_or_one (q.toNat / 2 ^ k) with h | h <;> simp [h]
set_option maxHeartbeats 1000000 in
theorem pdiff_any {w : World} {g o n c B : Nat} {q : UInt64} {d l : List UInt8} {A : Option Addr} (hp : Pg w g q d) (hs : Sl w B A n l) (hat : o + n ≤ 64) :
    Calls Tryd.prog 33 #[.pointer (some ⟨g, 0, none⟩), .int .i64 (o : Int), .slice A n c] w fun e w' => e = .returned (.bool (diffP q d o l)) ∧ w = w' := by
  have hl := hs.len
  go_enter Tryd.func33, Tryd.ntmps33
  go_wp2_with fail
  go_loopw [7, 8, 11] (fun _ _ i wr => ∃ j : Nat, i = .int .i64 (j : Int) ∧ j ≤ n ∧ Hid (wr = w) ∧ Hid (∀ k, k < j → bitQ q (o + k) = true → d.getD (o + k) 0 = l.getD k 0)) (fun _ _ i _ => n - (intOf i).toNat)
  case atStart => exact ⟨0, rfl, by omega, rfl, fun k hk => absurd hk (by omega)⟩
  case round =>
    obtain ⟨j, rfl, hj, HW, HK⟩ := hrel
    obtain rfl : wr = w := HW.out
    by_cases hlt : j < n
    · obtain ⟨b, off, rfl, hbB, hcell⟩ := hs.2 (by omega)
      have hc1 := hs.cellD j (by omega)
      have hc0 := hp.came
      have hcd := hp.cell (o + j) (by omega)
      have hbs := bit_shift q (o + j)
      clear hcell
      obtain ⟨x, hx⟩ : ∃ x, l.getD j 0 = x := ⟨_, rfl⟩
      obtain ⟨y, hy⟩ : ∃ y, d.getD (o + j) 0 = y := ⟨_, rfl⟩
      rw [hx] at hc1
      rw [hy] at hcd
      cases hb : bitQ q (o + j) with
      | false =>
        rw [hb] at hbs
        have HK' : Hid (∀ k, k < j + 1 → bitQ q (o + k) = true → d.getD (o + k) 0 = l.getD k 0) := fun k hk h => by
          rcases Nat.lt_or_ge k j with hh | hh
          · exact HK.out k hh h
          · obtain rfl : k = j := by omega
            rw [hb] at h
            cases h
        clear hb hx hy
        go_wp2_with fail
        exact ⟨⟨j + 1, by go_num, by omega, trivial, HK'⟩, by simp [intOf]; omega⟩
      | true =>
        rw [hb] at hbs
        by_cases hxy : y = x
        · have HK' : Hid (∀ k, k < j + 1 → bitQ q (o + k) = true → d.getD (o + k) 0 = l.getD k 0) := fun k hk h => by
            rcases Nat.lt_or_ge k j with hh | hh
            · exact HK.out k hh h
            · obtain rfl : k = j := by omega
              rw [hx, hy, hxy]
          clear hb hx hy
          subst hxy
          go_wp2_with fail
          exact ⟨⟨j + 1, by go_num, by omega, trivial, HK'⟩, by simp [intOf]; omega⟩
        · have HD : Hid (diffP q d o l = true) := diff_yes (k := j) (by omega) hb (by rw [hx, hy]; exact hxy)
          have hne : bn y ≠ bn x := fun e => hxy (by unfold bn at e; exact UInt8.toNat_inj.1 (by omega))
          have hd1 : decide (bn y = bn x) = false := by simpa using hne
          have hd2 : (bn y == bn x) = false := by simpa using hne
          clear hb hx hy
          go_wp2_with fail
          go_ret
          exact ⟨by rw [HD.out]; rfl, rfl⟩
    · obtain rfl : j = n := by omega
      have HD : Hid (diffP q d o l = false) := diff_no fun k hk => HK.out k (by omega)
      go_wp2_with fail
      go_ret
      exact ⟨by rw [HD.out]; rfl, rfl⟩
/-- an array in the middle of a variable, from a place on, as a slice -/
theorem run_array_from {P : Program} (u : World) (t e : TypeId) (n : Nat) (hu : P.underlying t = some (.array n e)) (hs : (P.info? e).map (·.size) = some 1) (g off o : Nat) (ho : o < n) :
    (Instr.sliceAt t (.pointer (some ⟨g, off, none⟩)) (some (.int .i64 (o : Int))) none none).run P u = .ok (.slice (some ⟨g, off + o, none⟩) (n - o) (n - o)) u := by
  have ha : P.arrayLen t = n := by simp [Program.arrayLen, hu]
  have he : P.elem t = e := by simp [Program.elem, hu]
  have h := run_sliceAt_array_l (P := P) u t ⟨g, off, none⟩ (by rw [ha, he]; exact hu) .i64 (o : Int) (by omega) (by rw [ha]; omega)
  rw [h, he]
  cases hq : P.info? e with
  | none => simp [hq] at hs
  | some i =>
    have h1 : i.size = 1 := by simpa [hq] using hs
    have hne : n ≠ o := by omega
    simp [sizeOf, typeInfo, hq, h1, slicedAt, ha, addr_add, hne]
/-- copy into the middle of a block of cells -/
theorem wpList_copy_rw {w : World} {ops : Array Oper} {rest : List Oper} {o : Oper} {a : Act} {Q : Exit → Act → World → Prop} (hgd : o.guard = none) (d s : Operand)
    (ho : o.op = .call { callee := .builtin .copy, args := #[d, s], argTypes := #[30, 30] })
    (g off dn dc m c B : Nat) (A : Option Addr) (l : List UInt8) (vs : List Value) (t : TypeId) (hd : a.eval d = .slice (some ⟨g, off, none⟩) dn dc) (hs : a.eval s = .slice A m c)
    (hr : Sl w B A m l) (hg : w.heap[g]? = some (.cells vs.toArray t (0, 0))) (hm : m ≤ dn) (hfit : off + m ≤ vs.length)
    (h : ∀ w', Hid (w'.heap[g]? = some (.cells (vs.take off ++ (bvs l ++ vs.drop (off + m))).toArray t (0, 0))) → Hid (Only g w w') → wpList Tryd.prog ops Q rest (a.put o.dst (goInt m)) w') : wpList Tryd.prog ops Q (o :: rest) a w := by
  have hl := hr.1
  rcases Nat.eq_zero_or_pos m with h0 | h0
  · subst h0
    have hl0 : l = [] := List.length_eq_zero_iff.1 hl
    subst hl0
    refine wpList_copy_nothing hgd d s 30 30 ho 5 Tryd.underlying30 size1 (some ⟨g, off, none⟩) A dn dc 0 c hd hs (Nat.zero_min dn).symm ?_
    exact h w (show _ = _ by simpa [bvs] using hg) (Only.refl _ _)
  · obtain ⟨b, o', rfl, hbB, hc⟩ := hr.2 (by omega)
    refine wpList_copy_own hgd d s 30 30 ho 5 Tryd.underlying30 size1 g off dn dc ⟨b, o', none⟩ m c hd hs _ t hg (bvs l) (by rw [bvs_length, hl]; exact (Nat.min_eq_left hm).symm) ?_ ?_ (bvs_one _) ?_
    · intro j u hu
      have hj : j < l.length := by
        have := (List.getElem?_eq_some_iff.1 hu).1
        rwa [bvs_length] at this
      rw [addr_add, hc j hj, ← hu]
      simp [bvs, hj]
    · rw [bvs_length]; simpa [hl] using hfit
    · rw [bvs_length, hl]
      exact h _ (setRow_heap _ _ _ _ _ _ hg) ((Only.refl g w).setRow _)
/-- the bits that mark n places from o on -/
def markP (o n : Nat) : UInt64 := UInt64.ofNat ((18446744073709551615 / 2 ^ (64 - n)) * 2 ^ o % 18446744073709551616)
theorem bit_mark {o n j : Nat} (hn : n ≤ 64) (hj : j < 64) : bitQ (markP o n) j = (decide (o ≤ j) && decide (j < o + n)) := by
  unfold bitQ markP
  rw [UInt64.toNat_ofNat', Nat.mod_mod_of_dvd _ (Nat.dvd_refl _), Nat.mul_comm]
  rw [show (18446744073709551616 : Nat) = 2 ^ 64 from rfl, show (18446744073709551615 : Nat) = 2 ^ 64 - 1 from rfl, Nat.testBit_mod_two_pow, Nat.testBit_two_pow_mul, Nat.testBit_div_two_pow, Nat.testBit_two_pow_sub_one]
  by_cases h : o ≤ j
  · have e : decide (j - o + (64 - n) < 64) = decide (j < o + n) := by rw [decide_eq_decide]; omega
    simp [hj, h, e]
  · simp [h]
set_option maxHeartbeats 1000000 in
attribute [local go_sem] u64_or' in
theorem pkeep_any {w : World} {g o n c B : Nat} {q : UInt64} {d l : List UInt8} {A : Option Addr} (hp : Pg w g q d) (hs : Sl w B A n l) (hn : 0 < n) (hat : o + n ≤ 64) :
    Calls Tryd.prog 34 #[.pointer (some ⟨g, 0, none⟩), .int .i64 (o : Int), .slice A n c] w fun e w' => e = .returned (.tuple #[]) ∧ Pg w' g (q ||| markP o n) (splice d o l) ∧ Only g w w' := by
  have hl := hs.len
  have hdl := hp.2
  have HP := Lib.hid hp
  have ho : o < 64 := by omega
  clear hp
  have hsl : ∀ u : World, (Instr.sliceAt 60 (.pointer (some ⟨g, 1, none⟩)) (some (.int .i64 (o : Int))) none none).run Tryd.prog u = .ok (.slice (some ⟨g, 1 + o, none⟩) (64 - o) (64 - o)) u := fun u => run_array_from u _ 5 64 Tryd.underlying60 size1 g 1 o ho
  go_enter Tryd.func34, Tryd.ntmps34
  have hfit : (1 + o) + n ≤ (Value.int .u64 (qn q) :: bvs d).length := by
    rw [List.length_cons, bvs_length, hdl]
    omega
  have HF := Lib.hid hfit
  clear hfit
  go_wp2_with ((with_reducible refine wpList_copy_rw rfl (.tmp 10) (.tmp 11) rfl g (1 + o) (64 - o) (64 - o) n c B A l (Value.int .u64 (qn q) :: bvs d) 62 ?hd ?hsv hs ?hg ?hm HF.out ?_); (case hd => with_unfolding_all rfl); (case hsv => with_unfolding_all rfl); (case hg => exact HP.out.1); (case hm => omega); intro w1 hw1 ho1)
  have hp1 : Pg w1 g q (splice d o l) := ⟨by
    have h := hw1.out
    rw [show 1 + o = o + 1 by omega, List.take_succ_cons, show o + 1 + n = (o + n) + 1 by omega, List.drop_succ_cons] at h
    show w1.heap[g]? = _
    rw [h, ← bvs_splice]
    simp [splice, hl, bvs_length], by unfold splice; simp; omega⟩
  have c0 := hp1.came
  have f0 := hp1.frozen 0
  have HP1 := Lib.hid hp1
  obtain ⟨k, hk⟩ : ∃ k, 64 - n = k := ⟨_, rfl⟩
  have w1k : IntKind.i64.wrap (64 - (n : Int)) = (k : Int) := by rw [IntKind.wrap_i64]; omega
  have hkb : (k : Int) < 64 := by omega
  obtain ⟨m, hm⟩ : ∃ m, 18446744073709551615 / 2 ^ k = m := ⟨_, rfl⟩
  have s2 : (18446744073709551615 : Int) / 2 ^ k = (m : Int) := by
    rw [← hm]
    simp
  have s1 : IntKind.u64.wrap ((m : Int) * 2 ^ o) = qn (markP o n) := by
    rw [wrap_u64m, ← hm, ← hk]
    unfold qn markP
    have e : (((18446744073709551615 / 2 ^ (64 - n) : Nat) : Int) * 2 ^ o : Int) = ((18446744073709551615 / 2 ^ (64 - n) * 2 ^ o : Nat) : Int) := by simp
    rw [UInt64.toNat_ofNat', e]
    omega
  have hob : (o : Int) < 64 := by omega
  clear hm hk
  clear hp1 hw1 HP
  go_wp2_with fail
  refine wp_tail 13 (by kernel_rfl) (by kernel_rfl) ?_
  simp only [List.take_succ_cons, List.take_zero, List.drop_succ_cons, List.drop_zero]
  repeat still_step
  refine wpStill_nil ?_
  go_wp2_with fail
  go_end0
  have hr : Rw (w1.drew.setCell ⟨g, 0, none⟩ (.int .u64 (qn (q ||| markP o n)))) g 62 _ := Rw.put (HP1.out.1 : Rw w1.drew g 62 _) 0 (.int .u64 (qn (q ||| markP o n)))
  exact ⟨rfl, ⟨hr, HP1.out.2⟩, (ho1.out.drew).setCell _ _⟩
end Go.Proofs.YtocolaccgoochaaDoor
