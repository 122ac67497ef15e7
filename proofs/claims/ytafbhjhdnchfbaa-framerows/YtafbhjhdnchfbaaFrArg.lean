/-
  A frame that came in; whether a frame is more than is gone through (GreatFrame).
-/
import Derived.Test.YtafbhjhdnchfbaaFrA
import Derived.Test.YtafbhjhdnchfbaaArgs
import Derived.Test.YtafbhjhdnchfbaaInts
import Derived.Lib.SmallJoins
import Derived.Deep.SlicePairs
namespace Go.Proofs.Ytafbhjhdnchfbaa
open Go.RowKit Go.ChangeShapes Go.WideShapes Go.ChangeAt
set_option linter.unusedVariables false

section
variable {H : Type} {enc : TypeId × Value → H} {W : World} {n : Nat} {v : Value} {y : DataW H × List MemPlace}
theorem in_bool (h : DataW.trod enc Try.prog W 0 (fun _ => true) true n 4 [v] = some y) : ∃ b, v = .bool b := by
  obtain ⟨b, e, _⟩ := DataW.trod_bool Try.underlying4 h
  exact ⟨b, by simpa using e⟩
theorem in_int (h : DataW.trod enc Try.prog W 0 (fun _ => true) true n 3 [v] = some y) : ∃ z, v = .int .i64 z := by
  obtain ⟨b, e, _⟩ := DataW.trod_int Try.underlying3 h
  exact ⟨b, by simpa using e⟩
theorem in_u64 (h : DataW.trod enc Try.prog W 0 (fun _ => true) true n 22 [v] = some y) : ∃ z : Nat, v = .int .u64 (z : Int) ∧ z < 18446744073709551616 := by
  obtain ⟨b, e, _, hw⟩ := DataW.trod_int Try.underlying22 h
  obtain ⟨z, rfl, hz⟩ := nat_of_u64 hw
  exact ⟨z, by simpa using e, hz⟩
theorem in_bytes (h : DataW.trod enc Try.prog W 0 (fun _ => true) true n 24 [v] = some y) : ∃ A len cap l, v = .slice A len cap ∧ Sl W W.heap.size A len l ∧ len ≤ cap ∧ cap ≤ maxLen := by
  rcases open_ints Try.underlying24 Try.underlying5 (by kernel_rfl) h with ⟨hcs, _⟩ | ⟨x, l, c, zs, hcs, _, hl, hm, hz, _, hcell, hwz⟩
  · obtain ⟨l', h1, h2, h3⟩ := sl_of_row (w := W) (zs := []) (.inl ⟨rfl, rfl, rfl, rfl⟩)
    exact ⟨none, 0, 0, l', by simpa using hcs, h1, h2, h3⟩
  · obtain ⟨l', h1, h2, h3⟩ := sl_of_row (w := W) (zs := zs) (.inr ⟨x, rfl, hl, hm, by simpa using hz, hcell, hwz⟩)
    exact ⟨some x, l, c, l', by simpa using hcs, h1, h2, h3⟩
theorem list10 {α : Type} {l : List α} (h : l.length = 10) : ∃ a b c d e f g h i j, l = [a, b, c, d, e, f, g, h, i, j] := by
  match l, h with
  | [a, b, c, d, e, f, g, h, i, j], _ => exact ⟨a, b, c, d, e, f, g, h, i, j, rfl⟩
theorem cells_b : Try.prog.cellsOf 4 = 1 := by kernel_rfl
theorem cells_i : Try.prog.cellsOf 3 = 1 := by kernel_rfl
theorem cells_u : Try.prog.cellsOf 22 = 1 := by kernel_rfl
theorem cells_s : Try.prog.cellsOf 24 = 1 := by kernel_rfl
theorem cells_fr : Try.prog.cellsOf 26 = 10 := by kernel_rfl
theorem cells_rg : Try.prog.cellsOf 44 = 2 := by kernel_rfl
theorem cells_rs : Try.prog.cellsOf 23 = 1 := by kernel_rfl
theorem in_kind (h : DataW.trod enc Try.prog W 0 (fun _ => true) true n 3 [v] = some y) : ∃ z : Int, v = .int .i64 z ∧ -9223372036854775808 ≤ z ∧ z < 9223372036854775808 := by
  obtain ⟨b, e, _, hw⟩ := DataW.trod_int Try.underlying3 h
  refine ⟨b, by simpa using e, ?_⟩
  have hw' : IntKind.i64.min ≤ b ∧ b ≤ 9223372036854775807 := by simpa [Lit.wf] using hw
  have e : IntKind.i64.min = -9223372036854775808 := by decide
  rw [e] at hw'
  omega
theorem in_ranges (h : DataW.trod enc Try.prog W 0 (fun _ => true) true n 23 [v] = some y) : ∃ A len cap l, v = .slice A len cap ∧ SlR W W.heap.size A len l ∧ len ≤ cap ∧ cap ≤ maxLen ∧ ∀ x ∈ l, x.1 < 18446744073709551616 ∧ x.2 < 18446744073709551616 := by
  rcases Go.Deep.open_slice_pairs Try.underlying23 Try.underlying44 cells_rg rfl rfl cells_u cells_u h with ⟨hcs, _⟩ | ⟨a, len, cap, m, k, V0, V1, D0, D1, P0, P1, hcs, _, hl, hm, hmm, _, hx⟩
  · exact ⟨none, 0, 0, [], by simpa using hcs, SlR.nil, Nat.le_refl _, by simp [maxLen], fun x hx => by cases hx⟩
  · have hlm : len ≤ m := by rw [hmm]; split <;> omega
    have each : ∀ i, i < len → ∃ q : Nat × Nat, V0 i = .int .u64 (q.1 : Int) ∧ V1 i = .int .u64 (q.2 : Int) ∧ q.1 < 18446744073709551616 ∧ q.2 < 18446744073709551616 := fun i hi => by
      obtain ⟨_, _, h3, h4⟩ := hx i (by omega)
      obtain ⟨z0, e0, b0⟩ := in_u64 h3
      obtain ⟨z1, e1, b1⟩ := in_u64 h4
      exact ⟨(z0, z1), e0, e1, b0, b1⟩
    have hq : ∃ q : Nat → Nat × Nat, ∀ i, i < len → V0 i = .int .u64 ((q i).1 : Int) ∧ V1 i = .int .u64 ((q i).2 : Int) ∧ (q i).1 < 18446744073709551616 ∧ (q i).2 < 18446744073709551616 := by
      refine ⟨fun i => if hi : i < len then Classical.choose (each i hi) else (0, 0), fun i hi => ?_⟩
      simp only [hi, dif_pos]
      exact Classical.choose_spec (each i hi)
    obtain ⟨q, hq⟩ := hq
    refine ⟨some a, len, cap, (List.range len).map q, by simpa using hcs, ⟨by simp, fun h0 => ?_⟩, hl, hm, fun x hx' => ?_⟩
    · obtain ⟨b, off, spot⟩ := a
      have hc0 := (hx 0 (by omega)).1
      have hspot : spot = none := by simpa [Addr.add] using World.cell?_spot hc0
      subst hspot
      have hadd : ∀ j, (⟨b, off, none⟩ : Addr).add j = ⟨b, off + j, none⟩ := fun j => by unfold Addr.add; split <;> simp_all
      refine ⟨b, off, rfl, World.block_lt_of_cell? W _ (by rw [hadd] at hc0; exact hc0), fun j hj => ?_⟩
      simp only [List.length_map, List.length_range] at hj
      obtain ⟨c1, c2, _, _⟩ := hx j (by omega)
      obtain ⟨e0, e1, _, _⟩ := hq j hj
      rw [hadd] at c1 c2
      simp only [List.getElem_map, List.getElem_range]
      rw [← e0, ← e1, Nat.add_assoc]
      exact ⟨c1, c2⟩
    · obtain ⟨i, hi, rfl⟩ := List.mem_map.1 hx'
      have := hq i (List.mem_range.1 hi)
      exact ⟨this.2.2.1, this.2.2.2⟩
end
/-- a frame that came in -/
theorem open_frame {H : Type} {enc : TypeId × Value → H} {W : World} {b0 : Nat} {v : Value} {d : DataW H} {p : List MemPlace} (hval : Value.okWide Try.prog W .any b0 26 v) (h : DataW.Trod enc Try.prog W 0 (fun _ => true) true 26 v d p) :
    ∃ (f : Fr) (q : Fp), v = .agg (frV f q).toArray ∧ FrL W W.heap.size f q ∧ FrN f := by
  obtain ⟨⟨cs⟩, rfl, hsz⟩ := okWide_struct Try.underlying26 hval
  rw [cells_fr] at hsz
  obtain ⟨v0, v1, v2, v3, v4, v5, v6, v7, v8, v9, rfl⟩ := list10 (show cs.length = 10 from hsz)
  obtain ⟨fuel, hf⟩ := h
  obtain ⟨xs, n, _, _, _, hlen, hf⟩ := DataW.trod_struct Try.underlying26 hf
  obtain ⟨y0, y1, y2, y3, y4, y5, y6, y7, y8, y9, rfl⟩ := list10 (show xs.length = 10 from hlen)
  have h0 : DataW.trod enc Try.prog W 0 (fun _ => true) true n 3 [v0] = some y0 := by simpa [Value.cells, cells_i] using hf 0 _ rfl
  have h1 : DataW.trod enc Try.prog W 0 (fun _ => true) true n 22 [v1] = some y1 := by simpa [Value.cells, cells_u] using hf 1 _ rfl
  have h2 : DataW.trod enc Try.prog W 0 (fun _ => true) true n 22 [v2] = some y2 := by simpa [Value.cells, cells_u] using hf 2 _ rfl
  have h3 : DataW.trod enc Try.prog W 0 (fun _ => true) true n 23 [v3] = some y3 := by simpa [Value.cells, cells_rs] using hf 3 _ rfl
  have h4 : DataW.trod enc Try.prog W 0 (fun _ => true) true n 22 [v4] = some y4 := by simpa [Value.cells, cells_u] using hf 4 _ rfl
  have h5 : DataW.trod enc Try.prog W 0 (fun _ => true) true n 22 [v5] = some y5 := by simpa [Value.cells, cells_u] using hf 5 _ rfl
  have h6 : DataW.trod enc Try.prog W 0 (fun _ => true) true n 4 [v6] = some y6 := by simpa [Value.cells, cells_b] using hf 6 _ rfl
  have h7 : DataW.trod enc Try.prog W 0 (fun _ => true) true n 24 [v7] = some y7 := by simpa [Value.cells, cells_s] using hf 7 _ rfl
  have h8 : DataW.trod enc Try.prog W 0 (fun _ => true) true n 24 [v8] = some y8 := by simpa [Value.cells, cells_s] using hf 8 _ rfl
  have h9 : DataW.trod enc Try.prog W 0 (fun _ => true) true n 24 [v9] = some y9 := by simpa [Value.cells, cells_s] using hf 9 _ rfl
  obtain ⟨K, rfl, hK⟩ := in_kind h0
  obtain ⟨N, rfl, hN⟩ := in_u64 h1
  obtain ⟨D, rfl, hD⟩ := in_u64 h2
  obtain ⟨A0, n0, c0, l0, rfl, s0, r0, m0, b0⟩ := in_ranges h3
  obtain ⟨I, rfl, hI⟩ := in_u64 h4
  obtain ⟨O, rfl, hO⟩ := in_u64 h5
  obtain ⟨F, rfl⟩ := in_bool h6
  obtain ⟨A1, n1, c1, l1, rfl, s1, r1, m1⟩ := in_bytes h7
  obtain ⟨A2, n2, c2, l2, rfl, s2, r2, m2⟩ := in_bytes h8
  obtain ⟨A3, n3, c3, l3, rfl, s3, r3, m3⟩ := in_bytes h9
  exact ⟨⟨K, N, D, l0, I, O, F, l1, l2, l3⟩, ⟨A0, n0, c0, A1, n1, c1, A2, n2, c2, A3, n3, c3⟩, rfl, ⟨s0, s1, s2, s3, ⟨r0, m0⟩, ⟨r1, m1⟩, ⟨r2, m2⟩, ⟨r3, m3⟩⟩, ⟨hK, hN, hD, hI, hO, b0⟩⟩
/-- more than is gone through -/
def GreatP (f : Fr) : Prop := 12 < f.rs.length ∨ 300 < f.data.length ∨ 30 < f.cid.length ∨ 30 < f.tok.length ∨ f.kind = 0 ∧ 400 < f.n
set_option maxHeartbeats 4000000 in
theorem great_any (f : Fr) (p : Fp) (B : Nat) (w : World) (hf : FrL w B f p) (hn : FrN f) (b : Bool) (hb : b = true ↔ GreatP f) :
    Calls Try.prog 10 #[.agg (frV f p).toArray] w fun e w' => e = .returned (.bool b) ∧ Below w.heap.size w w' := by
  obtain ⟨k, n, d, rs, id, of, fi, da, ci, tk⟩ := f
  obtain ⟨ra, rn, rc, dA, dn, dc, ca, cn, cc, ta, tn, tc⟩ := p
  have lrn : rs.length = rn := hf.r.1
  have ldn : da.length = dn := hf.d.1
  have lcn : ci.length = cn := hf.c.1
  have ltn : tk.length = tn := hf.t.1
  have hrn : rn ≤ 9223372036854775807 := by have := hf.rb; simp only [maxLen] at this; omega
  have hdn : dn ≤ 9223372036854775807 := by have := hf.db; simp only [maxLen] at this; omega
  have hcn : cn ≤ 9223372036854775807 := by have := hf.cb; simp only [maxLen] at this; omega
  have htn : tn ≤ 9223372036854775807 := by have := hf.tb; simp only [maxLen] at this; omega
  have nn : n < 18446744073709551616 := hn.n
  simp only [GreatP] at hb
  rw [lrn, ldn, lcn, ltn] at hb
  have B0 : Hid (∀ o1, Below w.heap.size w (w.alloc o1)) := fun _ => (Below.refl _ _).alloc (Nat.le_refl _) _
  clear hf hn lrn ldn lcn ltn
  unfold frV
  by_cases h1 : 12 < rn
  · obtain rfl : b = true := hb.2 (.inl h1)
    have t1 : decide ((12 : Int) < (rn : Int)) = true := decide_eq_true (by omega)
    clear hb
    go_enter Try.func10, Try.ntmps10
    go_wp2
    go_ret
    exact ⟨rfl, B0.out _⟩
  have t1 : decide ((12 : Int) < (rn : Int)) = false := decide_eq_false (by omega)
  by_cases h2 : 300 < dn
  · obtain rfl : b = true := hb.2 (.inr (.inl h2))
    have t2 : decide ((300 : Int) < (dn : Int)) = true := decide_eq_true (by omega)
    clear hb
    go_enter Try.func10, Try.ntmps10
    go_wp2
    go_ret
    exact ⟨rfl, B0.out _⟩
  have t2 : decide ((300 : Int) < (dn : Int)) = false := decide_eq_false (by omega)
  by_cases h3 : 30 < cn
  · obtain rfl : b = true := hb.2 (.inr (.inr (.inl h3)))
    have t3 : decide ((30 : Int) < (cn : Int)) = true := decide_eq_true (by omega)
    clear hb
    go_enter Try.func10, Try.ntmps10
    go_wp2
    go_ret
    exact ⟨rfl, B0.out _⟩
  have t3 : decide ((30 : Int) < (cn : Int)) = false := decide_eq_false (by omega)
  by_cases h4 : 30 < tn
  · obtain rfl : b = true := hb.2 (.inr (.inr (.inr (.inl h4))))
    have t4 : decide ((30 : Int) < (tn : Int)) = true := decide_eq_true (by omega)
    clear hb
    go_enter Try.func10, Try.ntmps10
    go_wp2
    go_ret
    exact ⟨rfl, B0.out _⟩
  have t4 : decide ((30 : Int) < (tn : Int)) = false := decide_eq_false (by omega)
  by_cases h5 : k = 0
  · have t5 : (k == 0) = true := by simp; omega
    by_cases h6 : 400 < n
    · obtain rfl : b = true := hb.2 (.inr (.inr (.inr (.inr ⟨h5, h6⟩))))
      have t6 : decide ((400 : Int) < (n : Int)) = true := decide_eq_true (by omega)
      clear hb
      go_enter Try.func10, Try.ntmps10
      go_wp2
      go_ret
      exact ⟨rfl, B0.out _⟩
    · obtain rfl : b = false := by
        cases b with
        | false => rfl
        | true => have := hb.1 rfl; omega
      have t6 : decide ((400 : Int) < (n : Int)) = false := decide_eq_false (by omega)
      clear hb
      go_enter Try.func10, Try.ntmps10
      go_wp2
      go_ret
      exact ⟨rfl, B0.out _⟩
  · have t5 : (k == 0) = false := by simp; omega
    obtain rfl : b = false := by
      cases b with
      | false => rfl
      | true => have := hb.1 rfl; omega
    clear hb
    go_enter Try.func10, Try.ntmps10
    go_wp2
    go_ret
    exact ⟨rfl, B0.out _⟩
end Go.Proofs.Ytafbhjhdnchfbaa
