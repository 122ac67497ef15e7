/-
  The contract of Times.
-/
import Derived.Test.YtkeleehkjllgeaaGcmB
import Derived.Test.YtkeleehkjllgeaaForgetW
namespace Go.Proofs.Ytkeleehkjllgeaa
open Go.RowKit
set_option linter.unusedVariables false

theorem exec_load_blk {P : Program} {o : Oper} {a : Act} (u : World) (ty : TypeId) (x : Operand) (ho : o.op = .load ty x) (g : Nat) (hx : a.eval x = .pointer (some ⟨g, 0, none⟩)) (t : TypeId) (c : List UInt8) (hc : Blk u g t c) (n : Nat) (e : TypeId)
    (hu : P.underlying ty = some (.array n e)) (s : Nat) (hi : (P.info? ty).map (·.size) = some s) (hl : c.length = s) : (execOp a.eval o).run P u = .ok (.value (.agg (bvs c).toArray)) u :=
  exec_load_part u ty x ho g 0 hx c hc.range n e hu s hi hl
theorem exec_load_blq {P : Program} {o : Oper} {a : Act} (u : World) (ty : TypeId) (x : Operand) (ho : o.op = .load ty x) (g : Nat) (hx : a.eval x = .pointer (some ⟨g, 0, none⟩)) (t : TypeId) (c : List UInt64) (hc : Blq u g t c) (n : Nat) (e : TypeId)
    (hu : P.underlying ty = some (.array n e)) (s : Nat) (hi : (P.info? ty).map (·.size) = some s) (hl : c.length = s) : (execOp a.eval o).run P u = .ok (.value (.agg (qvs c).toArray)) u :=
  exec_load_mid u ty x ho g 0 hx (qvs c) _ hc.range hu rfl (by rw [hi, qvs_length, hl])

/-- the product of two blocks, in halves -/
theorem times_halves (x y : List UInt8) (hx : x.length = 16) (hy : y.length = 16) : pairB (tQ (hiQ x, loQ x) (hiQ y, loQ y) 128).1 (tQ (hiQ x, loQ x) (hiQ y, loQ y) 128).2 = timesG x y := by
  rw [timesQ_eq, pair_halves x hx, pair_halves y hy]

set_option maxHeartbeats 1000000 in
theorem gtimes_any (x y : List UInt8) (hx : x.length = 16) (hy : y.length = 16) (w : World) :
    Calls Try.prog 18 #[.agg (bvs x).toArray, .agg (bvs y).toArray] w fun e w' => e = .returned (.agg (bvs (timesG x y)).toArray) ∧ Below w.heap.size w w' := by
  have Hx := Lib.hid hx
  have Hy := Lib.hid hy
  have HT := Lib.hid (times_halves x y hx hy)
  have HL := Lib.hid (timesG_length x y hy)
  clear hx hy
  go_enter Try.func18, Try.ntmps18
  go_wp2_with fail
  refine wp_forget (fun w1 => Blk w1 w.heap.size 22 x ∧ Blk w1 (w.heap.size + 1) 22 y ∧ Blk w1 (w.heap.size + 1 + 1) 22 (List.replicate 16 0) ∧ Below w.heap.size w w1) ⟨heap_allocs w [_, _, _] 0 _ rfl, heap_allocs w [_, _, _] 1 _ rfl, heap_allocs w [_, _, _] 2 _ (by rw [← zeros_bvs]; rfl), (((Below.refl _ _).alloc (Nat.le_refl _) _).alloc (by simp) _).alloc (by simp; omega) _⟩ ?_
  intro w1 ⟨h1, h2, h3, h4⟩
  have X1 : Hid (Blk w1.drew w.heap.size 22 x) := h1.drew
  have Y1 : Hid (Blk w1.drew (w.heap.size + 1) 22 y) := h2.drew
  have R1 : Hid (Blk w1.drew (w.heap.size + 1 + 1) 22 (List.replicate 16 0)) := h3.drew
  have B1 : Hid (Below w.heap.size w w1.drew) := h4.drew
  clear h1 h2 h3 h4
  refine wp_held (S := fun u => Only (w.heap.size + 1 + 1) w1.drew u) (by kernel_rfl) ?_
  have hS : Only (w.heap.size + 1 + 1) w1.drew w1.drew := Only.refl _ _
  refine wpAnyH_pickG 0 (.agg (bvs x).toArray) rfl (by kernel_rfl) (by kernel_rfl) (by kernel_rfl) (by rfl) (fun _ _ _ h => h) (fun u hu => exec_load_blk u 22 (.tmp 2) rfl w.heap.size (by with_unfolding_all rfl) 22 x (X1.out.only hu (by omega)) 16 5 Try.underlying22 16 sizeRow Hx.out) hS ?_
  go_simp
  refine wpAnyH_pickG 2 (.agg (bvs y).toArray) rfl (by kernel_rfl) (by kernel_rfl) (by kernel_rfl) (by rfl) (fun _ _ _ h => h) (fun u hu => exec_load_blk u 22 (.tmp 3) rfl (w.heap.size + 1) (by with_unfolding_all rfl) 22 y (Y1.out.only hu (by omega)) 16 5 Try.underlying22 16 sizeRow Hy.out) hS ?_
  go_simp
  refine wpAnyH_oneG 1 (by kernel_rfl) rfl (by rfl) ?_
  go_wp2_with fail
  (with_reducible refine (halves_any x Hx.out _).mono ?_)
  rintro e2 w2 ⟨rfl, b2⟩
  refine ⟨Only.of_below b2, ?_⟩
  refine wpAnyH_oneG 3 (by kernel_rfl) rfl (by rfl) ?_
  go_wp2_with fail
  (with_reducible refine (halves_any y Hy.out _).mono ?_)
  rintro e3 w3 ⟨rfl, b3⟩
  have b3' := b2.trans (b3.mono b2.size)
  refine ⟨Only.of_below b3', ?_⟩
  refine wpAnyH_oneG 4 (by kernel_rfl) rfl (by rfl) ?_
  go_wp2_with fail
  (with_reducible refine (ptimes_any _ _ _ _ _).mono ?_)
  rintro e4 w4 ⟨rfl, b4⟩
  have b4' := b3'.trans (b4.mono b3'.size)
  refine ⟨Only.of_below b4', ?_⟩
  refine wpAnyH_oneG 5 (by kernel_rfl) rfl (by rfl) ?_
  go_wp2_with fail
  (with_reducible refine (pbytes_any _ _ _).mono ?_)
  rintro e5 w5 ⟨rfl, b5⟩
  have b5' := b4'.trans (b5.mono b4'.size)
  refine ⟨Only.of_below b5', ?_⟩
  rw [HT.out]
  refine wpAnyH_oneG 6 (by kernel_rfl) rfl (by rfl) ?_
  refine wp_store_blk 22 (.tmp 4) (.tmp 10) rfl (w.heap.size + 1 + 1) (timesG x y) (by with_unfolding_all rfl) (by with_unfolding_all rfl) 22 (List.replicate 16 0) (R1.out.below b5') 16 sizeRow HL.out rfl ?_
  intro w6 H6 O6
  refine ⟨(Only.of_below b5').trans O6.out, ?_⟩
  refine wpAnyH_done (by kernel_rfl) ?_ _
  go_wp2_with fail
  refine ret_blk Try.results18 (w.heap.size + 1 + 1) 22 _ 16 5 rfl H6.out Try.underlying22 16 sizeRow HL.out rfl ⟨rfl, ?_⟩
  exact (B1.out.trans (b5'.mono B1.out.size)).trans (O6.out.below (by have := B1.out.size; have := b5'.size; omega) (by omega))
end Go.Proofs.Ytkeleehkjllgeaa
