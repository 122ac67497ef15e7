/-
  The first byte of a frame, and what an Ack has: (*reading).kind, (*reading).ack. (The ways of the first are written out by a small program.)
-/
import Derived.Test.YtcipmfhacloegaaFrI
import Derived.Test.YtcipmfhacloegaaRgX
namespace Go.Proofs.Ytcipmfhacloegaa
open Go.RowKit
set_option linter.unusedVariables false

def kindOk (b : Nat) : Bool := b == 0 || b == 1 || b == 2 || b == 6 || b == 16 || b == 24 || b == 25 || b == 26 || b == 27 || b == 28 || b == 30 || b == 14 || b == 15
def kindF (b : Nat) : Fr := if b = 14 then Fr.of 8 else if b = 15 then { Fr.of 8 with fin := true } else if kindOk b = true then Fr.of (b : Int) else Fr.of 0
def kindP (s : List UInt8 × Nat) : Fr × (List UInt8 × Nat) := (kindF (wholeP s 1).1, if kindOk (wholeP s 1).1 = true then (wholeP s 1).2 else failP (wholeP s 1).2 6)
set_option maxHeartbeats 4000000 in
theorem kind_any (s : List UInt8 × Nat) (B g : Nat) (w : World) (h : PtW w B g s) :
    Calls Try.prog 41 #[.pointer (some ⟨g, 0, none⟩)] w fun e w' => e = .returned (.agg (frV (kindP s).1 Fp.nil).toArray) ∧ PtW w' B g (kindP s).2 ∧ Only g w w' := by
  have HW := Lib.hid (fun u hp => whole_any s 1 1 rfl (by omega) B g u hp)
  have H := Lib.hid (fun o => h.below ((Below.refl _ w).alloc (Nat.le_refl _) o))
  have HGW : Hid (g < w.heap.size) := h.lt
  have HBG : Hid (B ≤ g) := by obtain ⟨_, _, _, _, _, _, _, _, h3⟩ := h; exact h3
  have hx := wholeP_lt s 1
  rw [Nat.pow_one] at hx
  unfold kindP
  generalize wholeP s 1 = r at *
  obtain ⟨b, s1⟩ := r
  simp only at hx HW ⊢
  clear h
  have HSZ : Hid ((Try.prog.info? 26).map (·.size) = some (frV (kindF b) Fp.nil).length) := fr_size
  have HONE := Lib.hid (frV_one (kindF b) Fp.nil)
  have HL0 : Hid (fr0.length = (frV (kindF b) Fp.nil).length) := rfl
  obtain ⟨cs, hcs⟩ : ∃ cs, frV (kindF b) Fp.nil = cs := ⟨_, rfl⟩
  have hways : b = 0 ∨ b = 1 ∨ b = 2 ∨ b = 6 ∨ b = 16 ∨ b = 24 ∨ b = 25 ∨ b = 26 ∨ b = 27 ∨ b = 28 ∨ b = 30 ∨ b = 14 ∨ b = 15 ∨ (b ≠ 0 ∧ b ≠ 1 ∧ b ≠ 2 ∧ b ≠ 6 ∧ b ≠ 16 ∧ b ≠ 24 ∧ b ≠ 25 ∧ b ≠ 26 ∧ b ≠ 27 ∧ b ≠ 28 ∧ b ≠ 30 ∧ b ≠ 14 ∧ b ≠ 15) := by omega
  rw [hcs] at HSZ HONE HL0 ⊢
  rcases hways with rfl | rfl | rfl | rfl | rfl | rfl | rfl | rfl | rfl | rfl | rfl | rfl | rfl | ⟨h0, h1, h2, h6, h16, h24, h25, h26, h27, h28, h30, h14, h15⟩
  · have HCS : Hid (cs = [.int .i64 0, .int .u64 0, .int .u64 0, .slice none 0 0, .int .u64 0, .int .u64 0, .bool false, .slice none 0 0, .slice none 0 0, .slice none 0 0]) := show _ = _ by rw [← hcs]; rfl
    rw [if_pos (by decide)]
    clear hcs
    go_enter Try.func41, Try.ntmps41
    go_wp2_with fail
    (with_reducible refine (HW.out _ (H.out _)).mono ?_)
    rintro e1 w1 ⟨rfl, hp1, ho1⟩
    have R0 : Hid (Rw w1 w.heap.size 26 fr0) := (show Rw _ _ _ _ from heap_alloc_new w _).only ho1 (by have := HGW.out; omega)
    have HO1 : Hid (Only g w w1) := (Only.of_below ((Below.refl _ w).alloc (Nat.le_refl _) _)).trans ho1
    have HP1 := Lib.hid hp1
    clear hp1 ho1
    go_wp2_with ((with_reducible refine wpList_store_rw rfl 26 (.tmp 2) (.tmp 23) rfl w.heap.size cs ?hx ?hy 26 fr0 R0.out HSZ.out HL0.out HONE.out ?_); (case hx => with_unfolding_all rfl); (case hy => rw [HCS.out]; with_unfolding_all rfl); intro w3 R3 O3)
    refine ret_rw rfl w.heap.size 26 cs _ rfl R3.out Try.underlying26 rfl HSZ.out rfl ?_
    exact ⟨rfl, HP1.out.only O3.out (by have := HGW.out; omega) (by have := HGW.out; have := HBG.out; omega), HO1.out.new O3.out (Nat.le_refl _)⟩
  · have HCS : Hid (cs = [.int .i64 1, .int .u64 0, .int .u64 0, .slice none 0 0, .int .u64 0, .int .u64 0, .bool false, .slice none 0 0, .slice none 0 0, .slice none 0 0]) := show _ = _ by rw [← hcs]; rfl
    rw [if_pos (by decide)]
    clear hcs
    go_enter Try.func41, Try.ntmps41
    go_wp2_with fail
    (with_reducible refine (HW.out _ (H.out _)).mono ?_)
    rintro e1 w1 ⟨rfl, hp1, ho1⟩
    have R0 : Hid (Rw w1 w.heap.size 26 fr0) := (show Rw _ _ _ _ from heap_alloc_new w _).only ho1 (by have := HGW.out; omega)
    have HO1 : Hid (Only g w w1) := (Only.of_below ((Below.refl _ w).alloc (Nat.le_refl _) _)).trans ho1
    have HP1 := Lib.hid hp1
    clear hp1 ho1
    go_wp2_with ((with_reducible refine wpList_store_rw rfl 26 (.tmp 2) (.tmp 23) rfl w.heap.size cs ?hx ?hy 26 fr0 R0.out HSZ.out HL0.out HONE.out ?_); (case hx => with_unfolding_all rfl); (case hy => rw [HCS.out]; with_unfolding_all rfl); intro w3 R3 O3)
    refine ret_rw rfl w.heap.size 26 cs _ rfl R3.out Try.underlying26 rfl HSZ.out rfl ?_
    exact ⟨rfl, HP1.out.only O3.out (by have := HGW.out; omega) (by have := HGW.out; have := HBG.out; omega), HO1.out.new O3.out (Nat.le_refl _)⟩
  · have HCS : Hid (cs = [.int .i64 2, .int .u64 0, .int .u64 0, .slice none 0 0, .int .u64 0, .int .u64 0, .bool false, .slice none 0 0, .slice none 0 0, .slice none 0 0]) := show _ = _ by rw [← hcs]; rfl
    rw [if_pos (by decide)]
    clear hcs
    go_enter Try.func41, Try.ntmps41
    go_wp2_with fail
    (with_reducible refine (HW.out _ (H.out _)).mono ?_)
    rintro e1 w1 ⟨rfl, hp1, ho1⟩
    have R0 : Hid (Rw w1 w.heap.size 26 fr0) := (show Rw _ _ _ _ from heap_alloc_new w _).only ho1 (by have := HGW.out; omega)
    have HO1 : Hid (Only g w w1) := (Only.of_below ((Below.refl _ w).alloc (Nat.le_refl _) _)).trans ho1
    have HP1 := Lib.hid hp1
    clear hp1 ho1
    go_wp2_with ((with_reducible refine wpList_store_rw rfl 26 (.tmp 2) (.tmp 23) rfl w.heap.size cs ?hx ?hy 26 fr0 R0.out HSZ.out HL0.out HONE.out ?_); (case hx => with_unfolding_all rfl); (case hy => rw [HCS.out]; with_unfolding_all rfl); intro w3 R3 O3)
    refine ret_rw rfl w.heap.size 26 cs _ rfl R3.out Try.underlying26 rfl HSZ.out rfl ?_
    exact ⟨rfl, HP1.out.only O3.out (by have := HGW.out; omega) (by have := HGW.out; have := HBG.out; omega), HO1.out.new O3.out (Nat.le_refl _)⟩
  · have HCS : Hid (cs = [.int .i64 6, .int .u64 0, .int .u64 0, .slice none 0 0, .int .u64 0, .int .u64 0, .bool false, .slice none 0 0, .slice none 0 0, .slice none 0 0]) := show _ = _ by rw [← hcs]; rfl
    rw [if_pos (by decide)]
    clear hcs
    go_enter Try.func41, Try.ntmps41
    go_wp2_with fail
    (with_reducible refine (HW.out _ (H.out _)).mono ?_)
    rintro e1 w1 ⟨rfl, hp1, ho1⟩
    have R0 : Hid (Rw w1 w.heap.size 26 fr0) := (show Rw _ _ _ _ from heap_alloc_new w _).only ho1 (by have := HGW.out; omega)
    have HO1 : Hid (Only g w w1) := (Only.of_below ((Below.refl _ w).alloc (Nat.le_refl _) _)).trans ho1
    have HP1 := Lib.hid hp1
    clear hp1 ho1
    go_wp2_with ((with_reducible refine wpList_store_rw rfl 26 (.tmp 2) (.tmp 23) rfl w.heap.size cs ?hx ?hy 26 fr0 R0.out HSZ.out HL0.out HONE.out ?_); (case hx => with_unfolding_all rfl); (case hy => rw [HCS.out]; with_unfolding_all rfl); intro w3 R3 O3)
    refine ret_rw rfl w.heap.size 26 cs _ rfl R3.out Try.underlying26 rfl HSZ.out rfl ?_
    exact ⟨rfl, HP1.out.only O3.out (by have := HGW.out; omega) (by have := HGW.out; have := HBG.out; omega), HO1.out.new O3.out (Nat.le_refl _)⟩
  · have HCS : Hid (cs = [.int .i64 16, .int .u64 0, .int .u64 0, .slice none 0 0, .int .u64 0, .int .u64 0, .bool false, .slice none 0 0, .slice none 0 0, .slice none 0 0]) := show _ = _ by rw [← hcs]; rfl
    rw [if_pos (by decide)]
    clear hcs
    go_enter Try.func41, Try.ntmps41
    go_wp2_with fail
    (with_reducible refine (HW.out _ (H.out _)).mono ?_)
    rintro e1 w1 ⟨rfl, hp1, ho1⟩
    have R0 : Hid (Rw w1 w.heap.size 26 fr0) := (show Rw _ _ _ _ from heap_alloc_new w _).only ho1 (by have := HGW.out; omega)
    have HO1 : Hid (Only g w w1) := (Only.of_below ((Below.refl _ w).alloc (Nat.le_refl _) _)).trans ho1
    have HP1 := Lib.hid hp1
    clear hp1 ho1
    go_wp2_with ((with_reducible refine wpList_store_rw rfl 26 (.tmp 2) (.tmp 23) rfl w.heap.size cs ?hx ?hy 26 fr0 R0.out HSZ.out HL0.out HONE.out ?_); (case hx => with_unfolding_all rfl); (case hy => rw [HCS.out]; with_unfolding_all rfl); intro w3 R3 O3)
    refine ret_rw rfl w.heap.size 26 cs _ rfl R3.out Try.underlying26 rfl HSZ.out rfl ?_
    exact ⟨rfl, HP1.out.only O3.out (by have := HGW.out; omega) (by have := HGW.out; have := HBG.out; omega), HO1.out.new O3.out (Nat.le_refl _)⟩
  · have HCS : Hid (cs = [.int .i64 24, .int .u64 0, .int .u64 0, .slice none 0 0, .int .u64 0, .int .u64 0, .bool false, .slice none 0 0, .slice none 0 0, .slice none 0 0]) := show _ = _ by rw [← hcs]; rfl
    rw [if_pos (by decide)]
    clear hcs
    go_enter Try.func41, Try.ntmps41
    go_wp2_with fail
    (with_reducible refine (HW.out _ (H.out _)).mono ?_)
    rintro e1 w1 ⟨rfl, hp1, ho1⟩
    have R0 : Hid (Rw w1 w.heap.size 26 fr0) := (show Rw _ _ _ _ from heap_alloc_new w _).only ho1 (by have := HGW.out; omega)
    have HO1 : Hid (Only g w w1) := (Only.of_below ((Below.refl _ w).alloc (Nat.le_refl _) _)).trans ho1
    have HP1 := Lib.hid hp1
    clear hp1 ho1
    go_wp2_with ((with_reducible refine wpList_store_rw rfl 26 (.tmp 2) (.tmp 23) rfl w.heap.size cs ?hx ?hy 26 fr0 R0.out HSZ.out HL0.out HONE.out ?_); (case hx => with_unfolding_all rfl); (case hy => rw [HCS.out]; with_unfolding_all rfl); intro w3 R3 O3)
    refine ret_rw rfl w.heap.size 26 cs _ rfl R3.out Try.underlying26 rfl HSZ.out rfl ?_
    exact ⟨rfl, HP1.out.only O3.out (by have := HGW.out; omega) (by have := HGW.out; have := HBG.out; omega), HO1.out.new O3.out (Nat.le_refl _)⟩
  · have HCS : Hid (cs = [.int .i64 25, .int .u64 0, .int .u64 0, .slice none 0 0, .int .u64 0, .int .u64 0, .bool false, .slice none 0 0, .slice none 0 0, .slice none 0 0]) := show _ = _ by rw [← hcs]; rfl
    rw [if_pos (by decide)]
    clear hcs
    go_enter Try.func41, Try.ntmps41
    go_wp2_with fail
    (with_reducible refine (HW.out _ (H.out _)).mono ?_)
    rintro e1 w1 ⟨rfl, hp1, ho1⟩
    have R0 : Hid (Rw w1 w.heap.size 26 fr0) := (show Rw _ _ _ _ from heap_alloc_new w _).only ho1 (by have := HGW.out; omega)
    have HO1 : Hid (Only g w w1) := (Only.of_below ((Below.refl _ w).alloc (Nat.le_refl _) _)).trans ho1
    have HP1 := Lib.hid hp1
    clear hp1 ho1
    go_wp2_with ((with_reducible refine wpList_store_rw rfl 26 (.tmp 2) (.tmp 23) rfl w.heap.size cs ?hx ?hy 26 fr0 R0.out HSZ.out HL0.out HONE.out ?_); (case hx => with_unfolding_all rfl); (case hy => rw [HCS.out]; with_unfolding_all rfl); intro w3 R3 O3)
    refine ret_rw rfl w.heap.size 26 cs _ rfl R3.out Try.underlying26 rfl HSZ.out rfl ?_
    exact ⟨rfl, HP1.out.only O3.out (by have := HGW.out; omega) (by have := HGW.out; have := HBG.out; omega), HO1.out.new O3.out (Nat.le_refl _)⟩
  · have HCS : Hid (cs = [.int .i64 26, .int .u64 0, .int .u64 0, .slice none 0 0, .int .u64 0, .int .u64 0, .bool false, .slice none 0 0, .slice none 0 0, .slice none 0 0]) := show _ = _ by rw [← hcs]; rfl
    rw [if_pos (by decide)]
    clear hcs
    go_enter Try.func41, Try.ntmps41
    go_wp2_with fail
    (with_reducible refine (HW.out _ (H.out _)).mono ?_)
    rintro e1 w1 ⟨rfl, hp1, ho1⟩
    have R0 : Hid (Rw w1 w.heap.size 26 fr0) := (show Rw _ _ _ _ from heap_alloc_new w _).only ho1 (by have := HGW.out; omega)
    have HO1 : Hid (Only g w w1) := (Only.of_below ((Below.refl _ w).alloc (Nat.le_refl _) _)).trans ho1
    have HP1 := Lib.hid hp1
    clear hp1 ho1
    go_wp2_with ((with_reducible refine wpList_store_rw rfl 26 (.tmp 2) (.tmp 23) rfl w.heap.size cs ?hx ?hy 26 fr0 R0.out HSZ.out HL0.out HONE.out ?_); (case hx => with_unfolding_all rfl); (case hy => rw [HCS.out]; with_unfolding_all rfl); intro w3 R3 O3)
    refine ret_rw rfl w.heap.size 26 cs _ rfl R3.out Try.underlying26 rfl HSZ.out rfl ?_
    exact ⟨rfl, HP1.out.only O3.out (by have := HGW.out; omega) (by have := HGW.out; have := HBG.out; omega), HO1.out.new O3.out (Nat.le_refl _)⟩
  · have HCS : Hid (cs = [.int .i64 27, .int .u64 0, .int .u64 0, .slice none 0 0, .int .u64 0, .int .u64 0, .bool false, .slice none 0 0, .slice none 0 0, .slice none 0 0]) := show _ = _ by rw [← hcs]; rfl
    rw [if_pos (by decide)]
    clear hcs
    go_enter Try.func41, Try.ntmps41
    go_wp2_with fail
    (with_reducible refine (HW.out _ (H.out _)).mono ?_)
    rintro e1 w1 ⟨rfl, hp1, ho1⟩
    have R0 : Hid (Rw w1 w.heap.size 26 fr0) := (show Rw _ _ _ _ from heap_alloc_new w _).only ho1 (by have := HGW.out; omega)
    have HO1 : Hid (Only g w w1) := (Only.of_below ((Below.refl _ w).alloc (Nat.le_refl _) _)).trans ho1
    have HP1 := Lib.hid hp1
    clear hp1 ho1
    go_wp2_with ((with_reducible refine wpList_store_rw rfl 26 (.tmp 2) (.tmp 23) rfl w.heap.size cs ?hx ?hy 26 fr0 R0.out HSZ.out HL0.out HONE.out ?_); (case hx => with_unfolding_all rfl); (case hy => rw [HCS.out]; with_unfolding_all rfl); intro w3 R3 O3)
    refine ret_rw rfl w.heap.size 26 cs _ rfl R3.out Try.underlying26 rfl HSZ.out rfl ?_
    exact ⟨rfl, HP1.out.only O3.out (by have := HGW.out; omega) (by have := HGW.out; have := HBG.out; omega), HO1.out.new O3.out (Nat.le_refl _)⟩
  · have HCS : Hid (cs = [.int .i64 28, .int .u64 0, .int .u64 0, .slice none 0 0, .int .u64 0, .int .u64 0, .bool false, .slice none 0 0, .slice none 0 0, .slice none 0 0]) := show _ = _ by rw [← hcs]; rfl
    rw [if_pos (by decide)]
    clear hcs
    go_enter Try.func41, Try.ntmps41
    go_wp2_with fail
    (with_reducible refine (HW.out _ (H.out _)).mono ?_)
    rintro e1 w1 ⟨rfl, hp1, ho1⟩
    have R0 : Hid (Rw w1 w.heap.size 26 fr0) := (show Rw _ _ _ _ from heap_alloc_new w _).only ho1 (by have := HGW.out; omega)
    have HO1 : Hid (Only g w w1) := (Only.of_below ((Below.refl _ w).alloc (Nat.le_refl _) _)).trans ho1
    have HP1 := Lib.hid hp1
    clear hp1 ho1
    go_wp2_with ((with_reducible refine wpList_store_rw rfl 26 (.tmp 2) (.tmp 23) rfl w.heap.size cs ?hx ?hy 26 fr0 R0.out HSZ.out HL0.out HONE.out ?_); (case hx => with_unfolding_all rfl); (case hy => rw [HCS.out]; with_unfolding_all rfl); intro w3 R3 O3)
    refine ret_rw rfl w.heap.size 26 cs _ rfl R3.out Try.underlying26 rfl HSZ.out rfl ?_
    exact ⟨rfl, HP1.out.only O3.out (by have := HGW.out; omega) (by have := HGW.out; have := HBG.out; omega), HO1.out.new O3.out (Nat.le_refl _)⟩
  · have HCS : Hid (cs = [.int .i64 30, .int .u64 0, .int .u64 0, .slice none 0 0, .int .u64 0, .int .u64 0, .bool false, .slice none 0 0, .slice none 0 0, .slice none 0 0]) := show _ = _ by rw [← hcs]; rfl
    rw [if_pos (by decide)]
    clear hcs
    go_enter Try.func41, Try.ntmps41
    go_wp2_with fail
    (with_reducible refine (HW.out _ (H.out _)).mono ?_)
    rintro e1 w1 ⟨rfl, hp1, ho1⟩
    have R0 : Hid (Rw w1 w.heap.size 26 fr0) := (show Rw _ _ _ _ from heap_alloc_new w _).only ho1 (by have := HGW.out; omega)
    have HO1 : Hid (Only g w w1) := (Only.of_below ((Below.refl _ w).alloc (Nat.le_refl _) _)).trans ho1
    have HP1 := Lib.hid hp1
    clear hp1 ho1
    go_wp2_with ((with_reducible refine wpList_store_rw rfl 26 (.tmp 2) (.tmp 23) rfl w.heap.size cs ?hx ?hy 26 fr0 R0.out HSZ.out HL0.out HONE.out ?_); (case hx => with_unfolding_all rfl); (case hy => rw [HCS.out]; with_unfolding_all rfl); intro w3 R3 O3)
    refine ret_rw rfl w.heap.size 26 cs _ rfl R3.out Try.underlying26 rfl HSZ.out rfl ?_
    exact ⟨rfl, HP1.out.only O3.out (by have := HGW.out; omega) (by have := HGW.out; have := HBG.out; omega), HO1.out.new O3.out (Nat.le_refl _)⟩
  · have HCS : Hid (cs = [.int .i64 8, .int .u64 0, .int .u64 0, .slice none 0 0, .int .u64 0, .int .u64 0, .bool false, .slice none 0 0, .slice none 0 0, .slice none 0 0]) := show _ = _ by rw [← hcs]; rfl
    rw [if_pos (by decide)]
    clear hcs
    go_enter Try.func41, Try.ntmps41
    go_wp2_with fail
    (with_reducible refine (HW.out _ (H.out _)).mono ?_)
    rintro e1 w1 ⟨rfl, hp1, ho1⟩
    have R0 : Hid (Rw w1 w.heap.size 26 fr0) := (show Rw _ _ _ _ from heap_alloc_new w _).only ho1 (by have := HGW.out; omega)
    have HO1 : Hid (Only g w w1) := (Only.of_below ((Below.refl _ w).alloc (Nat.le_refl _) _)).trans ho1
    have HP1 := Lib.hid hp1
    clear hp1 ho1
    go_wp2_with ((with_reducible refine wpList_store_rw rfl 26 (.tmp 2) (.tmp 29) rfl w.heap.size cs ?hx ?hy 26 fr0 R0.out HSZ.out HL0.out HONE.out ?_); (case hx => with_unfolding_all rfl); (case hy => rw [HCS.out]; with_unfolding_all rfl); intro w3 R3 O3)
    refine ret_rw rfl w.heap.size 26 cs _ rfl R3.out Try.underlying26 rfl HSZ.out rfl ?_
    exact ⟨rfl, HP1.out.only O3.out (by have := HGW.out; omega) (by have := HGW.out; have := HBG.out; omega), HO1.out.new O3.out (Nat.le_refl _)⟩
  · have HCS : Hid (cs = [.int .i64 8, .int .u64 0, .int .u64 0, .slice none 0 0, .int .u64 0, .int .u64 0, .bool true, .slice none 0 0, .slice none 0 0, .slice none 0 0]) := show _ = _ by rw [← hcs]; rfl
    rw [if_pos (by decide)]
    clear hcs
    go_enter Try.func41, Try.ntmps41
    go_wp2_with fail
    (with_reducible refine (HW.out _ (H.out _)).mono ?_)
    rintro e1 w1 ⟨rfl, hp1, ho1⟩
    have R0 : Hid (Rw w1 w.heap.size 26 fr0) := (show Rw _ _ _ _ from heap_alloc_new w _).only ho1 (by have := HGW.out; omega)
    have HO1 : Hid (Only g w w1) := (Only.of_below ((Below.refl _ w).alloc (Nat.le_refl _) _)).trans ho1
    have HP1 := Lib.hid hp1
    clear hp1 ho1
    go_wp2_with ((with_reducible refine wpList_store_rw rfl 26 (.tmp 2) (.tmp 29) rfl w.heap.size cs ?hx ?hy 26 fr0 R0.out HSZ.out HL0.out HONE.out ?_); (case hx => with_unfolding_all rfl); (case hy => rw [HCS.out]; with_unfolding_all rfl); intro w3 R3 O3)
    refine ret_rw rfl w.heap.size 26 cs _ rfl R3.out Try.underlying26 rfl HSZ.out rfl ?_
    exact ⟨rfl, HP1.out.only O3.out (by have := HGW.out; omega) (by have := HGW.out; have := HBG.out; omega), HO1.out.new O3.out (Nat.le_refl _)⟩
  · have t0 : ((b : Int) == 0) = false := by simp; omega
    have t1 : ((b : Int) == 1) = false := by simp; omega
    have t2 : ((b : Int) == 2) = false := by simp; omega
    have t6 : ((b : Int) == 6) = false := by simp; omega
    have t16 : ((b : Int) == 16) = false := by simp; omega
    have t24 : ((b : Int) == 24) = false := by simp; omega
    have t25 : ((b : Int) == 25) = false := by simp; omega
    have t26 : ((b : Int) == 26) = false := by simp; omega
    have t27 : ((b : Int) == 27) = false := by simp; omega
    have t28 : ((b : Int) == 28) = false := by simp; omega
    have t30 : ((b : Int) == 30) = false := by simp; omega
    have t14 : ((b : Int) == 14) = false := by simp; omega
    have t15 : ((b : Int) == 15) = false := by simp; omega
    have ko : kindOk b = false := by simp [kindOk, *]
    have HCS : Hid (cs = [.int .i64 0, .int .u64 0, .int .u64 0, .slice none 0 0, .int .u64 0, .int .u64 0, .bool false, .slice none 0 0, .slice none 0 0, .slice none 0 0]) := show _ = _ by rw [← hcs]; simp [kindF, ko, h14, h15, frV, Fp.nil, Fr.of]
    rw [if_neg (by rw [ko]; simp)]
    clear hcs ko h0 h1 h2 h6 h16 h24 h25 h26 h27 h28 h30 h14 h15
    go_enter Try.func41, Try.ntmps41
    go_wp2_with fail
    (with_reducible refine (HW.out _ (H.out _)).mono ?_)
    rintro e1 w1 ⟨rfl, hp1, ho1⟩
    have R0 : Hid (Rw w1 w.heap.size 26 fr0) := (show Rw _ _ _ _ from heap_alloc_new w _).only ho1 (by have := HGW.out; omega)
    have HO1 : Hid (Only g w w1) := (Only.of_below ((Below.refl _ w).alloc (Nat.le_refl _) _)).trans ho1
    have HP1 := Lib.hid hp1
    clear hp1 ho1
    have HF := Lib.hid (fail_any s1 6 6 rfl B g w1 HP1.out)
    go_wp2_with fail
    (with_reducible refine HF.out.mono ?_)
    rintro e2 w2 ⟨rfl, hp2, ho2⟩
    have R2 := Lib.hid (R0.out.only ho2 (by have := HGW.out; omega))
    have HO2 := Lib.hid (HO1.out.trans ho2)
    have HP2 := Lib.hid hp2
    clear hp2 ho2
    go_wp2_with ((with_reducible refine wpList_store_rw rfl 26 (.tmp 2) (.tmp 34) rfl w.heap.size cs ?hx ?hy 26 fr0 R2.out HSZ.out HL0.out HONE.out ?_); (case hx => with_unfolding_all rfl); (case hy => rw [HCS.out]; with_unfolding_all rfl); intro w3 R3 O3)
    refine ret_rw rfl w.heap.size 26 cs _ rfl R3.out Try.underlying26 rfl HSZ.out rfl ?_
    exact ⟨rfl, HP2.out.only O3.out (by have := HGW.out; omega) (by have := HGW.out; have := HBG.out; omega), HO2.out.new O3.out (Nat.le_refl _)⟩

/-- so many ranges more -/
def loopP : Nat → Nat → (List UInt8 × Nat) → List (Nat × Nat) → List (Nat × Nat) × (List UInt8 × Nat)
  | 0, _, s, acc => (acc, s)
  | k + 1, lo, s, acc => loopP k (belowP (belowP s lo 2).2 (belowP s lo 2).1 0).1 (belowP (belowP s lo 2).2 (belowP s lo 2).1 0).2 (acc ++ [((belowP (belowP s lo 2).2 (belowP s lo 2).1 0).1, (belowP s lo 2).1)])
def ackP (s : List UInt8 × Nat) : (Nat × List (Nat × Nat)) × (List UInt8 × Nat) :=
  if 8 ≤ (varintP (varintP (varintP s).2).2).1 then ((0, []), failP (varintP (varintP (varintP s).2).2).2 5)
  else (((varintP (varintP s).2).1, (loopP (varintP (varintP (varintP s).2).2).1 (belowP (varintP (varintP (varintP s).2).2).2 (varintP s).1 0).1 (belowP (varintP (varintP (varintP s).2).2).2 (varintP s).1 0).2 [((belowP (varintP (varintP (varintP s).2).2).2 (varintP s).1 0).1, (varintP s).1)]).1),
    (loopP (varintP (varintP (varintP s).2).2).1 (belowP (varintP (varintP (varintP s).2).2).2 (varintP s).1 0).1 (belowP (varintP (varintP (varintP s).2).2).2 (varintP s).1 0).2 [((belowP (varintP (varintP (varintP s).2).2).2 (varintP s).1 0).1, (varintP s).1)]).2)
end Go.Proofs.Ytcipmfhacloegaa
