/-
  A frame with nothing but what its kind has: frame.own. (A way a kind, written out by a small program.)
-/
import Derived.Test.YtcipmfhacloegaaFrA
namespace Go.Proofs.Ytcipmfhacloegaa
open Go.RowKit
set_option linter.unusedVariables false

/-- a frame with nothing but what its kind has -/
def ownF (f : Fr) : Fr :=
  if f.kind = 0 ∨ f.kind = 16 ∨ f.kind = 25 ∨ f.kind = 28 then { Fr.of f.kind with n := f.n }
  else if f.kind = 2 then { Fr.of 2 with delay := f.delay, rs := f.rs }
  else if f.kind = 8 then { Fr.of 8 with id := f.id, fin := f.fin, off := f.off, data := f.data }
  else if f.kind = 6 then { Fr.of 6 with off := f.off, data := f.data }
  else if f.kind = 24 then { Fr.of 24 with n := f.n, cid := f.cid, tok := f.tok }
  else if f.kind = 26 ∨ f.kind = 27 then { Fr.of f.kind with data := f.data }
  else Fr.of f.kind
def ownP (k : Int) (p : Fp) : Fp :=
  if k = 2 then { Fp.nil with ra := p.ra, rn := p.rn, rc := p.rc }
  else if k = 8 ∨ k = 6 ∨ k = 26 ∨ k = 27 then { Fp.nil with da := p.da, dn := p.dn, dc := p.dc }
  else if k = 24 then { Fp.nil with ca := p.ca, cn := p.cn, cc := p.cc, ta := p.ta, tn := p.tn, tc := p.tc }
  else Fp.nil
theorem nilL (w : World) (B : Nat) (k : Int) : FrL w B (Fr.of k) Fp.nil := ⟨SlR.nil, Sl.nil, Sl.nil, Sl.nil, ⟨Nat.le_refl _, by simp [Fp.nil, maxLen]⟩, ⟨Nat.le_refl _, by simp [Fp.nil, maxLen]⟩, ⟨Nat.le_refl _, by simp [Fp.nil, maxLen]⟩, ⟨Nat.le_refl _, by simp [Fp.nil, maxLen]⟩⟩
theorem ownL {w : World} {B : Nat} {f : Fr} {p : Fp} (h : FrL w B f p) : FrL w B (ownF f) (ownP f.kind p) := by
  have z := nilL w B f.kind
  unfold ownF ownP
  by_cases h1 : f.kind = 0 ∨ f.kind = 16 ∨ f.kind = 25 ∨ f.kind = 28
  · rw [if_pos h1, if_neg (by omega), if_neg (by omega), if_neg (by omega)]
    exact ⟨z.r, z.d, z.c, z.t, z.rb, z.db, z.cb, z.tb⟩
  · rw [if_neg h1]
    by_cases h2 : f.kind = 2
    · rw [if_pos h2, if_pos h2]
      exact ⟨h.r, z.d, z.c, z.t, h.rb, z.db, z.cb, z.tb⟩
    · rw [if_neg h2, if_neg h2]
      by_cases h8 : f.kind = 8
      · rw [if_pos h8, if_pos (by omega)]
        exact ⟨z.r, h.d, z.c, z.t, z.rb, h.db, z.cb, z.tb⟩
      · rw [if_neg h8]
        by_cases h6 : f.kind = 6
        · rw [if_pos h6, if_pos (by omega)]
          exact ⟨z.r, h.d, z.c, z.t, z.rb, h.db, z.cb, z.tb⟩
        · rw [if_neg h6]
          by_cases h24 : f.kind = 24
          · rw [if_pos h24, if_neg (by omega), if_pos h24]
            exact ⟨z.r, z.d, h.c, h.t, z.rb, z.db, h.cb, h.tb⟩
          · rw [if_neg h24]
            by_cases h26 : f.kind = 26 ∨ f.kind = 27
            · rw [if_pos h26, if_pos (by omega)]
              exact ⟨z.r, h.d, z.c, z.t, z.rb, h.db, z.cb, z.tb⟩
            · rw [if_neg h26, if_neg (by omega), if_neg h24]
              exact z
set_option maxHeartbeats 4000000 in
theorem own_any (f : Fr) (p : Fp) (w : World) :
    Calls Try.prog 35 #[.agg (frV f p).toArray] w fun e w' => e = .returned (.agg (frV (ownF f) (ownP f.kind p)).toArray) ∧ Below w.heap.size w w' := by
  obtain ⟨k, n, d, rs, id, of, fi, da, ci, tk⟩ := f
  obtain ⟨ra, rn, rc, dA, dn, dc, ca, cn, cc, ta, tn, tc⟩ := p
  have hways : k = 0 ∨ k = 2 ∨ k = 6 ∨ k = 8 ∨ k = 16 ∨ k = 24 ∨ k = 25 ∨ k = 26 ∨ k = 27 ∨ k = 28 ∨ (k ≠ 0 ∧ k ≠ 2 ∧ k ≠ 6 ∧ k ≠ 8 ∧ k ≠ 16 ∧ k ≠ 24 ∧ k ≠ 25 ∧ k ≠ 26 ∧ k ≠ 27 ∧ k ≠ 28) := by omega
  have B0 : Hid (∀ o1 o2 o3, Below w.heap.size w (((w.alloc o1).alloc o2).alloc o3)) := fun _ _ _ => (((Below.refl _ _).alloc (Nat.le_refl _) _).alloc (by simp) _).alloc (by simp; omega) _
  rcases hways with rfl | rfl | rfl | rfl | rfl | rfl | rfl | rfl | rfl | rfl | ⟨h0, h2, h6, h8, h16, h24, h25, h26, h27, h28⟩
  · have e : frV (ownF ⟨0, n, d, rs, id, of, fi, da, ci, tk⟩) (ownP 0 ⟨ra, rn, rc, dA, dn, dc, ca, cn, cc, ta, tn, tc⟩) = [.int .i64 0, .int .u64 (n : Int), .int .u64 0, .slice none 0 0, .int .u64 0, .int .u64 0, .bool false, .slice none 0 0, .slice none 0 0, .slice none 0 0] := by simp [ownF, ownP, frV, Fp.nil, Fr.of]
    simp only
    rw [e]
    clear e
    unfold frV
    go_enter Try.func35, Try.ntmps35
    go_wp2
    refine ret_rw rfl (w.heap.size + 1) 26 [.int .i64 0, .int .u64 (n : Int), .int .u64 0, .slice none 0 0, .int .u64 0, .int .u64 0, .bool false, .slice none 0 0, .slice none 0 0, .slice none 0 0] _ rfl ?_ Try.underlying26 rfl fr_size rfl ?_
    · exact heap_allocs w [_, _, _] 1 _ rfl
    · exact ⟨rfl, B0.out _ _ _⟩
  · have e : frV (ownF ⟨2, n, d, rs, id, of, fi, da, ci, tk⟩) (ownP 2 ⟨ra, rn, rc, dA, dn, dc, ca, cn, cc, ta, tn, tc⟩) = [.int .i64 2, .int .u64 0, .int .u64 (d : Int), .slice ra rn rc, .int .u64 0, .int .u64 0, .bool false, .slice none 0 0, .slice none 0 0, .slice none 0 0] := by simp [ownF, ownP, frV, Fp.nil, Fr.of]
    simp only
    rw [e]
    clear e
    unfold frV
    go_enter Try.func35, Try.ntmps35
    go_wp2_with fail
    go_region
    all_goals go_wp2_with fail
    all_goals (refine ret_rw rfl (w.heap.size + 1) 26 [.int .i64 2, .int .u64 0, .int .u64 (d : Int), .slice ra rn rc, .int .u64 0, .int .u64 0, .bool false, .slice none 0 0, .slice none 0 0, .slice none 0 0] _ rfl ?_ Try.underlying26 rfl fr_size rfl ?_)
    all_goals first | exact heap_allocs w [_, _, _] 1 _ rfl | exact ⟨rfl, B0.out _ _ _⟩ | exact ⟨rfl, (B0.out _ _ _).drew⟩ | exact ⟨rfl, (B0.out _ _ _).drew.drew⟩
  · have e : frV (ownF ⟨6, n, d, rs, id, of, fi, da, ci, tk⟩) (ownP 6 ⟨ra, rn, rc, dA, dn, dc, ca, cn, cc, ta, tn, tc⟩) = [.int .i64 6, .int .u64 0, .int .u64 0, .slice none 0 0, .int .u64 0, .int .u64 (of : Int), .bool false, .slice dA dn dc, .slice none 0 0, .slice none 0 0] := by simp [ownF, ownP, frV, Fp.nil, Fr.of]
    simp only
    rw [e]
    clear e
    unfold frV
    go_enter Try.func35, Try.ntmps35
    go_wp2_with fail
    go_region
    all_goals go_wp2_with fail
    all_goals (refine ret_rw rfl (w.heap.size + 1) 26 [.int .i64 6, .int .u64 0, .int .u64 0, .slice none 0 0, .int .u64 0, .int .u64 (of : Int), .bool false, .slice dA dn dc, .slice none 0 0, .slice none 0 0] _ rfl ?_ Try.underlying26 rfl fr_size rfl ?_)
    all_goals first | exact heap_allocs w [_, _, _] 1 _ rfl | exact ⟨rfl, B0.out _ _ _⟩ | exact ⟨rfl, (B0.out _ _ _).drew⟩ | exact ⟨rfl, (B0.out _ _ _).drew.drew⟩
  · have e : frV (ownF ⟨8, n, d, rs, id, of, fi, da, ci, tk⟩) (ownP 8 ⟨ra, rn, rc, dA, dn, dc, ca, cn, cc, ta, tn, tc⟩) = [.int .i64 8, .int .u64 0, .int .u64 0, .slice none 0 0, .int .u64 (id : Int), .int .u64 (of : Int), .bool fi, .slice dA dn dc, .slice none 0 0, .slice none 0 0] := by simp [ownF, ownP, frV, Fp.nil, Fr.of]
    simp only
    rw [e]
    clear e
    unfold frV
    go_enter Try.func35, Try.ntmps35
    go_wp2_with fail
    go_region
    go_wp2_with fail
    all_goals go_region
    all_goals go_wp2_with fail
    all_goals (refine ret_rw rfl (w.heap.size + 1) 26 [.int .i64 8, .int .u64 0, .int .u64 0, .slice none 0 0, .int .u64 (id : Int), .int .u64 (of : Int), .bool fi, .slice dA dn dc, .slice none 0 0, .slice none 0 0] _ rfl ?_ Try.underlying26 rfl fr_size rfl ?_)
    all_goals first | exact heap_allocs w [_, _, _] 1 _ rfl | exact ⟨rfl, B0.out _ _ _⟩ | exact ⟨rfl, (B0.out _ _ _).drew⟩ | exact ⟨rfl, (B0.out _ _ _).drew.drew⟩
  · have e : frV (ownF ⟨16, n, d, rs, id, of, fi, da, ci, tk⟩) (ownP 16 ⟨ra, rn, rc, dA, dn, dc, ca, cn, cc, ta, tn, tc⟩) = [.int .i64 16, .int .u64 (n : Int), .int .u64 0, .slice none 0 0, .int .u64 0, .int .u64 0, .bool false, .slice none 0 0, .slice none 0 0, .slice none 0 0] := by simp [ownF, ownP, frV, Fp.nil, Fr.of]
    simp only
    rw [e]
    clear e
    unfold frV
    go_enter Try.func35, Try.ntmps35
    go_wp2
    refine ret_rw rfl (w.heap.size + 1) 26 [.int .i64 16, .int .u64 (n : Int), .int .u64 0, .slice none 0 0, .int .u64 0, .int .u64 0, .bool false, .slice none 0 0, .slice none 0 0, .slice none 0 0] _ rfl ?_ Try.underlying26 rfl fr_size rfl ?_
    · exact heap_allocs w [_, _, _] 1 _ rfl
    · exact ⟨rfl, B0.out _ _ _⟩
  · have e : frV (ownF ⟨24, n, d, rs, id, of, fi, da, ci, tk⟩) (ownP 24 ⟨ra, rn, rc, dA, dn, dc, ca, cn, cc, ta, tn, tc⟩) = [.int .i64 24, .int .u64 (n : Int), .int .u64 0, .slice none 0 0, .int .u64 0, .int .u64 0, .bool false, .slice none 0 0, .slice ca cn cc, .slice ta tn tc] := by simp [ownF, ownP, frV, Fp.nil, Fr.of]
    simp only
    rw [e]
    clear e
    unfold frV
    go_enter Try.func35, Try.ntmps35
    go_wp2_with fail
    go_region
    all_goals go_wp2_with fail
    all_goals (refine ret_rw rfl (w.heap.size + 1) 26 [.int .i64 24, .int .u64 (n : Int), .int .u64 0, .slice none 0 0, .int .u64 0, .int .u64 0, .bool false, .slice none 0 0, .slice ca cn cc, .slice ta tn tc] _ rfl ?_ Try.underlying26 rfl fr_size rfl ?_)
    all_goals first | exact heap_allocs w [_, _, _] 1 _ rfl | exact ⟨rfl, B0.out _ _ _⟩ | exact ⟨rfl, (B0.out _ _ _).drew⟩ | exact ⟨rfl, (B0.out _ _ _).drew.drew⟩
  · have e : frV (ownF ⟨25, n, d, rs, id, of, fi, da, ci, tk⟩) (ownP 25 ⟨ra, rn, rc, dA, dn, dc, ca, cn, cc, ta, tn, tc⟩) = [.int .i64 25, .int .u64 (n : Int), .int .u64 0, .slice none 0 0, .int .u64 0, .int .u64 0, .bool false, .slice none 0 0, .slice none 0 0, .slice none 0 0] := by simp [ownF, ownP, frV, Fp.nil, Fr.of]
    simp only
    rw [e]
    clear e
    unfold frV
    go_enter Try.func35, Try.ntmps35
    go_wp2
    refine ret_rw rfl (w.heap.size + 1) 26 [.int .i64 25, .int .u64 (n : Int), .int .u64 0, .slice none 0 0, .int .u64 0, .int .u64 0, .bool false, .slice none 0 0, .slice none 0 0, .slice none 0 0] _ rfl ?_ Try.underlying26 rfl fr_size rfl ?_
    · exact heap_allocs w [_, _, _] 1 _ rfl
    · exact ⟨rfl, B0.out _ _ _⟩
  · have e : frV (ownF ⟨26, n, d, rs, id, of, fi, da, ci, tk⟩) (ownP 26 ⟨ra, rn, rc, dA, dn, dc, ca, cn, cc, ta, tn, tc⟩) = [.int .i64 26, .int .u64 0, .int .u64 0, .slice none 0 0, .int .u64 0, .int .u64 0, .bool false, .slice dA dn dc, .slice none 0 0, .slice none 0 0] := by simp [ownF, ownP, frV, Fp.nil, Fr.of]
    simp only
    rw [e]
    clear e
    unfold frV
    go_enter Try.func35, Try.ntmps35
    go_wp2
    refine ret_rw rfl (w.heap.size + 1) 26 [.int .i64 26, .int .u64 0, .int .u64 0, .slice none 0 0, .int .u64 0, .int .u64 0, .bool false, .slice dA dn dc, .slice none 0 0, .slice none 0 0] _ rfl ?_ Try.underlying26 rfl fr_size rfl ?_
    · exact heap_allocs w [_, _, _] 1 _ rfl
    · exact ⟨rfl, B0.out _ _ _⟩
  · have e : frV (ownF ⟨27, n, d, rs, id, of, fi, da, ci, tk⟩) (ownP 27 ⟨ra, rn, rc, dA, dn, dc, ca, cn, cc, ta, tn, tc⟩) = [.int .i64 27, .int .u64 0, .int .u64 0, .slice none 0 0, .int .u64 0, .int .u64 0, .bool false, .slice dA dn dc, .slice none 0 0, .slice none 0 0] := by simp [ownF, ownP, frV, Fp.nil, Fr.of]
    simp only
    rw [e]
    clear e
    unfold frV
    go_enter Try.func35, Try.ntmps35
    go_wp2
    refine ret_rw rfl (w.heap.size + 1) 26 [.int .i64 27, .int .u64 0, .int .u64 0, .slice none 0 0, .int .u64 0, .int .u64 0, .bool false, .slice dA dn dc, .slice none 0 0, .slice none 0 0] _ rfl ?_ Try.underlying26 rfl fr_size rfl ?_
    · exact heap_allocs w [_, _, _] 1 _ rfl
    · exact ⟨rfl, B0.out _ _ _⟩
  · have e : frV (ownF ⟨28, n, d, rs, id, of, fi, da, ci, tk⟩) (ownP 28 ⟨ra, rn, rc, dA, dn, dc, ca, cn, cc, ta, tn, tc⟩) = [.int .i64 28, .int .u64 (n : Int), .int .u64 0, .slice none 0 0, .int .u64 0, .int .u64 0, .bool false, .slice none 0 0, .slice none 0 0, .slice none 0 0] := by simp [ownF, ownP, frV, Fp.nil, Fr.of]
    simp only
    rw [e]
    clear e
    unfold frV
    go_enter Try.func35, Try.ntmps35
    go_wp2
    refine ret_rw rfl (w.heap.size + 1) 26 [.int .i64 28, .int .u64 (n : Int), .int .u64 0, .slice none 0 0, .int .u64 0, .int .u64 0, .bool false, .slice none 0 0, .slice none 0 0, .slice none 0 0] _ rfl ?_ Try.underlying26 rfl fr_size rfl ?_
    · exact heap_allocs w [_, _, _] 1 _ rfl
    · exact ⟨rfl, B0.out _ _ _⟩
  · have t0 : (k == 0) = false := by simp; omega
    have t2 : (k == 2) = false := by simp; omega
    have t6 : (k == 6) = false := by simp; omega
    have t8 : (k == 8) = false := by simp; omega
    have t16 : (k == 16) = false := by simp; omega
    have t24 : (k == 24) = false := by simp; omega
    have t25 : (k == 25) = false := by simp; omega
    have t26 : (k == 26) = false := by simp; omega
    have t27 : (k == 27) = false := by simp; omega
    have t28 : (k == 28) = false := by simp; omega
    have e : frV (ownF ⟨k, n, d, rs, id, of, fi, da, ci, tk⟩) (ownP k ⟨ra, rn, rc, dA, dn, dc, ca, cn, cc, ta, tn, tc⟩) = [.int .i64 k, .int .u64 0, .int .u64 0, .slice none 0 0, .int .u64 0, .int .u64 0, .bool false, .slice none 0 0, .slice none 0 0, .slice none 0 0] := by simp [ownF, ownP, frV, Fp.nil, Fr.of, *]
    clear h0 h2 h6 h8 h16 h24 h25 h26 h27 h28
    simp only
    rw [e]
    clear e
    unfold frV
    go_enter Try.func35, Try.ntmps35
    go_wp2
    refine ret_rw rfl (w.heap.size + 1) 26 [.int .i64 k, .int .u64 0, .int .u64 0, .slice none 0 0, .int .u64 0, .int .u64 0, .bool false, .slice none 0 0, .slice none 0 0, .slice none 0 0] _ rfl ?_ Try.underlying26 rfl fr_size rfl ?_
    · exact heap_allocs w [_, _, _] 1 _ rfl
    · exact ⟨rfl, B0.out _ _ _⟩
end Go.Proofs.Ytcipmfhacloegaa
