/-
  The document's Get, whatever the bytes. (Written by program: a way a kind, one ending.)
-/
import Derived.Test.YtafbhjhdnchfbaaFrRa
import Derived.Test.YtafbhjhdnchfbaaFrRc
import Derived.Test.YtafbhjhdnchfbaaFrM
import Derived.Deep.CutRange
import Derived.Deep.CutBlock
import Derived.Lib.MinMax
namespace Go.Proofs.Ytafbhjhdnchfbaa
open Go.RowKit Go.Lib
set_option linter.unusedVariables false

theorem bytesS_len (b : List UInt8) (s : Nat × Nat) (k : Nat) (h : (bytesS b s k).2.2 = 0) : (bytesS b s k).1.length = k := by
  unfold bytesS at h ⊢
  split
  · rename_i h1
    rw [if_pos h1] at h
    exact absurd h h1
  · rename_i h1
    rw [if_neg h1] at h
    split
    · rename_i h2
      rw [if_pos h2] at h
      simp at h
    · rw [List.length_take, List.length_drop]
      omega
theorem Rw.range {w : World} {g : Nat} {t : TypeId} {vs : List Value} (h : Rw w g t vs) : w.rangeAt g 0 vs := fun j v hj => by
  rw [Nat.zero_add]
  exact h.cell j v hj
theorem range_only {w w' : World} {g g' : Nat} {vs : List Value} (h : w.rangeAt g 0 vs) (ho : Only g' w w') (hne : g ≠ g') (hlt : g < w.heap.size) : w'.rangeAt g 0 vs := fun j v hj => by
  rw [World.cell?_of_block (ho.block g hlt hne)]
  exact h j v hj
theorem zeros_ge (b : List UInt8) (j : Nat) (h : ∀ t, t < j → b.getD t 1 = 0) (hj : j ≤ b.length) : j ≤ zerosN b := by
  induction b generalizing j with
  | nil => simp at hj; omega
  | cons y r ih =>
    cases j with
    | zero => omega
    | succ j =>
      have h0 := h 0 (by omega)
      have hy : y = 0 := by simpa using h0
      unfold zerosN
      rw [if_pos hy]
      have := ih j (fun t ht => by have := h (t + 1) (by omega); simpa using this) (by simpa using hj)
      omega
theorem zeros_at (b : List UInt8) (j : Nat) (h : ∀ t, t < j → b.getD t 1 = 0) (he : b.length ≤ j ∨ b.getD j 1 ≠ 0) (hj : j ≤ b.length) : zerosN b = j := by
  induction b generalizing j with
  | nil => simp at hj; subst hj; rfl
  | cons y r ih =>
    cases j with
    | zero =>
      have h1 : y ≠ 0 := by
        rcases he with h1 | h1
        · simp at h1
        · simpa using h1
      unfold zerosN
      rw [if_neg h1]
    | succ j =>
      have hy : y = 0 := by simpa using h 0 (by omega)
      unfold zerosN
      rw [if_pos hy, ih j (fun t ht => by have := h (t + 1) (by omega); simpa using this) (by rcases he with h1 | h1; exact .inl (by simpa using h1); exact .inr (by simpa using h1)) (by simpa using hj)]
/-- where the document's reading of one frame stands behind its kind's part -/
structure RdE (wz w : World) (g0 : Nat) (b : List UInt8) (F : Fr) (s : Nat × Nat) : Prop where
  t : tellY b.length (getX b) = endS F s
  r : RdW w g0 (g0 + 1 + 1) b s
  b : Below (g0 + 1) wz w
  f : s.2 = 0 → ∃ pl, Rw w (g0 + 1) 26 (frV F pl) ∧ FrO w (g0 + 1 + 1 + 1) F pl
theorem RdE.of {wz w : World} {g0 : Nat} {b : List UInt8} {F : Fr} {pl : Fp} {s : Nat × Nat} (k : RdF wz w g0 (g0 + 1) (g0 + 1 + 1) (g0 + 1) b s (frV F pl)) (o : FrO w (g0 + 1 + 1 + 1) F pl) (t : s.1 ≤ b.length → tellY b.length (getX b) = endS F s) : RdE wz w g0 b F s :=
  ⟨t k.r.le, k.r, k.b, fun _ => ⟨pl, k.f, o⟩⟩
theorem slice1_at {w : World} {B m c : Nat} {A : Option Addr} {d : List UInt8} (h : Own w B (.slice A m c) m d) (h1 : d.length = 1) : ∃ gA y, A = some ⟨gA, 0, none⟩ ∧ m = 1 ∧ d = [y] ∧ w.cell? ⟨gA, 0, none⟩ = some (.int .u8 (y.toNat : Int)) := by
  have hm : m = 1 := by have := h.len; omega
  subst hm
  obtain ⟨gA, rfl, _, _⟩ := h.at_ (by omega)
  match d, h1 with
  | [y], _ => exact ⟨gA, y, rfl, rfl, rfl, h.cell 0 (by simp)⟩

set_option maxHeartbeats 16000000 in
set_option maxRecDepth 8000 in
theorem rget_cons (b r : List UInt8) (x : UInt8) (A : Option Addr) (n c B : Nat) (w : World) (hb : b = x :: r) (hs : Sl w B A n b) (hB : B ≤ w.heap.size) (hnc : n ≤ c) (hcm : c ≤ maxLen) :
    Calls Try.prog 23 #[.slice A n c] w (GetsF w (tellY b.length (getX b))) := by
  have hl := hs.1
  have hn0 : 0 < n := by rw [← hl, hb]; simp
  have HS := Lib.hid (hs.more hB)
  have HCM : Hid (n ≤ c ∧ c ≤ maxLen) := ⟨hnc, hcm⟩
  obtain ⟨ab, off, rfl, hab, hcell⟩ := hs.2 hn0
  have hc0 := hcell 0 (by omega)
  have hx0 : b[0]'(by omega) = x := by subst hb; rfl
  rw [hx0, Nat.add_zero] at hc0
  obtain ⟨X, hX⟩ : ∃ X, x.toNat = X := ⟨_, rfl⟩
  have hX256 : X < 256 := by rw [← hX]; exact x.toNat_lt
  replace hc0 : w.cell? ⟨ab, off, none⟩ = some (.int .u8 (X : Int)) := by rw [hc0, ← hX]; rfl
  have hAll : ∀ u, Below w.heap.size w u → u.cell? ⟨ab, off, none⟩ = some (.int .u8 (X : Int)) := fun u hu => (hu.cell (p := ⟨ab, off, none⟩) (by simp only; omega)).trans hc0
  have hcA : ∀ o, (w.alloc o).cell? ⟨ab, off, none⟩ = some (.int .u8 (X : Int)) := fun o => hAll _ ((Below.refl _ _).alloc (Nat.le_refl _) o)
  have hcB : ∀ o o', ((w.alloc o).alloc o').cell? ⟨ab, off, none⟩ = some (.int .u8 (X : Int)) := fun o o' => hAll _ (((Below.refl _ _).alloc (Nat.le_refl _) o).alloc (by simp) o')
  have hcC : ∀ o o' o'', (((w.alloc o).alloc o').alloc o'').cell? ⟨ab, off, none⟩ = some (.int .u8 (X : Int)) := fun o o' o'' => hAll _ ((((Below.refl _ _).alloc (Nat.le_refl _) o).alloc (by simp) o').alloc (by simp; omega) o'')
  have hnn : ((n : Int) == 0) = false := by simp; omega
  have hn0' : (0 : Int) < (n : Int) := by omega
  have HX := Lib.hid hX
  have HALL := Lib.hid hAll
  have HXX : Hid (w.heap.size + 1 ≤ w.heap.size + 1 + 1 ∧ w.heap.size + 1 + 1 ≠ w.heap.size + 1) := ⟨by omega, by omega⟩
  have HN := Lib.hid (fun s K most hK hm u hu => rnum_any b s K most hK hm w.heap.size (w.heap.size + 1 + 1) u hu)
  have HBY := Lib.hid (fun s K most hK hm u hu => rbytes_any b s K most hK hm w.heap.size (w.heap.size + 1 + 1) u hu)
  have hfr : frV (Fr.of (X : Int)) Fp.nil = [.int .i64 (X : Int), .int .u64 0, .int .u64 0, .slice none 0 0, .int .u64 0, .int .u64 0, .bool false, .slice none 0 0, .slice none 0 0, .slice none 0 0] := rfl
  have HBE := Lib.hid hb
  have HAB : Hid (ab < w.heap.size) := Nat.lt_of_lt_of_le hab hB
  clear hcell hx0 hX hAll hb
  go_enter Try.func23, Try.ntmps23
  go_upto_block 0 with fail
  obtain ⟨wz, hwz⟩ : ∃ wz, ((w.alloc (.cells #[.int .i64 0, .int .u64 0, .int .u64 0, .slice none 0 0, .int .u64 0, .int .u64 0, .bool false, .slice none 0 0, .slice none 0 0, .slice none 0 0] 26)).alloc (.cells #[.int .i64 (X : Int), .int .u64 0, .int .u64 0, .slice none 0 0, .int .u64 0, .int .u64 0, .bool false, .slice none 0 0, .slice none 0 0, .slice none 0 0] 26)).alloc (.cells #[.slice (some ⟨ab, off, none⟩) n c, .int .i64 1, .int .i64 0] 74) = wz := ⟨_, rfl⟩
  rw [hwz]
  have HBZ : Hid (Below w.heap.size w wz) := by rw [← hwz]; exact ((((Below.refl _ _).alloc (Nat.le_refl _) _).alloc (by simp) _).alloc (by simp; omega) _)
  have HWZ : Hid (w.heap.size + 1 + 1 + 1 ≤ wz.heap.size) := by rw [← hwz]; simp [Hid]
  have HZR : Hid (Rw wz w.heap.size 26 fr0) := by rw [← hwz]; exact heap_allocs w [_, _, _] 0 _ rfl
  have K0 : Hid (RdF wz wz w.heap.size (w.heap.size + 1) (w.heap.size + 1 + 1) (w.heap.size + 1) b (1, 0) (frV (Fr.of (X : Int)) Fp.nil)) :=
    ⟨⟨_, _, n, c, by rw [← hwz]; exact heap_allocs w [_, _, _] 2 _ rfl, HS.out.below HBZ.out, HCM.out.1, HCM.out.2, by omega, by simp only; omega⟩, by rw [← hwz]; exact heap_allocs w [_, _, _] 1 _ rfl, Below.refl _ _⟩
  have HCZ : Hid (wz.cell? ⟨ab, off, none⟩ = some (.int .u8 (X : Int))) := HALL.out wz HBZ.out
  clear hwz hc0 hcA hcB hcC
  go_cut [7, 8, 9] from 26 to 147 (fun _ _ _ wx => ∃ (F : Fr) (s : Nat × Nat), RdE wz wx w.heap.size b F s)
  case first =>
    have hway : X = 0 ∨ X = 1 ∨ X = 30 ∨ X = 2 ∨ X = 6 ∨ X = 14 ∨ X = 15 ∨ X = 16 ∨ X = 25 ∨ X = 28 ∨ X = 24 ∨ X = 26 ∨ X = 27 ∨ (X ≠ 0 ∧ ¬ (X = 1 ∨ X = 30) ∧ X ≠ 2 ∧ X ≠ 6 ∧ ¬ (X = 14 ∨ X = 15) ∧ ¬ (X = 16 ∨ X = 25) ∧ X ≠ 28 ∧ X ≠ 24 ∧ ¬ (X = 26 ∨ X = 27)) := by omega
    clear hnn hn0' hX256 hfr
    rcases hway with hx | hx | hx | hx | hx | hx | hx | hx | hx | hx | hx | hx | hx | ⟨hx0, hx⟩
    · -- zeros
      have q_0 : ((X : Int) == 0) = true := by simp; omega
      have q_1 : ((X : Int) == 1) = false := by simp; omega
      have q_30 : ((X : Int) == 30) = false := by simp; omega
      have q_2 : ((X : Int) == 2) = false := by simp; omega
      have q_14 : ((X : Int) == 14) = false := by simp; omega
      have q_15 : ((X : Int) == 15) = false := by simp; omega
      have q_6 : ((X : Int) == 6) = false := by simp; omega
      have q_16 : ((X : Int) == 16) = false := by simp; omega
      have q_25 : ((X : Int) == 25) = false := by simp; omega
      have q_28 : ((X : Int) == 28) = false := by simp; omega
      have q_24 : ((X : Int) == 24) = false := by simp; omega
      have q_26 : ((X : Int) == 26) = false := by simp; omega
      have q_27 : ((X : Int) == 27) = false := by simp; omega
      have G := Lib.hid (g_zero HBE.out (by rw [HX.out]; exact hx))
      have HLN := Lib.hid hl
      have hn63 : n ≤ 9223372036854775807 := by have := HCM.out.2; have := HCM.out.1; unfold maxLen at *; omega
      clear hx
      obtain ⟨k, hk⟩ : ∃ k, min (zerosN b) 16384 = k := ⟨_, rfl⟩
      rw [hk] at G
      have HK := Lib.hid hk
      clear hk hl
      go_wp2_with fail
      go_loopw [7] (fun v wr => ∃ j : Nat, v = .int .i64 j ∧ wr = wz ∧ j ≤ n ∧ j ≤ 16384 ∧ Hid (∀ t, t < j → b.getD t 1 = 0)) (fun v _ => n - (intOf v).toNat)
      case atStart => exact ⟨0, rfl, rfl, Nat.zero_le _, Nat.zero_le _, fun t ht => absurd ht (Nat.not_lt_zero _)⟩
      case round =>
        obtain ⟨j, rfl, rfl, hjn, hj4, HZ0⟩ := hrel
        have hway : (j < n ∧ j < 16384 ∧ b.getD j 1 = 0) ∨ ((j = n ∨ j = 16384 ∨ (j < n ∧ j < 16384 ∧ b.getD j 1 ≠ 0)) ∧ j = k) := by
          by_cases h1 : j < n
          · by_cases h2 : j < 16384
            · by_cases h3 : b.getD j 1 = 0
              · exact .inl ⟨h1, h2, h3⟩
              · exact .inr ⟨.inr (.inr ⟨h1, h2, h3⟩), by rw [← HK.out, zeros_at b j HZ0.out (.inr h3) (by rw [HLN.out]; omega)]; omega⟩
            · exact .inr ⟨.inr (.inl (by omega)), by rw [← HK.out]; have := zeros_ge b j HZ0.out (by rw [HLN.out]; omega); omega⟩
          · exact .inr ⟨.inl (by omega), by rw [← HK.out, zeros_at b j HZ0.out (.inl (by rw [HLN.out]; omega)) (by rw [HLN.out]; omega)]; omega⟩
        have HCB : Hid (∀ t, t < n → ∃ y : UInt8, b.getD t 1 = y ∧ wr.cell? ⟨ab, off + t, none⟩ = some (.int .u8 (y.toNat : Int))) := fun t ht => by
          obtain ⟨b1, o1, e, _, hcl⟩ := HS.out.2 (by omega)
          injection e with e
          injection e with e1 e2
          subst e1 e2
          have h1 := hcl t (by rw [HLN.out]; exact ht)
          refine ⟨_, rfl, ?_⟩
          rw [List.getD_eq_getElem?_getD, List.getElem?_eq_getElem (by rw [HLN.out]; exact ht)]
          exact (HBZ.out.cell (p := ⟨ab, off + t, none⟩) (by have := HAB.out; exact this)).trans h1
        rcases hway with ⟨h1, h2, h3⟩ | ⟨hway, hjk⟩
        · obtain ⟨y, e, hcy⟩ := HCB.out j h1
          rw [h3] at e
          subst e
          have cy : wr.cell? ⟨ab, off + j, none⟩ = some (.int .u8 0) := hcy
          have z1 : (j : Int) < (n : Int) := by omega
          have z2 : (j : Int) < 16384 := by omega
          have H3 := Lib.hid h3
          clear hcy h3
          go_wp2_with fail
          go_roundw
          case rel => exact ⟨j + 1, by go_num, by first | rfl | trivial, by omega, by omega, fun t ht => by
            by_cases e : t = j
            · subst e; exact H3.out
            · exact HZ0.out t (by omega)⟩
          case measure => simp [intOf]; omega
        · have HJK := Lib.hid hjk
          clear hjk
          rcases hway with h1 | h1 | ⟨h1, h2, h3⟩
          · have HE := Lib.hid h1
            have z1 : ¬ (j : Int) < (n : Int) := by omega
            clear h1
            have HSZ1 : Hid ((Try.prog.info? 26).map (·.size) = some (frV { Fr.of 0 with n := j } Fp.nil).length) := fr_size
            have wj : IntKind.u64.wrap (j : Int) = (j : Int) := by rw [wrap_u64N]; omega
            go_wp2_with ((with_reducible refine wpList_store_rw rfl 26 (.tmp 2) (.tmp 48) rfl w.heap.size (frV { Fr.of 0 with n := j } Fp.nil) ?hx ?hy 26 fr0 HZR.out HSZ1.out rfl (frV_one _ _) ?_); (case hx => with_unfolding_all rfl); (case hy => with_unfolding_all rfl); intro w98 R98 O98)
            refine ret_rw2 rfl w.heap.size 26 (frV { Fr.of 0 with n := j } Fp.nil) _ rfl R98.out Try.underlying26 rfl fr_size rfl ?_
            rw [G.out, ← HJK.out]
            exact ⟨Fp.nil, rfl, ⟨OwnR.nil _ _, Own.nil _ _, Own.nil _ _, Own.nil _ _⟩, HBZ.out.trans (O98.out.below HBZ.out.size (Nat.le_refl _))⟩
          · have HE := Lib.hid h1
            have z2 : ¬ (j : Int) < 16384 := by omega
            by_cases z1 : (j : Int) < (n : Int)
            · clear h1
              have HSZ1 : Hid ((Try.prog.info? 26).map (·.size) = some (frV { Fr.of 0 with n := j } Fp.nil).length) := fr_size
              have wj : IntKind.u64.wrap (j : Int) = (j : Int) := by rw [wrap_u64N]; omega
              go_wp2_with ((with_reducible refine wpList_store_rw rfl 26 (.tmp 2) (.tmp 48) rfl w.heap.size (frV { Fr.of 0 with n := j } Fp.nil) ?hx ?hy 26 fr0 HZR.out HSZ1.out rfl (frV_one _ _) ?_); (case hx => with_unfolding_all rfl); (case hy => with_unfolding_all rfl); intro w98 R98 O98)
              refine ret_rw2 rfl w.heap.size 26 (frV { Fr.of 0 with n := j } Fp.nil) _ rfl R98.out Try.underlying26 rfl fr_size rfl ?_
              rw [G.out, ← HJK.out]
              exact ⟨Fp.nil, rfl, ⟨OwnR.nil _ _, Own.nil _ _, Own.nil _ _, Own.nil _ _⟩, HBZ.out.trans (O98.out.below HBZ.out.size (Nat.le_refl _))⟩
            · clear h1
              have HSZ1 : Hid ((Try.prog.info? 26).map (·.size) = some (frV { Fr.of 0 with n := j } Fp.nil).length) := fr_size
              have wj : IntKind.u64.wrap (j : Int) = (j : Int) := by rw [wrap_u64N]; omega
              go_wp2_with ((with_reducible refine wpList_store_rw rfl 26 (.tmp 2) (.tmp 48) rfl w.heap.size (frV { Fr.of 0 with n := j } Fp.nil) ?hx ?hy 26 fr0 HZR.out HSZ1.out rfl (frV_one _ _) ?_); (case hx => with_unfolding_all rfl); (case hy => with_unfolding_all rfl); intro w98 R98 O98)
              refine ret_rw2 rfl w.heap.size 26 (frV { Fr.of 0 with n := j } Fp.nil) _ rfl R98.out Try.underlying26 rfl fr_size rfl ?_
              rw [G.out, ← HJK.out]
              exact ⟨Fp.nil, rfl, ⟨OwnR.nil _ _, Own.nil _ _, Own.nil _ _, Own.nil _ _⟩, HBZ.out.trans (O98.out.below HBZ.out.size (Nat.le_refl _))⟩
          · obtain ⟨y, e, hcy⟩ := HCB.out j h1
            rw [e] at h3
            have z1 : (j : Int) < (n : Int) := by omega
            have z2 : (j : Int) < 16384 := by omega
            have z3 : ((y.toNat : Int) == 0) = false := by
              simp
              intro hh
              exact h3 (UInt8.toNat_inj.1 (show y.toNat = 0 by omega))
            clear h3 e
            have HSZ1 : Hid ((Try.prog.info? 26).map (·.size) = some (frV { Fr.of 0 with n := j } Fp.nil).length) := fr_size
            have wj : IntKind.u64.wrap (j : Int) = (j : Int) := by rw [wrap_u64N]; omega
            go_wp2_with ((with_reducible refine wpList_store_rw rfl 26 (.tmp 2) (.tmp 48) rfl w.heap.size (frV { Fr.of 0 with n := j } Fp.nil) ?hx ?hy 26 fr0 HZR.out HSZ1.out rfl (frV_one _ _) ?_); (case hx => with_unfolding_all rfl); (case hy => with_unfolding_all rfl); intro w98 R98 O98)
            refine ret_rw2 rfl w.heap.size 26 (frV { Fr.of 0 with n := j } Fp.nil) _ rfl R98.out Try.underlying26 rfl fr_size rfl ?_
            rw [G.out, ← HJK.out]
            exact ⟨Fp.nil, rfl, ⟨OwnR.nil _ _, Own.nil _ _, Own.nil _ _, Own.nil _ _⟩, HBZ.out.trans (O98.out.below HBZ.out.size (Nat.le_refl _))⟩
    · -- kind 1
      have q_0 : ((X : Int) == 0) = false := by simp; omega
      have q_1 : ((X : Int) == 1) = true := by simp; omega
      have q_30 : ((X : Int) == 30) = false := by simp; omega
      have q_2 : ((X : Int) == 2) = false := by simp; omega
      have q_14 : ((X : Int) == 14) = false := by simp; omega
      have q_15 : ((X : Int) == 15) = false := by simp; omega
      have q_6 : ((X : Int) == 6) = false := by simp; omega
      have q_16 : ((X : Int) == 16) = false := by simp; omega
      have q_25 : ((X : Int) == 25) = false := by simp; omega
      have q_28 : ((X : Int) == 28) = false := by simp; omega
      have q_24 : ((X : Int) == 24) = false := by simp; omega
      have q_26 : ((X : Int) == 26) = false := by simp; omega
      have q_27 : ((X : Int) == 27) = false := by simp; omega
      have G := Lib.hid (fun (_ : 1 ≤ b.length) => g_bare HBE.out (by rw [HX.out]; omega))
      rw [HX.out] at G
      clear hx
      go_wp2_with fail
      go_meet
      exact ⟨Fr.of (X : Int), (1, 0), RdE.of (pl := Fp.nil) K0.out (FrO.nil _ _ _) G.out⟩
    · -- kind 30
      have q_0 : ((X : Int) == 0) = false := by simp; omega
      have q_1 : ((X : Int) == 1) = false := by simp; omega
      have q_30 : ((X : Int) == 30) = true := by simp; omega
      have q_2 : ((X : Int) == 2) = false := by simp; omega
      have q_14 : ((X : Int) == 14) = false := by simp; omega
      have q_15 : ((X : Int) == 15) = false := by simp; omega
      have q_6 : ((X : Int) == 6) = false := by simp; omega
      have q_16 : ((X : Int) == 16) = false := by simp; omega
      have q_25 : ((X : Int) == 25) = false := by simp; omega
      have q_28 : ((X : Int) == 28) = false := by simp; omega
      have q_24 : ((X : Int) == 24) = false := by simp; omega
      have q_26 : ((X : Int) == 26) = false := by simp; omega
      have q_27 : ((X : Int) == 27) = false := by simp; omega
      have G := Lib.hid (fun (_ : 1 ≤ b.length) => g_bare HBE.out (by rw [HX.out]; omega))
      rw [HX.out] at G
      clear hx
      go_wp2_with fail
      go_meet
      exact ⟨Fr.of (X : Int), (1, 0), RdE.of (pl := Fp.nil) K0.out (FrO.nil _ _ _) G.out⟩
    · -- kind 2
      have q_0 : ((X : Int) == 0) = false := by simp; omega
      have q_1 : ((X : Int) == 1) = false := by simp; omega
      have q_30 : ((X : Int) == 30) = false := by simp; omega
      have q_2 : ((X : Int) == 2) = true := by simp; omega
      have q_14 : ((X : Int) == 14) = false := by simp; omega
      have q_15 : ((X : Int) == 15) = false := by simp; omega
      have q_6 : ((X : Int) == 6) = false := by simp; omega
      have q_16 : ((X : Int) == 16) = false := by simp; omega
      have q_25 : ((X : Int) == 25) = false := by simp; omega
      have q_28 : ((X : Int) == 28) = false := by simp; omega
      have q_24 : ((X : Int) == 24) = false := by simp; omega
      have q_26 : ((X : Int) == 26) = false := by simp; omega
      have q_27 : ((X : Int) == 27) = false := by simp; omega
      obtain ⟨⟨⟨d1, rs1⟩, s1⟩, h1⟩ : ∃ y, ackS b (1, 0) = y := ⟨_, rfl⟩
      have G := Lib.hid (g_ack HBE.out (by rw [HX.out]; omega) d1 rs1 s1 h1)
      rw [HX.out] at G
      have HK := Lib.hid (rack_any b (1, 0) w.heap.size (w.heap.size + 1) (w.heap.size + 1 + 1) (w.heap.size + 1) wz HXX.out.1 (Nat.le_refl _) (Nat.le_succ _) HXX.out.2 K0.out.r (show Rw _ _ _ (ackV 0 none 0 0) by have := K0.out.f; rw [hx] at this; exact this))
      rw [h1] at HK
      clear h1 hx
      go_wp2_with fail
      (with_reducible refine HK.out.mono ?_)
      rintro e1 w1 ⟨rfl, hr1, hb1, hf1⟩
      have R1 := Lib.hid hr1
      have B1 := Lib.hid hb1
      have F1 := Lib.hid hf1
      clear hr1 hb1 hf1
      go_wp2_with fail
      go_meet
      refine ⟨{ Fr.of (X : Int) with delay := d1, rs := rs1 }, s1, G.out R1.out.le, R1.out, B1.out, fun h0 => ?_⟩
      obtain ⟨A, m, c, h1, h2⟩ := F1.out h0
      refine ⟨{ Fp.nil with ra := A, rn := m, rc := c }, ?_, ⟨h2.base HWZ.out, Own.nil _ _, Own.nil _ _, Own.nil _ _⟩⟩
      have hX2 : (X : Int) = 2 := by simpa using q_2
      unfold frV Fr.of
      simp only [hX2]
      exact h1
    · -- kind 6
      have q_0 : ((X : Int) == 0) = false := by simp; omega
      have q_1 : ((X : Int) == 1) = false := by simp; omega
      have q_30 : ((X : Int) == 30) = false := by simp; omega
      have q_2 : ((X : Int) == 2) = false := by simp; omega
      have q_14 : ((X : Int) == 14) = false := by simp; omega
      have q_15 : ((X : Int) == 15) = false := by simp; omega
      have q_6 : ((X : Int) == 6) = true := by simp; omega
      have q_16 : ((X : Int) == 16) = false := by simp; omega
      have q_25 : ((X : Int) == 25) = false := by simp; omega
      have q_28 : ((X : Int) == 28) = false := by simp; omega
      have q_24 : ((X : Int) == 24) = false := by simp; omega
      have q_26 : ((X : Int) == 26) = false := by simp; omega
      have q_27 : ((X : Int) == 27) = false := by simp; omega
      obtain ⟨s1, hs1⟩ : ∃ s, ((1, 0) : Nat × Nat) = s := ⟨_, rfl⟩
      obtain ⟨⟨v2, s2⟩, h2⟩ : ∃ y, numS b s1 maxV = y := ⟨_, rfl⟩
      obtain ⟨⟨v3, s3⟩, h3⟩ : ∃ y, numS b s2 16383 = y := ⟨_, rfl⟩
      have H2 := Lib.hid h2
      have H3 := Lib.hid h3
      obtain ⟨s4, h4⟩ : ∃ y, (if s3.2 = 0 ∧ maxV < v2 + v3 then (s3.1, 5) else s3) = y := ⟨_, rfl⟩
      obtain ⟨⟨d4, s5⟩, h5⟩ : ∃ y, bytesS b s4 v3 = y := ⟨_, rfl⟩
      have H4 := Lib.hid h4
      have H5 := Lib.hid h5
      have hD : dataS b s1 = ((v2, d4), s5) := by
        unfold dataS
        simp only [h2, h3, h4, h5]
      have hv3 : v3 ≤ 16383 := by have := numS_le b s2 16383; rwa [h3] at this
      have hv2 : v2 ≤ maxV := by have := numS_le b s1 maxV; rwa [h2] at this
      have G := Lib.hid (g_crypto HBE.out (by rw [HX.out]; omega) v2 d4 s5 (by rw [hs1]; exact hD))
      rw [HX.out] at G
      rw [hs1] at K0
      clear hx h2 h3 h4 h5 hD hs1
      have x_6 : ((X : Int) != 6) = false := by rw [bne, q_6]; rfl
      have cx0 : wz.cell? ⟨w.heap.size + 1, 0, none⟩ = some (.int .i64 (X : Int)) := K0.out.f.cell 0 _ rfl
      go_wp2_with fail
      (with_reducible refine (HN.out s1 4611686018427387903 maxV rfl (by unfold maxV; omega) _ K0.out.r).mono ?_)
      rw [H2.out]
      rintro e1 w1 ⟨rfl, hr1, ho1⟩
      have K1 := Lib.hid (K0.out.num HXX.out.1 HXX.out.2 hr1 ho1)
      clear hr1
      have ff1 := K1.out.f.frozen 5
      have cc1 := K1.out.f.cell 5 _ rfl
      have K2 := Lib.hid (K1.out.put (Nat.le_refl _) (Nat.le_succ _) HXX.out.2 5 (.int .u64 (v2 : Int)))
      go_wp2_with fail
      (with_reducible refine (HN.out s2 16383 16383 rfl (by omega) _ K2.out.r).mono ?_)
      rw [H3.out]
      rintro e3 w3 ⟨rfl, hr3, ho3⟩
      have K3 := Lib.hid (K2.out.num HXX.out.1 HXX.out.2 hr3 ho3)
      clear hr3
      have e4c := K3.out.code
      have e4f := K3.out.codeF
      have cof : w3.cell? ⟨w.heap.size + 1, 5, none⟩ = some (.int .u64 (v2 : Int)) := K3.out.f.cell 5 _ rfl
      obtain ⟨p3, q3⟩ := s3
      simp only at e4c
      obtain ⟨mk, hmk⟩ : ∃ mk, maxV - v3 = mk := ⟨_, rfl⟩
      have wmk : IntKind.u64.wrap (4611686018427387903 - (v3 : Int)) = (mk : Int) := by unfold maxV at hmk; simp [IntKind.wrap, IntKind.bits, IntKind.signed]; omega
      have wmk2 : (4611686018427387903 : Int) - (v3 : Int) = (mk : Int) := by unfold maxV at hmk; omega
      have wv3 : IntKind.i64.wrap (v3 : Int) = (v3 : Int) := IntWalk.i64_in _ (by omega)
      have hway : (q3 ≠ 0 ∧ ((q3 : Int) == 0) = false ∧ (p3, q3) = s4) ∨ (q3 = 0 ∧ (decide ((mk : Int) < (v2 : Int)) = false ∧ decide (mk < v2) = false ∧ (p3, q3) = s4 ∨ decide ((mk : Int) < (v2 : Int)) = true ∧ decide (mk < v2) = true ∧ (p3, 5) = s4)) := by
        have h4 := H4.out
        by_cases hq : q3 = 0
        · refine .inr ⟨hq, ?_⟩
          by_cases hm : mk < v2
          · rw [if_pos ⟨hq, by unfold maxV at hmk ⊢; omega⟩] at h4
            exact .inr ⟨decide_eq_true (by omega), decide_eq_true hm, h4⟩
          · rw [if_neg (fun hh => hm (by have := hh.2; unfold maxV at hmk this; omega))] at h4
            exact .inl ⟨decide_eq_false (by omega), decide_eq_false hm, h4⟩
        · rw [if_neg (fun hh => hq hh.1)] at h4
          exact .inl ⟨hq, by simp; omega, h4⟩
      clear H4 hmk hv2
      rcases hway with ⟨hq, t3, hs4⟩ | ⟨hq, ⟨t8, t9, hs4⟩ | ⟨t8, t9, hs4⟩⟩
      · rw [hs4] at K3
        have KX := K3
        clear K3 hq hs4
        go_wp2_with fail
        clear e4c e4f t3 cof
        go_wp2_with fail
        (with_reducible refine (HBY.out s4 (v3 : Int) v3 rfl (by omega) _ KX.out.r).mono ?_)
        rw [H5.out]
        rintro e7 w7 ⟨A1, m1, c1, rfl, ob7, _, _, hr7, ho7'⟩
        have ho7 := Lib.hid ho7'
        have O7 := Lib.hid (ob7.base (B' := w.heap.size + 1 + 1 + 1) (by have := KX.out.r.lt; omega))
        have K7 := Lib.hid (KX.out.num HXX.out.1 HXX.out.2 hr7 ho7.out)
        simp only at O7
        clear hr7 ob7 ho7'
        have ff7 := K7.out.f.frozen 7
        have cc7 := K7.out.f.cell 7 _ rfl
        have K8 := Lib.hid (K7.out.put (Nat.le_refl _) (Nat.le_succ _) HXX.out.2 7 (.slice A1 m1 c1))
        go_wp2_with fail
        go_meet
        exact ⟨{ Fr.of (X : Int) with off := v2, data := d4 }, s5, RdE.of (pl := { Fp.nil with da := A1, dn := m1, dc := c1 }) K8.out ⟨OwnR.nil _ _, (O7.out.onlyA ((Only.refl (w.heap.size + 1) w7).setCell 7 (.slice A1 m1 c1)) (fun a ha => by have := (O7.out.blk a ha).1; omega)), Own.nil _ _, Own.nil _ _⟩ G.out⟩
      · subst hq
        rw [hs4] at K3
        have KX := K3
        clear K3 hs4
        go_wp2_with fail
        clear e4c e4f t8 t9 cof
        go_wp2_with fail
        (with_reducible refine (HBY.out s4 (v3 : Int) v3 rfl (by omega) _ KX.out.r).mono ?_)
        rw [H5.out]
        rintro e7 w7 ⟨A1, m1, c1, rfl, ob7, _, _, hr7, ho7'⟩
        have ho7 := Lib.hid ho7'
        have O7 := Lib.hid (ob7.base (B' := w.heap.size + 1 + 1 + 1) (by have := KX.out.r.lt; omega))
        have K7 := Lib.hid (KX.out.num HXX.out.1 HXX.out.2 hr7 ho7.out)
        simp only at O7
        clear hr7 ob7 ho7'
        have ff7 := K7.out.f.frozen 7
        have cc7 := K7.out.f.cell 7 _ rfl
        have K8 := Lib.hid (K7.out.put (Nat.le_refl _) (Nat.le_succ _) HXX.out.2 7 (.slice A1 m1 c1))
        go_wp2_with fail
        go_meet
        exact ⟨{ Fr.of (X : Int) with off := v2, data := d4 }, s5, RdE.of (pl := { Fp.nil with da := A1, dn := m1, dc := c1 }) K8.out ⟨OwnR.nil _ _, (O7.out.onlyA ((Only.refl (w.heap.size + 1) w7).setCell 7 (.slice A1 m1 c1)) (fun a ha => by have := (O7.out.blk a ha).1; omega)), Own.nil _ _, Own.nil _ _⟩ G.out⟩
      · subst hq
        have KX : Hid (RdF wz (w3.setCell ⟨w.heap.size + 1 + 1, 2, none⟩ (.int .i64 5)) w.heap.size (w.heap.size + 1) (w.heap.size + 1 + 1) (w.heap.size + 1) b (p3, 5) _) := K3.out.setE HXX.out.1 HXX.out.2 5
        rw [hs4] at KX
        clear K3 hs4
        go_wp2_with fail
        clear e4c e4f t8 t9 cof
        go_wp2_with fail
        (with_reducible refine (HBY.out s4 (v3 : Int) v3 rfl (by omega) _ KX.out.r).mono ?_)
        rw [H5.out]
        rintro e7 w7 ⟨A1, m1, c1, rfl, ob7, _, _, hr7, ho7'⟩
        have ho7 := Lib.hid ho7'
        have O7 := Lib.hid (ob7.base (B' := w.heap.size + 1 + 1 + 1) (by have := KX.out.r.lt; omega))
        have K7 := Lib.hid (KX.out.num HXX.out.1 HXX.out.2 hr7 ho7.out)
        simp only at O7
        clear hr7 ob7 ho7'
        have ff7 := K7.out.f.frozen 7
        have cc7 := K7.out.f.cell 7 _ rfl
        have K8 := Lib.hid (K7.out.put (Nat.le_refl _) (Nat.le_succ _) HXX.out.2 7 (.slice A1 m1 c1))
        go_wp2_with fail
        go_meet
        exact ⟨{ Fr.of (X : Int) with off := v2, data := d4 }, s5, RdE.of (pl := { Fp.nil with da := A1, dn := m1, dc := c1 }) K8.out ⟨OwnR.nil _ _, (O7.out.onlyA ((Only.refl (w.heap.size + 1) w7).setCell 7 (.slice A1 m1 c1)) (fun a ha => by have := (O7.out.blk a ha).1; omega)), Own.nil _ _, Own.nil _ _⟩ G.out⟩
    · -- kind 14
      have q_0 : ((X : Int) == 0) = false := by simp; omega
      have q_1 : ((X : Int) == 1) = false := by simp; omega
      have q_30 : ((X : Int) == 30) = false := by simp; omega
      have q_2 : ((X : Int) == 2) = false := by simp; omega
      have q_14 : ((X : Int) == 14) = true := by simp; omega
      have q_15 : ((X : Int) == 15) = false := by simp; omega
      have q_6 : ((X : Int) == 6) = false := by simp; omega
      have q_16 : ((X : Int) == 16) = false := by simp; omega
      have q_25 : ((X : Int) == 25) = false := by simp; omega
      have q_28 : ((X : Int) == 28) = false := by simp; omega
      have q_24 : ((X : Int) == 24) = false := by simp; omega
      have q_26 : ((X : Int) == 26) = false := by simp; omega
      have q_27 : ((X : Int) == 27) = false := by simp; omega
      obtain ⟨⟨v1, s1⟩, h1⟩ : ∃ y, numS b (1, 0) maxV = y := ⟨_, rfl⟩
      have H1 := Lib.hid h1
      obtain ⟨⟨v2, s2⟩, h2⟩ : ∃ y, numS b s1 maxV = y := ⟨_, rfl⟩
      obtain ⟨⟨v3, s3⟩, h3⟩ : ∃ y, numS b s2 16383 = y := ⟨_, rfl⟩
      have H2 := Lib.hid h2
      have H3 := Lib.hid h3
      obtain ⟨s4, h4⟩ : ∃ y, (if s3.2 = 0 ∧ maxV < v2 + v3 then (s3.1, 5) else s3) = y := ⟨_, rfl⟩
      obtain ⟨⟨d4, s5⟩, h5⟩ : ∃ y, bytesS b s4 v3 = y := ⟨_, rfl⟩
      have H4 := Lib.hid h4
      have H5 := Lib.hid h5
      have hD : dataS b s1 = ((v2, d4), s5) := by
        unfold dataS
        simp only [h2, h3, h4, h5]
      have hv3 : v3 ≤ 16383 := by have := numS_le b s2 16383; rwa [h3] at this
      have hv2 : v2 ≤ maxV := by have := numS_le b s1 maxV; rwa [h2] at this
      have G := Lib.hid (g_stream HBE.out (by rw [HX.out]; omega) v1 v2 d4 s1 s5 h1 hD)
      rw [HX.out, show decide (X = 15) = false by simp; omega] at G
      clear hx h1 h2 h3 h4 h5 hD
      obtain ⟨s0, hs0⟩ : ∃ s, ((1, 0) : Nat × Nat) = s := ⟨_, rfl⟩
      rw [hs0] at K0 H1
      clear hs0
      have x_6 : ((X : Int) != 6) = true := by rw [bne, q_6]; rfl
      have cx0 : wz.cell? ⟨w.heap.size + 1, 0, none⟩ = some (.int .i64 (X : Int)) := K0.out.f.cell 0 _ rfl
      have fx0 := K0.out.f.frozen 0
      have fx6 := K0.out.f.frozen 6
      have cx6 : wz.cell? ⟨w.heap.size + 1, 6, none⟩ = some (.bool false) := K0.out.f.cell 6 _ rfl
      have cb0 := HCZ.out
      have KA := Lib.hid (K0.out.put (Nat.le_refl _) (Nat.le_succ _) HXX.out.2 0 (.int .i64 8))
      have KB := Lib.hid (KA.out.put (Nat.le_refl _) (Nat.le_succ _) HXX.out.2 6 (.bool false))
      go_wp2_with fail
      (with_reducible refine (HN.out s0 4611686018427387903 maxV rfl (by unfold maxV; omega) _ KB.out.r).mono ?_)
      rw [H1.out]
      rintro e1 w1 ⟨rfl, hr1, ho1⟩
      have K1 := Lib.hid (KB.out.num HXX.out.1 HXX.out.2 hr1 ho1)
      clear hr1 cx0 fx0 fx6 cx6 cb0 KA KB
      have ff1 := K1.out.f.frozen 4
      have cc1 := K1.out.f.cell 4 _ rfl
      have K2 := Lib.hid (K1.out.put (Nat.le_refl _) (Nat.le_succ _) HXX.out.2 4 (.int .u64 (v1 : Int)))
      go_wp2_with fail
      (with_reducible refine (HN.out s1 4611686018427387903 maxV rfl (by unfold maxV; omega) _ K2.out.r).mono ?_)
      rw [H2.out]
      rintro e3 w3 ⟨rfl, hr3, ho3⟩
      have K3 := Lib.hid (K2.out.num HXX.out.1 HXX.out.2 hr3 ho3)
      clear hr3
      have ff3 := K3.out.f.frozen 5
      have cc3 := K3.out.f.cell 5 _ rfl
      have K4 := Lib.hid (K3.out.put (Nat.le_refl _) (Nat.le_succ _) HXX.out.2 5 (.int .u64 (v2 : Int)))
      go_wp2_with fail
      (with_reducible refine (HN.out s2 16383 16383 rfl (by omega) _ K4.out.r).mono ?_)
      rw [H3.out]
      rintro e5 w5 ⟨rfl, hr5, ho5⟩
      have K5 := Lib.hid (K4.out.num HXX.out.1 HXX.out.2 hr5 ho5)
      clear hr5
      have e4c := K5.out.code
      have e4f := K5.out.codeF
      have cof : w5.cell? ⟨w.heap.size + 1, 5, none⟩ = some (.int .u64 (v2 : Int)) := K5.out.f.cell 5 _ rfl
      obtain ⟨p3, q3⟩ := s3
      simp only at e4c
      obtain ⟨mk, hmk⟩ : ∃ mk, maxV - v3 = mk := ⟨_, rfl⟩
      have wmk : IntKind.u64.wrap (4611686018427387903 - (v3 : Int)) = (mk : Int) := by unfold maxV at hmk; simp [IntKind.wrap, IntKind.bits, IntKind.signed]; omega
      have wmk2 : (4611686018427387903 : Int) - (v3 : Int) = (mk : Int) := by unfold maxV at hmk; omega
      have wv3 : IntKind.i64.wrap (v3 : Int) = (v3 : Int) := IntWalk.i64_in _ (by omega)
      have hway : (q3 ≠ 0 ∧ ((q3 : Int) == 0) = false ∧ (p3, q3) = s4) ∨ (q3 = 0 ∧ (decide ((mk : Int) < (v2 : Int)) = false ∧ decide (mk < v2) = false ∧ (p3, q3) = s4 ∨ decide ((mk : Int) < (v2 : Int)) = true ∧ decide (mk < v2) = true ∧ (p3, 5) = s4)) := by
        have h4 := H4.out
        by_cases hq : q3 = 0
        · refine .inr ⟨hq, ?_⟩
          by_cases hm : mk < v2
          · rw [if_pos ⟨hq, by unfold maxV at hmk ⊢; omega⟩] at h4
            exact .inr ⟨decide_eq_true (by omega), decide_eq_true hm, h4⟩
          · rw [if_neg (fun hh => hm (by have := hh.2; unfold maxV at hmk this; omega))] at h4
            exact .inl ⟨decide_eq_false (by omega), decide_eq_false hm, h4⟩
        · rw [if_neg (fun hh => hq hh.1)] at h4
          exact .inl ⟨hq, by simp; omega, h4⟩
      clear H4 hmk hv2
      rcases hway with ⟨hq, t3, hs4⟩ | ⟨hq, ⟨t8, t9, hs4⟩ | ⟨t8, t9, hs4⟩⟩
      · rw [hs4] at K5
        have KX := K5
        clear K5 hq hs4
        go_wp2_with fail
        clear e4c e4f t3 cof
        go_wp2_with fail
        (with_reducible refine (HBY.out s4 (v3 : Int) v3 rfl (by omega) _ KX.out.r).mono ?_)
        rw [H5.out]
        rintro e7 w7 ⟨A1, m1, c1, rfl, ob7, _, _, hr7, ho7'⟩
        have ho7 := Lib.hid ho7'
        have O7 := Lib.hid (ob7.base (B' := w.heap.size + 1 + 1 + 1) (by have := KX.out.r.lt; omega))
        have K7 := Lib.hid (KX.out.num HXX.out.1 HXX.out.2 hr7 ho7.out)
        simp only at O7
        clear hr7 ob7 ho7'
        have ff7 := K7.out.f.frozen 7
        have cc7 := K7.out.f.cell 7 _ rfl
        have K8 := Lib.hid (K7.out.put (Nat.le_refl _) (Nat.le_succ _) HXX.out.2 7 (.slice A1 m1 c1))
        go_wp2_with fail
        go_meet
        exact ⟨{ Fr.of 8 with id := v1, fin := false, off := v2, data := d4 }, s5, RdE.of (pl := { Fp.nil with da := A1, dn := m1, dc := c1 }) K8.out ⟨OwnR.nil _ _, (O7.out.onlyA ((Only.refl (w.heap.size + 1) w7).setCell 7 (.slice A1 m1 c1)) (fun a ha => by have := (O7.out.blk a ha).1; omega)), Own.nil _ _, Own.nil _ _⟩ G.out⟩
      · subst hq
        rw [hs4] at K5
        have KX := K5
        clear K5 hs4
        go_wp2_with fail
        clear e4c e4f t8 t9 cof
        go_wp2_with fail
        (with_reducible refine (HBY.out s4 (v3 : Int) v3 rfl (by omega) _ KX.out.r).mono ?_)
        rw [H5.out]
        rintro e7 w7 ⟨A1, m1, c1, rfl, ob7, _, _, hr7, ho7'⟩
        have ho7 := Lib.hid ho7'
        have O7 := Lib.hid (ob7.base (B' := w.heap.size + 1 + 1 + 1) (by have := KX.out.r.lt; omega))
        have K7 := Lib.hid (KX.out.num HXX.out.1 HXX.out.2 hr7 ho7.out)
        simp only at O7
        clear hr7 ob7 ho7'
        have ff7 := K7.out.f.frozen 7
        have cc7 := K7.out.f.cell 7 _ rfl
        have K8 := Lib.hid (K7.out.put (Nat.le_refl _) (Nat.le_succ _) HXX.out.2 7 (.slice A1 m1 c1))
        go_wp2_with fail
        go_meet
        exact ⟨{ Fr.of 8 with id := v1, fin := false, off := v2, data := d4 }, s5, RdE.of (pl := { Fp.nil with da := A1, dn := m1, dc := c1 }) K8.out ⟨OwnR.nil _ _, (O7.out.onlyA ((Only.refl (w.heap.size + 1) w7).setCell 7 (.slice A1 m1 c1)) (fun a ha => by have := (O7.out.blk a ha).1; omega)), Own.nil _ _, Own.nil _ _⟩ G.out⟩
      · subst hq
        have KX : Hid (RdF wz (w5.setCell ⟨w.heap.size + 1 + 1, 2, none⟩ (.int .i64 5)) w.heap.size (w.heap.size + 1) (w.heap.size + 1 + 1) (w.heap.size + 1) b (p3, 5) _) := K5.out.setE HXX.out.1 HXX.out.2 5
        rw [hs4] at KX
        clear K5 hs4
        go_wp2_with fail
        clear e4c e4f t8 t9 cof
        go_wp2_with fail
        (with_reducible refine (HBY.out s4 (v3 : Int) v3 rfl (by omega) _ KX.out.r).mono ?_)
        rw [H5.out]
        rintro e7 w7 ⟨A1, m1, c1, rfl, ob7, _, _, hr7, ho7'⟩
        have ho7 := Lib.hid ho7'
        have O7 := Lib.hid (ob7.base (B' := w.heap.size + 1 + 1 + 1) (by have := KX.out.r.lt; omega))
        have K7 := Lib.hid (KX.out.num HXX.out.1 HXX.out.2 hr7 ho7.out)
        simp only at O7
        clear hr7 ob7 ho7'
        have ff7 := K7.out.f.frozen 7
        have cc7 := K7.out.f.cell 7 _ rfl
        have K8 := Lib.hid (K7.out.put (Nat.le_refl _) (Nat.le_succ _) HXX.out.2 7 (.slice A1 m1 c1))
        go_wp2_with fail
        go_meet
        exact ⟨{ Fr.of 8 with id := v1, fin := false, off := v2, data := d4 }, s5, RdE.of (pl := { Fp.nil with da := A1, dn := m1, dc := c1 }) K8.out ⟨OwnR.nil _ _, (O7.out.onlyA ((Only.refl (w.heap.size + 1) w7).setCell 7 (.slice A1 m1 c1)) (fun a ha => by have := (O7.out.blk a ha).1; omega)), Own.nil _ _, Own.nil _ _⟩ G.out⟩
    · -- kind 15
      have q_0 : ((X : Int) == 0) = false := by simp; omega
      have q_1 : ((X : Int) == 1) = false := by simp; omega
      have q_30 : ((X : Int) == 30) = false := by simp; omega
      have q_2 : ((X : Int) == 2) = false := by simp; omega
      have q_14 : ((X : Int) == 14) = false := by simp; omega
      have q_15 : ((X : Int) == 15) = true := by simp; omega
      have q_6 : ((X : Int) == 6) = false := by simp; omega
      have q_16 : ((X : Int) == 16) = false := by simp; omega
      have q_25 : ((X : Int) == 25) = false := by simp; omega
      have q_28 : ((X : Int) == 28) = false := by simp; omega
      have q_24 : ((X : Int) == 24) = false := by simp; omega
      have q_26 : ((X : Int) == 26) = false := by simp; omega
      have q_27 : ((X : Int) == 27) = false := by simp; omega
      obtain ⟨⟨v1, s1⟩, h1⟩ : ∃ y, numS b (1, 0) maxV = y := ⟨_, rfl⟩
      have H1 := Lib.hid h1
      obtain ⟨⟨v2, s2⟩, h2⟩ : ∃ y, numS b s1 maxV = y := ⟨_, rfl⟩
      obtain ⟨⟨v3, s3⟩, h3⟩ : ∃ y, numS b s2 16383 = y := ⟨_, rfl⟩
      have H2 := Lib.hid h2
      have H3 := Lib.hid h3
      obtain ⟨s4, h4⟩ : ∃ y, (if s3.2 = 0 ∧ maxV < v2 + v3 then (s3.1, 5) else s3) = y := ⟨_, rfl⟩
      obtain ⟨⟨d4, s5⟩, h5⟩ : ∃ y, bytesS b s4 v3 = y := ⟨_, rfl⟩
      have H4 := Lib.hid h4
      have H5 := Lib.hid h5
      have hD : dataS b s1 = ((v2, d4), s5) := by
        unfold dataS
        simp only [h2, h3, h4, h5]
      have hv3 : v3 ≤ 16383 := by have := numS_le b s2 16383; rwa [h3] at this
      have hv2 : v2 ≤ maxV := by have := numS_le b s1 maxV; rwa [h2] at this
      have G := Lib.hid (g_stream HBE.out (by rw [HX.out]; omega) v1 v2 d4 s1 s5 h1 hD)
      rw [HX.out, show decide (X = 15) = true by simp; omega] at G
      clear hx h1 h2 h3 h4 h5 hD
      obtain ⟨s0, hs0⟩ : ∃ s, ((1, 0) : Nat × Nat) = s := ⟨_, rfl⟩
      rw [hs0] at K0 H1
      clear hs0
      have x_6 : ((X : Int) != 6) = true := by rw [bne, q_6]; rfl
      have cx0 : wz.cell? ⟨w.heap.size + 1, 0, none⟩ = some (.int .i64 (X : Int)) := K0.out.f.cell 0 _ rfl
      have fx0 := K0.out.f.frozen 0
      have fx6 := K0.out.f.frozen 6
      have cx6 : wz.cell? ⟨w.heap.size + 1, 6, none⟩ = some (.bool false) := K0.out.f.cell 6 _ rfl
      have cb0 := HCZ.out
      have KA := Lib.hid (K0.out.put (Nat.le_refl _) (Nat.le_succ _) HXX.out.2 0 (.int .i64 8))
      have KB := Lib.hid (KA.out.put (Nat.le_refl _) (Nat.le_succ _) HXX.out.2 6 (.bool true))
      go_wp2_with fail
      (with_reducible refine (HN.out s0 4611686018427387903 maxV rfl (by unfold maxV; omega) _ KB.out.r).mono ?_)
      rw [H1.out]
      rintro e1 w1 ⟨rfl, hr1, ho1⟩
      have K1 := Lib.hid (KB.out.num HXX.out.1 HXX.out.2 hr1 ho1)
      clear hr1 cx0 fx0 fx6 cx6 cb0 KA KB
      have ff1 := K1.out.f.frozen 4
      have cc1 := K1.out.f.cell 4 _ rfl
      have K2 := Lib.hid (K1.out.put (Nat.le_refl _) (Nat.le_succ _) HXX.out.2 4 (.int .u64 (v1 : Int)))
      go_wp2_with fail
      (with_reducible refine (HN.out s1 4611686018427387903 maxV rfl (by unfold maxV; omega) _ K2.out.r).mono ?_)
      rw [H2.out]
      rintro e3 w3 ⟨rfl, hr3, ho3⟩
      have K3 := Lib.hid (K2.out.num HXX.out.1 HXX.out.2 hr3 ho3)
      clear hr3
      have ff3 := K3.out.f.frozen 5
      have cc3 := K3.out.f.cell 5 _ rfl
      have K4 := Lib.hid (K3.out.put (Nat.le_refl _) (Nat.le_succ _) HXX.out.2 5 (.int .u64 (v2 : Int)))
      go_wp2_with fail
      (with_reducible refine (HN.out s2 16383 16383 rfl (by omega) _ K4.out.r).mono ?_)
      rw [H3.out]
      rintro e5 w5 ⟨rfl, hr5, ho5⟩
      have K5 := Lib.hid (K4.out.num HXX.out.1 HXX.out.2 hr5 ho5)
      clear hr5
      have e4c := K5.out.code
      have e4f := K5.out.codeF
      have cof : w5.cell? ⟨w.heap.size + 1, 5, none⟩ = some (.int .u64 (v2 : Int)) := K5.out.f.cell 5 _ rfl
      obtain ⟨p3, q3⟩ := s3
      simp only at e4c
      obtain ⟨mk, hmk⟩ : ∃ mk, maxV - v3 = mk := ⟨_, rfl⟩
      have wmk : IntKind.u64.wrap (4611686018427387903 - (v3 : Int)) = (mk : Int) := by unfold maxV at hmk; simp [IntKind.wrap, IntKind.bits, IntKind.signed]; omega
      have wmk2 : (4611686018427387903 : Int) - (v3 : Int) = (mk : Int) := by unfold maxV at hmk; omega
      have wv3 : IntKind.i64.wrap (v3 : Int) = (v3 : Int) := IntWalk.i64_in _ (by omega)
      have hway : (q3 ≠ 0 ∧ ((q3 : Int) == 0) = false ∧ (p3, q3) = s4) ∨ (q3 = 0 ∧ (decide ((mk : Int) < (v2 : Int)) = false ∧ decide (mk < v2) = false ∧ (p3, q3) = s4 ∨ decide ((mk : Int) < (v2 : Int)) = true ∧ decide (mk < v2) = true ∧ (p3, 5) = s4)) := by
        have h4 := H4.out
        by_cases hq : q3 = 0
        · refine .inr ⟨hq, ?_⟩
          by_cases hm : mk < v2
          · rw [if_pos ⟨hq, by unfold maxV at hmk ⊢; omega⟩] at h4
            exact .inr ⟨decide_eq_true (by omega), decide_eq_true hm, h4⟩
          · rw [if_neg (fun hh => hm (by have := hh.2; unfold maxV at hmk this; omega))] at h4
            exact .inl ⟨decide_eq_false (by omega), decide_eq_false hm, h4⟩
        · rw [if_neg (fun hh => hq hh.1)] at h4
          exact .inl ⟨hq, by simp; omega, h4⟩
      clear H4 hmk hv2
      rcases hway with ⟨hq, t3, hs4⟩ | ⟨hq, ⟨t8, t9, hs4⟩ | ⟨t8, t9, hs4⟩⟩
      · rw [hs4] at K5
        have KX := K5
        clear K5 hq hs4
        go_wp2_with fail
        clear e4c e4f t3 cof
        go_wp2_with fail
        (with_reducible refine (HBY.out s4 (v3 : Int) v3 rfl (by omega) _ KX.out.r).mono ?_)
        rw [H5.out]
        rintro e7 w7 ⟨A1, m1, c1, rfl, ob7, _, _, hr7, ho7'⟩
        have ho7 := Lib.hid ho7'
        have O7 := Lib.hid (ob7.base (B' := w.heap.size + 1 + 1 + 1) (by have := KX.out.r.lt; omega))
        have K7 := Lib.hid (KX.out.num HXX.out.1 HXX.out.2 hr7 ho7.out)
        simp only at O7
        clear hr7 ob7 ho7'
        have ff7 := K7.out.f.frozen 7
        have cc7 := K7.out.f.cell 7 _ rfl
        have K8 := Lib.hid (K7.out.put (Nat.le_refl _) (Nat.le_succ _) HXX.out.2 7 (.slice A1 m1 c1))
        go_wp2_with fail
        go_meet
        exact ⟨{ Fr.of 8 with id := v1, fin := true, off := v2, data := d4 }, s5, RdE.of (pl := { Fp.nil with da := A1, dn := m1, dc := c1 }) K8.out ⟨OwnR.nil _ _, (O7.out.onlyA ((Only.refl (w.heap.size + 1) w7).setCell 7 (.slice A1 m1 c1)) (fun a ha => by have := (O7.out.blk a ha).1; omega)), Own.nil _ _, Own.nil _ _⟩ G.out⟩
      · subst hq
        rw [hs4] at K5
        have KX := K5
        clear K5 hs4
        go_wp2_with fail
        clear e4c e4f t8 t9 cof
        go_wp2_with fail
        (with_reducible refine (HBY.out s4 (v3 : Int) v3 rfl (by omega) _ KX.out.r).mono ?_)
        rw [H5.out]
        rintro e7 w7 ⟨A1, m1, c1, rfl, ob7, _, _, hr7, ho7'⟩
        have ho7 := Lib.hid ho7'
        have O7 := Lib.hid (ob7.base (B' := w.heap.size + 1 + 1 + 1) (by have := KX.out.r.lt; omega))
        have K7 := Lib.hid (KX.out.num HXX.out.1 HXX.out.2 hr7 ho7.out)
        simp only at O7
        clear hr7 ob7 ho7'
        have ff7 := K7.out.f.frozen 7
        have cc7 := K7.out.f.cell 7 _ rfl
        have K8 := Lib.hid (K7.out.put (Nat.le_refl _) (Nat.le_succ _) HXX.out.2 7 (.slice A1 m1 c1))
        go_wp2_with fail
        go_meet
        exact ⟨{ Fr.of 8 with id := v1, fin := true, off := v2, data := d4 }, s5, RdE.of (pl := { Fp.nil with da := A1, dn := m1, dc := c1 }) K8.out ⟨OwnR.nil _ _, (O7.out.onlyA ((Only.refl (w.heap.size + 1) w7).setCell 7 (.slice A1 m1 c1)) (fun a ha => by have := (O7.out.blk a ha).1; omega)), Own.nil _ _, Own.nil _ _⟩ G.out⟩
      · subst hq
        have KX : Hid (RdF wz (w5.setCell ⟨w.heap.size + 1 + 1, 2, none⟩ (.int .i64 5)) w.heap.size (w.heap.size + 1) (w.heap.size + 1 + 1) (w.heap.size + 1) b (p3, 5) _) := K5.out.setE HXX.out.1 HXX.out.2 5
        rw [hs4] at KX
        clear K5 hs4
        go_wp2_with fail
        clear e4c e4f t8 t9 cof
        go_wp2_with fail
        (with_reducible refine (HBY.out s4 (v3 : Int) v3 rfl (by omega) _ KX.out.r).mono ?_)
        rw [H5.out]
        rintro e7 w7 ⟨A1, m1, c1, rfl, ob7, _, _, hr7, ho7'⟩
        have ho7 := Lib.hid ho7'
        have O7 := Lib.hid (ob7.base (B' := w.heap.size + 1 + 1 + 1) (by have := KX.out.r.lt; omega))
        have K7 := Lib.hid (KX.out.num HXX.out.1 HXX.out.2 hr7 ho7.out)
        simp only at O7
        clear hr7 ob7 ho7'
        have ff7 := K7.out.f.frozen 7
        have cc7 := K7.out.f.cell 7 _ rfl
        have K8 := Lib.hid (K7.out.put (Nat.le_refl _) (Nat.le_succ _) HXX.out.2 7 (.slice A1 m1 c1))
        go_wp2_with fail
        go_meet
        exact ⟨{ Fr.of 8 with id := v1, fin := true, off := v2, data := d4 }, s5, RdE.of (pl := { Fp.nil with da := A1, dn := m1, dc := c1 }) K8.out ⟨OwnR.nil _ _, (O7.out.onlyA ((Only.refl (w.heap.size + 1) w7).setCell 7 (.slice A1 m1 c1)) (fun a ha => by have := (O7.out.blk a ha).1; omega)), Own.nil _ _, Own.nil _ _⟩ G.out⟩
    · -- kind 16
      have q_0 : ((X : Int) == 0) = false := by simp; omega
      have q_1 : ((X : Int) == 1) = false := by simp; omega
      have q_30 : ((X : Int) == 30) = false := by simp; omega
      have q_2 : ((X : Int) == 2) = false := by simp; omega
      have q_14 : ((X : Int) == 14) = false := by simp; omega
      have q_15 : ((X : Int) == 15) = false := by simp; omega
      have q_6 : ((X : Int) == 6) = false := by simp; omega
      have q_16 : ((X : Int) == 16) = true := by simp; omega
      have q_25 : ((X : Int) == 25) = false := by simp; omega
      have q_28 : ((X : Int) == 28) = false := by simp; omega
      have q_24 : ((X : Int) == 24) = false := by simp; omega
      have q_26 : ((X : Int) == 26) = false := by simp; omega
      have q_27 : ((X : Int) == 27) = false := by simp; omega
      obtain ⟨⟨v1, s1⟩, h1⟩ : ∃ y, numS b (1, 0) maxV = y := ⟨_, rfl⟩
      have H1 := Lib.hid h1
      have G := Lib.hid (g_num HBE.out (by rw [HX.out]; omega) v1 s1 h1)
      rw [HX.out] at G
      clear hx h1
      obtain ⟨s0, hs0⟩ : ∃ s, ((1, 0) : Nat × Nat) = s := ⟨_, rfl⟩
      rw [hs0] at K0 H1
      clear hs0
      go_wp2_with fail
      (with_reducible refine (HN.out s0 4611686018427387903 maxV rfl (by unfold maxV; omega) _ K0.out.r).mono ?_)
      rw [H1.out]
      rintro e1 w1 ⟨rfl, hr1, ho1⟩
      have K1 := Lib.hid (K0.out.num HXX.out.1 HXX.out.2 hr1 ho1)
      clear hr1
      have ff1 := K1.out.f.frozen 1
      have cc1 := K1.out.f.cell 1 _ rfl
      have K2 := Lib.hid (K1.out.put (Nat.le_refl _) (Nat.le_succ _) HXX.out.2 1 (.int .u64 (v1 : Int)))
      go_wp2_with fail
      go_meet
      exact ⟨{ Fr.of (X : Int) with n := v1 }, s1, RdE.of (pl := Fp.nil) K2.out ⟨OwnR.nil _ _, Own.nil _ _, Own.nil _ _, Own.nil _ _⟩ G.out⟩
    · -- kind 25
      have q_0 : ((X : Int) == 0) = false := by simp; omega
      have q_1 : ((X : Int) == 1) = false := by simp; omega
      have q_30 : ((X : Int) == 30) = false := by simp; omega
      have q_2 : ((X : Int) == 2) = false := by simp; omega
      have q_14 : ((X : Int) == 14) = false := by simp; omega
      have q_15 : ((X : Int) == 15) = false := by simp; omega
      have q_6 : ((X : Int) == 6) = false := by simp; omega
      have q_16 : ((X : Int) == 16) = false := by simp; omega
      have q_25 : ((X : Int) == 25) = true := by simp; omega
      have q_28 : ((X : Int) == 28) = false := by simp; omega
      have q_24 : ((X : Int) == 24) = false := by simp; omega
      have q_26 : ((X : Int) == 26) = false := by simp; omega
      have q_27 : ((X : Int) == 27) = false := by simp; omega
      obtain ⟨⟨v1, s1⟩, h1⟩ : ∃ y, numS b (1, 0) maxV = y := ⟨_, rfl⟩
      have H1 := Lib.hid h1
      have G := Lib.hid (g_num HBE.out (by rw [HX.out]; omega) v1 s1 h1)
      rw [HX.out] at G
      clear hx h1
      obtain ⟨s0, hs0⟩ : ∃ s, ((1, 0) : Nat × Nat) = s := ⟨_, rfl⟩
      rw [hs0] at K0 H1
      clear hs0
      go_wp2_with fail
      (with_reducible refine (HN.out s0 4611686018427387903 maxV rfl (by unfold maxV; omega) _ K0.out.r).mono ?_)
      rw [H1.out]
      rintro e1 w1 ⟨rfl, hr1, ho1⟩
      have K1 := Lib.hid (K0.out.num HXX.out.1 HXX.out.2 hr1 ho1)
      clear hr1
      have ff1 := K1.out.f.frozen 1
      have cc1 := K1.out.f.cell 1 _ rfl
      have K2 := Lib.hid (K1.out.put (Nat.le_refl _) (Nat.le_succ _) HXX.out.2 1 (.int .u64 (v1 : Int)))
      go_wp2_with fail
      go_meet
      exact ⟨{ Fr.of (X : Int) with n := v1 }, s1, RdE.of (pl := Fp.nil) K2.out ⟨OwnR.nil _ _, Own.nil _ _, Own.nil _ _, Own.nil _ _⟩ G.out⟩
    · -- kind 28
      have q_0 : ((X : Int) == 0) = false := by simp; omega
      have q_1 : ((X : Int) == 1) = false := by simp; omega
      have q_30 : ((X : Int) == 30) = false := by simp; omega
      have q_2 : ((X : Int) == 2) = false := by simp; omega
      have q_14 : ((X : Int) == 14) = false := by simp; omega
      have q_15 : ((X : Int) == 15) = false := by simp; omega
      have q_6 : ((X : Int) == 6) = false := by simp; omega
      have q_16 : ((X : Int) == 16) = false := by simp; omega
      have q_25 : ((X : Int) == 25) = false := by simp; omega
      have q_28 : ((X : Int) == 28) = true := by simp; omega
      have q_24 : ((X : Int) == 24) = false := by simp; omega
      have q_26 : ((X : Int) == 26) = false := by simp; omega
      have q_27 : ((X : Int) == 27) = false := by simp; omega
      obtain ⟨⟨v1, s1⟩, h1⟩ : ∃ y, numS b (1, 0) maxV = y := ⟨_, rfl⟩
      obtain ⟨⟨v2, s2⟩, h2⟩ : ∃ y, numS b s1 0 = y := ⟨_, rfl⟩
      obtain ⟨⟨v3, s3⟩, h3⟩ : ∃ y, numS b s2 0 = y := ⟨_, rfl⟩
      have H1 := Lib.hid h1
      have H2 := Lib.hid h2
      have H3 := Lib.hid h3
      have G := Lib.hid (g_close HBE.out (by rw [HX.out]; omega) v1 v2 v3 s1 s2 s3 h1 h2 h3)
      rw [HX.out] at G
      clear hx h1 h2 h3
      obtain ⟨s0, hs0⟩ : ∃ s, ((1, 0) : Nat × Nat) = s := ⟨_, rfl⟩
      rw [hs0] at K0 H1
      clear hs0
      go_wp2_with fail
      (with_reducible refine (HN.out s0 4611686018427387903 maxV rfl (by unfold maxV; omega) _ K0.out.r).mono ?_)
      rw [H1.out]
      rintro e1 w1 ⟨rfl, hr1, ho1⟩
      have K1 := Lib.hid (K0.out.num HXX.out.1 HXX.out.2 hr1 ho1)
      clear hr1
      have ff1 := K1.out.f.frozen 1
      have cc1 := K1.out.f.cell 1 _ rfl
      have K2 := Lib.hid (K1.out.put (Nat.le_refl _) (Nat.le_succ _) HXX.out.2 1 (.int .u64 (v1 : Int)))
      go_wp2_with fail
      (with_reducible refine (HN.out s1 0 0 rfl (by omega) _ K2.out.r).mono ?_)
      rw [H2.out]
      rintro e3 w3 ⟨rfl, hr3, ho3⟩
      have K3 := Lib.hid (K2.out.num HXX.out.1 HXX.out.2 hr3 ho3)
      clear hr3
      go_wp2_with fail
      (with_reducible refine (HN.out s2 0 0 rfl (by omega) _ K3.out.r).mono ?_)
      rw [H3.out]
      rintro e4 w4 ⟨rfl, hr4, ho4⟩
      have K4 := Lib.hid (K3.out.num HXX.out.1 HXX.out.2 hr4 ho4)
      clear hr4
      go_wp2_with fail
      go_meet
      exact ⟨{ Fr.of (X : Int) with n := v1 }, s3, RdE.of (pl := Fp.nil) K4.out ⟨OwnR.nil _ _, Own.nil _ _, Own.nil _ _, Own.nil _ _⟩ G.out⟩
    · -- kind 24
      have q_0 : ((X : Int) == 0) = false := by simp; omega
      have q_1 : ((X : Int) == 1) = false := by simp; omega
      have q_30 : ((X : Int) == 30) = false := by simp; omega
      have q_2 : ((X : Int) == 2) = false := by simp; omega
      have q_14 : ((X : Int) == 14) = false := by simp; omega
      have q_15 : ((X : Int) == 15) = false := by simp; omega
      have q_6 : ((X : Int) == 6) = false := by simp; omega
      have q_16 : ((X : Int) == 16) = false := by simp; omega
      have q_25 : ((X : Int) == 25) = false := by simp; omega
      have q_28 : ((X : Int) == 28) = false := by simp; omega
      have q_24 : ((X : Int) == 24) = true := by simp; omega
      have q_26 : ((X : Int) == 26) = false := by simp; omega
      have q_27 : ((X : Int) == 27) = false := by simp; omega
      obtain ⟨⟨v1, s1⟩, h1⟩ : ∃ y, numS b (1, 0) maxV = y := ⟨_, rfl⟩
      obtain ⟨⟨v2, s2⟩, h2⟩ : ∃ y, numS b s1 0 = y := ⟨_, rfl⟩
      have H1 := Lib.hid h1
      have H2 := Lib.hid h2
      obtain ⟨⟨o3, s3⟩, h3⟩ : ∃ y, bytesS b s2 1 = y := ⟨_, rfl⟩
      obtain ⟨s4, h4⟩ : ∃ y, (if s3.2 = 0 ∧ o3 ≠ [8] then (s3.1, 5) else s3) = y := ⟨_, rfl⟩
      obtain ⟨⟨o5, s5⟩, h5⟩ : ∃ y, bytesS b s4 8 = y := ⟨_, rfl⟩
      obtain ⟨⟨o6, s6⟩, h6⟩ : ∃ y, bytesS b s5 16 = y := ⟨_, rfl⟩
      have H3 := Lib.hid h3
      have H4 := Lib.hid h4
      have H5 := Lib.hid h5
      have H6 := Lib.hid h6
      have HLN : Hid (s3.2 = 0 → o3.length = 1) := fun hh => by have := bytesS_len b s2 1 (by rw [h3]; exact hh); rwa [h3] at this
      have G := Lib.hid (g_cid HBE.out (by rw [HX.out]; omega) v1 v2 o3 o5 o6 s1 s2 s3 s4 s5 s6 h1 h2 h3 h4 h5 h6)
      rw [HX.out] at G
      clear hx h1 h2 h3 h4 h5 h6
      obtain ⟨s0, hs0⟩ : ∃ s, ((1, 0) : Nat × Nat) = s := ⟨_, rfl⟩
      rw [hs0] at K0 H1
      clear hs0
      go_wp2_with fail
      (with_reducible refine (HN.out s0 4611686018427387903 maxV rfl (by unfold maxV; omega) _ K0.out.r).mono ?_)
      rw [H1.out]
      rintro e1 w1 ⟨rfl, hr1, ho1⟩
      have K1 := Lib.hid (K0.out.num HXX.out.1 HXX.out.2 hr1 ho1)
      clear hr1
      have ff1 := K1.out.f.frozen 1
      have cc1 := K1.out.f.cell 1 _ rfl
      have K2 := Lib.hid (K1.out.put (Nat.le_refl _) (Nat.le_succ _) HXX.out.2 1 (.int .u64 (v1 : Int)))
      go_wp2_with fail
      (with_reducible refine (HN.out s1 0 0 rfl (by omega) _ K2.out.r).mono ?_)
      rw [H2.out]
      rintro e3 w3 ⟨rfl, hr3, ho3⟩
      have K3 := Lib.hid (K2.out.num HXX.out.1 HXX.out.2 hr3 ho3)
      clear hr3
      go_wp2_with fail
      (with_reducible refine (HBY.out s2 1 1 rfl (by omega) _ K3.out.r).mono ?_)
      rw [H3.out]
      rintro e4 w4 ⟨A1, m1, c1, rfl, ob4, _, _, hr4, ho4'⟩
      have ho4 := Lib.hid ho4'
      have O4 := Lib.hid (ob4.base (B' := w.heap.size + 1 + 1 + 1) (by have := K3.out.r.lt; omega))
      have K4 := Lib.hid (K3.out.num HXX.out.1 HXX.out.2 hr4 ho4.out)
      simp only at O4
      clear hr4 ob4 ho4'
      have e4c := K4.out.code
      have e4f := K4.out.codeF
      obtain ⟨p3, q3⟩ := s3
      simp only at e4c
      have hway : (q3 ≠ 0 ∧ ((q3 : Int) == 0) = false ∧ (p3, q3) = s4) ∨ (q3 = 0 ∧ ∃ gA y, A1 = some ⟨gA, 0, none⟩ ∧ m1 = 1 ∧ w4.cell? ⟨gA, 0, none⟩ = some (.int .u8 (y : Int)) ∧ ((((y : Int) != 8) = false ∧ (p3, q3) = s4) ∨ (((y : Int) != 8) = true ∧ (p3, 5) = s4))) := by
        have h4 := H4.out
        by_cases hq : q3 = 0
        · obtain ⟨gA, y, e1, e2, e3, e4⟩ := slice1_at O4.out (HLN.out hq)
          refine .inr ⟨hq, gA, y.toNat, e1, e2, e4, ?_⟩
          by_cases hy : y = 8
          · left
            subst hy
            rw [if_neg (fun hh => hh.2 e3)] at h4
            exact ⟨by decide, h4⟩
          · right
            rw [if_pos ⟨hq, fun hh => hy (by rw [e3] at hh; simpa using hh)⟩] at h4
            refine ⟨?_, h4⟩
            simp
            intro hh
            exact hy (UInt8.toNat_inj.1 (show y.toNat = 8 by omega))
        · rw [if_neg (fun hh => hq hh.1)] at h4
          exact .inl ⟨hq, by simp; omega, h4⟩
      clear H4
      rcases hway with ⟨hq, t3, hs4⟩ | ⟨hq, gA, y, rfl, rfl, cy, ⟨t8, hs4⟩ | ⟨t8, hs4⟩⟩
      · clear HLN O4
        rw [hs4] at K4
        have KX := K4
        clear K4 hq hs4
        go_wp2_with fail
        clear e4c e4f t3
        go_wp2_with fail
        (with_reducible refine (HBY.out s4 8 8 rfl (by omega) _ KX.out.r).mono ?_)
        rw [H5.out]
        rintro e6 w6 ⟨A2, m2, c2, rfl, ob6, _, _, hr6, ho6'⟩
        have ho6 := Lib.hid ho6'
        have O6 := Lib.hid (ob6.base (B' := w.heap.size + 1 + 1 + 1) (by have := KX.out.r.lt; omega))
        have K6 := Lib.hid (KX.out.num HXX.out.1 HXX.out.2 hr6 ho6.out)
        simp only at O6
        clear hr6 ob6 ho6'
        have ff6 := K6.out.f.frozen 8
        have cc6 := K6.out.f.cell 8 _ rfl
        have K7 := Lib.hid (K6.out.put (Nat.le_refl _) (Nat.le_succ _) HXX.out.2 8 (.slice A2 m2 c2))
        have O7 := Lib.hid (O6.out.onlyA ((Only.refl (w.heap.size + 1) w6).setCell 8 (.slice A2 m2 c2)) (fun a ha => by have := (O6.out.blk a ha).1; omega))
        go_wp2_with fail
        (with_reducible refine (HBY.out s5 16 16 rfl (by omega) _ K7.out.r).mono ?_)
        rw [H6.out]
        rintro e8 w8 ⟨A3, m3, c3, rfl, ob8, _, _, hr8, ho8'⟩
        have ho8 := Lib.hid ho8'
        have O8 := Lib.hid (ob8.base (B' := w.heap.size + 1 + 1 + 1) (by have := K7.out.r.lt; omega))
        have K8 := Lib.hid (K7.out.num HXX.out.1 HXX.out.2 hr8 ho8.out)
        simp only at O8
        clear hr8 ob8 ho8'
        have O7b := Lib.hid (O7.out.onlyA ho8.out (fun a ha => by have := (O7.out.blk a ha).1; omega))
        have ff8 := K8.out.f.frozen 9
        have cc8 := K8.out.f.cell 9 _ rfl
        have K9 := Lib.hid (K8.out.put (Nat.le_refl _) (Nat.le_succ _) HXX.out.2 9 (.slice A3 m3 c3))
        go_wp2_with fail
        go_meet
        exact ⟨{ Fr.of (X : Int) with n := v1, cid := o5, tok := o6 }, s6, RdE.of (pl := { Fp.nil with ca := A2, cn := m2, cc := c2, ta := A3, tn := m3, tc := c3 }) K9.out ⟨OwnR.nil _ _, Own.nil _ _, (O7b.out.onlyA ((Only.refl (w.heap.size + 1) w8).setCell 9 (.slice A3 m3 c3)) (fun a ha => by have := (O7b.out.blk a ha).1; omega)), (O8.out.onlyA ((Only.refl (w.heap.size + 1) w8).setCell 9 (.slice A3 m3 c3)) (fun a ha => by have := (O8.out.blk a ha).1; omega))⟩ G.out⟩
      · clear HLN O4
        subst hq
        rw [hs4] at K4
        have KX := K4
        clear K4 hs4
        go_wp2_with fail
        clear e4c e4f t8 cy
        go_wp2_with fail
        (with_reducible refine (HBY.out s4 8 8 rfl (by omega) _ KX.out.r).mono ?_)
        rw [H5.out]
        rintro e6 w6 ⟨A2, m2, c2, rfl, ob6, _, _, hr6, ho6'⟩
        have ho6 := Lib.hid ho6'
        have O6 := Lib.hid (ob6.base (B' := w.heap.size + 1 + 1 + 1) (by have := KX.out.r.lt; omega))
        have K6 := Lib.hid (KX.out.num HXX.out.1 HXX.out.2 hr6 ho6.out)
        simp only at O6
        clear hr6 ob6 ho6'
        have ff6 := K6.out.f.frozen 8
        have cc6 := K6.out.f.cell 8 _ rfl
        have K7 := Lib.hid (K6.out.put (Nat.le_refl _) (Nat.le_succ _) HXX.out.2 8 (.slice A2 m2 c2))
        have O7 := Lib.hid (O6.out.onlyA ((Only.refl (w.heap.size + 1) w6).setCell 8 (.slice A2 m2 c2)) (fun a ha => by have := (O6.out.blk a ha).1; omega))
        go_wp2_with fail
        (with_reducible refine (HBY.out s5 16 16 rfl (by omega) _ K7.out.r).mono ?_)
        rw [H6.out]
        rintro e8 w8 ⟨A3, m3, c3, rfl, ob8, _, _, hr8, ho8'⟩
        have ho8 := Lib.hid ho8'
        have O8 := Lib.hid (ob8.base (B' := w.heap.size + 1 + 1 + 1) (by have := K7.out.r.lt; omega))
        have K8 := Lib.hid (K7.out.num HXX.out.1 HXX.out.2 hr8 ho8.out)
        simp only at O8
        clear hr8 ob8 ho8'
        have O7b := Lib.hid (O7.out.onlyA ho8.out (fun a ha => by have := (O7.out.blk a ha).1; omega))
        have ff8 := K8.out.f.frozen 9
        have cc8 := K8.out.f.cell 9 _ rfl
        have K9 := Lib.hid (K8.out.put (Nat.le_refl _) (Nat.le_succ _) HXX.out.2 9 (.slice A3 m3 c3))
        go_wp2_with fail
        go_meet
        exact ⟨{ Fr.of (X : Int) with n := v1, cid := o5, tok := o6 }, s6, RdE.of (pl := { Fp.nil with ca := A2, cn := m2, cc := c2, ta := A3, tn := m3, tc := c3 }) K9.out ⟨OwnR.nil _ _, Own.nil _ _, (O7b.out.onlyA ((Only.refl (w.heap.size + 1) w8).setCell 9 (.slice A3 m3 c3)) (fun a ha => by have := (O7b.out.blk a ha).1; omega)), (O8.out.onlyA ((Only.refl (w.heap.size + 1) w8).setCell 9 (.slice A3 m3 c3)) (fun a ha => by have := (O8.out.blk a ha).1; omega))⟩ G.out⟩
      · clear HLN O4
        subst hq
        have KX : Hid (RdF wz (w4.setCell ⟨w.heap.size + 1 + 1, 2, none⟩ (.int .i64 5)) w.heap.size (w.heap.size + 1) (w.heap.size + 1 + 1) (w.heap.size + 1) b (p3, 5) _) := K4.out.setE HXX.out.1 HXX.out.2 5
        rw [hs4] at KX
        clear K4 hs4
        go_wp2_with fail
        clear e4c e4f t8 cy
        go_wp2_with fail
        (with_reducible refine (HBY.out s4 8 8 rfl (by omega) _ KX.out.r).mono ?_)
        rw [H5.out]
        rintro e6 w6 ⟨A2, m2, c2, rfl, ob6, _, _, hr6, ho6'⟩
        have ho6 := Lib.hid ho6'
        have O6 := Lib.hid (ob6.base (B' := w.heap.size + 1 + 1 + 1) (by have := KX.out.r.lt; omega))
        have K6 := Lib.hid (KX.out.num HXX.out.1 HXX.out.2 hr6 ho6.out)
        simp only at O6
        clear hr6 ob6 ho6'
        have ff6 := K6.out.f.frozen 8
        have cc6 := K6.out.f.cell 8 _ rfl
        have K7 := Lib.hid (K6.out.put (Nat.le_refl _) (Nat.le_succ _) HXX.out.2 8 (.slice A2 m2 c2))
        have O7 := Lib.hid (O6.out.onlyA ((Only.refl (w.heap.size + 1) w6).setCell 8 (.slice A2 m2 c2)) (fun a ha => by have := (O6.out.blk a ha).1; omega))
        go_wp2_with fail
        (with_reducible refine (HBY.out s5 16 16 rfl (by omega) _ K7.out.r).mono ?_)
        rw [H6.out]
        rintro e8 w8 ⟨A3, m3, c3, rfl, ob8, _, _, hr8, ho8'⟩
        have ho8 := Lib.hid ho8'
        have O8 := Lib.hid (ob8.base (B' := w.heap.size + 1 + 1 + 1) (by have := K7.out.r.lt; omega))
        have K8 := Lib.hid (K7.out.num HXX.out.1 HXX.out.2 hr8 ho8.out)
        simp only at O8
        clear hr8 ob8 ho8'
        have O7b := Lib.hid (O7.out.onlyA ho8.out (fun a ha => by have := (O7.out.blk a ha).1; omega))
        have ff8 := K8.out.f.frozen 9
        have cc8 := K8.out.f.cell 9 _ rfl
        have K9 := Lib.hid (K8.out.put (Nat.le_refl _) (Nat.le_succ _) HXX.out.2 9 (.slice A3 m3 c3))
        go_wp2_with fail
        go_meet
        exact ⟨{ Fr.of (X : Int) with n := v1, cid := o5, tok := o6 }, s6, RdE.of (pl := { Fp.nil with ca := A2, cn := m2, cc := c2, ta := A3, tn := m3, tc := c3 }) K9.out ⟨OwnR.nil _ _, Own.nil _ _, (O7b.out.onlyA ((Only.refl (w.heap.size + 1) w8).setCell 9 (.slice A3 m3 c3)) (fun a ha => by have := (O7b.out.blk a ha).1; omega)), (O8.out.onlyA ((Only.refl (w.heap.size + 1) w8).setCell 9 (.slice A3 m3 c3)) (fun a ha => by have := (O8.out.blk a ha).1; omega))⟩ G.out⟩
    · -- kind 26
      have q_0 : ((X : Int) == 0) = false := by simp; omega
      have q_1 : ((X : Int) == 1) = false := by simp; omega
      have q_30 : ((X : Int) == 30) = false := by simp; omega
      have q_2 : ((X : Int) == 2) = false := by simp; omega
      have q_14 : ((X : Int) == 14) = false := by simp; omega
      have q_15 : ((X : Int) == 15) = false := by simp; omega
      have q_6 : ((X : Int) == 6) = false := by simp; omega
      have q_16 : ((X : Int) == 16) = false := by simp; omega
      have q_25 : ((X : Int) == 25) = false := by simp; omega
      have q_28 : ((X : Int) == 28) = false := by simp; omega
      have q_24 : ((X : Int) == 24) = false := by simp; omega
      have q_26 : ((X : Int) == 26) = true := by simp; omega
      have q_27 : ((X : Int) == 27) = false := by simp; omega
      obtain ⟨⟨d1, s1⟩, h1⟩ : ∃ y, bytesS b (1, 0) 8 = y := ⟨_, rfl⟩
      have H1 := Lib.hid h1
      have G := Lib.hid (g_eight HBE.out (by rw [HX.out]; omega) d1 s1 h1)
      rw [HX.out] at G
      clear hx h1
      obtain ⟨s0, hs0⟩ : ∃ s, ((1, 0) : Nat × Nat) = s := ⟨_, rfl⟩
      rw [hs0] at K0 H1
      clear hs0
      go_wp2_with fail
      (with_reducible refine (HBY.out s0 8 8 rfl (by omega) _ K0.out.r).mono ?_)
      rw [H1.out]
      rintro e1 w1 ⟨A1, m1, c1, rfl, ob1, _, _, hr1, ho1'⟩
      have ho1 := Lib.hid ho1'
      have O1 := Lib.hid (ob1.base (B' := w.heap.size + 1 + 1 + 1) (by have := K0.out.r.lt; omega))
      have K1 := Lib.hid (K0.out.num HXX.out.1 HXX.out.2 hr1 ho1.out)
      simp only at O1
      clear hr1 ob1 ho1'
      have ff1 := K1.out.f.frozen 7
      have cc1 := K1.out.f.cell 7 _ rfl
      have K2 := Lib.hid (K1.out.put (Nat.le_refl _) (Nat.le_succ _) HXX.out.2 7 (.slice A1 m1 c1))
      go_wp2_with fail
      go_meet
      exact ⟨{ Fr.of (X : Int) with data := d1 }, s1, RdE.of (pl := { Fp.nil with da := A1, dn := m1, dc := c1 }) K2.out ⟨OwnR.nil _ _, (O1.out.onlyA ((Only.refl _ _).setCell 7 (.slice A1 m1 c1)) (fun a ha => by have := (O1.out.blk a ha).1; omega)), Own.nil _ _, Own.nil _ _⟩ G.out⟩
    · -- kind 27
      have q_0 : ((X : Int) == 0) = false := by simp; omega
      have q_1 : ((X : Int) == 1) = false := by simp; omega
      have q_30 : ((X : Int) == 30) = false := by simp; omega
      have q_2 : ((X : Int) == 2) = false := by simp; omega
      have q_14 : ((X : Int) == 14) = false := by simp; omega
      have q_15 : ((X : Int) == 15) = false := by simp; omega
      have q_6 : ((X : Int) == 6) = false := by simp; omega
      have q_16 : ((X : Int) == 16) = false := by simp; omega
      have q_25 : ((X : Int) == 25) = false := by simp; omega
      have q_28 : ((X : Int) == 28) = false := by simp; omega
      have q_24 : ((X : Int) == 24) = false := by simp; omega
      have q_26 : ((X : Int) == 26) = false := by simp; omega
      have q_27 : ((X : Int) == 27) = true := by simp; omega
      obtain ⟨⟨d1, s1⟩, h1⟩ : ∃ y, bytesS b (1, 0) 8 = y := ⟨_, rfl⟩
      have H1 := Lib.hid h1
      have G := Lib.hid (g_eight HBE.out (by rw [HX.out]; omega) d1 s1 h1)
      rw [HX.out] at G
      clear hx h1
      obtain ⟨s0, hs0⟩ : ∃ s, ((1, 0) : Nat × Nat) = s := ⟨_, rfl⟩
      rw [hs0] at K0 H1
      clear hs0
      go_wp2_with fail
      (with_reducible refine (HBY.out s0 8 8 rfl (by omega) _ K0.out.r).mono ?_)
      rw [H1.out]
      rintro e1 w1 ⟨A1, m1, c1, rfl, ob1, _, _, hr1, ho1'⟩
      have ho1 := Lib.hid ho1'
      have O1 := Lib.hid (ob1.base (B' := w.heap.size + 1 + 1 + 1) (by have := K0.out.r.lt; omega))
      have K1 := Lib.hid (K0.out.num HXX.out.1 HXX.out.2 hr1 ho1.out)
      simp only at O1
      clear hr1 ob1 ho1'
      have ff1 := K1.out.f.frozen 7
      have cc1 := K1.out.f.cell 7 _ rfl
      have K2 := Lib.hid (K1.out.put (Nat.le_refl _) (Nat.le_succ _) HXX.out.2 7 (.slice A1 m1 c1))
      go_wp2_with fail
      go_meet
      exact ⟨{ Fr.of (X : Int) with data := d1 }, s1, RdE.of (pl := { Fp.nil with da := A1, dn := m1, dc := c1 }) K2.out ⟨OwnR.nil _ _, (O1.out.onlyA ((Only.refl _ _).setCell 7 (.slice A1 m1 c1)) (fun a ha => by have := (O1.out.blk a ha).1; omega)), Own.nil _ _, Own.nil _ _⟩ G.out⟩
    · -- no kind
      have q_0 : ((X : Int) == 0) = false := by simp; omega
      have q_1 : ((X : Int) == 1) = false := by simp; omega
      have q_30 : ((X : Int) == 30) = false := by simp; omega
      have q_2 : ((X : Int) == 2) = false := by simp; omega
      have q_14 : ((X : Int) == 14) = false := by simp; omega
      have q_15 : ((X : Int) == 15) = false := by simp; omega
      have q_6 : ((X : Int) == 6) = false := by simp; omega
      have q_16 : ((X : Int) == 16) = false := by simp; omega
      have q_25 : ((X : Int) == 25) = false := by simp; omega
      have q_28 : ((X : Int) == 28) = false := by simp; omega
      have q_24 : ((X : Int) == 24) = false := by simp; omega
      have q_26 : ((X : Int) == 26) = false := by simp; omega
      have q_27 : ((X : Int) == 27) = false := by simp; omega
      have G := Lib.hid (g_kind HBE.out (by rw [HX.out]; exact hx0) (by rw [HX.out]; omega))
      clear hx hx0
      have HSZ0 : Hid ((Try.prog.info? 26).map (·.size) = some fr0.length) := fr_size
      go_wp2_with ((with_reducible refine wpList_store_rw rfl 26 (.tmp 2) (.tmp 26) rfl w.heap.size fr0 ?hx ?hy 26 fr0 HZR.out HSZ0.out rfl fr0_one ?_); (case hx => with_unfolding_all rfl); (case hy => with_unfolding_all rfl); intro w98 R98 O98)
      refine ret_rw2 rfl w.heap.size 26 fr0 _ rfl R98.out Try.underlying26 rfl fr_size rfl ?_
      rw [G.out]
      exact ⟨Fp.nil, rfl, FrO.nil _ _ _, HBZ.out.trans (O98.out.below HBZ.out.size (Nat.le_refl _))⟩
  case rest =>
    obtain ⟨F, ⟨p, q⟩, E⟩ := hcut
    have HE := Lib.hid E
    have c2 : wc.cell? ⟨w.heap.size + 1 + 1, 2, none⟩ = some (.int .i64 (q : Int)) := by
      obtain ⟨T, A, m, c, hr, _⟩ := E.r
      exact hr.cell 2 _ rfl
    have c1 : wc.cell? ⟨w.heap.size + 1 + 1, 1, none⟩ = some (.int .i64 (p : Int)) := by
      obtain ⟨T, A, m, c, hr, _⟩ := E.r
      exact hr.cell 1 _ rfl
    have HZ : Hid (Rw wc w.heap.size 26 fr0) := HZR.out.belowB E.b (Nat.lt_succ_self _)
    have HB : Hid (Below w.heap.size w wc) := HBZ.out.trans (E.b.mono (Nat.le_succ _))
    have HLT : Hid (w.heap.size + 1 + 1 < wc.heap.size) := E.r.lt
    clear E K0 HN HBY HXX HCZ hfr hX256
    by_cases hq : q = 0
    · subst hq
      obtain ⟨pl, rf, of⟩ := HE.out.f rfl
      have RF := Lib.hid rf
      have OF := Lib.hid of
      obtain ⟨hv, ehv⟩ : ∃ y, frV F pl = y := ⟨_, rfl⟩
      have HONE : Hid (∀ v ∈ hv, v.oneCell' = true) := ehv ▸ frV_one F pl
      have HLN : Hid (hv.length = 10) := ehv ▸ frV_len F pl
      have HSZ : Hid ((Try.prog.info? 26).map (·.size) = some hv.length) := by rw [HLN.out]; exact fr_size
      have HL2 : Hid (fr0.length = hv.length) := show _ = _ by rw [HLN.out]; rfl
      rw [ehv] at RF
      have HV := Lib.hid ehv
      clear ehv rf of
      go_wp2_with fail
      clear c2
      refine wp_held (S := fun u => u.rangeAt (w.heap.size + 1) 0 hv ∧ u.cell? ⟨w.heap.size + 1 + 1, 1, none⟩ = some (.int .i64 (p : Int))) (by kernel_rfl) ?_
      have hS : (wc.drew).rangeAt (w.heap.size + 1) 0 hv ∧ (wc.drew).cell? ⟨w.heap.size + 1 + 1, 1, none⟩ = some (.int .i64 (p : Int)) := ⟨(RF.out.drew).range, c1⟩
      refine wpAnyH_pickG 0 (.agg hv.toArray) rfl (by kernel_rfl) (by kernel_rfl) (by kernel_rfl) (by rfl) (fun _ _ _ h => h) (fun u hu => exec_load_mid u 26 (.tmp 5) rfl (w.heap.size + 1) 0 (by with_unfolding_all rfl) hv _ hu.1 Try.underlying26 rfl HSZ.out) hS ?_
      go_simp
      refine wpAnyH_take (i := 1) (v := ?_) rfl (by kernel_rfl) (by kernel_rfl) (by kernel_rfl) (fun _ _ _ h => h) (Or.inl ⟨by rfl, ?_⟩) hS ?_
      rotate_left 1
      · intro u hu
        go_simp
        first | done | with_reducible rfl
      go_simp
      refine wpAnyH_take (i := 2) (v := ?_) rfl (by kernel_rfl) (by kernel_rfl) (by kernel_rfl) (fun _ _ _ h => h) (Or.inl ⟨by rfl, ?_⟩) hS ?_
      rotate_left 1
      · intro u hu
        go_simp
        first | done | with_reducible rfl
      go_simp
      refine wpAnyH_take (i := 3) (v := ?_) rfl (by kernel_rfl) (by kernel_rfl) (by kernel_rfl) (fun _ _ _ h => h) (Or.inl ⟨by rfl, ?_⟩) hS ?_
      rotate_left 1
      · intro u hu
        go_simp
        first | done | with_reducible rfl
      go_simp
      refine wpAnyH_take (i := 4) (v := ?_) rfl (by kernel_rfl) (by kernel_rfl) (by kernel_rfl) (fun _ _ _ h => h) (Or.inl ⟨by rfl, ?_⟩) hS ?_
      rotate_left 1
      · intro u hu
        have q1 := hu.2
        go_simp
        first | done | with_reducible rfl
      go_simp
      refine wpAnyH_oneG 5 (by kernel_rfl) rfl (by rfl) ?_
      refine wp_store_rw 26 (.tmp 2) (.tmp 158) rfl w.heap.size hv (by with_unfolding_all rfl) (by with_unfolding_all rfl) 26 fr0 (HZ.out.drew) HSZ.out HL2.out HONE.out ?_
      intro w5 R5 O5
      have hS5 : w5.rangeAt (w.heap.size + 1) 0 hv ∧ w5.cell? ⟨w.heap.size + 1 + 1, 1, none⟩ = some (.int .i64 (p : Int)) := ⟨range_only (w := wc.drew) hS.1 O5.out (by omega) (by have := HLT.out; exact Nat.lt_of_succ_lt this), (World.cell?_of_block (w := wc.drew) (w' := w5) (a := ⟨w.heap.size + 1 + 1, 1, none⟩) (O5.out.block (w.heap.size + 1 + 1) HLT.out (by omega))).trans hS.2⟩
      refine ⟨hS5, ?_⟩
      clear hS
      refine wpAnyH_take (i := 6) (v := ?_) rfl (by kernel_rfl) (by kernel_rfl) (by kernel_rfl) (fun _ _ _ h => h) (Or.inl ⟨by rfl, ?_⟩) hS5 ?_
      rotate_left 1
      · intro u hu
        go_simp
        first | done | with_reducible rfl
      go_simp
      refine wpAnyH_take (i := 7) (v := ?_) rfl (by kernel_rfl) (by kernel_rfl) (by kernel_rfl) (fun _ _ _ h => h) (Or.inl ⟨by rfl, ?_⟩) hS5 ?_
      rotate_left 1
      · intro u hu
        go_simp
        first | done | with_reducible rfl
      go_simp
      refine wpAnyH_done (by kernel_rfl) ?_ _
      go_wp2_with fail
      refine ret_rw2 rfl w.heap.size 26 hv _ rfl R5.out Try.underlying26 rfl HSZ.out rfl ?_
      rw [HE.out.t]
      have he : endS F (p, 0) = ((F, p), 0) := rfl
      rw [he, ← HV.out]
      exact ⟨pl, rfl, ((OF.out.below (w' := wc.drew) ⟨rfl, rfl, rfl, Nat.le_refl _, fun _ _ => rfl⟩).only O5.out (by omega)).base (by omega), (show Below w.heap.size w wc.drew from ⟨HB.out.os, HB.out.tape, HB.out.output, HB.out.size, HB.out.block⟩).trans (O5.out.below HB.out.size (Nat.le_refl _))⟩
    · have t1 : ((q : Int) != 0) = true := by simp; omega
      have HQ := Lib.hid hq
      clear hq
      go_wp2_with fail
      clear t1
      refine wp_held (S := fun u => u.cell? ⟨w.heap.size + 1 + 1, 2, none⟩ = some (.int .i64 (q : Int))) (by kernel_rfl) ?_
      have hS : (wc.drew).cell? ⟨w.heap.size + 1 + 1, 2, none⟩ = some (.int .i64 (q : Int)) := c2
      refine wpAnyH_take (i := 0) (v := ?_) rfl (by kernel_rfl) (by kernel_rfl) (by kernel_rfl) (fun _ _ _ h => h) (Or.inl ⟨by rfl, ?_⟩) hS ?_
      rotate_left 1
      · intro u hu
        go_simp
        first | done | with_reducible rfl
      go_simp
      refine wpAnyH_take (i := 1) (v := ?_) rfl (by kernel_rfl) (by kernel_rfl) (by kernel_rfl) (fun _ _ _ h => h) (Or.inl ⟨by rfl, ?_⟩) hS ?_
      rotate_left 1
      · intro u hu
        go_simp
        first | done | with_reducible rfl
      go_simp
      refine wpAnyH_take (i := 2) (v := ?_) rfl (by kernel_rfl) (by kernel_rfl) (by kernel_rfl) (fun _ _ _ h => h) (Or.inl ⟨by rfl, ?_⟩) hS ?_
      rotate_left 1
      · intro u hu
        go_simp
        first | done | with_reducible rfl
      go_simp
      refine wpAnyH_take (i := 3) (v := ?_) rfl (by kernel_rfl) (by kernel_rfl) (by kernel_rfl) (fun _ _ _ h => h) (Or.inl ⟨by rfl, ?_⟩) hS ?_
      rotate_left 1
      · intro u hu
        go_simp
        first | done | with_reducible rfl
      go_simp
      refine wpAnyH_take (i := 4) (v := ?_) rfl (by kernel_rfl) (by kernel_rfl) (by kernel_rfl) (fun _ _ _ h => h) (Or.inl ⟨by rfl, ?_⟩) hS ?_
      rotate_left 1
      · intro u hu
        have q1 := hu
        go_simp
        first | done | with_reducible rfl
      go_simp
      refine wpAnyH_oneG 5 (by kernel_rfl) rfl (by rfl) ?_
      refine wp_store_rw 26 (.tmp 2) (.tmp 153) rfl w.heap.size fr0 (by with_unfolding_all rfl) (by with_unfolding_all rfl) 26 fr0 (HZ.out.drew) fr_size rfl fr0_one ?_
      intro w5 R5 O5
      have hS5 : w5.cell? ⟨w.heap.size + 1 + 1, 2, none⟩ = some (.int .i64 (q : Int)) := (World.cell?_of_block (w := wc.drew) (w' := w5) (a := ⟨w.heap.size + 1 + 1, 2, none⟩) (O5.out.block (w.heap.size + 1 + 1) HLT.out (by omega))).trans hS
      refine ⟨hS5, ?_⟩
      clear hS
      refine wpAnyH_take (i := 6) (v := ?_) rfl (by kernel_rfl) (by kernel_rfl) (by kernel_rfl) (fun _ _ _ h => h) (Or.inl ⟨by rfl, ?_⟩) hS5 ?_
      rotate_left 1
      · intro u hu
        go_simp
        first | done | with_reducible rfl
      go_simp
      refine wpAnyH_take (i := 7) (v := ?_) rfl (by kernel_rfl) (by kernel_rfl) (by kernel_rfl) (fun _ _ _ h => h) (Or.inl ⟨by rfl, ?_⟩) hS5 ?_
      rotate_left 1
      · intro u hu
        go_simp
        first | done | with_reducible rfl
      go_simp
      refine wpAnyH_done (by kernel_rfl) ?_ _
      go_wp2_with fail
      refine ret_rw2 rfl w.heap.size 26 fr0 _ rfl R5.out Try.underlying26 rfl fr_size rfl ?_
      rw [HE.out.t]
      have he : endS F (p, q) = ((Fr.of 0, 0), q) := by unfold endS; rw [if_neg HQ.out]
      rw [he]
      exact ⟨Fp.nil, rfl, FrO.nil _ _ _, (show Below w.heap.size w wc.drew from ⟨HB.out.os, HB.out.tape, HB.out.output, HB.out.size, HB.out.block⟩).trans (O5.out.below HB.out.size (Nat.le_refl _))⟩
end Go.Proofs.Ytafbhjhdnchfbaa
