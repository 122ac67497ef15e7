/-
  The document's own round keys.
-/
import Derived.Test.YtjnclcehnpkncaaAesT
import Derived.Test.YtjnclcehnpkncaaAesE
namespace Go.Proofs.Ytjnclcehnpkncaa
open Go.RowKit
set_option linter.unusedVariables false

theorem zeroCol (u : World) : (zeroValue 69).run Try.prog u = .ok (.agg (bvs (List.replicate 4 0)).toArray) u := (zero_of_info (n := 4) (by kernel_rfl)).1 u
theorem built_col (a b c d : UInt8) : Try.prog.built 69 [(0, .int .u8 (bn a)), (1, .int .u8 (bn b)), (2, .int .u8 (bn c)), (3, .int .u8 (bn d))] = some (bvs [a, b, c, d]).toArray := by kernel_rfl
theorem exec_build {P : Program} {o : Oper} {a : Act} (u : World) (t : TypeId) (parts : Array (Nat × Operand)) (ho : o.op = .build t parts) (cells : Array Value) (hf : P.built t (parts.map fun (i, x) => (i, a.eval x)).toList = some cells) :
    (execOp a.eval o).run P u = .ok (.value (.agg cells)) u := by
  unfold execOp
  simp only [ho, Sem.run_bind, run_build u t _ cells hf, Result.andThen_ok, Sem.run_pure]
structure RK (w wr : World) (g3 g4 n : Nat) (key : List UInt8) : Prop where
  r : Blk wr (w.heap.size + 1) 60 z176
  x : Blk wr g3 62 boxT
  o : Blk wr g4 60 (mixr (keysV key) z176 n)
  b : Below w.heap.size w wr
  o3 : w.heap.size + 1 < g3
  o4 : g3 < g4
section
variable {w wr wx : World} {g3 g4 n : Nat} {key : List UInt8}
theorem RK.drew (h : RK w wr g3 g4 n key) : RK w wr.drew g3 g4 n key := ⟨h.r, h.x, h.o, h.b.drew, h.o3, h.o4⟩
theorem RK.below (h : RK w wr g3 g4 n key) (hb : Below wr.heap.size wr wx) : RK w wx g3 g4 n key := ⟨h.r.below hb, h.x.below hb, h.o.below hb, h.b.trans (hb.mono h.b.size), h.o3, h.o4⟩
theorem RK.only {g : Nat} (h : RK w wr g3 g4 n key) (ho : Only g wr wx) (hg : g4 < g) : RK w wx g3 g4 n key := by
  have h3 := h.o3
  have h4 := h.o4
  exact ⟨h.r.only ho (by omega), h.x.only ho (by omega), h.o.only ho (by omega), h.b.trans (ho.below h.b.size (by omega)), h3, h4⟩
theorem RK.put (h : RK w wr g3 g4 n key) (hk : key.length = 16) (hn : n < 176) (y : UInt8) (hy : y = (keysV key).getD n 0) : RK w (wr.setCell ⟨g4, n, none⟩ (.int .u8 (bn y))) g3 g4 (n + 1) key := by
  have h3 := h.o3
  have h4 := h.o4
  subst hy
  refine ⟨h.r.other _ _ _ (by omega), h.x.other _ _ _ (by omega), ?_, h.b.setCell (by show _ ≤ g4; omega) _, h3, h4⟩
  rw [← mixr_set _ _ _ (by rw [keysV_length key hk, z176_length]) (by rw [z176_length]; exact hn)]
  exact h.o.put _ _
end
theorem kt_get (p : List UInt8) (r : UInt8) : ktV p r = [boxV (p.getD 13 0) ^^^ r, boxV (p.getD 14 0), boxV (p.getD 15 0), boxV (p.getD 12 0)] := rfl

attribute [local go_sem] u8_xor'
set_option maxRecDepth 4000 in
set_option maxHeartbeats 4000000 in
theorem rkeys_any (key : List UInt8) (hk : key.length = 16) (w : World) :
    Calls Try.prog 35 #[.agg (bvs key).toArray] w fun e w' => e = .returned (.agg (bvs (keysV key)).toArray) ∧ Below w.heap.size w w' := by
  have Hk := Lib.hid hk
  have HL := Lib.hid (keysV_length key hk)
  have HZ := zero176v
  have HZ2 := zero256v
  have HM : Hid (∀ i, (mixr (keysV key) z176 i).length = 176) := fun i => by rw [mixr_length _ _ _ (by rw [keysV_length key hk, z176_length]), z176_length]
  have H0 : Hid (splice z176 0 key = mixr (keysV key) z176 16) := by
    show _ = _
    have e := keys_next key hk 0 (by omega)
    rw [Nat.zero_mul, mixr_zero] at e
    exact e
  clear hk
  go_enter Try.func35, Try.ntmps35
  go_wp2_with (first
    | (go_at_call 36; (with_reducible refine (boxes_any _).mono ?_); rintro e1 w1 ⟨rfl, hb1⟩;
        have I1 : Hid (Blk w1 w.heap.size 22 key) := Blk.below (heap_allocs w [_, _] 0 _ rfl) hb1;
        have R1 : Hid (Blk w1 (w.heap.size + 1) 60 z176) := Blk.below (heap_allocs w [_, _] 1 _ rfl) hb1;
        have B1 : Hid (Below w.heap.size w w1) := (((Below.refl _ _).alloc (Nat.le_refl _) _).alloc (by simp) _).trans (hb1.mono (by simp; omega));
        clear hb1)
    | ((with_reducible refine wpList_store_blk rfl 62 (.tmp 3) (.tmp 10) rfl w1.heap.size boxT ?hx ?hy 62 z256 ?hg 256 size256 boxT_length z256_length ?_); (case hx => with_unfolding_all rfl); (case hy => with_unfolding_all rfl); (case hg => exact heap_alloc_new _ _); intro w2 X2 O2;
        have hg3 : w.heap.size + 1 < w1.heap.size := R1.out.lt;
        have I2 : Hid (Blk w2 w.heap.size 22 key) := (I1.out.alloc _).only O2.out (by omega))
    | ((with_reducible refine wpList_load_blk rfl 22 (.tmp 1) rfl w.heap.size ?hx 22 key (I2.out.alloc _) 16 5 Try.underlying22 16 sizeRow Hk.out ?_); (case hx => with_unfolding_all rfl))
    | ((with_reducible refine wpList_store_part rfl 22 (.tmp 12) (.tmp 11) rfl w2.heap.size 0 key ?hx ?hy 60 z176 ?hg 16 sizeRow Hk.out ?hl ?_); (case hx => with_unfolding_all rfl); (case hy => with_unfolding_all rfl); (case hg => exact heap_alloc_new _ _); (case hl => rw [z176_length]; omega); rw [H0.out]; intro w3 O3 N3))
  have R2 : Hid (Blk w2 (w.heap.size + 1) 60 z176) := (R1.out.alloc _).only O2.out (by omega)
  have B2 : Hid (Below w.heap.size w w2) := (B1.out.alloc B1.out.size _).trans (O2.out.below (by simp; omega) (by omega))
  have hg4 : w1.heap.size < w2.heap.size := X2.out.lt
  have HS : Hid (RK w w3 w1.heap.size w2.heap.size (1 * 16) key) :=
    ⟨(R2.out.alloc _).only N3.out (by omega), (X2.out.alloc _).only N3.out (by omega), O3.out, (B2.out.alloc B2.out.size _).trans (N3.out.below (by simp; omega) (by omega)), hg3, hg4⟩
  obtain ⟨g3, eg3⟩ : ∃ g, w1.heap.size = g := ⟨_, rfl⟩
  obtain ⟨g4, eg4⟩ : ∃ g, w2.heap.size = g := ⟨_, rfl⟩
  rw [eg3, eg4] at HS ⊢
  clear I1 R1 B1 X2 O2 hg3 I2 O3 N3 R2 B2 hg4 eg3 eg4
  go_loopw [5, 6] (fun vr vk wr => ∃ k : Nat, 1 ≤ k ∧ k ≤ 11 ∧ vk = .int .i64 k ∧ vr = .int .u8 (bn (rconU (k - 1))) ∧ Hid (RK w wr g3 g4 (k * 16) key)) (fun _ vk _ => 11 - (intOf vk).toNat)
  case atStart => exact ⟨1, by omega, by omega, rfl, rfl, HS⟩
  case round =>
    clear HS
    obtain ⟨k, hk1, hk, rfl, rfl, HS⟩ := hrel
    by_cases hlt : k < 11
    · obtain ⟨m, em, hm⟩ : ∃ m : Nat, (k : Int) - 1 = (m : Int) ∧ Hid (k - 1 = m) := ⟨k - 1, by omega, rfl⟩
      have lm : (m : Int) < 11 := by omega
      have lk : (k : Int) < 11 := by omega
      obtain ⟨r, hr⟩ : ∃ r, rconU (k - 1) = r := ⟨_, rfl⟩
      rw [hr]
      rw [hm.out] at hr
      obtain ⟨p, hp⟩ : ∃ p, rkV key m = p := ⟨_, rfl⟩
      have hpl : p.length = 16 := by rw [← hp]; exact rkV_length key Hk.out m
      have HPL := Lib.hid hpl
      have HPR : Hid (p.length = 16) := hpl
      have RG : Hid (wr.rangeAt g4 (m * 16) (bvs p)) := by
        have e := HS.out.o.rangeMid (m * 16) 16
        rw [mixr_part _ _ _ _ _ (by rw [HL.out, z176_length]) (by rw [z176_length]; omega) (by have := hm.out; omega), keysV_part key Hk.out m (by omega), hp] at e
        exact e
      have HN : Hid (rkV key k = nkUp p (ktV p r) 16) := by
        show _ = _
        rw [show k = m + 1 by have := hm.out; omega, rkV, hr, hp]
      have HE : Hid (dblV r = rconU (k + 1 - 1)) := by
        show _ = _
        rw [show k + 1 - 1 = m + 1 by have := hm.out; omega, rconU, hr]
      have HKG : Hid (∀ i, i < 16 → (keysV key).getD (k * 16 + i) 0 = p.getD i 0 ^^^ (if i < 4 then (ktV p r).getD i 0 else (keysV key).getD (k * 16 + i - 4) 0)) := fun i hi => by
        rw [keysV_get key Hk.out k i hlt hi, HN.out, nk_get p (ktV p r) 16 i hi]
        congr 1
        by_cases h4 : i < 4
        · rw [if_pos h4, if_pos h4]
        · rw [if_neg h4, if_neg h4, show k * 16 + i - 4 = k * 16 + (i - 4) by omega, keysV_get key Hk.out k (i - 4) hlt (by omega), HN.out]
      clear hr hp hpl
      go_wp2_with (first
        | ((with_reducible refine wpList_load_part rfl 22 (.tmp 19) rfl g4 (m * 16) ?hx p RG.out 16 5 Try.underlying22 16 sizeRow HPL.out ?_); (case hx => with_unfolding_all rfl))
        | ((with_reducible refine wpList_store_blk rfl 22 (.tmp 7) (.tmp 20) rfl wr.heap.size p ?hx ?hy 22 (List.replicate 16 0) ?hg 16 sizeRow HPL.out rfl ?_); (case hx => with_unfolding_all rfl); (case hy => with_unfolding_all rfl); (case hg => exact heap_alloc_new _ _); intro w4 P4 O4))
      have hgp : g4 < wr.heap.size := HS.out.o.lt
      have S4 : Hid (RK w w4 g3 g4 (k * 16) key) := (HS.out.below ((Below.refl _ _).alloc (Nat.le_refl _) _)).only O4.out hgp
      obtain ⟨gp, egp⟩ : ∃ g, wr.heap.size = g := ⟨_, rfl⟩
      rw [egp] at P4 hgp ⊢
      have HGP := Lib.hid hgp
      clear HS RG O4 hgp egp
      obtain ⟨q13, e13⟩ : ∃ x, Hid (p.getD 13 0 = x) := ⟨_, rfl⟩
      obtain ⟨q14, e14⟩ : ∃ x, Hid (p.getD 14 0 = x) := ⟨_, rfl⟩
      obtain ⟨q15, e15⟩ : ∃ x, Hid (p.getD 15 0 = x) := ⟨_, rfl⟩
      obtain ⟨q12, e12⟩ : ∃ x, Hid (p.getD 12 0 = x) := ⟨_, rfl⟩
      have HT : Hid ([boxV q13 ^^^ r, boxV q14, boxV q15, boxV q12] = ktV p r) := show _ = _ by rw [kt_get, e13.out, e14.out, e15.out, e12.out]
      have HCP : Hid (∀ u : World, Blk u gp 22 p → u.cell? ⟨gp, 13, none⟩ = some (.int .u8 (bn q13)) ∧ u.cell? ⟨gp, 14, none⟩ = some (.int .u8 (bn q14)) ∧ u.cell? ⟨gp, 15, none⟩ = some (.int .u8 (bn q15)) ∧ u.cell? ⟨gp, 12, none⟩ = some (.int .u8 (bn q12))) := fun u hu =>
        ⟨by rw [hu.cell 13 (by rw [HPL.out]; omega), e13.out], by rw [hu.cell 14 (by rw [HPL.out]; omega), e14.out], by rw [hu.cell 15 (by rw [HPL.out]; omega), e15.out], by rw [hu.cell 12 (by rw [HPL.out]; omega), e12.out]⟩
      have HCB : Hid (∀ (u : World) (x : UInt8), Blk u g3 62 boxT → u.cell? ⟨g3, (bn x).toNat, none⟩ = some (.int .u8 (bn (boxV x)))) := fun u x hu => by
        rw [hu.cell _ (by rw [boxT_length, bn_toNat]; exact x.toNat_lt)]
        rfl
      have b13 := bn_bd q13
      have b14 := bn_bd q14
      have b15 := bn_bd q15
      have b12 := bn_bd q12
      have hS : Blk w4.drew gp 22 p ∧ Blk w4.drew g3 62 boxT := ⟨P4.out, S4.out.x⟩
      refine wp_held (S := fun u => Blk u gp 22 p ∧ Blk u g3 62 boxT) (by kernel_rfl) ?_
      refine wpAnyH_take (i := 0) (v := ?_) rfl (by kernel_rfl) (by kernel_rfl) (by kernel_rfl) (fun _ _ _ h => h) (Or.inl ⟨by rfl, ?_⟩) hS ?_
      rotate_left 1
      · intro u hu
        obtain ⟨y1, y2, y3, y4⟩ := HCP.out u hu.1
        have y5 := HCB.out u q13 hu.2
        have y6 := HCB.out u q14 hu.2
        have y7 := HCB.out u q15 hu.2
        have y8 := HCB.out u q12 hu.2
        go_simp
        first | done | with_reducible rfl
      go_simp
      refine wpAnyH_take (i := 1) (v := ?_) rfl (by kernel_rfl) (by kernel_rfl) (by kernel_rfl) (fun _ _ _ h => h) (Or.inl ⟨by rfl, ?_⟩) hS ?_
      rotate_left 1
      · intro u hu
        obtain ⟨y1, y2, y3, y4⟩ := HCP.out u hu.1
        have y5 := HCB.out u q13 hu.2
        have y6 := HCB.out u q14 hu.2
        have y7 := HCB.out u q15 hu.2
        have y8 := HCB.out u q12 hu.2
        go_simp
        first | done | with_reducible rfl
      go_simp
      refine wpAnyH_take (i := 2) (v := ?_) rfl (by kernel_rfl) (by kernel_rfl) (by kernel_rfl) (fun _ _ _ h => h) (Or.inl ⟨by rfl, ?_⟩) hS ?_
      rotate_left 1
      · intro u hu
        obtain ⟨y1, y2, y3, y4⟩ := HCP.out u hu.1
        have y5 := HCB.out u q13 hu.2
        have y6 := HCB.out u q14 hu.2
        have y7 := HCB.out u q15 hu.2
        have y8 := HCB.out u q12 hu.2
        go_simp
        first | done | with_reducible rfl
      go_simp
      refine wpAnyH_take (i := 3) (v := ?_) rfl (by kernel_rfl) (by kernel_rfl) (by kernel_rfl) (fun _ _ _ h => h) (Or.inl ⟨by rfl, ?_⟩) hS ?_
      rotate_left 1
      · intro u hu
        obtain ⟨y1, y2, y3, y4⟩ := HCP.out u hu.1
        have y5 := HCB.out u q13 hu.2
        have y6 := HCB.out u q14 hu.2
        have y7 := HCB.out u q15 hu.2
        have y8 := HCB.out u q12 hu.2
        go_simp
        first | done | with_reducible rfl
      go_simp
      refine wpAnyH_take (i := 4) (v := ?_) rfl (by kernel_rfl) (by kernel_rfl) (by kernel_rfl) (fun _ _ _ h => h) (Or.inl ⟨by rfl, ?_⟩) hS ?_
      rotate_left 1
      · intro u hu
        obtain ⟨y1, y2, y3, y4⟩ := HCP.out u hu.1
        have y5 := HCB.out u q13 hu.2
        have y6 := HCB.out u q14 hu.2
        have y7 := HCB.out u q15 hu.2
        have y8 := HCB.out u q12 hu.2
        go_simp
        first | done | with_reducible rfl
      go_simp
      refine wpAnyH_take (i := 5) (v := ?_) rfl (by kernel_rfl) (by kernel_rfl) (by kernel_rfl) (fun _ _ _ h => h) (Or.inl ⟨by rfl, ?_⟩) hS ?_
      rotate_left 1
      · intro u hu
        obtain ⟨y1, y2, y3, y4⟩ := HCP.out u hu.1
        have y5 := HCB.out u q13 hu.2
        have y6 := HCB.out u q14 hu.2
        have y7 := HCB.out u q15 hu.2
        have y8 := HCB.out u q12 hu.2
        go_simp
        first | done | with_reducible rfl
      go_simp
      refine wpAnyH_take (i := 6) (v := ?_) rfl (by kernel_rfl) (by kernel_rfl) (by kernel_rfl) (fun _ _ _ h => h) (Or.inl ⟨by rfl, ?_⟩) hS ?_
      rotate_left 1
      · intro u hu
        obtain ⟨y1, y2, y3, y4⟩ := HCP.out u hu.1
        have y5 := HCB.out u q13 hu.2
        have y6 := HCB.out u q14 hu.2
        have y7 := HCB.out u q15 hu.2
        have y8 := HCB.out u q12 hu.2
        go_simp
        first | done | with_reducible rfl
      go_simp
      refine wpAnyH_take (i := 7) (v := ?_) rfl (by kernel_rfl) (by kernel_rfl) (by kernel_rfl) (fun _ _ _ h => h) (Or.inl ⟨by rfl, ?_⟩) hS ?_
      rotate_left 1
      · intro u hu
        obtain ⟨y1, y2, y3, y4⟩ := HCP.out u hu.1
        have y5 := HCB.out u q13 hu.2
        have y6 := HCB.out u q14 hu.2
        have y7 := HCB.out u q15 hu.2
        have y8 := HCB.out u q12 hu.2
        go_simp
        first | done | with_reducible rfl
      go_simp
      refine wpAnyH_take (i := 8) (v := ?_) rfl (by kernel_rfl) (by kernel_rfl) (by kernel_rfl) (fun _ _ _ h => h) (Or.inl ⟨by rfl, ?_⟩) hS ?_
      rotate_left 1
      · intro u hu
        obtain ⟨y1, y2, y3, y4⟩ := HCP.out u hu.1
        have y5 := HCB.out u q13 hu.2
        have y6 := HCB.out u q14 hu.2
        have y7 := HCB.out u q15 hu.2
        have y8 := HCB.out u q12 hu.2
        go_simp
        first | done | with_reducible rfl
      go_simp
      refine wpAnyH_take (i := 9) (v := ?_) rfl (by kernel_rfl) (by kernel_rfl) (by kernel_rfl) (fun _ _ _ h => h) (Or.inl ⟨by rfl, ?_⟩) hS ?_
      rotate_left 1
      · intro u hu
        obtain ⟨y1, y2, y3, y4⟩ := HCP.out u hu.1
        have y5 := HCB.out u q13 hu.2
        have y6 := HCB.out u q14 hu.2
        have y7 := HCB.out u q15 hu.2
        have y8 := HCB.out u q12 hu.2
        go_simp
        first | done | with_reducible rfl
      go_simp
      refine wpAnyH_take (i := 10) (v := ?_) rfl (by kernel_rfl) (by kernel_rfl) (by kernel_rfl) (fun _ _ _ h => h) (Or.inl ⟨by rfl, ?_⟩) hS ?_
      rotate_left 1
      · intro u hu
        obtain ⟨y1, y2, y3, y4⟩ := HCP.out u hu.1
        have y5 := HCB.out u q13 hu.2
        have y6 := HCB.out u q14 hu.2
        have y7 := HCB.out u q15 hu.2
        have y8 := HCB.out u q12 hu.2
        go_simp
        first | done | with_reducible rfl
      go_simp
      refine wpAnyH_take (i := 11) (v := ?_) rfl (by kernel_rfl) (by kernel_rfl) (by kernel_rfl) (fun _ _ _ h => h) (Or.inl ⟨by rfl, ?_⟩) hS ?_
      rotate_left 1
      · intro u hu
        obtain ⟨y1, y2, y3, y4⟩ := HCP.out u hu.1
        have y5 := HCB.out u q13 hu.2
        have y6 := HCB.out u q14 hu.2
        have y7 := HCB.out u q15 hu.2
        have y8 := HCB.out u q12 hu.2
        go_simp
        first | done | with_reducible rfl
      go_simp
      refine wpAnyH_take (i := 12) (v := ?_) rfl (by kernel_rfl) (by kernel_rfl) (by kernel_rfl) (fun _ _ _ h => h) (Or.inl ⟨by rfl, ?_⟩) hS ?_
      rotate_left 1
      · intro u hu
        obtain ⟨y1, y2, y3, y4⟩ := HCP.out u hu.1
        have y5 := HCB.out u q13 hu.2
        have y6 := HCB.out u q14 hu.2
        have y7 := HCB.out u q15 hu.2
        have y8 := HCB.out u q12 hu.2
        go_simp
        first | done | with_reducible rfl
      go_simp
      refine wpAnyH_take (i := 13) (v := ?_) rfl (by kernel_rfl) (by kernel_rfl) (by kernel_rfl) (fun _ _ _ h => h) (Or.inl ⟨by rfl, ?_⟩) hS ?_
      rotate_left 1
      · intro u hu
        obtain ⟨y1, y2, y3, y4⟩ := HCP.out u hu.1
        have y5 := HCB.out u q13 hu.2
        have y6 := HCB.out u q14 hu.2
        have y7 := HCB.out u q15 hu.2
        have y8 := HCB.out u q12 hu.2
        go_simp
        first | done | with_reducible rfl
      go_simp
      refine wpAnyH_take (i := 14) (v := ?_) rfl (by kernel_rfl) (by kernel_rfl) (by kernel_rfl) (fun _ _ _ h => h) (Or.inl ⟨by rfl, ?_⟩) hS ?_
      rotate_left 1
      · intro u hu
        obtain ⟨y1, y2, y3, y4⟩ := HCP.out u hu.1
        have y5 := HCB.out u q13 hu.2
        have y6 := HCB.out u q14 hu.2
        have y7 := HCB.out u q15 hu.2
        have y8 := HCB.out u q12 hu.2
        go_simp
        first | done | with_reducible rfl
      go_simp
      refine wpAnyH_take (i := 15) (v := ?_) rfl (by kernel_rfl) (by kernel_rfl) (by kernel_rfl) (fun _ _ _ h => h) (Or.inl ⟨by rfl, ?_⟩) hS ?_
      rotate_left 1
      · intro u hu
        obtain ⟨y1, y2, y3, y4⟩ := HCP.out u hu.1
        have y5 := HCB.out u q13 hu.2
        have y6 := HCB.out u q14 hu.2
        have y7 := HCB.out u q15 hu.2
        have y8 := HCB.out u q12 hu.2
        go_simp
        first | done | with_reducible rfl
      go_simp
      refine wpAnyH_take (i := 16) (v := ?_) rfl (by kernel_rfl) (by kernel_rfl) (by kernel_rfl) (fun _ _ _ h => h) (Or.inl ⟨by rfl, ?_⟩) hS ?_
      rotate_left 1
      · intro u hu
        obtain ⟨y1, y2, y3, y4⟩ := HCP.out u hu.1
        have y5 := HCB.out u q13 hu.2
        have y6 := HCB.out u q14 hu.2
        have y7 := HCB.out u q15 hu.2
        have y8 := HCB.out u q12 hu.2
        go_simp
        first | done | with_reducible rfl
      go_simp
      refine wpAnyH_take (i := 17) (v := ?_) rfl (by kernel_rfl) (by kernel_rfl) (by kernel_rfl) (fun _ _ _ h => h) (Or.inl ⟨by rfl, ?_⟩) hS ?_
      rotate_left 1
      · intro u hu
        obtain ⟨y1, y2, y3, y4⟩ := HCP.out u hu.1
        have y5 := HCB.out u q13 hu.2
        have y6 := HCB.out u q14 hu.2
        have y7 := HCB.out u q15 hu.2
        have y8 := HCB.out u q12 hu.2
        go_simp
        first | done | with_reducible rfl
      go_simp
      refine wpAnyH_pickG 18 (.agg (bvs [boxV q13 ^^^ r, boxV q14, boxV q15, boxV q12]).toArray) rfl (by kernel_rfl) (by kernel_rfl) (by kernel_rfl) (by rfl) (fun _ _ _ h => h) (fun u hu => exec_build u 69 _ rfl _ (by with_unfolding_all exact built_col (boxV q13 ^^^ r) (boxV q14) (boxV q15) (boxV q12))) hS ?_
      rw [HT.out]
      go_simp
      refine wpAnyH_oneG 19 (by kernel_rfl) rfl (by rfl) ?_
      refine wp_alloc_blk 69 rfl (List.replicate 4 0) zeroCol ?_
      intro gt w5 hgte Z5 hb5
      have P5 : Hid (Blk w5 gp 22 p) := P4.out.drew.below hb5.out
      have S5 : Hid (RK w w5 g3 g4 (k * 16) key) := S4.out.drew.below hb5.out
      have HGT : Hid (gp < gt) := show _ < _ by rw [hgte.out]; exact P4.out.lt
      refine ⟨⟨P5.out, S5.out.x⟩, ?_⟩
      clear hS P4 S4 hgte hb5
      refine wpAnyH_oneG 20 (by kernel_rfl) rfl (by rfl) ?_
      refine wp_store_blk 69 (.tmp 8) (.tmp 39) rfl gt (ktV p r) (by with_unfolding_all rfl) (by with_unfolding_all rfl) 69 (List.replicate 4 0) Z5.out 4 sizeCol rfl rfl ?_
      intro w6 T6 O6
      have hgp := HGP.out
      have hgt := HGT.out
      have P6 : Hid (Blk w6 gp 22 p) := P5.out.only O6.out (by omega)
      have S6 : Hid (RK w w6 g3 g4 (k * 16) key) := S5.out.only O6.out (by omega)
      refine ⟨⟨P6.out, S6.out.x⟩, ?_⟩
      refine wpAnyH_done (by kernel_rfl) ?_ _
      clear Z5 P5 S5 O6 hgp hgt HT HCP HCB b13 b14 b15 b12
      obtain ⟨T, hT⟩ : ∃ T, ktV p r = T := ⟨_, rfl⟩
      have HTl : Hid (T.length = 4) := show _ = _ by rw [← hT]; rfl
      rw [hT] at T6 HKG ⊢
      clear hT
      go_wp2_with fail
      go_loopw [9] (fun v wx => ∃ i : Nat, i ≤ 16 ∧ v = .int .i64 i ∧ Hid (RK w wx g3 g4 (k * 16 + i) key) ∧ Hid (Blk wx gp 22 p) ∧ Hid (Blk wx gt 69 T)) (fun v _ => 16 - (intOf v).toNat)
      case atStart => exact ⟨0, by omega, rfl, S6, P6, T6⟩
      case round =>
        clear S6 P6 T6
        obtain ⟨i, hi, rfl, HS, HP, HT⟩ := hrel
        by_cases hit : i < 16
        · have li : (i : Int) < 16 := by omega
          obtain ⟨x, hx⟩ : ∃ x, p.getD i 0 = x := ⟨_, rfl⟩
          have ca : wr.cell? ⟨gp, i, none⟩ = some (.int .u8 (bn x)) := by rw [HP.out.cell i (by rw [HPL.out]; omega), hx]
          obtain ⟨old, cd⟩ : ∃ old, wr.cell? ⟨g4, k * 16 + i, none⟩ = some old := ⟨_, HS.out.o.cell (k * 16 + i) (by rw [HM.out]; omega)⟩
          have cf := HS.out.o.frozen (k * 16 + i)
          have e := HKG.out i hit
          have hgp := HGP.out
          have hgt := HGT.out
          by_cases h4 : i < 4
          · obtain ⟨y, hy⟩ : ∃ x, T.getD i 0 = x := ⟨_, rfl⟩
            have cb : wr.cell? ⟨gt, i, none⟩ = some (.int .u8 (bn y)) := by rw [HT.out.cell i (by rw [HTl.out]; omega), hy]
            rw [if_pos h4, hx, hy] at e
            have t4 : decide ((i : Int) < 4) = true := by simp; omega
            have l4 : (i : Int) < 4 := by omega
            have HE2 := Lib.hid e.symm
            clear hx hy e
            go_wp2_with fail
            refine wp_tail 11 (by kernel_rfl) (by kernel_rfl) ?_
            simp only [List.take_succ_cons, List.take_zero, List.drop_succ_cons, List.drop_zero]
            repeat still_step
            refine wpStill_nil ?_
            go_wp2
            go_roundw
            case rel =>
              first
                | exact ⟨i + 1, by omega, by go_num, HS.out.drew.put Hk.out (by omega) _ HE2.out, (HP.out.other _ _ _ (by omega)).drew, (HT.out.other _ _ _ (by omega)).drew⟩
                | ((repeat apply Exists.intro); exact ⟨⟨i + 1, by omega, by go_num, HS.out.drew.put Hk.out (by omega) _ HE2.out, (HP.out.other _ _ _ (by omega)).drew, (HT.out.other _ _ _ (by omega)).drew⟩, rfl⟩)
            case measure => simp [intOf]; omega
          · obtain ⟨n, en, hn⟩ : ∃ n : Nat, (i : Int) - 4 = (n : Int) ∧ Hid (i - 4 = n) := ⟨i - 4, by omega, rfl⟩
            have ln : (n : Int) < 16 := by omega
            have vn : IntKind.i64.wrap (n : Int) = (n : Int) := IntWalk.i64_in _ (by omega)
            obtain ⟨y, hy⟩ : ∃ x, (keysV key).getD (k * 16 + i - 4) 0 = x := ⟨_, rfl⟩
            have cb : wr.cell? ⟨g4, k * 16 + n, none⟩ = some (.int .u8 (bn y)) := by
              have hn' := hn.out
              rw [HS.out.o.cell (k * 16 + n) (by rw [HM.out]; omega), mixr_new _ _ _ _ (by rw [HL.out, z176_length]) (by rw [z176_length]; omega) (by omega), show k * 16 + n = k * 16 + i - 4 by omega, hy]
            rw [if_neg h4, hx, hy] at e
            have t4 : decide ((i : Int) < 4) = false := by simp; omega
            have HE2 := Lib.hid e.symm
            clear hx hy e
            go_wp2_with fail
            refine wp_tail 14 (by kernel_rfl) (by kernel_rfl) ?_
            simp only [List.take_succ_cons, List.take_zero, List.drop_succ_cons, List.drop_zero]
            repeat still_step
            refine wpStill_nil ?_
            go_wp2
            go_roundw
            case rel =>
              first
                | exact ⟨i + 1, by omega, by go_num, HS.out.drew.put Hk.out (by omega) _ HE2.out, (HP.out.other _ _ _ (by omega)).drew, (HT.out.other _ _ _ (by omega)).drew⟩
                | ((repeat apply Exists.intro); exact ⟨⟨i + 1, by omega, by go_num, HS.out.drew.put Hk.out (by omega) _ HE2.out, (HP.out.other _ _ _ (by omega)).drew, (HT.out.other _ _ _ (by omega)).drew⟩, rfl⟩)
            case measure => simp [intOf]; omega
        · obtain rfl : i = 16 := by omega
          go_wp2_with (go_at_call 46; (with_reducible refine (rdbl_any _ _).mono ?_); rintro e1 w7 ⟨rfl, rfl⟩; rw [HE.out])
          go_roundw
          case rel =>
            have HS2 : Hid (RK w wr g3 g4 ((k + 1) * 16) key) := by rw [show (k + 1) * 16 = k * 16 + 16 by omega]; exact HS
            first
              | exact ⟨k + 1, by omega, by omega, by go_num, rfl, HS2⟩
              | ((repeat apply Exists.intro); exact ⟨⟨k + 1, by omega, by omega, by go_num, rfl, HS2⟩, rfl⟩)
          case measure => simp [intOf]; omega
    · obtain rfl : k = 11 := by omega
      have HO : Hid (Blk wr g4 60 (keysV key)) := by
        have h := HS.out.o
        rw [mixr_full _ _ _ (by rw [HL.out, z176_length]) (by rw [z176_length]; omega)] at h
        exact h
      have HR : Hid (Blk wr (w.heap.size + 1) 60 z176) := HS.out.r
      have HB : Hid (Below w.heap.size w wr) := HS.out.b
      clear HS
      go_wp2_with (first
        | ((with_reducible refine wpList_load_blk rfl 60 (.tmp 4) rfl g4 ?hx 60 (keysV key) HO.out 11 22 Try.underlying60 176 size176 HL.out ?_); (case hx => with_unfolding_all rfl))
        | ((with_reducible refine wpList_store_blk rfl 60 (.tmp 2) (.tmp 73) rfl (w.heap.size + 1) (keysV key) ?hx ?hy 60 z176 HR.out 176 size176 HL.out z176_length ?_); (case hx => with_unfolding_all rfl); (case hy => with_unfolding_all rfl); intro w2 H2 HO2))
      refine ret_blk Try.results35 (w.heap.size + 1) 60 (keysV key) 11 22 rfl H2.out Try.underlying60 176 size176 HL.out rfl ⟨rfl, ?_⟩
      exact HB.out.trans (HO2.out.below HB.out.size (by omega))
end Go.Proofs.Ytjnclcehnpkncaa
