/-
  The contract of frame.Get. (A theorem a kind, written out by a small program.)
-/
import Derived.Test.YtcipmfhacloegaaFrK
import Derived.Test.YtcipmfhacloegaaPtB
namespace Go.Proofs.Ytcipmfhacloegaa
open Go.RowKit
set_option linter.unusedVariables false

theorem sz_bytes : (Try.prog.info? 24).map (·.size) = some 1 := by kernel_rfl
theorem sz_rngs : (Try.prog.info? 23).map (·.size) = some 1 := by kernel_rfl
theorem sz_num : (Try.prog.info? 22).map (·.size) = some 1 := by kernel_rfl
theorem results_cell2 {P : Program} {fn : Func} {p x y : Tmp} {ty : TypeId} (h : fn.results = #[.cell p ty, .tmp x, .tmp y]) (tmps : Array Value) (w : World) (g : Nat) (t : TypeId) (cs : Array Value) (fr : Nat × Nat) (d : TypeDesc)
    (hp : tmps.getD p undef = .pointer (some ⟨g, 0, none⟩)) (hg : w.heap[g]? = some (.cells cs t fr))
    (hu : P.underlying ty = some d) (hd : (match d with | .struct _ | .array _ _ => true | _ => false) = true) (hi : (P.info? ty).map (·.size) = some cs.size) :
    (results fn tmps).run P w = .ok (.tuple #[.agg cs, tmps.getD x undef, tmps.getD y undef]) w := by
  have hp' : tmps[p]?.getD undef = .pointer (some ⟨g, 0, none⟩) := by simpa using hp
  simp [results, h, hp', asAddr, run_loadVar_row w g t ty cs fr d hg hu hd hi]
theorem ret_rw2 {P : Program} {fn : Func} {R : Ending → World → Prop} {a : Act} {w : World} {p x y : Tmp} {ty : TypeId} (h : fn.results = #[.cell p ty, .tmp x, .tmp y]) (g : Nat) (t : TypeId) (vs : List Value) (d : TypeDesc)
    (hp : a.tmps.getD p undef = .pointer (some ⟨g, 0, none⟩)) (hB : Rw w g t vs) (hu : P.underlying ty = some d) (hd : (match d with | .struct _ | .array _ _ => true | _ => false) = true) (hi : (P.info? ty).map (·.size) = some vs.length)
    (hdf : a.defers = []) (hR : R (.returned (.tuple #[.agg vs.toArray, a.tmps.getD x undef, a.tmps.getD y undef])) w) : bodyPost P fn R .ret a w :=
  bodyPost_ret (results_cell2 h a.tmps w g t vs.toArray (0, 0) d hp hB hu hd (by rw [hi, List.size_toArray])) hdf hR
/-- while a frame is read: what is left, the frame's variable at hb, the answer's -/
structure GF (w : World) (hb : Nat) (v : World) (s : List UInt8 × Nat) (hv : List Value) : Prop where
  p : PtW v w.heap.size (w.heap.size + 2) s
  h : Rw v hb 26 hv
  z : Rw v w.heap.size 26 fr0
  b : Below w.heap.size w v
  lt : w.heap.size + 2 < hb
theorem GF.call {w v v' : World} {hb : Nat} {s s' : List UInt8 × Nat} {hv : List Value} (k : GF w hb v s hv) (hp : PtW v' w.heap.size (w.heap.size + 2) s') (ho : Only (w.heap.size + 2) v v') : GF w hb v' s' hv :=
  ⟨hp, k.h.only ho (by have := k.lt; omega), k.z.only ho (by omega), k.b.trans (ho.below k.b.size (by omega)), k.lt⟩
theorem GF.put {w v v' : World} {hb : Nat} {s : List UInt8 × Nat} {hv hv' : List Value} (k : GF w hb v s hv) (hr : Rw v' hb 26 hv') (ho : Only hb v v') : GF w hb v' s hv' :=
  ⟨k.p.only ho (by have := k.lt; omega) (by have := k.lt; omega), hr, k.z.only ho (by have := k.lt; omega), k.b.trans (ho.below k.b.size (by have := k.lt; omega)), k.lt⟩
structure OwnRS (hb : Nat) (v : World) (A : Option Addr) (n c : Nat) (l : List (Nat × Nat)) : Prop where
  o : OwnR v (hb + 1) (.slice A n c) n l
theorem OwnRS.only {hb g : Nat} {v v' : World} {A : Option Addr} {n c : Nat} {l : List (Nat × Nat)} (k : OwnRS hb v A n c l) (ho : Only g v v') (hg : g ≤ hb) : OwnRS hb v' A n c l :=
  ⟨k.o.onlyA ho fun a ha => by have := (k.o.blk a ha).1; omega⟩
/-- a frame of a kind, nothing more -/
def frK (k : Int) (fi : Bool) : List Value := [.int .i64 k, .int .u64 0, .int .u64 0, .slice none 0 0, .int .u64 0, .int .u64 0, .bool fi, .slice none 0 0, .slice none 0 0, .slice none 0 0]
def FrKd (k : Int) (fi : Bool) : Fr := { Fr.of k with fin := fi }
theorem frK_one (k : Int) (fi : Bool) : ∀ v ∈ frK k fi, v.oneCell' = true := by simp [frK, Value.oneCell']
/-- what Get tells of what was read -/
def endF (n : Nat) (r : Fr × (List UInt8 × Nat)) : (Fr × Nat) × Nat := if r.2.2 = 0 then ((r.1, n - r.2.1.length), 0) else ((Fr.of 0, 0), r.2.2)
def GetsF (w : World) (r : (Fr × Nat) × Nat) (e : Ending) (w' : World) : Prop :=
  ∃ p, e = .returned (.tuple #[.agg (frV r.1.1 p).toArray, .int .i64 (r.1.2 : Int), .int .i64 (r.2 : Int)]) ∧ FrO w' w.heap.size r.1.1 p ∧ Below w.heap.size w w'
theorem belowP_le (s : List UInt8 × Nat) (a l : Nat) : (belowP s a l).2.1.length ≤ s.1.length := by
  have h := varintP_le s
  unfold belowP
  split
  · exact Nat.le_trans (failP_le _ _) h
  · exact h
theorem nothingP_le (s : List UInt8 × Nat) : (nothingP s).1.length ≤ s.1.length := by
  have h := varintP_le s
  unfold nothingP
  split
  · exact h
  · exact Nat.le_trans (failP_le _ _) h
theorem name8P_le (s : List UInt8 × Nat) : (name8P s).2.1.length ≤ s.1.length := by
  have h := wholeP_le s 1
  unfold name8P
  refine Nat.le_trans (bytesP_le _ _) ?_
  split
  · exact h
  · exact Nat.le_trans (failP_le _ _) h
theorem dataP_le (s : List UInt8 × Nat) (o : Nat) : (dataP s o).2.1.length ≤ s.1.length := by
  have h := varintP_le s
  unfold dataP
  refine Nat.le_trans (bytesP_le _ _) ?_
  split
  · exact h
  · exact Nat.le_trans (failP_le _ _) h
theorem zerosP_le (s : List UInt8 × Nat) (m : Nat) : (zerosP s m).2.1.length ≤ s.1.length := by
  unfold zerosP
  simp only [List.length_drop]
  omega
theorem loopP_le (k lo : Nat) (s : List UInt8 × Nat) (acc : List (Nat × Nat)) : (loopP k lo s acc).2.1.length ≤ s.1.length := by
  induction k generalizing lo s acc with
  | zero => exact Nat.le_refl _
  | succ k ih => exact Nat.le_trans (ih _ _ _) (Nat.le_trans (belowP_le _ _ _) (belowP_le _ _ _))
theorem ackP_le (s : List UInt8 × Nat) : (ackP s).2.1.length ≤ s.1.length := by
  have h : (varintP (varintP (varintP s).2).2).2.1.length ≤ s.1.length := Nat.le_trans (varintP_le _) (Nat.le_trans (varintP_le _) (varintP_le _))
  unfold ackP
  split
  · exact Nat.le_trans (failP_le _ _) h
  · exact Nat.le_trans (loopP_le _ _ _ _) (Nat.le_trans (belowP_le _ _ _) h)
theorem kindP_le (s : List UInt8 × Nat) : (kindP s).2.1.length ≤ s.1.length := by
  have h := wholeP_le s 1
  unfold kindP
  simp only
  split
  · exact h
  · exact Nat.le_trans (failP_le _ _) h
set_option maxHeartbeats 8000000 in
set_option maxRecDepth 4000 in
theorem fget_bad (l : List UInt8) (s0 : List UInt8 × Nat) (A : Option Addr) (n c : Nat) (w : World) (hs : Sl w w.heap.size A n l) (hnc : n ≤ c) (hcm : c ≤ maxLen) (kk : Int) (fi : Bool) (hk : kindP (l, 0) = (FrKd kk fi, s0)) (hs0 : ¬ s0.2 = 0) :
    Calls Try.prog 21 #[.slice A n c] w (GetsF w (endF n (FrKd kk fi, s0))) := by
  have HF := Lib.hid (fun u hp => kind_any (l, 0) w.heap.size (w.heap.size + 2) u hp)
  have hle1 := kindP_le (l, 0)
  rw [hk] at HF hle1
  simp only at HF hle1
  have hln := hs.1
  have HS := Lib.hid hs
  have HC : Hid (n ≤ c ∧ c ≤ maxLen) := ⟨hnc, hcm⟩
  have hn63 : n ≤ 9223372036854775807 := by unfold maxLen at hcm; omega
  have HONE := Lib.hid (frK_one kk fi)
  have HL0 : Hid (fr0.length = (frK kk fi).length) := rfl
  have HSZ : Hid ((Try.prog.info? 26).map (·.size) = some (frK kk fi).length) := fr_size
  have HFE : frV (FrKd kk fi) Fp.nil = (frK kk fi) := rfl
  rw [HFE] at HF
  clear hk hs hnc hcm HFE
  go_enter Try.func21, Try.ntmps21
  go_wp2_with fail
  refine wp_scope_ahead 0 rfl ?_
  go_wp2_with fail
  (with_reducible refine (of_at A n c _).mono ?_)
  rintro e0 w0 ⟨rfl, rfl⟩
  go_wp2_with fail
  (with_reducible refine (HF.out _ ?hp).mono ?_)
  case hp => exact ⟨_, A, n, c, heap_allocs w [_, _, _] 2 _ rfl, HS.out.below ((((Below.refl _ w).alloc (Nat.le_refl _) _).alloc (by simp) _).alloc (by simp; omega) _), HC.out.1, HC.out.2, by omega⟩
  rintro e1 w1 ⟨rfl, hp1, ho1⟩
  have Z1 : Hid (Rw w1 w.heap.size 26 fr0) := (show Rw _ _ _ _ from heap_allocs w [_, _, _] 0 _ rfl).only ho1 (by omega)
  have B1 : Hid (Below w.heap.size w w1) := ((((Below.refl _ w).alloc (Nat.le_refl _) _).alloc (by simp) _).alloc (by simp; omega) _).trans (ho1.below (by simp; omega) (by omega))
  have LT : Hid (w.heap.size + 2 < w1.heap.size) := show _ < _ by have := ho1.size; simp at this; omega
  have P1 := Lib.hid hp1
  clear hp1 ho1
  go_wp2_with ((with_reducible refine wpList_store_rw rfl 26 (.tmp 6) (.tmp 10) rfl w1.heap.size (frK kk fi) ?hx ?hy 26 fr0 ?hB HSZ.out HL0.out HONE.out ?_); (case hx => with_unfolding_all rfl); (case hy => with_unfolding_all rfl); (case hB => exact heap_alloc_new w1 _); intro w2 R2 O2; have K2 : Hid (GF w w1.heap.size w2 s0 (frK kk fi)) := ⟨(P1.out.below ((Below.refl _ _).alloc (Nat.le_refl _) _)).only O2.out (by have := LT.out; omega) (by have := LT.out; omega), R2.out, (Z1.out.alloc _).only O2.out (by have := LT.out; omega), (B1.out.alloc B1.out.size _).trans (O2.out.below (by have := B1.out.size; simp; omega) B1.out.size), LT.out⟩; have c2 : w2.cell? ⟨w1.heap.size, 0, none⟩ = some (.int .i64 kk) := K2.out.h.cell 0 _ rfl)
  obtain ⟨l0, q0⟩ := s0
  simp only at hs0
  (with_reducible refine (code_any _ w.heap.size (w.heap.size + 2) w2 K2.out.p).mono ?_)
  rintro e w9 ⟨rfl, rfl⟩
  have tq : ((q0 : Int) != 0) = true := by simp; omega
  go_wp2_with fail
  go_step3
  refine ⟨rfl, ?_⟩
  go_wp2_with fail
  have HQ : Hid (¬ q0 = 0) := hs0
  (with_reducible refine (code_any _ w.heap.size (w.heap.size + 2) w2 K2.out.p).mono ?_)
  rintro e w9 ⟨rfl, rfl⟩
  go_wp2_with fail
  have HSZ0 : Hid ((Try.prog.info? 26).map (·.size) = some fr0.length) := fr_size
  (with_reducible refine (code_any _ w.heap.size (w.heap.size + 2) w2 K2.out.p).mono ?_)
  rintro e w9 ⟨rfl, rfl⟩
  go_wp2_with ((with_reducible refine wpList_store_rw rfl 26 (.tmp 2) (.tmp 74) rfl w.heap.size fr0 ?hx ?hy 26 fr0 K2.out.z HSZ0.out rfl fr0_one ?_); (case hx => with_unfolding_all rfl); (case hy => with_unfolding_all rfl); intro w98 R98 O98)
  first | rw [Exit.noGoto_ret] | skip
  refine ret_rw2 rfl w.heap.size 26 fr0 _ rfl R98.out Try.underlying26 rfl HSZ0.out rfl ?_
  unfold endF
  rw [if_neg HQ.out]
  exact ⟨Fp.nil, rfl, FrO.nil _ _ _, K2.out.b.trans (O98.out.below K2.out.b.size (Nat.le_refl _))⟩
set_option maxHeartbeats 8000000 in
set_option maxRecDepth 4000 in
theorem fget_1 (l : List UInt8) (s0 : List UInt8 × Nat) (A : Option Addr) (n c : Nat) (w : World) (hs : Sl w w.heap.size A n l) (hnc : n ≤ c) (hcm : c ≤ maxLen) (hk : kindP (l, 0) = (FrKd 1 false, s0)) (hs0 : s0.2 = 0) :
    Calls Try.prog 21 #[.slice A n c] w (GetsF w (endF n (FrKd 1 false, s0))) := by
  have HF := Lib.hid (fun u hp => kind_any (l, 0) w.heap.size (w.heap.size + 2) u hp)
  have hle1 := kindP_le (l, 0)
  rw [hk] at HF hle1
  simp only at HF hle1
  have hln := hs.1
  have HS := Lib.hid hs
  have HC : Hid (n ≤ c ∧ c ≤ maxLen) := ⟨hnc, hcm⟩
  have hn63 : n ≤ 9223372036854775807 := by unfold maxLen at hcm; omega
  have HONE := Lib.hid (frK_one 1 false)
  have HL0 : Hid (fr0.length = (frK 1 false).length) := rfl
  have HSZ : Hid ((Try.prog.info? 26).map (·.size) = some (frK 1 false).length) := fr_size
  have HFE : frV (FrKd 1 false) Fp.nil = (frK 1 false) := rfl
  rw [HFE] at HF
  clear hk hs hnc hcm HFE
  go_enter Try.func21, Try.ntmps21
  go_wp2_with fail
  refine wp_scope_ahead 0 rfl ?_
  go_wp2_with fail
  (with_reducible refine (of_at A n c _).mono ?_)
  rintro e0 w0 ⟨rfl, rfl⟩
  go_wp2_with fail
  (with_reducible refine (HF.out _ ?hp).mono ?_)
  case hp => exact ⟨_, A, n, c, heap_allocs w [_, _, _] 2 _ rfl, HS.out.below ((((Below.refl _ w).alloc (Nat.le_refl _) _).alloc (by simp) _).alloc (by simp; omega) _), HC.out.1, HC.out.2, by omega⟩
  rintro e1 w1 ⟨rfl, hp1, ho1⟩
  have Z1 : Hid (Rw w1 w.heap.size 26 fr0) := (show Rw _ _ _ _ from heap_allocs w [_, _, _] 0 _ rfl).only ho1 (by omega)
  have B1 : Hid (Below w.heap.size w w1) := ((((Below.refl _ w).alloc (Nat.le_refl _) _).alloc (by simp) _).alloc (by simp; omega) _).trans (ho1.below (by simp; omega) (by omega))
  have LT : Hid (w.heap.size + 2 < w1.heap.size) := show _ < _ by have := ho1.size; simp at this; omega
  have P1 := Lib.hid hp1
  clear hp1 ho1
  go_wp2_with ((with_reducible refine wpList_store_rw rfl 26 (.tmp 6) (.tmp 10) rfl w1.heap.size (frK 1 false) ?hx ?hy 26 fr0 ?hB HSZ.out HL0.out HONE.out ?_); (case hx => with_unfolding_all rfl); (case hy => with_unfolding_all rfl); (case hB => exact heap_alloc_new w1 _); intro w2 R2 O2; have K2 : Hid (GF w w1.heap.size w2 s0 (frK 1 false)) := ⟨(P1.out.below ((Below.refl _ _).alloc (Nat.le_refl _) _)).only O2.out (by have := LT.out; omega) (by have := LT.out; omega), R2.out, (Z1.out.alloc _).only O2.out (by have := LT.out; omega), (B1.out.alloc B1.out.size _).trans (O2.out.below (by have := B1.out.size; simp; omega) B1.out.size), LT.out⟩; have c2 : w2.cell? ⟨w1.heap.size, 0, none⟩ = some (.int .i64 1) := K2.out.h.cell 0 _ rfl)
  obtain ⟨l0, q0⟩ := s0
  simp only at hs0
  subst hs0
  (with_reducible refine (code_any _ w.heap.size (w.heap.size + 2) w2 K2.out.p).mono ?_)
  rintro e w9 ⟨rfl, rfl⟩
  go_wp2_with fail
  go_step3
  refine ⟨rfl, ?_⟩
  go_wp2_with fail
  (with_reducible refine (code_any _ w.heap.size (w.heap.size + 2) w2 K2.out.p).mono ?_)
  rintro e w9 ⟨rfl, rfl⟩
  go_wp2_with fail
  obtain ⟨hv, ehv⟩ : ∃ x, (frK 1 false) = x := ⟨_, rfl⟩
  have HV := Lib.hid ehv
  have HONE2 : Hid (∀ v ∈ hv, v.oneCell' = true) := by rw [← ehv]; simp [frK, Value.oneCell', Hid]
  have HLN : Hid (hv.length = 10) := show _ = _ by rw [← ehv]; simp [frK]
  have HSZ2 : Hid ((Try.prog.info? 26).map (·.size) = some hv.length) := show _ = _ by rw [HLN.out]; exact fr_size
  have HL2 : Hid (fr0.length = hv.length) := show _ = _ by rw [HLN.out]; rfl
  rw [ehv] at K2
  clear ehv
  have hlf : l0.length ≤ n := by omega
  obtain ⟨m, hm⟩ : ∃ m : Nat, n - l0.length = m := ⟨_, rfl⟩
  have wm : IntKind.i64.wrap ((n : Int) - (l0.length : Int)) = (m : Int) := by rw [show (n : Int) - (l0.length : Int) = (m : Int) by omega]; exact IntWalk.i64_in _ (by omega)
  have HM := Lib.hid hm
  clear hm hlf
  refine wp_held (S := fun u => u.rangeAt w1.heap.size 0 hv) (by kernel_rfl) ?_
  have hS : w2.drew.rangeAt w1.heap.size 0 hv := range_row (t := 26) (fr := (0, 0)) K2.out.h
  refine wpAnyH_pickG 0 (.agg hv.toArray) rfl (by kernel_rfl) (by kernel_rfl) (by kernel_rfl) (by rfl) (fun _ _ _ h => h) (fun u hu => exec_load_mid u 26 (.tmp 6) rfl w1.heap.size 0 (by with_unfolding_all rfl) hv _ hu Try.underlying26 rfl HSZ2.out) hS ?_
  go_simp
  refine wpAnyH_take (i := 1) (v := ?_) rfl (by kernel_rfl) (by kernel_rfl) (by kernel_rfl) (fun _ _ _ h => h) (Or.inl ⟨by rfl, ?_⟩) hS ?_
  rotate_left 1
  · intro u hu
    go_simp
    first | done | with_reducible rfl
  go_simp
  refine wpAnyH_take (i := 2) (v := ?_) rfl (by kernel_rfl) (by kernel_rfl) (by kernel_rfl) (fun _ _ _ h => h) (Or.inl ⟨by rfl, ?_⟩) hS ?_
  rotate_left 1
  · intro u hu
    go_simp
    first | done | with_reducible rfl
  go_simp
  refine wpAnyH_take (i := 3) (v := ?_) rfl (by kernel_rfl) (by kernel_rfl) (by kernel_rfl) (fun _ _ _ h => h) (Or.inl ⟨by rfl, ?_⟩) hS ?_
  rotate_left 1
  · intro u hu
    go_simp
    first | done | with_reducible rfl
  go_simp
  refine wpAnyH_oneG 4 (by kernel_rfl) rfl (by rfl) ?_
  go_wp2_with fail
  (with_reducible refine (plen_any _ w.heap.size (w.heap.size + 2) w2.drew (PtW.below K2.out.p (Below.refl _ _).drew)).mono ?_)
  rintro e w9 ⟨rfl, rfl⟩
  refine ⟨hS, ?_⟩
  go_simp
  refine wpAnyH_take (i := 5) (v := ?_) rfl (by kernel_rfl) (by kernel_rfl) (by kernel_rfl) (fun _ _ _ h => h) (Or.inl ⟨by rfl, ?_⟩) hS ?_
  rotate_left 1
  · intro u hu
    go_simp
    first | done | with_reducible rfl
  go_simp
  refine wpAnyH_oneG 6 (by kernel_rfl) rfl (by rfl) ?_
  refine wp_store_rw 26 (.tmp 2) (.tmp 77) rfl w.heap.size hv (by with_unfolding_all rfl) (by with_unfolding_all rfl) 26 fr0 K2.out.z.drew HSZ2.out HL2.out HONE2.out ?_
  intro w99 R99 O99
  have hS : w99.rangeAt w1.heap.size 0 hv := range_row (t := 26) (fr := (0, 0)) (K2.out.h.drew.only O99.out (by have := LT.out; omega))
  refine ⟨hS, ?_⟩
  go_simp
  refine wpAnyH_take (i := 7) (v := ?_) rfl (by kernel_rfl) (by kernel_rfl) (by kernel_rfl) (fun _ _ _ h => h) (Or.inl ⟨by rfl, ?_⟩) hS ?_
  rotate_left 1
  · intro u hu
    go_simp
    first | done | with_reducible rfl
  go_simp
  refine wpAnyH_take (i := 8) (v := ?_) rfl (by kernel_rfl) (by kernel_rfl) (by kernel_rfl) (fun _ _ _ h => h) (Or.inl ⟨by rfl, ?_⟩) hS ?_
  rotate_left 1
  · intro u hu
    go_simp
    first | done | with_reducible rfl
  go_simp
  refine wpAnyH_done (by kernel_rfl) ?_ _
  go_wp2_with fail
  first | rw [Exit.noGoto_ret] | skip
  refine ret_rw2 rfl w.heap.size 26 hv _ rfl R99.out Try.underlying26 rfl HSZ2.out rfl ?_
  unfold endF
  rw [if_pos rfl]
  refine ⟨Fp.nil, ?_, ⟨OwnR.nil _ _, Own.nil _ _, Own.nil _ _, Own.nil _ _⟩, K2.out.b.drew.trans (Only.below (w := w2.drew) O99.out K2.out.b.size (Nat.le_refl _))⟩
  rw [← HV.out, ← HM.out]; rfl
set_option maxHeartbeats 8000000 in
set_option maxRecDepth 4000 in
theorem fget_30 (l : List UInt8) (s0 : List UInt8 × Nat) (A : Option Addr) (n c : Nat) (w : World) (hs : Sl w w.heap.size A n l) (hnc : n ≤ c) (hcm : c ≤ maxLen) (hk : kindP (l, 0) = (FrKd 30 false, s0)) (hs0 : s0.2 = 0) :
    Calls Try.prog 21 #[.slice A n c] w (GetsF w (endF n (FrKd 30 false, s0))) := by
  have HF := Lib.hid (fun u hp => kind_any (l, 0) w.heap.size (w.heap.size + 2) u hp)
  have hle1 := kindP_le (l, 0)
  rw [hk] at HF hle1
  simp only at HF hle1
  have hln := hs.1
  have HS := Lib.hid hs
  have HC : Hid (n ≤ c ∧ c ≤ maxLen) := ⟨hnc, hcm⟩
  have hn63 : n ≤ 9223372036854775807 := by unfold maxLen at hcm; omega
  have HONE := Lib.hid (frK_one 30 false)
  have HL0 : Hid (fr0.length = (frK 30 false).length) := rfl
  have HSZ : Hid ((Try.prog.info? 26).map (·.size) = some (frK 30 false).length) := fr_size
  have HFE : frV (FrKd 30 false) Fp.nil = (frK 30 false) := rfl
  rw [HFE] at HF
  clear hk hs hnc hcm HFE
  go_enter Try.func21, Try.ntmps21
  go_wp2_with fail
  refine wp_scope_ahead 0 rfl ?_
  go_wp2_with fail
  (with_reducible refine (of_at A n c _).mono ?_)
  rintro e0 w0 ⟨rfl, rfl⟩
  go_wp2_with fail
  (with_reducible refine (HF.out _ ?hp).mono ?_)
  case hp => exact ⟨_, A, n, c, heap_allocs w [_, _, _] 2 _ rfl, HS.out.below ((((Below.refl _ w).alloc (Nat.le_refl _) _).alloc (by simp) _).alloc (by simp; omega) _), HC.out.1, HC.out.2, by omega⟩
  rintro e1 w1 ⟨rfl, hp1, ho1⟩
  have Z1 : Hid (Rw w1 w.heap.size 26 fr0) := (show Rw _ _ _ _ from heap_allocs w [_, _, _] 0 _ rfl).only ho1 (by omega)
  have B1 : Hid (Below w.heap.size w w1) := ((((Below.refl _ w).alloc (Nat.le_refl _) _).alloc (by simp) _).alloc (by simp; omega) _).trans (ho1.below (by simp; omega) (by omega))
  have LT : Hid (w.heap.size + 2 < w1.heap.size) := show _ < _ by have := ho1.size; simp at this; omega
  have P1 := Lib.hid hp1
  clear hp1 ho1
  go_wp2_with ((with_reducible refine wpList_store_rw rfl 26 (.tmp 6) (.tmp 10) rfl w1.heap.size (frK 30 false) ?hx ?hy 26 fr0 ?hB HSZ.out HL0.out HONE.out ?_); (case hx => with_unfolding_all rfl); (case hy => with_unfolding_all rfl); (case hB => exact heap_alloc_new w1 _); intro w2 R2 O2; have K2 : Hid (GF w w1.heap.size w2 s0 (frK 30 false)) := ⟨(P1.out.below ((Below.refl _ _).alloc (Nat.le_refl _) _)).only O2.out (by have := LT.out; omega) (by have := LT.out; omega), R2.out, (Z1.out.alloc _).only O2.out (by have := LT.out; omega), (B1.out.alloc B1.out.size _).trans (O2.out.below (by have := B1.out.size; simp; omega) B1.out.size), LT.out⟩; have c2 : w2.cell? ⟨w1.heap.size, 0, none⟩ = some (.int .i64 30) := K2.out.h.cell 0 _ rfl)
  obtain ⟨l0, q0⟩ := s0
  simp only at hs0
  subst hs0
  (with_reducible refine (code_any _ w.heap.size (w.heap.size + 2) w2 K2.out.p).mono ?_)
  rintro e w9 ⟨rfl, rfl⟩
  go_wp2_with fail
  go_step3
  refine ⟨rfl, ?_⟩
  go_wp2_with fail
  (with_reducible refine (code_any _ w.heap.size (w.heap.size + 2) w2 K2.out.p).mono ?_)
  rintro e w9 ⟨rfl, rfl⟩
  go_wp2_with fail
  obtain ⟨hv, ehv⟩ : ∃ x, (frK 30 false) = x := ⟨_, rfl⟩
  have HV := Lib.hid ehv
  have HONE2 : Hid (∀ v ∈ hv, v.oneCell' = true) := by rw [← ehv]; simp [frK, Value.oneCell', Hid]
  have HLN : Hid (hv.length = 10) := show _ = _ by rw [← ehv]; simp [frK]
  have HSZ2 : Hid ((Try.prog.info? 26).map (·.size) = some hv.length) := show _ = _ by rw [HLN.out]; exact fr_size
  have HL2 : Hid (fr0.length = hv.length) := show _ = _ by rw [HLN.out]; rfl
  rw [ehv] at K2
  clear ehv
  have hlf : l0.length ≤ n := by omega
  obtain ⟨m, hm⟩ : ∃ m : Nat, n - l0.length = m := ⟨_, rfl⟩
  have wm : IntKind.i64.wrap ((n : Int) - (l0.length : Int)) = (m : Int) := by rw [show (n : Int) - (l0.length : Int) = (m : Int) by omega]; exact IntWalk.i64_in _ (by omega)
  have HM := Lib.hid hm
  clear hm hlf
  refine wp_held (S := fun u => u.rangeAt w1.heap.size 0 hv) (by kernel_rfl) ?_
  have hS : w2.drew.rangeAt w1.heap.size 0 hv := range_row (t := 26) (fr := (0, 0)) K2.out.h
  refine wpAnyH_pickG 0 (.agg hv.toArray) rfl (by kernel_rfl) (by kernel_rfl) (by kernel_rfl) (by rfl) (fun _ _ _ h => h) (fun u hu => exec_load_mid u 26 (.tmp 6) rfl w1.heap.size 0 (by with_unfolding_all rfl) hv _ hu Try.underlying26 rfl HSZ2.out) hS ?_
  go_simp
  refine wpAnyH_take (i := 1) (v := ?_) rfl (by kernel_rfl) (by kernel_rfl) (by kernel_rfl) (fun _ _ _ h => h) (Or.inl ⟨by rfl, ?_⟩) hS ?_
  rotate_left 1
  · intro u hu
    go_simp
    first | done | with_reducible rfl
  go_simp
  refine wpAnyH_take (i := 2) (v := ?_) rfl (by kernel_rfl) (by kernel_rfl) (by kernel_rfl) (fun _ _ _ h => h) (Or.inl ⟨by rfl, ?_⟩) hS ?_
  rotate_left 1
  · intro u hu
    go_simp
    first | done | with_reducible rfl
  go_simp
  refine wpAnyH_take (i := 3) (v := ?_) rfl (by kernel_rfl) (by kernel_rfl) (by kernel_rfl) (fun _ _ _ h => h) (Or.inl ⟨by rfl, ?_⟩) hS ?_
  rotate_left 1
  · intro u hu
    go_simp
    first | done | with_reducible rfl
  go_simp
  refine wpAnyH_oneG 4 (by kernel_rfl) rfl (by rfl) ?_
  go_wp2_with fail
  (with_reducible refine (plen_any _ w.heap.size (w.heap.size + 2) w2.drew (PtW.below K2.out.p (Below.refl _ _).drew)).mono ?_)
  rintro e w9 ⟨rfl, rfl⟩
  refine ⟨hS, ?_⟩
  go_simp
  refine wpAnyH_take (i := 5) (v := ?_) rfl (by kernel_rfl) (by kernel_rfl) (by kernel_rfl) (fun _ _ _ h => h) (Or.inl ⟨by rfl, ?_⟩) hS ?_
  rotate_left 1
  · intro u hu
    go_simp
    first | done | with_reducible rfl
  go_simp
  refine wpAnyH_oneG 6 (by kernel_rfl) rfl (by rfl) ?_
  refine wp_store_rw 26 (.tmp 2) (.tmp 77) rfl w.heap.size hv (by with_unfolding_all rfl) (by with_unfolding_all rfl) 26 fr0 K2.out.z.drew HSZ2.out HL2.out HONE2.out ?_
  intro w99 R99 O99
  have hS : w99.rangeAt w1.heap.size 0 hv := range_row (t := 26) (fr := (0, 0)) (K2.out.h.drew.only O99.out (by have := LT.out; omega))
  refine ⟨hS, ?_⟩
  go_simp
  refine wpAnyH_take (i := 7) (v := ?_) rfl (by kernel_rfl) (by kernel_rfl) (by kernel_rfl) (fun _ _ _ h => h) (Or.inl ⟨by rfl, ?_⟩) hS ?_
  rotate_left 1
  · intro u hu
    go_simp
    first | done | with_reducible rfl
  go_simp
  refine wpAnyH_take (i := 8) (v := ?_) rfl (by kernel_rfl) (by kernel_rfl) (by kernel_rfl) (fun _ _ _ h => h) (Or.inl ⟨by rfl, ?_⟩) hS ?_
  rotate_left 1
  · intro u hu
    go_simp
    first | done | with_reducible rfl
  go_simp
  refine wpAnyH_done (by kernel_rfl) ?_ _
  go_wp2_with fail
  first | rw [Exit.noGoto_ret] | skip
  refine ret_rw2 rfl w.heap.size 26 hv _ rfl R99.out Try.underlying26 rfl HSZ2.out rfl ?_
  unfold endF
  rw [if_pos rfl]
  refine ⟨Fp.nil, ?_, ⟨OwnR.nil _ _, Own.nil _ _, Own.nil _ _, Own.nil _ _⟩, K2.out.b.drew.trans (Only.below (w := w2.drew) O99.out K2.out.b.size (Nat.le_refl _))⟩
  rw [← HV.out, ← HM.out]; rfl
set_option maxHeartbeats 8000000 in
set_option maxRecDepth 4000 in
theorem fget_16 (l : List UInt8) (s0 : List UInt8 × Nat) (A : Option Addr) (n c : Nat) (w : World) (hs : Sl w w.heap.size A n l) (hnc : n ≤ c) (hcm : c ≤ maxLen) (hk : kindP (l, 0) = (FrKd 16 false, s0)) (hs0 : s0.2 = 0) :
    Calls Try.prog 21 #[.slice A n c] w (GetsF w (endF n ({ Fr.of 16 with n := (varintP s0).1 }, (varintP s0).2))) := by
  have HF := Lib.hid (fun u hp => kind_any (l, 0) w.heap.size (w.heap.size + 2) u hp)
  have hle1 := kindP_le (l, 0)
  rw [hk] at HF hle1
  simp only at HF hle1
  have hln := hs.1
  have HS := Lib.hid hs
  have HC : Hid (n ≤ c ∧ c ≤ maxLen) := ⟨hnc, hcm⟩
  have hn63 : n ≤ 9223372036854775807 := by unfold maxLen at hcm; omega
  have HONE := Lib.hid (frK_one 16 false)
  have HL0 : Hid (fr0.length = (frK 16 false).length) := rfl
  have HSZ : Hid ((Try.prog.info? 26).map (·.size) = some (frK 16 false).length) := fr_size
  have HFE : frV (FrKd 16 false) Fp.nil = (frK 16 false) := rfl
  rw [HFE] at HF
  clear hk hs hnc hcm HFE
  generalize hn : varintP s0 = vn at *
  obtain ⟨num, s1⟩ := vn
  have HN := Lib.hid (fun u hp => varintp_any s0 w.heap.size (w.heap.size + 2) u hp)
  have hln := varintP_le s0
  rw [hn] at hln HN
  clear hn
  simp only at hln HN ⊢
  obtain ⟨l2, q⟩ := s1
  go_enter Try.func21, Try.ntmps21
  go_wp2_with fail
  refine wp_scope_ahead 0 rfl ?_
  go_wp2_with fail
  (with_reducible refine (of_at A n c _).mono ?_)
  rintro e0 w0 ⟨rfl, rfl⟩
  go_wp2_with fail
  (with_reducible refine (HF.out _ ?hp).mono ?_)
  case hp => exact ⟨_, A, n, c, heap_allocs w [_, _, _] 2 _ rfl, HS.out.below ((((Below.refl _ w).alloc (Nat.le_refl _) _).alloc (by simp) _).alloc (by simp; omega) _), HC.out.1, HC.out.2, by omega⟩
  rintro e1 w1 ⟨rfl, hp1, ho1⟩
  have Z1 : Hid (Rw w1 w.heap.size 26 fr0) := (show Rw _ _ _ _ from heap_allocs w [_, _, _] 0 _ rfl).only ho1 (by omega)
  have B1 : Hid (Below w.heap.size w w1) := ((((Below.refl _ w).alloc (Nat.le_refl _) _).alloc (by simp) _).alloc (by simp; omega) _).trans (ho1.below (by simp; omega) (by omega))
  have LT : Hid (w.heap.size + 2 < w1.heap.size) := show _ < _ by have := ho1.size; simp at this; omega
  have P1 := Lib.hid hp1
  clear hp1 ho1
  go_wp2_with ((with_reducible refine wpList_store_rw rfl 26 (.tmp 6) (.tmp 10) rfl w1.heap.size (frK 16 false) ?hx ?hy 26 fr0 ?hB HSZ.out HL0.out HONE.out ?_); (case hx => with_unfolding_all rfl); (case hy => with_unfolding_all rfl); (case hB => exact heap_alloc_new w1 _); intro w2 R2 O2; have K2 : Hid (GF w w1.heap.size w2 s0 (frK 16 false)) := ⟨(P1.out.below ((Below.refl _ _).alloc (Nat.le_refl _) _)).only O2.out (by have := LT.out; omega) (by have := LT.out; omega), R2.out, (Z1.out.alloc _).only O2.out (by have := LT.out; omega), (B1.out.alloc B1.out.size _).trans (O2.out.below (by have := B1.out.size; simp; omega) B1.out.size), LT.out⟩; have c2 : w2.cell? ⟨w1.heap.size, 0, none⟩ = some (.int .i64 16) := K2.out.h.cell 0 _ rfl)
  obtain ⟨l0, q0⟩ := s0
  simp only at hs0
  subst hs0
  (with_reducible refine (code_any _ w.heap.size (w.heap.size + 2) w2 K2.out.p).mono ?_)
  rintro e w9 ⟨rfl, rfl⟩
  go_wp2_with fail
  (with_reducible refine (HN.out w2 K2.out.p).mono ?_)
  rintro e3 w3 ⟨rfl, hp, hon⟩
  have K3 := Lib.hid (K2.out.call hp hon)
  clear hp hon
  go_wp2_with ((with_reducible refine wpList_put_rw rfl 22 (.tmp 49) (.tmp 48) rfl w1.heap.size 1 (.int .u64 (num : Int)) ?hx ?hy rfl rfl 26 (frK 16 false) K3.out.h sz_num ?hl ?_); (case hx => with_unfolding_all rfl); (case hy => with_unfolding_all rfl); (case hl => simp [frK]); intro w4 R4 O4; have K4 := Lib.hid (K3.out.put R4.out O4.out); have c4 : w4.cell? ⟨w1.heap.size, 0, none⟩ = some (.int .i64 16) := K4.out.h.cell 0 _ rfl)
  go_step3
  refine ⟨rfl, ?_⟩
  go_wp2_with fail
  (with_reducible refine (code_any _ w.heap.size (w.heap.size + 2) w4 K4.out.p).mono ?_)
  rintro e w9 ⟨rfl, rfl⟩
  by_cases hq : q = 0
  · subst hq
    go_wp2_with fail
    obtain ⟨hv, ehv⟩ : ∃ x, ((frK 16 false).set 1 (.int .u64 (num : Int))) = x := ⟨_, rfl⟩
    have HV := Lib.hid ehv
    have HONE2 : Hid (∀ v ∈ hv, v.oneCell' = true) := by rw [← ehv]; simp [frK, Value.oneCell', Hid]
    have HLN : Hid (hv.length = 10) := show _ = _ by rw [← ehv]; simp [frK]
    have HSZ2 : Hid ((Try.prog.info? 26).map (·.size) = some hv.length) := show _ = _ by rw [HLN.out]; exact fr_size
    have HL2 : Hid (fr0.length = hv.length) := show _ = _ by rw [HLN.out]; rfl
    rw [ehv] at K4
    clear ehv
    have hlf : l2.length ≤ n := by omega
    obtain ⟨m, hm⟩ : ∃ m : Nat, n - l2.length = m := ⟨_, rfl⟩
    have wm : IntKind.i64.wrap ((n : Int) - (l2.length : Int)) = (m : Int) := by rw [show (n : Int) - (l2.length : Int) = (m : Int) by omega]; exact IntWalk.i64_in _ (by omega)
    have HM := Lib.hid hm
    clear hm hlf
    refine wp_held (S := fun u => u.rangeAt w1.heap.size 0 hv) (by kernel_rfl) ?_
    have hS : w4.drew.rangeAt w1.heap.size 0 hv := range_row (t := 26) (fr := (0, 0)) K4.out.h
    refine wpAnyH_pickG 0 (.agg hv.toArray) rfl (by kernel_rfl) (by kernel_rfl) (by kernel_rfl) (by rfl) (fun _ _ _ h => h) (fun u hu => exec_load_mid u 26 (.tmp 6) rfl w1.heap.size 0 (by with_unfolding_all rfl) hv _ hu Try.underlying26 rfl HSZ2.out) hS ?_
    go_simp
    refine wpAnyH_take (i := 1) (v := ?_) rfl (by kernel_rfl) (by kernel_rfl) (by kernel_rfl) (fun _ _ _ h => h) (Or.inl ⟨by rfl, ?_⟩) hS ?_
    rotate_left 1
    · intro u hu
      go_simp
      first | done | with_reducible rfl
    go_simp
    refine wpAnyH_take (i := 2) (v := ?_) rfl (by kernel_rfl) (by kernel_rfl) (by kernel_rfl) (fun _ _ _ h => h) (Or.inl ⟨by rfl, ?_⟩) hS ?_
    rotate_left 1
    · intro u hu
      go_simp
      first | done | with_reducible rfl
    go_simp
    refine wpAnyH_take (i := 3) (v := ?_) rfl (by kernel_rfl) (by kernel_rfl) (by kernel_rfl) (fun _ _ _ h => h) (Or.inl ⟨by rfl, ?_⟩) hS ?_
    rotate_left 1
    · intro u hu
      go_simp
      first | done | with_reducible rfl
    go_simp
    refine wpAnyH_oneG 4 (by kernel_rfl) rfl (by rfl) ?_
    go_wp2_with fail
    (with_reducible refine (plen_any _ w.heap.size (w.heap.size + 2) w4.drew (PtW.below K4.out.p (Below.refl _ _).drew)).mono ?_)
    rintro e w9 ⟨rfl, rfl⟩
    refine ⟨hS, ?_⟩
    go_simp
    refine wpAnyH_take (i := 5) (v := ?_) rfl (by kernel_rfl) (by kernel_rfl) (by kernel_rfl) (fun _ _ _ h => h) (Or.inl ⟨by rfl, ?_⟩) hS ?_
    rotate_left 1
    · intro u hu
      go_simp
      first | done | with_reducible rfl
    go_simp
    refine wpAnyH_oneG 6 (by kernel_rfl) rfl (by rfl) ?_
    refine wp_store_rw 26 (.tmp 2) (.tmp 77) rfl w.heap.size hv (by with_unfolding_all rfl) (by with_unfolding_all rfl) 26 fr0 K4.out.z.drew HSZ2.out HL2.out HONE2.out ?_
    intro w99 R99 O99
    have hS : w99.rangeAt w1.heap.size 0 hv := range_row (t := 26) (fr := (0, 0)) (K4.out.h.drew.only O99.out (by have := LT.out; omega))
    refine ⟨hS, ?_⟩
    go_simp
    refine wpAnyH_take (i := 7) (v := ?_) rfl (by kernel_rfl) (by kernel_rfl) (by kernel_rfl) (fun _ _ _ h => h) (Or.inl ⟨by rfl, ?_⟩) hS ?_
    rotate_left 1
    · intro u hu
      go_simp
      first | done | with_reducible rfl
    go_simp
    refine wpAnyH_take (i := 8) (v := ?_) rfl (by kernel_rfl) (by kernel_rfl) (by kernel_rfl) (fun _ _ _ h => h) (Or.inl ⟨by rfl, ?_⟩) hS ?_
    rotate_left 1
    · intro u hu
      go_simp
      first | done | with_reducible rfl
    go_simp
    refine wpAnyH_done (by kernel_rfl) ?_ _
    go_wp2_with fail
    first | rw [Exit.noGoto_ret] | skip
    refine ret_rw2 rfl w.heap.size 26 hv _ rfl R99.out Try.underlying26 rfl HSZ2.out rfl ?_
    unfold endF
    rw [if_pos rfl]
    refine ⟨Fp.nil, ?_, ⟨OwnR.nil _ _, Own.nil _ _, Own.nil _ _, Own.nil _ _⟩, K4.out.b.drew.trans (Only.below (w := w4.drew) O99.out K4.out.b.size (Nat.le_refl _))⟩
    rw [← HV.out, ← HM.out]; rfl
  · have tq : ((q : Int) != 0) = true := by simp; omega
    have HQ := Lib.hid hq
    clear hq
    go_wp2_with fail
    have HSZ0 : Hid ((Try.prog.info? 26).map (·.size) = some fr0.length) := fr_size
    (with_reducible refine (code_any _ w.heap.size (w.heap.size + 2) w4 K4.out.p).mono ?_)
    rintro e w9 ⟨rfl, rfl⟩
    go_wp2_with ((with_reducible refine wpList_store_rw rfl 26 (.tmp 2) (.tmp 74) rfl w.heap.size fr0 ?hx ?hy 26 fr0 K4.out.z HSZ0.out rfl fr0_one ?_); (case hx => with_unfolding_all rfl); (case hy => with_unfolding_all rfl); intro w98 R98 O98)
    first | rw [Exit.noGoto_ret] | skip
    refine ret_rw2 rfl w.heap.size 26 fr0 _ rfl R98.out Try.underlying26 rfl HSZ0.out rfl ?_
    unfold endF
    rw [if_neg HQ.out]
    exact ⟨Fp.nil, rfl, FrO.nil _ _ _, K4.out.b.trans (O98.out.below K4.out.b.size (Nat.le_refl _))⟩
set_option maxHeartbeats 8000000 in
set_option maxRecDepth 4000 in
theorem fget_25 (l : List UInt8) (s0 : List UInt8 × Nat) (A : Option Addr) (n c : Nat) (w : World) (hs : Sl w w.heap.size A n l) (hnc : n ≤ c) (hcm : c ≤ maxLen) (hk : kindP (l, 0) = (FrKd 25 false, s0)) (hs0 : s0.2 = 0) :
    Calls Try.prog 21 #[.slice A n c] w (GetsF w (endF n ({ Fr.of 25 with n := (varintP s0).1 }, (varintP s0).2))) := by
  have HF := Lib.hid (fun u hp => kind_any (l, 0) w.heap.size (w.heap.size + 2) u hp)
  have hle1 := kindP_le (l, 0)
  rw [hk] at HF hle1
  simp only at HF hle1
  have hln := hs.1
  have HS := Lib.hid hs
  have HC : Hid (n ≤ c ∧ c ≤ maxLen) := ⟨hnc, hcm⟩
  have hn63 : n ≤ 9223372036854775807 := by unfold maxLen at hcm; omega
  have HONE := Lib.hid (frK_one 25 false)
  have HL0 : Hid (fr0.length = (frK 25 false).length) := rfl
  have HSZ : Hid ((Try.prog.info? 26).map (·.size) = some (frK 25 false).length) := fr_size
  have HFE : frV (FrKd 25 false) Fp.nil = (frK 25 false) := rfl
  rw [HFE] at HF
  clear hk hs hnc hcm HFE
  generalize hn : varintP s0 = vn at *
  obtain ⟨num, s1⟩ := vn
  have HN := Lib.hid (fun u hp => varintp_any s0 w.heap.size (w.heap.size + 2) u hp)
  have hln := varintP_le s0
  rw [hn] at hln HN
  clear hn
  simp only at hln HN ⊢
  obtain ⟨l2, q⟩ := s1
  go_enter Try.func21, Try.ntmps21
  go_wp2_with fail
  refine wp_scope_ahead 0 rfl ?_
  go_wp2_with fail
  (with_reducible refine (of_at A n c _).mono ?_)
  rintro e0 w0 ⟨rfl, rfl⟩
  go_wp2_with fail
  (with_reducible refine (HF.out _ ?hp).mono ?_)
  case hp => exact ⟨_, A, n, c, heap_allocs w [_, _, _] 2 _ rfl, HS.out.below ((((Below.refl _ w).alloc (Nat.le_refl _) _).alloc (by simp) _).alloc (by simp; omega) _), HC.out.1, HC.out.2, by omega⟩
  rintro e1 w1 ⟨rfl, hp1, ho1⟩
  have Z1 : Hid (Rw w1 w.heap.size 26 fr0) := (show Rw _ _ _ _ from heap_allocs w [_, _, _] 0 _ rfl).only ho1 (by omega)
  have B1 : Hid (Below w.heap.size w w1) := ((((Below.refl _ w).alloc (Nat.le_refl _) _).alloc (by simp) _).alloc (by simp; omega) _).trans (ho1.below (by simp; omega) (by omega))
  have LT : Hid (w.heap.size + 2 < w1.heap.size) := show _ < _ by have := ho1.size; simp at this; omega
  have P1 := Lib.hid hp1
  clear hp1 ho1
  go_wp2_with ((with_reducible refine wpList_store_rw rfl 26 (.tmp 6) (.tmp 10) rfl w1.heap.size (frK 25 false) ?hx ?hy 26 fr0 ?hB HSZ.out HL0.out HONE.out ?_); (case hx => with_unfolding_all rfl); (case hy => with_unfolding_all rfl); (case hB => exact heap_alloc_new w1 _); intro w2 R2 O2; have K2 : Hid (GF w w1.heap.size w2 s0 (frK 25 false)) := ⟨(P1.out.below ((Below.refl _ _).alloc (Nat.le_refl _) _)).only O2.out (by have := LT.out; omega) (by have := LT.out; omega), R2.out, (Z1.out.alloc _).only O2.out (by have := LT.out; omega), (B1.out.alloc B1.out.size _).trans (O2.out.below (by have := B1.out.size; simp; omega) B1.out.size), LT.out⟩; have c2 : w2.cell? ⟨w1.heap.size, 0, none⟩ = some (.int .i64 25) := K2.out.h.cell 0 _ rfl)
  obtain ⟨l0, q0⟩ := s0
  simp only at hs0
  subst hs0
  (with_reducible refine (code_any _ w.heap.size (w.heap.size + 2) w2 K2.out.p).mono ?_)
  rintro e w9 ⟨rfl, rfl⟩
  go_wp2_with fail
  (with_reducible refine (HN.out w2 K2.out.p).mono ?_)
  rintro e3 w3 ⟨rfl, hp, hon⟩
  have K3 := Lib.hid (K2.out.call hp hon)
  clear hp hon
  go_wp2_with ((with_reducible refine wpList_put_rw rfl 22 (.tmp 49) (.tmp 48) rfl w1.heap.size 1 (.int .u64 (num : Int)) ?hx ?hy rfl rfl 26 (frK 25 false) K3.out.h sz_num ?hl ?_); (case hx => with_unfolding_all rfl); (case hy => with_unfolding_all rfl); (case hl => simp [frK]); intro w4 R4 O4; have K4 := Lib.hid (K3.out.put R4.out O4.out); have c4 : w4.cell? ⟨w1.heap.size, 0, none⟩ = some (.int .i64 25) := K4.out.h.cell 0 _ rfl)
  go_step3
  refine ⟨rfl, ?_⟩
  go_wp2_with fail
  (with_reducible refine (code_any _ w.heap.size (w.heap.size + 2) w4 K4.out.p).mono ?_)
  rintro e w9 ⟨rfl, rfl⟩
  by_cases hq : q = 0
  · subst hq
    go_wp2_with fail
    obtain ⟨hv, ehv⟩ : ∃ x, ((frK 25 false).set 1 (.int .u64 (num : Int))) = x := ⟨_, rfl⟩
    have HV := Lib.hid ehv
    have HONE2 : Hid (∀ v ∈ hv, v.oneCell' = true) := by rw [← ehv]; simp [frK, Value.oneCell', Hid]
    have HLN : Hid (hv.length = 10) := show _ = _ by rw [← ehv]; simp [frK]
    have HSZ2 : Hid ((Try.prog.info? 26).map (·.size) = some hv.length) := show _ = _ by rw [HLN.out]; exact fr_size
    have HL2 : Hid (fr0.length = hv.length) := show _ = _ by rw [HLN.out]; rfl
    rw [ehv] at K4
    clear ehv
    have hlf : l2.length ≤ n := by omega
    obtain ⟨m, hm⟩ : ∃ m : Nat, n - l2.length = m := ⟨_, rfl⟩
    have wm : IntKind.i64.wrap ((n : Int) - (l2.length : Int)) = (m : Int) := by rw [show (n : Int) - (l2.length : Int) = (m : Int) by omega]; exact IntWalk.i64_in _ (by omega)
    have HM := Lib.hid hm
    clear hm hlf
    refine wp_held (S := fun u => u.rangeAt w1.heap.size 0 hv) (by kernel_rfl) ?_
    have hS : w4.drew.rangeAt w1.heap.size 0 hv := range_row (t := 26) (fr := (0, 0)) K4.out.h
    refine wpAnyH_pickG 0 (.agg hv.toArray) rfl (by kernel_rfl) (by kernel_rfl) (by kernel_rfl) (by rfl) (fun _ _ _ h => h) (fun u hu => exec_load_mid u 26 (.tmp 6) rfl w1.heap.size 0 (by with_unfolding_all rfl) hv _ hu Try.underlying26 rfl HSZ2.out) hS ?_
    go_simp
    refine wpAnyH_take (i := 1) (v := ?_) rfl (by kernel_rfl) (by kernel_rfl) (by kernel_rfl) (fun _ _ _ h => h) (Or.inl ⟨by rfl, ?_⟩) hS ?_
    rotate_left 1
    · intro u hu
      go_simp
      first | done | with_reducible rfl
    go_simp
    refine wpAnyH_take (i := 2) (v := ?_) rfl (by kernel_rfl) (by kernel_rfl) (by kernel_rfl) (fun _ _ _ h => h) (Or.inl ⟨by rfl, ?_⟩) hS ?_
    rotate_left 1
    · intro u hu
      go_simp
      first | done | with_reducible rfl
    go_simp
    refine wpAnyH_take (i := 3) (v := ?_) rfl (by kernel_rfl) (by kernel_rfl) (by kernel_rfl) (fun _ _ _ h => h) (Or.inl ⟨by rfl, ?_⟩) hS ?_
    rotate_left 1
    · intro u hu
      go_simp
      first | done | with_reducible rfl
    go_simp
    refine wpAnyH_oneG 4 (by kernel_rfl) rfl (by rfl) ?_
    go_wp2_with fail
    (with_reducible refine (plen_any _ w.heap.size (w.heap.size + 2) w4.drew (PtW.below K4.out.p (Below.refl _ _).drew)).mono ?_)
    rintro e w9 ⟨rfl, rfl⟩
    refine ⟨hS, ?_⟩
    go_simp
    refine wpAnyH_take (i := 5) (v := ?_) rfl (by kernel_rfl) (by kernel_rfl) (by kernel_rfl) (fun _ _ _ h => h) (Or.inl ⟨by rfl, ?_⟩) hS ?_
    rotate_left 1
    · intro u hu
      go_simp
      first | done | with_reducible rfl
    go_simp
    refine wpAnyH_oneG 6 (by kernel_rfl) rfl (by rfl) ?_
    refine wp_store_rw 26 (.tmp 2) (.tmp 77) rfl w.heap.size hv (by with_unfolding_all rfl) (by with_unfolding_all rfl) 26 fr0 K4.out.z.drew HSZ2.out HL2.out HONE2.out ?_
    intro w99 R99 O99
    have hS : w99.rangeAt w1.heap.size 0 hv := range_row (t := 26) (fr := (0, 0)) (K4.out.h.drew.only O99.out (by have := LT.out; omega))
    refine ⟨hS, ?_⟩
    go_simp
    refine wpAnyH_take (i := 7) (v := ?_) rfl (by kernel_rfl) (by kernel_rfl) (by kernel_rfl) (fun _ _ _ h => h) (Or.inl ⟨by rfl, ?_⟩) hS ?_
    rotate_left 1
    · intro u hu
      go_simp
      first | done | with_reducible rfl
    go_simp
    refine wpAnyH_take (i := 8) (v := ?_) rfl (by kernel_rfl) (by kernel_rfl) (by kernel_rfl) (fun _ _ _ h => h) (Or.inl ⟨by rfl, ?_⟩) hS ?_
    rotate_left 1
    · intro u hu
      go_simp
      first | done | with_reducible rfl
    go_simp
    refine wpAnyH_done (by kernel_rfl) ?_ _
    go_wp2_with fail
    first | rw [Exit.noGoto_ret] | skip
    refine ret_rw2 rfl w.heap.size 26 hv _ rfl R99.out Try.underlying26 rfl HSZ2.out rfl ?_
    unfold endF
    rw [if_pos rfl]
    refine ⟨Fp.nil, ?_, ⟨OwnR.nil _ _, Own.nil _ _, Own.nil _ _, Own.nil _ _⟩, K4.out.b.drew.trans (Only.below (w := w4.drew) O99.out K4.out.b.size (Nat.le_refl _))⟩
    rw [← HV.out, ← HM.out]; rfl
  · have tq : ((q : Int) != 0) = true := by simp; omega
    have HQ := Lib.hid hq
    clear hq
    go_wp2_with fail
    have HSZ0 : Hid ((Try.prog.info? 26).map (·.size) = some fr0.length) := fr_size
    (with_reducible refine (code_any _ w.heap.size (w.heap.size + 2) w4 K4.out.p).mono ?_)
    rintro e w9 ⟨rfl, rfl⟩
    go_wp2_with ((with_reducible refine wpList_store_rw rfl 26 (.tmp 2) (.tmp 74) rfl w.heap.size fr0 ?hx ?hy 26 fr0 K4.out.z HSZ0.out rfl fr0_one ?_); (case hx => with_unfolding_all rfl); (case hy => with_unfolding_all rfl); intro w98 R98 O98)
    first | rw [Exit.noGoto_ret] | skip
    refine ret_rw2 rfl w.heap.size 26 fr0 _ rfl R98.out Try.underlying26 rfl HSZ0.out rfl ?_
    unfold endF
    rw [if_neg HQ.out]
    exact ⟨Fp.nil, rfl, FrO.nil _ _ _, K4.out.b.trans (O98.out.below K4.out.b.size (Nat.le_refl _))⟩
set_option maxHeartbeats 8000000 in
set_option maxRecDepth 4000 in
theorem fget_28 (l : List UInt8) (s0 : List UInt8 × Nat) (A : Option Addr) (n c : Nat) (w : World) (hs : Sl w w.heap.size A n l) (hnc : n ≤ c) (hcm : c ≤ maxLen) (hk : kindP (l, 0) = (FrKd 28 false, s0)) (hs0 : s0.2 = 0) :
    Calls Try.prog 21 #[.slice A n c] w (GetsF w (endF n ({ Fr.of 28 with n := (varintP s0).1 }, nothingP (nothingP (varintP s0).2)))) := by
  have HF := Lib.hid (fun u hp => kind_any (l, 0) w.heap.size (w.heap.size + 2) u hp)
  have hle1 := kindP_le (l, 0)
  rw [hk] at HF hle1
  simp only at HF hle1
  have hln := hs.1
  have HS := Lib.hid hs
  have HC : Hid (n ≤ c ∧ c ≤ maxLen) := ⟨hnc, hcm⟩
  have hn63 : n ≤ 9223372036854775807 := by unfold maxLen at hcm; omega
  have HONE := Lib.hid (frK_one 28 false)
  have HL0 : Hid (fr0.length = (frK 28 false).length) := rfl
  have HSZ : Hid ((Try.prog.info? 26).map (·.size) = some (frK 28 false).length) := fr_size
  have HFE : frV (FrKd 28 false) Fp.nil = (frK 28 false) := rfl
  rw [HFE] at HF
  clear hk hs hnc hcm HFE
  generalize hn : varintP s0 = vn at *
  obtain ⟨num, s1⟩ := vn
  have HN := Lib.hid (fun u hp => varintp_any s0 w.heap.size (w.heap.size + 2) u hp)
  have hln := varintP_le s0
  rw [hn] at hln HN
  clear hn
  simp only at hln HN ⊢
  generalize ha : nothingP s1 = s2 at *
  have HA := Lib.hid (fun u hp => nothing_any s1 w.heap.size (w.heap.size + 2) u hp)
  have hla := nothingP_le s1
  rw [ha] at HA hla
  clear ha
  generalize hb : nothingP s2 = s3 at *
  have HB := Lib.hid (fun u hp => nothing_any s2 w.heap.size (w.heap.size + 2) u hp)
  have hlb := nothingP_le s2
  rw [hb] at HB hlb
  clear hb
  obtain ⟨l2, q⟩ := s3
  simp only at hlb
  go_enter Try.func21, Try.ntmps21
  go_wp2_with fail
  refine wp_scope_ahead 0 rfl ?_
  go_wp2_with fail
  (with_reducible refine (of_at A n c _).mono ?_)
  rintro e0 w0 ⟨rfl, rfl⟩
  go_wp2_with fail
  (with_reducible refine (HF.out _ ?hp).mono ?_)
  case hp => exact ⟨_, A, n, c, heap_allocs w [_, _, _] 2 _ rfl, HS.out.below ((((Below.refl _ w).alloc (Nat.le_refl _) _).alloc (by simp) _).alloc (by simp; omega) _), HC.out.1, HC.out.2, by omega⟩
  rintro e1 w1 ⟨rfl, hp1, ho1⟩
  have Z1 : Hid (Rw w1 w.heap.size 26 fr0) := (show Rw _ _ _ _ from heap_allocs w [_, _, _] 0 _ rfl).only ho1 (by omega)
  have B1 : Hid (Below w.heap.size w w1) := ((((Below.refl _ w).alloc (Nat.le_refl _) _).alloc (by simp) _).alloc (by simp; omega) _).trans (ho1.below (by simp; omega) (by omega))
  have LT : Hid (w.heap.size + 2 < w1.heap.size) := show _ < _ by have := ho1.size; simp at this; omega
  have P1 := Lib.hid hp1
  clear hp1 ho1
  go_wp2_with ((with_reducible refine wpList_store_rw rfl 26 (.tmp 6) (.tmp 10) rfl w1.heap.size (frK 28 false) ?hx ?hy 26 fr0 ?hB HSZ.out HL0.out HONE.out ?_); (case hx => with_unfolding_all rfl); (case hy => with_unfolding_all rfl); (case hB => exact heap_alloc_new w1 _); intro w2 R2 O2; have K2 : Hid (GF w w1.heap.size w2 s0 (frK 28 false)) := ⟨(P1.out.below ((Below.refl _ _).alloc (Nat.le_refl _) _)).only O2.out (by have := LT.out; omega) (by have := LT.out; omega), R2.out, (Z1.out.alloc _).only O2.out (by have := LT.out; omega), (B1.out.alloc B1.out.size _).trans (O2.out.below (by have := B1.out.size; simp; omega) B1.out.size), LT.out⟩; have c2 : w2.cell? ⟨w1.heap.size, 0, none⟩ = some (.int .i64 28) := K2.out.h.cell 0 _ rfl)
  obtain ⟨l0, q0⟩ := s0
  simp only at hs0
  subst hs0
  (with_reducible refine (code_any _ w.heap.size (w.heap.size + 2) w2 K2.out.p).mono ?_)
  rintro e w9 ⟨rfl, rfl⟩
  go_wp2_with fail
  (with_reducible refine (HN.out w2 K2.out.p).mono ?_)
  rintro e3 w3 ⟨rfl, hp, hon⟩
  have K3 := Lib.hid (K2.out.call hp hon)
  clear hp hon
  go_wp2_with ((with_reducible refine wpList_put_rw rfl 22 (.tmp 49) (.tmp 48) rfl w1.heap.size 1 (.int .u64 (num : Int)) ?hx ?hy rfl rfl 26 (frK 28 false) K3.out.h sz_num ?hl ?_); (case hx => with_unfolding_all rfl); (case hy => with_unfolding_all rfl); (case hl => simp [frK]); intro w4 R4 O4; have K4 := Lib.hid (K3.out.put R4.out O4.out); have c4 : w4.cell? ⟨w1.heap.size, 0, none⟩ = some (.int .i64 28) := K4.out.h.cell 0 _ rfl)
  (with_reducible refine (HA.out w4 K4.out.p).mono ?_)
  rintro e5 w5 ⟨rfl, hp, hon⟩
  have K5 := Lib.hid (K4.out.call hp hon)
  clear hp hon
  go_wp2_with fail
  (with_reducible refine (HB.out w5 K5.out.p).mono ?_)
  rintro e6 w6 ⟨rfl, hp, hon⟩
  have K6 := Lib.hid (K5.out.call hp hon)
  clear hp hon
  go_wp2_with fail
  go_step3
  refine ⟨rfl, ?_⟩
  go_wp2_with fail
  (with_reducible refine (code_any _ w.heap.size (w.heap.size + 2) w6 K6.out.p).mono ?_)
  rintro e w9 ⟨rfl, rfl⟩
  by_cases hq : q = 0
  · subst hq
    go_wp2_with fail
    obtain ⟨hv, ehv⟩ : ∃ x, ((frK 28 false).set 1 (.int .u64 (num : Int))) = x := ⟨_, rfl⟩
    have HV := Lib.hid ehv
    have HONE2 : Hid (∀ v ∈ hv, v.oneCell' = true) := by rw [← ehv]; simp [frK, Value.oneCell', Hid]
    have HLN : Hid (hv.length = 10) := show _ = _ by rw [← ehv]; simp [frK]
    have HSZ2 : Hid ((Try.prog.info? 26).map (·.size) = some hv.length) := show _ = _ by rw [HLN.out]; exact fr_size
    have HL2 : Hid (fr0.length = hv.length) := show _ = _ by rw [HLN.out]; rfl
    rw [ehv] at K6
    clear ehv
    have hlf : l2.length ≤ n := by omega
    obtain ⟨m, hm⟩ : ∃ m : Nat, n - l2.length = m := ⟨_, rfl⟩
    have wm : IntKind.i64.wrap ((n : Int) - (l2.length : Int)) = (m : Int) := by rw [show (n : Int) - (l2.length : Int) = (m : Int) by omega]; exact IntWalk.i64_in _ (by omega)
    have HM := Lib.hid hm
    clear hm hlf
    refine wp_held (S := fun u => u.rangeAt w1.heap.size 0 hv) (by kernel_rfl) ?_
    have hS : w6.drew.rangeAt w1.heap.size 0 hv := range_row (t := 26) (fr := (0, 0)) K6.out.h
    refine wpAnyH_pickG 0 (.agg hv.toArray) rfl (by kernel_rfl) (by kernel_rfl) (by kernel_rfl) (by rfl) (fun _ _ _ h => h) (fun u hu => exec_load_mid u 26 (.tmp 6) rfl w1.heap.size 0 (by with_unfolding_all rfl) hv _ hu Try.underlying26 rfl HSZ2.out) hS ?_
    go_simp
    refine wpAnyH_take (i := 1) (v := ?_) rfl (by kernel_rfl) (by kernel_rfl) (by kernel_rfl) (fun _ _ _ h => h) (Or.inl ⟨by rfl, ?_⟩) hS ?_
    rotate_left 1
    · intro u hu
      go_simp
      first | done | with_reducible rfl
    go_simp
    refine wpAnyH_take (i := 2) (v := ?_) rfl (by kernel_rfl) (by kernel_rfl) (by kernel_rfl) (fun _ _ _ h => h) (Or.inl ⟨by rfl, ?_⟩) hS ?_
    rotate_left 1
    · intro u hu
      go_simp
      first | done | with_reducible rfl
    go_simp
    refine wpAnyH_take (i := 3) (v := ?_) rfl (by kernel_rfl) (by kernel_rfl) (by kernel_rfl) (fun _ _ _ h => h) (Or.inl ⟨by rfl, ?_⟩) hS ?_
    rotate_left 1
    · intro u hu
      go_simp
      first | done | with_reducible rfl
    go_simp
    refine wpAnyH_oneG 4 (by kernel_rfl) rfl (by rfl) ?_
    go_wp2_with fail
    (with_reducible refine (plen_any _ w.heap.size (w.heap.size + 2) w6.drew (PtW.below K6.out.p (Below.refl _ _).drew)).mono ?_)
    rintro e w9 ⟨rfl, rfl⟩
    refine ⟨hS, ?_⟩
    go_simp
    refine wpAnyH_take (i := 5) (v := ?_) rfl (by kernel_rfl) (by kernel_rfl) (by kernel_rfl) (fun _ _ _ h => h) (Or.inl ⟨by rfl, ?_⟩) hS ?_
    rotate_left 1
    · intro u hu
      go_simp
      first | done | with_reducible rfl
    go_simp
    refine wpAnyH_oneG 6 (by kernel_rfl) rfl (by rfl) ?_
    refine wp_store_rw 26 (.tmp 2) (.tmp 77) rfl w.heap.size hv (by with_unfolding_all rfl) (by with_unfolding_all rfl) 26 fr0 K6.out.z.drew HSZ2.out HL2.out HONE2.out ?_
    intro w99 R99 O99
    have hS : w99.rangeAt w1.heap.size 0 hv := range_row (t := 26) (fr := (0, 0)) (K6.out.h.drew.only O99.out (by have := LT.out; omega))
    refine ⟨hS, ?_⟩
    go_simp
    refine wpAnyH_take (i := 7) (v := ?_) rfl (by kernel_rfl) (by kernel_rfl) (by kernel_rfl) (fun _ _ _ h => h) (Or.inl ⟨by rfl, ?_⟩) hS ?_
    rotate_left 1
    · intro u hu
      go_simp
      first | done | with_reducible rfl
    go_simp
    refine wpAnyH_take (i := 8) (v := ?_) rfl (by kernel_rfl) (by kernel_rfl) (by kernel_rfl) (fun _ _ _ h => h) (Or.inl ⟨by rfl, ?_⟩) hS ?_
    rotate_left 1
    · intro u hu
      go_simp
      first | done | with_reducible rfl
    go_simp
    refine wpAnyH_done (by kernel_rfl) ?_ _
    go_wp2_with fail
    first | rw [Exit.noGoto_ret] | skip
    refine ret_rw2 rfl w.heap.size 26 hv _ rfl R99.out Try.underlying26 rfl HSZ2.out rfl ?_
    unfold endF
    rw [if_pos rfl]
    refine ⟨Fp.nil, ?_, ⟨OwnR.nil _ _, Own.nil _ _, Own.nil _ _, Own.nil _ _⟩, K6.out.b.drew.trans (Only.below (w := w6.drew) O99.out K6.out.b.size (Nat.le_refl _))⟩
    rw [← HV.out, ← HM.out]; rfl
  · have tq : ((q : Int) != 0) = true := by simp; omega
    have HQ := Lib.hid hq
    clear hq
    go_wp2_with fail
    have HSZ0 : Hid ((Try.prog.info? 26).map (·.size) = some fr0.length) := fr_size
    (with_reducible refine (code_any _ w.heap.size (w.heap.size + 2) w6 K6.out.p).mono ?_)
    rintro e w9 ⟨rfl, rfl⟩
    go_wp2_with ((with_reducible refine wpList_store_rw rfl 26 (.tmp 2) (.tmp 74) rfl w.heap.size fr0 ?hx ?hy 26 fr0 K6.out.z HSZ0.out rfl fr0_one ?_); (case hx => with_unfolding_all rfl); (case hy => with_unfolding_all rfl); intro w98 R98 O98)
    first | rw [Exit.noGoto_ret] | skip
    refine ret_rw2 rfl w.heap.size 26 fr0 _ rfl R98.out Try.underlying26 rfl HSZ0.out rfl ?_
    unfold endF
    rw [if_neg HQ.out]
    exact ⟨Fp.nil, rfl, FrO.nil _ _ _, K6.out.b.trans (O98.out.below K6.out.b.size (Nat.le_refl _))⟩
set_option maxHeartbeats 8000000 in
set_option maxRecDepth 4000 in
theorem fget_24 (l : List UInt8) (s0 : List UInt8 × Nat) (A : Option Addr) (n c : Nat) (w : World) (hs : Sl w w.heap.size A n l) (hnc : n ≤ c) (hcm : c ≤ maxLen) (hk : kindP (l, 0) = (FrKd 24 false, s0)) (hs0 : s0.2 = 0) :
    Calls Try.prog 21 #[.slice A n c] w (GetsF w (endF n ({ Fr.of 24 with n := (varintP s0).1, cid := (name8P (nothingP (varintP s0).2)).1, tok := (bytesP (name8P (nothingP (varintP s0).2)).2 16).1 }, (bytesP (name8P (nothingP (varintP s0).2)).2 16).2))) := by
  have HF := Lib.hid (fun u hp => kind_any (l, 0) w.heap.size (w.heap.size + 2) u hp)
  have hle1 := kindP_le (l, 0)
  rw [hk] at HF hle1
  simp only at HF hle1
  have hln := hs.1
  have HS := Lib.hid hs
  have HC : Hid (n ≤ c ∧ c ≤ maxLen) := ⟨hnc, hcm⟩
  have hn63 : n ≤ 9223372036854775807 := by unfold maxLen at hcm; omega
  have HONE := Lib.hid (frK_one 24 false)
  have HL0 : Hid (fr0.length = (frK 24 false).length) := rfl
  have HSZ : Hid ((Try.prog.info? 26).map (·.size) = some (frK 24 false).length) := fr_size
  have HFE : frV (FrKd 24 false) Fp.nil = (frK 24 false) := rfl
  rw [HFE] at HF
  clear hk hs hnc hcm HFE
  generalize hn : varintP s0 = vn at *
  obtain ⟨num, s1⟩ := vn
  have HN := Lib.hid (fun u hp => varintp_any s0 w.heap.size (w.heap.size + 2) u hp)
  have hln := varintP_le s0
  rw [hn] at hln HN
  clear hn
  simp only at hln HN ⊢
  generalize ha : nothingP s1 = s2 at *
  have HA := Lib.hid (fun u hp => nothing_any s1 w.heap.size (w.heap.size + 2) u hp)
  have hla := nothingP_le s1
  rw [ha] at HA hla
  clear ha
  generalize hci : name8P s2 = vci at *
  obtain ⟨cil, s3⟩ := vci
  have HCI := Lib.hid (fun u hp => name8_any s2 w.heap.size (w.heap.size + 2) u hp)
  have hlci := name8P_le s2
  rw [hci] at hlci HCI
  clear hci
  simp only at hlci ⊢
  generalize htk : bytesP s3 16 = vtk at *
  obtain ⟨tkl, s4⟩ := vtk
  have HTK := Lib.hid (fun u hp => bytes_any s3 16 16 rfl (by omega) (by omega) w.heap.size (w.heap.size + 2) u hp)
  have hltk := bytesP_le s3 16
  rw [htk] at hltk HTK
  clear htk
  simp only at hltk ⊢
  obtain ⟨l2, q⟩ := s4
  simp only at hltk
  go_enter Try.func21, Try.ntmps21
  go_wp2_with fail
  refine wp_scope_ahead 0 rfl ?_
  go_wp2_with fail
  (with_reducible refine (of_at A n c _).mono ?_)
  rintro e0 w0 ⟨rfl, rfl⟩
  go_wp2_with fail
  (with_reducible refine (HF.out _ ?hp).mono ?_)
  case hp => exact ⟨_, A, n, c, heap_allocs w [_, _, _] 2 _ rfl, HS.out.below ((((Below.refl _ w).alloc (Nat.le_refl _) _).alloc (by simp) _).alloc (by simp; omega) _), HC.out.1, HC.out.2, by omega⟩
  rintro e1 w1 ⟨rfl, hp1, ho1⟩
  have Z1 : Hid (Rw w1 w.heap.size 26 fr0) := (show Rw _ _ _ _ from heap_allocs w [_, _, _] 0 _ rfl).only ho1 (by omega)
  have B1 : Hid (Below w.heap.size w w1) := ((((Below.refl _ w).alloc (Nat.le_refl _) _).alloc (by simp) _).alloc (by simp; omega) _).trans (ho1.below (by simp; omega) (by omega))
  have LT : Hid (w.heap.size + 2 < w1.heap.size) := show _ < _ by have := ho1.size; simp at this; omega
  have P1 := Lib.hid hp1
  clear hp1 ho1
  go_wp2_with ((with_reducible refine wpList_store_rw rfl 26 (.tmp 6) (.tmp 10) rfl w1.heap.size (frK 24 false) ?hx ?hy 26 fr0 ?hB HSZ.out HL0.out HONE.out ?_); (case hx => with_unfolding_all rfl); (case hy => with_unfolding_all rfl); (case hB => exact heap_alloc_new w1 _); intro w2 R2 O2; have K2 : Hid (GF w w1.heap.size w2 s0 (frK 24 false)) := ⟨(P1.out.below ((Below.refl _ _).alloc (Nat.le_refl _) _)).only O2.out (by have := LT.out; omega) (by have := LT.out; omega), R2.out, (Z1.out.alloc _).only O2.out (by have := LT.out; omega), (B1.out.alloc B1.out.size _).trans (O2.out.below (by have := B1.out.size; simp; omega) B1.out.size), LT.out⟩; have c2 : w2.cell? ⟨w1.heap.size, 0, none⟩ = some (.int .i64 24) := K2.out.h.cell 0 _ rfl)
  obtain ⟨l0, q0⟩ := s0
  simp only at hs0
  subst hs0
  (with_reducible refine (code_any _ w.heap.size (w.heap.size + 2) w2 K2.out.p).mono ?_)
  rintro e w9 ⟨rfl, rfl⟩
  go_wp2_with fail
  (with_reducible refine (HN.out w2 K2.out.p).mono ?_)
  rintro e3 w3 ⟨rfl, hp, hon⟩
  have K3 := Lib.hid (K2.out.call hp hon)
  clear hp hon
  go_wp2_with ((with_reducible refine wpList_put_rw rfl 22 (.tmp 49) (.tmp 48) rfl w1.heap.size 1 (.int .u64 (num : Int)) ?hx ?hy rfl rfl 26 (frK 24 false) K3.out.h sz_num ?hl ?_); (case hx => with_unfolding_all rfl); (case hy => with_unfolding_all rfl); (case hl => simp [frK]); intro w4 R4 O4; have K4 := Lib.hid (K3.out.put R4.out O4.out); have c4 : w4.cell? ⟨w1.heap.size, 0, none⟩ = some (.int .i64 24) := K4.out.h.cell 0 _ rfl)
  (with_reducible refine (HA.out w4 K4.out.p).mono ?_)
  rintro e5 w5 ⟨rfl, hp, hon⟩
  have K5 := Lib.hid (K4.out.call hp hon)
  clear hp hon
  go_wp2_with fail
  (with_reducible refine (HCI.out w5 K5.out.p).mono ?_)
  rintro e6 w6 ⟨Ac, nc, cc, rfl, ho, hle, hc, hp, hon⟩
  have K6 := Lib.hid (K5.out.call hp hon)
  have Dc6 : Hid (OwnS w1.heap.size w6 Ac nc cc cil) := ⟨ho.base K5.out.h.lt, hle, hc⟩
  clear ho hle hc hp hon
  go_wp2_with ((with_reducible refine wpList_put_rw rfl 24 (.tmp 56) (.tmp 55) rfl w1.heap.size 8 (.slice Ac nc cc) ?hx ?hy rfl rfl 26 ((frK 24 false).set 1 (.int .u64 (num : Int))) K6.out.h sz_bytes ?hl ?_); (case hx => with_unfolding_all rfl); (case hy => with_unfolding_all rfl); (case hl => simp [frK]); intro w7 R7 O7; have K7 := Lib.hid (K6.out.put R7.out O7.out); have Dc7 := Lib.hid (Dc6.out.only O7.out (Nat.le_refl _)))
  (with_reducible refine (HTK.out w7 K7.out.p).mono ?_)
  rintro e8 w8 ⟨At, nt, ct, rfl, ho, hle, hc, hp, hon⟩
  have K8 := Lib.hid (K7.out.call hp hon)
  have Dt8 : Hid (OwnS w1.heap.size w8 At nt ct tkl) := ⟨ho.base K7.out.h.lt, hle, hc⟩
  have Dc8 := Lib.hid (Dc7.out.only hon (by have := LT.out; omega))
  clear ho hle hc hp hon
  go_wp2_with ((with_reducible refine wpList_put_rw rfl 24 (.tmp 59) (.tmp 58) rfl w1.heap.size 9 (.slice At nt ct) ?hx ?hy rfl rfl 26 (((frK 24 false).set 1 (.int .u64 (num : Int))).set 8 (.slice Ac nc cc)) K8.out.h sz_bytes ?hl ?_); (case hx => with_unfolding_all rfl); (case hy => with_unfolding_all rfl); (case hl => simp [frK]); intro w9 R9 O9; have K9 := Lib.hid (K8.out.put R9.out O9.out); have Dc9 := Lib.hid (Dc8.out.only O9.out (Nat.le_refl _)); have Dt9 := Lib.hid (Dt8.out.only O9.out (Nat.le_refl _)))
  go_step3
  refine ⟨rfl, ?_⟩
  go_wp2_with fail
  (with_reducible refine (code_any _ w.heap.size (w.heap.size + 2) w9 K9.out.p).mono ?_)
  rintro e w9 ⟨rfl, rfl⟩
  by_cases hq : q = 0
  · subst hq
    go_wp2_with fail
    obtain ⟨hv, ehv⟩ : ∃ x, ((((frK 24 false).set 1 (.int .u64 (num : Int))).set 8 (.slice Ac nc cc)).set 9 (.slice At nt ct)) = x := ⟨_, rfl⟩
    have HV := Lib.hid ehv
    have HONE2 : Hid (∀ v ∈ hv, v.oneCell' = true) := by rw [← ehv]; simp [frK, Value.oneCell', Hid]
    have HLN : Hid (hv.length = 10) := show _ = _ by rw [← ehv]; simp [frK]
    have HSZ2 : Hid ((Try.prog.info? 26).map (·.size) = some hv.length) := show _ = _ by rw [HLN.out]; exact fr_size
    have HL2 : Hid (fr0.length = hv.length) := show _ = _ by rw [HLN.out]; rfl
    rw [ehv] at K9
    clear ehv
    have hlf : l2.length ≤ n := by omega
    obtain ⟨m, hm⟩ : ∃ m : Nat, n - l2.length = m := ⟨_, rfl⟩
    have wm : IntKind.i64.wrap ((n : Int) - (l2.length : Int)) = (m : Int) := by rw [show (n : Int) - (l2.length : Int) = (m : Int) by omega]; exact IntWalk.i64_in _ (by omega)
    have HM := Lib.hid hm
    clear hm hlf
    refine wp_held (S := fun u => u.rangeAt w1.heap.size 0 hv) (by kernel_rfl) ?_
    have hS : w9.drew.rangeAt w1.heap.size 0 hv := range_row (t := 26) (fr := (0, 0)) K9.out.h
    refine wpAnyH_pickG 0 (.agg hv.toArray) rfl (by kernel_rfl) (by kernel_rfl) (by kernel_rfl) (by rfl) (fun _ _ _ h => h) (fun u hu => exec_load_mid u 26 (.tmp 6) rfl w1.heap.size 0 (by with_unfolding_all rfl) hv _ hu Try.underlying26 rfl HSZ2.out) hS ?_
    go_simp
    refine wpAnyH_take (i := 1) (v := ?_) rfl (by kernel_rfl) (by kernel_rfl) (by kernel_rfl) (fun _ _ _ h => h) (Or.inl ⟨by rfl, ?_⟩) hS ?_
    rotate_left 1
    · intro u hu
      go_simp
      first | done | with_reducible rfl
    go_simp
    refine wpAnyH_take (i := 2) (v := ?_) rfl (by kernel_rfl) (by kernel_rfl) (by kernel_rfl) (fun _ _ _ h => h) (Or.inl ⟨by rfl, ?_⟩) hS ?_
    rotate_left 1
    · intro u hu
      go_simp
      first | done | with_reducible rfl
    go_simp
    refine wpAnyH_take (i := 3) (v := ?_) rfl (by kernel_rfl) (by kernel_rfl) (by kernel_rfl) (fun _ _ _ h => h) (Or.inl ⟨by rfl, ?_⟩) hS ?_
    rotate_left 1
    · intro u hu
      go_simp
      first | done | with_reducible rfl
    go_simp
    refine wpAnyH_oneG 4 (by kernel_rfl) rfl (by rfl) ?_
    go_wp2_with fail
    (with_reducible refine (plen_any _ w.heap.size (w.heap.size + 2) w9.drew (PtW.below K9.out.p (Below.refl _ _).drew)).mono ?_)
    rintro e w9 ⟨rfl, rfl⟩
    refine ⟨hS, ?_⟩
    go_simp
    refine wpAnyH_take (i := 5) (v := ?_) rfl (by kernel_rfl) (by kernel_rfl) (by kernel_rfl) (fun _ _ _ h => h) (Or.inl ⟨by rfl, ?_⟩) hS ?_
    rotate_left 1
    · intro u hu
      go_simp
      first | done | with_reducible rfl
    go_simp
    refine wpAnyH_oneG 6 (by kernel_rfl) rfl (by rfl) ?_
    refine wp_store_rw 26 (.tmp 2) (.tmp 77) rfl w.heap.size hv (by with_unfolding_all rfl) (by with_unfolding_all rfl) 26 fr0 K9.out.z.drew HSZ2.out HL2.out HONE2.out ?_
    intro w99 R99 O99
    have hS : w99.rangeAt w1.heap.size 0 hv := range_row (t := 26) (fr := (0, 0)) (K9.out.h.drew.only O99.out (by have := LT.out; omega))
    refine ⟨hS, ?_⟩
    go_simp
    refine wpAnyH_take (i := 7) (v := ?_) rfl (by kernel_rfl) (by kernel_rfl) (by kernel_rfl) (fun _ _ _ h => h) (Or.inl ⟨by rfl, ?_⟩) hS ?_
    rotate_left 1
    · intro u hu
      go_simp
      first | done | with_reducible rfl
    go_simp
    refine wpAnyH_take (i := 8) (v := ?_) rfl (by kernel_rfl) (by kernel_rfl) (by kernel_rfl) (fun _ _ _ h => h) (Or.inl ⟨by rfl, ?_⟩) hS ?_
    rotate_left 1
    · intro u hu
      go_simp
      first | done | with_reducible rfl
    go_simp
    refine wpAnyH_done (by kernel_rfl) ?_ _
    go_wp2_with fail
    first | rw [Exit.noGoto_ret] | skip
    refine ret_rw2 rfl w.heap.size 26 hv _ rfl R99.out Try.underlying26 rfl HSZ2.out rfl ?_
    have Ec := OwnS.only (v := w9.drew) (OwnS.drew Dc9.out) O99.out (by have := LT.out; omega)
    have Et := OwnS.only (v := w9.drew) (OwnS.drew Dt9.out) O99.out (by have := LT.out; omega)
    unfold endF
    rw [if_pos rfl]
    refine ⟨{ Fp.nil with ca := Ac, cn := nc, cc := cc, ta := At, tn := nt, tc := ct }, ?_, ⟨OwnR.nil _ _, Own.nil _ _, Ec.o.base (by have := LT.out; omega), Et.o.base (by have := LT.out; omega)⟩, K9.out.b.drew.trans (Only.below (w := w9.drew) O99.out K9.out.b.size (Nat.le_refl _))⟩
    rw [← HV.out, ← HM.out]; rfl
  · have tq : ((q : Int) != 0) = true := by simp; omega
    have HQ := Lib.hid hq
    clear hq
    go_wp2_with fail
    have HSZ0 : Hid ((Try.prog.info? 26).map (·.size) = some fr0.length) := fr_size
    (with_reducible refine (code_any _ w.heap.size (w.heap.size + 2) w9 K9.out.p).mono ?_)
    rintro e w9 ⟨rfl, rfl⟩
    go_wp2_with ((with_reducible refine wpList_store_rw rfl 26 (.tmp 2) (.tmp 74) rfl w.heap.size fr0 ?hx ?hy 26 fr0 K9.out.z HSZ0.out rfl fr0_one ?_); (case hx => with_unfolding_all rfl); (case hy => with_unfolding_all rfl); intro w98 R98 O98)
    first | rw [Exit.noGoto_ret] | skip
    refine ret_rw2 rfl w.heap.size 26 fr0 _ rfl R98.out Try.underlying26 rfl HSZ0.out rfl ?_
    unfold endF
    rw [if_neg HQ.out]
    exact ⟨Fp.nil, rfl, FrO.nil _ _ _, K9.out.b.trans (O98.out.below K9.out.b.size (Nat.le_refl _))⟩
set_option maxHeartbeats 8000000 in
set_option maxRecDepth 4000 in
theorem fget_26 (l : List UInt8) (s0 : List UInt8 × Nat) (A : Option Addr) (n c : Nat) (w : World) (hs : Sl w w.heap.size A n l) (hnc : n ≤ c) (hcm : c ≤ maxLen) (hk : kindP (l, 0) = (FrKd 26 false, s0)) (hs0 : s0.2 = 0) :
    Calls Try.prog 21 #[.slice A n c] w (GetsF w (endF n ({ Fr.of 26 with data := (bytesP s0 8).1 }, (bytesP s0 8).2))) := by
  have HF := Lib.hid (fun u hp => kind_any (l, 0) w.heap.size (w.heap.size + 2) u hp)
  have hle1 := kindP_le (l, 0)
  rw [hk] at HF hle1
  simp only at HF hle1
  have hln := hs.1
  have HS := Lib.hid hs
  have HC : Hid (n ≤ c ∧ c ≤ maxLen) := ⟨hnc, hcm⟩
  have hn63 : n ≤ 9223372036854775807 := by unfold maxLen at hcm; omega
  have HONE := Lib.hid (frK_one 26 false)
  have HL0 : Hid (fr0.length = (frK 26 false).length) := rfl
  have HSZ : Hid ((Try.prog.info? 26).map (·.size) = some (frK 26 false).length) := fr_size
  have HFE : frV (FrKd 26 false) Fp.nil = (frK 26 false) := rfl
  rw [HFE] at HF
  clear hk hs hnc hcm HFE
  generalize hd : bytesP s0 8 = vd at *
  obtain ⟨dl, s1⟩ := vd
  have HD := Lib.hid (fun u hp => bytes_any s0 8 8 rfl (by omega) (by omega) w.heap.size (w.heap.size + 2) u hp)
  have hld := bytesP_le s0 8
  rw [hd] at hld HD
  clear hd
  simp only at hld ⊢
  obtain ⟨l2, q⟩ := s1
  simp only at hld
  go_enter Try.func21, Try.ntmps21
  go_wp2_with fail
  refine wp_scope_ahead 0 rfl ?_
  go_wp2_with fail
  (with_reducible refine (of_at A n c _).mono ?_)
  rintro e0 w0 ⟨rfl, rfl⟩
  go_wp2_with fail
  (with_reducible refine (HF.out _ ?hp).mono ?_)
  case hp => exact ⟨_, A, n, c, heap_allocs w [_, _, _] 2 _ rfl, HS.out.below ((((Below.refl _ w).alloc (Nat.le_refl _) _).alloc (by simp) _).alloc (by simp; omega) _), HC.out.1, HC.out.2, by omega⟩
  rintro e1 w1 ⟨rfl, hp1, ho1⟩
  have Z1 : Hid (Rw w1 w.heap.size 26 fr0) := (show Rw _ _ _ _ from heap_allocs w [_, _, _] 0 _ rfl).only ho1 (by omega)
  have B1 : Hid (Below w.heap.size w w1) := ((((Below.refl _ w).alloc (Nat.le_refl _) _).alloc (by simp) _).alloc (by simp; omega) _).trans (ho1.below (by simp; omega) (by omega))
  have LT : Hid (w.heap.size + 2 < w1.heap.size) := show _ < _ by have := ho1.size; simp at this; omega
  have P1 := Lib.hid hp1
  clear hp1 ho1
  go_wp2_with ((with_reducible refine wpList_store_rw rfl 26 (.tmp 6) (.tmp 10) rfl w1.heap.size (frK 26 false) ?hx ?hy 26 fr0 ?hB HSZ.out HL0.out HONE.out ?_); (case hx => with_unfolding_all rfl); (case hy => with_unfolding_all rfl); (case hB => exact heap_alloc_new w1 _); intro w2 R2 O2; have K2 : Hid (GF w w1.heap.size w2 s0 (frK 26 false)) := ⟨(P1.out.below ((Below.refl _ _).alloc (Nat.le_refl _) _)).only O2.out (by have := LT.out; omega) (by have := LT.out; omega), R2.out, (Z1.out.alloc _).only O2.out (by have := LT.out; omega), (B1.out.alloc B1.out.size _).trans (O2.out.below (by have := B1.out.size; simp; omega) B1.out.size), LT.out⟩; have c2 : w2.cell? ⟨w1.heap.size, 0, none⟩ = some (.int .i64 26) := K2.out.h.cell 0 _ rfl)
  obtain ⟨l0, q0⟩ := s0
  simp only at hs0
  subst hs0
  (with_reducible refine (code_any _ w.heap.size (w.heap.size + 2) w2 K2.out.p).mono ?_)
  rintro e w9 ⟨rfl, rfl⟩
  go_wp2_with fail
  (with_reducible refine (HD.out w2 K2.out.p).mono ?_)
  rintro e3 w3 ⟨Ad, nd, cd, rfl, ho, hle, hc, hp, hon⟩
  have K3 := Lib.hid (K2.out.call hp hon)
  have Dd3 : Hid (OwnS w1.heap.size w3 Ad nd cd dl) := ⟨ho.base K2.out.h.lt, hle, hc⟩
  clear ho hle hc hp hon
  go_wp2_with ((with_reducible refine wpList_put_rw rfl 24 (.tmp 31) (.tmp 30) rfl w1.heap.size 7 (.slice Ad nd cd) ?hx ?hy rfl rfl 26 (frK 26 false) K3.out.h sz_bytes ?hl ?_); (case hx => with_unfolding_all rfl); (case hy => with_unfolding_all rfl); (case hl => simp [frK]); intro w4 R4 O4; have K4 := Lib.hid (K3.out.put R4.out O4.out); have Dd4 := Lib.hid (Dd3.out.only O4.out (Nat.le_refl _)))
  go_step3
  refine ⟨rfl, ?_⟩
  go_wp2_with fail
  (with_reducible refine (code_any _ w.heap.size (w.heap.size + 2) w4 K4.out.p).mono ?_)
  rintro e w9 ⟨rfl, rfl⟩
  by_cases hq : q = 0
  · subst hq
    go_wp2_with fail
    obtain ⟨hv, ehv⟩ : ∃ x, ((frK 26 false).set 7 (.slice Ad nd cd)) = x := ⟨_, rfl⟩
    have HV := Lib.hid ehv
    have HONE2 : Hid (∀ v ∈ hv, v.oneCell' = true) := by rw [← ehv]; simp [frK, Value.oneCell', Hid]
    have HLN : Hid (hv.length = 10) := show _ = _ by rw [← ehv]; simp [frK]
    have HSZ2 : Hid ((Try.prog.info? 26).map (·.size) = some hv.length) := show _ = _ by rw [HLN.out]; exact fr_size
    have HL2 : Hid (fr0.length = hv.length) := show _ = _ by rw [HLN.out]; rfl
    rw [ehv] at K4
    clear ehv
    have hlf : l2.length ≤ n := by omega
    obtain ⟨m, hm⟩ : ∃ m : Nat, n - l2.length = m := ⟨_, rfl⟩
    have wm : IntKind.i64.wrap ((n : Int) - (l2.length : Int)) = (m : Int) := by rw [show (n : Int) - (l2.length : Int) = (m : Int) by omega]; exact IntWalk.i64_in _ (by omega)
    have HM := Lib.hid hm
    clear hm hlf
    refine wp_held (S := fun u => u.rangeAt w1.heap.size 0 hv) (by kernel_rfl) ?_
    have hS : w4.drew.rangeAt w1.heap.size 0 hv := range_row (t := 26) (fr := (0, 0)) K4.out.h
    refine wpAnyH_pickG 0 (.agg hv.toArray) rfl (by kernel_rfl) (by kernel_rfl) (by kernel_rfl) (by rfl) (fun _ _ _ h => h) (fun u hu => exec_load_mid u 26 (.tmp 6) rfl w1.heap.size 0 (by with_unfolding_all rfl) hv _ hu Try.underlying26 rfl HSZ2.out) hS ?_
    go_simp
    refine wpAnyH_take (i := 1) (v := ?_) rfl (by kernel_rfl) (by kernel_rfl) (by kernel_rfl) (fun _ _ _ h => h) (Or.inl ⟨by rfl, ?_⟩) hS ?_
    rotate_left 1
    · intro u hu
      go_simp
      first | done | with_reducible rfl
    go_simp
    refine wpAnyH_take (i := 2) (v := ?_) rfl (by kernel_rfl) (by kernel_rfl) (by kernel_rfl) (fun _ _ _ h => h) (Or.inl ⟨by rfl, ?_⟩) hS ?_
    rotate_left 1
    · intro u hu
      go_simp
      first | done | with_reducible rfl
    go_simp
    refine wpAnyH_take (i := 3) (v := ?_) rfl (by kernel_rfl) (by kernel_rfl) (by kernel_rfl) (fun _ _ _ h => h) (Or.inl ⟨by rfl, ?_⟩) hS ?_
    rotate_left 1
    · intro u hu
      go_simp
      first | done | with_reducible rfl
    go_simp
    refine wpAnyH_oneG 4 (by kernel_rfl) rfl (by rfl) ?_
    go_wp2_with fail
    (with_reducible refine (plen_any _ w.heap.size (w.heap.size + 2) w4.drew (PtW.below K4.out.p (Below.refl _ _).drew)).mono ?_)
    rintro e w9 ⟨rfl, rfl⟩
    refine ⟨hS, ?_⟩
    go_simp
    refine wpAnyH_take (i := 5) (v := ?_) rfl (by kernel_rfl) (by kernel_rfl) (by kernel_rfl) (fun _ _ _ h => h) (Or.inl ⟨by rfl, ?_⟩) hS ?_
    rotate_left 1
    · intro u hu
      go_simp
      first | done | with_reducible rfl
    go_simp
    refine wpAnyH_oneG 6 (by kernel_rfl) rfl (by rfl) ?_
    refine wp_store_rw 26 (.tmp 2) (.tmp 77) rfl w.heap.size hv (by with_unfolding_all rfl) (by with_unfolding_all rfl) 26 fr0 K4.out.z.drew HSZ2.out HL2.out HONE2.out ?_
    intro w99 R99 O99
    have hS : w99.rangeAt w1.heap.size 0 hv := range_row (t := 26) (fr := (0, 0)) (K4.out.h.drew.only O99.out (by have := LT.out; omega))
    refine ⟨hS, ?_⟩
    go_simp
    refine wpAnyH_take (i := 7) (v := ?_) rfl (by kernel_rfl) (by kernel_rfl) (by kernel_rfl) (fun _ _ _ h => h) (Or.inl ⟨by rfl, ?_⟩) hS ?_
    rotate_left 1
    · intro u hu
      go_simp
      first | done | with_reducible rfl
    go_simp
    refine wpAnyH_take (i := 8) (v := ?_) rfl (by kernel_rfl) (by kernel_rfl) (by kernel_rfl) (fun _ _ _ h => h) (Or.inl ⟨by rfl, ?_⟩) hS ?_
    rotate_left 1
    · intro u hu
      go_simp
      first | done | with_reducible rfl
    go_simp
    refine wpAnyH_done (by kernel_rfl) ?_ _
    go_wp2_with fail
    first | rw [Exit.noGoto_ret] | skip
    refine ret_rw2 rfl w.heap.size 26 hv _ rfl R99.out Try.underlying26 rfl HSZ2.out rfl ?_
    have Ed := OwnS.only (v := w4.drew) (OwnS.drew Dd4.out) O99.out (by have := LT.out; omega)
    unfold endF
    rw [if_pos rfl]
    refine ⟨{ Fp.nil with da := Ad, dn := nd, dc := cd }, ?_, ⟨OwnR.nil _ _, Ed.o.base (by have := LT.out; omega), Own.nil _ _, Own.nil _ _⟩, K4.out.b.drew.trans (Only.below (w := w4.drew) O99.out K4.out.b.size (Nat.le_refl _))⟩
    rw [← HV.out, ← HM.out]; rfl
  · have tq : ((q : Int) != 0) = true := by simp; omega
    have HQ := Lib.hid hq
    clear hq
    go_wp2_with fail
    have HSZ0 : Hid ((Try.prog.info? 26).map (·.size) = some fr0.length) := fr_size
    (with_reducible refine (code_any _ w.heap.size (w.heap.size + 2) w4 K4.out.p).mono ?_)
    rintro e w9 ⟨rfl, rfl⟩
    go_wp2_with ((with_reducible refine wpList_store_rw rfl 26 (.tmp 2) (.tmp 74) rfl w.heap.size fr0 ?hx ?hy 26 fr0 K4.out.z HSZ0.out rfl fr0_one ?_); (case hx => with_unfolding_all rfl); (case hy => with_unfolding_all rfl); intro w98 R98 O98)
    first | rw [Exit.noGoto_ret] | skip
    refine ret_rw2 rfl w.heap.size 26 fr0 _ rfl R98.out Try.underlying26 rfl HSZ0.out rfl ?_
    unfold endF
    rw [if_neg HQ.out]
    exact ⟨Fp.nil, rfl, FrO.nil _ _ _, K4.out.b.trans (O98.out.below K4.out.b.size (Nat.le_refl _))⟩
set_option maxHeartbeats 8000000 in
set_option maxRecDepth 4000 in
theorem fget_27 (l : List UInt8) (s0 : List UInt8 × Nat) (A : Option Addr) (n c : Nat) (w : World) (hs : Sl w w.heap.size A n l) (hnc : n ≤ c) (hcm : c ≤ maxLen) (hk : kindP (l, 0) = (FrKd 27 false, s0)) (hs0 : s0.2 = 0) :
    Calls Try.prog 21 #[.slice A n c] w (GetsF w (endF n ({ Fr.of 27 with data := (bytesP s0 8).1 }, (bytesP s0 8).2))) := by
  have HF := Lib.hid (fun u hp => kind_any (l, 0) w.heap.size (w.heap.size + 2) u hp)
  have hle1 := kindP_le (l, 0)
  rw [hk] at HF hle1
  simp only at HF hle1
  have hln := hs.1
  have HS := Lib.hid hs
  have HC : Hid (n ≤ c ∧ c ≤ maxLen) := ⟨hnc, hcm⟩
  have hn63 : n ≤ 9223372036854775807 := by unfold maxLen at hcm; omega
  have HONE := Lib.hid (frK_one 27 false)
  have HL0 : Hid (fr0.length = (frK 27 false).length) := rfl
  have HSZ : Hid ((Try.prog.info? 26).map (·.size) = some (frK 27 false).length) := fr_size
  have HFE : frV (FrKd 27 false) Fp.nil = (frK 27 false) := rfl
  rw [HFE] at HF
  clear hk hs hnc hcm HFE
  generalize hd : bytesP s0 8 = vd at *
  obtain ⟨dl, s1⟩ := vd
  have HD := Lib.hid (fun u hp => bytes_any s0 8 8 rfl (by omega) (by omega) w.heap.size (w.heap.size + 2) u hp)
  have hld := bytesP_le s0 8
  rw [hd] at hld HD
  clear hd
  simp only at hld ⊢
  obtain ⟨l2, q⟩ := s1
  simp only at hld
  go_enter Try.func21, Try.ntmps21
  go_wp2_with fail
  refine wp_scope_ahead 0 rfl ?_
  go_wp2_with fail
  (with_reducible refine (of_at A n c _).mono ?_)
  rintro e0 w0 ⟨rfl, rfl⟩
  go_wp2_with fail
  (with_reducible refine (HF.out _ ?hp).mono ?_)
  case hp => exact ⟨_, A, n, c, heap_allocs w [_, _, _] 2 _ rfl, HS.out.below ((((Below.refl _ w).alloc (Nat.le_refl _) _).alloc (by simp) _).alloc (by simp; omega) _), HC.out.1, HC.out.2, by omega⟩
  rintro e1 w1 ⟨rfl, hp1, ho1⟩
  have Z1 : Hid (Rw w1 w.heap.size 26 fr0) := (show Rw _ _ _ _ from heap_allocs w [_, _, _] 0 _ rfl).only ho1 (by omega)
  have B1 : Hid (Below w.heap.size w w1) := ((((Below.refl _ w).alloc (Nat.le_refl _) _).alloc (by simp) _).alloc (by simp; omega) _).trans (ho1.below (by simp; omega) (by omega))
  have LT : Hid (w.heap.size + 2 < w1.heap.size) := show _ < _ by have := ho1.size; simp at this; omega
  have P1 := Lib.hid hp1
  clear hp1 ho1
  go_wp2_with ((with_reducible refine wpList_store_rw rfl 26 (.tmp 6) (.tmp 10) rfl w1.heap.size (frK 27 false) ?hx ?hy 26 fr0 ?hB HSZ.out HL0.out HONE.out ?_); (case hx => with_unfolding_all rfl); (case hy => with_unfolding_all rfl); (case hB => exact heap_alloc_new w1 _); intro w2 R2 O2; have K2 : Hid (GF w w1.heap.size w2 s0 (frK 27 false)) := ⟨(P1.out.below ((Below.refl _ _).alloc (Nat.le_refl _) _)).only O2.out (by have := LT.out; omega) (by have := LT.out; omega), R2.out, (Z1.out.alloc _).only O2.out (by have := LT.out; omega), (B1.out.alloc B1.out.size _).trans (O2.out.below (by have := B1.out.size; simp; omega) B1.out.size), LT.out⟩; have c2 : w2.cell? ⟨w1.heap.size, 0, none⟩ = some (.int .i64 27) := K2.out.h.cell 0 _ rfl)
  obtain ⟨l0, q0⟩ := s0
  simp only at hs0
  subst hs0
  (with_reducible refine (code_any _ w.heap.size (w.heap.size + 2) w2 K2.out.p).mono ?_)
  rintro e w9 ⟨rfl, rfl⟩
  go_wp2_with fail
  (with_reducible refine (HD.out w2 K2.out.p).mono ?_)
  rintro e3 w3 ⟨Ad, nd, cd, rfl, ho, hle, hc, hp, hon⟩
  have K3 := Lib.hid (K2.out.call hp hon)
  have Dd3 : Hid (OwnS w1.heap.size w3 Ad nd cd dl) := ⟨ho.base K2.out.h.lt, hle, hc⟩
  clear ho hle hc hp hon
  go_wp2_with ((with_reducible refine wpList_put_rw rfl 24 (.tmp 31) (.tmp 30) rfl w1.heap.size 7 (.slice Ad nd cd) ?hx ?hy rfl rfl 26 (frK 27 false) K3.out.h sz_bytes ?hl ?_); (case hx => with_unfolding_all rfl); (case hy => with_unfolding_all rfl); (case hl => simp [frK]); intro w4 R4 O4; have K4 := Lib.hid (K3.out.put R4.out O4.out); have Dd4 := Lib.hid (Dd3.out.only O4.out (Nat.le_refl _)))
  go_step3
  refine ⟨rfl, ?_⟩
  go_wp2_with fail
  (with_reducible refine (code_any _ w.heap.size (w.heap.size + 2) w4 K4.out.p).mono ?_)
  rintro e w9 ⟨rfl, rfl⟩
  by_cases hq : q = 0
  · subst hq
    go_wp2_with fail
    obtain ⟨hv, ehv⟩ : ∃ x, ((frK 27 false).set 7 (.slice Ad nd cd)) = x := ⟨_, rfl⟩
    have HV := Lib.hid ehv
    have HONE2 : Hid (∀ v ∈ hv, v.oneCell' = true) := by rw [← ehv]; simp [frK, Value.oneCell', Hid]
    have HLN : Hid (hv.length = 10) := show _ = _ by rw [← ehv]; simp [frK]
    have HSZ2 : Hid ((Try.prog.info? 26).map (·.size) = some hv.length) := show _ = _ by rw [HLN.out]; exact fr_size
    have HL2 : Hid (fr0.length = hv.length) := show _ = _ by rw [HLN.out]; rfl
    rw [ehv] at K4
    clear ehv
    have hlf : l2.length ≤ n := by omega
    obtain ⟨m, hm⟩ : ∃ m : Nat, n - l2.length = m := ⟨_, rfl⟩
    have wm : IntKind.i64.wrap ((n : Int) - (l2.length : Int)) = (m : Int) := by rw [show (n : Int) - (l2.length : Int) = (m : Int) by omega]; exact IntWalk.i64_in _ (by omega)
    have HM := Lib.hid hm
    clear hm hlf
    refine wp_held (S := fun u => u.rangeAt w1.heap.size 0 hv) (by kernel_rfl) ?_
    have hS : w4.drew.rangeAt w1.heap.size 0 hv := range_row (t := 26) (fr := (0, 0)) K4.out.h
    refine wpAnyH_pickG 0 (.agg hv.toArray) rfl (by kernel_rfl) (by kernel_rfl) (by kernel_rfl) (by rfl) (fun _ _ _ h => h) (fun u hu => exec_load_mid u 26 (.tmp 6) rfl w1.heap.size 0 (by with_unfolding_all rfl) hv _ hu Try.underlying26 rfl HSZ2.out) hS ?_
    go_simp
    refine wpAnyH_take (i := 1) (v := ?_) rfl (by kernel_rfl) (by kernel_rfl) (by kernel_rfl) (fun _ _ _ h => h) (Or.inl ⟨by rfl, ?_⟩) hS ?_
    rotate_left 1
    · intro u hu
      go_simp
      first | done | with_reducible rfl
    go_simp
    refine wpAnyH_take (i := 2) (v := ?_) rfl (by kernel_rfl) (by kernel_rfl) (by kernel_rfl) (fun _ _ _ h => h) (Or.inl ⟨by rfl, ?_⟩) hS ?_
    rotate_left 1
    · intro u hu
      go_simp
      first | done | with_reducible rfl
    go_simp
    refine wpAnyH_take (i := 3) (v := ?_) rfl (by kernel_rfl) (by kernel_rfl) (by kernel_rfl) (fun _ _ _ h => h) (Or.inl ⟨by rfl, ?_⟩) hS ?_
    rotate_left 1
    · intro u hu
      go_simp
      first | done | with_reducible rfl
    go_simp
    refine wpAnyH_oneG 4 (by kernel_rfl) rfl (by rfl) ?_
    go_wp2_with fail
    (with_reducible refine (plen_any _ w.heap.size (w.heap.size + 2) w4.drew (PtW.below K4.out.p (Below.refl _ _).drew)).mono ?_)
    rintro e w9 ⟨rfl, rfl⟩
    refine ⟨hS, ?_⟩
    go_simp
    refine wpAnyH_take (i := 5) (v := ?_) rfl (by kernel_rfl) (by kernel_rfl) (by kernel_rfl) (fun _ _ _ h => h) (Or.inl ⟨by rfl, ?_⟩) hS ?_
    rotate_left 1
    · intro u hu
      go_simp
      first | done | with_reducible rfl
    go_simp
    refine wpAnyH_oneG 6 (by kernel_rfl) rfl (by rfl) ?_
    refine wp_store_rw 26 (.tmp 2) (.tmp 77) rfl w.heap.size hv (by with_unfolding_all rfl) (by with_unfolding_all rfl) 26 fr0 K4.out.z.drew HSZ2.out HL2.out HONE2.out ?_
    intro w99 R99 O99
    have hS : w99.rangeAt w1.heap.size 0 hv := range_row (t := 26) (fr := (0, 0)) (K4.out.h.drew.only O99.out (by have := LT.out; omega))
    refine ⟨hS, ?_⟩
    go_simp
    refine wpAnyH_take (i := 7) (v := ?_) rfl (by kernel_rfl) (by kernel_rfl) (by kernel_rfl) (fun _ _ _ h => h) (Or.inl ⟨by rfl, ?_⟩) hS ?_
    rotate_left 1
    · intro u hu
      go_simp
      first | done | with_reducible rfl
    go_simp
    refine wpAnyH_take (i := 8) (v := ?_) rfl (by kernel_rfl) (by kernel_rfl) (by kernel_rfl) (fun _ _ _ h => h) (Or.inl ⟨by rfl, ?_⟩) hS ?_
    rotate_left 1
    · intro u hu
      go_simp
      first | done | with_reducible rfl
    go_simp
    refine wpAnyH_done (by kernel_rfl) ?_ _
    go_wp2_with fail
    first | rw [Exit.noGoto_ret] | skip
    refine ret_rw2 rfl w.heap.size 26 hv _ rfl R99.out Try.underlying26 rfl HSZ2.out rfl ?_
    have Ed := OwnS.only (v := w4.drew) (OwnS.drew Dd4.out) O99.out (by have := LT.out; omega)
    unfold endF
    rw [if_pos rfl]
    refine ⟨{ Fp.nil with da := Ad, dn := nd, dc := cd }, ?_, ⟨OwnR.nil _ _, Ed.o.base (by have := LT.out; omega), Own.nil _ _, Own.nil _ _⟩, K4.out.b.drew.trans (Only.below (w := w4.drew) O99.out K4.out.b.size (Nat.le_refl _))⟩
    rw [← HV.out, ← HM.out]; rfl
  · have tq : ((q : Int) != 0) = true := by simp; omega
    have HQ := Lib.hid hq
    clear hq
    go_wp2_with fail
    have HSZ0 : Hid ((Try.prog.info? 26).map (·.size) = some fr0.length) := fr_size
    (with_reducible refine (code_any _ w.heap.size (w.heap.size + 2) w4 K4.out.p).mono ?_)
    rintro e w9 ⟨rfl, rfl⟩
    go_wp2_with ((with_reducible refine wpList_store_rw rfl 26 (.tmp 2) (.tmp 74) rfl w.heap.size fr0 ?hx ?hy 26 fr0 K4.out.z HSZ0.out rfl fr0_one ?_); (case hx => with_unfolding_all rfl); (case hy => with_unfolding_all rfl); intro w98 R98 O98)
    first | rw [Exit.noGoto_ret] | skip
    refine ret_rw2 rfl w.heap.size 26 fr0 _ rfl R98.out Try.underlying26 rfl HSZ0.out rfl ?_
    unfold endF
    rw [if_neg HQ.out]
    exact ⟨Fp.nil, rfl, FrO.nil _ _ _, K4.out.b.trans (O98.out.below K4.out.b.size (Nat.le_refl _))⟩
set_option maxHeartbeats 8000000 in
set_option maxRecDepth 4000 in
theorem fget_2 (l : List UInt8) (s0 : List UInt8 × Nat) (A : Option Addr) (n c : Nat) (w : World) (hs : Sl w w.heap.size A n l) (hnc : n ≤ c) (hcm : c ≤ maxLen) (hk : kindP (l, 0) = (FrKd 2 false, s0)) (hs0 : s0.2 = 0) :
    Calls Try.prog 21 #[.slice A n c] w (GetsF w (endF n ({ Fr.of 2 with delay := (ackP s0).1.1, rs := (ackP s0).1.2 }, (ackP s0).2))) := by
  have HF := Lib.hid (fun u hp => kind_any (l, 0) w.heap.size (w.heap.size + 2) u hp)
  have hle1 := kindP_le (l, 0)
  rw [hk] at HF hle1
  simp only at HF hle1
  have hln := hs.1
  have HS := Lib.hid hs
  have HC : Hid (n ≤ c ∧ c ≤ maxLen) := ⟨hnc, hcm⟩
  have hn63 : n ≤ 9223372036854775807 := by unfold maxLen at hcm; omega
  have HONE := Lib.hid (frK_one 2 false)
  have HL0 : Hid (fr0.length = (frK 2 false).length) := rfl
  have HSZ : Hid ((Try.prog.info? 26).map (·.size) = some (frK 2 false).length) := fr_size
  have HFE : frV (FrKd 2 false) Fp.nil = (frK 2 false) := rfl
  rw [HFE] at HF
  clear hk hs hnc hcm HFE
  generalize ha : ackP s0 = va at *
  obtain ⟨⟨dly, rl⟩, s1⟩ := va
  have HA := Lib.hid (fun u hp => ack_any s0 w.heap.size (w.heap.size + 2) u hp)
  have hla := ackP_le s0
  rw [ha] at hla HA
  clear ha
  simp only at hla ⊢
  obtain ⟨l2, q⟩ := s1
  simp only at hla
  go_enter Try.func21, Try.ntmps21
  go_wp2_with fail
  refine wp_scope_ahead 0 rfl ?_
  go_wp2_with fail
  (with_reducible refine (of_at A n c _).mono ?_)
  rintro e0 w0 ⟨rfl, rfl⟩
  go_wp2_with fail
  (with_reducible refine (HF.out _ ?hp).mono ?_)
  case hp => exact ⟨_, A, n, c, heap_allocs w [_, _, _] 2 _ rfl, HS.out.below ((((Below.refl _ w).alloc (Nat.le_refl _) _).alloc (by simp) _).alloc (by simp; omega) _), HC.out.1, HC.out.2, by omega⟩
  rintro e1 w1 ⟨rfl, hp1, ho1⟩
  have Z1 : Hid (Rw w1 w.heap.size 26 fr0) := (show Rw _ _ _ _ from heap_allocs w [_, _, _] 0 _ rfl).only ho1 (by omega)
  have B1 : Hid (Below w.heap.size w w1) := ((((Below.refl _ w).alloc (Nat.le_refl _) _).alloc (by simp) _).alloc (by simp; omega) _).trans (ho1.below (by simp; omega) (by omega))
  have LT : Hid (w.heap.size + 2 < w1.heap.size) := show _ < _ by have := ho1.size; simp at this; omega
  have P1 := Lib.hid hp1
  clear hp1 ho1
  go_wp2_with ((with_reducible refine wpList_store_rw rfl 26 (.tmp 6) (.tmp 10) rfl w1.heap.size (frK 2 false) ?hx ?hy 26 fr0 ?hB HSZ.out HL0.out HONE.out ?_); (case hx => with_unfolding_all rfl); (case hy => with_unfolding_all rfl); (case hB => exact heap_alloc_new w1 _); intro w2 R2 O2; have K2 : Hid (GF w w1.heap.size w2 s0 (frK 2 false)) := ⟨(P1.out.below ((Below.refl _ _).alloc (Nat.le_refl _) _)).only O2.out (by have := LT.out; omega) (by have := LT.out; omega), R2.out, (Z1.out.alloc _).only O2.out (by have := LT.out; omega), (B1.out.alloc B1.out.size _).trans (O2.out.below (by have := B1.out.size; simp; omega) B1.out.size), LT.out⟩; have c2 : w2.cell? ⟨w1.heap.size, 0, none⟩ = some (.int .i64 2) := K2.out.h.cell 0 _ rfl)
  obtain ⟨l0, q0⟩ := s0
  simp only at hs0
  subst hs0
  (with_reducible refine (code_any _ w.heap.size (w.heap.size + 2) w2 K2.out.p).mono ?_)
  rintro e w9 ⟨rfl, rfl⟩
  go_wp2_with fail
  (with_reducible refine (HA.out w2 K2.out.p).mono ?_)
  rintro e3 w3 ⟨Ar, nr, cr, rfl, ho, hp, hon⟩
  have K3 := Lib.hid (K2.out.call hp hon)
  have Dr3 : Hid (OwnRS w1.heap.size w3 Ar nr cr rl) := ⟨ho.base K2.out.h.lt⟩
  clear ho hp hon
  go_wp2_with (first | ((with_reducible refine wpList_put_rw rfl 23 (.tmp 39) (.tmp 37) rfl w1.heap.size 3 (.slice Ar nr cr) ?hx ?hy rfl rfl 26 ((frK 2 false).set 2 (.int .u64 (dly : Int))) K4.out.h sz_rngs ?hl ?_); (case hx => with_unfolding_all rfl); (case hy => with_unfolding_all rfl); (case hl => simp [frK]); intro w5 R5 O5; have K5 := Lib.hid (K4.out.put R5.out O5.out); have Dr5 := Lib.hid (Dr4.out.only O5.out (Nat.le_refl _))) | ((with_reducible refine wpList_put_rw rfl 22 (.tmp 38) (.tmp 36) rfl w1.heap.size 2 (.int .u64 (dly : Int)) ?hx ?hy rfl rfl 26 (frK 2 false) K3.out.h sz_num ?hl ?_); (case hx => with_unfolding_all rfl); (case hy => with_unfolding_all rfl); (case hl => simp [frK]); intro w4 R4 O4; have K4 := Lib.hid (K3.out.put R4.out O4.out); have Dr4 := Lib.hid (Dr3.out.only O4.out (Nat.le_refl _))))
  go_step3
  refine ⟨rfl, ?_⟩
  go_wp2_with fail
  (with_reducible refine (code_any _ w.heap.size (w.heap.size + 2) w5 K5.out.p).mono ?_)
  rintro e w9 ⟨rfl, rfl⟩
  by_cases hq : q = 0
  · subst hq
    go_wp2_with fail
    obtain ⟨hv, ehv⟩ : ∃ x, (((frK 2 false).set 2 (.int .u64 (dly : Int))).set 3 (.slice Ar nr cr)) = x := ⟨_, rfl⟩
    have HV := Lib.hid ehv
    have HONE2 : Hid (∀ v ∈ hv, v.oneCell' = true) := by rw [← ehv]; simp [frK, Value.oneCell', Hid]
    have HLN : Hid (hv.length = 10) := show _ = _ by rw [← ehv]; simp [frK]
    have HSZ2 : Hid ((Try.prog.info? 26).map (·.size) = some hv.length) := show _ = _ by rw [HLN.out]; exact fr_size
    have HL2 : Hid (fr0.length = hv.length) := show _ = _ by rw [HLN.out]; rfl
    rw [ehv] at K5
    clear ehv
    have hlf : l2.length ≤ n := by omega
    obtain ⟨m, hm⟩ : ∃ m : Nat, n - l2.length = m := ⟨_, rfl⟩
    have wm : IntKind.i64.wrap ((n : Int) - (l2.length : Int)) = (m : Int) := by rw [show (n : Int) - (l2.length : Int) = (m : Int) by omega]; exact IntWalk.i64_in _ (by omega)
    have HM := Lib.hid hm
    clear hm hlf
    refine wp_held (S := fun u => u.rangeAt w1.heap.size 0 hv) (by kernel_rfl) ?_
    have hS : w5.drew.rangeAt w1.heap.size 0 hv := range_row (t := 26) (fr := (0, 0)) K5.out.h
    refine wpAnyH_pickG 0 (.agg hv.toArray) rfl (by kernel_rfl) (by kernel_rfl) (by kernel_rfl) (by rfl) (fun _ _ _ h => h) (fun u hu => exec_load_mid u 26 (.tmp 6) rfl w1.heap.size 0 (by with_unfolding_all rfl) hv _ hu Try.underlying26 rfl HSZ2.out) hS ?_
    go_simp
    refine wpAnyH_take (i := 1) (v := ?_) rfl (by kernel_rfl) (by kernel_rfl) (by kernel_rfl) (fun _ _ _ h => h) (Or.inl ⟨by rfl, ?_⟩) hS ?_
    rotate_left 1
    · intro u hu
      go_simp
      first | done | with_reducible rfl
    go_simp
    refine wpAnyH_take (i := 2) (v := ?_) rfl (by kernel_rfl) (by kernel_rfl) (by kernel_rfl) (fun _ _ _ h => h) (Or.inl ⟨by rfl, ?_⟩) hS ?_
    rotate_left 1
    · intro u hu
      go_simp
      first | done | with_reducible rfl
    go_simp
    refine wpAnyH_take (i := 3) (v := ?_) rfl (by kernel_rfl) (by kernel_rfl) (by kernel_rfl) (fun _ _ _ h => h) (Or.inl ⟨by rfl, ?_⟩) hS ?_
    rotate_left 1
    · intro u hu
      go_simp
      first | done | with_reducible rfl
    go_simp
    refine wpAnyH_oneG 4 (by kernel_rfl) rfl (by rfl) ?_
    go_wp2_with fail
    (with_reducible refine (plen_any _ w.heap.size (w.heap.size + 2) w5.drew (PtW.below K5.out.p (Below.refl _ _).drew)).mono ?_)
    rintro e w9 ⟨rfl, rfl⟩
    refine ⟨hS, ?_⟩
    go_simp
    refine wpAnyH_take (i := 5) (v := ?_) rfl (by kernel_rfl) (by kernel_rfl) (by kernel_rfl) (fun _ _ _ h => h) (Or.inl ⟨by rfl, ?_⟩) hS ?_
    rotate_left 1
    · intro u hu
      go_simp
      first | done | with_reducible rfl
    go_simp
    refine wpAnyH_oneG 6 (by kernel_rfl) rfl (by rfl) ?_
    refine wp_store_rw 26 (.tmp 2) (.tmp 77) rfl w.heap.size hv (by with_unfolding_all rfl) (by with_unfolding_all rfl) 26 fr0 K5.out.z.drew HSZ2.out HL2.out HONE2.out ?_
    intro w99 R99 O99
    have hS : w99.rangeAt w1.heap.size 0 hv := range_row (t := 26) (fr := (0, 0)) (K5.out.h.drew.only O99.out (by have := LT.out; omega))
    refine ⟨hS, ?_⟩
    go_simp
    refine wpAnyH_take (i := 7) (v := ?_) rfl (by kernel_rfl) (by kernel_rfl) (by kernel_rfl) (fun _ _ _ h => h) (Or.inl ⟨by rfl, ?_⟩) hS ?_
    rotate_left 1
    · intro u hu
      go_simp
      first | done | with_reducible rfl
    go_simp
    refine wpAnyH_take (i := 8) (v := ?_) rfl (by kernel_rfl) (by kernel_rfl) (by kernel_rfl) (fun _ _ _ h => h) (Or.inl ⟨by rfl, ?_⟩) hS ?_
    rotate_left 1
    · intro u hu
      go_simp
      first | done | with_reducible rfl
    go_simp
    refine wpAnyH_done (by kernel_rfl) ?_ _
    go_wp2_with fail
    first | rw [Exit.noGoto_ret] | skip
    refine ret_rw2 rfl w.heap.size 26 hv _ rfl R99.out Try.underlying26 rfl HSZ2.out rfl ?_
    have Er := OwnRS.only (v := w5.drew) ⟨Dr5.out.o.below (Below.refl _ _).drew⟩ O99.out (by have := LT.out; omega)
    unfold endF
    rw [if_pos rfl]
    refine ⟨{ Fp.nil with ra := Ar, rn := nr, rc := cr }, ?_, ⟨Er.o.base (by have := LT.out; omega), Own.nil _ _, Own.nil _ _, Own.nil _ _⟩, K5.out.b.drew.trans (Only.below (w := w5.drew) O99.out K5.out.b.size (Nat.le_refl _))⟩
    rw [← HV.out, ← HM.out]; rfl
  · have tq : ((q : Int) != 0) = true := by simp; omega
    have HQ := Lib.hid hq
    clear hq
    go_wp2_with fail
    have HSZ0 : Hid ((Try.prog.info? 26).map (·.size) = some fr0.length) := fr_size
    (with_reducible refine (code_any _ w.heap.size (w.heap.size + 2) w5 K5.out.p).mono ?_)
    rintro e w9 ⟨rfl, rfl⟩
    go_wp2_with ((with_reducible refine wpList_store_rw rfl 26 (.tmp 2) (.tmp 74) rfl w.heap.size fr0 ?hx ?hy 26 fr0 K5.out.z HSZ0.out rfl fr0_one ?_); (case hx => with_unfolding_all rfl); (case hy => with_unfolding_all rfl); intro w98 R98 O98)
    first | rw [Exit.noGoto_ret] | skip
    refine ret_rw2 rfl w.heap.size 26 fr0 _ rfl R98.out Try.underlying26 rfl HSZ0.out rfl ?_
    unfold endF
    rw [if_neg HQ.out]
    exact ⟨Fp.nil, rfl, FrO.nil _ _ _, K5.out.b.trans (O98.out.below K5.out.b.size (Nat.le_refl _))⟩
set_option maxHeartbeats 8000000 in
set_option maxRecDepth 4000 in
theorem fget_6 (l : List UInt8) (s0 : List UInt8 × Nat) (A : Option Addr) (n c : Nat) (w : World) (hs : Sl w w.heap.size A n l) (hnc : n ≤ c) (hcm : c ≤ maxLen) (hk : kindP (l, 0) = (FrKd 6 false, s0)) (hs0 : s0.2 = 0) :
    Calls Try.prog 21 #[.slice A n c] w (GetsF w (endF n ({ Fr.of 6 with off := (varintP s0).1, data := (dataP (varintP s0).2 (varintP s0).1).1 }, (dataP (varintP s0).2 (varintP s0).1).2))) := by
  have HF := Lib.hid (fun u hp => kind_any (l, 0) w.heap.size (w.heap.size + 2) u hp)
  have hle1 := kindP_le (l, 0)
  rw [hk] at HF hle1
  simp only at HF hle1
  have hln := hs.1
  have HS := Lib.hid hs
  have HC : Hid (n ≤ c ∧ c ≤ maxLen) := ⟨hnc, hcm⟩
  have hn63 : n ≤ 9223372036854775807 := by unfold maxLen at hcm; omega
  have HONE := Lib.hid (frK_one 6 false)
  have HL0 : Hid (fr0.length = (frK 6 false).length) := rfl
  have HSZ : Hid ((Try.prog.info? 26).map (·.size) = some (frK 6 false).length) := fr_size
  have HFE : frV (FrKd 6 false) Fp.nil = (frK 6 false) := rfl
  rw [HFE] at HF
  clear hk hs hnc hcm HFE
  generalize ho : varintP s0 = vo at *
  obtain ⟨off, s2⟩ := vo
  have HO := Lib.hid (fun u hp => varintp_any s0 w.heap.size (w.heap.size + 2) u hp)
  have hlo := varintP_le s0
  have hoff := varintP_lt s0
  rw [ho] at hlo HO hoff
  clear ho
  simp only at hlo HO hoff ⊢
  generalize hd : dataP s2 off = vd at *
  obtain ⟨dl, s3⟩ := vd
  have HD := Lib.hid (fun u hp => data_any s2 off (by omega) w.heap.size (w.heap.size + 2) u hp)
  have hld := dataP_le s2 off
  rw [hd] at hld HD
  clear hd
  simp only at hld ⊢
  obtain ⟨l2, q⟩ := s3
  simp only at hld
  go_enter Try.func21, Try.ntmps21
  go_wp2_with fail
  refine wp_scope_ahead 1 rfl ?_
  go_wp2_with fail
  (with_reducible refine (of_at A n c _).mono ?_)
  rintro e0 w0 ⟨rfl, rfl⟩
  go_wp2_with fail
  (with_reducible refine (HF.out _ ?hp).mono ?_)
  case hp => exact ⟨_, A, n, c, heap_allocs w [_, _, _] 2 _ rfl, HS.out.below ((((Below.refl _ w).alloc (Nat.le_refl _) _).alloc (by simp) _).alloc (by simp; omega) _), HC.out.1, HC.out.2, by omega⟩
  rintro e1 w1 ⟨rfl, hp1, ho1⟩
  have Z1 : Hid (Rw w1 w.heap.size 26 fr0) := (show Rw _ _ _ _ from heap_allocs w [_, _, _] 0 _ rfl).only ho1 (by omega)
  have B1 : Hid (Below w.heap.size w w1) := ((((Below.refl _ w).alloc (Nat.le_refl _) _).alloc (by simp) _).alloc (by simp; omega) _).trans (ho1.below (by simp; omega) (by omega))
  have LT : Hid (w.heap.size + 2 < w1.heap.size) := show _ < _ by have := ho1.size; simp at this; omega
  have P1 := Lib.hid hp1
  clear hp1 ho1
  go_wp2_with ((with_reducible refine wpList_store_rw rfl 26 (.tmp 6) (.tmp 10) rfl w1.heap.size (frK 6 false) ?hx ?hy 26 fr0 ?hB HSZ.out HL0.out HONE.out ?_); (case hx => with_unfolding_all rfl); (case hy => with_unfolding_all rfl); (case hB => exact heap_alloc_new w1 _); intro w2 R2 O2; have K2 : Hid (GF w w1.heap.size w2 s0 (frK 6 false)) := ⟨(P1.out.below ((Below.refl _ _).alloc (Nat.le_refl _) _)).only O2.out (by have := LT.out; omega) (by have := LT.out; omega), R2.out, (Z1.out.alloc _).only O2.out (by have := LT.out; omega), (B1.out.alloc B1.out.size _).trans (O2.out.below (by have := B1.out.size; simp; omega) B1.out.size), LT.out⟩; have c2 : w2.cell? ⟨w1.heap.size, 0, none⟩ = some (.int .i64 6) := K2.out.h.cell 0 _ rfl)
  obtain ⟨l0, q0⟩ := s0
  simp only at hs0
  subst hs0
  (with_reducible refine (code_any _ w.heap.size (w.heap.size + 2) w2 K2.out.p).mono ?_)
  rintro e w9 ⟨rfl, rfl⟩
  go_wp2_with fail
  go_step3
  refine ⟨rfl, ?_⟩
  go_wp2_with fail
  (with_reducible refine (HO.out w2 K2.out.p).mono ?_)
  rintro e3 w3 ⟨rfl, hp, hon⟩
  have K3 := Lib.hid (K2.out.call hp hon)
  clear hp hon
  go_wp2_with ((with_reducible refine wpList_put_rw rfl 22 (.tmp 66) (.tmp 65) rfl w1.heap.size 5 (.int .u64 (off : Int)) ?hx ?hy rfl rfl 26 (frK 6 false) K3.out.h sz_num ?hl ?_); (case hx => with_unfolding_all rfl); (case hy => with_unfolding_all rfl); (case hl => simp [frK]); intro w4 R4 O4; have K4 := Lib.hid (K3.out.put R4.out O4.out); have c4 : w4.cell? ⟨w1.heap.size, 5, none⟩ = some (.int .u64 (off : Int)) := K4.out.h.cell 5 _ rfl)
  (with_reducible refine (HD.out w4 K4.out.p).mono ?_)
  rintro e5 w5 ⟨Ad, nd, cd, rfl, ho, hle, hc, hp, hon⟩
  have K5 := Lib.hid (K4.out.call hp hon)
  have Dd5 : Hid (OwnS w1.heap.size w5 Ad nd cd dl) := ⟨ho.base K4.out.h.lt, hle, hc⟩
  clear ho hle hc hp hon
  go_wp2_with ((with_reducible refine wpList_put_rw rfl 24 (.tmp 70) (.tmp 69) rfl w1.heap.size 7 (.slice Ad nd cd) ?hx ?hy rfl rfl 26 ((frK 6 false).set 5 (.int .u64 (off : Int))) K5.out.h sz_bytes ?hl ?_); (case hx => with_unfolding_all rfl); (case hy => with_unfolding_all rfl); (case hl => simp [frK]); intro w6 R6 O6; have K6 := Lib.hid (K5.out.put R6.out O6.out); have Dd6 := Lib.hid (Dd5.out.only O6.out (Nat.le_refl _)))
  go_step3
  go_wp2_with fail
  (with_reducible refine (code_any _ w.heap.size (w.heap.size + 2) w6 K6.out.p).mono ?_)
  rintro e w9 ⟨rfl, rfl⟩
  by_cases hq : q = 0
  · subst hq
    go_wp2_with fail
    obtain ⟨hv, ehv⟩ : ∃ x, (((frK 6 false).set 5 (.int .u64 (off : Int))).set 7 (.slice Ad nd cd)) = x := ⟨_, rfl⟩
    have HV := Lib.hid ehv
    have HONE2 : Hid (∀ v ∈ hv, v.oneCell' = true) := by rw [← ehv]; simp [frK, Value.oneCell', Hid]
    have HLN : Hid (hv.length = 10) := show _ = _ by rw [← ehv]; simp [frK]
    have HSZ2 : Hid ((Try.prog.info? 26).map (·.size) = some hv.length) := show _ = _ by rw [HLN.out]; exact fr_size
    have HL2 : Hid (fr0.length = hv.length) := show _ = _ by rw [HLN.out]; rfl
    rw [ehv] at K6
    clear ehv
    have hlf : l2.length ≤ n := by omega
    obtain ⟨m, hm⟩ : ∃ m : Nat, n - l2.length = m := ⟨_, rfl⟩
    have wm : IntKind.i64.wrap ((n : Int) - (l2.length : Int)) = (m : Int) := by rw [show (n : Int) - (l2.length : Int) = (m : Int) by omega]; exact IntWalk.i64_in _ (by omega)
    have HM := Lib.hid hm
    clear hm hlf
    refine wp_held (S := fun u => u.rangeAt w1.heap.size 0 hv) (by kernel_rfl) ?_
    have hS : w6.drew.rangeAt w1.heap.size 0 hv := range_row (t := 26) (fr := (0, 0)) K6.out.h
    refine wpAnyH_pickG 0 (.agg hv.toArray) rfl (by kernel_rfl) (by kernel_rfl) (by kernel_rfl) (by rfl) (fun _ _ _ h => h) (fun u hu => exec_load_mid u 26 (.tmp 6) rfl w1.heap.size 0 (by with_unfolding_all rfl) hv _ hu Try.underlying26 rfl HSZ2.out) hS ?_
    go_simp
    refine wpAnyH_take (i := 1) (v := ?_) rfl (by kernel_rfl) (by kernel_rfl) (by kernel_rfl) (fun _ _ _ h => h) (Or.inl ⟨by rfl, ?_⟩) hS ?_
    rotate_left 1
    · intro u hu
      go_simp
      first | done | with_reducible rfl
    go_simp
    refine wpAnyH_take (i := 2) (v := ?_) rfl (by kernel_rfl) (by kernel_rfl) (by kernel_rfl) (fun _ _ _ h => h) (Or.inl ⟨by rfl, ?_⟩) hS ?_
    rotate_left 1
    · intro u hu
      go_simp
      first | done | with_reducible rfl
    go_simp
    refine wpAnyH_take (i := 3) (v := ?_) rfl (by kernel_rfl) (by kernel_rfl) (by kernel_rfl) (fun _ _ _ h => h) (Or.inl ⟨by rfl, ?_⟩) hS ?_
    rotate_left 1
    · intro u hu
      go_simp
      first | done | with_reducible rfl
    go_simp
    refine wpAnyH_oneG 4 (by kernel_rfl) rfl (by rfl) ?_
    go_wp2_with fail
    (with_reducible refine (plen_any _ w.heap.size (w.heap.size + 2) w6.drew (PtW.below K6.out.p (Below.refl _ _).drew)).mono ?_)
    rintro e w9 ⟨rfl, rfl⟩
    refine ⟨hS, ?_⟩
    go_simp
    refine wpAnyH_take (i := 5) (v := ?_) rfl (by kernel_rfl) (by kernel_rfl) (by kernel_rfl) (fun _ _ _ h => h) (Or.inl ⟨by rfl, ?_⟩) hS ?_
    rotate_left 1
    · intro u hu
      go_simp
      first | done | with_reducible rfl
    go_simp
    refine wpAnyH_oneG 6 (by kernel_rfl) rfl (by rfl) ?_
    refine wp_store_rw 26 (.tmp 2) (.tmp 77) rfl w.heap.size hv (by with_unfolding_all rfl) (by with_unfolding_all rfl) 26 fr0 K6.out.z.drew HSZ2.out HL2.out HONE2.out ?_
    intro w99 R99 O99
    have hS : w99.rangeAt w1.heap.size 0 hv := range_row (t := 26) (fr := (0, 0)) (K6.out.h.drew.only O99.out (by have := LT.out; omega))
    refine ⟨hS, ?_⟩
    go_simp
    refine wpAnyH_take (i := 7) (v := ?_) rfl (by kernel_rfl) (by kernel_rfl) (by kernel_rfl) (fun _ _ _ h => h) (Or.inl ⟨by rfl, ?_⟩) hS ?_
    rotate_left 1
    · intro u hu
      go_simp
      first | done | with_reducible rfl
    go_simp
    refine wpAnyH_take (i := 8) (v := ?_) rfl (by kernel_rfl) (by kernel_rfl) (by kernel_rfl) (fun _ _ _ h => h) (Or.inl ⟨by rfl, ?_⟩) hS ?_
    rotate_left 1
    · intro u hu
      go_simp
      first | done | with_reducible rfl
    go_simp
    refine wpAnyH_done (by kernel_rfl) ?_ _
    go_wp2_with fail
    first | rw [Exit.noGoto_ret] | skip
    refine ret_rw2 rfl w.heap.size 26 hv _ rfl R99.out Try.underlying26 rfl HSZ2.out rfl ?_
    have Ed := OwnS.only (v := w6.drew) (OwnS.drew Dd6.out) O99.out (by have := LT.out; omega)
    unfold endF
    rw [if_pos rfl]
    refine ⟨{ Fp.nil with da := Ad, dn := nd, dc := cd }, ?_, ⟨OwnR.nil _ _, Ed.o.base (by have := LT.out; omega), Own.nil _ _, Own.nil _ _⟩, K6.out.b.drew.trans (Only.below (w := w6.drew) O99.out K6.out.b.size (Nat.le_refl _))⟩
    rw [← HV.out, ← HM.out]; rfl
  · have tq : ((q : Int) != 0) = true := by simp; omega
    have HQ := Lib.hid hq
    clear hq
    go_wp2_with fail
    have HSZ0 : Hid ((Try.prog.info? 26).map (·.size) = some fr0.length) := fr_size
    (with_reducible refine (code_any _ w.heap.size (w.heap.size + 2) w6 K6.out.p).mono ?_)
    rintro e w9 ⟨rfl, rfl⟩
    go_wp2_with ((with_reducible refine wpList_store_rw rfl 26 (.tmp 2) (.tmp 74) rfl w.heap.size fr0 ?hx ?hy 26 fr0 K6.out.z HSZ0.out rfl fr0_one ?_); (case hx => with_unfolding_all rfl); (case hy => with_unfolding_all rfl); intro w98 R98 O98)
    first | rw [Exit.noGoto_ret] | skip
    refine ret_rw2 rfl w.heap.size 26 fr0 _ rfl R98.out Try.underlying26 rfl HSZ0.out rfl ?_
    unfold endF
    rw [if_neg HQ.out]
    exact ⟨Fp.nil, rfl, FrO.nil _ _ _, K6.out.b.trans (O98.out.below K6.out.b.size (Nat.le_refl _))⟩
set_option maxHeartbeats 8000000 in
set_option maxRecDepth 4000 in
theorem fget_8 (l : List UInt8) (s0 : List UInt8 × Nat) (A : Option Addr) (n c : Nat) (w : World) (hs : Sl w w.heap.size A n l) (hnc : n ≤ c) (hcm : c ≤ maxLen) (fi : Bool) (hk : kindP (l, 0) = (FrKd 8 fi, s0)) (hs0 : s0.2 = 0) :
    Calls Try.prog 21 #[.slice A n c] w (GetsF w (endF n ({ FrKd 8 fi with id := (varintP s0).1, off := (varintP (varintP s0).2).1, data := (dataP (varintP (varintP s0).2).2 (varintP (varintP s0).2).1).1 }, (dataP (varintP (varintP s0).2).2 (varintP (varintP s0).2).1).2))) := by
  have HF := Lib.hid (fun u hp => kind_any (l, 0) w.heap.size (w.heap.size + 2) u hp)
  have hle1 := kindP_le (l, 0)
  rw [hk] at HF hle1
  simp only at HF hle1
  have hln := hs.1
  have HS := Lib.hid hs
  have HC : Hid (n ≤ c ∧ c ≤ maxLen) := ⟨hnc, hcm⟩
  have hn63 : n ≤ 9223372036854775807 := by unfold maxLen at hcm; omega
  have HONE := Lib.hid (frK_one 8 fi)
  have HL0 : Hid (fr0.length = (frK 8 fi).length) := rfl
  have HSZ : Hid ((Try.prog.info? 26).map (·.size) = some (frK 8 fi).length) := fr_size
  have HFE : frV (FrKd 8 fi) Fp.nil = (frK 8 fi) := rfl
  rw [HFE] at HF
  clear hk hs hnc hcm HFE
  generalize hn : varintP s0 = vn at *
  obtain ⟨num, s1⟩ := vn
  have HN := Lib.hid (fun u hp => varintp_any s0 w.heap.size (w.heap.size + 2) u hp)
  have hln := varintP_le s0
  rw [hn] at hln HN
  clear hn
  simp only at hln HN ⊢
  generalize ho : varintP s1 = vo at *
  obtain ⟨off, s2⟩ := vo
  have HO := Lib.hid (fun u hp => varintp_any s1 w.heap.size (w.heap.size + 2) u hp)
  have hlo := varintP_le s1
  have hoff := varintP_lt s1
  rw [ho] at hlo HO hoff
  clear ho
  simp only at hlo HO hoff ⊢
  generalize hd : dataP s2 off = vd at *
  obtain ⟨dl, s3⟩ := vd
  have HD := Lib.hid (fun u hp => data_any s2 off (by omega) w.heap.size (w.heap.size + 2) u hp)
  have hld := dataP_le s2 off
  rw [hd] at hld HD
  clear hd
  simp only at hld ⊢
  obtain ⟨l2, q⟩ := s3
  simp only at hld
  go_enter Try.func21, Try.ntmps21
  go_wp2_with fail
  refine wp_scope_ahead 1 rfl ?_
  go_wp2_with fail
  (with_reducible refine (of_at A n c _).mono ?_)
  rintro e0 w0 ⟨rfl, rfl⟩
  go_wp2_with fail
  (with_reducible refine (HF.out _ ?hp).mono ?_)
  case hp => exact ⟨_, A, n, c, heap_allocs w [_, _, _] 2 _ rfl, HS.out.below ((((Below.refl _ w).alloc (Nat.le_refl _) _).alloc (by simp) _).alloc (by simp; omega) _), HC.out.1, HC.out.2, by omega⟩
  rintro e1 w1 ⟨rfl, hp1, ho1⟩
  have Z1 : Hid (Rw w1 w.heap.size 26 fr0) := (show Rw _ _ _ _ from heap_allocs w [_, _, _] 0 _ rfl).only ho1 (by omega)
  have B1 : Hid (Below w.heap.size w w1) := ((((Below.refl _ w).alloc (Nat.le_refl _) _).alloc (by simp) _).alloc (by simp; omega) _).trans (ho1.below (by simp; omega) (by omega))
  have LT : Hid (w.heap.size + 2 < w1.heap.size) := show _ < _ by have := ho1.size; simp at this; omega
  have P1 := Lib.hid hp1
  clear hp1 ho1
  go_wp2_with ((with_reducible refine wpList_store_rw rfl 26 (.tmp 6) (.tmp 10) rfl w1.heap.size (frK 8 fi) ?hx ?hy 26 fr0 ?hB HSZ.out HL0.out HONE.out ?_); (case hx => with_unfolding_all rfl); (case hy => with_unfolding_all rfl); (case hB => exact heap_alloc_new w1 _); intro w2 R2 O2; have K2 : Hid (GF w w1.heap.size w2 s0 (frK 8 fi)) := ⟨(P1.out.below ((Below.refl _ _).alloc (Nat.le_refl _) _)).only O2.out (by have := LT.out; omega) (by have := LT.out; omega), R2.out, (Z1.out.alloc _).only O2.out (by have := LT.out; omega), (B1.out.alloc B1.out.size _).trans (O2.out.below (by have := B1.out.size; simp; omega) B1.out.size), LT.out⟩; have c2 : w2.cell? ⟨w1.heap.size, 0, none⟩ = some (.int .i64 8) := K2.out.h.cell 0 _ rfl)
  obtain ⟨l0, q0⟩ := s0
  simp only at hs0
  subst hs0
  (with_reducible refine (code_any _ w.heap.size (w.heap.size + 2) w2 K2.out.p).mono ?_)
  rintro e w9 ⟨rfl, rfl⟩
  go_wp2_with fail
  (with_reducible refine (HN.out w2 K2.out.p).mono ?_)
  rintro e3 w3 ⟨rfl, hp, hon⟩
  have K3 := Lib.hid (K2.out.call hp hon)
  clear hp hon
  go_wp2_with ((with_reducible refine wpList_put_rw rfl 22 (.tmp 46) (.tmp 45) rfl w1.heap.size 4 (.int .u64 (num : Int)) ?hx ?hy rfl rfl 26 (frK 8 fi) K3.out.h sz_num ?hl ?_); (case hx => with_unfolding_all rfl); (case hy => with_unfolding_all rfl); (case hl => simp [frK]); intro w4 R4 O4; have K4 := Lib.hid (K3.out.put R4.out O4.out))
  go_step3
  refine ⟨rfl, ?_⟩
  go_wp2_with fail
  (with_reducible refine (HO.out w4 K4.out.p).mono ?_)
  rintro e5 w5 ⟨rfl, hp, hon⟩
  have K5 := Lib.hid (K4.out.call hp hon)
  clear hp hon
  go_wp2_with ((with_reducible refine wpList_put_rw rfl 22 (.tmp 66) (.tmp 65) rfl w1.heap.size 5 (.int .u64 (off : Int)) ?hx ?hy rfl rfl 26 ((frK 8 fi).set 4 (.int .u64 (num : Int))) K5.out.h sz_num ?hl ?_); (case hx => with_unfolding_all rfl); (case hy => with_unfolding_all rfl); (case hl => simp [frK]); intro w6 R6 O6; have K6 := Lib.hid (K5.out.put R6.out O6.out); have c6 : w6.cell? ⟨w1.heap.size, 5, none⟩ = some (.int .u64 (off : Int)) := K6.out.h.cell 5 _ rfl)
  (with_reducible refine (HD.out w6 K6.out.p).mono ?_)
  rintro e7 w7 ⟨Ad, nd, cd, rfl, ho, hle, hc, hp, hon⟩
  have K7 := Lib.hid (K6.out.call hp hon)
  have Dd7 : Hid (OwnS w1.heap.size w7 Ad nd cd dl) := ⟨ho.base K6.out.h.lt, hle, hc⟩
  clear ho hle hc hp hon
  go_wp2_with ((with_reducible refine wpList_put_rw rfl 24 (.tmp 70) (.tmp 69) rfl w1.heap.size 7 (.slice Ad nd cd) ?hx ?hy rfl rfl 26 (((frK 8 fi).set 4 (.int .u64 (num : Int))).set 5 (.int .u64 (off : Int))) K7.out.h sz_bytes ?hl ?_); (case hx => with_unfolding_all rfl); (case hy => with_unfolding_all rfl); (case hl => simp [frK]); intro w8 R8 O8; have K8 := Lib.hid (K7.out.put R8.out O8.out); have Dd8 := Lib.hid (Dd7.out.only O8.out (Nat.le_refl _)))
  go_step3
  go_wp2_with fail
  (with_reducible refine (code_any _ w.heap.size (w.heap.size + 2) w8 K8.out.p).mono ?_)
  rintro e w9 ⟨rfl, rfl⟩
  by_cases hq : q = 0
  · subst hq
    go_wp2_with fail
    obtain ⟨hv, ehv⟩ : ∃ x, ((((frK 8 fi).set 4 (.int .u64 (num : Int))).set 5 (.int .u64 (off : Int))).set 7 (.slice Ad nd cd)) = x := ⟨_, rfl⟩
    have HV := Lib.hid ehv
    have HONE2 : Hid (∀ v ∈ hv, v.oneCell' = true) := by rw [← ehv]; simp [frK, Value.oneCell', Hid]
    have HLN : Hid (hv.length = 10) := show _ = _ by rw [← ehv]; simp [frK]
    have HSZ2 : Hid ((Try.prog.info? 26).map (·.size) = some hv.length) := show _ = _ by rw [HLN.out]; exact fr_size
    have HL2 : Hid (fr0.length = hv.length) := show _ = _ by rw [HLN.out]; rfl
    rw [ehv] at K8
    clear ehv
    have hlf : l2.length ≤ n := by omega
    obtain ⟨m, hm⟩ : ∃ m : Nat, n - l2.length = m := ⟨_, rfl⟩
    have wm : IntKind.i64.wrap ((n : Int) - (l2.length : Int)) = (m : Int) := by rw [show (n : Int) - (l2.length : Int) = (m : Int) by omega]; exact IntWalk.i64_in _ (by omega)
    have HM := Lib.hid hm
    clear hm hlf
    refine wp_held (S := fun u => u.rangeAt w1.heap.size 0 hv) (by kernel_rfl) ?_
    have hS : w8.drew.rangeAt w1.heap.size 0 hv := range_row (t := 26) (fr := (0, 0)) K8.out.h
    refine wpAnyH_pickG 0 (.agg hv.toArray) rfl (by kernel_rfl) (by kernel_rfl) (by kernel_rfl) (by rfl) (fun _ _ _ h => h) (fun u hu => exec_load_mid u 26 (.tmp 6) rfl w1.heap.size 0 (by with_unfolding_all rfl) hv _ hu Try.underlying26 rfl HSZ2.out) hS ?_
    go_simp
    refine wpAnyH_take (i := 1) (v := ?_) rfl (by kernel_rfl) (by kernel_rfl) (by kernel_rfl) (fun _ _ _ h => h) (Or.inl ⟨by rfl, ?_⟩) hS ?_
    rotate_left 1
    · intro u hu
      go_simp
      first | done | with_reducible rfl
    go_simp
    refine wpAnyH_take (i := 2) (v := ?_) rfl (by kernel_rfl) (by kernel_rfl) (by kernel_rfl) (fun _ _ _ h => h) (Or.inl ⟨by rfl, ?_⟩) hS ?_
    rotate_left 1
    · intro u hu
      go_simp
      first | done | with_reducible rfl
    go_simp
    refine wpAnyH_take (i := 3) (v := ?_) rfl (by kernel_rfl) (by kernel_rfl) (by kernel_rfl) (fun _ _ _ h => h) (Or.inl ⟨by rfl, ?_⟩) hS ?_
    rotate_left 1
    · intro u hu
      go_simp
      first | done | with_reducible rfl
    go_simp
    refine wpAnyH_oneG 4 (by kernel_rfl) rfl (by rfl) ?_
    go_wp2_with fail
    (with_reducible refine (plen_any _ w.heap.size (w.heap.size + 2) w8.drew (PtW.below K8.out.p (Below.refl _ _).drew)).mono ?_)
    rintro e w9 ⟨rfl, rfl⟩
    refine ⟨hS, ?_⟩
    go_simp
    refine wpAnyH_take (i := 5) (v := ?_) rfl (by kernel_rfl) (by kernel_rfl) (by kernel_rfl) (fun _ _ _ h => h) (Or.inl ⟨by rfl, ?_⟩) hS ?_
    rotate_left 1
    · intro u hu
      go_simp
      first | done | with_reducible rfl
    go_simp
    refine wpAnyH_oneG 6 (by kernel_rfl) rfl (by rfl) ?_
    refine wp_store_rw 26 (.tmp 2) (.tmp 77) rfl w.heap.size hv (by with_unfolding_all rfl) (by with_unfolding_all rfl) 26 fr0 K8.out.z.drew HSZ2.out HL2.out HONE2.out ?_
    intro w99 R99 O99
    have hS : w99.rangeAt w1.heap.size 0 hv := range_row (t := 26) (fr := (0, 0)) (K8.out.h.drew.only O99.out (by have := LT.out; omega))
    refine ⟨hS, ?_⟩
    go_simp
    refine wpAnyH_take (i := 7) (v := ?_) rfl (by kernel_rfl) (by kernel_rfl) (by kernel_rfl) (fun _ _ _ h => h) (Or.inl ⟨by rfl, ?_⟩) hS ?_
    rotate_left 1
    · intro u hu
      go_simp
      first | done | with_reducible rfl
    go_simp
    refine wpAnyH_take (i := 8) (v := ?_) rfl (by kernel_rfl) (by kernel_rfl) (by kernel_rfl) (fun _ _ _ h => h) (Or.inl ⟨by rfl, ?_⟩) hS ?_
    rotate_left 1
    · intro u hu
      go_simp
      first | done | with_reducible rfl
    go_simp
    refine wpAnyH_done (by kernel_rfl) ?_ _
    go_wp2_with fail
    first | rw [Exit.noGoto_ret] | skip
    refine ret_rw2 rfl w.heap.size 26 hv _ rfl R99.out Try.underlying26 rfl HSZ2.out rfl ?_
    have Ed := OwnS.only (v := w8.drew) (OwnS.drew Dd8.out) O99.out (by have := LT.out; omega)
    unfold endF
    rw [if_pos rfl]
    refine ⟨{ Fp.nil with da := Ad, dn := nd, dc := cd }, ?_, ⟨OwnR.nil _ _, Ed.o.base (by have := LT.out; omega), Own.nil _ _, Own.nil _ _⟩, K8.out.b.drew.trans (Only.below (w := w8.drew) O99.out K8.out.b.size (Nat.le_refl _))⟩
    rw [← HV.out, ← HM.out]; rfl
  · have tq : ((q : Int) != 0) = true := by simp; omega
    have HQ := Lib.hid hq
    clear hq
    go_wp2_with fail
    have HSZ0 : Hid ((Try.prog.info? 26).map (·.size) = some fr0.length) := fr_size
    (with_reducible refine (code_any _ w.heap.size (w.heap.size + 2) w8 K8.out.p).mono ?_)
    rintro e w9 ⟨rfl, rfl⟩
    go_wp2_with ((with_reducible refine wpList_store_rw rfl 26 (.tmp 2) (.tmp 74) rfl w.heap.size fr0 ?hx ?hy 26 fr0 K8.out.z HSZ0.out rfl fr0_one ?_); (case hx => with_unfolding_all rfl); (case hy => with_unfolding_all rfl); intro w98 R98 O98)
    first | rw [Exit.noGoto_ret] | skip
    refine ret_rw2 rfl w.heap.size 26 fr0 _ rfl R98.out Try.underlying26 rfl HSZ0.out rfl ?_
    unfold endF
    rw [if_neg HQ.out]
    exact ⟨Fp.nil, rfl, FrO.nil _ _ _, K8.out.b.trans (O98.out.below K8.out.b.size (Nat.le_refl _))⟩
set_option maxHeartbeats 8000000 in
set_option maxRecDepth 4000 in
theorem fget_0 (l : List UInt8) (s0 : List UInt8 × Nat) (A : Option Addr) (n c : Nat) (w : World) (hs : Sl w w.heap.size A n l) (hnc : n ≤ c) (hcm : c ≤ maxLen) (hk : kindP (l, 0) = (FrKd 0 false, s0)) (hs0 : s0.2 = 0) :
    Calls Try.prog 21 #[.slice A n c] w (GetsF w (endF n ({ Fr.of 0 with n := 1 + (zerosP s0 16383).1 }, (zerosP s0 16383).2))) := by
  have HF := Lib.hid (fun u hp => kind_any (l, 0) w.heap.size (w.heap.size + 2) u hp)
  have hle1 := kindP_le (l, 0)
  rw [hk] at HF hle1
  simp only at HF hle1
  have hln := hs.1
  have HS := Lib.hid hs
  have HC : Hid (n ≤ c ∧ c ≤ maxLen) := ⟨hnc, hcm⟩
  have hn63 : n ≤ 9223372036854775807 := by unfold maxLen at hcm; omega
  have HONE := Lib.hid (frK_one 0 false)
  have HL0 : Hid (fr0.length = (frK 0 false).length) := rfl
  have HSZ : Hid ((Try.prog.info? 26).map (·.size) = some (frK 0 false).length) := fr_size
  have HFE : frV (FrKd 0 false) Fp.nil = (frK 0 false) := rfl
  rw [HFE] at HF
  clear hk hs hnc hcm HFE
  have hz3 : (zerosP s0 16383).1 ≤ 16383 := by unfold zerosP; simp only; omega
  generalize hz : zerosP s0 16383 = vz at *
  obtain ⟨zn, s1⟩ := vz
  have HZ := Lib.hid (fun u hp => zeros_any s0 16383 16383 rfl (by omega) w.heap.size (w.heap.size + 2) u hp)
  have hlz := zerosP_le s0 16383
  rw [hz] at hlz HZ
  clear hz
  simp only at hlz HZ ⊢
  simp only at hz3
  obtain ⟨zm, hzm⟩ : ∃ m : Nat, 1 + zn = m := ⟨_, rfl⟩
  have wz : IntKind.u64.wrap (zn : Int) = (zn : Int) := by rw [wrap_u64N]; omega
  have wz2 : (1 : Int) + (zn : Int) = (zm : Int) := by omega
  rw [hzm]
  clear hzm
  obtain ⟨l2, q⟩ := s1
  simp only at hlz
  go_enter Try.func21, Try.ntmps21
  go_wp2_with fail
  refine wp_scope_ahead 0 rfl ?_
  go_wp2_with fail
  (with_reducible refine (of_at A n c _).mono ?_)
  rintro e0 w0 ⟨rfl, rfl⟩
  go_wp2_with fail
  (with_reducible refine (HF.out _ ?hp).mono ?_)
  case hp => exact ⟨_, A, n, c, heap_allocs w [_, _, _] 2 _ rfl, HS.out.below ((((Below.refl _ w).alloc (Nat.le_refl _) _).alloc (by simp) _).alloc (by simp; omega) _), HC.out.1, HC.out.2, by omega⟩
  rintro e1 w1 ⟨rfl, hp1, ho1⟩
  have Z1 : Hid (Rw w1 w.heap.size 26 fr0) := (show Rw _ _ _ _ from heap_allocs w [_, _, _] 0 _ rfl).only ho1 (by omega)
  have B1 : Hid (Below w.heap.size w w1) := ((((Below.refl _ w).alloc (Nat.le_refl _) _).alloc (by simp) _).alloc (by simp; omega) _).trans (ho1.below (by simp; omega) (by omega))
  have LT : Hid (w.heap.size + 2 < w1.heap.size) := show _ < _ by have := ho1.size; simp at this; omega
  have P1 := Lib.hid hp1
  clear hp1 ho1
  go_wp2_with ((with_reducible refine wpList_store_rw rfl 26 (.tmp 6) (.tmp 10) rfl w1.heap.size (frK 0 false) ?hx ?hy 26 fr0 ?hB HSZ.out HL0.out HONE.out ?_); (case hx => with_unfolding_all rfl); (case hy => with_unfolding_all rfl); (case hB => exact heap_alloc_new w1 _); intro w2 R2 O2; have K2 : Hid (GF w w1.heap.size w2 s0 (frK 0 false)) := ⟨(P1.out.below ((Below.refl _ _).alloc (Nat.le_refl _) _)).only O2.out (by have := LT.out; omega) (by have := LT.out; omega), R2.out, (Z1.out.alloc _).only O2.out (by have := LT.out; omega), (B1.out.alloc B1.out.size _).trans (O2.out.below (by have := B1.out.size; simp; omega) B1.out.size), LT.out⟩; have c2 : w2.cell? ⟨w1.heap.size, 0, none⟩ = some (.int .i64 0) := K2.out.h.cell 0 _ rfl)
  obtain ⟨l0, q0⟩ := s0
  simp only at hs0
  subst hs0
  (with_reducible refine (code_any _ w.heap.size (w.heap.size + 2) w2 K2.out.p).mono ?_)
  rintro e w9 ⟨rfl, rfl⟩
  go_wp2_with fail
  (with_reducible refine (HZ.out w2 K2.out.p).mono ?_)
  rintro e3 w3 ⟨rfl, hp, hon⟩
  have K3 := Lib.hid (K2.out.call hp hon)
  clear hp hon
  go_wp2_with ((with_reducible refine wpList_put_rw rfl 22 (.tmp 25) (.tmp 24) rfl w1.heap.size 1 (.int .u64 (zm : Int)) ?hx ?hy rfl rfl 26 (frK 0 false) K3.out.h sz_num ?hl ?_); (case hx => with_unfolding_all rfl); (case hy => with_unfolding_all rfl); (case hl => simp [frK]); intro w4 R4 O4; have K4 := Lib.hid (K3.out.put R4.out O4.out))
  go_step3
  refine ⟨rfl, ?_⟩
  go_wp2_with fail
  (with_reducible refine (code_any _ w.heap.size (w.heap.size + 2) w4 K4.out.p).mono ?_)
  rintro e w9 ⟨rfl, rfl⟩
  by_cases hq : q = 0
  · subst hq
    go_wp2_with fail
    obtain ⟨hv, ehv⟩ : ∃ x, ((frK 0 false).set 1 (.int .u64 (zm : Int))) = x := ⟨_, rfl⟩
    have HV := Lib.hid ehv
    have HONE2 : Hid (∀ v ∈ hv, v.oneCell' = true) := by rw [← ehv]; simp [frK, Value.oneCell', Hid]
    have HLN : Hid (hv.length = 10) := show _ = _ by rw [← ehv]; simp [frK]
    have HSZ2 : Hid ((Try.prog.info? 26).map (·.size) = some hv.length) := show _ = _ by rw [HLN.out]; exact fr_size
    have HL2 : Hid (fr0.length = hv.length) := show _ = _ by rw [HLN.out]; rfl
    rw [ehv] at K4
    clear ehv
    have hlf : l2.length ≤ n := by omega
    obtain ⟨m, hm⟩ : ∃ m : Nat, n - l2.length = m := ⟨_, rfl⟩
    have wm : IntKind.i64.wrap ((n : Int) - (l2.length : Int)) = (m : Int) := by rw [show (n : Int) - (l2.length : Int) = (m : Int) by omega]; exact IntWalk.i64_in _ (by omega)
    have HM := Lib.hid hm
    clear hm hlf
    refine wp_held (S := fun u => u.rangeAt w1.heap.size 0 hv) (by kernel_rfl) ?_
    have hS : w4.drew.rangeAt w1.heap.size 0 hv := range_row (t := 26) (fr := (0, 0)) K4.out.h
    refine wpAnyH_pickG 0 (.agg hv.toArray) rfl (by kernel_rfl) (by kernel_rfl) (by kernel_rfl) (by rfl) (fun _ _ _ h => h) (fun u hu => exec_load_mid u 26 (.tmp 6) rfl w1.heap.size 0 (by with_unfolding_all rfl) hv _ hu Try.underlying26 rfl HSZ2.out) hS ?_
    go_simp
    refine wpAnyH_take (i := 1) (v := ?_) rfl (by kernel_rfl) (by kernel_rfl) (by kernel_rfl) (fun _ _ _ h => h) (Or.inl ⟨by rfl, ?_⟩) hS ?_
    rotate_left 1
    · intro u hu
      go_simp
      first | done | with_reducible rfl
    go_simp
    refine wpAnyH_take (i := 2) (v := ?_) rfl (by kernel_rfl) (by kernel_rfl) (by kernel_rfl) (fun _ _ _ h => h) (Or.inl ⟨by rfl, ?_⟩) hS ?_
    rotate_left 1
    · intro u hu
      go_simp
      first | done | with_reducible rfl
    go_simp
    refine wpAnyH_take (i := 3) (v := ?_) rfl (by kernel_rfl) (by kernel_rfl) (by kernel_rfl) (fun _ _ _ h => h) (Or.inl ⟨by rfl, ?_⟩) hS ?_
    rotate_left 1
    · intro u hu
      go_simp
      first | done | with_reducible rfl
    go_simp
    refine wpAnyH_oneG 4 (by kernel_rfl) rfl (by rfl) ?_
    go_wp2_with fail
    (with_reducible refine (plen_any _ w.heap.size (w.heap.size + 2) w4.drew (PtW.below K4.out.p (Below.refl _ _).drew)).mono ?_)
    rintro e w9 ⟨rfl, rfl⟩
    refine ⟨hS, ?_⟩
    go_simp
    refine wpAnyH_take (i := 5) (v := ?_) rfl (by kernel_rfl) (by kernel_rfl) (by kernel_rfl) (fun _ _ _ h => h) (Or.inl ⟨by rfl, ?_⟩) hS ?_
    rotate_left 1
    · intro u hu
      go_simp
      first | done | with_reducible rfl
    go_simp
    refine wpAnyH_oneG 6 (by kernel_rfl) rfl (by rfl) ?_
    refine wp_store_rw 26 (.tmp 2) (.tmp 77) rfl w.heap.size hv (by with_unfolding_all rfl) (by with_unfolding_all rfl) 26 fr0 K4.out.z.drew HSZ2.out HL2.out HONE2.out ?_
    intro w99 R99 O99
    have hS : w99.rangeAt w1.heap.size 0 hv := range_row (t := 26) (fr := (0, 0)) (K4.out.h.drew.only O99.out (by have := LT.out; omega))
    refine ⟨hS, ?_⟩
    go_simp
    refine wpAnyH_take (i := 7) (v := ?_) rfl (by kernel_rfl) (by kernel_rfl) (by kernel_rfl) (fun _ _ _ h => h) (Or.inl ⟨by rfl, ?_⟩) hS ?_
    rotate_left 1
    · intro u hu
      go_simp
      first | done | with_reducible rfl
    go_simp
    refine wpAnyH_take (i := 8) (v := ?_) rfl (by kernel_rfl) (by kernel_rfl) (by kernel_rfl) (fun _ _ _ h => h) (Or.inl ⟨by rfl, ?_⟩) hS ?_
    rotate_left 1
    · intro u hu
      go_simp
      first | done | with_reducible rfl
    go_simp
    refine wpAnyH_done (by kernel_rfl) ?_ _
    go_wp2_with fail
    first | rw [Exit.noGoto_ret] | skip
    refine ret_rw2 rfl w.heap.size 26 hv _ rfl R99.out Try.underlying26 rfl HSZ2.out rfl ?_
    unfold endF
    rw [if_pos rfl]
    refine ⟨Fp.nil, ?_, ⟨OwnR.nil _ _, Own.nil _ _, Own.nil _ _, Own.nil _ _⟩, K4.out.b.drew.trans (Only.below (w := w4.drew) O99.out K4.out.b.size (Nat.le_refl _))⟩
    rw [← HV.out, ← HM.out]; rfl
  · have tq : ((q : Int) != 0) = true := by simp; omega
    have HQ := Lib.hid hq
    clear hq
    go_wp2_with fail
    have HSZ0 : Hid ((Try.prog.info? 26).map (·.size) = some fr0.length) := fr_size
    (with_reducible refine (code_any _ w.heap.size (w.heap.size + 2) w4 K4.out.p).mono ?_)
    rintro e w9 ⟨rfl, rfl⟩
    go_wp2_with ((with_reducible refine wpList_store_rw rfl 26 (.tmp 2) (.tmp 74) rfl w.heap.size fr0 ?hx ?hy 26 fr0 K4.out.z HSZ0.out rfl fr0_one ?_); (case hx => with_unfolding_all rfl); (case hy => with_unfolding_all rfl); intro w98 R98 O98)
    first | rw [Exit.noGoto_ret] | skip
    refine ret_rw2 rfl w.heap.size 26 fr0 _ rfl R98.out Try.underlying26 rfl HSZ0.out rfl ?_
    unfold endF
    rw [if_neg HQ.out]
    exact ⟨Fp.nil, rfl, FrO.nil _ _ _, K4.out.b.trans (O98.out.below K4.out.b.size (Nat.le_refl _))⟩
end Go.Proofs.Ytcipmfhacloegaa
