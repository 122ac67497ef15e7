/-
  The walk of ShaSplits.
-/
import Derived.Test.YtahcnjhfkndleaaDoorShaJ
namespace Go.Proofs.YtahcnjhfkndleaaDoor
open Go.RowKit Go.Joins
set_option linter.unusedVariables false

/-- integers that came in -/
def Ints (w : World) (A : Option Addr) (n : Nat) : Prop := 0 < n → ∃ b off, A = some ⟨b, off, none⟩ ∧ b < w.heap.size ∧ ∀ j, j < n → ∃ z, w.cell? ⟨b, off + j, none⟩ = some (.int .i64 z)
theorem ints_of_row {w : World} {a : Option Addr} {len cap : Nat} {zs : List Int}
    (h : (a = none ∧ len = 0 ∧ cap = 0 ∧ zs = []) ∨ ∃ x, a = some x ∧ len ≤ cap ∧ cap ≤ maxLen ∧ zs.length = cap ∧ (∀ i, i < zs.length → w.cell? (x.add i) = some (.int .i64 (zs.getD i 0))) ∧ ∀ n ∈ zs, (Lit.int .i64 n).wf = true) : Ints w a len := by
  intro hn
  rcases h with ⟨rfl, rfl, rfl, rfl⟩ | ⟨x, rfl, hl, hm, hz, hcell, hwf⟩
  · omega
  · have hc0 := hcell 0 (by omega)
    obtain ⟨b, off, spot⟩ := x
    have hspot : spot = none := by simpa [Addr.add] using World.cell?_spot hc0
    subst hspot
    refine ⟨b, off, rfl, World.block_lt_of_cell? w _ (by simpa [Addr.add] using hc0), fun j hj => ⟨zs.getD j 0, ?_⟩⟩
    have := hcell j (by omega)
    rwa [addr_add] at this
def pv (p : Piece) : Value := .slice p.A p.n p.c
/-- pieces that the call has made so far -/
structure Made (w wr : World) (Ap : Option Addr) (cp j : Nat) (ps : List Piece) : Prop where
  own : OwnR wr w.heap.size (.slice Ap j cp) j (ps.map pv)
  len : ps.length = j
  each : ∀ p ∈ ps, Sl wr wr.heap.size p.A p.n p.l ∧ p.n ≤ p.c ∧ p.c ≤ maxLen ∧ ∀ a, p.A = some a → a.block < wr.heap.size ∧ some a.block ≠ (Value.slice Ap j cp).ownBlock
  bl : Below w.heap.size w wr
theorem Made.nil (w : World) : Made w w none 0 0 [] := ⟨OwnR.nil _ _, rfl, by simp, Below.refl _ _⟩
theorem ownBlock_slice (A : Option Addr) (n c k : Nat) (h : (Value.slice A n c).ownBlock = some k) : ∃ off sp, A = some ⟨k, off, sp⟩ := by
  unfold Value.ownBlock at h
  cases A with
  | none => simp at h
  | some a =>
    obtain ⟨b, off, sp⟩ := a
    simp at h
    subst h
    exact ⟨off, sp, rfl⟩
/-- one piece more -/
theorem Made.add {w wr w1 w2 w3 : World} {Ap Ap' A : Option Addr} {cp cp' j n c : Nat} {l : List UInt8} {ps : List Piece} (h : Made w wr Ap cp j ps) (hb1 : Below wr.heap.size wr w1) (ho : Own w1 wr.heap.size (.slice A n c) n l) (hnc : n ≤ c) (hcm : c ≤ maxLen)
    (hb2 : Below w1.heap.size w1 w2) (hown : OwnR w3 w.heap.size (.slice Ap' (j + 1) cp') (j + 1) (ps.map pv ++ [.slice A n c])) (hg : w2.grownBy w3 (Value.slice Ap j cp).ownBlock) (hat : (Value.slice Ap' (j + 1) cp').ownBlock = (Value.slice Ap j cp).ownBlock ∨ (Value.slice Ap' (j + 1) cp').ownBlock = some w2.heap.size) :
    Made w w3 Ap' cp' (j + 1) (ps ++ [⟨A, n, c, l⟩]) := by
  have s0 := h.bl.size
  have s1 := hb1.size
  have s2 := hb2.size
  have s3 := hg.size
  have hlt := h.own.lt
  refine ⟨by simpa [pv] using hown, by simp [h.len], ?_, ?_⟩
  · intro p hp
    rcases List.mem_append.1 hp with hp | hp
    · obtain ⟨q1, q2, q3, q4⟩ := h.each p hp
      refine ⟨⟨q1.1, fun hn => ?_⟩, q2, q3, fun a ha => ?_⟩
      · obtain ⟨b, off, e, hb, hc⟩ := q1.2 hn
        have q5 := (q4 _ e).2
        refine ⟨b, off, e, by omega, fun i hi => ?_⟩
        have e3 : w3.heap[b]? = wr.heap[b]? := by
          rw [hg.block b (by omega) (fun he => q5 he), hb2.block b (by omega), hb1.block b hb]
        exact (World.cell?_of_block (w := wr) e3).trans (hc i hi)
      · obtain ⟨q5, q6⟩ := q4 a ha
        refine ⟨by omega, ?_⟩
        rcases hat with he | he
        · rw [he]; exact q6
        · rw [he]
          intro hc
          injection hc with hc
          omega
    · simp only [List.mem_singleton] at hp
      subst hp
      have hsl := ho.sl
      refine ⟨⟨hsl.1, fun hn => ?_⟩, hnc, hcm, fun a ha => ?_⟩
      · obtain ⟨b, off, e, hb, hc⟩ := hsl.2 hn
        have hge := (ho.blk _ e).1
        have hne : some b ≠ (Value.slice Ap j cp).ownBlock := fun he => by
          have := (hlt b he.symm).2
          have hge : wr.heap.size ≤ b := hge
          omega
        refine ⟨b, off, e, by omega, fun i hi => ?_⟩
        have e3 : w3.heap[b]? = w1.heap[b]? := by
          rw [hg.block b (by omega) (fun he => hne he), hb2.block b hb]
        exact (World.cell?_of_block (w := w1) e3).trans (hc i hi)
      · have hge := ho.blk a ha
        refine ⟨by omega, fun he => ?_⟩
        rcases hat with h1 | h1
        · rw [h1] at he
          have := (hlt _ he.symm).2
          omega
        · rw [h1] at he
          injection he with he
          omega
  · exact h.bl.trans ((hb1.mono s0).trans ((hb2.mono (by omega)).trans (Below.grown (Below.refl _ _) hg (by omega) fun k hk => (hlt k hk).1)))
theorem Made.sls {w wr : World} {Ap : Option Addr} {cp j : Nat} {ps : List Piece} (h : Made w wr Ap cp j ps) : Sls wr wr.heap.size Ap j ps := by
  refine ⟨h.len, fun hj => ?_, fun p hp => ?_⟩
  · rcases h.own.2 with ⟨_, h0⟩ | ⟨g, cap, cur, hv, hB, hg, _⟩
    · omega
    · injection hv with hA
      subst hA
      refine ⟨g, 0, rfl, (Array.getElem?_eq_some_iff.1 hg).1, fun i hi => ?_⟩
      have := World.ownsRow.cells (w := wr) h.own (g := g) rfl i (pv ps[i]) (by simp [hi])
      rw [addr_add] at this
      exact this
  · obtain ⟨q1, q2, q3, q4⟩ := h.each p hp
    exact ⟨q1, q2, q3, fun a ha => (q4 a ha).1⟩

set_option maxHeartbeats 1000000 in
theorem splits_long (A1 A2 : Option Addr) (n1 c1 n2 c2 : Nat) (w : World) (hG : Glob w) (h : 300 < n1 ∨ 6 < n2) :
    Calls Tryd.prog 6 #[.slice A1 n1 c1, .slice A2 n2 c2] w fun e w' => e = .returned (.bool true) ∧ Below w.heap.size w w' := by
  have HA := Lib.hid (awake_any w hG)
  clear hG
  by_cases h1 : 300 < n1
  · have t1 : decide ((300 : Int) < (n1 : Int)) = true := by simp; omega
    clear h h1
    go_enter Tryd.func6, Tryd.ntmps6
    go_wp2_with ((with_reducible refine HA.out.mono ?_); rintro e w1 ⟨rfl, hb⟩)
    go_ret
    exact ⟨rfl, hb⟩
  · have t1 : decide ((300 : Int) < (n1 : Int)) = false := by simp; omega
    have t2 : decide ((6 : Int) < (n2 : Int)) = true := by simp; omega
    clear h h1
    go_enter Tryd.func6, Tryd.ntmps6
    go_wp2_with ((with_reducible refine HA.out.mono ?_); rintro e w1 ⟨rfl, hb⟩)
    go_ret
    exact ⟨rfl, hb⟩

set_option maxHeartbeats 1000000 in
theorem splits_walk (text : List UInt8) (A1 A2 : Option Addr) (n c m c2 : Nat) (w : World) (hG : Glob w) (hs : Sl w w.heap.size A1 n text) (hnc : n ≤ c) (hcm : c ≤ maxLen) (hi : Ints w A2 m) (hn : n ≤ 300) (hm : m ≤ 6) :
    Calls Tryd.prog 6 #[.slice A1 n c, .slice A2 m c2] w fun e w' => e = .returned (.bool true) ∧ Below w.heap.size w w' := by
  have HG := Lib.hid hG
  have HS := Lib.hid hs
  have HI := Lib.hid hi
  have t1 : decide ((300 : Int) < (n : Int)) = false := by simp; omega
  have t2 : decide ((6 : Int) < (m : Int)) = false := by simp; omega
  clear hG hs hi
  go_enter Tryd.func6, Tryd.ntmps6
  go_wp2_with fail
  go_loopw [5, 6, 7] (fun parts at_ i wr => ∃ (j k : Nat) (Ap : Option Addr) (cp : Nat) (ps : List Piece), j ≤ m ∧ k ≤ n ∧ i = .int .i64 j ∧ at_ = .int .i64 k ∧ parts = .slice Ap j cp ∧ Hid (Made w wr Ap cp j ps) ∧ Hid (joined ps = text.take k)) (fun _ _ i _ => m - (intOf i).toNat)
  case atStart => exact ⟨0, 0, none, 0, [], by omega, by omega, rfl, rfl, rfl, Made.nil w, rfl⟩
  case round =>
    obtain ⟨j, k, Ap, cp, ps, hj, hk, rfl, rfl, rfl, HM, HJ⟩ := hrel
    by_cases hlt : j < m
    · obtain ⟨b, off, rfl, hb, hcell⟩ := HI.out (by omega)
      obtain ⟨z, hz⟩ := hcell j hlt
      have cz : wr.cell? ⟨b, off + j, none⟩ = some (.int .i64 z) := by rw [HM.out.bl.cell hb]; exact hz
      obtain ⟨q, hq⟩ : ∃ q : Nat, (n : Int) - (k : Int) + 1 = (q : Int) := ⟨n - k + 1, by omega⟩
      have hlb := low_bd z (q : Int) (by omega) (by omega)
      obtain ⟨d, hd⟩ : ∃ d : Nat, lowV z (q : Int) = (d : Int) := ⟨(lowV z (q : Int)).toNat, by omega⟩
      have hl := fun u => low_any z (q : Int) u (by omega) (by omega)
      rw [hd] at hl hlb
      have HL := Lib.hid hl
      have hdn : k + d ≤ n := by omega
      clear hcell hz hl hd hlb
      obtain ⟨T, hT⟩ : ∃ T : Nat, (k : Int) + (d : Int) = (T : Int) := ⟨k + d, by omega⟩
      have hkT : k ≤ T := by omega
      have hTn : T ≤ n := by omega
      obtain ⟨A3, hA3⟩ : ∃ A3, (if c = k then A1 else A1.map (·.add k)) = A3 := ⟨_, rfl⟩
      have hcut : ∀ u : World, (Instr.slice 22 (.slice A1 n c) (some (.int .i64 (k : Int))) (some (.int .i64 (T : Int))) none).run Tryd.prog u = .ok (.slice A3 (T - k) (c - k)) u := fun u => by
        rw [← hA3]; exact run_cut2 u A1 n c k T hkT (by omega)
      have hp3 := (HS.out.below HM.out.bl).drop hk hnc
      rw [hA3] at hp3
      have HP := Lib.hid (hp3.take (show T - k ≤ n - k by omega))
      have HJ' : Hid (joined (ps ++ [⟨A3, T - k, c - k, (text.drop k).take (T - k)⟩]) = text.take T) := by
        show _ = _
        have h1 := HJ.out
        unfold joined at h1 ⊢
        rw [List.flatMap_append, h1]
        simp only [List.flatMap_cons, List.flatMap_nil, List.append_nil]
        rw [← List.take_add, show k + (T - k) = T by omega]
      clear hp3 hA3 hdn
      go_wp2_with fail
      (with_reducible refine (HL.out _).mono ?_)
      rintro e w' ⟨rfl, rfl⟩
      go_wp2_with (first
        | (at_builtin; (refine wpList_append_bytes rfl _ _ rfl wr.heap.size (.slice none 0 0) 0 [] rfl (Own.nil _ _) w.heap.size A3 (T - k) (c - k) ((text.drop k).take (T - k)) rfl HP.out (by omega) (Nat.le_refl _) wr (Below.refl _ _) ?_); intro A4 c4 w4 ho4 hle4 hc4 hg4 hb4; simp only [Nat.zero_add, List.nil_append] at ho4 hle4; rw [Nat.zero_add]; have HO4 := Lib.hid ho4; have HB4 := Lib.hid hb4; clear ho4 hg4 hb4)
        | (at_builtin; (refine wpList_append_piece rfl _ _ rfl w.heap.size (.slice Ap j cp) j (ps.map pv) rfl ?hown w4.heap.size 1 (.slice A4 (T - k) c4) rfl ?hp rfl (by omega) ?hbase w ?hb ?_); (case hown => exact (HM.out.own.below HB4.out).below ((Below.refl _ _).alloc (Nat.le_refl _) _)); (case hp => simp); (case hbase => have h1 := HM.out.bl.size; have h2 := HB4.out.size; simp; omega); (case hb => exact (HM.out.bl.trans (HB4.out.mono HM.out.bl.size)).alloc (Nat.le_trans HM.out.bl.size HB4.out.size) _); intro A5 c5 w5 H5 HG5 hat5 HB5))
      go_roundw
      case rel =>
        have hfin := HM.out.add HB4.out HO4.out hle4 hc4 ((Below.refl _ _).alloc (Nat.le_refl _) _) H5.out HG5.out hat5
        have hj2 : joined (ps ++ [⟨A4, T - k, c4, (text.drop k).take (T - k)⟩]) = text.take T := by
          have h1 := HJ'.out
          unfold joined at h1 ⊢
          simpa using h1
        first
          | exact ⟨j + 1, T, A5, c5, _, by omega, by omega, by go_num, rfl, rfl, hfin, hj2⟩
          | ((repeat apply Exists.intro); exact ⟨⟨j + 1, T, A5, c5, _, by omega, by omega, by go_num, rfl, rfl, hfin, hj2⟩, rfl⟩)
      case measure => simp [intOf]; omega
    · obtain rfl : j = m := by omega
      obtain ⟨A3, hA3⟩ : ∃ A3, (if c = k then A1 else A1.map (·.add k)) = A3 := ⟨_, rfl⟩
      have hcut : ∀ u : World, (Instr.slice 22 (.slice A1 n c) (some (.int .i64 (k : Int))) none none).run Tryd.prog u = .ok (.slice A3 (n - k) (c - k)) u := fun u => by
        rw [← hA3]; exact run_cut_bytes u A1 n c k hk hnc
      have hp3 := (HS.out.below HM.out.bl).drop hk hnc
      rw [hA3] at hp3
      have HP := Lib.hid hp3
      have hkI : (k : Int) ≤ (n : Int) := by omega
      have HEq := Lib.hid run_eql_digests
      have HLt := Lib.hid HS.out.len
      clear hp3 hA3
      go_wp2_with (first
        | (at_builtin; (refine wpList_append_bytes rfl _ _ rfl wr.heap.size (.slice none 0 0) 0 [] rfl (Own.nil _ _) w.heap.size A3 (n - k) (c - k) (text.drop k) rfl HP.out (by omega) (Nat.le_refl _) wr (Below.refl _ _) ?_); intro A4 c4 w4 ho4 hle4 hc4 hg4 hb4; simp only [Nat.zero_add, List.nil_append] at ho4 hle4; rw [Nat.zero_add]; have HO4 := Lib.hid ho4; have HB4 := Lib.hid hb4; clear ho4 hg4 hb4)
        | (at_builtin; (refine wpList_append_piece rfl _ _ rfl w.heap.size (.slice Ap j cp) j (ps.map pv) rfl ?hown w4.heap.size 1 (.slice A4 (n - k) c4) rfl ?hp rfl (by omega) ?hbase w ?hb ?_); (case hown => exact (HM.out.own.below HB4.out).below ((Below.refl _ _).alloc (Nat.le_refl _) _)); (case hp => simp); (case hbase => have h1 := HM.out.bl.size; have h2 := HB4.out.size; simp; omega); (case hb => exact (HM.out.bl.trans (HB4.out.mono HM.out.bl.size)).alloc (Nat.le_trans HM.out.bl.size HB4.out.size) _); intro A5 c5 w5 H5 HG5 hat5 HB5))
      have hfin := HM.out.add HB4.out HO4.out hle4 hc4 ((Below.refl _ _).alloc (Nat.le_refl _) _) H5.out HG5.out hat5
      have hj2 : joined (ps ++ [⟨A4, n - k, c4, text.drop k⟩]) = text := by
        have h1 := HJ.out
        unfold joined at h1 ⊢
        rw [List.flatMap_append, h1]
        simp
      obtain ⟨ps2, hps2⟩ : ∃ x, ps ++ [⟨A4, n - k, c4, text.drop k⟩] = x := ⟨_, rfl⟩
      rw [hps2] at hfin hj2
      have HF := Lib.hid hfin
      have HJ2 := Lib.hid hj2
      clear hfin hj2 hps2 hcut
      (with_reducible refine (sum_any ps2 A5 (j + 1) c5 w5.heap.size _ ?q1 ?q2 ?q3 (by simp [maxLen]; omega) ?q4).mono ?_)
      case q1 => exact HG.out.below HF.out.bl
      case q2 => exact HF.out.sls
      case q3 => exact Nat.le_refl _
      case q4 => rw [HJ2.out]; have := HLt.out; omega
      rintro e w6 ⟨rfl, hb6⟩
      rw [HJ2.out]
      have hB6 : Below w.heap.size w w6 := HF.out.bl.trans (hb6.mono HF.out.bl.size)
      have HB6 := Lib.hid hB6
      have HS6 := Lib.hid (HS.out.below hB6)
      clear hb6 hB6 HF HM HB4 HO4 H5 HG5 HB5 HP hat5
      go_wp2_with (at_builtin; (refine wpList_append_bytes rfl _ _ rfl w6.heap.size (.slice none 0 0) 0 [] rfl (Own.nil _ _) w.heap.size A1 n c text rfl HS6.out (by omega) (Nat.le_refl _) w6 (Below.refl _ _) ?_); intro A7 c7 w7 ho7 hle7 hc7 hg7 hb7; simp only [Nat.zero_add, List.nil_append] at ho7 hle7; rw [Nat.zero_add]; have HO7 := Lib.hid ho7; have HB7 := Lib.hid hb7; clear ho7 hg7 hb7)
      have hB7 : Below w.heap.size w (w7.alloc (.cells #[.slice A7 n c7] 22)) := (HB6.out.trans (HB7.out.mono HB6.out.size)).alloc (Nat.le_trans HB6.out.size HB7.out.size) _
      have HB7' := Lib.hid hB7
      clear hB7
      (with_reducible refine (sum_any [⟨A7, n, c7, text⟩] _ 1 1 (w7.heap.size + 1) _ ?q1 ?q2 ?q3 (by simp [maxLen]) ?q4).mono ?_)
      case q1 => exact HG.out.below HB7'.out
      case q2 =>
        refine sls_block (g := w7.heap.size) (B := w7.heap.size + 1) (ps := [⟨A7, n, c7, text⟩]) (t := 22) (fr := (0, 0)) (heap_alloc_new _ _) (by omega) ?_
        intro p hp
        simp only [List.mem_singleton] at hp
        subst hp
        exact ⟨((HO7.out.sl).below ((Below.refl _ _).alloc (Nat.le_refl _) _)).more (by omega), hle7, hc7, fun a ha => Nat.lt_succ_of_lt (HO7.out.blk a ha).2⟩
      case q3 => simp
      case q4 => simp [joined]; have := HLt.out; omega
      rintro e w8 ⟨rfl, hb8⟩
      have hjt : joined [⟨A7, n, c7, text⟩] = text := by simp [joined]
      rw [hjt]
      have hB8 : Below w.heap.size w w8 := HB7'.out.trans (hb8.mono HB7'.out.size)
      have HB8 := Lib.hid hB8
      have heq := HEq.out (sumV text) (sumV text) (sumV_length _) (sumV_length _)
      rw [decide_eq_true rfl] at heq
      clear hjt hB8 hb8 HB7 HO7 HB6 HS6 HB7'
      go_wp2_with fail
      (with_reducible refine (sum_any [] _ 0 0 0 _ ?q1 ?q2 ?q3 (by simp [maxLen]) ?q4).mono ?_)
      case q1 => exact HG.out.below HB8.out
      case q2 => exact ⟨rfl, fun h => absurd h (by omega), by simp⟩
      case q3 => exact Nat.zero_le _
      case q4 => simp [joined]
      rintro e w9 ⟨rfl, hb9⟩
      have hj0 : joined [] = [] := rfl
      rw [hj0]
      have hB9 : Below w.heap.size w w9 := HB8.out.trans (hb9.mono HB8.out.size)
      have HB9 := Lib.hid hB9
      clear hj0 hB9 hb9 heq
      go_wp2_with fail
      have hB10 : Below w.heap.size w (w9.alloc (.cells #[.slice none 0 0, .slice none 0 0] 22)) := HB9.out.alloc HB9.out.size _
      have HB10 := Lib.hid hB10
      clear hB10
      (with_reducible refine (sum_any [⟨none, 0, 0, []⟩, ⟨none, 0, 0, []⟩] _ 2 2 (w9.heap.size + 1) _ ?q1 ?q2 ?q3 (by simp [maxLen]) ?q4).mono ?_)
      case q1 => exact HG.out.below HB10.out
      case q2 =>
        refine sls_block (g := w9.heap.size) (B := w9.heap.size + 1) (ps := [⟨none, 0, 0, []⟩, ⟨none, 0, 0, []⟩]) (t := 22) (fr := (0, 0)) (heap_alloc_new _ _) (by omega) ?_
        intro p hp
        simp only [List.mem_cons, List.not_mem_nil, or_false, or_self] at hp
        subst hp
        exact ⟨Sl.nil, Nat.le_refl _, by simp [maxLen], fun a ha => by cases ha⟩
      case q3 => simp
      case q4 => simp [joined]
      rintro e w11 ⟨rfl, hb11⟩
      have hj0 : joined [⟨none, 0, 0, []⟩, ⟨none, 0, 0, []⟩] = [] := rfl
      rw [hj0]
      have hB11 : Below w.heap.size w w11 := HB10.out.trans (hb11.mono HB10.out.size)
      have HB11 := Lib.hid hB11
      have heq := HEq.out (sumV []) (sumV []) (sumV_length _) (sumV_length _)
      rw [decide_eq_true rfl] at heq
      clear hj0 hB11 hb11
      go_wp2_with fail
      (with_reducible refine (awake_any _ (HG.out.below HB11.out)).mono ?_)
      rintro e w12 ⟨rfl, hb12⟩
      go_wp2
      go_ret
      exact ⟨rfl, HB11.out.trans (hb12.mono HB11.out.size)⟩
end Go.Proofs.YtahcnjhfkndleaaDoor
