/-
  The document's Out in memory: each place's state in a row of ints; first, turn, There, Lost.
-/
import Derived.Test.YtkodjajhlcbmkaaDoorOuH
import Derived.LoopTactic
import Derived.Deep.CutRange
import Derived.Deep.CutBlock
namespace Go.Proofs.YtkodjajhlcbmkaaDoor
open Go.RowKit Go.Lib
set_option linter.unusedVariables false

def svs (n : Nat) (s : Nat → Nat) : List Value := (List.range (n + 1)).map fun i => .int .i64 ((s i : Nat) : Int)
theorem svs_length (n : Nat) (s : Nat → Nat) : (svs n s).length = n + 1 := by simp [svs]
theorem svs_at {n i : Nat} {s : Nat → Nat} (h : i ≤ n) : (svs n s)[i]? = some (.int .i64 ((s i : Nat) : Int)) := by
  simp [svs, show i < n + 1 by omega]
theorem svs_same {n : Nat} {s s' : Nat → Nat} (h : ∀ i, i ≤ n → s i = s' i) : svs n s = svs n s' := by
  unfold svs
  refine List.map_congr_left fun i hi => ?_
  rw [h i (by have := List.mem_range.1 hi; omega)]
theorem svs_set {n i : Nat} {s : Nat → Nat} (v : Nat) (h : i ≤ n) : (svs n s).set i (.int .i64 (v : Int)) = svs n (fun j => if j = i then v else s j) := by
  refine List.ext_getElem? fun j => ?_
  rw [List.getElem?_set]
  by_cases hj : j ≤ n
  · rw [svs_at hj, svs_at hj, svs_length]
    by_cases c : i = j
    · subst c
      simp
      omega
    · have : ¬ j = i := fun h => c h.symm
      simp [c, this]
  · have h1 : (svs n s)[j]? = none := List.getElem?_eq_none (by rw [svs_length]; omega)
    have h2 : (svs n fun k => if k = i then v else s k)[j]? = none := List.getElem?_eq_none (by rw [svs_length]; omega)
    rw [h1, h2, if_neg (by omega)]
/-- the document's Out at block gr, its states at gs -/
structure RefW (w : World) (C gr gs : Nat) (A : Option Addr) (n c : Nat) (D : List UInt8) (s : Nat → Nat) : Prop where
  r : Rw w gr 55 [.slice A n c, .slice (some ⟨gs, 0, none⟩) (n + 1) (n + 1)]
  d : Sl w gr A n D
  dA : ∀ a, A = some a → C ≤ a.block ∧ a.block ≠ gs
  s : Rw w gs 3 (svs n s)
  b1 : C ≤ gs
  b2 : gs < gr
  nc : n ≤ c ∧ c ≤ maxLen
section
variable {w w' : World} {C gr gs n c : Nat} {A : Option Addr} {D : List UInt8} {s s' : Nat → Nat}
theorem RefW.keep (h : RefW w C gr gs A n c D s) (hk : ∀ i, C ≤ i → i ≤ gr → w'.heap[i]? = w.heap[i]?) : RefW w' C gr gs A n c D s := by
  have h1 := h.b1
  have h2 := h.b2
  exact ⟨(hk gr (by omega) (by omega)).trans h.r, h.d.keepR (fun a ha => (h.dA a ha).1) fun i a b => hk i a (by omega), h.dA, (hk gs (by omega) (by omega)).trans h.s, h.b1, h.b2, h.nc⟩
theorem RefW.below (h : RefW w C gr gs A n c D s) (hb : Below w.heap.size w w') : RefW w' C gr gs A n c D s := h.keep fun i _ hi => hb.block i (by have := h.r.lt; omega)
/-- behind what lies elsewhere moved -/
theorem RefW.mv {B C' : Nat} (h : RefW w C gr gs A n c D s) (m : Mv B C' w w') (hC : C' ≤ C) : RefW w' C gr gs A n c D s := h.keep fun i a b => m.block i (by have := h.r.lt; omega) (.inr (by omega))
theorem RefW.only {x : Nat} (h : RefW w C gr gs A n c D s) (m : Only x w w') (hx : gr < x) : RefW w' C gr gs A n c D s := h.keep fun i a b => m.block i (by have := h.r.lt; omega) (by omega)
theorem Sl.onlyA {x B : Nat} {l : List UInt8} (h : Sl w B A n l) (ho : Only x w w') (hA : ∀ a, A = some a → a.block ≠ x) (hB : B ≤ w.heap.size) : Sl w' B A n l :=
  ⟨h.1, fun hn => by
    obtain ⟨b, off, e, hb, hc⟩ := h.2 hn
    exact ⟨b, off, e, hb, fun j hj => (World.cell?_of_block (ho.block b (by omega) (hA _ e))).trans (hc j hj)⟩⟩
/-- its states turned -/
theorem RefW.setS (h : RefW w C gr gs A n c D s) (hs : Rw w' gs 3 (svs n s')) (ho : Only gs w w') : RefW w' C gr gs A n c D s' :=
  ⟨h.r.only ho (by have := h.b2; omega), h.d.onlyA ho (fun a ha => (h.dA a ha).2) (Nat.le_of_lt h.r.lt), h.dA, hs, h.b1, h.b2, h.nc⟩
theorem RefW.cells (h : RefW w C gr gs A n c D s) : w.cell? ⟨gr, 0, none⟩ = some (.slice A n c) ∧ w.cell? ⟨gr, 1, none⟩ = some (.slice (some ⟨gs, 0, none⟩) (n + 1) (n + 1)) := ⟨h.r.cell 0 _ rfl, h.r.cell 1 _ rfl⟩
theorem RefW.at_ (h : RefW w C gr gs A n c D s) {i : Nat} (hi : i ≤ n) : w.cell? ⟨gs, i, none⟩ = some (.int .i64 ((s i : Nat) : Int)) := h.s.cell i _ (svs_at hi)
theorem RefW.cong (h : RefW w C gr gs A n c D s) (hs : ∀ i, i ≤ n → s i = s' i) : RefW w C gr gs A n c D s' := ⟨h.r, h.d, h.dA, (svs_same hs) ▸ h.s, h.b1, h.b2, h.nc⟩
set_option maxHeartbeats 1000000 in
theorem rfirst_any (h : RefW w C gr gs A n c D s) (hn : n ≤ 1000000) (st : Nat) (hst : st ≤ 3) (k z : Int) (hk : (st : Int) = k) (hz : (match firstV s st n with | some f => (f : Int) | none => -1) = z) (h3 : ∀ i, i ≤ n → s i ≤ 3) :
    Calls Tryd.prog 30 #[.pointer (some ⟨gr, 0, none⟩), .int .i64 k] w fun e w' => e = .returned (.int .i64 z) ∧ w = w' := by
  subst hk
  obtain ⟨c0, c1⟩ := h.cells
  have HH := Lib.hid h
  have HZ := Lib.hid hz
  have H3 := Lib.hid h3
  have bst : (st : Int) ≤ 3 := by omega
  have bn : (n : Int) ≤ 1000000 := by omega
  clear h hz h3
  go_enter Tryd.func30, Tryd.ntmps30
  go_wp2_with fail
  go_loopw [5] (fun i wr => ∃ j : Nat, i = .int .i64 (j : Int) ∧ w = wr ∧ j ≤ n ∧ Hid (∀ t, t < j → s t ≠ st)) (fun i _ => n - (intOf i).toNat)
  case atStart => exact ⟨0, rfl, rfl, Nat.zero_le _, fun t ht => absurd ht (Nat.not_lt_zero _)⟩
  case round =>
    obtain ⟨j, rfl, rfl, hj, HB⟩ := hrel
    by_cases hjn : j < n
    · have hjl : ((j : Int) < (n : Int)) := by omega
      have hjl1 : ((j : Int) < (n : Int) + 1) := by omega
      have hc := HH.out.at_ (i := j) (by omega)
      obtain ⟨x, hx⟩ : ∃ x, s j = x := ⟨_, rfl⟩
      rw [hx] at hc
      have bx : (x : Int) ≤ 3 := by have := H3.out j (by omega); omega
      by_cases hxs : x = st
      · subst hxs
        have hF := HZ.out
        rw [first_some hx HB.out hjn] at hF
        simp only at hF
        have HF := Lib.hid hF
        clear hx hF
        go_wp2_with fail
        go_ret
        exact ⟨by rw [← HF.out]; rfl, rfl⟩
      · have hxe : ((x : Int) == (st : Int)) = false := by simp; omega
        have hxe2 : ¬ (x : Int) = (st : Int) := by omega
        have HX := Lib.hid hx
        clear hx
        go_wp2_with fail
        go_roundw
        case rel => exact ⟨j + 1, by go_num, by first | rfl | trivial, by omega, fun t ht => by
          by_cases e : t = j
          · subst e; rw [HX.out]; exact hxs
          · exact HB.out t (by omega)⟩
        case measure => simp [intOf]; omega
    · have hjl : ¬ ((j : Int) < (n : Int)) := by omega
      obtain rfl : j = n := by omega
      have hF := HZ.out
      rw [first_none HB.out] at hF
      simp only at hF
      have HF := Lib.hid hF
      clear hF
      go_wp2_with fail
      go_ret
      exact ⟨by rw [← HF.out]; rfl, rfl⟩
/-- what place i becomes -/
def turnV (n : Nat) (s : Nat → Nat) (off m : Int) (e lost : Bool) (i : Nat) : Nat := if lost = true then lostV n s off m e i else thereV n s off m e i
/-- turned below i -/
def partT (s' s : Nat → Nat) (i k : Nat) : Nat := if k < i then s' k else s k
theorem part_same {n i : Nat} {s' s : Nat → Nat} (h : s' i = s i) : ∀ k, k ≤ n → partT s' s i k = partT s' s (i + 1) k := fun k _ => by
  unfold partT
  by_cases c : k < i
  · rw [if_pos c, if_pos (by omega)]
  · rw [if_neg c]
    by_cases c2 : k = i
    · subst c2; rw [if_pos (by omega), h]
    · rw [if_neg (by omega)]
theorem part_put {n i : Nat} {s' s : Nat → Nat} : ∀ k, k ≤ n → (fun j => if j = i then s' i else partT s' s i j) k = partT s' s (i + 1) k := fun k _ => by
  unfold partT
  by_cases c2 : k = i
  · subst c2; simp
  · simp only [c2, if_false]
    by_cases c : k < i
    · rw [if_pos c, if_pos (by omega)]
    · rw [if_neg c, if_neg (by omega)]
theorem part_at {i : Nat} {s' s : Nat → Nat} : partT s' s i i = s i := by
  unfold partT
  rw [if_neg (by omega)]
theorem turn_lost {n j x : Nat} {s : Nat → Nat} {off m : Int} {e b : Bool} (hb : inV n off m e j = b) (hx : s j = x) : turnV n s off m e true j = if b = true ∧ x = 1 then 2 else x := by
  unfold turnV lostV
  rw [if_pos rfl, hb, hx]
theorem turn_there {n j x : Nat} {s : Nat → Nat} {off m : Int} {e b : Bool} (hb : inV n off m e j = b) (hx : s j = x) : turnV n s off m e false j = if b = true ∧ (x = 1 ∨ x = 2) then 3 else x := by
  unfold turnV thereV
  rw [if_neg (by simp), hb, hx]
theorem inV_below {n j : Nat} {off m : Int} {e : Bool} (h : j < n) : inV n off m e j = (decide (off ≤ (j : Int)) && decide (0 < m) && decide ((j : Int) - off < m)) := by
  unfold inV
  have : ¬ j = n := by omega
  simp [h, this]
theorem inV_end {n : Nat} {off m : Int} {e : Bool} : inV n off m e n = e := by
  unfold inV
  simp
set_option maxRecDepth 8000 in
set_option maxHeartbeats 4000000 in
theorem rturn_any (h : RefW w C gr gs A n c D s) (hn : n ≤ 1000000) (off m : Int) (e lost : Bool) (h1 : (Lit.int .i64 off).wf = true) (h2 : (Lit.int .i64 m).wf = true) (h3 : ∀ i, i ≤ n → s i ≤ 3) :
    Calls Tryd.prog 34 #[.pointer (some ⟨gr, 0, none⟩), .int .i64 off, .int .i64 m, .bool e, .bool lost] w
      fun e' w' => e' = .returned (.tuple #[]) ∧ RefW w' C gr gs A n c D (turnV n s off m e lost) ∧ Only gs w w' := by
  have o1 := bd_of_i64 h1
  have o2 := bd_of_i64 h2
  have o1l := o1.1
  have o1u := o1.2
  have o2u := o2.2
  have bn : (n : Int) ≤ 1000000 := by omega
  have HH := Lib.hid h
  have H3 := Lib.hid h3
  clear h h3 h1 h2 o1 o2
  go_enter Tryd.func34, Tryd.ntmps34
  go_wp2_with fail
  go_loopw [10] (fun i wr => ∃ j : Nat, i = .int .i64 (j : Int) ∧ j ≤ n + 1 ∧ Hid (RefW wr C gr gs A n c D (partT (turnV n s off m e lost) s j)) ∧ Hid (Only gs w wr)) (fun i _ => n + 1 - (intOf i).toNat)
  case atStart => exact ⟨0, rfl, by omega, HH.out.cong fun k _ => by unfold partT; simp, Only.refl _ _⟩
  case round =>
    clear HH
    obtain ⟨j, rfl, hj, R, O⟩ := hrel
    obtain ⟨c0, c1⟩ := R.out.cells
    by_cases hjn : j ≤ n
    · have hjl : ((j : Int) ≤ (n : Int)) := by omega
      have hjl1 : ((j : Int) < (n : Int) + 1) := by omega
      have hc := R.out.at_ hjn
      rw [part_at] at hc
      have hf := R.out.s.frozen j
      obtain ⟨b, hb⟩ : ∃ b, inV n off m e j = b := ⟨_, rfl⟩
      obtain ⟨x, hx⟩ : ∃ x, s j = x := ⟨_, rfl⟩
      rw [hx] at hc
      have bx : (x : Int) ≤ 3 := by have := H3.out j hjn; omega
      have HIN := Lib.hid hb
      have HX := Lib.hid hx
      clear hx
      go_upto_region 3 with fail
      go_cut [11] from 21 to 58 (fun v wx => v = .bool b ∧ wx = wr)
      case first =>
        by_cases hlt : j < n
        · have hl3 : ((j : Int) < (n : Int)) := by omega
          have hne : ((j : Int) == (n : Int)) = false := by simp; omega
          have hne2 : ¬ (j : Int) = (n : Int) := by omega
          rw [inV_below hlt] at hb
          by_cases d1 : off ≤ (j : Int)
          · by_cases d2 : 0 < m
            · obtain ⟨d, hd⟩ : ∃ d : Nat, (j : Int) - off = (d : Int) := ⟨((j : Int) - off).toNat, by omega⟩
              have dB : (d : Int) < 9223372036855775808 := by omega
              have wa : IntKind.u64.wrap ((j : Int) - IntKind.u64.wrap off) = (d : Int) := by
                rw [wrap_u64m, wrap_u64m]
                omega
              have wb : ((j : Int) - off % 18446744073709551616) % 18446744073709551616 = (d : Int) := by omega
              have wc : IntKind.u64.wrap ((j : Int) - off % 18446744073709551616) = (d : Int) := by
                rw [wrap_u64m]
                omega
              have wd : IntKind.u64.wrap m = m := by
                rw [wrap_u64m]
                omega
              by_cases d3 : (d : Int) < m
              · obtain rfl : true = b := by rw [← hb, hd]; simp [d1, d2, d3]
                clear hb hd
                go_wp2_with fail
                go_meet
                exact ⟨rfl, rfl⟩
              · obtain rfl : false = b := by rw [← hb, hd]; simp [d3]
                clear hb hd
                go_wp2_with fail
                go_meet
                exact ⟨rfl, rfl⟩
            · obtain rfl : false = b := by rw [← hb]; simp [d2]
              clear hb
              go_wp2_with fail
              go_meet
              exact ⟨rfl, rfl⟩
          · obtain rfl : false = b := by rw [← hb]; simp [d1]
            clear hb
            go_wp2_with fail
            go_meet
            exact ⟨rfl, rfl⟩
        · have hl3 : ¬ ((j : Int) < (n : Int)) := by omega
          obtain rfl : j = n := by omega
          rw [inV_end] at hb
          subst hb
          cases e
          · go_wp2_with fail
            go_meet
            exact ⟨rfl, rfl⟩
          · go_wp2_with fail
            go_meet
            exact ⟨rfl, rfl⟩
      case rest =>
        clear hb
        obtain ⟨rfl, hwx⟩ := hcut
        replace hwx := hwx.symm
        subst hwx
        cases lost
        · have HT := Lib.hid (turn_there (n := n) (s := s) (off := off) (m := m) (e := e) HIN.out HX.out)
          cases b
          · have HE : Hid (turnV n s off m e false j = x) := HT.out.trans (by simp)
            go_wp2_with fail
            go_roundw
            case rel => exact ⟨j + 1, by go_num, by omega, R.out.cong (part_same (by rw [HE.out, HX.out])), O.out⟩
            case measure => simp [intOf]; omega
          · by_cases x1 : x = 1
            · subst x1
              have HE : Hid (turnV n s off m e false j = 3) := HT.out.trans (by simp)
              go_wp2_with fail
              go_roundw
              case rel =>
                refine ⟨j + 1, by go_num, by omega, ?_, O.out.setCell j _⟩
                refine (R.out.setS ((svs_set 3 hjn) ▸ R.out.s.put j (.int .i64 ((3 : Nat) : Int))) ((Only.refl gs wr).setCell j _)).cong ?_
                have he : turnV n s off m e false j = 3 := HE.out
                rw [← he]
                exact part_put
              case measure => simp [intOf]; omega
            · by_cases x2 : x = 2
              · subst x2
                have HE : Hid (turnV n s off m e false j = 3) := HT.out.trans (by simp)
                go_wp2_with fail
                go_roundw
                case rel =>
                  refine ⟨j + 1, by go_num, by omega, ?_, O.out.setCell j _⟩
                  refine (R.out.setS ((svs_set 3 hjn) ▸ R.out.s.put j (.int .i64 ((3 : Nat) : Int))) ((Only.refl gs wr).setCell j _)).cong ?_
                  have he : turnV n s off m e false j = 3 := HE.out
                  rw [← he]
                  exact part_put
                case measure => simp [intOf]; omega
              · have HE : Hid (turnV n s off m e false j = x) := HT.out.trans (by rw [if_neg (fun h => h.2.elim x1 x2)])
                have y1 : ((x : Int) == 1) = false := by simp; omega
                have y2 : ((x : Int) == 2) = false := by simp; omega
                go_wp2_with fail
                go_roundw
                case rel => exact ⟨j + 1, by go_num, by omega, R.out.cong (part_same (by rw [HE.out, HX.out])), O.out⟩
                case measure => simp [intOf]; omega
        · have HT := Lib.hid (turn_lost (n := n) (s := s) (off := off) (m := m) (e := e) HIN.out HX.out)
          cases b
          · have HE : Hid (turnV n s off m e true j = x) := HT.out.trans (by simp)
            go_wp2_with fail
            go_roundw
            case rel => exact ⟨j + 1, by go_num, by omega, R.out.cong (part_same (by rw [HE.out, HX.out])), O.out⟩
            case measure => simp [intOf]; omega
          · by_cases x1 : x = 1
            · subst x1
              have HE : Hid (turnV n s off m e true j = 2) := HT.out.trans (by simp)
              go_wp2_with fail
              go_roundw
              case rel =>
                refine ⟨j + 1, by go_num, by omega, ?_, O.out.setCell j _⟩
                refine (R.out.setS ((svs_set 2 hjn) ▸ R.out.s.put j (.int .i64 ((2 : Nat) : Int))) ((Only.refl gs wr).setCell j _)).cong ?_
                have he : turnV n s off m e true j = 2 := HE.out
                rw [← he]
                exact part_put
              case measure => simp [intOf]; omega
            · have HE : Hid (turnV n s off m e true j = x) := HT.out.trans (by rw [if_neg (fun h => x1 h.2)])
              have y1 : ¬ (x : Int) = 1 := by omega
              go_wp2_with fail
              go_roundw
              case rel => exact ⟨j + 1, by go_num, by omega, R.out.cong (part_same (by rw [HE.out, HX.out])), O.out⟩
              case measure => simp [intOf]; omega
    · have hjl : ¬ ((j : Int) ≤ (n : Int)) := by omega
      go_wp2_with fail
      go_end0
      exact ⟨rfl, R.out.cong fun k hk => by unfold partT; rw [if_pos (by omega)], O.out⟩
end
end Go.Proofs.YtkodjajhlcbmkaaDoor
