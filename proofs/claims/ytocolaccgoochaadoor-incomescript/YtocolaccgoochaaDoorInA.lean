/-
  Package income: what an In holds; New, Readable, Highest, Whole, Ended, misplaced; also of nil.
-/
import Derived.Test.YtocolaccgoochaaDoorInP
import Derived.Test.YtocolaccgoochaaDoorPgA
import Derived.Maps.OwnSet
import Derived.Maps.AppendAt
namespace Go.Proofs.YtocolaccgoochaaDoor
open Go.RowKit Go.Lib Go.Maps
set_option linter.unusedVariables false

theorem lawK : Keyed Tryd.prog 3 := int_keyed Tryd.underlying3
theorem zeroPg (w : World) : (zeroValue 58).run Tryd.prog w = .ok (.pointer none) w := by kernel_rfl
theorem wf_of {a : Int} (h0 : -9223372036854775808 ≤ a) (h1 : a ≤ 9223372036854775807) : (Lit.int .i64 a).wf = true := by
  simp [Lit.wf, IntKind.min, IntKind.max, IntKind.signed, IntKind.bits]
  omega
theorem keyI {a : Int} (h : (Lit.int .i64 a).wf = true) : keyOf Tryd.prog 3 (.int .i64 a) = some (.int .i64 a) := keyOf_int_mk Tryd.underlying3 h
/-- an address in a map, as a datum -/
def ptrR : Value → Option (DataW Unit × List MemPlace)
  | .pointer none => some (.nil, [])
  | .pointer (some ⟨g, 0, none⟩) => some (.lit (.int .i64 (g : Int)), [])
  | _ => none
def ptrV : Option Nat → Value
  | none => .pointer none
  | some x => .pointer (some ⟨x, 0, none⟩)
def pgD : Option Nat → DataW Unit
  | none => .nil
  | some x => .lit (.int .i64 (x : Int))
theorem ptrR_of (x : Nat) : ptrR (.pointer (some ⟨x, 0, none⟩)) = some (pgD (some x), []) := rfl
theorem ptrR_inv {v : Value} {m : Option Nat} {ps : List MemPlace} (h : ptrR v = some (pgD m, ps)) : v = ptrV m := by
  unfold ptrR at h
  split at h
  · cases m with
    | none => rfl
    | some x => simp [pgD] at h
  · rename_i g
    cases m with
    | none => simp [pgD] at h
    | some x =>
      simp [pgD] at h
      have : g = x := by omega
      rw [this]
      rfl
  · cases h
/-- the pages, in the map at block b: M tells where each lies; p what came at each place -/
structure PagesW (w : World) (F : Nat → Prop) (b N : Nat) (M : Nat → Option Nat) (p : Nat → Option UInt8) : Prop where
  own : ∃ n D, n ≤ N ∧ w.ownsMap Tryd.prog 3 ptrR b n D ∧ ∀ k : Nat, D.atKey (.int .i64 (k : Int)) .nil = pgD (M k)
  fb : F b
  pg : ∀ k x, M k = some x → F x ∧ x ≠ b ∧ ∃ q d, Pg w x q d ∧ ∀ j, j < 64 → p (64 * k + j) = if bitQ q j = true then some (d.getD j 0) else none
  no : ∀ k, M k = none → ∀ j, j < 64 → p (64 * k + j) = none
  inj : ∀ k k' x, M k = some x → M k' = some x → k = k'
section
variable {w w' : World} {F F' : Nat → Prop} {b N : Nat} {M : Nat → Option Nat} {p : Nat → Option UInt8}
theorem PagesW.ltb (h : PagesW w F b N M p) : b < w.heap.size := by
  obtain ⟨n, D, _, hD, _⟩ := h.own
  exact hD.lt
theorem PagesW.ltp (h : PagesW w F b N M p) {k x : Nat} (hx : M k = some x) : x < w.heap.size := by
  obtain ⟨_, _, q, d, hp, _⟩ := h.pg k x hx
  exact hp.lt
theorem PagesW.mono (h : PagesW w F b N M p) {N' : Nat} (hN : N ≤ N') (hF : ∀ k, k < w.heap.size → F k → F' k) : PagesW w F' b N' M p := by
  obtain ⟨n, D, hn, hD, hat⟩ := h.own
  refine ⟨⟨n, D, by omega, hD, hat⟩, hF b h.ltb h.fb, fun k x hx => ?_, h.no, h.inj⟩
  obtain ⟨h1, h2, h3⟩ := h.pg k x hx
  exact ⟨hF x (h.ltp hx) h1, h2, h3⟩
theorem PagesW.cong {p' : Nat → Option UInt8} (h : PagesW w F b N M p) (hp : ∀ i, p' i = p i) : PagesW w F b N M p' := by
  have e : p' = p := funext hp
  rw [e]
  exact h
/-- a step that turns no page and not the map -/
theorem PagesW.kept (h : PagesW w F b N M p) {row : Option Nat} (hg : w.grownBy w' row) (h1 : some b ≠ row) (h2 : ∀ k x, M k = some x → some x ≠ row) : PagesW w' F b N M p := by
  obtain ⟨n, D, hn, hD, hat⟩ := h.own
  refine ⟨⟨n, D, hn, hD.kept hg h1, hat⟩, h.fb, fun k x hx => ?_, h.no, h.inj⟩
  obtain ⟨h3, h4, q, d, hp, h5⟩ := h.pg k x hx
  exact ⟨h3, h4, q, d, ⟨(hg.block x hp.lt (h2 k x hx)).trans hp.1, hp.2⟩, h5⟩
theorem grown_of_below {w w' : World} (hb : Below w.heap.size w w') : w.grownBy w' none := ⟨hb.os, hb.tape, hb.output, hb.size, fun k hk _ => hb.block k hk⟩
theorem PagesW.below (h : PagesW w F b N M p) (hb : Below w.heap.size w w') : PagesW w' F b N M p := h.kept (grown_of_below hb) (by simp) (fun _ _ _ => by simp)
/-- where the pages' blocks lie as they lay -/
theorem PagesW.still (h : PagesW w F b N M p) (hs : w.heap.size ≤ w'.heap.size) (hF : ∀ k, F k → k < w.heap.size → w'.heap[k]? = w.heap[k]?) : PagesW w' F b N M p := by
  obtain ⟨n, D, hn, hD, hat⟩ := h.own
  refine ⟨⟨n, D, hn, ?_, hat⟩, h.fb, fun k x hx => ?_, h.no, h.inj⟩
  · obtain ⟨es, ck, hh, hrest⟩ := hD
    exact ⟨es, ck, (hF b h.fb h.ltb).trans hh, hrest⟩
  · obtain ⟨h3, h4, q, d, hp, h5⟩ := h.pg k x hx
    exact ⟨h3, h4, q, d, ⟨(hF x h3 hp.lt).trans hp.1, hp.2⟩, h5⟩
theorem PagesW.look (h : PagesW w F b N M p) (k : Nat) (hk : k ≤ 1152921504606846976) : (Instr.lookup 46 (.map (some b)) (.int .i64 (k : Int)) false).run Tryd.prog w = .ok (ptrV (M k)) w := by
  obtain ⟨n, D, hn, hD, hat⟩ := h.own
  obtain ⟨v, ps, hrun, hv⟩ := hD.lookup lawK Tryd.underlying46 (zeroPg w) (zd := .nil) (zp := []) rfl (keyI (wf_of (a := (k : Int)) (by omega) (by omega)))
  rw [hat k] at hv
  rw [hrun, ptrR_inv hv]
theorem PagesW.isSome (h : PagesW w F b N M p) {i : Nat} (hi : p i ≠ none) : ∃ x, M (i / 64) = some x := by
  cases hm : M (i / 64) with
  | some x => exact ⟨x, rfl⟩
  | none =>
    have := h.no _ hm (i % 64) (Nat.mod_lt _ (by omega))
    rw [show 64 * (i / 64) + i % 64 = i by omega] at this
    exact absurd this hi
end
/-- what the In itself holds -/
def HdW (w : World) (g b most rd wh hi : Nat) (cl : Bool) : Prop :=
  Rw w g 48 [.int .i64 (most : Int), .map (some b), .int .i64 (rd : Int), .int .i64 (wh : Int), .int .i64 (hi : Int), .bool cl]
/-- the In at block g, whose blocks are in F: it may be most, and s is what came -/
def InW (w : World) (F : Nat → Prop) (g most N : Nat) (s : InS) : Prop :=
  ∃ b M, HdW w g b most s.rd (frontV s) (highestV s) s.en.isSome ∧ PagesW w F b N M s.p ∧ F g ∧ (∀ k x, M k = some x → x ≠ g) ∧ g ≠ b ∧ s.Ok most ∧ most ≤ 1048576
section
variable {w w' : World} {F : Nat → Prop} {g most N : Nat} {s : InS}
theorem InW.lt (h : InW w F g most N s) : g < w.heap.size := by
  obtain ⟨b, M, h1, _⟩ := h
  exact Rw.lt h1
theorem InW.ok (h : InW w F g most N s) : s.Ok most := by
  obtain ⟨b, M, _, _, _, _, _, h, _⟩ := h
  exact h
theorem InW.small (h : InW w F g most N s) : most ≤ 1048576 := by
  obtain ⟨b, M, _, _, _, _, _, _, h⟩ := h
  exact h
theorem InW.still (h : InW w F g most N s) (hs : w.heap.size ≤ w'.heap.size) (hF : ∀ k, F k → k < w.heap.size → w'.heap[k]? = w.heap[k]?) : InW w' F g most N s := by
  obtain ⟨b, M, h1, h2, h3, h4, h5, h6, h7⟩ := h
  exact ⟨b, M, (hF g h3 (Rw.lt h1)).trans h1, h2.still hs hF, h3, h4, h5, h6, h7⟩
theorem InW.below (h : InW w F g most N s) (hb : Below w.heap.size w w') : InW w' F g most N s := h.still hb.size fun k _ hk => hb.block k hk
theorem InW.mono (h : InW w F g most N s) {N' : Nat} (hN : N ≤ N') : InW w F g most N' s := by
  obtain ⟨b, M, h1, h2, h3, h4, h5, h6, h7⟩ := h
  exact ⟨b, M, h1, h2.mono hN (fun _ _ h => h), h3, h4, h5, h6, h7⟩
theorem InW.drewN (h : InW w F g most N s) (n : Nat) : InW (w.drewN n) F g most N s := h.still (Nat.le_refl _) (fun _ _ _ => rfl)
end
theorem new_no (w : World) (m : Int) (h : m < 0 ∨ 1048576 < m) : Calls Tryd.prog 9 #[.int .i64 m] w fun e w' => e = .returned (.pointer none) ∧ w = w' := by
  rcases h with h | h
  · go_enter Tryd.func9, Tryd.ntmps9
    go_wp2
    go_ret
    exact ⟨rfl, rfl⟩
  · go_enter Tryd.func9, Tryd.ntmps9
    go_wp2
    all_goals go_ret
    all_goals exact ⟨rfl, rfl⟩
theorem new_any (w : World) (m : Nat) (h : m ≤ 1048576) : Calls Tryd.prog 9 #[.int .i64 (m : Int)] w fun e w' =>
    ∃ g, e = .returned (.pointer (some ⟨g, 0, none⟩)) ∧ w.heap.size ≤ g ∧ InW w' (fun k => w.heap.size ≤ k ∧ k < w'.heap.size) g m 0 InS.new ∧ Below w.heap.size w w' := by
  have hmm := @run_makeMap Tryd.prog
  have hm1 : ¬ ((m : Int) < 0) := by omega
  have hm2 : ¬ ((1048576 : Int) < (m : Int)) := by omega
  have hf : frontV InS.new = 0 := front_is (InS.new_ok m) (fun j hj => absurd hj (by omega)) rfl
  have HF := Lib.hid hf
  clear hf
  go_enter Tryd.func9, Tryd.ntmps9
  go_wp2
  go_ret
  refine ⟨_, rfl, by omega, ⟨w.heap.size, fun _ => none, ?_, ⟨⟨0, .map [], Nat.le_refl _, (World.ownsMap_made _ _ _ _).alloc _, fun k => rfl⟩, by simp; omega, fun k x h => (by cases h), fun k _ j _ => rfl, fun k k' x h => (by cases h)⟩, by simp, fun k x h => (by cases h), by omega, InS.new_ok m, h⟩, ((Below.refl _ _).alloc (Nat.le_refl _) _).alloc (by simp) _⟩
  show HdW _ _ _ m 0 (frontV InS.new) 0 false
  rw [HF.out]
  have := heap_alloc_new (w.alloc (.map #[] 0)) (.cells #[.int .i64 (m : Int), .map (some w.heap.size), .int .i64 0, .int .i64 0, .int .i64 0, .bool false] 48)
  rw [World.size_alloc] at this
  exact this
/-! what is asked of it -/
theorem high_en {most E : Nat} {s : InS} (h : s.Ok most) (he : s.en = some E) : highestV s = E := by
  unfold highestV
  rw [he]
  have := (h.en E he).1
  simp
  omega
theorem high_no {s : InS} (he : s.en = none) : highestV s = s.hi := by
  unfold highestV
  rw [he]
  simp
theorem high_le {most : Nat} {s : InS} (h : s.Ok most) : highestV s ≤ most := by
  have h1 := h.most
  cases he : s.en with
  | none => rw [high_no he]; exact h1
  | some E => rw [high_en h he]; exact (h.en E he).2
theorem front_le {most : Nat} {s : InS} (h : s.Ok most) : s.rd ≤ frontV s ∧ frontV s ≤ s.hi := by
  obtain ⟨t, e, h1, h2, _⟩ := front_ex h
  omega
theorem whole_is {most : Nat} {s : InS} (h : s.Ok most) : wholeV s = (s.en.isSome && decide (frontV s = highestV s)) := by
  unfold wholeV
  cases he : s.en with
  | none => simp
  | some E =>
    rw [high_en h he]
    simp
    omega
theorem ended_is {most : Nat} {s : InS} (h : s.Ok most) : endedV s = (wholeV s && decide (s.rd = highestV s)) := by
  have hf := front_le h
  unfold endedV
  rw [whole_is h]
  cases he : s.en with
  | none => simp
  | some E =>
    have h1 := (h.en E he).1
    rw [high_en h he]
    by_cases c : s.rd = E
    · have : frontV s = E := by omega
      simp [c, this]
    · have : ¬ E = s.rd := fun e => c e.symm
      simp [c, this]
/-- it does not stand well with the end, or would be ahead of what came -/
def misV (s : InS) (t : Nat) (e : Bool) : Bool := (s.en.isSome && decide (highestV s < t)) || (e && decide (t < highestV s))
theorem mis_is {most : Nat} {s : InS} (h : s.Ok most) (o : Nat) (d : List UInt8) (e : Bool) : clashV s o d e ↔ misV s (o + d.length) e = true ∨ ∃ k, k < d.length ∧ ∃ b, s.p (o + k) = some b ∧ b ≠ d.getD k 0 := by
  unfold clashV misV
  cases he : s.en with
  | none =>
    rw [high_no he]
    constructor
    · rintro (⟨E, hE, _⟩ | ⟨h1, h2⟩ | h1)
      · cases hE
      · exact .inl (by simp [h1, h2])
      · exact .inr h1
    · rintro (h1 | h1)
      · simp at h1
        exact .inr (.inl h1)
      · exact .inr (.inr h1)
  | some E =>
    have hle := (h.en E he).1
    rw [high_en h he]
    constructor
    · rintro (⟨E', hE, h1⟩ | ⟨h1, h2⟩ | h1)
      · injection hE with hE
        subst hE
        rcases h1 with h1 | ⟨h1, h2⟩
        · exact .inl (by simp [h1])
        · rcases Nat.lt_or_ge E (o + d.length) with c | c
          · exact .inl (by simp [c])
          · exact .inl (by simp [h1]; omega)
      · exact .inl (by simp [h1]; omega)
      · exact .inr h1
    · rintro (h1 | h1)
      · simp at h1
        rcases h1 with h1 | ⟨h1, h2⟩
        · exact .inl ⟨E, rfl, .inl h1⟩
        · exact .inl ⟨E, rfl, .inr ⟨h1, by omega⟩⟩
      · exact .inr (.inr h1)
theorem readable_nil (w : World) : Calls Tryd.prog 17 #[.pointer none] w fun e w' => e = .returned (.int .i64 0) ∧ w = w' := by
  go_enter Tryd.func17, Tryd.ntmps17
  go_wp2
  go_ret
  exact ⟨rfl, rfl⟩
theorem readable_any {w : World} {F : Nat → Prop} {g most N : Nat} {s : InS} (h : InW w F g most N s) : Calls Tryd.prog 17 #[.pointer (some ⟨g, 0, none⟩)] w (Quiet (.int .i64 (readableV s : Nat)) w) := by
  obtain ⟨b, M, hh, _, _, _, _, hok, hm⟩ := h
  have c2 := Rw.cell hh 2 _ rfl
  have c3 := Rw.cell hh 3 _ rfl
  have hf := front_le hok
  have h1 := hok.most
  have e1 : Hid (((frontV s : Nat) : Int) - ((s.rd : Nat) : Int) = ((readableV s : Nat) : Int)) := by
    show _ = _
    unfold readableV
    omega
  obtain ⟨x, hx⟩ : ∃ x, frontV s = x := ⟨_, rfl⟩
  obtain ⟨y, hy⟩ : ∃ y, s.rd = y := ⟨_, rfl⟩
  rw [hx] at c3 e1
  rw [hy] at c2 e1
  have b1 : (x : Int) ≤ 1048576 := by omega
  have b2 : (y : Int) ≤ 1048576 := by omega
  clear hf h1 hx hy hh hok hm
  go_enter Tryd.func17, Tryd.ntmps17
  go_wp2
  go_quiet (fail)
  go_wp2
  go_ret
  exact ⟨by rw [← e1.out]; rfl, _, rfl⟩
theorem highest_any {w : World} {F : Nat → Prop} {g most N : Nat} {s : InS} (h : InW w F g most N s) : Calls Tryd.prog 19 #[.pointer (some ⟨g, 0, none⟩)] w (Quiet (.int .i64 (highestV s : Nat)) w) := by
  obtain ⟨b, M, hh, _⟩ := h
  have c2 := Rw.cell hh 4 _ rfl
  clear hh
  go_enter Tryd.func19, Tryd.ntmps19
  go_wp2
  go_ret
  exact ⟨rfl, 0, rfl⟩
theorem whole_nil (w : World) : Calls Tryd.prog 21 #[.pointer none] w (Quiet (.bool false) w) := by
  go_enter Tryd.func21, Tryd.ntmps21
  go_wp2
  go_quiet (fail)
  go_wp2
  go_ret
  exact ⟨rfl, _, rfl⟩
theorem ended_nil (w : World) : Calls Tryd.prog 13 #[.pointer none] w (Quiet (.bool false) w) := by
  have HW := Lib.hid (fun u => whole_nil u)
  go_enter Tryd.func13, Tryd.ntmps13
  go_wp2
  go_quiet ((go_at_call 21; exact Calls.quiet_of (HW.out _)))
  go_wp2
  go_ret
  exact ⟨rfl, _, rfl⟩
theorem whole_any {w : World} {F : Nat → Prop} {g most N : Nat} {s : InS} (h : InW w F g most N s) : Calls Tryd.prog 21 #[.pointer (some ⟨g, 0, none⟩)] w (Quiet (.bool (wholeV s)) w) := by
  obtain ⟨b, M, hh, _, _, _, _, hok, hm⟩ := h
  have c3 := Rw.cell hh 3 _ rfl
  have c4 := Rw.cell hh 4 _ rfl
  have c5 := Rw.cell hh 5 _ rfl
  have e1 := Lib.hid (whole_is hok)
  obtain ⟨x, hx⟩ : ∃ x, frontV s = x := ⟨_, rfl⟩
  obtain ⟨y, hy⟩ : ∃ y, highestV s = y := ⟨_, rfl⟩
  obtain ⟨z, hz⟩ : ∃ z, s.en.isSome = z := ⟨_, rfl⟩
  rw [hx, hy, hz] at e1
  rw [hx] at c3
  rw [hy] at c4
  rw [hz] at c5
  clear hx hy hz hh hok hm
  cases z
  · go_enter Tryd.func21, Tryd.ntmps21
    go_wp2
    go_quiet (fail)
    go_wp2
    go_ret
    exact ⟨by rw [e1.out]; rfl, _, rfl⟩
  · obtain ⟨v, hv⟩ : ∃ v, decide (x = y) = v := ⟨_, rfl⟩
    have hv1 : ((x : Int) == (y : Int)) = v := by rw [← hv, Bool.eq_iff_iff]; simp; omega
    have hv2 : decide ((x : Int) = (y : Int)) = v := by rw [← hv, decide_eq_decide]; omega
    rw [hv] at e1
    clear hv
    go_enter Tryd.func21, Tryd.ntmps21
    go_wp2
    go_quiet (fail)
    go_wp2
    go_ret
    exact ⟨by rw [e1.out]; rfl, _, rfl⟩
theorem ended_any {w : World} {F : Nat → Prop} {g most N : Nat} {s : InS} (h : InW w F g most N s) : Calls Tryd.prog 13 #[.pointer (some ⟨g, 0, none⟩)] w (Quiet (.bool (endedV s)) w) := by
  have HW : Hid (∀ n, Calls Tryd.prog 21 #[.pointer (some ⟨g, 0, none⟩)] (w.drewN n) (Quiet (.bool (wholeV s)) (w.drewN n))) := fun n => whole_any (h.drewN n)
  obtain ⟨b, M, hh, _, _, _, _, hok, hm⟩ := h
  have c3 := Rw.cell hh 2 _ rfl
  have c4 := Rw.cell hh 4 _ rfl
  have e1 := Lib.hid (ended_is hok)
  obtain ⟨x, hx⟩ : ∃ x, s.rd = x := ⟨_, rfl⟩
  obtain ⟨y, hy⟩ : ∃ y, highestV s = y := ⟨_, rfl⟩
  obtain ⟨z, hz⟩ : ∃ z, wholeV s = z := ⟨_, rfl⟩
  rw [hx, hy, hz] at e1
  rw [hz] at HW
  rw [hx] at c3
  rw [hy] at c4
  clear hx hy hz hh hok hm
  obtain ⟨v, hv⟩ : ∃ v, decide (x = y) = v := ⟨_, rfl⟩
  have hv1 : ((x : Int) == (y : Int)) = v := by rw [← hv, Bool.eq_iff_iff]; simp; omega
  have hv2 : decide ((x : Int) = (y : Int)) = v := by rw [← hv, decide_eq_decide]; omega
  rw [hv] at e1
  clear hv
  cases z
  · go_enter Tryd.func13, Tryd.ntmps13
    go_wp2
    go_quiet ((go_at_call 21; exact Calls.quiet_of (HW.out _)))
    go_wp2
    go_ret
    exact ⟨by rw [e1.out]; rfl, _, rfl⟩
  · go_enter Tryd.func13, Tryd.ntmps13
    go_wp2
    go_quiet ((go_at_call 21; exact Calls.quiet_of (HW.out _)))
    go_wp2
    go_ret
    exact ⟨by rw [e1.out]; rfl, _, rfl⟩
theorem mis_any {w : World} {F : Nat → Prop} {g most N : Nat} {s : InS} (h : InW w F g most N s) (t : Nat) (e : Bool) : Calls Tryd.prog 28 #[.pointer (some ⟨g, 0, none⟩), .int .i64 (t : Int), .bool e] w (Quiet (.bool (misV s t e)) w) := by
  obtain ⟨b, M, hh, _, _, _, _, hok, hm⟩ := h
  have c4 := Rw.cell hh 4 _ rfl
  have c5 := Rw.cell hh 5 _ rfl
  have e1 : Hid (misV s t e = ((s.en.isSome && decide (highestV s < t)) || (e && decide (t < highestV s)))) := rfl
  obtain ⟨y, hy⟩ : ∃ y, highestV s = y := ⟨_, rfl⟩
  obtain ⟨z, hz⟩ : ∃ z, s.en.isSome = z := ⟨_, rfl⟩
  rw [hy, hz] at e1
  rw [hy] at c4
  rw [hz] at c5
  clear hy hz hh hok hm
  cases z <;> cases e
  all_goals
    go_enter Tryd.func28, Tryd.ntmps28
    go_wp2
  all_goals
    go_ret
    exact ⟨by rw [e1.out]; simp [*] <;> omega, 0, rfl⟩
end Go.Proofs.YtocolaccgoochaaDoor
