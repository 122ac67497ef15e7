/-
  The document's In in memory: bytes and bools in rows of its own; what is asked of it.
-/
import Derived.Test.YtocolaccgoochaaDoorInG
import Derived.LoopTactic
namespace Go.Proofs.YtocolaccgoochaaDoor
open Go.RowKit Go.Lib
set_option linter.unusedVariables false

def zvs (l : List Bool) : List Value := l.map Value.bool
theorem zvs_length (l : List Bool) : (zvs l).length = l.length := by simp [zvs]
theorem zvs_append (a b : List Bool) : zvs (a ++ b) = zvs a ++ zvs b := by simp [zvs]
theorem zvs_one (l : List Bool) : ∀ v ∈ zvs l, v.oneCell' = true := by
  intro v hv
  obtain ⟨x, _, rfl⟩ := List.mem_map.1 hv
  rfl
theorem zvs_at (l : List Bool) (j : Nat) (h : j < l.length) : (zvs l)[j]? = some (.bool (l.getD j false)) := by
  simp [zvs, h]
/-- the call's own row of bools -/
def OwnZ (w : World) (B : Nat) (v : Value) (n : Nat) (l : List Bool) : Prop := w.ownsRow B 4 1 v n (zvs l)
theorem owns_still {w w' : World} {B n size : Nat} {e : TypeId} {v : Value} {xs : List Value} (h : w.ownsRow B e size v n xs) (hs : ∀ k, v.ownBlock = some k → w'.heap[k]? = w.heap[k]?) : w'.ownsRow B e size v n xs := by
  rcases h with ⟨h1, h | ⟨g, cap, cur, rfl, h2, h3, h4⟩⟩
  · exact ⟨h1, .inl h⟩
  · exact ⟨h1, .inr ⟨g, cap, cur, rfl, h2, (hs g rfl).trans h3, h4⟩⟩
section
variable {w w' : World} {B n : Nat} {v : Value} {l : List Bool}
theorem OwnZ.len (h : OwnZ w B v n l) : l.length = n := by have := h.1; rw [zvs_length] at this; omega
theorem OwnZ.nil (w : World) (B : Nat) : OwnZ w B (.slice none 0 0) 0 [] := World.ownsRow_nil w B _ _
theorem OwnZ.form (h : OwnZ w B v n l) : ∃ A c, v = .slice A n c ∧ n ≤ c ∧ c ≤ maxLen := by
  rcases h.2 with ⟨rfl, rfl⟩ | ⟨g, cap, cur, rfl, _, _, hn, hm, _⟩
  · exact ⟨none, 0, rfl, Nat.le_refl _, by simp [maxLen]⟩
  · exact ⟨_, cap, rfl, hn, hm⟩
theorem OwnZ.at_ {A : Option Addr} {c : Nat} (h : OwnZ w B (.slice A n c) n l) (hn : 0 < n) : ∃ g, A = some ⟨g, 0, none⟩ ∧ g < w.heap.size := by
  rcases h.2 with ⟨_, rfl⟩ | ⟨g, cap, cur, hv, hB, hg, _⟩
  · omega
  · injection hv with hA
    exact ⟨g, hA, (Array.getElem?_eq_some_iff.1 hg).1⟩
theorem OwnZ.cell {c g : Nat} (h : OwnZ w B (.slice (some ⟨g, 0, none⟩) n c) n l) (j : Nat) (hj : j < n) : w.cell? ⟨g, j, none⟩ = some (.bool (l.getD j false)) := by
  rw [World.ownsRow.cellAt h j (by omega)]
  exact zvs_at l j (by rw [h.len]; exact hj)
end
def enI (s : InS) : Int := match s.en with | some E => (E : Int) | none => -1
/-- the document's In at block g -/
structure RefC (w : World) (g : Nat) (most : Int) (vb vi : Value) (n : Nat) (bs : List UInt8) (zs : List Bool) (en rd : Int) : Prop where
  r : Rw w g 51 [.int .i64 most, vb, vi, .int .i64 en, .int .i64 rd]
  b : Own w 0 vb n bs
  z : OwnZ w 0 vi n zs
  gb : vb.ownBlock ≠ some g
  gz : vi.ownBlock ≠ some g
  bz : vb.ownBlock = none ∨ vb.ownBlock ≠ vi.ownBlock
theorem RefC.still {w w' : World} {g n : Nat} {most en rd : Int} {vb vi : Value} {bs : List UInt8} {zs : List Bool} (h : RefC w g most vb vi n bs zs en rd)
    (hF : ∀ k, k = g ∨ vb.ownBlock = some k ∨ vi.ownBlock = some k → w'.heap[k]? = w.heap[k]?) : RefC w' g most vb vi n bs zs en rd :=
  ⟨(hF g (.inl rfl)).trans h.r, owns_still h.b fun k hk => hF k (.inr (.inl hk)), owns_still h.z fun k hk => hF k (.inr (.inr hk)), h.gb, h.gz, h.bz⟩
/-- the document's In at block g, whose blocks are in F: s is what came -/
def RefW (w : World) (F : Nat → Prop) (g most : Nat) (s : InS) : Prop :=
  ∃ vb vi bs zs, RefC w g most vb vi s.hi bs zs (enI s) s.rd ∧ (∀ i, i < s.hi → s.p i = if zs.getD i false = true then some (bs.getD i 0) else none) ∧ s.Ok most ∧ most ≤ 1048576 ∧ F g ∧ ∀ k, vb.ownBlock = some k ∨ vi.ownBlock = some k → F k
section
variable {w w' : World} {F : Nat → Prop} {g most : Nat} {s : InS}
theorem RefW.lt (h : RefW w F g most s) : g < w.heap.size := by
  obtain ⟨vb, vi, bs, zs, h, _⟩ := h
  exact h.r.lt
theorem RefW.ok (h : RefW w F g most s) : s.Ok most := by
  obtain ⟨vb, vi, bs, zs, _, _, h, _⟩ := h
  exact h
theorem RefW.fg (h : RefW w F g most s) : F g := by
  obtain ⟨vb, vi, bs, zs, _, _, _, _, h, _⟩ := h
  exact h
theorem RefW.still (h : RefW w F g most s) (hF : ∀ k, F k → k < w.heap.size → w'.heap[k]? = w.heap[k]?) : RefW w' F g most s := by
  obtain ⟨vb, vi, bs, zs, h1, h2, h3, h4, h5, h6⟩ := h
  refine ⟨vb, vi, bs, zs, h1.still fun k hk => ?_, h2, h3, h4, h5, h6⟩
  rcases hk with rfl | hk | hk
  · exact hF _ h5 h1.r.lt
  · exact hF k (h6 k (.inl hk)) (World.ownsRow.lt h1.b k hk).2
  · exact hF k (h6 k (.inr hk)) (World.ownsRow.lt h1.z k hk).2
theorem RefW.below (h : RefW w F g most s) (hb : Below w.heap.size w w') : RefW w' F g most s := h.still fun k _ hk => hb.block k hk
theorem RefW.drewN (h : RefW w F g most s) (n : Nat) : RefW (w.drewN n) F g most s := h.still (fun _ _ _ => rfl)
/-- behind what moved elsewhere -/
theorem RefW.mvd {F' : Nat → Prop} (h : RefW w F g most s) (m : Mvd F' w w') (hF : ∀ k, F k → ¬ F' k) : RefW w' F g most s := h.still fun k hk hl => m.block k hl (hF k hk)
end
theorem enI_some {s : InS} {E : Nat} (h : s.en = some E) : enI s = (E : Int) := by unfold enI; rw [h]
theorem enI_none {s : InS} (h : s.en = none) : enI s = -1 := by unfold enI; rw [h]
theorem enI_bd {most : Nat} {s : InS} (h : s.Ok most) (hm : most ≤ 1048576) : -1 ≤ enI s ∧ enI s ≤ 1048576 := by
  cases he : s.en with
  | none => rw [enI_none he]; omega
  | some E =>
    have := (h.en E he).2
    rw [enI_some he]
    omega
theorem rnew_no (w : World) (m : Int) (h : m < 0 ∨ 1048576 < m) : Calls Tryd.prog 10 #[.int .i64 m] w fun e w' => e = .returned (.pointer none) ∧ w = w' := by
  rcases h with h | h
  · go_enter Tryd.func10, Tryd.ntmps10
    go_wp2
    go_ret
    exact ⟨rfl, rfl⟩
  · go_enter Tryd.func10, Tryd.ntmps10
    go_wp2
    all_goals go_ret
    all_goals exact ⟨rfl, rfl⟩
theorem rnew_any (w : World) (m : Nat) (h : m ≤ 1048576) : Calls Tryd.prog 10 #[.int .i64 (m : Int)] w fun e w' =>
    ∃ g, e = .returned (.pointer (some ⟨g, 0, none⟩)) ∧ RefW w' (fun k => w.heap.size ≤ k ∧ k < w'.heap.size) g m InS.new ∧ Below w.heap.size w w' := by
  have hm1 : ¬ ((m : Int) < 0) := by omega
  have hm2 : ¬ ((1048576 : Int) < (m : Int)) := by omega
  go_enter Tryd.func10, Tryd.ntmps10
  go_wp2
  go_ret
  refine ⟨_, rfl, ⟨.slice none 0 0, .slice none 0 0, [], [], ⟨heap_alloc_new _ _, Own.nil _ _, OwnZ.nil _ _, by simp [Value.ownBlock], by simp [Value.ownBlock], .inl rfl⟩, fun i hi => absurd hi (Nat.not_lt_zero _), InS.new_ok m, h, by simp, fun k hk => by simp [Value.ownBlock] at hk⟩, (Below.refl _ _).alloc (Nat.le_refl _) _⟩
section
variable {w : World} {F : Nat → Prop} {g most : Nat} {s : InS}
theorem rhighest_any (h : RefW w F g most s) : Calls Tryd.prog 20 #[.pointer (some ⟨g, 0, none⟩)] w (Quiet (.int .i64 (highestV s : Nat)) w) := by
  obtain ⟨vb, vi, bs, zs, h1, _, hok, hm, _⟩ := h
  obtain ⟨A, c, rfl, _, _⟩ := h1.b.form
  have c1 := h1.r.cell 1 _ rfl
  have c3 := h1.r.cell 3 _ rfl
  have hh := hok.most
  have e1 : Hid ((if ((s.hi : Nat) : Int) < enI s then enI s else ((s.hi : Nat) : Int)) = ((highestV s : Nat) : Int)) := by
    show _ = _
    cases he : s.en with
    | none => rw [enI_none he, high_no he, if_neg (by omega)]
    | some E =>
      have := hok.en E he
      rw [enI_some he, high_en hok he]
      split <;> omega
  obtain ⟨x, hx⟩ : ∃ x, s.hi = x := ⟨_, rfl⟩
  obtain ⟨y, hy⟩ : ∃ y, enI s = y := ⟨_, rfl⟩
  have hb := enI_bd hok hm
  rw [hx] at c1 e1 hh
  rw [hy] at c3 e1 hb
  obtain ⟨z, hz⟩ : ∃ z, ((highestV s : Nat) : Int) = z := ⟨_, rfl⟩
  rw [hz]
  rw [hz] at e1
  have b1 : (x : Int) ≤ 1048576 := by omega
  have b2 := hb.1
  have b3 := hb.2
  clear hx hy hz hok hm h1 hb hh
  by_cases hc : (x : Int) < y
  · obtain rfl : y = z := by rw [← e1.out, if_pos hc]
    go_enter Tryd.func20, Tryd.ntmps20
    go_wp2
    go_quiet (fail)
    go_wp2
    go_ret
    refine ⟨?_, _, rfl⟩
    simp
    try omega
  · obtain rfl : (x : Int) = z := by rw [← e1.out, if_neg hc]
    go_enter Tryd.func20, Tryd.ntmps20
    go_wp2
    go_quiet (fail)
    go_wp2
    go_ret
    refine ⟨?_, _, rfl⟩
    simp
    try omega
theorem rended_any (h : RefW w F g most s) : Calls Tryd.prog 23 #[.pointer (some ⟨g, 0, none⟩)] w (Quiet (.bool (endedV s)) w) := by
  obtain ⟨vb, vi, bs, zs, h1, _, hok, hm, _⟩ := h
  have c3 := h1.r.cell 3 _ rfl
  have c4 := h1.r.cell 4 _ rfl
  have e1 : Hid (endedV s = (decide (0 ≤ enI s) && decide ((s.rd : Int) = enI s))) := by
    show _ = _
    unfold endedV
    cases he : s.en with
    | none => rw [enI_none he]; simp
    | some E =>
      rw [enI_some he]
      simp
      omega
  obtain ⟨x, hx⟩ : ∃ x, s.rd = x := ⟨_, rfl⟩
  obtain ⟨y, hy⟩ : ∃ y, enI s = y := ⟨_, rfl⟩
  rw [hx] at c4 e1
  rw [hy] at c3 e1
  clear hx hy hok hm h1
  by_cases hc : 0 ≤ y
  · by_cases hd : (x : Int) = y
    · subst hd
      go_enter Tryd.func23, Tryd.ntmps23
      go_wp2
      go_quiet (fail)
      go_wp2
      go_ret
      exact ⟨by rw [e1.out]; simp, _, rfl⟩
    · have hd2 : ((x : Int) == y) = false := by simp [hd]
      go_enter Tryd.func23, Tryd.ntmps23
      go_wp2
      go_quiet (fail)
      go_wp2
      go_ret
      exact ⟨by rw [e1.out]; simp [hd], _, rfl⟩
  · have hc0 : decide (0 ≤ y) = false := by simpa using hc
    go_enter Tryd.func23, Tryd.ntmps23
    go_wp2
    go_quiet (fail)
    go_wp2
    go_ret
    exact ⟨by rw [e1.out, hc0]; rfl, _, rfl⟩
set_option maxHeartbeats 1000000 in
theorem rreadable_any (h : RefW w F g most s) : Calls Tryd.prog 18 #[.pointer (some ⟨g, 0, none⟩)] w (Quiet (.int .i64 (readableV s : Nat)) w) := by
  obtain ⟨vb, vi, bs, zs, h1, hp, hok, hm, _⟩ := h
  obtain ⟨t, ht, ht1, ht2, ht3, ht4⟩ := front_ex hok
  obtain ⟨A, c, rfl, hc1, hc2⟩ := h1.z.form
  have c2 := h1.r.cell 2 _ rfl
  have c4 := h1.r.cell 4 _ rfl
  have hh := hok.most
  have HP := Lib.hid hp
  have HZ := Lib.hid h1.z
  have HT3 := Lib.hid ht3
  have HT4 := Lib.hid ht4
  have hR : readableV s = t - s.rd := by unfold readableV; rw [ht]
  rw [hR]
  obtain ⟨n, hn⟩ : ∃ n, s.hi = n := ⟨_, rfl⟩
  obtain ⟨x, hx⟩ : ∃ x, s.rd = x := ⟨_, rfl⟩
  rw [hx] at ht1 c4
  rw [hx]
  rw [hn] at ht2 c2 hh HP HZ hc1
  have b1 : (t : Int) ≤ 1048576 := by omega
  have b2 : (n : Int) ≤ 1048576 := by omega
  have b3 : (x : Int) ≤ 1048576 := by omega
  clear hp h1 ht ht3 ht4 hR hok hx hn
  go_enter Tryd.func18, Tryd.ntmps18
  go_wp2_with fail
  go_loopw [3] (fun i wr => ∃ j k : Nat, i = .int .i64 (j : Int) ∧ wr = w.drewN k ∧ x + j ≤ t) (fun i _ => t - (intOf i).toNat)
  case atStart => exact ⟨0, 0, rfl, rfl, ht1⟩
  case round =>
    obtain ⟨j, k, rfl, rfl, hj⟩ := hrel
    obtain ⟨q, hq⟩ : ∃ q, x + j = q := ⟨_, rfl⟩
    have hqi : ((x : Int) + (j : Int)) = (q : Int) := by omega
    have bj : (j : Int) ≤ 1048576 := by omega
    have bq : (q : Int) ≤ 1048576 := by omega
    by_cases hqn : q < n
    · have hqn1 : ((q : Int) < (n : Int)) := by omega
      have hqn2 : ¬ ((n : Int) ≤ (q : Int)) := by omega
      obtain ⟨gi, rfl, _⟩ := HZ.out.at_ (by omega)
      have hcell := HZ.out.cell q hqn
      obtain ⟨b, hb⟩ : ∃ b, zs.getD q false = b := ⟨_, rfl⟩
      rw [hb] at hcell
      have hpq := HP.out q hqn
      rw [hb] at hpq
      cases b
      · have hqt : q = t := by
          have := HT3.out q
          rcases Nat.lt_or_ge q t with c | c
          · exact absurd (by simpa using hpq) (this c)
          · omega
        have HQT := Lib.hid hqt
        clear hpq hb hqt
        go_wp2_with fail
        go_quiet (fail)
        go_wp2_with fail
        go_ret
        have hqt := HQT.out
        refine ⟨?_, _, by first | rfl | exact World.drewN_drewN ..⟩
        have he : ((t - x : Nat) : Int) = (j : Int) := by omega
        rw [he]
        rfl
      · have hqt : q < t := by
          rcases Nat.lt_or_ge q t with c | c
          · exact c
          · obtain rfl : q = t := by omega
            have := HT4.out
            rw [hpq] at this
            cases this
        clear hpq hb
        go_wp2_with fail
        go_quiet (fail)
        go_wp2_with fail
        go_roundw
        case rel => exact ⟨j + 1, _, by go_num, by first | rfl | exact World.drewN_drewN .., by omega⟩
        case measure => simp [intOf]; omega
    · have hqn1 : ¬ ((q : Int) < (n : Int)) := by omega
      go_wp2_with fail
      go_quiet (fail)
      go_wp2_with fail
      go_ret
      refine ⟨?_, _, by first | rfl | exact World.drewN_drewN ..⟩
      have he : ((t - x : Nat) : Int) = (j : Int) := by omega
      rw [he]
      rfl
theorem rwhole_any (h : RefW w F g most s) : Calls Tryd.prog 22 #[.pointer (some ⟨g, 0, none⟩)] w (Quiet (.bool (wholeV s)) w) := by
  have HR : Hid (∀ n, Calls Tryd.prog 18 #[.pointer (some ⟨g, 0, none⟩)] (w.drewN n) (Quiet (.int .i64 (readableV s : Nat)) (w.drewN n))) := fun n => rreadable_any (h.drewN n)
  obtain ⟨vb, vi, bs, zs, h1, _, hok, hm, _⟩ := h
  have c3 := h1.r.cell 3 _ rfl
  have c4 := h1.r.cell 4 _ rfl
  have hf := front_le hok
  have hh := hok.most
  have e1 : Hid (wholeV s = (decide (0 ≤ enI s) && decide ((frontV s : Int) = enI s))) := by
    show _ = _
    unfold wholeV
    cases he : s.en with
    | none => rw [enI_none he]; simp
    | some E =>
      rw [enI_some he]
      simp
      omega
  have e2 : s.rd + readableV s = frontV s := by unfold readableV; omega
  obtain ⟨x, hx⟩ : ∃ x, s.rd = x := ⟨_, rfl⟩
  obtain ⟨y, hy⟩ : ∃ y, enI s = y := ⟨_, rfl⟩
  obtain ⟨r, hr⟩ : ∃ r, readableV s = r := ⟨_, rfl⟩
  obtain ⟨f, hf'⟩ : ∃ f, frontV s = f := ⟨_, rfl⟩
  rw [hx] at c4 e2
  rw [hy] at c3 e1
  rw [hr] at HR e2
  rw [hf'] at e1 e2 hf
  have e3 : ((x : Int) + (r : Int)) = (f : Int) := by omega
  have b1 : (x : Int) ≤ 1048576 := by omega
  have b2 : (r : Int) ≤ 1048576 := by omega
  clear hx hy hr hf' hf hok hm h1 hh e2
  by_cases hc : 0 ≤ y
  · by_cases hd : (f : Int) = y
    · subst hd
      go_enter Tryd.func22, Tryd.ntmps22
      go_wp2
      go_quiet ((go_at_call 18; exact Calls.quiet_of (HR.out _)))
      go_wp2
      go_ret
      exact ⟨by rw [e1.out]; simp, _, rfl⟩
    · have hd2 : ((f : Int) == y) = false := by simp [hd]
      go_enter Tryd.func22, Tryd.ntmps22
      go_wp2
      go_quiet ((go_at_call 18; exact Calls.quiet_of (HR.out _)))
      go_wp2
      go_ret
      exact ⟨by rw [e1.out]; simp [hd], _, rfl⟩
  · have hc0 : decide (0 ≤ y) = false := by simpa using hc
    go_enter Tryd.func22, Tryd.ntmps22
    go_wp2
    go_quiet ((go_at_call 18; exact Calls.quiet_of (HR.out _)))
    go_wp2
    go_ret
    exact ⟨by rw [e1.out, hc0]; rfl, _, rfl⟩
end
end Go.Proofs.YtocolaccgoochaaDoor
