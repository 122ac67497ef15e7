/-
  Package income: Put.
-/
import Derived.Test.YtocolaccgoochaaDoorInD
import Derived.Test.YtocolaccgoochaaDoorInE
namespace Go.Proofs.YtocolaccgoochaaDoor
open Go.RowKit Go.Lib Go.Maps
set_option linter.unusedVariables false

section
variable {w w' : World} {F F' : Nat → Prop} {g most N : Nat} {s : InS}
theorem InW.moreF (h : InW w F g most N s) (hF : ∀ k, k < w.heap.size → F k → F' k) : InW w F' g most N s := by
  obtain ⟨b, M, h1, h2, h3, h4, h5, h6, h7⟩ := h
  exact ⟨b, M, h1, h2.mono (Nat.le_refl _) hF, hF g (Rw.lt h1) h3, h4, h5, h6, h7⟩
end
theorem high_put {most o : Nat} {s : InS} {l : List UInt8} {e : Bool} (hok : s.Ok most) (hm : misV s (o + l.length) e = false) :
    highestV (putS s o l e) = if 0 < l.length ∨ e = true then max (highestV s) (o + l.length) else highestV s := by
  unfold misV at hm
  rw [Bool.or_eq_false_iff] at hm
  have hh : (putS s o l e).hi = if l.length = 0 then s.hi else max s.hi (o + l.length) := rfl
  have hen : (putS s o l e).en = if e = true then some (o + l.length) else s.en := rfl
  have hge : s.hi ≤ highestV s := by unfold highestV; omega
  cases e with
  | true =>
    have h2 : highestV s ≤ o + l.length := by
      have := hm.2
      simp at this
      exact this
    rw [if_pos (.inr rfl)]
    unfold highestV at *
    rw [hh, hen]
    simp only [if_true, Option.getD_some]
    split <;> omega
  | false =>
    unfold highestV at *
    rw [hh, hen]
    simp only [Bool.false_eq_true, if_false, or_false]
    by_cases h0 : l.length = 0
    · rw [if_pos h0, if_neg (by omega)]
    · rw [if_neg h0, if_pos (by omega)]
      omega
theorem some_put {o : Nat} {s : InS} {l : List UInt8} {e : Bool} : (putS s o l e).en.isSome = (s.en.isSome || e) := by
  have hen : (putS s o l e).en = if e = true then some (o + l.length) else s.en := rfl
  rw [hen]
  cases e <;> simp
theorem p_put {o : Nat} {s : InS} {l : List UInt8} {e : Bool} : ∀ i, (putS s o l e).p i = pxV s.p o l (o + l.length) i := fun i => rfl
theorem put_nil (w : World) (off : Int) (A : Option Addr) (n c : Nat) (e : Bool) : Calls Tryd.prog 11 #[.pointer none, .int .i64 off, .slice A n c, .bool e] w fun r w' => r = .returned (.int .i64 1) ∧ w = w' := by
  go_enter Tryd.func11, Tryd.ntmps11
  go_wp2
  go_ret
  exact ⟨rfl, rfl⟩
/-- what Put gives -/
def PutW (w : World) (F : Nat → Prop) (g most N n : Nat) (s : InS) (off : Int) (l : List UInt8) (e : Bool) (r : Ending) (w' : World) : Prop :=
  ∃ (c : Nat) (s' : InS), r = .returned (.int .i64 (c : Int)) ∧ PutR most s off l e c s' ∧ InW w' (fun k => F k ∨ (w.heap.size ≤ k ∧ k < w'.heap.size)) g most (N + n) s' ∧ Mvd F w w'
theorem putW_same {w : World} {F : Nat → Prop} {g most N n : Nat} {s : InS} {off : Int} {l : List UInt8} {e : Bool} (h : InW w F g most N s) {w' : World} (hb : Below w.heap.size w w') (c : Nat) (hR : PutR most s off l e c s) : PutW w F g most N n s off l e (.returned (.int .i64 (c : Int))) w' :=
  ⟨c, s, rfl, hR, ((h.below hb).mono (by omega)).moreF (fun _ _ h => .inl h), Mvd.of_below hb⟩
theorem put_arg {w : World} {F : Nat → Prop} {g most N n c : Nat} {s : InS} {off : Int} {A : Option Addr} {l : List UInt8} {e : Bool} (h : InW w F g most N s) (ho : off < 0) :
    Calls Tryd.prog 11 #[.pointer (some ⟨g, 0, none⟩), .int .i64 off, .slice A n c, .bool e] w (PutW w F g most N n s off l e) := by
  have HH := Lib.hid h
  clear h
  go_enter Tryd.func11, Tryd.ntmps11
  go_wp2
  go_ret
  exact putW_same HH.out (Below.refl _ _) 2 (.inl ⟨ho, rfl, rfl⟩)
theorem put_bound {w : World} {F : Nat → Prop} {g most N n c o : Nat} {s : InS} {A : Option Addr} {l : List UInt8} {e : Bool} (h : InW w F g most N s) (hl : l.length = n) (hn : n ≤ 1048576) (ho : most < o + n) :
    Calls Tryd.prog 11 #[.pointer (some ⟨g, 0, none⟩), .int .i64 (o : Int), .slice A n c, .bool e] w (PutW w F g most N n s (o : Int) l e) := by
  have HH := Lib.hid h
  obtain ⟨b, M, hh, _, _, _, _, hok, hm⟩ := h
  have c0 := Rw.cell hh 0 _ rfl
  have d1 : ¬ ((o : Int) < 0) := by omega
  have d2 : (most : Int) - (n : Int) < (o : Int) := by omega
  have hn' : (n : Int) ≤ 1048576 := by omega
  have hm' : (most : Int) ≤ 1048576 := by omega
  have HR : Hid (PutR most s (o : Int) l e 11 s) := .inr ⟨o, rfl, .inl ⟨by omega, rfl, rfl⟩⟩
  clear hh hok hm
  go_enter Tryd.func11, Tryd.ntmps11
  go_wp2
  go_ret
  exact putW_same HH.out (Below.refl _ _) 11 HR.out
set_option maxHeartbeats 4000000 in
theorem put_in {w : World} {F : Nat → Prop} {g most N n c o : Nat} {s : InS} {A : Option Addr} {l : List UInt8} {e : Bool} (h : InW w F g most N s) (hG : Glob w) (hF0 : ∀ k, F k → 0 < k) (hs : Sl w w.heap.size A n l) (hA : 0 < n → ∀ a, A = some a → ¬ F a.block) (hnc : n ≤ c) (hN : N + n ≤ 1073741824) (ho : o + n ≤ most) :
    Calls Tryd.prog 11 #[.pointer (some ⟨g, 0, none⟩), .int .i64 (o : Int), .slice A n c, .bool e] w (PutW w F g most N n s (o : Int) l e) := by
  have hl := hs.len
  have HH := Lib.hid h
  have hM1 := mis_any h (o + n) e
  obtain ⟨b, M, hh, hp, hFg, hMg, hgb, hok, hm⟩ := h
  have c0 := Rw.cell hh 0 _ rfl
  have hp1 : PagesW w (fun k => F k ∧ k ≠ g) b N M s.p := ⟨hp.own, ⟨hp.fb, fun e => hgb e.symm⟩, fun k x hx => by
    obtain ⟨h1, h2, h3⟩ := hp.pg k x hx
    exact ⟨⟨h1, hMg k x hx⟩, h2, h3⟩, hp.no, hp.inj⟩
  have hgl := Rw.lt hh
  have hA1 : 0 < n → ∀ a, A = some a → ¬ (F a.block ∧ a.block ≠ g) := fun h0 a ha hh => hA h0 a ha hh.1
  have hDf : ∀ u : World, Below w.heap.size w u → Calls Tryd.prog 29 #[.pointer (some ⟨g, 0, none⟩), .int .i64 (o : Int), .slice A n c] u fun e w' => e = .returned (.bool (clB s.p o l)) ∧ Below u.heap.size u w' := fun u hb =>
    idiff_any ((hb.cell (p := ⟨g, 1, none⟩) hgl).trans (Rw.cell hh 1 _ rfl)) (hp1.below hb) ((hs.below hb).more hb.size) hnc (by omega)
  have hKp : ∀ u : World, Below w.heap.size w u → Calls Tryd.prog 30 #[.pointer (some ⟨g, 0, none⟩), .int .i64 (o : Int), .slice A n c] u fun e w' => e = .returned (.tuple #[]) ∧ Mvd (fun k => F k ∧ k ≠ g) u w' ∧
      ∃ M', PagesW w' (fun k => (F k ∧ k ≠ g) ∨ (u.heap.size ≤ k ∧ k < w'.heap.size)) b (N + n) M' (pxV s.p o l (o + n)) := fun u hb =>
    ikeep_any ((hb.cell (p := ⟨g, 1, none⟩) hgl).trans (Rw.cell hh 1 _ rfl)) (fun h => h.2 rfl) (hp1.below hb) ((hs.below hb).more hb.size) hA1 hnc (by omega) hN
  obtain ⟨mv, hmv⟩ : ∃ mv, misV s (o + n) e = mv := ⟨_, rfl⟩
  obtain ⟨cv, hcv⟩ : ∃ cv, clB s.p o l = cv := ⟨_, rfl⟩
  rw [hmv] at hM1
  have hPR : Hid ((mv = true → PutR most s (o : Int) l e 12 s) ∧ (mv = false → cv = true → PutR most s (o : Int) l e 12 s) ∧ (mv = false → cv = false → ¬ clashV s o l e ∧ PutR most s (o : Int) l e 0 (putS s o l e))) := by
    have hcl := mis_is hok o l e
    rw [hl, hmv] at hcl
    have hc2 := @clB_iff s.p o l
    rw [hcv, hl] at hc2
    refine ⟨fun h1 => ?_, fun h1 h2 => ?_, fun h1 h2 => ?_⟩
    · exact .inr ⟨o, rfl, .inr (.inl ⟨by omega, hcl.2 (.inl h1), rfl, rfl⟩)⟩
    · exact .inr ⟨o, rfl, .inr (.inl ⟨by omega, hcl.2 (.inr (hc2.1 h2)), rfl, rfl⟩)⟩
    · have hno : ¬ clashV s o l e := fun hh => by
        rcases hcl.1 hh with h3 | h3
        · rw [h1] at h3
          cases h3
        · rw [hc2.2 h3] at h2
          cases h2
      exact ⟨hno, .inr ⟨o, rfl, .inr (.inr ⟨by omega, hno, rfl, rfl⟩)⟩⟩
  rw [hcv] at hDf
  have HM := Lib.hid hM1
  have HD := Lib.hid hDf
  have HK := Lib.hid hKp
  obtain ⟨q, hq⟩ : ∃ q, o + n = q := ⟨_, rfl⟩
  have eq : (o : Int) + (n : Int) = (q : Int) := by omega
  rw [hq] at HM
  have d1 : ¬ ((o : Int) < 0) := by omega
  have d2 : ¬ ((most : Int) - (n : Int) < (o : Int)) := by omega
  have hn' : (n : Int) ≤ 1048576 := by omega
  have hm' : (most : Int) ≤ 1048576 := by omega
  have ho' : (o : Int) ≤ 1048576 := by omega
  have HQ := Lib.hid hq
  have HMV := Lib.hid hmv
  have HHd := Lib.hid hh
  have HOK := Lib.hid hok
  have HS := Lib.hid hs
  have HF0 := Lib.hid hF0
  have HGl := Lib.hid hG
  have HFg := Lib.hid hFg
  have HMo := Lib.hid hm
  have HON := Lib.hid ho
  clear hM1 hDf hKp hh hp hp1 hMg hgb hok hm hs hA hA1 hcv hq hmv hF0 hG hFg ho
  cases mv with
  | true =>
    have P1 := Lib.hid (hPR.out.1 rfl)
    go_enter Tryd.func11, Tryd.ntmps11
    go_wp2_with fail
    (with_reducible refine (HM.out).mono ?_)
    rintro e1 w1 ⟨rfl, k1, rfl⟩
    go_wp2_with fail
    go_ret
    exact putW_same (n := n) (w' := w.drewN k1) HH.out ⟨rfl, rfl, rfl, Nat.le_refl _, fun _ _ => rfl⟩ 12 P1.out
  | false =>
    cases cv with
    | true =>
      have P1 := Lib.hid (hPR.out.2.1 rfl rfl)
      go_enter Tryd.func11, Tryd.ntmps11
      go_wp2_with fail
      (with_reducible refine (HM.out).mono ?_)
      rintro e1 w1 ⟨rfl, k1, rfl⟩
      have hb1 : Below w.heap.size w (w.drewN k1) := ⟨rfl, rfl, rfl, Nat.le_refl _, fun _ _ => rfl⟩
      have HB1 := Lib.hid hb1
      have HD1 := Lib.hid (HD.out _ hb1)
      clear hb1
      go_wp2_with fail
      (with_reducible refine (HD1.out).mono ?_)
      rintro e2 w2 ⟨rfl, hb2⟩
      have HB2 := Lib.hid (HB1.out.trans hb2)
      clear hb2
      go_wp2_with fail
      go_ret
      exact putW_same HH.out HB2.out 12 P1.out
    | false =>
      have P1 := Lib.hid (hPR.out.2.2 rfl rfl)
      have hok2 := putS_ok HOK.out (by rw [hl]; exact HON.out) P1.out.1
      have HOK2 := Lib.hid hok2
      have HHi := Lib.hid (high_put (l := l) (e := e) HOK.out (by rw [hl]; exact HMV.out))
      have HSo := @some_put o s l e
      obtain ⟨y, hy⟩ : ∃ y, highestV s = y := ⟨_, rfl⟩
      obtain ⟨z, hz⟩ : ∃ z, s.en.isSome = z := ⟨_, rfl⟩
      obtain ⟨f, hf⟩ : ∃ f, frontV s = f := ⟨_, rfl⟩
      have hfall : ∀ j, j < f → (putS s o l e).p j ≠ none := fun j hj => by
        obtain ⟨t, h1, h2, h3, h4, h5⟩ := front_ex HOK.out
        exact put_has (.inl (h4 j (by omega)))
      rw [hy, hz, hf] at HHd
      rw [hl, HQ.out, hy] at HHi
      rw [hz] at HSo
      have HSo := Lib.hid HSo
      have HFa := Lib.hid hfall
      have hyb : (y : Int) ≤ 1048576 := by
        have := high_le HOK.out
        omega
      clear hok2 hy hz hf hfall hPR
      obtain ⟨h2, hh2⟩ : ∃ h2, (if 0 < n ∨ e = true then max y q else y) = h2 := ⟨_, rfl⟩
      have HHi2 : Hid (highestV (putS s o l e) = h2) := HHi.out.trans hh2
      go_enter Tryd.func11, Tryd.ntmps11
      go_wp2_with fail
      (with_reducible refine (HM.out).mono ?_)
      rintro e1 w1 ⟨rfl, k1, rfl⟩
      have hb1 : Below w.heap.size w (w.drewN k1) := ⟨rfl, rfl, rfl, Nat.le_refl _, fun _ _ => rfl⟩
      have HB1 := Lib.hid hb1
      have HD1 := Lib.hid (HD.out _ hb1)
      clear hb1
      go_wp2_with fail
      (with_reducible refine (HD1.out).mono ?_)
      rintro e2 w2 ⟨rfl, hb2'⟩
      have hb2 := HB1.out.trans hb2'
      have HB2 := Lib.hid hb2
      have HK2 := Lib.hid (HK.out _ hb2)
      clear hb2 hb2'
      go_wp2_with fail
      (with_reducible refine (HK2.out).mono ?_)
      rintro e3 w3 ⟨rfl, hmv3, M3, hp3⟩
      have hgl3 : g < w3.heap.size := Nat.lt_of_lt_of_le hgl (Nat.le_trans HB2.out.size hmv3.size)
      have hh3 : HdW w3 g b most s.rd f y z := (hmv3.block g (Nat.lt_of_lt_of_le hgl HB2.out.size) (fun h => h.2 rfl)).trans ((HB2.out.block g hgl).trans HHd.out)
      have hG3 : Glob w3 := fun j hj => by
        have h0 := HGl.out j hj
        have h1 := World.block_lt_of_cell? w _ h0
        have h3 : w3.heap[0]? = w.heap[0]? := (hmv3.block 0 (Nat.lt_of_lt_of_le h1 HB2.out.size) (fun h => by have := HF0.out 0 h.1; omega)).trans (HB2.out.block 0 h1)
        unfold World.cell? at h0 ⊢
        rw [h3]
        exact h0
      have hpp : ∀ i, (putS s o l e).p i = pxV s.p o l (o + n) i := fun i => by rw [← hl]; rfl
      have hp4 := hp3.cong hpp
      have hGr : ∀ (u : World) (h2 : Nat) (cl : Bool), Only g w3 u → HdW u g b most s.rd f h2 cl → Calls Tryd.prog 31 #[.pointer (some ⟨g, 0, none⟩)] u fun r w' => r = .returned (.tuple #[]) ∧ ∃ t, HdW w' g b most s.rd t h2 cl ∧ Only g u w' ∧ f ≤ t ∧ (∀ j, j < t → (putS s o l e).p j ≠ none) ∧ (putS s o l e).p t = none := fun u h2 cl hO hH =>
        grow_any hH (hp4.still hO.size (fun i hi hil => hO.block i hil (fun e => by subst e; rcases hi with h | h; exact h.2 rfl; have := HB2.out.size; omega))) (fun h => by rcases h with h | h; exact h.2 rfl; have := HB2.out.size; omega)
          (fun j hj => by
            have h0 := hG3 j hj
            have h1 := World.block_lt_of_cell? w3 _ h0
            have h3 : u.heap[0]? = w3.heap[0]? := hO.block 0 h1 (by have := HF0.out g HFg.out; omega)
            unfold World.cell? at h0 ⊢
            rw [h3]
            exact h0) (HF0.out g HFg.out) HMo.out (fun i hi => by have := HOK2.out.top i hi; have := HOK2.out.most; omega) HFa.out
      have HGr := Lib.hid hGr
      have HP4 := Lib.hid hp4
      have HM3 := Lib.hid hmv3
      have HH3 := Lib.hid hh3
      have c4 := Rw.cell hh3 4 _ rfl
      have c5 := Rw.cell hh3 5 _ rfl
      have f4 := Rw.frozen hh3 4
      have f5 := Rw.frozen hh3 5
      clear hGr hp4 hp3 hmv3 hh3 hG3 hpp
      have hfin : ∀ (w5 : World) (t : Nat), HdW w5 g b most s.rd t h2 (z || e) → Only g w3 w5 → (∀ j, j < t → (putS s o l e).p j ≠ none) → (putS s o l e).p t = none → PutW w F g most N n s (o : Int) l e (.returned (.int .i64 0)) w5 := fun w5 t hh5 hO5 hall hpt => by
        refine ⟨0, putS s o l e, rfl, P1.out.2, ⟨b, M3, ?_, ?_, .inl HFg.out, fun k x hx => ?_, ?_, HOK2.out, HMo.out⟩, ?_⟩
        · rw [front_is HOK2.out hall hpt, HHi2.out, HSo.out]
          exact hh5
        · refine (HP4.out.still hO5.size (fun i hi hil => hO5.block i hil (fun e => by subst e; rcases hi with h | h; exact h.2 rfl; have := HB2.out.size; omega))).mono (Nat.le_refl _) (fun k hk h => ?_)
          rcases h with h | h
          · exact .inl h.1
          · have := HB2.out.size
            exact .inr ⟨by omega, hk⟩
        · obtain ⟨h1, _⟩ := HP4.out.pg k x hx
          rcases h1 with h1 | h1
          · exact h1.2
          · have := HB2.out.size
            omega
        · have := HP4.out.fb
          rcases this with h1 | h1
          · exact fun e => h1.2 e.symm
          · have := HB2.out.size
            omega
        · refine ((Mvd.of_below HB2.out).trans HM3.out (fun i hi h => h.1)).only hO5 (fun _ => HFg.out)
      have HFin := Lib.hid hfin
      clear hfin
      by_cases hn0 : 0 < n
      · have hn1 : (0 : Int) < (n : Int) := by omega
        have hmx : max (y : Int) (q : Int) = (h2 : Int) := by rw [if_pos (.inl hn0)] at hh2; omega
        clear hh2
        cases z with
        | false =>
          cases e with
          | false =>
            go_wp2_with fail
            (with_reducible refine (HGr.out _ h2 false ?ho ?hH).mono ?_)
            case ho => exact ((Only.refl g w3).setCell 4 _).setCell 5 _
            case hH => exact Rw.put (Rw.put HH3.out 4 _) 5 _
            rintro e5 w5 ⟨rfl, t, hh5, hO5, hft, hall, hpt⟩
            have HF5 := Lib.hid (HFin.out w5 t hh5 ((((Only.refl g w3).setCell 4 _).setCell 5 _).trans hO5) hall hpt)
            clear hh5 hO5 hft hall hpt
            go_wp2_with fail
            go_ret
            exact HF5.out
          | true =>
            go_wp2_with fail
            (with_reducible refine (HGr.out _ h2 true ?ho ?hH).mono ?_)
            case ho => exact ((Only.refl g w3).setCell 4 _).setCell 5 _
            case hH => exact Rw.put (Rw.put HH3.out 4 _) 5 _
            rintro e5 w5 ⟨rfl, t, hh5, hO5, hft, hall, hpt⟩
            have HF5 := Lib.hid (HFin.out w5 t hh5 ((((Only.refl g w3).setCell 4 _).setCell 5 _).trans hO5) hall hpt)
            clear hh5 hO5 hft hall hpt
            go_wp2_with fail
            go_ret
            exact HF5.out
        | true =>
          cases e with
          | false =>
            go_wp2_with fail
            (with_reducible refine (HGr.out _ h2 true ?ho ?hH).mono ?_)
            case ho => exact ((Only.refl g w3).setCell 4 _).setCell 5 _
            case hH => exact Rw.put (Rw.put HH3.out 4 _) 5 _
            rintro e5 w5 ⟨rfl, t, hh5, hO5, hft, hall, hpt⟩
            have HF5 := Lib.hid (HFin.out w5 t hh5 ((((Only.refl g w3).setCell 4 _).setCell 5 _).trans hO5) hall hpt)
            clear hh5 hO5 hft hall hpt
            go_wp2_with fail
            go_ret
            exact HF5.out
          | true =>
            go_wp2_with fail
            (with_reducible refine (HGr.out _ h2 true ?ho ?hH).mono ?_)
            case ho => exact ((Only.refl g w3).setCell 4 _).setCell 5 _
            case hH => exact Rw.put (Rw.put HH3.out 4 _) 5 _
            rintro e5 w5 ⟨rfl, t, hh5, hO5, hft, hall, hpt⟩
            have HF5 := Lib.hid (HFin.out w5 t hh5 ((((Only.refl g w3).setCell 4 _).setCell 5 _).trans hO5) hall hpt)
            clear hh5 hO5 hft hall hpt
            go_wp2_with fail
            go_ret
            exact HF5.out
      · have hn1 : ¬ ((0 : Int) < (n : Int)) := by omega
        cases e with
        | true =>
          have hmx : max (y : Int) (q : Int) = (h2 : Int) := by rw [if_pos (.inr rfl)] at hh2; omega
          clear hh2
          cases z with
          | false =>
            go_wp2_with fail
            (with_reducible refine (HGr.out _ h2 true ?ho ?hH).mono ?_)
            case ho => exact ((Only.refl g w3).setCell 4 _).setCell 5 _
            case hH => exact Rw.put (Rw.put HH3.out 4 _) 5 _
            rintro e5 w5 ⟨rfl, t, hh5, hO5, hft, hall, hpt⟩
            have HF5 := Lib.hid (HFin.out w5 t hh5 ((((Only.refl g w3).setCell 4 _).setCell 5 _).trans hO5) hall hpt)
            clear hh5 hO5 hft hall hpt
            go_wp2_with fail
            go_ret
            exact HF5.out
          | true =>
            go_wp2_with fail
            (with_reducible refine (HGr.out _ h2 true ?ho ?hH).mono ?_)
            case ho => exact ((Only.refl g w3).setCell 4 _).setCell 5 _
            case hH => exact Rw.put (Rw.put HH3.out 4 _) 5 _
            rintro e5 w5 ⟨rfl, t, hh5, hO5, hft, hall, hpt⟩
            have HF5 := Lib.hid (HFin.out w5 t hh5 ((((Only.refl g w3).setCell 4 _).setCell 5 _).trans hO5) hall hpt)
            clear hh5 hO5 hft hall hpt
            go_wp2_with fail
            go_ret
            exact HF5.out
        | false =>
          obtain rfl : y = h2 := by rw [if_neg (by simp; omega)] at hh2; exact hh2
          clear hh2
          cases z with
          | false =>
            go_wp2_with fail
            (with_reducible refine (HGr.out _ y false ?ho ?hH).mono ?_)
            case ho => exact (Only.refl g w3).setCell 5 _
            case hH => exact Rw.put HH3.out 5 _
            rintro e5 w5 ⟨rfl, t, hh5, hO5, hft, hall, hpt⟩
            have HF5 := Lib.hid (HFin.out w5 t hh5 (((Only.refl g w3).setCell 5 _).trans hO5) hall hpt)
            clear hh5 hO5 hft hall hpt
            go_wp2_with fail
            go_ret
            exact HF5.out
          | true =>
            go_wp2_with fail
            (with_reducible refine (HGr.out _ y true ?ho ?hH).mono ?_)
            case ho => exact (Only.refl g w3).setCell 5 _
            case hH => exact Rw.put HH3.out 5 _
            rintro e5 w5 ⟨rfl, t, hh5, hO5, hft, hall, hpt⟩
            have HF5 := Lib.hid (HFin.out w5 t hh5 (((Only.refl g w3).setCell 5 _).trans hO5) hall hpt)
            clear hh5 hO5 hft hall hpt
            go_wp2_with fail
            go_ret
            exact HF5.out
end Go.Proofs.YtocolaccgoochaaDoor
