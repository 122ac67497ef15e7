/-
  The frames that bytes are made of: frame.All.
-/
import Derived.Test.YtcipmfhacloegaaFrM
namespace Go.Proofs.Ytcipmfhacloegaa
open Go.RowKit
set_option linter.unusedVariables false

/-- what is left is an end of what there was -/
def SufX {α : Type} (x : Except Nat (α × List UInt8)) (l : List UInt8) : Prop := ∀ a r, x = .ok (a, r) → ∃ j, j ≤ l.length ∧ r = l.drop j
theorem sufX_then {α β : Type} {x : Except Nat (α × List UInt8)} {l : List UInt8} {f : α × List UInt8 → Except Nat (β × List UInt8)} (h : SufX x l) (hf : ∀ a r, x = .ok (a, r) → SufX (f (a, r)) r) : SufX (thenX x f) l := by
  intro b r hb
  cases x with
  | error e => cases hb
  | ok y =>
    obtain ⟨a, t⟩ := y
    obtain ⟨j, hj, rfl⟩ := h a t rfl
    obtain ⟨k, hk, rfl⟩ := hf a _ rfl b r hb
    rw [List.length_drop] at hk
    exact ⟨j + k, by omega, by rw [List.drop_drop]⟩
theorem sufX_ok {α : Type} (a : α) (l : List UInt8) : SufX (.ok (a, l)) l := by
  intro b r h
  injection h with h
  injection h with h1 h2
  exact ⟨0, by omega, by simp [h2]⟩
theorem sufX_err {α : Type} (e : Nat) (l : List UInt8) : SufX (.error e : Except Nat (α × List UInt8)) l := by
  intro b r h
  cases h
theorem sufX_num (l : List UInt8) (m : Nat) : SufX (numX l m) l := by
  intro a r h
  unfold numX at h
  split at h
  · cases h
  split at h
  · cases h
  · injection h with h
    injection h with h1 h2
    exact ⟨(getV l).2.1, (getV_fits l).1, h2.symm⟩
theorem sufX_bytes (l : List UInt8) (k : Nat) : SufX (bytesX l k) l := by
  intro a r h
  unfold bytesX at h
  split at h
  · cases h
  · injection h with h
    injection h with h1 h2
    exact ⟨k, by omega, h2.symm⟩
theorem sufX_more (k lo : Nat) (l : List UInt8) : SufX (moreX k lo l) l := by
  induction k generalizing lo l with
  | zero => exact sufX_ok _ _
  | succ k ih =>
    unfold moreX
    refine sufX_then (sufX_num _ _) fun g r _ => ?_
    simp only
    split
    · exact sufX_err _ _
    · refine sufX_then (sufX_num _ _) fun m r2 _ => ?_
      exact sufX_then (ih _ _) fun rs r3 _ => sufX_ok _ _
theorem sufX_ack (l : List UInt8) : SufX (ackX l) l := by
  unfold ackX
  refine sufX_then (sufX_num _ _) fun _ _ _ => sufX_then (sufX_num _ _) fun _ _ _ => sufX_then (sufX_num _ _) fun _ _ _ => sufX_then (sufX_num _ _) fun _ _ _ => sufX_then (sufX_more _ _ _) fun _ _ _ => sufX_ok _ _
theorem sufX_data (f : Fr) (l : List UInt8) : SufX (dataX f l) l := by
  unfold dataX
  refine sufX_then (sufX_num _ _) fun _ _ _ => sufX_then (sufX_num _ _) fun _ _ _ => ?_
  simp only
  split
  · exact sufX_err _ _
  · exact sufX_then (sufX_bytes _ _) fun _ _ _ => sufX_ok _ _
/-- a frame that is read has a byte at least, and what is left is what stands behind it -/
theorem getX_suf (l : List UInt8) (f : Fr) (r : List UInt8) (h : getX l = .ok (f, r)) : r.length < l.length ∧ r = l.drop (l.length - r.length) := by
  cases l with
  | nil => cases h
  | cons b t =>
    have key : ∃ j, j ≤ t.length ∧ r = t.drop j := by
      unfold getX at h
      simp only at h
      split at h
      · next h0 =>
        injection h with h
        injection h with h1 h2
        have e : zerosN (b :: t) = zerosN t + 1 := by
          have : b = 0 := UInt8.toNat_inj.1 h0
          subst this
          rfl
        rw [e, show min (zerosN t + 1) 16384 = min (zerosN t) 16383 + 1 by omega, List.drop_succ_cons] at h2
        have := zerosN_le t
        exact ⟨min (zerosN t) 16383, by omega, h2.symm⟩
      split at h
      · injection h with h
        injection h with h1 h2
        exact ⟨0, by omega, by simp [h2]⟩
      split at h
      · exact sufX_ack t f r h
      split at h
      · exact sufX_data _ t f r h
      split at h
      · exact (sufX_then (sufX_num t maxV) fun _ _ _ => sufX_data _ _) f r h
      split at h
      · refine sufX_then (sufX_num t maxV) (fun a r' _ => ?_) f r h
        exact sufX_ok _ _
      split at h
      · refine sufX_then (sufX_num t maxV) (fun a r' _ => ?_) f r h
        refine sufX_then (sufX_num _ _) (fun a r' _ => ?_)
        refine sufX_then (sufX_num _ _) (fun a r' _ => ?_)
        exact sufX_ok _ _
      split at h
      · refine (sufX_then (sufX_num t maxV) fun _ _ _ => sufX_then (sufX_num _ _) fun _ _ _ => sufX_then (sufX_bytes _ _) fun o r' _ => ?_) f r h
        simp only
        split
        · exact sufX_err _ _
        · exact sufX_then (sufX_bytes _ _) fun _ _ _ => sufX_then (sufX_bytes _ _) fun _ _ _ => sufX_ok _ _
      split at h
      · refine sufX_then (sufX_bytes t 8) (fun a r' _ => ?_) f r h
        exact sufX_ok _ _
      · cases h
    obtain ⟨j, hj, rfl⟩ := key
    rw [List.length_drop]
    refine ⟨by simp only [List.length_cons]; omega, ?_⟩
    rw [show (b :: t).length - (t.length - j) = j + 1 by simp only [List.length_cons]; omega, List.drop_succ_cons]

/-- frames one behind the other, as cells -/
def fvs : List (Fr × Fp) → List Value
  | [] => []
  | x :: r => frV x.1 x.2 ++ fvs r
theorem fvs_length (l : List (Fr × Fp)) : (fvs l).length = l.length * 10 := by
  induction l with
  | nil => rfl
  | cons x r ih => simp only [fvs, List.length_append, frV_len, List.length_cons, ih]; omega
theorem fvs_append (a b : List (Fr × Fp)) : fvs (a ++ b) = fvs a ++ fvs b := by
  induction a with
  | nil => rfl
  | cons x r ih => simp only [List.cons_append, fvs, ih, List.append_assoc]
theorem fvs_one (l : List (Fr × Fp)) : ∀ v ∈ fvs l, v.oneCell' = true := by
  induction l with
  | nil => simp [fvs]
  | cons x r ih =>
    intro v hv
    simp only [fvs, List.mem_append] at hv
    exact hv.elim (frV_one _ _ v) (ih v)
theorem fvs_at (l : List (Fr × Fp)) (i j : Nat) (hi : i < l.length) (hj : j < 10) : (fvs l)[i * 10 + j]? = (frV l[i].1 l[i].2)[j]? := by
  induction l generalizing i with
  | nil => simp at hi
  | cons x r ih =>
    cases i with
    | zero =>
      simp only [fvs, Nat.zero_mul, Nat.zero_add, List.getElem_cons_zero]
      rw [List.getElem?_append_left (by rw [frV_len]; exact hj)]
    | succ i =>
      simp only [fvs, List.getElem_cons_succ]
      rw [List.getElem?_append_right (by rw [frV_len]; omega), frV_len, show (i + 1) * 10 + j - 10 = i * 10 + j by omega]
      exact ih i (by simpa using hi)
/-- the call's own slice of frames, their lists of the call's own too -/
structure OwnF (w : World) (B : Nat) (v : Value) (n : Nat) (l : List (Fr × Fp)) : Prop where
  row : w.ownsRow B 26 10 v n (fvs l)
  each : ∀ x ∈ l, FrO w B x.1 x.2
theorem OwnF.nil (w : World) (B : Nat) : OwnF w B (.slice none 0 0) 0 [] := ⟨World.ownsRow_nil w B _ _, fun x hx => by cases hx⟩
theorem OwnF.len {w : World} {B n : Nat} {v : Value} {l : List (Fr × Fp)} (h : OwnF w B v n l) : l.length = n := by have := h.row.1; rw [fvs_length] at this; omega
theorem OwnF.below {w w' : World} {B n : Nat} {v : Value} {l : List (Fr × Fp)} (h : OwnF w B v n l) (hb : Below w.heap.size w w') : OwnF w' B v n l :=
  ⟨World.ownsRow.kept (row := none) h.row ⟨hb.os, hb.tape, hb.output, hb.size, fun k hk _ => hb.block k hk⟩ (by cases v.ownBlock <;> simp), fun x hx => (h.each x hx).below hb⟩
theorem OwnF.alloc {w : World} {B n : Nat} {v : Value} {l : List (Fr × Fp)} (h : OwnF w B v n l) (o : Obj) : OwnF (w.alloc o) B v n l := h.below ((Below.refl _ _).alloc (Nat.le_refl _) _)
theorem OwnF.base {w : World} {B B' n : Nat} {v : Value} {l : List (Fr × Fp)} (h : OwnF w B v n l) (hB : B' ≤ B) : OwnF w B' v n l :=
  ⟨⟨h.row.1, h.row.2.imp id fun ⟨g, cap, cur, e, hb, r⟩ => ⟨g, cap, cur, e, Nat.le_trans hB hb, r⟩⟩, fun x hx => (h.each x hx).base hB⟩
theorem OwnF.form {w : World} {B n : Nat} {v : Value} {l : List (Fr × Fp)} (h : OwnF w B v n l) : ∃ A c, v = .slice A n c ∧ n ≤ c ∧ c ≤ maxLen := by
  rcases h.row.2 with ⟨rfl, rfl⟩ | ⟨g, cap, cur, rfl, _, _, hn, hm, _⟩
  · exact ⟨none, 0, rfl, Nat.le_refl _, by simp [maxLen]⟩
  · exact ⟨_, cap, rfl, hn, hm⟩
/-- where a frame of it lies -/
theorem OwnF.at_ {w : World} {B n c : Nat} {A : Option Addr} {l : List (Fr × Fp)} (h : OwnF w B (.slice A n c) n l) (hn : 0 < n) : ∃ g, A = some ⟨g, 0, none⟩ ∧ B ≤ g ∧ g < w.heap.size ∧ ∀ i, (hi : i < l.length) → w.rangeAt g (i * 10) (frV l[i].1 l[i].2) := by
  rcases h.row.2 with ⟨_, h0⟩ | ⟨g, cap, cur, hv, hB, hg, _⟩
  · omega
  · injection hv with hA
    subst hA
    refine ⟨g, rfl, hB, (Array.getElem?_eq_some_iff.1 hg).1, fun i hi j u hu => ?_⟩
    have hj : j < 10 := by
      have := (List.getElem?_eq_some_iff.1 hu).1
      rwa [frV_len] at this
    have hadd : ∀ j, (⟨g, 0, none⟩ : Addr).add j = ⟨g, j, none⟩ := fun j => by unfold Addr.add; split <;> simp_all
    have h1 := World.ownsRow.cells (w := w) h.row (g := g) rfl (i * 10 + j) u (by rw [fvs_at l i j hi hj]; exact hu)
    rw [hadd] at h1
    exact h1
theorem own_grown {w w' : World} {B B' n m k : Nat} {e sz : Nat} {v u : Value} {xs ys : List Value} {t t' : TypeId} (ht : t ≠ t') (h : w.ownsRow B t k u m ys) (hr : w.ownsRow B' t' sz v n xs) (hg : w.grownBy w' v.ownBlock) : w'.ownsRow B t k u m ys := by
  refine World.ownsRow.kept h hg ?_
  rcases h.2 with ⟨rfl, _⟩ | ⟨g, cap, cur, rfl, _, hg1, _⟩
  · exact .inl rfl
  · rcases hr.2 with ⟨rfl, _⟩ | ⟨g2, cap2, cur2, rfl, _, hg2, _⟩
    · exact .inr (by simp [Value.ownBlock])
    · refine .inr fun e => ?_
      have e : g = g2 := by simpa [Value.ownBlock] using e
      subst e
      rw [hg1] at hg2
      injection hg2 with hg2
      injection hg2 with _ h2
      exact ht h2
theorem FrO.grown {w w' : World} {B B' n sz : Nat} {f : Fr} {p : Fp} {v : Value} {xs : List Value} (h : FrO w B f p) (hr : w.ownsRow B' 26 sz v n xs) (hg : w.grownBy w' v.ownBlock) : FrO w' B f p :=
  ⟨own_grown (e := 0) (by decide) h.r hr hg, own_grown (e := 0) (by decide) h.d hr hg, own_grown (e := 0) (by decide) h.c hr hg, own_grown (e := 0) (by decide) h.t hr hg⟩
theorem frame_info : (Try.prog.info? 26).map (fun i => (i.zero, i.size, i.bytes)) = some (some (.agg fr0.toArray), 10, 144) := by kernel_rfl
/-- an append of one frame onto a slice of the call's own -/
theorem wpList_append_frame {w : World} {ops : Array Oper} {rest : List Oper} {o : Oper} {a : Act} {Q : Exit → Act → World → Prop} (hgd : o.guard = none) (s x : Operand)
    (ho : o.op = .call { callee := .builtin .append, args := #[s, x], argTypes := #[37, 37] })
    (base : Nat) (v : Value) (n : Nat) (l : List (Fr × Fp)) (hs : a.eval s = v) (hown : OwnF w base v n l)
    (b : Nat) (f : Fr) (p : Fp) (hx : a.eval x = .slice (some ⟨b, 0, none⟩) 1 1) (hr : w.rangeAt b 0 (frV f p)) (hf : FrO w base f p)
    (hlen : n + 1 ≤ 1000000) (hbase : base ≤ w.heap.size) (w0 : World) (hb : Below base w0 w)
    (h : ∀ A' c' w', Hid (OwnF w' base (.slice A' (n + 1) c') (n + 1) (l ++ [(f, p)])) → Hid (w.grownBy w' v.ownBlock) → Hid (Below base w0 w') → wpList Try.prog ops Q rest (a.put o.dst (.slice A' (n + 1) c')) w') :
    wpList Try.prog ops Q (o :: rest) a w := by
  refine wpList_plain hgd fun K hK => ?_
  obtain ⟨i, hi, hz0, hz1, hz2⟩ := info_parts frame_info
  have hcells : ∀ j u, (frV f p)[j]? = some u → w.cell? ((⟨b, 0, none⟩ : Addr).add j) = some u := by
    intro j u hu
    have hadd : (⟨b, 0, none⟩ : Addr).add j = ⟨b, 0 + j, none⟩ := by unfold Addr.add; split <;> simp_all
    rw [hadd]
    exact hr j u hu
  obtain ⟨v', w', hrun, h2, h3, _, h5⟩ := run_append_own_at (P := Try.prog) w base 37 o.type 26 i (.agg fr0.toArray) 10 144 Try.underlying37 hi hz0 hz1 hz2 rfl (by omega) v n (fvs l) hown.row ⟨b, 0, none⟩ 1 1 (frV f p)
    (by rw [frV_len]) hcells (frV_one f p) (by simp only [maxLen]; omega) (by omega) hbase
  have h2' : OwnF w' base v' (n + 1) (l ++ [(f, p)]) := ⟨by rw [fvs_append]; simpa [fvs] using h2, fun x hx => by
    rcases List.mem_append.1 hx with hx | hx
    · exact (hown.each x hx).grown hown.row h3
    · obtain rfl : x = (f, p) := by simpa using hx
      exact hf.grown hown.row h3⟩
  obtain ⟨A', c', rfl, hle, hcm⟩ := h2'.form
  unfold Oper.wp execOp
  simp only [ho, resolve, invoke, builtin, Sem.run_bind, Sem.run_pure, Result.andThen_ok, List.map_toArray, List.map_cons, List.map_nil, hs, hx, hrun]
  exact hK _ _ (h A' c' w' h2' h3 (hb.grown h3 hbase fun k hk => (World.ownsRow.lt hown.row k hk).1))
/-- what All answers -/
def AllsF (w : World) (r : Except Nat (List Fr)) (e : Ending) (w' : World) : Prop :=
  match r with
  | .error c => e = .returned (.tuple #[.slice none 0 0, .int .i64 (c : Int)]) ∧ Below w.heap.size w w'
  | .ok fs => ∃ A n c fps, e = .returned (.tuple #[.slice A n c, .int .i64 0]) ∧ OwnF w' w.heap.size (.slice A n c) n fps ∧ fps.map (·.1) = fs ∧ Below w.heap.size w w'
/-- no fault is 0 -/
def ErrX {α : Type} (x : Except Nat α) : Prop := ∀ e, x = .error e → e ≠ 0
theorem errX_then {α β : Type} {x : Except Nat α} {f : α → Except Nat β} (h : ErrX x) (hf : ∀ a, ErrX (f a)) : ErrX (thenX x f) := by
  intro e he
  cases x with
  | error d => exact h e (by cases he; rfl)
  | ok a => exact hf a e he
theorem errX_ok {α : Type} (a : α) : ErrX (.ok a : Except Nat α) := by
  intro e h
  cases h
theorem errX_err {α : Type} (d : Nat) (hd : d ≠ 0) : ErrX (.error d : Except Nat α) := by
  intro e h
  injection h with h
  omega
theorem errX_num (l : List UInt8) (m : Nat) : ErrX (numX l m) := by
  unfold numX
  split
  · next h => exact errX_err _ h
  split
  · exact errX_err _ (by omega)
  · exact errX_ok _
theorem errX_bytes (l : List UInt8) (k : Nat) : ErrX (bytesX l k) := by
  unfold bytesX
  split
  · exact errX_err _ (by omega)
  · exact errX_ok _
theorem errX_more (k lo : Nat) (l : List UInt8) : ErrX (moreX k lo l) := by
  induction k generalizing lo l with
  | zero => exact errX_ok _
  | succ k ih =>
    unfold moreX
    refine errX_then (errX_num _ _) fun g => ?_
    split
    · exact errX_err _ (by omega)
    · exact errX_then (errX_num _ _) fun m => errX_then (ih _ _) fun rs => errX_ok _
theorem errX_data (f : Fr) (l : List UInt8) : ErrX (dataX f l) := by
  unfold dataX
  refine errX_then (errX_num _ _) fun _ => errX_then (errX_num _ _) fun _ => ?_
  split
  · exact errX_err _ (by omega)
  · exact errX_then (errX_bytes _ _) fun _ => errX_ok _
theorem getX_err (l : List UInt8) (e : Nat) (h : getX l = .error e) : e ≠ 0 := by
  have key : ErrX (getX l) := by
    cases l with
    | nil => exact errX_err _ (by omega)
    | cons b t =>
      unfold getX
      simp only
      split
      · exact errX_ok _
      split
      · exact errX_ok _
      split
      · unfold ackX
        exact errX_then (errX_num _ _) fun _ => errX_then (errX_num _ _) fun _ => errX_then (errX_num _ _) fun _ => errX_then (errX_num _ _) fun _ => errX_then (errX_more _ _ _) fun _ => errX_ok _
      split
      · exact errX_data _ _
      split
      · exact errX_then (errX_num _ _) fun _ => errX_data _ _
      split
      · exact errX_then (errX_num _ _) fun _ => errX_ok _
      split
      · exact errX_then (errX_num _ _) fun _ => errX_then (errX_num _ _) fun _ => errX_then (errX_num _ _) fun _ => errX_ok _
      split
      · refine errX_then (errX_num _ _) fun _ => errX_then (errX_num _ _) fun _ => errX_then (errX_bytes _ _) fun _ => ?_
        split
        · exact errX_err _ (by omega)
        · exact errX_then (errX_bytes _ _) fun _ => errX_then (errX_bytes _ _) fun _ => errX_ok _
      split
      · exact errX_then (errX_bytes _ _) fun _ => errX_ok _
      · exact errX_err _ (by omega)
  exact key e h
theorem rowX_cons (fuel cnt : Nat) (b : UInt8) (r : List UInt8) : rowX (fuel + 1) cnt (b :: r) = if cnt = 64 then .error 4 else thenX (getX (b :: r)) fun f => thenX (rowX fuel (cnt + 1) f.2) fun t => .ok (f.1 :: t) := rfl
set_option maxHeartbeats 4000000 in
theorem fall_any (l : List UInt8) (A : Option Addr) (n c B : Nat) (w : World) (hs : Sl w B A n l) (hB : B ≤ w.heap.size) (hnc : n ≤ c) (hcm : c ≤ maxLen) :
    Calls Try.prog 24 #[.slice A n c] w (AllsF w (allX l)) := by
  have hl := hs.1
  by_cases h0 : l = []
  · subst h0
    obtain rfl : n = 0 := by simpa using hl.symm
    clear hs hl
    go_enter Try.func24, Try.ntmps24
    go_wp2
    go_ret2
    exact ⟨rfl, Below.refl _ _⟩
  · have hn0 : 0 < n := by
      have : l.length ≠ 0 := fun h => h0 (List.eq_nil_of_length_eq_zero h)
      omega
    have e : allX l = rowX l.length 0 l := by unfold allX; rw [if_neg h0]
    rw [e]
    obtain ⟨X, hX⟩ : ∃ X, rowX l.length 0 l = X := ⟨_, rfl⟩
    rw [hX]
    have HX := Lib.hid hX
    have HS := Lib.hid hs
    have t0 : ((n : Int) == 0) = false := by simp; omega
    have hn63 : n ≤ 9223372036854775807 := by unfold maxLen at hcm; omega
    have HC : Hid (n ≤ c ∧ c ≤ maxLen) := ⟨hnc, hcm⟩
    clear hX hs e h0 hl hnc hcm
    go_enter Try.func24, Try.ntmps24
    go_wp2_with fail
    clear t0
    go_loopw [0, 4, 5, 6, 7] (fun bs fv _ _ _ wr => ∃ (A1 : Option Addr) (m d : Nat) (l1 : List UInt8) (A2 : Option Addr) (k e : Nat) (fps : List (Fr × Fp)) (fuel : Nat), bs = .slice A1 m d ∧ fv = .slice A2 k e ∧ m ≤ n ∧ k ≤ 64 ∧ Hid (m ≤ d ∧ d ≤ maxLen) ∧ Hid (Sl wr B A1 m l1) ∧ Hid (OwnF wr w.heap.size (.slice A2 k e) k fps) ∧ Hid (Below w.heap.size w wr) ∧ Hid (m ≤ fuel ∧ X = thenX (rowX fuel k l1) fun t => .ok (fps.map (·.1) ++ t))) (fun bs _ _ _ _ _ => match bs with | .slice _ m _ => m | _ => 0)
    case atStart =>
      refine ⟨A, n, c, l, none, 0, 0, [], l.length, rfl, rfl, Nat.le_refl _, by omega, HC, HS, OwnF.nil _ _, Below.refl _ _, by rw [HS.out.1]; exact Nat.le_refl _, ?_⟩
      rw [← HX.out]
      cases rowX l.length 0 l <;> rfl
    case round =>
      obtain ⟨A1, m, d, l1, A2, k, e, fps, fuel, rfl, rfl, hm, hk, HD, S1, O1, B1, HF⟩ := hrel
      have hl1 := S1.out.1
      by_cases hm0 : m = 0
      · subst hm0
        obtain rfl : l1 = [] := List.eq_nil_of_length_eq_zero hl1
        have hXe : X = .ok (fps.map (·.1)) := by
          rw [HF.out.2]
          cases fuel <;> simp [rowX, thenX]
        have HXe := Lib.hid hXe
        clear hXe HX hl1
        go_wp2
        go_ret2
        rw [HXe.out]
        exact ⟨A2, k, e, fps, rfl, O1.out, rfl, B1.out⟩
      · obtain ⟨b, r, hbr⟩ : ∃ b r, l1 = b :: r := by
          cases l1 with
          | nil => simp at hl1; omega
          | cons b r => exact ⟨b, r, rfl⟩
        obtain ⟨fu, hfu⟩ : ∃ fu, fuel = fu + 1 := ⟨fuel - 1, by have := HF.out.1; omega⟩
        have hXr := HF.out.2
        rw [hbr, hfu, rowX_cons, ← hbr] at hXr
        have HBR := Lib.hid hbr
        have HFU := Lib.hid hfu
        have hmp : 0 < m := by omega
        have tm : decide ((0 : Int) < (m : Int)) = true := decide_eq_true (by omega)
        clear hbr hfu hl1
        by_cases h64 : k = 64
        · rw [if_pos h64] at hXr
          have HXe := Lib.hid hXr
          clear hXr
          subst h64
          go_wp2
          go_ret2
          rw [HXe.out]
          exact ⟨rfl, B1.out⟩
        · rw [if_neg h64] at hXr
          have t64 : ((k : Int) == 64) = false := by simp; omega
          have HG := Lib.hid (fget_any l1 A1 m d B wr S1.out (Nat.le_trans hB B1.out.size) HD.out.1 HD.out.2)
          cases hgx : getX l1 with
          | error cd =>
            rw [hgx, thenX_err, thenX_err] at hXr
            have hgr : getR l1 = ((Fr.of 0, 0), cd) := by unfold getR; rw [hgx]
            have hcd : cd ≠ 0 := getX_err l1 cd hgx
            rw [hgr] at HG
            have tc : ((cd : Int) != 0) = true := by simp; omega
            have HXe := Lib.hid hXr
            clear hXr hgx hgr hcd
            go_wp2_with fail
            (with_reducible refine HG.out.mono ?_)
            rintro e1 w1 ⟨p, rfl, hfo, b1⟩
            simp only
            have HB1 := Lib.hid b1
            have HSZ := Lib.hid (frV_size (Fr.of 0) p)
            have HONE := Lib.hid (frV_one (Fr.of 0) p)
            have HL0 : Hid (fr0.length = (frV (Fr.of 0) p).length) := rfl
            generalize frV (Fr.of 0) p = vs at HSZ HONE HL0 ⊢
            clear hfo b1
            go_wp2_with ((with_reducible refine wpList_store_rw rfl 26 (.tmp 5) (.tmp 20) rfl w1.heap.size vs ?hx ?hy 26 fr0 ?hB HSZ.out HL0.out HONE.out ?_); (case hx => with_unfolding_all rfl); (case hy => with_unfolding_all rfl); (case hB => exact heap_alloc_new w1 _); intro w2 R2 O2)
            go_ret2
            rw [HXe.out]
            exact ⟨rfl, (B1.out.trans (HB1.out.mono B1.out.size)).trans (((Below.refl _ w1).alloc (Nat.le_refl _) _).trans (O2.out.below (by simp) (Nat.le_refl _)) |>.mono (Nat.le_trans B1.out.size HB1.out.size))⟩
          | ok y =>
            obtain ⟨f, rst⟩ := y
            obtain ⟨hsl, hsd⟩ := getX_suf l1 f rst hgx
            have hgr : getR l1 = ((f, l1.length - rst.length), 0) := by unfold getR; rw [hgx]
            rw [hgr] at HG
            rw [hgx, thenX_ok] at hXr
            obtain ⟨sz, hsz⟩ : ∃ sz, l1.length - rst.length = sz := ⟨_, rfl⟩
            rw [hsz] at HG hsd
            have hlm := S1.out.1
            have hszm : sz ≤ m := by omega
            have hsz1 : 1 ≤ sz := by omega
            have HRL : Hid (rst.length = m - sz) := show _ = _ by omega
            obtain ⟨A5, eA5⟩ : ∃ v, (if d = sz then A1 else A1.map (·.add sz)) = v := ⟨_, rfl⟩
            have hcB : ∀ u : World, (Instr.slice 24 (.slice A1 m d) (some (.int .i64 (sz : Int))) none none).run Try.prog u = .ok (.slice A5 (m - sz) (d - sz)) u := fun u => by
              rw [run_cut_bytes u A1 m d sz hszm HD.out.1, eA5]
            have HS5 : Hid (∀ u : World, Below w.heap.size wr u → Sl u B A5 (m - sz) rst) := fun u hu => by
              have h1' := (S1.out.below (hu.mono hB)).drop hszm HD.out.1
              rw [eA5, ← hsd] at h1'
              exact h1'
            have HXe := Lib.hid hXr
            clear hXr hgx hgr hsd hsz hsl hlm eA5
            go_wp2_with fail
            (with_reducible refine HG.out.mono ?_)
            rintro e1 w1 ⟨p, rfl, hfo, b1⟩
            simp only at hfo
            simp only
            have HB1 := Lib.hid b1
            have HFO := Lib.hid hfo
            have HSZ := Lib.hid (frV_size f p)
            have HONE := Lib.hid (frV_one f p)
            have HL0 : Hid (fr0.length = (frV f p).length) := rfl
            obtain ⟨vs, hvs⟩ : ∃ vs, frV f p = vs := ⟨_, rfl⟩
            have HVS := Lib.hid hvs
            rw [hvs] at HSZ HONE HL0 ⊢
            clear hfo b1
            have hcells : vs = [.int .i64 f.kind, .int .u64 (f.n : Int), .int .u64 (f.delay : Int), .slice p.ra p.rn p.rc, .int .u64 (f.id : Int), .int .u64 (f.off : Int), .bool f.fin, .slice p.da p.dn p.dc, .slice p.ca p.cn p.cc, .slice p.ta p.tn p.tc] := hvs.symm
            clear hvs
            clear HSZ HONE HL0
            subst hcells
            have HBz : Hid (∀ o1 o2, Below w1.heap.size w1 ((w1.alloc o1).alloc o2)) := fun _ _ => ((Below.refl _ _).alloc (Nat.le_refl _) _).alloc (by simp) _
            have HBw : Hid (∀ o1 o2, Below w.heap.size w ((w1.alloc o1).alloc o2)) := fun o1 o2 => (B1.out.trans (HB1.out.mono B1.out.size)).trans ((HBz.out o1 o2).mono (Nat.le_trans B1.out.size HB1.out.size))
            have HBr : Hid (∀ o1 o2, Below w.heap.size wr ((w1.alloc o1).alloc o2)) := fun o1 o2 => (HB1.out.mono B1.out.size).trans ((HBz.out o1 o2).mono (Nat.le_trans B1.out.size HB1.out.size))
            go_wp2_with (at_builtin; refine wpList_append_frame rfl _ _ rfl w.heap.size (.slice A2 k e) k fps rfl ((O1.out.below HB1.out).below (HBz.out _ _)) (w1.heap.size + 1) f p rfl ?hr ?hf (by omega) (HBw.out _ _).size _ (Below.refl _ _) ?_; (case hr => exact range_row (t := 26) (fr := (0, 0)) (heap_allocs w1 [_, _] 1 _ rfl)); (case hf => exact (HFO.out.base B1.out.size).below (HBz.out _ _)); intro A6 c6 w6 O6 G6 B6)
            go_roundw
            case rel =>
              refine ⟨A5, m - sz, d - sz, rst, A6, k + 1, c6, fps ++ [(f, p)], fu, rfl, rfl, by omega, by omega, ⟨by have := HD.out; omega, by have := HD.out; omega⟩, HS5.out _ ((HBr.out _ _).trans B6.out), O6, (HBw.out _ _).trans B6.out, by have := HF.out.1; have := HFU.out; omega, ?_⟩
              rw [HXe.out]
              cases rowX fu (k + 1) rst <;> simp [thenX]
            case measure => simp; omega
end Go.Proofs.Ytcipmfhacloegaa
