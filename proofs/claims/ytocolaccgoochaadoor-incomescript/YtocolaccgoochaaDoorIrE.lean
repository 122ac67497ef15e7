/-
  The law IncomeScript: acts that came in; the program's In beside the document's.
-/
import Derived.Test.YtocolaccgoochaaDoorIrD
import Derived.Test.YtocolaccgoochaaDoorInI
import Derived.Test.YtocolaccgoochaaDoorCopyW
import Derived.Test.YtocolaccgoochaaDoorOverB
import Derived.Test.YtocolaccgoochaaDoorArgs
import Derived.Deep.Grids
import Derived.OpenShut
import Derived.ProofKit
namespace Go.Proofs.YtocolaccgoochaaDoor
open Go.RowKit Go.Lib Go.ChangeAt Go.WideShapes Go.ChangeShapes
set_option linter.unusedVariables false

theorem rput_any {w : World} {F : Nat → Prop} {g most n c : Nat} {s : InS} {off : Int} {A : Option Addr} {l : List UInt8} {e : Bool} (h : RefW w F g most s) (hs : Sl w w.heap.size A n l) (hA : 0 < n → ∀ a, A = some a → ¬ F a.block) (hnc : n ≤ c) (hn : n ≤ 1048576) :
    Calls Tryd.prog 15 #[.pointer (some ⟨g, 0, none⟩), .int .i64 off, .slice A n c, .bool e] w (RPutW w F g most s off l e) := by
  by_cases h0 : off < 0
  · exact rput_arg h h0
  · obtain ⟨o, rfl⟩ : ∃ o : Nat, off = (o : Int) := ⟨off.toNat, by omega⟩
    by_cases h1 : most < o + n
    · exact rput_bound h hs.len hn h1
    · exact rput_in h hs hA hnc (by omega)
/-- an act that came in -/
structure ActB where
  o : Int
  r : Int
  A : Option Addr
  n : Nat
  c : Nat
  l : List UInt8
  e : Bool
def abV (q : ActB) : List Value := [.int .i64 q.o, .int .i64 q.r, .slice q.A q.n q.c, .bool q.e]
def AbOk (w : World) (q : ActB) : Prop := Sl w w.heap.size q.A q.n q.l ∧ q.n ≤ q.c ∧ q.c ≤ maxLen
/-- n acts, the i-th one q i -/
def InAB (w : World) (A : Option Addr) (n : Nat) (q : Nat → ActB) : Prop :=
  (0 < n → ∃ g o, A = some ⟨g, o, none⟩ ∧ g < w.heap.size ∧ ∀ i, i < n → ∀ j u, (abV (q i))[j]? = some u → w.cell? ⟨g, o + i * 4 + j, none⟩ = some u) ∧ ∀ i, i < n → AbOk w (q i)
theorem cells_act : Tryd.prog.cellsOf 33 = 4 := by kernel_rfl
theorem cells_ai : Tryd.prog.cellsOf 3 = 1 := by kernel_rfl
theorem cells_ab : Tryd.prog.cellsOf 4 = 1 := by kernel_rfl
theorem cells_as : Tryd.prog.cellsOf 30 = 1 := by kernel_rfl
theorem list4 {α : Type} {l : List α} (h : l.length = 4) : ∃ a b c d, l = [a, b, c, d] := by
  match l, h with
  | [a, b, c, d], _ => exact ⟨a, b, c, d, rfl⟩
section
variable {H : Type} {enc : TypeId × Value → H} {W : World} {n : Nat} {v : Value} {y : DataW H × List MemPlace}
theorem in_int (h : DataW.trod enc Tryd.prog W 0 (fun _ => true) true n 3 [v] = some y) : ∃ a : Int, v = .int .i64 a := by
  obtain ⟨b, e, _, hw⟩ := DataW.trod_int Tryd.underlying3 h
  exact ⟨b, by simpa using e⟩
theorem in_boolA (h : DataW.trod enc Tryd.prog W 0 (fun _ => true) true n 4 [v] = some y) : ∃ a : Bool, v = .bool a := by
  obtain ⟨b, e, _⟩ := DataW.trod_bool Tryd.underlying4 h
  exact ⟨b, by simpa using e⟩
theorem in_bytes (h : DataW.trod enc Tryd.prog W 0 (fun _ => true) true n 30 [v] = some y) : ∃ A len cap l, v = .slice A len cap ∧ Sl W W.heap.size A len l ∧ len ≤ cap ∧ cap ≤ maxLen := by
  rcases open_ints Tryd.underlying30 Tryd.underlying5 (by kernel_rfl) h with ⟨hcs, _⟩ | ⟨x, l, c, zs, hcs, _, hl, hm, hz, _, hcell, hwz⟩
  · obtain ⟨l', h1, h2, h3⟩ := sl_of_row (w := W) (zs := []) (.inl ⟨rfl, rfl, rfl, rfl⟩)
    exact ⟨none, 0, 0, l', by simpa using hcs, h1, h2, h3⟩
  · obtain ⟨l', h1, h2, h3⟩ := sl_of_row (w := W) (zs := zs) (.inr ⟨x, rfl, hl, hm, by simpa using hz, hcell, hwz⟩)
    exact ⟨some x, l, c, l', by simpa using hcs, h1, h2, h3⟩
theorem in_act {cs : List Value} (hl : cs.length = 4) (h : DataW.trod enc Tryd.prog W 0 (fun _ => true) true n 33 cs = some y) : ∃ q, cs = abV q ∧ AbOk W q := by
  obtain ⟨v0, v1, v2, v3, rfl⟩ := list4 hl
  obtain ⟨xs, n, _, _, _, hlen, hf⟩ := DataW.trod_struct Tryd.underlying33 h
  obtain ⟨y0, y1, y2, y3, rfl⟩ := list4 (show xs.length = 4 from hlen)
  have h0 : DataW.trod enc Tryd.prog W 0 (fun _ => true) true n 3 [v0] = some y0 := by simpa [Value.cells, cells_ai] using hf 0 _ rfl
  have h1 : DataW.trod enc Tryd.prog W 0 (fun _ => true) true n 3 [v1] = some y1 := by simpa [Value.cells, cells_ai] using hf 1 _ rfl
  have h2 : DataW.trod enc Tryd.prog W 0 (fun _ => true) true n 30 [v2] = some y2 := by simpa [Value.cells, cells_as] using hf 2 _ rfl
  have h3 : DataW.trod enc Tryd.prog W 0 (fun _ => true) true n 4 [v3] = some y3 := by simpa [Value.cells, cells_ab] using hf 3 _ rfl
  obtain ⟨a0, rfl⟩ := in_int h0
  obtain ⟨a1, rfl⟩ := in_int h1
  obtain ⟨A, ln, cp, l, rfl, hs, hc1, hc2⟩ := in_bytes h2
  obtain ⟨a3, rfl⟩ := in_boolA h3
  exact ⟨⟨a0, a1, A, ln, cp, l, a3⟩, rfl, hs, hc1, hc2⟩
theorem in_acts (h : DataW.trod enc Tryd.prog W 0 (fun _ => true) true n 22 [v] = some y) : ∃ A len cap q, v = .slice A len cap ∧ len ≤ maxLen ∧ InAB W A len q := by
  rcases Go.Deep.open_slice Tryd.underlying22 h with ⟨hcs, _⟩ | ⟨a, len, cap, m, k, D, Pl, hcs, _, hl, hm, hmm, _, hx⟩
  · exact ⟨none, 0, 0, fun _ => ⟨0, 0, none, 0, 0, [], false⟩, by simpa using hcs, by simp [maxLen], fun h => absurd h (Nat.lt_irrefl _), fun i hi => absurd hi (Nat.not_lt_zero _)⟩
  · have hlm : len ≤ m := by rw [hmm]; split <;> omega
    have each : ∀ i, i < len → ∃ q : ActB, (∀ j u, (abV q)[j]? = some u → W.cell? (a.add (i * 4 + j)) = some u) ∧ AbOk W q := fun i hi => by
      obtain ⟨cs', h1, h2⟩ := hx i (by omega)
      rw [cells_act] at h1
      obtain ⟨_, hlen, hcell⟩ := World.cells?_some h1
      obtain ⟨q, rfl, hq⟩ := in_act hlen h2
      refine ⟨q, fun j u hj => ?_, hq⟩
      have hj4 : j < 4 := (List.getElem?_eq_some_iff.1 hj).1
      have := hcell j hj4
      rw [Go.Deep.add_add] at this
      exact this.trans hj
    have hq : ∃ q : Nat → ActB, ∀ i, i < len → (∀ j u, (abV (q i))[j]? = some u → W.cell? (a.add (i * 4 + j)) = some u) ∧ AbOk W (q i) := by
      refine ⟨fun i => if hi : i < len then Classical.choose (each i hi) else ⟨0, 0, none, 0, 0, [], false⟩, fun i hi => ?_⟩
      simp only [hi, dif_pos]
      exact Classical.choose_spec (each i hi)
    obtain ⟨q, hq⟩ := hq
    refine ⟨some a, len, cap, q, by simpa using hcs, by omega, fun h0 => ?_, fun i hi => (hq i hi).2⟩
    obtain ⟨b, off, spot⟩ := a
    have hc0 := (hq 0 h0).1 0 _ rfl
    have hspot : spot = none := by simpa [Addr.add] using World.cell?_spot hc0
    subst hspot
    have hadd : ∀ j, (⟨b, off, none⟩ : Addr).add j = ⟨b, off + j, none⟩ := fun j => by unfold Addr.add; split <;> simp_all
    refine ⟨b, off, rfl, World.block_lt_of_cell? W _ (by rw [hadd] at hc0; exact hc0), fun i hi j u hu => ?_⟩
    have := (hq i hi).1 j u hu
    rw [hadd, ← Nat.add_assoc] at this
    exact this
end
/-- OverBytes of a slice of the call's own -/
theorem over_own {w : World} {B n c : Nat} {A : Option Addr} {l : List UInt8} (h : Own w B (.slice A n c) n l) (hB : B ≤ w.heap.size) (hn : n ≤ 1000000) :
    Calls Tryd.prog 16 #[.slice A n c] w fun e w' => e = .returned (.tuple #[]) ∧ (Below w.heap.size w w' ∨ ∃ x, A = some ⟨x, 0, none⟩ ∧ Only x w w') := by
  rcases h.2 with ⟨hv, _⟩ | ⟨g, cap, cur, hv, _⟩
  · injection hv with h1 h2 h3
    subst h1
    subst h2
    subst h3
    exact (over_nil w).mono fun e w' ⟨he, hb⟩ => ⟨he, .inl hb⟩
  · injection hv with h1 h2 h3
    subst h1
    exact (over_blk l g n c B w h hB hn).mono fun e w' ⟨he, ho⟩ => ⟨he, .inr ⟨g, rfl, ho⟩⟩
theorem Rn.mvd {w0 w w' : World} {F F' : Nat → Prop} {g most N : Nat} {s : InS} (R : Rn w0 w F g most N s) (m : Mvd F' w w') (hd : ∀ k, F k → ¬ F' k) (hl : ∀ k, F' k → w0.heap.size ≤ k) : Rn w0 w' F g most N s :=
  have hb : Below w0.heap.size w0 w' := R.b.trans (m.below R.size hl)
  ⟨R.i.still m.size (fun k hk hlt => m.block k hlt (hd k hk)), R.lo, fun k hk => Nat.lt_of_lt_of_le (R.hi k hk) m.size, R.G.below (m.below R.size hl) R.pos, hb, R.pos⟩
/-- the program's In beside the document's -/
structure Bo (w0 w : World) (F : Nat → Prop) (g : Nat) (F' : Nat → Prop) (gr most N : Nat) (s : InS) : Prop where
  o : Rn w0 w F g most N s
  r : RefW w F' gr most s
  d : ∀ k, F k → ¬ F' k
  lo : ∀ k, F' k → w0.heap.size ≤ k
  hi : ∀ k, F' k → k < w.heap.size
section
variable {w0 w w' : World} {F F' : Nat → Prop} {g gr most N : Nat} {s : InS}
theorem Bo.below (h : Bo w0 w F g F' gr most N s) (hb : Below w.heap.size w w') : Bo w0 w' F g F' gr most N s :=
  ⟨h.o.below hb, h.r.below hb, h.d, h.lo, fun k hk => Nat.lt_of_lt_of_le (h.hi k hk) hb.size⟩
theorem Bo.drewN (h : Bo w0 w F g F' gr most N s) (k : Nat) : Bo w0 (w.drewN k) F g F' gr most N s := h.below ⟨rfl, rfl, rfl, Nat.le_refl _, fun _ _ => rfl⟩
/-- a block of the law's own turned -/
theorem Bo.only {x : Nat} (h : Bo w0 w F g F' gr most N s) (ho : Only x w w') (h1 : ¬ F x) (h2 : ¬ F' x) (h3 : w0.heap.size ≤ x) : Bo w0 w' F g F' gr most N s :=
  ⟨h.o.only ho h1 h3, h.r.still fun k hk hl => ho.block k hl (fun e => h2 (by rw [← e]; exact hk)), h.d, h.lo, fun k hk => Nat.lt_of_lt_of_le (h.hi k hk) ho.size⟩
/-- what came in -/
theorem Bo.sl (h : Bo w0 w F g F' gr most N s) {A : Option Addr} {n : Nat} {l : List UInt8} (hs : Sl w0 w0.heap.size A n l) : Sl w w.heap.size A n l := (hs.below h.o.b).more h.o.size
theorem Bo.put (h : Bo w0 w F g F' gr most N s) {n c cr : Nat} {off : Int} {A Ar : Option Addr} {l : List UInt8} {e : Bool} (hs : Sl w w.heap.size A n l) (hA : 0 < n → ∀ a, A = some a → ¬ F a.block) (hnc : n ≤ c) (hsr : Sl w0 w0.heap.size Ar n l) (hncr : n ≤ cr) (hN : N + n ≤ 1073741824) (hn : n ≤ 1048576) :
    Calls Tryd.prog 11 #[.pointer (some ⟨g, 0, none⟩), .int .i64 off, .slice A n c, .bool e] w fun r w' => ∃ (cd : Nat) (s' : InS) (F2 : Nat → Prop), r = .returned (.int .i64 (cd : Int)) ∧ Mvd F w w' ∧
      (∀ k, Calls Tryd.prog 15 #[.pointer (some ⟨gr, 0, none⟩), .int .i64 off, .slice Ar n cr, .bool e] (w'.drewN k) fun r w'' => ∃ F3, r = .returned (.int .i64 (cd : Int)) ∧ Mvd F' w' w'' ∧ Bo w0 w'' F2 g F3 gr most (N + n) s' ∧ (∀ k, F2 k → F k ∨ w.heap.size ≤ k) ∧ (∀ k, F3 k → F' k ∨ w'.heap.size ≤ k)) := by
  refine (rn_put h.o (off := off) (e := e) hs hA hnc hN hn).mono ?_
  rintro r w' ⟨cd, s', F2, rfl, hP, R2, hAf⟩
  refine ⟨cd, s', F2, rfl, hAf.m, fun k => ?_⟩
  have hr : RefW w' F' gr most s := h.r.mvd hAf.m fun k hk hF => h.d k hF hk
  have hd2 : ∀ k, F2 k → ¬ F' k := fun k hk hk' => by
    rcases hAf.n k hk with h1 | h1
    · exact h.d k h1 hk'
    · have := h.hi k hk'
      omega
  have hslw : Sl (w'.drewN k) (w'.drewN k).heap.size Ar n l := ((hsr.below R2.b).more R2.size)
  refine (rput_any (hr.drewN k) (off := off) (e := e) hslw (fun h0 a ha hF' => ?_) hncr hn).mono ?_
  · obtain ⟨b, of, e1, hb, _⟩ := hsr.2 h0
    rw [e1] at ha
    cases ha
    have := h.lo b hF'
    omega
  · rintro r w'' ⟨cd', s'', rfl, hP', hR', hm'⟩
    obtain ⟨rfl, rfl⟩ := put_same hP hP'
    have hm2 : Mvd F' w' w'' := ⟨hm'.os, hm'.tape, hm'.output, hm'.size, hm'.block⟩
    refine ⟨_, rfl, hm2, ⟨R2.mvd hm2 hd2 h.lo, hR', fun k hk hk' => ?_, fun k hk' => ?_, fun k hk' => ?_⟩, hAf.n, fun k hk' => ?_⟩
    · rcases hk' with hk' | ⟨hk', _⟩
      · exact hd2 k hk hk'
      · have h1 := R2.hi k hk
        have h2 : w'.heap.size ≤ k := hk'
        omega
    · rcases hk' with hk' | ⟨hk', _⟩
      · exact h.lo k hk'
      · have h1 := R2.size
        have h2 : w'.heap.size ≤ k := hk'
        omega
    · rcases hk' with hk' | ⟨_, hk'⟩
      · have h1 := h.hi k hk'
        have h2 := hAf.m.size
        have h3 := hm2.size
        omega
      · exact hk'
    · rcases hk' with hk' | ⟨hk', _⟩
      · exact .inl hk'
      · exact .inr hk'
theorem Bo.read (h : Bo w0 w F g F' gr most N s) (n : Int) :
    Calls Tryd.prog 12 #[.pointer (some ⟨g, 0, none⟩), .int .i64 n] w fun e w' => ∃ A c, e = .returned (.slice A (readN s n) c) ∧ Own w' w.heap.size (.slice A (readN s n) c) (readN s n) (bytesV s (readN s n)) ∧ readN s n ≤ c ∧ c ≤ maxLen ∧ Only g w w' ∧
      (∀ k, Calls Tryd.prog 24 #[.pointer (some ⟨gr, 0, none⟩), .int .i64 n] (w'.drewN k) fun e w'' => ∃ A c, e = .returned (.slice A (readN s n) c) ∧ Own w'' w'.heap.size (.slice A (readN s n) c) (readN s n) (bytesV s (readN s n)) ∧ readN s n ≤ c ∧ c ≤ maxLen ∧ Only gr w' w'' ∧ Bo w0 w'' F g F' gr most N (readS s n)) := by
  refine (rn_read h.o n).mono ?_
  rintro e w' ⟨A, c, rfl, ho, h1, h2, R2, hO⟩
  refine ⟨A, c, rfl, ho, h1, h2, hO, fun k => ?_⟩
  have hr : RefW w' F' gr most s := h.r.still fun k hk hl => hO.block k hl (fun e => h.d _ h.o.fg (by rw [← e]; exact hk))
  refine (rread_any (hr.drewN k) n).mono ?_
  rintro e w'' ⟨A2, c2, rfl, ho2, h12, h22, hR2, hO2⟩
  have hO3 : Only gr w' w'' := ⟨hO2.os, hO2.tape, hO2.output, hO2.size, hO2.block⟩
  have hgr := h.r.fg
  exact ⟨A2, c2, rfl, ho2, h12, h22, hO3, ⟨R2.only hO3 (fun hF => h.d _ hF hgr) (h.lo _ hgr), hR2, h.d, h.lo, fun k hk => Nat.lt_of_lt_of_le (h.hi k hk) (Nat.le_trans hO.size hO3.size)⟩⟩
end
end Go.Proofs.YtocolaccgoochaaDoor
