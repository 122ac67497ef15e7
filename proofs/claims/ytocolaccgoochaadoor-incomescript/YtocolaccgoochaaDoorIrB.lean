/-
  The document's In: appends of bools; Read.
-/
import Derived.Test.YtocolaccgoochaaDoorIrA
import Derived.Test.YtocolaccgoochaaDoorAppW
import Derived.Test.YtocolaccgoochaaDoorRwC
import Derived.Deep.CutRange
import Derived.Deep.CutBlock
namespace Go.Proofs.YtocolaccgoochaaDoor
open Go.RowKit Go.Lib
set_option linter.unusedVariables false

theorem bool_info : (Tryd.prog.info? 4).map (fun i => (i.zero, i.size, i.bytes)) = some (some (.bool false), 1, 1) := by kernel_rfl
theorem info_partsB {t : TypeId} {z : Option Value} {s b : Nat} (h : (Tryd.prog.info? t).map (fun i => (i.zero, i.size, i.bytes)) = some (z, s, b)) : ∃ i, Tryd.prog.info? t = some i ∧ i.zero = z ∧ i.size = s ∧ i.bytes = b := by
  cases hi : Tryd.prog.info? t with
  | none => rw [hi] at h; cases h
  | some i =>
    rw [hi] at h
    simp only [Option.map_some, Option.some.injEq, Prod.mk.injEq] at h
    exact ⟨i, rfl, h.1, h.2.1, h.2.2⟩
/-- one bool more -/
theorem wp_append_bool {w : World} {o : Oper} {a : Act} {K : Act → World → Prop} {Q : Exit → Act → World → Prop} (s x : Operand)
    (ho : o.op = .call { callee := .builtin .append, args := #[s, x], argTypes := #[49, 49] })
    (base : Nat) (v : Value) (n : Nat) (l : List Bool) (hs : a.eval s = v) (hown : OwnZ w base v n l)
    (g : Nat) (b : Bool) (hx : a.eval x = .slice (some ⟨g, 0, none⟩) 1 1) (hr : w.cell? ⟨g, 0, none⟩ = some (.bool b))
    (hlen : n + 1 ≤ 70368744177664) (hbase : base ≤ w.heap.size)
    (h : ∀ A' c' w', Hid (OwnZ w' base (.slice A' (n + 1) c') (n + 1) (l ++ [b])) → Hid (w.grownBy w' v.ownBlock) → Hid ((Value.slice A' (n + 1) c').ownBlock = v.ownBlock ∨ (Value.slice A' (n + 1) c').ownBlock = some w.heap.size) → K (a.put o.dst (.slice A' (n + 1) c')) w') : o.wp Tryd.prog a w K Q := by
  obtain ⟨i, hi, hz0, hz1, hz2⟩ := info_partsB bool_info
  have hcells : ∀ j u, (zvs [b])[j]? = some u → w.cell? ((⟨g, 0, none⟩ : Addr).add j) = some u := by
    intro j u hu
    have hj : j < 1 := (List.getElem?_eq_some_iff.1 hu).1
    obtain rfl : j = 0 := by omega
    simp [zvs] at hu
    rw [addr_add]
    exact hr.trans (by rw [hu])
  obtain ⟨v', w', hrun, h2, h3, _, h5⟩ := run_append_own_at (P := Tryd.prog) w base 49 o.type 4 i (.bool false) 1 1 Tryd.underlying49 hi hz0 hz1 hz2 rfl (by omega) v n (zvs l) hown ⟨g, 0, none⟩ 1 1 (zvs [b])
    (by rw [zvs_length]; rfl) hcells (zvs_one [b]) (by simp only [maxLen]; omega) (by omega) hbase
  have h2' : OwnZ w' base v' (n + 1) (l ++ [b]) := by unfold OwnZ; rw [zvs_append]; exact h2
  obtain ⟨A', c', rfl, hle, hcm⟩ := h2'.form
  unfold Oper.wp execOp
  simp only [ho, resolve, invoke, builtin, Sem.run_bind, Sem.run_pure, Result.andThen_ok, List.map_toArray, List.map_cons, List.map_nil, hs, hx, hrun]
  exact h A' c' w' h2' h3 h5
/-- one byte more -/
theorem wp_append_byteG {w : World} {o : Oper} {a : Act} {K : Act → World → Prop} {Q : Exit → Act → World → Prop} (s x : Operand)
    (ho : o.op = .call { callee := .builtin .append, args := #[s, x], argTypes := #[30, 30] })
    (base : Nat) (v : Value) (n : Nat) (l : List UInt8) (hs : a.eval s = v) (hown : Own w base v n l)
    (B : Nat) (A : Option Addr) (m c : Nat) (r : List UInt8) (hx : a.eval x = .slice A m c) (hr : Sl w B A m r)
    (hlen : n + m ≤ 70368744177664) (hbase : base ≤ w.heap.size)
    (h : ∀ A' c' w', Hid (Own w' base (.slice A' (n + m) c') (n + m) (l ++ r)) → Hid (w.grownBy w' v.ownBlock) → Hid ((Value.slice A' (n + m) c').ownBlock = v.ownBlock ∨ (Value.slice A' (n + m) c').ownBlock = some w.heap.size) → K (a.put o.dst (.slice A' (n + m) c')) w') : o.wp Tryd.prog a w K Q := by
  obtain ⟨v', w', hrun, h2, h3, h5⟩ := run_append_bytes w base o.type v n l hown B A m c r hr hlen hbase
  obtain ⟨A', c', rfl, hle, hcm⟩ := h2.form
  unfold Oper.wp execOp
  simp only [ho, resolve, invoke, builtin, Sem.run_bind, Sem.run_pure, Result.andThen_ok, List.map_toArray, List.map_cons, List.map_nil, hs, hx, hrun]
  exact h A' c' w' h2 h3 h5
section
variable {w w' : World} {F : Nat → Prop} {g most : Nat} {s : InS}
theorem RefC.setAt {n : Nat} {M en rd rd' : Int} {vb vi : Value} {bs : List UInt8} {zs : List Bool} (h : RefC w g M vb vi n bs zs en rd) : RefC (w.setCell ⟨g, 4, none⟩ (.int .i64 rd')) g M vb vi n bs zs en rd' := by
  have ho : Only g w (w.setCell ⟨g, 4, none⟩ (.int .i64 rd')) := (Only.refl g w).setCell 4 _
  refine ⟨h.r.put 4 _, owns_still h.b fun k hk => ho.block k (World.ownsRow.lt h.b k hk).2 (fun e => h.gb (by rw [← e]; exact hk)), owns_still h.z fun k hk => ho.block k (World.ownsRow.lt h.z k hk).2 (fun e => h.gz (by rw [← e]; exact hk)), h.gb, h.gz, h.bz⟩
theorem read_bytes {m : Nat} {bs : List UInt8} {zs : List Bool} (hok : s.Ok most) (hp : ∀ i, i < s.hi → s.p i = if zs.getD i false = true then some (bs.getD i 0) else none) (hm : s.rd + m ≤ frontV s) (hl : bs.length = s.hi) : (bs.drop s.rd).take m = bytesV s m := by
  obtain ⟨t, e, h1, h2, h3, h4⟩ := front_ex hok
  rw [e] at hm
  refine List.ext_getElem ?_ fun k h5 h6 => ?_
  · unfold bytesV
    simp
    omega
  · have hk : k < m := by
      unfold bytesV at h6
      simpa using h6
    have hq := hp (s.rd + k) (by omega)
    have hn := h3 (s.rd + k) (by omega)
    simp only [bytesV, List.getElem_map, List.getElem_range, List.getElem_take, List.getElem_drop]
    cases hz : zs.getD (s.rd + k) false
    · rw [hz] at hq
      exact absurd (by simpa using hq) hn
    · rw [hz] at hq
      rw [hq]
      simp [List.getD_eq_getElem?_getD, show s.rd + k < bs.length by omega]
set_option maxHeartbeats 1000000 in
theorem rread_any (h : RefW w F g most s) (n : Int) :
    Calls Tryd.prog 24 #[.pointer (some ⟨g, 0, none⟩), .int .i64 n] w fun e w' => ∃ A c, e = .returned (.slice A (readN s n) c) ∧ Own w' w.heap.size (.slice A (readN s n) c) (readN s n) (bytesV s (readN s n)) ∧ readN s n ≤ c ∧ c ≤ maxLen ∧ RefW w' F g most (readS s n) ∧ Only g w w' := by
  have HR := Lib.hid (rreadable_any h)
  obtain ⟨vb, vi, bs, zs, h1, hp, hok, hm, hF⟩ := h
  have hfr := front_le hok
  have hh := hok.most
  obtain ⟨m, hm'⟩ : ∃ m, readN s n = m := ⟨_, rfl⟩
  have hmi : min (max n 0) (readableV s : Int) = (m : Int) := by
    unfold readN at hm'
    omega
  have hmr : m ≤ readableV s := by rw [← hm']; unfold readN; omega
  have hmf : s.rd + m ≤ frontV s := by unfold readableV at hmr; omega
  have hby := read_bytes hok hp hmf h1.b.len
  have HS : Hid (readS s n = ⟨s.p, s.hi, s.en, s.rd + m⟩ ∧ (readS s n).Ok most) := ⟨by unfold readS; rw [hm'], readS_ok hok n⟩
  rw [hm', ← hby]
  obtain ⟨A, c, rfl, hc1, hc2⟩ := h1.b.form
  obtain ⟨r, hr⟩ : ∃ r, readableV s = r := ⟨_, rfl⟩
  obtain ⟨x, hx⟩ : ∃ x, s.rd = x := ⟨_, rfl⟩
  obtain ⟨q, hq⟩ : ∃ q, x + m = q := ⟨_, rfl⟩
  have hqm : x + m ≤ s.hi := by omega
  rw [hr] at HR hmi
  have hqi : ((x : Int) + (m : Int)) = (q : Int) := by omega
  have hqd : ((q : Int) - (m : Int)) = (x : Int) := by omega
  have HC := Lib.hid h1
  have HP := Lib.hid hp
  have HF := Lib.hid hF
  obtain ⟨N, hN⟩ : ∃ N, s.hi = N := ⟨_, rfl⟩
  have c4 := h1.r.cell 4 _ rfl
  have f4 := h1.r.frozen 4
  rw [hx] at c4
  rw [hx]
  rw [hN] at hqm hh
  have b1 : (m : Int) ≤ 1048576 := by omega
  have b2 : (x : Int) ≤ 1048576 := by omega
  have b3 : (q : Int) ≤ (N : Int) := by omega
  have b4 : (N : Int) ≤ 1048576 := by omega
  have b5 : (x : Int) ≤ (q : Int) := by omega
  have HX := Lib.hid hx
  have HN := Lib.hid hN
  have HQ := Lib.hid hq
  clear hr hx hq hN hm' hmr hmf hby hok hfr hh hp hF h1 hqm
  go_enter Tryd.func24, Tryd.ntmps24
  go_wp2_with fail
  (with_reducible refine (HR.out).mono ?_)
  rintro e1 w1 ⟨rfl, k1, rfl⟩
  have HC1 := Lib.hid (HC.out.still (w' := w.drewN k1) fun _ _ => rfl)
  go_wp2_with fail
  obtain ⟨W, hW⟩ : ∃ W, (w.drewN k1).setCell ⟨g, 4, none⟩ (.int .i64 (q : Int)) = W := ⟨_, rfl⟩
  have HCW := HC1.out.setAt (rd' := (q : Int))
  have HO : Hid (Only g w W) := by rw [← hW]; exact ((Only.refl g w).drewN k1).setCell 4 _
  rw [hW] at HCW
  rw [hW]
  have d1 := HCW.r.cell 1 _ rfl
  have d4 := HCW.r.cell 4 _ rfl
  rw [HN.out] at d1
  have hwx : IntKind.i64.wrap (x : Int) = (x : Int) := by rw [IntKind.wrap_i64]; omega
  have HCW' := Lib.hid HCW
  clear HCW hW
  obtain ⟨A', hcut, hsl⟩ := sl_piece A (n := N) (c := c) (a := x) (b := q) (by omega) (by omega) (by have := HN.out; omega)
  rw [show q - x = m by have := HQ.out; omega] at hcut hsl
  have HSl : Hid (Sl W W.heap.size A' m ((bs.drop x).take m)) := hsl W _ _ (by have := HCW'.out.b.sl; rw [HN.out] at this; exact this)
  clear hsl
  refine wp_tail 15 (by kernel_rfl) (by kernel_rfl) ?_
  simp only [List.take_succ_cons, List.take_zero, List.drop_succ_cons, List.drop_zero]
  repeat still_step
  refine wpStill_nil ?_
  go_wp2_with (at_builtin; refine wpList_append_bytes rfl _ _ rfl W.heap.size (.slice none 0 0) 0 [] rfl (Own.nil _ _) W.heap.size A' m (c - x) _ rfl HSl.out (by omega) (Nat.le_refl _) _ (Below.refl _ _) ?_; intro A1 c1 w1 ho hle hc hg hb)
  go_ret
  rw [Nat.zero_add] at ho hle
  have hb' : Below W.heap.size W w1 := ⟨hb.os, hb.tape, hb.output, hb.size, hb.block⟩
  refine ⟨A1, c1, rfl, ⟨ho.1, ho.2.imp id fun ⟨g, cap, cur, e, hb, r⟩ => ⟨g, cap, cur, e, Nat.le_trans HO.out.size hb, r⟩⟩, hle, hc, ⟨_, _, bs, zs, ?_, ?_, HS.out.2, hm, HF.out⟩, HO.out.trans (Only.of_below hb')⟩
  · have h1 := HCW'.out.still (w' := w1) fun k hk => hb'.block k (by
      rcases hk with rfl | hk | hk
      · exact HCW'.out.r.lt
      · exact (World.ownsRow.lt HCW'.out.b k hk).2
      · exact (World.ownsRow.lt HCW'.out.z k hk).2)
    rw [HS.out.1, HX.out, HQ.out]
    exact h1
  · rw [HS.out.1]
    exact HP.out
end
end Go.Proofs.YtocolaccgoochaaDoor
