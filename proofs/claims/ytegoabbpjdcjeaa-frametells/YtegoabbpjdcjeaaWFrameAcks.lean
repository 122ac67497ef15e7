/-
  FrameAcks: the law's walk.
-/
import Derived.Test.YtegoabbpjdcjeaaFrW
import Derived.Test.YtegoabbpjdcjeaaFrU
import Derived.Test.YtegoabbpjdcjeaaWFrameSizes
namespace Go.Proofs.Ytegoabbpjdcjeaa
open Go.RowKit
set_option linter.unusedVariables false

theorem Rw.grown {w w' : World} {g : Nat} {t : TypeId} {vs : List Value} {b : Nat} (h : Rw w g t vs) (hb : Below b w w') (hg : g < b) : Rw w' g t vs := h.belowB hb hg
theorem OwnR.stored {w : World} {B n c g : Nat} {l : List (Nat × Nat)} (h : OwnR w B (.slice (some ⟨g, 0, none⟩) n c) n l) (j v : Nat) (hj : j < l.length) :
    OwnR (w.setCell ⟨g, j * 2 + 1, none⟩ (.int .u64 (v : Int))) B (.slice (some ⟨g, 0, none⟩) n c) n (l.set j ((l.getD j (0, 0)).1, v)) := by
  have := (World.ownsRow.stored h (j * 2 + 1) (.int .u64 (v : Int))).1
  unfold OwnR
  rw [← rvs_set l j v hj]
  exact this
theorem OwnR.at_ {w : World} {B n c : Nat} {A : Option Addr} {l : List (Nat × Nat)} (h : OwnR w B (.slice A n c) n l) (hn : 0 < n) : ∃ g, A = some ⟨g, 0, none⟩ ∧ B ≤ g ∧ g < w.heap.size := by
  rcases h.2 with ⟨_, h0⟩ | ⟨g, cap, cur, hv, hB, hg, _⟩
  · omega
  · injection hv with hA
    exact ⟨g, hA, hB, (Array.getElem?_eq_some_iff.1 hg).1⟩
theorem OwnR.frozen {w : World} {B n c g : Nat} {l : List (Nat × Nat)} (h : OwnR w B (.slice (some ⟨g, 0, none⟩) n c) n l) (j : Nat) : w.frozen? ⟨g, j, none⟩ = false := World.ownsRow.frozenAt h j
theorem getR_put (f : Fr) (h : MayF f) : getR (putF f) = ((f, (putF f).length), 0) := by
  have := getX_put f h [] (fun _ => by simp)
  rw [List.append_nil] at this
  unfold getR
  rw [this]
  rfl
set_option maxHeartbeats 2000000 in
theorem acks_short (T0 D0 : Int) (A : Option Addr) (n c : Nat) (w : World) (hn : n < 2 ∨ 16 < n) (hm : n ≤ 9223372036854775807) :
    Calls Try.prog 6 #[.int .u64 T0, .slice A n c, .int .u64 D0] w fun e w' => e = .returned (.bool true) ∧ Below w.heap.size w w' := by
  have HAW := Lib.hid awake_any
  rcases hn with h | h
  · have t1 : decide ((n : Int) < 2) = true := decide_eq_true (by omega)
    go_enter Try.func6, Try.ntmps6
    go_wp2_with fail
    (with_reducible refine (HAW.out _).mono ?_)
    rintro e1 w1 ⟨rfl, b⟩
    go_wp2_with fail
    go_ret
    exact ⟨rfl, b⟩
  · have t1 : decide ((n : Int) < 2) = false := decide_eq_false (by omega)
    have t2 : decide ((16 : Int) < (n : Int)) = true := decide_eq_true (by omega)
    go_enter Try.func6, Try.ntmps6
    go_wp2_with fail
    (with_reducible refine (HAW.out _).mono ?_)
    rintro e1 w1 ⟨rfl, b⟩
    go_wp2_with fail
    go_ret
    exact ⟨rfl, b⟩
set_option maxHeartbeats 8000000 in
set_option maxRecDepth 8000 in
theorem acks_walk (t0 d0 : Nat) (ht0 : t0 < 18446744073709551616) (hd0 : d0 < 18446744073709551616) (gl : List UInt8) (A : Option Addr) (n c : Nat) (w : World) (hs : Sl w w.heap.size A n gl) (hnc : n ≤ c) (hcm : c ≤ maxLen) :
    Calls Try.prog 6 #[.int .u64 (t0 : Int), .slice A n c, .int .u64 (d0 : Int)] w fun e w' => e = .returned (.bool true) ∧ Below w.heap.size w w' := by
  have hn63 : n ≤ 9223372036854775807 := by unfold maxLen at hcm; omega
  by_cases hn : n < 2 ∨ 16 < n
  · exact acks_short _ _ A n c w hn hn63
  have hl := hs.1
  obtain ⟨d, hd⟩ : ∃ v, d0 % 4611686018427387904 = v := ⟨_, rfl⟩
  obtain ⟨q, hq⟩ : ∃ v, t0 % 1099511627776 = v := ⟨_, rfl⟩
  obtain ⟨top, htop⟩ : ∃ v, q + 10000 = v := ⟨_, rfl⟩
  have e1 := and_u64F d0 4611686018427387903 d hd0 (by omega) 4611686018427387903 rfl (by rw [← hd]; exact Nat.and_two_pow_sub_one_eq_mod d0 62)
  have e2 := and_u64F t0 1099511627775 q ht0 (by omega) 1099511627775 rfl (by rw [← hq]; exact Nat.and_two_pow_sub_one_eq_mod t0 40)
  have wtop : (q : Int) + 10000 = (top : Int) := by omega
  have hdm : d ≤ maxV := by unfold maxV; omega
  have hd62 : d < 4611686018427387904 := by omega
  have htm : top < 1099511637776 := by omega
  have ht1 : 10000 ≤ top := by omega
  obtain ⟨rs, hrs⟩ : ∃ rs, gapsR top gl = rs := ⟨_, rfl⟩
  have hrp : RangesP rs := by rw [← hrs]; exact gapsR_may top gl (by omega) (by omega) (by omega) (by unfold maxV; omega)
  have hrl : rs.length = n / 2 := by rw [← hrs, gapsR_length, hl]
  have hr0 : (rs.getD 0 (0, 0)).2 = top ∧ (rs.getD 0 (0, 0)).1 ≤ top := by
    rw [← hrs]
    match gl, hl with
    | [], h => simp at h; omega
    | [a], h => simp at h; omega
    | a :: b :: g, _ => simp [gapsR]
  have hmay := ack_may d rs hdm hrp
  obtain ⟨pb, hpb⟩ : ∃ l, putF (ackF d rs) = l := ⟨_, rfl⟩
  have hfn : FrN (ackF d rs) := ⟨by show -9223372036854775808 ≤ (2 : Int) ∧ (2 : Int) < _; omega, by show 0 < _; omega, by show d < _; omega, by show 0 < _; omega, by show 0 < _; omega, ranges_n rs hrp⟩
  have HPUT : Hid (∀ (u : World) (A : Option Addr) (n c : Nat), SlR u u.heap.size A n rs → n ≤ c → c ≤ maxLen → Calls Try.prog 12 #[.agg (ackV d A n c).toArray] u (MakesB u pb)) := fun u A n c h h1 h2 => by
    have h3 := fput_any (ackF d rs) (rngP A n c) u.heap.size u (Nat.le_refl _) (rngP_l h h1 h2) hfn pb ⟨fun _ => hpb.symm, fun h => absurd hmay h⟩
    exact h3
  have HMAY : Hid (∀ (u : World) (A : Option Addr) (n c : Nat), SlR u u.heap.size A n rs → n ≤ c → c ≤ maxLen → Calls Try.prog 14 #[.agg (ackV d A n c).toArray] u fun e w' => e = .returned (.bool true) ∧ Below u.heap.size u w') := fun u A n c h h1 h2 =>
    may_any (ackF d rs) (rngP A n c) u.heap.size u (Nat.le_refl _) (rngP_l h h1 h2) hfn true ⟨fun _ => hmay, fun _ => rfl⟩
  have HGET : Hid (∀ (A : Option Addr) (n c : Nat) (u : World), Sl u u.heap.size A n pb → n ≤ c → c ≤ maxLen → Calls Try.prog 21 #[.slice A n c] u (GetsF u ((ackF d rs, pb.length), 0))) := fun A n c u h h1 h2 => by
    have h3 := fget_any pb A n c u.heap.size u h (Nat.le_refl _) h1 h2
    have h4 := getR_put (ackF d rs) hmay
    rw [hpb] at h4
    rw [h4] at h3
    exact h3
  obtain ⟨rs2, hrs2⟩ : ∃ l, raiseR rs (top + 1) = l := ⟨_, rfl⟩
  have HR2 : Hid (rs.set (rs.length - 1) ((rs.getD (rs.length - 1) (0, 0)).1, top + 1) = rs2) := hrs2
  have hmay2 : (rs.length = 1 → MayF (ackF d rs2)) ∧ (2 ≤ rs.length → ¬ MayF (ackF d rs2)) := by
    constructor
    · intro h1
      refine ack_may d rs2 hdm ?_
      match rs, h1 with
      | [(lo, hi)], _ => rw [← hrs2]; exact raise_one lo hi (top + 1) (by have := hr0.2; simp at this; omega) (by unfold maxV; omega)
    · intro h2 hm
      have := raise_more rs hrp h2
      rw [hr0.1, hrs2] at this
      refine this ?_
      unfold MayF at hm
      rw [if_neg (by simp [ackF, Fr.of]), if_neg (by simp [ackF, Fr.of]), if_pos (by simp [ackF, Fr.of])] at hm
      exact hm.1.2
  have hfn2 : FrN (ackF d rs2) := ⟨by show -9223372036854775808 ≤ (2 : Int) ∧ (2 : Int) < _; omega, by show 0 < _; omega, by show d < _; omega, by show 0 < _; omega, by show 0 < _; omega, fun x hx => by
    rw [show (ackF d rs2).rs = rs2 from rfl, ← HR2.out] at hx
    rcases List.mem_or_eq_of_mem_set hx with h | h
    · exact ranges_n rs hrp x h
    · subst h
      have hlst : rs.getD (rs.length - 1) (0, 0) ∈ rs := by rw [show rs.getD (rs.length - 1) (0, 0) = rs[rs.length - 1]'(by omega) by simp [show rs.length - 1 < rs.length by omega]]; exact List.getElem_mem _
      exact ⟨(ranges_n rs hrp _ hlst).1, by show top + 1 < _; omega⟩⟩
  have HMAY2 : Hid (∀ (u : World) (A : Option Addr) (n c : Nat) (b : Bool), SlR u u.heap.size A n rs2 → n ≤ c → c ≤ maxLen → (b = true ↔ MayF (ackF d rs2)) → Calls Try.prog 14 #[.agg (ackV d A n c).toArray] u fun e w' => e = .returned (.bool b) ∧ Below u.heap.size u w') := fun u A n c b h h1 h2 hb =>
    may_any (ackF d rs2) (rngP A n c) u.heap.size u (Nat.le_refl _) (rngP_l h h1 h2) hfn2 b hb
  have HM2 := Lib.hid hmay2
  have HRL := Lib.hid hrl
  have HR0 := Lib.hid hr0
  have HRS := Lib.hid hrs
  have HAW := Lib.hid awake_any
  have HGL := Lib.hid hl
  have HS : Hid (∀ u, Below w.heap.size w u → Sl u w.heap.size A n gl) := fun u hu => hs.below hu
  have hn2 : 2 ≤ n := by omega
  have hn16 : n ≤ 16 := by omega
  have ta : decide ((n : Int) < 2) = false := decide_eq_false (by omega)
  have tb : decide ((16 : Int) < (n : Int)) = false := decide_eq_false (by omega)
  obtain ⟨bk, off, rfl, hbk, _⟩ := hs.2 (by omega)
  clear hrs hrl hr0 hmay2 hfn2 hfn hmay hrp hpb hrs2 hd hq htop hl hs hn hdm
  go_enter Try.func6, Try.ntmps6
  go_wp2_with fail
  clear ta tb
  have R0 : Hid (Rw (w.alloc (.cells (ackV d none 0 0).toArray 26)) w.heap.size 26 (ackV d none 0 0)) := heap_alloc_new w _
  have B0 : Hid (Below w.heap.size w (w.alloc (.cells (ackV d none 0 0).toArray 26))) := (Below.refl _ _).alloc (Nat.le_refl _) _
  go_loopw [7, 9, 10] (fun at_ i _ wr => ∃ (j at1 : Nat) (acc : List (Nat × Nat)) (A1 : Option Addr) (n1 c1 : Nat), 2 * j ≤ n ∧ n1 = j ∧ i = .int .i64 ((2 * j : Nat) : Int) ∧ at_ = .int .u64 (at1 : Int) ∧ at1 < 1099511637776 ∧ 10000 ≤ at1 + 514 * j ∧ Hid (acc ++ gapsR at1 (gl.drop (2 * j)) = rs) ∧ Hid (OwnR wr (w.heap.size + 1) (.slice A1 n1 c1) n1 acc) ∧ Hid (Rw wr w.heap.size 26 (ackV d A1 n1 c1)) ∧ Hid (Below w.heap.size w wr) ∧ Hid (w.heap.size < wr.heap.size)) (fun _ i _ _ => n - (intOf i).toNat)
  case atStart => exact ⟨0, top, [], none, 0, 0, by omega, rfl, rfl, rfl, htm, by omega, by simpa [Hid] using HRS.out, OwnR.nil _ _, R0, B0, R0.out.lt⟩
  case round =>
    obtain ⟨j, at1, acc, A1, n1, c1, hj, rfl, rfl, rfl, hat, hat2, HAC, OA, R1, B1, LT⟩ := hrel
    have k3 : wr.cell? ⟨w.heap.size, 3, none⟩ = some (.slice A1 n1 c1) := R1.out.cell 3 _ rfl
    obtain ⟨i2, hi2⟩ : ∃ i2 : Nat, 2 * n1 = i2 := ⟨_, rfl⟩
    have HI2 := Lib.hid hi2
    rw [hi2] at HAC ⊢
    by_cases hlt : i2 + 1 < n
    · obtain ⟨x, y, rst, hxy⟩ : ∃ x y rst, gl.drop i2 = x :: y :: rst := by
        have h1 : i2 < gl.length := by have := HGL.out; omega
        have h2 : i2 + 1 < gl.length := by have := HGL.out; omega
        exact ⟨gl[i2], gl[i2 + 1], gl.drop (i2 + 1 + 1), by rw [List.drop_eq_getElem_cons h1, List.drop_eq_getElem_cons h2]⟩
      have hx : gl[i2]? = some x := by have := congrArg (·[0]?) hxy; simpa using this
      have hy : gl[i2 + 1]? = some y := by have := congrArg (·[1]?) hxy; simpa using this
      have hdr : gl.drop (2 * (n1 + 1)) = rst := by rw [show 2 * (n1 + 1) = i2 + 2 by omega, ← List.drop_drop, hxy]; rfl
      obtain ⟨bk', off', e, _, hcell⟩ := (HS.out wr B1.out).2 (by omega)
      have e : bk = bk' ∧ off = off' := by simpa using e
      obtain ⟨rfl, rfl⟩ := e
      have hxl : i2 < gl.length := by have := HGL.out; omega
      have hyl : i2 + 1 < gl.length := by have := HGL.out; omega
      have cx := hcell i2 hxl
      have cy := hcell (i2 + 1) hyl
      have hx2 : gl[i2] = x := by rw [List.getElem?_eq_getElem hxl] at hx; simpa using hx
      have hy2 : gl[i2 + 1] = y := by rw [List.getElem?_eq_getElem hyl] at hy; simpa using hy
      rw [hx2] at cx
      rw [hy2] at cy
      obtain ⟨X, hX⟩ : ∃ X, x.toNat = X := ⟨_, rfl⟩
      obtain ⟨Y, hY⟩ : ∃ Y, y.toNat = Y := ⟨_, rfl⟩
      have hX2 : X < 256 := by rw [← hX]; exact x.toNat_lt
      have hY2 : Y < 256 := by rw [← hY]; exact y.toNat_lt
      have cx1 : wr.cell? ⟨bk, off + i2, none⟩ = some (.int .u8 (X : Int)) := by rw [cx, bv, hX]
      have cy1 : wr.cell? ⟨bk, off + (i2 + 1), none⟩ = some (.int .u8 (Y : Int)) := by rw [cy, bv, hY]
      have HCY : Hid (∀ u, Below wr.heap.size wr u → u.cell? ⟨bk, off + (i2 + 1), none⟩ = some (.int .u8 (Y : Int))) := fun u hu => (Below.cell hu (p := ⟨bk, off + (i2 + 1), none⟩) (Nat.lt_of_lt_of_le hbk B1.out.size)).trans cy1
      obtain ⟨lo, hlo⟩ : ∃ lo : Nat, at1 - X = lo := ⟨_, rfl⟩
      obtain ⟨lo2, hlo2⟩ : ∃ lo : Nat, at1 - X - 2 = lo := ⟨_, rfl⟩
      obtain ⟨nx, hnx⟩ : ∃ lo : Nat, at1 - X - 2 - Y = lo := ⟨_, rfl⟩
      have w1' : (at1 : Int) - (X : Int) = (lo : Int) := by omega
      have w2' : (lo : Int) - 2 = (lo2 : Int) := by omega
      have w3' : (lo2 : Int) - (Y : Int) = (nx : Int) := by omega
      have HAC2 : Hid (acc ++ [(lo, at1)] ++ gapsR nx (gl.drop (2 * (n1 + 1))) = rs) := by
        have := HAC.out
        rw [hxy] at this
        simp only [gapsR] at this
        rw [hX, hY, hlo, show lo - 2 - Y = nx by omega] at this
        rw [hdr]
        simpa [Hid] using this
      have hnxb : 10000 ≤ nx + 514 * (n1 + 1) := by omega
      have hnxm : nx < 1099511637776 := by omega
      have hlom : lo < 1099511637776 := by omega
      have hin : i2 < n := by omega
      have hn8 : n1 < 8 := by omega
      clear hxy hx hy hdr hcell cx cy hx2 hy2 hX hY hlo hlo2 hnx HAC cy1 hxl hyl hi2
      go_wp2_with (first | ((with_reducible refine wpList_put_rw rfl 23 (.tmp 51) (.tmp 50) rfl w.heap.size 3 (.slice A7 (n1 + 1) c7) ?hx ?hy rfl rfl 26 (ackV d A1 n1 c1) R7.out sz_rngs ?hl ?_); (case hx => with_unfolding_all rfl); (case hy => with_unfolding_all rfl); (case hl => simp [ackV]); intro w8 R8 O8; have B8 : Hid (Below w.heap.size w w8) := ((B1.out.alloc B1.out.size _).trans (C7.out.mono (by omega))).trans (O8.out.below (Nat.le_trans B1.out.size (Nat.le_trans (by simp) C7.out.size)) (Nat.le_refl _)); have P8 := Lib.hid (O7.out.onlyA O8.out fun a ha => by have := (O7.out.blk a ha).1; omega); have cy8 : w8.cell? ⟨bk, off + (i2 + 1), none⟩ = some (.int .u8 (Y : Int)) := (World.cell?_of_block (O8.out.block bk (Nat.lt_of_lt_of_le hbk (Nat.le_trans B1.out.size (Nat.le_trans (by simp) C7.out.size))) (by omega))).trans ((Below.cell C7.out (p := ⟨bk, off + (i2 + 1), none⟩) (by show bk < _; omega)).trans (HCY.out _ ((Below.refl _ _).alloc (Nat.le_refl _) _))); have LT8 : Hid (w.heap.size < w8.heap.size) := R8.out.lt) | (at_builtin; refine wpList_append_ranges rfl _ _ rfl (w.heap.size + 1) (.slice A1 n1 c1) n1 acc rfl (OA.out.alloc _) wr.heap.size 0 1 1 [(lo, at1)] rfl (slR_lit wr lo at1) (by omega) (by omega) (Nat.le_trans LT.out (by simp)) _ (Below.refl _ _) ?_; intro A7 c7 w7 O7 G7 C7; have R7 := Lib.hid (Rw.grown (R1.out.alloc _) C7.out (Nat.lt_succ_self _))))
      go_roundw
      case rel => exact ⟨n1 + 1, nx, acc ++ [(lo, at1)], A7, n1 + 1, c7, by have := HI2.out; omega, rfl, by have := HI2.out; go_num, by go_num, hnxm, hnxb, HAC2, P8, R8, B8, LT8⟩
      case measure => simp [intOf]; omega
    · have hfin : acc = rs := by
        have := HAC.out
        have hd : gapsR at1 (gl.drop i2) = [] := by
          have hlen : (gl.drop i2).length ≤ 1 := by rw [List.length_drop, HGL.out]; omega
          match gl.drop i2, hlen with
          | [], _ => rfl
          | [a], _ => rfl
        rw [hd] at this
        simpa using this
      subst hfin
      clear HAC
      have hn1 : n1 = acc.length := OA.out.len.symm
      have hn1b : n1 = n / 2 := hn1.trans HRL.out
      have hn10 : 0 < n1 := by omega
      have OB := Lib.hid OA.out.bnd
      obtain ⟨gr, rfl, hgr, _⟩ := OA.out.at_ hn10
      have HGR := Lib.hid hgr
      obtain ⟨vs, hvs⟩ : ∃ vs, ackV d (some ⟨gr, 0, none⟩) n1 c1 = vs := ⟨_, rfl⟩
      have HVS := Lib.hid hvs
      have HSZ : Hid ((Try.prog.info? 26).map (·.size) = some vs.length) := show _ = _ by rw [← hvs]; exact fr_size
      have HPUT1 := Lib.hid (fun u h => HPUT.out u (some ⟨gr, 0, none⟩) n1 c1 h OB.out.1 OB.out.2)
      have HMAY1 := Lib.hid (fun u h => HMAY.out u (some ⟨gr, 0, none⟩) n1 c1 h OB.out.1 OB.out.2)
      have HMAY3 := Lib.hid (fun u b h => HMAY2.out u (some ⟨gr, 0, none⟩) n1 c1 b h OB.out.1 OB.out.2)
      have VK : Hid (∀ u, Rw u w.heap.size 26 vs → u.cell? ⟨w.heap.size, 2, none⟩ = some (.int .u64 (d : Int)) ∧ u.cell? ⟨w.heap.size, 3, none⟩ = some (.slice (some ⟨gr, 0, none⟩) n1 c1)) := fun u hu => by rw [← hvs] at hu; exact ⟨hu.cell 2 _ rfl, hu.cell 3 _ rfl⟩
      rw [hvs] at R1 HPUT1 HMAY1 HMAY3
      have HN1 := Lib.hid hn1
      have HN2 := Lib.hid hn1b
      clear hvs HPUT HMAY HMAY2 hn1 hn1b hgr k3
      go_wp2_with ((with_reducible refine wpList_load_rw rfl 26 (.tmp 8) rfl w.heap.size ?hx 26 vs ?hB _ Try.underlying26 rfl HSZ.out ?_); (case hx => with_unfolding_all rfl); (case hB => exact R1.out))
      (with_reducible refine (HPUT1.out wr OA.out.sl).mono ?_)
      rintro e2 w2 ⟨A2, n2, c2, rfl, o2, b2⟩
      have R2 := Lib.hid (R1.out.below b2)
      have P2 := Lib.hid (OA.out.below b2)
      have B2 := Lib.hid (B1.out.trans (b2.mono B1.out.size))
      have O2 := Lib.hid o2
      have ho2 := o2.len
      clear o2 b2
      go_wp2_with fail
      (with_reducible refine (HGET.out A2 n2 c2 w2 O2.out.sl O2.out.bnd.1 O2.out.bnd.2).mono ?_)
      rintro e3 w3 ⟨pg, rfl, hfo, b3⟩
      simp only at hfo
      simp only
      have R3 := Lib.hid (R2.out.below b3)
      have P3 := Lib.hid (P2.out.below b3)
      have B3 := Lib.hid (B2.out.trans (b3.mono B2.out.size))
      have F3 := Lib.hid hfo
      have HSZ2 := Lib.hid (frV_size (ackF d acc) pg)
      have HONE := Lib.hid (frV_one (ackF d acc) pg)
      have HL0 : Hid (fr0.length = (frV (ackF d acc) pg).length) := rfl
      obtain ⟨us, hus⟩ : ∃ us, frV (ackF d acc) pg = us := ⟨_, rfl⟩
      have UK : Hid (∀ (u : World) (g : Nat), Rw u g 26 us → u.cell? ⟨g, 2, none⟩ = some (.int .u64 (d : Int)) ∧ u.cell? ⟨g, 3, none⟩ = some (.slice pg.ra pg.rn pg.rc)) := fun u g hu => by rw [← hus] at hu; exact ⟨hu.cell 2 _ rfl, hu.cell 3 _ rfl⟩
      rw [hus] at HSZ2 HONE HL0 ⊢
      clear hfo b3 hus
      rw [ho2]
      go_wp2_with ((with_reducible refine wpList_store_rw rfl 26 (.tmp 12) (.tmp 66) rfl w3.heap.size us ?hx ?hy 26 fr0 ?hB HSZ2.out HL0.out HONE.out ?_); (case hx => with_unfolding_all rfl); (case hy => with_unfolding_all rfl); (case hB => exact heap_alloc_new w3 _); intro w4 Q4 O4; have b4 : Below w3.heap.size w3 w4 := ((Below.refl _ _).alloc (Nat.le_refl _) _).trans (O4.out.below (by simp) (Nat.le_refl _)); have R4 := Lib.hid (R3.out.below b4); have P4 := Lib.hid (P3.out.below b4); have B4 := Lib.hid (B3.out.trans (b4.mono B3.out.size)); have F4 := Lib.hid (F3.out.below b4); have S4 : Hid (SlR w4 w4.heap.size pg.ra pg.rn acc) := F4.out.r.sl; obtain ⟨v2, v3⟩ := VK.out w4 R4.out; obtain ⟨u2, u3⟩ := UK.out w4 w3.heap.size Q4.out; clear b4)
      (with_reducible refine (rsame_any acc acc pg.ra (some ⟨gr, 0, none⟩) pg.rn n1 pg.rc c1 w4.heap.size w4.heap.size w4 S4.out P4.out.sl ?hm true (by simp)).mono ?_)
      case hm => have := F4.out.r.bnd; omega
      rintro e5 w5 ⟨rfl, b5⟩
      have R5 := Lib.hid (R4.out.below b5)
      have P5 := Lib.hid (P4.out.below b5)
      have B5 := Lib.hid (B4.out.trans (b5.mono B4.out.size))
      clear b5 v2 v3 u2 u3
      go_wp2_with ((with_reducible refine wpList_load_rwG 93 rfl 26 (.tmp 8) rfl ?hw w.heap.size ?hx 26 vs R5.out _ Try.underlying26 rfl HSZ.out ?_); (case hw => rfl); (case hx => with_unfolding_all rfl))
      (with_reducible refine (HMAY1.out w5 P5.out.sl).mono ?_)
      rintro e6 w6 ⟨rfl, b6⟩
      have R6 := Lib.hid (R5.out.below b6)
      have P6 := Lib.hid (P5.out.below b6)
      have B6 := Lib.hid (B5.out.trans (b6.mono B5.out.size))
      clear b6
      obtain ⟨v2, v3⟩ := VK.out w6 R6.out
      have h0 := slR_at P6.out.sl 0 hn10
      rw [HR0.out.1] at h0
      simp only [Nat.zero_mul, Nat.add_zero, Nat.zero_add] at h0
      have c01 := h0.2
      have hcl := slR_at P6.out.sl (n1 - 1) (by omega)
      obtain ⟨m1, hm1⟩ : ∃ m1, n1 - 1 = m1 := ⟨_, rfl⟩
      rw [hm1] at hcl
      have c0l := hcl.2
      rw [Nat.zero_add] at c0l
      have f0l := P6.out.frozen (m1 * 2 + 1)
      have wn : IntKind.i64.wrap ((n1 : Int) - 1) = (m1 : Int) := by rw [show (n1 : Int) - 1 = (m1 : Int) by omega]; exact IntWalk.i64_in _ (by omega)
      have wt : IntKind.u64.wrap ((top : Int) + 1) = ((top + 1 : Nat) : Int) := by rw [wrap_u64N]; omega
      have hm1n : m1 < n1 := by omega
      have HM1 := Lib.hid hm1
      clear h0 hcl hm1
      go_wp2_with fail
      refine wp_tail 14 (by kernel_rfl) (by kernel_rfl) ?_
      simp only [List.take_succ_cons, List.take_zero, List.drop_succ_cons, List.drop_zero]
      repeat still_step
      refine wpStill_nil ?_
      go_wp2_with fail
      have H7 : Hid (OwnR (w6.setCell ⟨gr, m1 * 2 + 1, none⟩ (.int .u64 ((top : Int) + 1))).drew (w.heap.size + 1) (.slice (some ⟨gr, 0, none⟩) n1 c1) n1 rs2) := by
        have h1 := OwnR.stored (w := w6) P6.out m1 (top + 1) (by rw [← HN1.out]; exact hm1n)
        rw [show ((top + 1 : Nat) : Int) = (top : Int) + 1 by omega] at h1
        rw [← HM1.out, HN1.out, HR2.out] at h1
        rw [← HM1.out, HN1.out]
        exact h1
      have Q7 : Hid (Rw (w6.setCell ⟨gr, m1 * 2 + 1, none⟩ (.int .u64 ((top : Int) + 1))).drew w.heap.size 26 vs) := Rw.drew (R6.out.only ((Only.refl gr _).setCell _ _) (by have := HGR.out; omega))
      have B7 : Hid (Below w.heap.size w (w6.setCell ⟨gr, m1 * 2 + 1, none⟩ (.int .u64 ((top : Int) + 1))).drew) := (B6.out.trans (((Only.refl gr _).setCell _ _).below B6.out.size (by have := HGR.out; omega))).drew
      generalize hw7 : (w6.setCell ⟨gr, m1 * 2 + 1, none⟩ (.int .u64 ((top : Int) + 1))).drew = w7 at H7 Q7 B7 ⊢
      have h0 := slR_at H7.out.sl 0 hn10
      obtain ⟨hv, hhv⟩ : ∃ hv, (rs2.getD 0 (0, 0)).2 = hv := ⟨_, rfl⟩
      rw [hhv] at h0
      simp only [Nat.zero_mul, Nat.add_zero, Nat.zero_add] at h0
      have c71 := h0.2
      have HV1 : Hid (n1 = 1 → hv = top + 1) := fun h => by
        rw [← hhv, ← HR2.out, ← HN1.out, h]
        have : 0 < acc.length := by rw [← HN1.out]; exact hn10
        simp [this]
      clear h0 hhv v2 v3 c01 c0l f0l P6 R6 hw7
      obtain ⟨v2, v3⟩ := VK.out w7 Q7.out
      have HB7 : Hid (∀ u, Below w7.heap.size w7 u → Rw u w.heap.size 26 vs ∧ u.cell? ⟨gr, 1, none⟩ = some (.int .u64 (hv : Int))) := fun u hu => ⟨Q7.out.below hu, (Below.cell hu (p := ⟨gr, 1, none⟩) (World.block_lt_of_cell? _ _ c71)).trans c71⟩
      by_cases h1 : n1 = 1
      · subst h1
        have hv1 := HV1.out rfl
        have hgt : decide ((4611686018427387903 : Int) < (hv : Int)) = false := decide_eq_false (by omega)
        have HMB := Lib.hid (fun u h => HMAY3.out u true h ⟨fun _ => HM2.out.1 (by rw [← HN1.out]), fun _ => rfl⟩)
        clear hv1
        refine wp_held (S := fun u => Rw u w.heap.size 26 vs ∧ u.cell? ⟨gr, 1, none⟩ = some (.int .u64 (hv : Int))) (by kernel_rfl) ?_
        have b0 : Below w7.heap.size w7 w7.drew := (Below.refl _ _).drew
        have hS := HB7.out _ b0
        refine wpAnyH_pickG 0 (.agg vs.toArray) rfl (by kernel_rfl) (by kernel_rfl) (by kernel_rfl) (by rfl) (fun _ _ _ h => h) (fun u hu => exec_load_mid u 26 (.tmp 8) rfl w.heap.size 0 (by with_unfolding_all rfl) vs _ (range_row hu.1) Try.underlying26 rfl HSZ.out) hS ?_
        go_simp
        refine wpAnyH_take (i := 3) (v := ?_) rfl (by kernel_rfl) (by kernel_rfl) (by kernel_rfl) (fun _ _ _ h => h) (Or.inl ⟨by rfl, ?_⟩) hS ?_
        rotate_left 1
        · intro u hu
          go_simp
          first | done | with_reducible rfl
        go_simp
        refine wpAnyH_take (i := 4) (v := ?_) rfl (by kernel_rfl) (by kernel_rfl) (by kernel_rfl) (fun _ _ _ h => h) (Or.inl ⟨by rfl, ?_⟩) hS ?_
        rotate_left 1
        · intro u hu
          have hc := (VK.out u hu.1).2
          go_simp
          first | done | with_reducible rfl
        go_simp
        refine wpAnyH_take (i := 5) (v := ?_) rfl (by kernel_rfl) (by kernel_rfl) (by kernel_rfl) (fun _ _ _ h => h) (Or.inl ⟨by rfl, ?_⟩) hS ?_
        rotate_left 1
        · intro u hu
          go_simp
          first | done | with_reducible rfl
        go_simp
        refine wpAnyH_take (i := 6) (v := ?_) rfl (by kernel_rfl) (by kernel_rfl) (by kernel_rfl) (fun _ _ _ h => h) (Or.inl ⟨by rfl, ?_⟩) hS ?_
        rotate_left 1
        · intro u hu
          go_simp
          first | done | with_reducible rfl
        go_simp
        refine wpAnyH_oneG 1 (by kernel_rfl) rfl (by rfl) ?_
        go_wp2_with fail
        (with_reducible refine (HMB.out _ (H7.out.below b0).sl).mono ?_)
        rintro e21 w21 ⟨rfl, bb⟩
        have b1 := b0.trans (bb.mono b0.size)
        clear bb
        clear hS
        have hS := HB7.out _ b1
        refine ⟨hS, ?_⟩
        go_simp
        refine wpAnyH_take (i := 2) (v := ?_) rfl (by kernel_rfl) (by kernel_rfl) (by kernel_rfl) (fun _ _ _ h => h) (Or.inl ⟨by rfl, ?_⟩) hS ?_
        rotate_left 1
        · intro u hu
          go_simp
          first | done | with_reducible rfl
        go_simp
        refine wpAnyH_take (i := 7) (v := ?_) rfl (by kernel_rfl) (by kernel_rfl) (by kernel_rfl) (fun _ _ _ h => h) (Or.inl ⟨by rfl, ?_⟩) hS ?_
        rotate_left 1
        · intro u hu
          go_simp
          first | done | with_reducible rfl
        go_simp
        refine wpAnyH_take (i := 8) (v := ?_) rfl (by kernel_rfl) (by kernel_rfl) (by kernel_rfl) (fun _ _ _ h => h) (Or.inl ⟨by rfl, ?_⟩) hS ?_
        rotate_left 1
        · intro u hu
          go_simp
          first | done | with_reducible rfl
        go_simp
        refine wpAnyH_take (i := 9) (v := ?_) rfl (by kernel_rfl) (by kernel_rfl) (by kernel_rfl) (fun _ _ _ h => h) (Or.inl ⟨by rfl, ?_⟩) hS ?_
        rotate_left 1
        · intro u hu
          have hc := (VK.out u hu.1).2
          go_simp
          first | done | with_reducible rfl
        go_simp
        refine wpAnyH_take (i := 10) (v := ?_) rfl (by kernel_rfl) (by kernel_rfl) (by kernel_rfl) (fun _ _ _ h => h) (Or.inl ⟨by rfl, ?_⟩) hS ?_
        rotate_left 1
        · intro u hu
          go_simp
          first | done | with_reducible rfl
        go_simp
        refine wpAnyH_take (i := 11) (v := ?_) rfl (by kernel_rfl) (by kernel_rfl) (by kernel_rfl) (fun _ _ _ h => h) (Or.inl ⟨by rfl, ?_⟩) hS ?_
        rotate_left 1
        · intro u hu
          go_simp
          first | done | with_reducible rfl
        go_simp
        refine wpAnyH_take (i := 12) (v := ?_) rfl (by kernel_rfl) (by kernel_rfl) (by kernel_rfl) (fun _ _ _ h => h) (Or.inl ⟨by rfl, ?_⟩) hS ?_
        rotate_left 1
        · intro u hu
          have hc := hu.2
          go_simp
          first | done | with_reducible rfl
        go_simp
        refine wpAnyH_take (i := 13) (v := ?_) rfl (by kernel_rfl) (by kernel_rfl) (by kernel_rfl) (fun _ _ _ h => h) (Or.inl ⟨by rfl, ?_⟩) hS ?_
        rotate_left 1
        · intro u hu
          go_simp
          first | done | with_reducible rfl
        go_simp
        refine wpAnyH_take (i := 14) (v := ?_) rfl (by kernel_rfl) (by kernel_rfl) (by kernel_rfl) (fun _ _ _ h => h) (Or.inl ⟨by rfl, ?_⟩) hS ?_
        rotate_left 1
        · intro u hu
          go_simp
          first | done | with_reducible rfl
        go_simp
        refine wpAnyH_take (i := 15) (v := ?_) rfl (by kernel_rfl) (by kernel_rfl) (by kernel_rfl) (fun _ _ _ h => h) (Or.inl ⟨by rfl, ?_⟩) hS ?_
        rotate_left 1
        · intro u hu
          go_simp
          first | done | with_reducible rfl
        go_simp
        refine wpAnyH_take (i := 16) (v := ?_) rfl (by kernel_rfl) (by kernel_rfl) (by kernel_rfl) (fun _ _ _ h => h) (Or.inl ⟨by rfl, ?_⟩) hS ?_
        rotate_left 1
        · intro u hu
          go_simp
          first | done | with_reducible rfl
        go_simp
        refine wpAnyH_oneG 17 (by kernel_rfl) rfl (by rfl) ?_
        go_wp2_with fail
        (with_reducible refine (HAW.out _).mono ?_)
        rintro e22 w22 ⟨rfl, bb⟩
        have b2 := b1.trans (bb.mono b1.size)
        clear bb
        clear hS
        have hS := HB7.out _ b2
        refine ⟨hS, ?_⟩
        go_simp
        refine wpAnyH_take (i := 18) (v := ?_) rfl (by kernel_rfl) (by kernel_rfl) (by kernel_rfl) (fun _ _ _ h => h) (Or.inl ⟨by rfl, ?_⟩) hS ?_
        rotate_left 1
        · intro u hu
          go_simp
          first | done | with_reducible rfl
        go_simp
        refine wpAnyH_take (i := 19) (v := ?_) rfl (by kernel_rfl) (by kernel_rfl) (by kernel_rfl) (fun _ _ _ h => h) (Or.inl ⟨by rfl, ?_⟩) hS ?_
        rotate_left 1
        · intro u hu
          go_simp
          first | done | with_reducible rfl
        go_simp
        refine wpAnyH_done (by kernel_rfl) ?_ _
        go_wp2_with fail
        go_ret
        exact ⟨by first | rfl | simp, B7.out.trans (b2.mono B7.out.size)⟩
      · have hgt : decide ((1 : Int) < (n1 : Int)) = true := decide_eq_true (by omega)
        have HMB := Lib.hid (fun u h => HMAY3.out u false h ⟨fun h => by simp at h, fun h => absurd h (HM2.out.2 (by rw [← HN1.out]; omega))⟩)
        refine wp_held (S := fun u => Rw u w.heap.size 26 vs ∧ u.cell? ⟨gr, 1, none⟩ = some (.int .u64 (hv : Int))) (by kernel_rfl) ?_
        have b0 : Below w7.heap.size w7 w7.drew := (Below.refl _ _).drew
        have hS := HB7.out _ b0
        refine wpAnyH_pickG 0 (.agg vs.toArray) rfl (by kernel_rfl) (by kernel_rfl) (by kernel_rfl) (by rfl) (fun _ _ _ h => h) (fun u hu => exec_load_mid u 26 (.tmp 8) rfl w.heap.size 0 (by with_unfolding_all rfl) vs _ (range_row hu.1) Try.underlying26 rfl HSZ.out) hS ?_
        go_simp
        refine wpAnyH_take (i := 3) (v := ?_) rfl (by kernel_rfl) (by kernel_rfl) (by kernel_rfl) (fun _ _ _ h => h) (Or.inl ⟨by rfl, ?_⟩) hS ?_
        rotate_left 1
        · intro u hu
          go_simp
          first | done | with_reducible rfl
        go_simp
        refine wpAnyH_take (i := 4) (v := ?_) rfl (by kernel_rfl) (by kernel_rfl) (by kernel_rfl) (fun _ _ _ h => h) (Or.inl ⟨by rfl, ?_⟩) hS ?_
        rotate_left 1
        · intro u hu
          have hc := (VK.out u hu.1).2
          go_simp
          first | done | with_reducible rfl
        go_simp
        refine wpAnyH_take (i := 5) (v := ?_) rfl (by kernel_rfl) (by kernel_rfl) (by kernel_rfl) (fun _ _ _ h => h) (Or.inl ⟨by rfl, ?_⟩) hS ?_
        rotate_left 1
        · intro u hu
          go_simp
          first | done | with_reducible rfl
        go_simp
        refine wpAnyH_take (i := 6) (v := ?_) rfl (by kernel_rfl) (by kernel_rfl) (by kernel_rfl) (fun _ _ _ h => h) (Or.inl ⟨by rfl, ?_⟩) hS ?_
        rotate_left 1
        · intro u hu
          go_simp
          first | done | with_reducible rfl
        go_simp
        refine wpAnyH_oneG 1 (by kernel_rfl) rfl (by rfl) ?_
        go_wp2_with fail
        (with_reducible refine (HMB.out _ (H7.out.below b0).sl).mono ?_)
        rintro e21 w21 ⟨rfl, bb⟩
        have b1 := b0.trans (bb.mono b0.size)
        clear bb
        clear hS
        have hS := HB7.out _ b1
        refine ⟨hS, ?_⟩
        go_simp
        refine wpAnyH_take (i := 2) (v := ?_) rfl (by kernel_rfl) (by kernel_rfl) (by kernel_rfl) (fun _ _ _ h => h) (Or.inl ⟨by rfl, ?_⟩) hS ?_
        rotate_left 1
        · intro u hu
          go_simp
          first | done | with_reducible rfl
        go_simp
        refine wpAnyH_take (i := 7) (v := ?_) rfl (by kernel_rfl) (by kernel_rfl) (by kernel_rfl) (fun _ _ _ h => h) (Or.inl ⟨by rfl, ?_⟩) hS ?_
        rotate_left 1
        · intro u hu
          go_simp
          first | done | with_reducible rfl
        go_simp
        refine wpAnyH_take (i := 8) (v := undef) rfl (by kernel_rfl) (by kernel_rfl) (by kernel_rfl) (fun _ _ _ h => h) (Or.inr ⟨by rfl, rfl⟩) hS ?_
        go_simp
        refine wpAnyH_take (i := 9) (v := undef) rfl (by kernel_rfl) (by kernel_rfl) (by kernel_rfl) (fun _ _ _ h => h) (Or.inr ⟨by rfl, rfl⟩) hS ?_
        go_simp
        refine wpAnyH_take (i := 10) (v := undef) rfl (by kernel_rfl) (by kernel_rfl) (by kernel_rfl) (fun _ _ _ h => h) (Or.inr ⟨by rfl, rfl⟩) hS ?_
        go_simp
        refine wpAnyH_take (i := 11) (v := undef) rfl (by kernel_rfl) (by kernel_rfl) (by kernel_rfl) (fun _ _ _ h => h) (Or.inr ⟨by rfl, rfl⟩) hS ?_
        go_simp
        refine wpAnyH_take (i := 12) (v := undef) rfl (by kernel_rfl) (by kernel_rfl) (by kernel_rfl) (fun _ _ _ h => h) (Or.inr ⟨by rfl, rfl⟩) hS ?_
        go_simp
        refine wpAnyH_take (i := 13) (v := undef) rfl (by kernel_rfl) (by kernel_rfl) (by kernel_rfl) (fun _ _ _ h => h) (Or.inr ⟨by rfl, rfl⟩) hS ?_
        go_simp
        refine wpAnyH_take (i := 14) (v := ?_) rfl (by kernel_rfl) (by kernel_rfl) (by kernel_rfl) (fun _ _ _ h => h) (Or.inl ⟨by rfl, ?_⟩) hS ?_
        rotate_left 1
        · intro u hu
          go_simp
          first | done | with_reducible rfl
        go_simp
        refine wpAnyH_take (i := 15) (v := ?_) rfl (by kernel_rfl) (by kernel_rfl) (by kernel_rfl) (fun _ _ _ h => h) (Or.inl ⟨by rfl, ?_⟩) hS ?_
        rotate_left 1
        · intro u hu
          go_simp
          first | done | with_reducible rfl
        go_simp
        refine wpAnyH_take (i := 16) (v := ?_) rfl (by kernel_rfl) (by kernel_rfl) (by kernel_rfl) (fun _ _ _ h => h) (Or.inl ⟨by rfl, ?_⟩) hS ?_
        rotate_left 1
        · intro u hu
          go_simp
          first | done | with_reducible rfl
        go_simp
        refine wpAnyH_oneG 17 (by kernel_rfl) rfl (by rfl) ?_
        go_wp2_with fail
        (with_reducible refine (HAW.out _).mono ?_)
        rintro e22 w22 ⟨rfl, bb⟩
        have b2 := b1.trans (bb.mono b1.size)
        clear bb
        clear hS
        have hS := HB7.out _ b2
        refine ⟨hS, ?_⟩
        go_simp
        refine wpAnyH_take (i := 18) (v := ?_) rfl (by kernel_rfl) (by kernel_rfl) (by kernel_rfl) (fun _ _ _ h => h) (Or.inl ⟨by rfl, ?_⟩) hS ?_
        rotate_left 1
        · intro u hu
          go_simp
          first | done | with_reducible rfl
        go_simp
        refine wpAnyH_take (i := 19) (v := ?_) rfl (by kernel_rfl) (by kernel_rfl) (by kernel_rfl) (fun _ _ _ h => h) (Or.inl ⟨by rfl, ?_⟩) hS ?_
        rotate_left 1
        · intro u hu
          go_simp
          first | done | with_reducible rfl
        go_simp
        refine wpAnyH_done (by kernel_rfl) ?_ _
        go_wp2_with fail
        go_ret
        exact ⟨by first | rfl | simp, B7.out.trans (b2.mono B7.out.size)⟩
end Go.Proofs.Ytegoabbpjdcjeaa
