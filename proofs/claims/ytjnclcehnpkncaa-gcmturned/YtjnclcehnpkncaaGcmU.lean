/-
  The document's own stream: the contract of its turn.
-/
import Derived.Test.YtjnclcehnpkncaaGcmT
import Derived.Test.YtjnclcehnpkncaaGcmF
namespace Go.Proofs.Ytjnclcehnpkncaa
open Go.RowKit
set_option linter.unusedVariables false

/-- 'make([]byte, S)' -/
theorem run_make_full (S : Nat) (hS : S ≤ 70368744177664) (u : World) : (Instr.makeSlice 24 (.int .i64 (S : Int)) (.int .i64 (S : Int))).run Try.prog u =
      .ok (.slice (some ⟨u.heap.size, 0, none⟩) S S) (u.alloc (.cells (madeCells #[.int .u8 0] S) 5)) := by
  obtain ⟨i, hi, hz0, hz1, hz2⟩ := info_parts byte_info
  have h := run_make (P := Try.prog) u 24 5 i (.int .u8 0) Try.underlying24 hi hz0 .i64 .i64 (S : Int) (S : Int) (by omega) (Int.le_refl _) (by rw [hz2]; omega) (by omega)
  simpa [hz1, Value.cells] using h
theorem made_zeros (S : Nat) : madeCells #[.int .u8 0] S = (bvs (List.replicate S 0)).toArray := by
  rw [← zeros_bvs]
  apply Array.ext'
  rw [toList_madeCells_one]
theorem Blk.own {w : World} {g n B : Nat} {l : List UInt8} (h : Blk w g 5 l) (hn : l.length = n) (hB : B ≤ g) (hm : n ≤ maxLen) : Own w B (.slice (some ⟨g, 0, none⟩) n n) n l :=
  ⟨by rw [bvs_length, hn]; omega, .inr ⟨g, n, (bvs l).toArray, rfl, hB, h, Nat.le_refl _, hm, by simp [bvs_length, hn], by simp only [Nat.mul_one]; rw [List.take_of_length_le (by simp [bvs_length, hn])]⟩⟩
/-- what stands in memory while the document turns a text -/
structure RtW (w wr : World) (gc : Nat) (key nonce row : List UInt8) : Prop where
  c : Blk wr gc 65 (cipV key)
  n : Blk wr w.heap.size 23 nonce
  o : Blk wr (w.heap.size + 1) 5 row
  b : Below w.heap.size w wr
theorem RtW.drew {w wr : World} {gc : Nat} {key nonce row : List UInt8} (h : RtW w wr gc key nonce row) : RtW w wr.drew gc key nonce row := ⟨h.c, h.n, h.o, h.b.drew⟩
theorem RtW.below {w wr wx : World} {gc : Nat} {key nonce row : List UInt8} (h : RtW w wr gc key nonce row) (hb : Below wr.heap.size wr wx) : RtW w wx gc key nonce row := ⟨h.c.below hb, h.n.below hb, h.o.below hb, h.b.trans (hb.mono h.b.size)⟩
theorem RtW.put {w wr : World} {gc : Nat} {key nonce row : List UInt8} (h : RtW w wr gc key nonce row) (hg : gc < w.heap.size) (i : Nat) (x : UInt8) (row' : List UInt8) (e : row.set i x = row') : RtW w (wr.setCell ⟨w.heap.size + 1, i, none⟩ (.int .u8 (bn x))) gc key nonce row' :=
  ⟨h.c.other _ _ _ (by omega), h.n.other _ _ _ (by omega), by rw [← e]; exact h.o.put i x, h.b.setCell (by show _ ≤ w.heap.size + 1; omega) _⟩

attribute [local go_sem] u8_xor'
set_option maxHeartbeats 4000000 in
theorem rturn_any (key nonce text : List UInt8) (hk : key.length = 16) (hno : nonce.length = 12) (gc : Nat) (A : Option Addr) (n c B : Nat) (w : World) (hcb : Blk w gc 65 (cipV key)) (hs : Sl w B A n text) (hB : B ≤ w.heap.size) (hn : n ≤ 1000000) :
    Calls Try.prog 25 #[.pointer (some ⟨gc, 0, none⟩), .agg (bvs nonce).toArray, .slice A n c] w (MakesBytes w n (turnG key nonce text)) := by
  have Hk := Lib.hid hk
  have Hno := Lib.hid hno
  have HS := Lib.hid hs
  have HB := Lib.hid hB
  have hgc := hcb.lt
  have HC := Lib.hid hcb
  have Htl := Lib.hid hs.1
  obtain ⟨T, hT⟩ : ∃ T, turnG key nonce text = T := ⟨_, rfl⟩
  have HTL : Hid (T.length = n) := show _ = _ by rw [← hT, turnG_length]; exact hs.1
  have HT : Hid (∀ k i, i < 16 → 16 * k + i < n → T.getD (16 * k + i) 0 = text.getD (16 * k + i) 0 ^^^ (blockV key (cntV nonce (2 + k))).getD i 0) := fun k i hi hlt => by
    rw [← hT, turnG_getD _ _ _ _ (by rw [hs.1]; exact hlt), ks_at _ _ _ _ hi]
  rw [hT]
  have hmk := run_make_full n (by omega)
  clear hk hno hs hB hcb hT
  go_enter Try.func25, Try.ntmps25
  go_wp2_with fail
  clear hmk
  go_loopw [8] (fun v8 wr => ∃ k m : Nat, 16 * k < n + 16 ∧ Hid (m = min (16 * k) n) ∧ v8 = .int .i64 (16 * k : Nat) ∧ Hid (RtW w wr gc key nonce (mixr T (List.replicate n 0) m))) (fun v8 _ => n + 16 - (intOf v8).toNat)
  case atStart =>
    refine ⟨0, 0, by omega, show _ = _ by omega, rfl, ?_⟩
    have hb : Below w.heap.size w ((w.alloc (.cells (bvs nonce).toArray 23)).alloc (.cells (madeCells #[.int .u8 0] n) 5)) := ((Below.refl _ _).alloc (Nat.le_refl _) _).alloc (by simp) _
    exact ⟨HC.out.below hb, heap_allocs w [_, _] 0 _ rfl, heap_allocs w [_, _] 1 _ (by rw [mixr_zero, ← made_zeros]; rfl), hb⟩
  case round =>
    obtain ⟨k, m, hk, Hm, rfl, HW⟩ := hrel
    obtain ⟨at_, hat⟩ : ∃ a, 16 * k = a := ⟨_, rfl⟩
    rw [hat] at hk Hm ⊢
    have HAt := Lib.hid hat
    by_cases hlt : at_ < n
    · obtain ⟨b, off, rfl, hbB, hcell⟩ := HS.out.2 (by omega)
      have hme : m = at_ := by have := Hm.out; omega
      subst hme
      obtain ⟨cn, hcn⟩ : ∃ x, 2 + k = x := ⟨_, rfl⟩
      have HCn := Lib.hid hcn
      have hq : (m : Int).tdiv 16 = (k : Int) := by show ((m / 16 : Nat) : Int) = _; omega
      have hci : (2 : Int) + (k : Int) = (cn : Int) := by omega
      have hcn2 : cn < 100000 := by omega
      have vcn : IntKind.u32.wrap (cn : Int) = (cn : Int) := by simp [IntKind.wrap, IntKind.bits, IntKind.signed]; omega
      obtain ⟨mk, hmkv⟩ : ∃ x, blockV key (cntV nonce cn) = x := ⟨_, rfl⟩
      have HMk := Lib.hid hmkv
      have HML : Hid (mk.length = 16) := show _ = _ by rw [← hmkv]; exact blockV_length _ _ Hk.out (cntV_length _ _ Hno.out)
      have lm : (m : Int) < (n : Int) := by omega
      clear hat hcn hcell hmkv
      go_wp2_with (first
        | ((with_reducible refine wpList_load_blk rfl 23 (.tmp 4) rfl w.heap.size ?hx 23 nonce HW.out.n 12 5 Try.underlying23 12 size12 Hno.out ?_); (case hx => with_unfolding_all rfl))
        | (go_at_call 38; (with_reducible refine (rcount_any nonce Hno.out cn (by omega) _).mono ?_); rintro e1 w1 ⟨rfl, hb1⟩; have HW1 := Lib.hid (HW.out.below hb1); clear hb1)
        | (go_at_call 37; (with_reducible refine (cblock_any key _ Hk.out (cntV_length _ _ Hno.out) gc _ HW1.out.c).mono ?_); rintro e2 w2 ⟨rfl, hb2⟩; rw [HMk.out]; have HW2 := Lib.hid (HW1.out.below hb2); clear hb2)
        | ((with_reducible refine wpList_store_blk rfl 22 (.tmp 9) (.tmp 27) rfl w2.heap.size mk ?hx ?hy 22 (List.replicate 16 0) ?hg 16 sizeRow HML.out ?ho ?_); (case hx => with_unfolding_all rfl); (case hy => with_unfolding_all rfl); (case hg => exact heap_alloc_new _ _); (case ho => rfl); intro w3 K3 O3))
      have b3 : Below w2.heap.size w2 w3 := ((Below.refl _ _).alloc (Nat.le_refl _) _).trans (O3.out.below (by simp) (Nat.le_refl _))
      have HW3 := Lib.hid (HW2.out.below b3)
      have hg9 : w.heap.size + 1 < w2.heap.size := HW2.out.o.lt
      obtain ⟨g9, eg9⟩ : ∃ g, w2.heap.size = g := ⟨_, rfl⟩
      rw [eg9] at K3 hg9 ⊢
      clear b3 eg9 O3 HW HW1 HW2
      go_loopw [10] (fun v10 wi => ∃ i : Nat, i ≤ 16 ∧ m + i ≤ n ∧ v10 = .int .i64 i ∧ Hid (RtW w wi gc key nonce (mixr T (List.replicate n 0) (m + i))) ∧ Hid (Blk wi g9 22 mk)) (fun v10 _ => 16 - (intOf v10).toNat)
      case atStart => exact ⟨0, by omega, by omega, rfl, HW3, K3⟩
      case round =>
        clear HW3 K3
        obtain ⟨i, hi, hin, rfl, HW, HK⟩ := hrel
        by_cases hgo : i < 16 ∧ m + i < n
        · obtain ⟨x, hx⟩ : ∃ x, text.getD (m + i) 0 = x := ⟨_, rfl⟩
          obtain ⟨y, hy⟩ : ∃ y, mk.getD i 0 = y := ⟨_, rfl⟩
          have hB := HB.out
          have htl := Htl.out
          have hTl := HTL.out
          obtain ⟨mi, hmi⟩ : ∃ z, m + i = z := ⟨_, rfl⟩
          have cd : wr.cell? ⟨b, off + mi, none⟩ = some (.int .u8 (bn x)) := by
            rw [← hmi, ← hx]
            exact (HS.out.below (HW.out.b.mono hB)).cellD (m + i) (by omega)
          have ce : wr.cell? ⟨g9, i, none⟩ = some (.int .u8 (bn y)) := by rw [HK.out.cell i (by have := HML.out; omega), hy]
          have cg := HW.out.o.cell (m + i) (by rw [mixr_length _ _ _ (by simp [hTl])]; simp; omega)
          have cf := HW.out.o.frozen (m + i)
          have HN : Hid ((mixr T (List.replicate n 0) (m + i)).set mi (x ^^^ y) = mixr T (List.replicate n 0) (m + (i + 1))) := show _ = _ by
            have e1 := HAt.out
            have e2 := HCn.out
            rw [← hx, ← hy, ← HMk.out, ← e2, ← hmi, ← Nat.add_assoc, ← e1, ← HT.out k i hgo.1 (by omega)]
            exact mixr_set _ _ _ (by simp [hTl]) (by simp; omega)
          rw [hmi] at cg cf
          have emi : (m : Int) + (i : Int) = (mi : Int) := by omega
          have t1 : decide ((i : Int) < 16) = true := by simp; omega
          have t2 : decide ((mi : Int) < (n : Int)) = true := by simp; omega
          have lmi : (mi : Int) < (n : Int) := by omega
          have li : (i : Int) < 16 := by omega
          have vmi : IntKind.i64.wrap (mi : Int) = (mi : Int) := IntWalk.i64_in _ (by omega)
          have Hgo := Lib.hid hgo
          clear hx hy htl hTl hgo hmi
          go_wp2_with fail
          refine wp_tail 15 (by kernel_rfl) (by kernel_rfl) ?_
          simp only [List.take_succ_cons, List.take_zero, List.drop_succ_cons, List.drop_zero]
          repeat still_step
          refine wpStill_nil ?_
          go_wp2
          go_roundw
          case rel =>
            have hfin : Hid (RtW w (wr.setCell ⟨w.heap.size + 1, mi, none⟩ (.int .u8 (bn (x ^^^ y)))).drew gc key nonce (mixr T (List.replicate n 0) (m + (i + 1)))) := (HW.out.put hgc mi _ _ HN.out).drew
            have hk9 : Hid (Blk (wr.setCell ⟨w.heap.size + 1, mi, none⟩ (.int .u8 (bn (x ^^^ y)))).drew g9 22 mk) := (HK.out.other _ _ _ (by omega)).drew
            have h2 := Hgo.out
            first
              | exact ⟨i + 1, by omega, by omega, by go_num, hfin, hk9⟩
              | ((repeat apply Exists.intro); exact ⟨⟨i + 1, by omega, by omega, by go_num, hfin, hk9⟩, rfl⟩)
          case measure => simp [intOf]; omega
        · have HE : Hid (m + i = min (16 * (k + 1)) n) := show _ = _ by have := HAt.out; omega
          have hways : (decide ((i : Int) < 16) = false) ∨ (decide ((i : Int) < 16) = true ∧ decide ((m : Int) + (i : Int) < (n : Int)) = false) := by
            by_cases h16 : i < 16
            · exact .inr ⟨by simp; omega, by simp; omega⟩
            · exact .inl (by simp; omega)
          have vmi : IntKind.i64.wrap ((m : Int) + (i : Int)) = (m : Int) + (i : Int) := IntWalk.i64_in _ (by omega)
          have Hgo := Lib.hid hgo
          clear hgo
          rcases hways with t1 | ⟨t1, t2⟩
          all_goals
            go_wp2_with fail
            go_roundw
            case rel =>
              have e1 := HAt.out
              first
                | exact ⟨k + 1, m + i, by omega, HE, by rw [← e1]; go_num, HW⟩
                | ((repeat apply Exists.intro); exact ⟨⟨k + 1, m + i, by omega, HE, by rw [← e1]; go_num, HW⟩, rfl⟩)
            case measure => simp [intOf]; omega
    · have hmn : m = n := by have := Hm.out; omega
      subst hmn
      have HO : Hid (Own wr w.heap.size (.slice (some ⟨w.heap.size + 1, 0, none⟩) m m) m T) := by
        have h := HW.out.o
        rw [mixr_full _ _ _ (by simp [HTL.out]) (by simp)] at h
        exact h.own HTL.out (by omega) (by unfold maxLen; omega)
      have HBw := Lib.hid HW.out.b
      clear HW hat
      go_wp2_with fail
      go_ret
      exact ⟨_, m, rfl, HO.out, Nat.le_refl _, by unfold maxLen; omega, HBw.out⟩
end Go.Proofs.Ytjnclcehnpkncaa
