/-
  The contracts of the document's own MAC and Extract.
-/
import Derived.Test.YtnjdloocalfkmaaDoorHkB
import Derived.Test.YtnjdloocalfkmaaDoorHkE
import Derived.Test.YtnjdloocalfkmaaDoorShaO
import Derived.Deep.RegionHeld3
namespace Go.Proofs.YtnjdloocalfkmaaDoor
open Go.RowKit Go.Joins
set_option linter.unusedVariables false

/-- the first i bytes crossed, zeros behind -/
def irow (x : UInt8) (l : List UInt8) (i : Nat) : List UInt8 := xV x (l.take i) ++ List.replicate (64 - i) 0
theorem irow_length (x : UInt8) (l : List UInt8) (i : Nat) (hl : l.length = 64) (hi : i ≤ 64) : (irow x l i).length = 64 := by simp [irow, xV, hl]; omega
theorem irow_set (x : UInt8) (l : List UInt8) (i : Nat) (hl : l.length = 64) (hi : i < 64) : (irow x l i).set i (l.getD i 0 ^^^ x) = irow x l (i + 1) := by
  have h : i < l.length := by omega
  have hlen : (xV x (l.take i)).length = i := by simp [xV]; omega
  unfold irow
  rw [List.set_append, if_neg (by omega), hlen, Nat.sub_self]
  obtain ⟨k, hk⟩ : ∃ k, 64 - i = k + 1 := ⟨63 - i, by omega⟩
  rw [hk, List.replicate_succ, List.set_cons_zero, List.take_succ_eq_append_getElem h, show 64 - (i + 1) = k by omega]
  simp only [xV, List.map_append, List.map_cons, List.map_nil, List.append_assoc, List.cons_append, List.nil_append]
  congr 2
  simp [h]
theorem irow_full (x : UInt8) (l : List UInt8) (hl : l.length = 64) : irow x l 64 = xV x l := by
  unfold irow
  rw [List.take_of_length_le (by omega)]
  simp
theorem irow_zero (x : UInt8) (l : List UInt8) : irow x l 0 = List.replicate 64 0 := by simp [irow, xV]
theorem kb_at (key : List UInt8) (i : Nat) (hi : i < 64) : (kbV key).getD i 0 = (keyV key).getD i 0 := by
  unfold kbV
  by_cases h : i < (keyV key).length
  · simp [List.getD_eq_getElem?_getD, List.getElem?_append, h]
  · have h2 : ¬ i < (keyV key).length := h
    simp [List.getD_eq_getElem?_getD, List.getElem?_append, h2]
    rw [List.getElem?_replicate]
    split <;> simp

structure RMac (w wx : World) (bk gi go i nk : Nat) (Ak : Option Addr) (key : List UInt8) : Prop where
  res : wx.heap[w.heap.size]? = some (.cells (List.replicate 32 (.int .u8 0)).toArray 27 (0, 0))
  bi : wx.heap[gi]? = some (.cells (bvs (irow 54 (kbV key) i)).toArray 5 (0, 0))
  bo : wx.heap[go]? = some (.cells (bvs (irow 92 (kbV key) i)).toArray 5 (0, 0))
  ks : Sl wx bk Ak nk (keyV key)
  ne : gi ≠ go ∧ w.heap.size < gi ∧ w.heap.size < go ∧ bk ≤ gi ∧ bk ≤ go
  bl : Below w.heap.size w wx

theorem RMac.size {w wx : World} {bk gi go i nk : Nat} {Ak : Option Addr} {key : List UInt8} (h : RMac w wx bk gi go i nk Ak key) : gi < wx.heap.size ∧ go < wx.heap.size :=
  ⟨(Array.getElem?_eq_some_iff.1 h.bi).1, (Array.getElem?_eq_some_iff.1 h.bo).1⟩
theorem RMac.put {w wx : World} {bk gi go i nk : Nat} {Ak : Option Addr} {key : List UInt8} (h : RMac w wx bk gi go i nk Ak key) (hi : i < 64) (V W : Value) (hV : V = bv ((kbV key).getD i 0 ^^^ 54)) (hW : W = bv ((kbV key).getD i 0 ^^^ 92)) :
    RMac w ((wx.setCell ⟨gi, i, none⟩ V).setCell ⟨go, i, none⟩ W) bk gi go (i + 1) nk Ak key := by
  subst hV hW
  obtain ⟨n1, n2, n3, n4, n5⟩ := h.ne
  have hl := kbV_length key
  refine ⟨?_, ?_, ?_, ?_, h.ne, ?_⟩
  · rw [heap_setCell_other _ _ _ _ (by simp; omega), heap_setCell_other _ _ _ _ (by simp; omega)]; exact h.res
  · rw [heap_setCell_other _ _ _ _ (by simpa using n1), heap_setCell_same _ _ _ _ _ _ h.bi, List.setIfInBounds_toArray, ← irow_set 54 _ i hl hi]
    simp [bvs, List.map_set]
  · have h0 : (wx.setCell ⟨gi, i, none⟩ (bv ((kbV key).getD i 0 ^^^ 54))).heap[go]? = some (.cells (bvs (irow 92 (kbV key) i)).toArray 5 (0, 0)) := by
      rw [heap_setCell_other _ _ _ _ (by simpa using fun e => n1 e.symm)]; exact h.bo
    rw [heap_setCell_same _ _ _ _ _ _ h0, List.setIfInBounds_toArray, ← irow_set 92 _ i hl hi]
    simp [bvs, List.map_set]
  · refine h.ks.keep fun p hp => ?_
    rw [World.cell?_of_block (w := wx.setCell ⟨gi, i, none⟩ _) (heap_setCell_other _ _ _ _ (by simp; omega)), World.cell?_of_block (w := wx) (heap_setCell_other _ _ _ _ (by simp; omega))]
  · exact (h.bl.setCell (by simp; omega) _).setCell (by simp; omega) _
theorem getD_past (l : List UInt8) (i : Nat) (h : l.length ≤ i) : l.getD i 0 = 0 := by
  rw [List.getD_eq_getElem?_getD, List.getElem?_eq_none h]; rfl
theorem u8_x54 (y : UInt8) : bits .xor .u8 (bn y) 54 = bn (y ^^^ 54) := u8_xor' y 54
theorem u8_x92 (y : UInt8) : bits .xor .u8 (bn y) 92 = bn (y ^^^ 92) := u8_xor' y 92
theorem own_name {g n c : Nat} : (Value.slice (some ⟨g, 0, none⟩) n c).ownBlock = some g := rfl

attribute [local go_sem] u8_x54 u8_x92
set_option maxHeartbeats 1000000 in
theorem rmac_short (key text : List UInt8) (A A2 : Option Addr) (n c m c2 B : Nat) (w : World) (hs : Sl w B A n key) (ht : Sl w B A2 m text) (hB : B ≤ w.heap.size) (hn : n ≤ 64) (hm : m ≤ 1000000) :
    Calls Tryd.prog 13 #[.slice A n c, .slice A2 m c2] w fun e w' => e = .returned (.agg (bvs (macV key text)).toArray) ∧ Below w.heap.size w w' := by
  have HS := Lib.hid hs
  have HT := Lib.hid ht
  have HKy : Hid (keyV key = key) := by
    show _ = _
    unfold keyV
    rw [if_neg (by rw [hs.1]; omega)]
  have t1 : decide ((64 : Int) < (n : Int)) = false := by simp; omega
  have hmk : ∀ u : World, (Instr.makeSlice 22 (.int .i64 64) (.int .i64 64)).run Tryd.prog u = .ok (.slice (some ⟨u.heap.size, 0, none⟩) 64 64) (u.alloc (.cells (madeCells #[.int .u8 0] 64) 5)) := run_make_bytes 64 (by omega)
  clear hs ht
  go_enter Tryd.func13, Tryd.ntmps13
  go_wp2_with (at_builtin; (refine wpList_append_bytesN rfl (.const (.slice none 0 0)) (.tmp 12) rfl (w.heap.size + 1) (.slice none 0 0) 0 n n [] key key rfl (Own.nil _ _) B A c rfl ?hsl (by omega) rfl (by omega) ?hba (w.alloc (.cells (List.replicate 32 (.int .u8 0)).toArray 27)) ?hbe ?_); (case hsl => exact HS.out.below ((Below.refl _ _).alloc hB _)); (case hba => simp); (case hbe => exact Below.refl _ _); intro A1 c1 w1 HO1 hle1 hcm1 HB1; have hz1 := HB1.out.size)
  simp at hz1
  have HRes : Hid (w1.heap[w.heap.size]? = some (.cells (List.replicate 32 (.int .u8 0)).toArray 27 (0, 0))) := by
    show _ = _
    rw [HB1.out.block _ (by omega)]; exact heap_alloc_new _ _
  have HKs : Hid (Sl w1 w1.heap.size A1 n (keyV key)) := by
    show Sl _ _ _ _ _
    rw [HKy.out]; exact HO1.out.sl
  have HBk : Hid (Below w.heap.size w w1) := ((Below.refl _ _).alloc (Nat.le_refl _) _).trans (HB1.out.mono (by omega))
  clear HO1 HB1
  go_region_held3 (fun u => True) (first | go_keep | trivial) (fail)
  · have HR0 : Hid (RMac w (((w1.alloc (.cells (madeCells #[.int .u8 0] 64) 5)).alloc (.cells (madeCells #[.int .u8 0] 64) 5)).drew) w1.heap.size (w1.heap.size) (w1.heap.size + 1) 0 n A1 key) := by
      refine ⟨?_, ?_, ?_, ?_, ⟨by omega, by omega, by omega, by omega, by omega⟩, ?_⟩
      · show (((w1.alloc _).alloc _)).heap[w.heap.size]? = _
        rw [Below.heap_alloc _ _ _ (by simp; omega), Below.heap_alloc _ _ _ (by omega)]; exact HRes.out
      · rw [irow_zero, ← zeros_bvs, ← madeCells_eq]
        exact heap_allocs w1 [_, _] 0 _ rfl
      · rw [irow_zero, ← zeros_bvs, ← madeCells_eq]
        exact heap_allocs w1 [_, _] 1 _ rfl
      · exact HKs.out.below ((((Below.refl _ _).alloc (Nat.le_refl _) _).alloc (by simp) _).drew)
      · exact HBk.out.trans ((((((Below.refl _ _).alloc (Nat.le_refl _) _).alloc (by simp) _).drew)).mono (by omega))
    obtain ⟨gi, hgi⟩ : ∃ gi, w1.heap.size = gi := ⟨_, rfl⟩
    obtain ⟨go, hgo⟩ : ∃ go, w1.heap.size + 1 = go := ⟨_, rfl⟩
    obtain ⟨wx, hwx⟩ : ∃ wx, ((w1.alloc (.cells (madeCells #[.int .u8 0] 64) 5)).alloc (.cells (madeCells #[.int .u8 0] 64) 5)).drew = wx := ⟨_, rfl⟩
    rw [hgo] at HR0 ⊢
    rw [hgi] at HR0 ⊢
    rw [hwx] at HR0 ⊢
    clear hwx hgi hgo HRes HKs HBk
    go_wp2_with fail
    go_loopw [9] (fun iv wr => ∃ i : Nat, i ≤ 64 ∧ iv = .int .i64 (i : Int) ∧ Hid (RMac w wr gi gi go i n A1 key)) (fun iv _ => 64 - (intOf iv).toNat)
    case atStart => exact ⟨0, by omega, rfl, HR0⟩
    case round =>
      clear HR0
      obtain ⟨i, hi, rfl, HR⟩ := hrel
      obtain ⟨n1, n2, n3, n4, n5⟩ := HR.out.ne
      have hkbl := kbV_length key
      by_cases hlt : i < 64
      · have li : (i : Int) < 64 := by omega
        have ci : wr.cell? ⟨gi, i, none⟩ = some (bv ((irow 54 (kbV key) i).getD i 0)) := by
          rw [cell_of_row _ _ _ _ _ _ HR.out.bi, List.getElem?_toArray]
          have := irow_length 54 (kbV key) i hkbl hi
          simp [bvs, this, hlt]
        have co : wr.cell? ⟨go, i, none⟩ = some (bv ((irow 92 (kbV key) i).getD i 0)) := by
          rw [cell_of_row _ _ _ _ _ _ HR.out.bo, List.getElem?_toArray]
          have := irow_length 92 (kbV key) i hkbl hi
          simp [bvs, this, hlt]
        obtain ⟨v1, hv1⟩ : ∃ v, bv ((irow 54 (kbV key) i).getD i 0) = v := ⟨_, rfl⟩
        obtain ⟨v2, hv2⟩ : ∃ v, bv ((irow 92 (kbV key) i).getD i 0) = v := ⟨_, rfl⟩
        rw [hv1] at ci
        rw [hv2] at co
        have fi : wr.frozen? ⟨gi, i, none⟩ = false := frozen_of_row _ _ _ _ _ HR.out.bi
        have fo : wr.frozen? ⟨go, i, none⟩ = false := frozen_of_row _ _ _ _ _ HR.out.bo
        have n1' : ¬ go = gi := fun e => n1 e.symm
        have hke := kb_at key i hlt
        have hkl := HR.out.ks.1
        clear hv1 hv2 hkbl
        by_cases hik : i < n
        · obtain ⟨b, off, hAk, hbB, hcell⟩ := HR.out.ks.2 (by omega)
          obtain ⟨y, hy⟩ : ∃ y, (keyV key).getD i 0 = y := ⟨_, rfl⟩
          have ck : wr.cell? ⟨b, off + i, none⟩ = some (.int .u8 (bn y)) := by
            have hik' : i < (keyV key).length := by omega
            rw [hcell i hik', ← hy]
            simp [bv, bn, hik']
          have hput := HR.out.put hlt (.int .u8 (bn (y ^^^ 54))) (.int .u8 (bn (y ^^^ 92))) (by rw [hke, hy]; rfl) (by rw [hke, hy]; rfl)
          have HP := Lib.hid hput
          subst hAk
          clear hput hcell hy hke hkl
          go_wp2_with fail
          go_roundw
          case rel => exact ⟨i + 1, by omega, by go_num, HP.out⟩
          case measure => simp [intOf]; omega
        · have hput := HR.out.put hlt (.int .u8 54) (.int .u8 92) (by rw [hke, getD_past _ _ (by omega)]; rfl) (by rw [hke, getD_past _ _ (by omega)]; rfl)
          have HP := Lib.hid hput
          clear hput hke hkl
          go_wp2_with fail
          go_roundw
          case rel => exact ⟨i + 1, by omega, by go_num, HP.out⟩
          case measure => simp [intOf]; omega
      · obtain rfl : i = 64 := by omega
        have bi := HR.out.bi
        have bo := HR.out.bo
        rw [irow_full _ _ hkbl] at bi bo
        obtain ⟨x1, hx1⟩ : ∃ x1, xV 54 (kbV key) = x1 := ⟨_, rfl⟩
        obtain ⟨x2, hx2⟩ : ∃ x2, xV 92 (kbV key) = x2 := ⟨_, rfl⟩
        obtain ⟨s1, hs1⟩ : ∃ s1, sumV (x1 ++ text) = s1 := ⟨_, rfl⟩
        have hl1 : x1.length = 64 := by rw [← hx1, xV_length]; exact hkbl
        have hl2 : x2.length = 64 := by rw [← hx2, xV_length]; exact hkbl
        have hl3 : s1.length = 32 := by rw [← hs1]; exact sumV_length _
        have HV : Hid (macV key text = sumV (x2 ++ s1)) := by
          show _ = _
          unfold macV
          rw [hx1, hx2, hs1]
        rw [hx1] at bi
        rw [hx2] at bo
        have hoi : Own wr (w.heap.size + 1) (.slice (some ⟨gi, 0, none⟩) 64 64) 64 x1 := own_block bi rfl hl1 (by simp [maxLen]) (by omega)
        have hoo : Own wr (w.heap.size + 1) (.slice (some ⟨go, 0, none⟩) 64 64) 64 x2 := own_block bo rfl hl2 (by simp [maxLen]) (by omega)
        have HOi := Lib.hid hoi
        have HOo := Lib.hid hoo
        have hsz := (HR.out).size
        have hws : w.heap.size + 1 ≤ wr.heap.size := by omega
        have HBw : Hid (Below w.heap.size w wr) := HR.out.bl
        have HRs : Hid (wr.heap[w.heap.size]? = some (.cells (List.replicate 32 (.int .u8 0)).toArray 27 (0, 0))) := HR.out.res
        have HS1 := Lib.hid hs1
        have HL3 := Lib.hid hl3
        have hb3v : (bvs s1).length = 32 := by rw [bvs_length]; exact hl3
        have HB3v := Lib.hid hb3v
        have hb4v : (bvs (sumV (x2 ++ s1))).length = 32 := by rw [bvs_length, sumV_length]
        have HB4v := Lib.hid hb4v
        clear bi bo hx1 hx2 hs1 hl1 hl2 hl3 hoi hoo hsz hb3v hb4v HR hkbl
        go_wp2_with (first
          | (at_builtin; (refine wpList_append_bytes rfl (.tmp 44) (.tmp 45) rfl (w.heap.size + 1) (.slice (some ⟨gi, 0, none⟩) 64 64) 64 x1 rfl HOi.out B A2 m c2 text rfl (HT.out.below (HBw.out.mono hB)) (by omega) hws wr (Below.refl _ _) ?_); intro A3 c3 w3 ho3 hle3 hcm3 hg3 hb3; have HO3 := Lib.hid ho3; have HOo3 : Hid (Own w3 (w.heap.size + 1) (.slice (some ⟨go, 0, none⟩) 64 64) 64 x2) := HOo.out.grown hg3 (.inr (by rw [own_name, own_name]; intro e; injection e with e; omega)); have hz3 := hb3.size; have HBw3 : Hid (Below w.heap.size w w3) := HBw.out.trans (hb3.mono (by omega)); have HRs3 : Hid (w3.heap[w.heap.size]? = some (.cells (List.replicate 32 (.int .u8 0)).toArray 27 (0, 0))) := (show _ = _ by rw [hb3.block _ (by omega)]; exact HRs.out); clear ho3 hg3 hb3)
          | (go_at_call 25; (with_reducible refine (rsum_any (x1 ++ text) A3 (64 + m) c3 w3.heap.size _ HO3.out.sl (Nat.le_refl _) (by omega)).mono ?_); rintro e4 w4 ⟨rfl, hb4⟩; rw [HS1.out]; have HB4 := Lib.hid hb4; have hz4 := hb4.size; have hcut4 := whole32 w4.heap.size; clear hb4)
          | ((with_reducible refine wpList_store_only rfl 27 (.tmp 11) (.tmp 47) rfl w4.heap.size (bvs s1) ?hx ?hy 27 (List.replicate 32 (.int .u8 0)).toArray ?hg ?hi ?ho (bvs_one _) ?_); (case hx => with_unfolding_all rfl); (case hy => with_unfolding_all rfl); (case hg => exact heap_alloc_new _ _); (case hi => rw [size32, HB3v.out]); (case ho => rw [HB3v.out]; rfl); intro w5 K5 HO5; have hb5 : Below w4.heap.size w4 w5 := (((Below.refl _ _).alloc (Nat.le_refl _) _).trans (HO5.out.below (by simp) (Nat.le_refl _))); have hz5 : w4.heap.size < w5.heap.size := (Array.getElem?_eq_some_iff.1 K5.out).1; have HOo5 : Hid (Own w5 (w.heap.size + 1) (.slice (some ⟨go, 0, none⟩) 64 64) 64 x2) := (HOo3.out.below HB4.out).below hb5; have HBw5 : Hid (Below w.heap.size w w5) := (HBw3.out.trans (HB4.out.mono (by omega))).trans (hb5.mono (by omega)); have HRs5 : Hid (w5.heap[w.heap.size]? = some (.cells (List.replicate 32 (.int .u8 0)).toArray 27 (0, 0))) := (show _ = _ by rw [hb5.block _ (by omega), HB4.out.block _ (by omega)]; exact HRs3.out); have hsl5 : Sl w5 w5.heap.size (some ⟨w4.heap.size, 0, none⟩) 32 s1 := (by have h := sl_block (B := w5.heap.size) K5.out hz5; rw [HL3.out] at h; exact h); have HSl5 := Lib.hid hsl5; clear hb5 hsl5)
          | (at_builtin; (refine wpList_append_bytesN rfl (.tmp 48) (.tmp 49) rfl (w.heap.size + 1) (.slice (some ⟨go, 0, none⟩) 64 64) 64 32 96 x2 s1 (x2 ++ s1) rfl HOo5.out w5.heap.size (some ⟨w4.heap.size, 0, none⟩) 32 rfl HSl5.out rfl rfl (by omega) (by omega) w5 (Below.refl _ _) ?_); intro A6 c6 w6 HO6 hle6 hcm6 HB6; have hz6 := HB6.out.size; have HRs6 : Hid (w6.heap[w.heap.size]? = some (.cells (List.replicate 32 (.int .u8 0)).toArray 27 (0, 0))) := (show _ = _ by rw [HB6.out.block _ (by omega)]; exact HRs5.out); have HBw6 : Hid (Below w.heap.size w w6) := HBw5.out.trans (HB6.out.mono (by omega)))
          | (go_at_call 25; (with_reducible refine (rsum_any (x2 ++ s1) A6 96 c6 w6.heap.size _ HO6.out.sl (Nat.le_refl _) (by omega)).mono ?_); rintro e7 w7 ⟨rfl, hb7⟩; have HRs7 : Hid (w7.heap[w.heap.size]? = some (.cells (List.replicate 32 (.int .u8 0)).toArray 27 (0, 0))) := (show _ = _ by rw [hb7.block _ (by omega)]; exact HRs6.out); have HBw7 : Hid (Below w.heap.size w w7) := HBw6.out.trans (hb7.mono (by omega)); clear hb7)
          | ((with_reducible refine wpList_store_vals rfl 27 (.tmp 4) (.tmp 51) rfl w.heap.size (bvs (sumV (x2 ++ s1))) ?hx ?hy 27 _ HRs7.out ?hi ?ho (bvs_one _) ?_); (case hx => with_unfolding_all rfl); (case hy => with_unfolding_all rfl); (case hi => rw [size32, HB4v.out]); (case ho => rw [HB4v.out]; rfl)))
        rw [HV.out]
        refine ret_row Tryd.results13 w.heap.size 27 _ (0, 0) 32 5 rfl (setRow_heap _ _ _ _ _ _ HRs7.out) Tryd.underlying27 ?_ rfl ⟨rfl, ?_⟩
        · rw [size32, List.size_toArray, HB4v.out]
        · exact below_setRow HBw7.out (Nat.le_refl _) _
  · have HR0 : Hid (RMac w (((w1.alloc (.cells (madeCells #[.int .u8 0] 64) 5)).alloc (.cells (madeCells #[.int .u8 0] 64) 5)).drew) w1.heap.size (w1.heap.size + 1) (w1.heap.size) 0 n A1 key) := by
      refine ⟨?_, ?_, ?_, ?_, ⟨by omega, by omega, by omega, by omega, by omega⟩, ?_⟩
      · show (((w1.alloc _).alloc _)).heap[w.heap.size]? = _
        rw [Below.heap_alloc _ _ _ (by simp; omega), Below.heap_alloc _ _ _ (by omega)]; exact HRes.out
      · rw [irow_zero, ← zeros_bvs, ← madeCells_eq]
        exact heap_allocs w1 [_, _] 1 _ rfl
      · rw [irow_zero, ← zeros_bvs, ← madeCells_eq]
        exact heap_allocs w1 [_, _] 0 _ rfl
      · exact HKs.out.below ((((Below.refl _ _).alloc (Nat.le_refl _) _).alloc (by simp) _).drew)
      · exact HBk.out.trans ((((((Below.refl _ _).alloc (Nat.le_refl _) _).alloc (by simp) _).drew)).mono (by omega))
    obtain ⟨gi, hgi⟩ : ∃ gi, w1.heap.size + 1 = gi := ⟨_, rfl⟩
    obtain ⟨go, hgo⟩ : ∃ go, w1.heap.size = go := ⟨_, rfl⟩
    obtain ⟨wx, hwx⟩ : ∃ wx, ((w1.alloc (.cells (madeCells #[.int .u8 0] 64) 5)).alloc (.cells (madeCells #[.int .u8 0] 64) 5)).drew = wx := ⟨_, rfl⟩
    rw [hgi] at HR0 ⊢
    rw [hgo] at HR0 ⊢
    rw [hwx] at HR0 ⊢
    clear hwx hgi hgo HRes HKs HBk
    go_wp2_with fail
    go_loopw [9] (fun iv wr => ∃ i : Nat, i ≤ 64 ∧ iv = .int .i64 (i : Int) ∧ Hid (RMac w wr go gi go i n A1 key)) (fun iv _ => 64 - (intOf iv).toNat)
    case atStart => exact ⟨0, by omega, rfl, HR0⟩
    case round =>
      clear HR0
      obtain ⟨i, hi, rfl, HR⟩ := hrel
      obtain ⟨n1, n2, n3, n4, n5⟩ := HR.out.ne
      have hkbl := kbV_length key
      by_cases hlt : i < 64
      · have li : (i : Int) < 64 := by omega
        have ci : wr.cell? ⟨gi, i, none⟩ = some (bv ((irow 54 (kbV key) i).getD i 0)) := by
          rw [cell_of_row _ _ _ _ _ _ HR.out.bi, List.getElem?_toArray]
          have := irow_length 54 (kbV key) i hkbl hi
          simp [bvs, this, hlt]
        have co : wr.cell? ⟨go, i, none⟩ = some (bv ((irow 92 (kbV key) i).getD i 0)) := by
          rw [cell_of_row _ _ _ _ _ _ HR.out.bo, List.getElem?_toArray]
          have := irow_length 92 (kbV key) i hkbl hi
          simp [bvs, this, hlt]
        obtain ⟨v1, hv1⟩ : ∃ v, bv ((irow 54 (kbV key) i).getD i 0) = v := ⟨_, rfl⟩
        obtain ⟨v2, hv2⟩ : ∃ v, bv ((irow 92 (kbV key) i).getD i 0) = v := ⟨_, rfl⟩
        rw [hv1] at ci
        rw [hv2] at co
        have fi : wr.frozen? ⟨gi, i, none⟩ = false := frozen_of_row _ _ _ _ _ HR.out.bi
        have fo : wr.frozen? ⟨go, i, none⟩ = false := frozen_of_row _ _ _ _ _ HR.out.bo
        have n1' : ¬ go = gi := fun e => n1 e.symm
        have hke := kb_at key i hlt
        have hkl := HR.out.ks.1
        clear hv1 hv2 hkbl
        by_cases hik : i < n
        · obtain ⟨b, off, hAk, hbB, hcell⟩ := HR.out.ks.2 (by omega)
          obtain ⟨y, hy⟩ : ∃ y, (keyV key).getD i 0 = y := ⟨_, rfl⟩
          have ck : wr.cell? ⟨b, off + i, none⟩ = some (.int .u8 (bn y)) := by
            have hik' : i < (keyV key).length := by omega
            rw [hcell i hik', ← hy]
            simp [bv, bn, hik']
          have hput := HR.out.put hlt (.int .u8 (bn (y ^^^ 54))) (.int .u8 (bn (y ^^^ 92))) (by rw [hke, hy]; rfl) (by rw [hke, hy]; rfl)
          have HP := Lib.hid hput
          subst hAk
          clear hput hcell hy hke hkl
          go_wp2_with fail
          go_roundw
          case rel => exact ⟨i + 1, by omega, by go_num, HP.out⟩
          case measure => simp [intOf]; omega
        · have hput := HR.out.put hlt (.int .u8 54) (.int .u8 92) (by rw [hke, getD_past _ _ (by omega)]; rfl) (by rw [hke, getD_past _ _ (by omega)]; rfl)
          have HP := Lib.hid hput
          clear hput hke hkl
          go_wp2_with fail
          go_roundw
          case rel => exact ⟨i + 1, by omega, by go_num, HP.out⟩
          case measure => simp [intOf]; omega
      · obtain rfl : i = 64 := by omega
        have bi := HR.out.bi
        have bo := HR.out.bo
        rw [irow_full _ _ hkbl] at bi bo
        obtain ⟨x1, hx1⟩ : ∃ x1, xV 54 (kbV key) = x1 := ⟨_, rfl⟩
        obtain ⟨x2, hx2⟩ : ∃ x2, xV 92 (kbV key) = x2 := ⟨_, rfl⟩
        obtain ⟨s1, hs1⟩ : ∃ s1, sumV (x1 ++ text) = s1 := ⟨_, rfl⟩
        have hl1 : x1.length = 64 := by rw [← hx1, xV_length]; exact hkbl
        have hl2 : x2.length = 64 := by rw [← hx2, xV_length]; exact hkbl
        have hl3 : s1.length = 32 := by rw [← hs1]; exact sumV_length _
        have HV : Hid (macV key text = sumV (x2 ++ s1)) := by
          show _ = _
          unfold macV
          rw [hx1, hx2, hs1]
        rw [hx1] at bi
        rw [hx2] at bo
        have hoi : Own wr (w.heap.size + 1) (.slice (some ⟨gi, 0, none⟩) 64 64) 64 x1 := own_block bi rfl hl1 (by simp [maxLen]) (by omega)
        have hoo : Own wr (w.heap.size + 1) (.slice (some ⟨go, 0, none⟩) 64 64) 64 x2 := own_block bo rfl hl2 (by simp [maxLen]) (by omega)
        have HOi := Lib.hid hoi
        have HOo := Lib.hid hoo
        have hsz := (HR.out).size
        have hws : w.heap.size + 1 ≤ wr.heap.size := by omega
        have HBw : Hid (Below w.heap.size w wr) := HR.out.bl
        have HRs : Hid (wr.heap[w.heap.size]? = some (.cells (List.replicate 32 (.int .u8 0)).toArray 27 (0, 0))) := HR.out.res
        have HS1 := Lib.hid hs1
        have HL3 := Lib.hid hl3
        have hb3v : (bvs s1).length = 32 := by rw [bvs_length]; exact hl3
        have HB3v := Lib.hid hb3v
        have hb4v : (bvs (sumV (x2 ++ s1))).length = 32 := by rw [bvs_length, sumV_length]
        have HB4v := Lib.hid hb4v
        clear bi bo hx1 hx2 hs1 hl1 hl2 hl3 hoi hoo hsz hb3v hb4v HR hkbl
        go_wp2_with (first
          | (at_builtin; (refine wpList_append_bytes rfl (.tmp 44) (.tmp 45) rfl (w.heap.size + 1) (.slice (some ⟨gi, 0, none⟩) 64 64) 64 x1 rfl HOi.out B A2 m c2 text rfl (HT.out.below (HBw.out.mono hB)) (by omega) hws wr (Below.refl _ _) ?_); intro A3 c3 w3 ho3 hle3 hcm3 hg3 hb3; have HO3 := Lib.hid ho3; have HOo3 : Hid (Own w3 (w.heap.size + 1) (.slice (some ⟨go, 0, none⟩) 64 64) 64 x2) := HOo.out.grown hg3 (.inr (by rw [own_name, own_name]; intro e; injection e with e; omega)); have hz3 := hb3.size; have HBw3 : Hid (Below w.heap.size w w3) := HBw.out.trans (hb3.mono (by omega)); have HRs3 : Hid (w3.heap[w.heap.size]? = some (.cells (List.replicate 32 (.int .u8 0)).toArray 27 (0, 0))) := (show _ = _ by rw [hb3.block _ (by omega)]; exact HRs.out); clear ho3 hg3 hb3)
          | (go_at_call 25; (with_reducible refine (rsum_any (x1 ++ text) A3 (64 + m) c3 w3.heap.size _ HO3.out.sl (Nat.le_refl _) (by omega)).mono ?_); rintro e4 w4 ⟨rfl, hb4⟩; rw [HS1.out]; have HB4 := Lib.hid hb4; have hz4 := hb4.size; have hcut4 := whole32 w4.heap.size; clear hb4)
          | ((with_reducible refine wpList_store_only rfl 27 (.tmp 11) (.tmp 47) rfl w4.heap.size (bvs s1) ?hx ?hy 27 (List.replicate 32 (.int .u8 0)).toArray ?hg ?hi ?ho (bvs_one _) ?_); (case hx => with_unfolding_all rfl); (case hy => with_unfolding_all rfl); (case hg => exact heap_alloc_new _ _); (case hi => rw [size32, HB3v.out]); (case ho => rw [HB3v.out]; rfl); intro w5 K5 HO5; have hb5 : Below w4.heap.size w4 w5 := (((Below.refl _ _).alloc (Nat.le_refl _) _).trans (HO5.out.below (by simp) (Nat.le_refl _))); have hz5 : w4.heap.size < w5.heap.size := (Array.getElem?_eq_some_iff.1 K5.out).1; have HOo5 : Hid (Own w5 (w.heap.size + 1) (.slice (some ⟨go, 0, none⟩) 64 64) 64 x2) := (HOo3.out.below HB4.out).below hb5; have HBw5 : Hid (Below w.heap.size w w5) := (HBw3.out.trans (HB4.out.mono (by omega))).trans (hb5.mono (by omega)); have HRs5 : Hid (w5.heap[w.heap.size]? = some (.cells (List.replicate 32 (.int .u8 0)).toArray 27 (0, 0))) := (show _ = _ by rw [hb5.block _ (by omega), HB4.out.block _ (by omega)]; exact HRs3.out); have hsl5 : Sl w5 w5.heap.size (some ⟨w4.heap.size, 0, none⟩) 32 s1 := (by have h := sl_block (B := w5.heap.size) K5.out hz5; rw [HL3.out] at h; exact h); have HSl5 := Lib.hid hsl5; clear hb5 hsl5)
          | (at_builtin; (refine wpList_append_bytesN rfl (.tmp 48) (.tmp 49) rfl (w.heap.size + 1) (.slice (some ⟨go, 0, none⟩) 64 64) 64 32 96 x2 s1 (x2 ++ s1) rfl HOo5.out w5.heap.size (some ⟨w4.heap.size, 0, none⟩) 32 rfl HSl5.out rfl rfl (by omega) (by omega) w5 (Below.refl _ _) ?_); intro A6 c6 w6 HO6 hle6 hcm6 HB6; have hz6 := HB6.out.size; have HRs6 : Hid (w6.heap[w.heap.size]? = some (.cells (List.replicate 32 (.int .u8 0)).toArray 27 (0, 0))) := (show _ = _ by rw [HB6.out.block _ (by omega)]; exact HRs5.out); have HBw6 : Hid (Below w.heap.size w w6) := HBw5.out.trans (HB6.out.mono (by omega)))
          | (go_at_call 25; (with_reducible refine (rsum_any (x2 ++ s1) A6 96 c6 w6.heap.size _ HO6.out.sl (Nat.le_refl _) (by omega)).mono ?_); rintro e7 w7 ⟨rfl, hb7⟩; have HRs7 : Hid (w7.heap[w.heap.size]? = some (.cells (List.replicate 32 (.int .u8 0)).toArray 27 (0, 0))) := (show _ = _ by rw [hb7.block _ (by omega)]; exact HRs6.out); have HBw7 : Hid (Below w.heap.size w w7) := HBw6.out.trans (hb7.mono (by omega)); clear hb7)
          | ((with_reducible refine wpList_store_vals rfl 27 (.tmp 4) (.tmp 51) rfl w.heap.size (bvs (sumV (x2 ++ s1))) ?hx ?hy 27 _ HRs7.out ?hi ?ho (bvs_one _) ?_); (case hx => with_unfolding_all rfl); (case hy => with_unfolding_all rfl); (case hi => rw [size32, HB4v.out]); (case ho => rw [HB4v.out]; rfl)))
        rw [HV.out]
        refine ret_row Tryd.results13 w.heap.size 27 _ (0, 0) 32 5 rfl (setRow_heap _ _ _ _ _ _ HRs7.out) Tryd.underlying27 ?_ rfl ⟨rfl, ?_⟩
        · rw [size32, List.size_toArray, HB4v.out]
        · exact below_setRow HBw7.out (Nat.le_refl _) _

set_option maxHeartbeats 1000000 in
theorem rmac_long (key text : List UInt8) (A A2 : Option Addr) (n c m c2 B : Nat) (w : World) (hs : Sl w B A n key) (ht : Sl w B A2 m text) (hB : B ≤ w.heap.size) (hn : 64 < n) (hn2 : n ≤ 1000000) (hm : m ≤ 1000000) :
    Calls Tryd.prog 13 #[.slice A n c, .slice A2 m c2] w fun e w' => e = .returned (.agg (bvs (macV key text)).toArray) ∧ Below w.heap.size w w' := by
  have HS := Lib.hid hs
  have HT := Lib.hid ht
  have HKy : Hid (keyV key = sumV key) := by
    show _ = _
    unfold keyV
    rw [if_pos (by rw [hs.1]; omega)]
  have t1 : decide ((64 : Int) < (n : Int)) = true := by simp; omega
  have hmk : ∀ u : World, (Instr.makeSlice 22 (.int .i64 64) (.int .i64 64)).run Tryd.prog u = .ok (.slice (some ⟨u.heap.size, 0, none⟩) 64 64) (u.alloc (.cells (madeCells #[.int .u8 0] 64) 5)) := run_make_bytes 64 (by omega)
  have hkv : (bvs (sumV key)).length = 32 := by rw [bvs_length, sumV_length]
  have HKv := Lib.hid hkv
  clear hs ht hkv
  go_enter Tryd.func13, Tryd.ntmps13
  go_wp2_with (first
    | (at_builtin; (refine wpList_append_bytesN rfl (.const (.slice none 0 0)) (.tmp 12) rfl (w.heap.size + 1) (.slice none 0 0) 0 n n [] key key rfl (Own.nil _ _) B A c rfl ?hsl (by omega) rfl (by omega) ?hba (w.alloc (.cells (List.replicate 32 (.int .u8 0)).toArray 27)) ?hbe ?_); (case hsl => exact HS.out.below ((Below.refl _ _).alloc hB _)); (case hba => simp); (case hbe => exact Below.refl _ _); intro A1 c1 w1 HO1 hle1 hcm1 HB1; have hz1 := HB1.out.size; simp at hz1; have HRes1 : Hid (w1.heap[w.heap.size]? = some (.cells (List.replicate 32 (.int .u8 0)).toArray 27 (0, 0))) := (show _ = _ by rw [HB1.out.block _ (by omega)]; exact heap_alloc_new _ _); have HBk1 : Hid (Below w.heap.size w w1) := ((Below.refl _ _).alloc (Nat.le_refl _) _).trans (HB1.out.mono (by omega)))
    | (go_at_call 25; (with_reducible refine (rsum_any key A1 n c1 w1.heap.size _ HO1.out.sl (Nat.le_refl _) (by omega)).mono ?_); rintro e2 w2 ⟨rfl, hb2⟩; have HB2 := Lib.hid hb2; have hz2 := hb2.size; have hcut2 := whole32 w2.heap.size; clear hb2)
    | ((with_reducible refine wpList_store_only rfl 27 (.tmp 6) (.tmp 18) rfl w2.heap.size (bvs (sumV key)) ?hx ?hy 27 (List.replicate 32 (.int .u8 0)).toArray ?hg ?hi ?ho (bvs_one _) ?_); (case hx => with_unfolding_all rfl); (case hy => with_unfolding_all rfl); (case hg => exact heap_alloc_new _ _); (case hi => rw [size32, HKv.out]); (case ho => rw [HKv.out]; rfl); intro wl Kl HOl; have hbl : Below w2.heap.size w2 wl := (((Below.refl _ _).alloc (Nat.le_refl _) _).trans (HOl.out.below (by simp) (Nat.le_refl _))); have hzl : w2.heap.size < wl.heap.size := (Array.getElem?_eq_some_iff.1 Kl.out).1))
  have HRes : Hid (wl.heap[w.heap.size]? = some (.cells (List.replicate 32 (.int .u8 0)).toArray 27 (0, 0))) := by
    show _ = _
    rw [hbl.block _ (by omega), HB2.out.block _ (by omega)]; exact HRes1.out
  have HKs : Hid (Sl wl wl.heap.size (some ⟨w2.heap.size, 0, none⟩) 32 (keyV key)) := by
    show Sl _ _ _ _ _
    rw [HKy.out]
    have h := sl_block (B := wl.heap.size) Kl.out hzl
    rw [sumV_length] at h
    exact h
  have HBk : Hid (Below w.heap.size w wl) := (HBk1.out.trans (HB2.out.mono (by omega))).trans (hbl.mono (by omega))
  obtain ⟨Ak, hAk0⟩ : ∃ Ak, (some ⟨w2.heap.size, 0, none⟩ : Option Addr) = Ak := ⟨_, rfl⟩
  rw [hAk0] at HKs ⊢
  clear hAk0 hbl HO1 HB1 HB2 HBk1 HRes1 Kl HOl hcut2
  go_region_held3 (fun u => True) (first | go_keep | trivial) (fail)
  · have HR0 : Hid (RMac w (((wl.alloc (.cells (madeCells #[.int .u8 0] 64) 5)).alloc (.cells (madeCells #[.int .u8 0] 64) 5)).drew) wl.heap.size (wl.heap.size) (wl.heap.size + 1) 0 32 Ak key) := by
      refine ⟨?_, ?_, ?_, ?_, ⟨by omega, by omega, by omega, by omega, by omega⟩, ?_⟩
      · show (((wl.alloc _).alloc _)).heap[w.heap.size]? = _
        rw [Below.heap_alloc _ _ _ (by simp; omega), Below.heap_alloc _ _ _ (by omega)]; exact HRes.out
      · rw [irow_zero, ← zeros_bvs, ← madeCells_eq]
        exact heap_allocs wl [_, _] 0 _ rfl
      · rw [irow_zero, ← zeros_bvs, ← madeCells_eq]
        exact heap_allocs wl [_, _] 1 _ rfl
      · exact HKs.out.below ((((Below.refl _ _).alloc (Nat.le_refl _) _).alloc (by simp) _).drew)
      · exact HBk.out.trans ((((((Below.refl _ _).alloc (Nat.le_refl _) _).alloc (by simp) _).drew)).mono (by omega))
    obtain ⟨gi, hgi⟩ : ∃ gi, wl.heap.size = gi := ⟨_, rfl⟩
    obtain ⟨go, hgo⟩ : ∃ go, wl.heap.size + 1 = go := ⟨_, rfl⟩
    obtain ⟨wx, hwx⟩ : ∃ wx, ((wl.alloc (.cells (madeCells #[.int .u8 0] 64) 5)).alloc (.cells (madeCells #[.int .u8 0] 64) 5)).drew = wx := ⟨_, rfl⟩
    rw [hgo] at HR0 ⊢
    rw [hgi] at HR0 ⊢
    rw [hwx] at HR0 ⊢
    clear hwx hgi hgo HRes HKs HBk
    go_wp2_with fail
    go_loopw [9] (fun iv wr => ∃ i : Nat, i ≤ 64 ∧ iv = .int .i64 (i : Int) ∧ Hid (RMac w wr gi gi go i 32 Ak key)) (fun iv _ => 64 - (intOf iv).toNat)
    case atStart => exact ⟨0, by omega, rfl, HR0⟩
    case round =>
      clear HR0
      obtain ⟨i, hi, rfl, HR⟩ := hrel
      obtain ⟨n1, n2, n3, n4, n5⟩ := HR.out.ne
      have hkbl := kbV_length key
      by_cases hlt : i < 64
      · have li : (i : Int) < 64 := by omega
        have ci : wr.cell? ⟨gi, i, none⟩ = some (bv ((irow 54 (kbV key) i).getD i 0)) := by
          rw [cell_of_row _ _ _ _ _ _ HR.out.bi, List.getElem?_toArray]
          have := irow_length 54 (kbV key) i hkbl hi
          simp [bvs, this, hlt]
        have co : wr.cell? ⟨go, i, none⟩ = some (bv ((irow 92 (kbV key) i).getD i 0)) := by
          rw [cell_of_row _ _ _ _ _ _ HR.out.bo, List.getElem?_toArray]
          have := irow_length 92 (kbV key) i hkbl hi
          simp [bvs, this, hlt]
        obtain ⟨v1, hv1⟩ : ∃ v, bv ((irow 54 (kbV key) i).getD i 0) = v := ⟨_, rfl⟩
        obtain ⟨v2, hv2⟩ : ∃ v, bv ((irow 92 (kbV key) i).getD i 0) = v := ⟨_, rfl⟩
        rw [hv1] at ci
        rw [hv2] at co
        have fi : wr.frozen? ⟨gi, i, none⟩ = false := frozen_of_row _ _ _ _ _ HR.out.bi
        have fo : wr.frozen? ⟨go, i, none⟩ = false := frozen_of_row _ _ _ _ _ HR.out.bo
        have n1' : ¬ go = gi := fun e => n1 e.symm
        have hke := kb_at key i hlt
        have hkl := HR.out.ks.1
        clear hv1 hv2 hkbl
        by_cases hik : i < 32
        · obtain ⟨b, off, hAk, hbB, hcell⟩ := HR.out.ks.2 (by omega)
          obtain ⟨y, hy⟩ : ∃ y, (keyV key).getD i 0 = y := ⟨_, rfl⟩
          have ck : wr.cell? ⟨b, off + i, none⟩ = some (.int .u8 (bn y)) := by
            have hik' : i < (keyV key).length := by omega
            rw [hcell i hik', ← hy]
            simp [bv, bn, hik']
          have hput := HR.out.put hlt (.int .u8 (bn (y ^^^ 54))) (.int .u8 (bn (y ^^^ 92))) (by rw [hke, hy]; rfl) (by rw [hke, hy]; rfl)
          have HP := Lib.hid hput
          subst hAk
          clear hput hcell hy hke hkl
          go_wp2_with fail
          go_roundw
          case rel => exact ⟨i + 1, by omega, by go_num, HP.out⟩
          case measure => simp [intOf]; omega
        · have hput := HR.out.put hlt (.int .u8 54) (.int .u8 92) (by rw [hke, getD_past _ _ (by omega)]; rfl) (by rw [hke, getD_past _ _ (by omega)]; rfl)
          have HP := Lib.hid hput
          clear hput hke hkl
          go_wp2_with fail
          go_roundw
          case rel => exact ⟨i + 1, by omega, by go_num, HP.out⟩
          case measure => simp [intOf]; omega
      · obtain rfl : i = 64 := by omega
        have bi := HR.out.bi
        have bo := HR.out.bo
        rw [irow_full _ _ hkbl] at bi bo
        obtain ⟨x1, hx1⟩ : ∃ x1, xV 54 (kbV key) = x1 := ⟨_, rfl⟩
        obtain ⟨x2, hx2⟩ : ∃ x2, xV 92 (kbV key) = x2 := ⟨_, rfl⟩
        obtain ⟨s1, hs1⟩ : ∃ s1, sumV (x1 ++ text) = s1 := ⟨_, rfl⟩
        have hl1 : x1.length = 64 := by rw [← hx1, xV_length]; exact hkbl
        have hl2 : x2.length = 64 := by rw [← hx2, xV_length]; exact hkbl
        have hl3 : s1.length = 32 := by rw [← hs1]; exact sumV_length _
        have HV : Hid (macV key text = sumV (x2 ++ s1)) := by
          show _ = _
          unfold macV
          rw [hx1, hx2, hs1]
        rw [hx1] at bi
        rw [hx2] at bo
        have hoi : Own wr (w.heap.size + 1) (.slice (some ⟨gi, 0, none⟩) 64 64) 64 x1 := own_block bi rfl hl1 (by simp [maxLen]) (by omega)
        have hoo : Own wr (w.heap.size + 1) (.slice (some ⟨go, 0, none⟩) 64 64) 64 x2 := own_block bo rfl hl2 (by simp [maxLen]) (by omega)
        have HOi := Lib.hid hoi
        have HOo := Lib.hid hoo
        have hsz := (HR.out).size
        have hws : w.heap.size + 1 ≤ wr.heap.size := by omega
        have HBw : Hid (Below w.heap.size w wr) := HR.out.bl
        have HRs : Hid (wr.heap[w.heap.size]? = some (.cells (List.replicate 32 (.int .u8 0)).toArray 27 (0, 0))) := HR.out.res
        have HS1 := Lib.hid hs1
        have HL3 := Lib.hid hl3
        have hb3v : (bvs s1).length = 32 := by rw [bvs_length]; exact hl3
        have HB3v := Lib.hid hb3v
        have hb4v : (bvs (sumV (x2 ++ s1))).length = 32 := by rw [bvs_length, sumV_length]
        have HB4v := Lib.hid hb4v
        clear bi bo hx1 hx2 hs1 hl1 hl2 hl3 hoi hoo hsz hb3v hb4v HR hkbl
        go_wp2_with (first
          | (at_builtin; (refine wpList_append_bytes rfl (.tmp 44) (.tmp 45) rfl (w.heap.size + 1) (.slice (some ⟨gi, 0, none⟩) 64 64) 64 x1 rfl HOi.out B A2 m c2 text rfl (HT.out.below (HBw.out.mono hB)) (by omega) hws wr (Below.refl _ _) ?_); intro A3 c3 w3 ho3 hle3 hcm3 hg3 hb3; have HO3 := Lib.hid ho3; have HOo3 : Hid (Own w3 (w.heap.size + 1) (.slice (some ⟨go, 0, none⟩) 64 64) 64 x2) := HOo.out.grown hg3 (.inr (by rw [own_name, own_name]; intro e; injection e with e; omega)); have hz3 := hb3.size; have HBw3 : Hid (Below w.heap.size w w3) := HBw.out.trans (hb3.mono (by omega)); have HRs3 : Hid (w3.heap[w.heap.size]? = some (.cells (List.replicate 32 (.int .u8 0)).toArray 27 (0, 0))) := (show _ = _ by rw [hb3.block _ (by omega)]; exact HRs.out); clear ho3 hg3 hb3)
          | (go_at_call 25; (with_reducible refine (rsum_any (x1 ++ text) A3 (64 + m) c3 w3.heap.size _ HO3.out.sl (Nat.le_refl _) (by omega)).mono ?_); rintro e4 w4 ⟨rfl, hb4⟩; rw [HS1.out]; have HB4 := Lib.hid hb4; have hz4 := hb4.size; have hcut4 := whole32 w4.heap.size; clear hb4)
          | ((with_reducible refine wpList_store_only rfl 27 (.tmp 11) (.tmp 47) rfl w4.heap.size (bvs s1) ?hx ?hy 27 (List.replicate 32 (.int .u8 0)).toArray ?hg ?hi ?ho (bvs_one _) ?_); (case hx => with_unfolding_all rfl); (case hy => with_unfolding_all rfl); (case hg => exact heap_alloc_new _ _); (case hi => rw [size32, HB3v.out]); (case ho => rw [HB3v.out]; rfl); intro w5 K5 HO5; have hb5 : Below w4.heap.size w4 w5 := (((Below.refl _ _).alloc (Nat.le_refl _) _).trans (HO5.out.below (by simp) (Nat.le_refl _))); have hz5 : w4.heap.size < w5.heap.size := (Array.getElem?_eq_some_iff.1 K5.out).1; have HOo5 : Hid (Own w5 (w.heap.size + 1) (.slice (some ⟨go, 0, none⟩) 64 64) 64 x2) := (HOo3.out.below HB4.out).below hb5; have HBw5 : Hid (Below w.heap.size w w5) := (HBw3.out.trans (HB4.out.mono (by omega))).trans (hb5.mono (by omega)); have HRs5 : Hid (w5.heap[w.heap.size]? = some (.cells (List.replicate 32 (.int .u8 0)).toArray 27 (0, 0))) := (show _ = _ by rw [hb5.block _ (by omega), HB4.out.block _ (by omega)]; exact HRs3.out); have hsl5 : Sl w5 w5.heap.size (some ⟨w4.heap.size, 0, none⟩) 32 s1 := (by have h := sl_block (B := w5.heap.size) K5.out hz5; rw [HL3.out] at h; exact h); have HSl5 := Lib.hid hsl5; clear hb5 hsl5)
          | (at_builtin; (refine wpList_append_bytesN rfl (.tmp 48) (.tmp 49) rfl (w.heap.size + 1) (.slice (some ⟨go, 0, none⟩) 64 64) 64 32 96 x2 s1 (x2 ++ s1) rfl HOo5.out w5.heap.size (some ⟨w4.heap.size, 0, none⟩) 32 rfl HSl5.out rfl rfl (by omega) (by omega) w5 (Below.refl _ _) ?_); intro A6 c6 w6 HO6 hle6 hcm6 HB6; have hz6 := HB6.out.size; have HRs6 : Hid (w6.heap[w.heap.size]? = some (.cells (List.replicate 32 (.int .u8 0)).toArray 27 (0, 0))) := (show _ = _ by rw [HB6.out.block _ (by omega)]; exact HRs5.out); have HBw6 : Hid (Below w.heap.size w w6) := HBw5.out.trans (HB6.out.mono (by omega)))
          | (go_at_call 25; (with_reducible refine (rsum_any (x2 ++ s1) A6 96 c6 w6.heap.size _ HO6.out.sl (Nat.le_refl _) (by omega)).mono ?_); rintro e7 w7 ⟨rfl, hb7⟩; have HRs7 : Hid (w7.heap[w.heap.size]? = some (.cells (List.replicate 32 (.int .u8 0)).toArray 27 (0, 0))) := (show _ = _ by rw [hb7.block _ (by omega)]; exact HRs6.out); have HBw7 : Hid (Below w.heap.size w w7) := HBw6.out.trans (hb7.mono (by omega)); clear hb7)
          | ((with_reducible refine wpList_store_vals rfl 27 (.tmp 4) (.tmp 51) rfl w.heap.size (bvs (sumV (x2 ++ s1))) ?hx ?hy 27 _ HRs7.out ?hi ?ho (bvs_one _) ?_); (case hx => with_unfolding_all rfl); (case hy => with_unfolding_all rfl); (case hi => rw [size32, HB4v.out]); (case ho => rw [HB4v.out]; rfl)))
        rw [HV.out]
        refine ret_row Tryd.results13 w.heap.size 27 _ (0, 0) 32 5 rfl (setRow_heap _ _ _ _ _ _ HRs7.out) Tryd.underlying27 ?_ rfl ⟨rfl, ?_⟩
        · rw [size32, List.size_toArray, HB4v.out]
        · exact below_setRow HBw7.out (Nat.le_refl _) _
  · have HR0 : Hid (RMac w (((wl.alloc (.cells (madeCells #[.int .u8 0] 64) 5)).alloc (.cells (madeCells #[.int .u8 0] 64) 5)).drew) wl.heap.size (wl.heap.size + 1) (wl.heap.size) 0 32 Ak key) := by
      refine ⟨?_, ?_, ?_, ?_, ⟨by omega, by omega, by omega, by omega, by omega⟩, ?_⟩
      · show (((wl.alloc _).alloc _)).heap[w.heap.size]? = _
        rw [Below.heap_alloc _ _ _ (by simp; omega), Below.heap_alloc _ _ _ (by omega)]; exact HRes.out
      · rw [irow_zero, ← zeros_bvs, ← madeCells_eq]
        exact heap_allocs wl [_, _] 1 _ rfl
      · rw [irow_zero, ← zeros_bvs, ← madeCells_eq]
        exact heap_allocs wl [_, _] 0 _ rfl
      · exact HKs.out.below ((((Below.refl _ _).alloc (Nat.le_refl _) _).alloc (by simp) _).drew)
      · exact HBk.out.trans ((((((Below.refl _ _).alloc (Nat.le_refl _) _).alloc (by simp) _).drew)).mono (by omega))
    obtain ⟨gi, hgi⟩ : ∃ gi, wl.heap.size + 1 = gi := ⟨_, rfl⟩
    obtain ⟨go, hgo⟩ : ∃ go, wl.heap.size = go := ⟨_, rfl⟩
    obtain ⟨wx, hwx⟩ : ∃ wx, ((wl.alloc (.cells (madeCells #[.int .u8 0] 64) 5)).alloc (.cells (madeCells #[.int .u8 0] 64) 5)).drew = wx := ⟨_, rfl⟩
    rw [hgi] at HR0 ⊢
    rw [hgo] at HR0 ⊢
    rw [hwx] at HR0 ⊢
    clear hwx hgi hgo HRes HKs HBk
    go_wp2_with fail
    go_loopw [9] (fun iv wr => ∃ i : Nat, i ≤ 64 ∧ iv = .int .i64 (i : Int) ∧ Hid (RMac w wr go gi go i 32 Ak key)) (fun iv _ => 64 - (intOf iv).toNat)
    case atStart => exact ⟨0, by omega, rfl, HR0⟩
    case round =>
      clear HR0
      obtain ⟨i, hi, rfl, HR⟩ := hrel
      obtain ⟨n1, n2, n3, n4, n5⟩ := HR.out.ne
      have hkbl := kbV_length key
      by_cases hlt : i < 64
      · have li : (i : Int) < 64 := by omega
        have ci : wr.cell? ⟨gi, i, none⟩ = some (bv ((irow 54 (kbV key) i).getD i 0)) := by
          rw [cell_of_row _ _ _ _ _ _ HR.out.bi, List.getElem?_toArray]
          have := irow_length 54 (kbV key) i hkbl hi
          simp [bvs, this, hlt]
        have co : wr.cell? ⟨go, i, none⟩ = some (bv ((irow 92 (kbV key) i).getD i 0)) := by
          rw [cell_of_row _ _ _ _ _ _ HR.out.bo, List.getElem?_toArray]
          have := irow_length 92 (kbV key) i hkbl hi
          simp [bvs, this, hlt]
        obtain ⟨v1, hv1⟩ : ∃ v, bv ((irow 54 (kbV key) i).getD i 0) = v := ⟨_, rfl⟩
        obtain ⟨v2, hv2⟩ : ∃ v, bv ((irow 92 (kbV key) i).getD i 0) = v := ⟨_, rfl⟩
        rw [hv1] at ci
        rw [hv2] at co
        have fi : wr.frozen? ⟨gi, i, none⟩ = false := frozen_of_row _ _ _ _ _ HR.out.bi
        have fo : wr.frozen? ⟨go, i, none⟩ = false := frozen_of_row _ _ _ _ _ HR.out.bo
        have n1' : ¬ go = gi := fun e => n1 e.symm
        have hke := kb_at key i hlt
        have hkl := HR.out.ks.1
        clear hv1 hv2 hkbl
        by_cases hik : i < 32
        · obtain ⟨b, off, hAk, hbB, hcell⟩ := HR.out.ks.2 (by omega)
          obtain ⟨y, hy⟩ : ∃ y, (keyV key).getD i 0 = y := ⟨_, rfl⟩
          have ck : wr.cell? ⟨b, off + i, none⟩ = some (.int .u8 (bn y)) := by
            have hik' : i < (keyV key).length := by omega
            rw [hcell i hik', ← hy]
            simp [bv, bn, hik']
          have hput := HR.out.put hlt (.int .u8 (bn (y ^^^ 54))) (.int .u8 (bn (y ^^^ 92))) (by rw [hke, hy]; rfl) (by rw [hke, hy]; rfl)
          have HP := Lib.hid hput
          subst hAk
          clear hput hcell hy hke hkl
          go_wp2_with fail
          go_roundw
          case rel => exact ⟨i + 1, by omega, by go_num, HP.out⟩
          case measure => simp [intOf]; omega
        · have hput := HR.out.put hlt (.int .u8 54) (.int .u8 92) (by rw [hke, getD_past _ _ (by omega)]; rfl) (by rw [hke, getD_past _ _ (by omega)]; rfl)
          have HP := Lib.hid hput
          clear hput hke hkl
          go_wp2_with fail
          go_roundw
          case rel => exact ⟨i + 1, by omega, by go_num, HP.out⟩
          case measure => simp [intOf]; omega
      · obtain rfl : i = 64 := by omega
        have bi := HR.out.bi
        have bo := HR.out.bo
        rw [irow_full _ _ hkbl] at bi bo
        obtain ⟨x1, hx1⟩ : ∃ x1, xV 54 (kbV key) = x1 := ⟨_, rfl⟩
        obtain ⟨x2, hx2⟩ : ∃ x2, xV 92 (kbV key) = x2 := ⟨_, rfl⟩
        obtain ⟨s1, hs1⟩ : ∃ s1, sumV (x1 ++ text) = s1 := ⟨_, rfl⟩
        have hl1 : x1.length = 64 := by rw [← hx1, xV_length]; exact hkbl
        have hl2 : x2.length = 64 := by rw [← hx2, xV_length]; exact hkbl
        have hl3 : s1.length = 32 := by rw [← hs1]; exact sumV_length _
        have HV : Hid (macV key text = sumV (x2 ++ s1)) := by
          show _ = _
          unfold macV
          rw [hx1, hx2, hs1]
        rw [hx1] at bi
        rw [hx2] at bo
        have hoi : Own wr (w.heap.size + 1) (.slice (some ⟨gi, 0, none⟩) 64 64) 64 x1 := own_block bi rfl hl1 (by simp [maxLen]) (by omega)
        have hoo : Own wr (w.heap.size + 1) (.slice (some ⟨go, 0, none⟩) 64 64) 64 x2 := own_block bo rfl hl2 (by simp [maxLen]) (by omega)
        have HOi := Lib.hid hoi
        have HOo := Lib.hid hoo
        have hsz := (HR.out).size
        have hws : w.heap.size + 1 ≤ wr.heap.size := by omega
        have HBw : Hid (Below w.heap.size w wr) := HR.out.bl
        have HRs : Hid (wr.heap[w.heap.size]? = some (.cells (List.replicate 32 (.int .u8 0)).toArray 27 (0, 0))) := HR.out.res
        have HS1 := Lib.hid hs1
        have HL3 := Lib.hid hl3
        have hb3v : (bvs s1).length = 32 := by rw [bvs_length]; exact hl3
        have HB3v := Lib.hid hb3v
        have hb4v : (bvs (sumV (x2 ++ s1))).length = 32 := by rw [bvs_length, sumV_length]
        have HB4v := Lib.hid hb4v
        clear bi bo hx1 hx2 hs1 hl1 hl2 hl3 hoi hoo hsz hb3v hb4v HR hkbl
        go_wp2_with (first
          | (at_builtin; (refine wpList_append_bytes rfl (.tmp 44) (.tmp 45) rfl (w.heap.size + 1) (.slice (some ⟨gi, 0, none⟩) 64 64) 64 x1 rfl HOi.out B A2 m c2 text rfl (HT.out.below (HBw.out.mono hB)) (by omega) hws wr (Below.refl _ _) ?_); intro A3 c3 w3 ho3 hle3 hcm3 hg3 hb3; have HO3 := Lib.hid ho3; have HOo3 : Hid (Own w3 (w.heap.size + 1) (.slice (some ⟨go, 0, none⟩) 64 64) 64 x2) := HOo.out.grown hg3 (.inr (by rw [own_name, own_name]; intro e; injection e with e; omega)); have hz3 := hb3.size; have HBw3 : Hid (Below w.heap.size w w3) := HBw.out.trans (hb3.mono (by omega)); have HRs3 : Hid (w3.heap[w.heap.size]? = some (.cells (List.replicate 32 (.int .u8 0)).toArray 27 (0, 0))) := (show _ = _ by rw [hb3.block _ (by omega)]; exact HRs.out); clear ho3 hg3 hb3)
          | (go_at_call 25; (with_reducible refine (rsum_any (x1 ++ text) A3 (64 + m) c3 w3.heap.size _ HO3.out.sl (Nat.le_refl _) (by omega)).mono ?_); rintro e4 w4 ⟨rfl, hb4⟩; rw [HS1.out]; have HB4 := Lib.hid hb4; have hz4 := hb4.size; have hcut4 := whole32 w4.heap.size; clear hb4)
          | ((with_reducible refine wpList_store_only rfl 27 (.tmp 11) (.tmp 47) rfl w4.heap.size (bvs s1) ?hx ?hy 27 (List.replicate 32 (.int .u8 0)).toArray ?hg ?hi ?ho (bvs_one _) ?_); (case hx => with_unfolding_all rfl); (case hy => with_unfolding_all rfl); (case hg => exact heap_alloc_new _ _); (case hi => rw [size32, HB3v.out]); (case ho => rw [HB3v.out]; rfl); intro w5 K5 HO5; have hb5 : Below w4.heap.size w4 w5 := (((Below.refl _ _).alloc (Nat.le_refl _) _).trans (HO5.out.below (by simp) (Nat.le_refl _))); have hz5 : w4.heap.size < w5.heap.size := (Array.getElem?_eq_some_iff.1 K5.out).1; have HOo5 : Hid (Own w5 (w.heap.size + 1) (.slice (some ⟨go, 0, none⟩) 64 64) 64 x2) := (HOo3.out.below HB4.out).below hb5; have HBw5 : Hid (Below w.heap.size w w5) := (HBw3.out.trans (HB4.out.mono (by omega))).trans (hb5.mono (by omega)); have HRs5 : Hid (w5.heap[w.heap.size]? = some (.cells (List.replicate 32 (.int .u8 0)).toArray 27 (0, 0))) := (show _ = _ by rw [hb5.block _ (by omega), HB4.out.block _ (by omega)]; exact HRs3.out); have hsl5 : Sl w5 w5.heap.size (some ⟨w4.heap.size, 0, none⟩) 32 s1 := (by have h := sl_block (B := w5.heap.size) K5.out hz5; rw [HL3.out] at h; exact h); have HSl5 := Lib.hid hsl5; clear hb5 hsl5)
          | (at_builtin; (refine wpList_append_bytesN rfl (.tmp 48) (.tmp 49) rfl (w.heap.size + 1) (.slice (some ⟨go, 0, none⟩) 64 64) 64 32 96 x2 s1 (x2 ++ s1) rfl HOo5.out w5.heap.size (some ⟨w4.heap.size, 0, none⟩) 32 rfl HSl5.out rfl rfl (by omega) (by omega) w5 (Below.refl _ _) ?_); intro A6 c6 w6 HO6 hle6 hcm6 HB6; have hz6 := HB6.out.size; have HRs6 : Hid (w6.heap[w.heap.size]? = some (.cells (List.replicate 32 (.int .u8 0)).toArray 27 (0, 0))) := (show _ = _ by rw [HB6.out.block _ (by omega)]; exact HRs5.out); have HBw6 : Hid (Below w.heap.size w w6) := HBw5.out.trans (HB6.out.mono (by omega)))
          | (go_at_call 25; (with_reducible refine (rsum_any (x2 ++ s1) A6 96 c6 w6.heap.size _ HO6.out.sl (Nat.le_refl _) (by omega)).mono ?_); rintro e7 w7 ⟨rfl, hb7⟩; have HRs7 : Hid (w7.heap[w.heap.size]? = some (.cells (List.replicate 32 (.int .u8 0)).toArray 27 (0, 0))) := (show _ = _ by rw [hb7.block _ (by omega)]; exact HRs6.out); have HBw7 : Hid (Below w.heap.size w w7) := HBw6.out.trans (hb7.mono (by omega)); clear hb7)
          | ((with_reducible refine wpList_store_vals rfl 27 (.tmp 4) (.tmp 51) rfl w.heap.size (bvs (sumV (x2 ++ s1))) ?hx ?hy 27 _ HRs7.out ?hi ?ho (bvs_one _) ?_); (case hx => with_unfolding_all rfl); (case hy => with_unfolding_all rfl); (case hi => rw [size32, HB4v.out]); (case ho => rw [HB4v.out]; rfl)))
        rw [HV.out]
        refine ret_row Tryd.results13 w.heap.size 27 _ (0, 0) 32 5 rfl (setRow_heap _ _ _ _ _ _ HRs7.out) Tryd.underlying27 ?_ rfl ⟨rfl, ?_⟩
        · rw [size32, List.size_toArray, HB4v.out]
        · exact below_setRow HBw7.out (Nat.le_refl _) _

theorem rmac_any (key text : List UInt8) (A A2 : Option Addr) (n c m c2 B : Nat) (w : World) (hs : Sl w B A n key) (ht : Sl w B A2 m text) (hB : B ≤ w.heap.size) (hn : n ≤ 1000000) (hm : m ≤ 1000000) :
    Calls Tryd.prog 13 #[.slice A n c, .slice A2 m c2] w fun e w' => e = .returned (.agg (bvs (macV key text)).toArray) ∧ Below w.heap.size w w' := by
  by_cases h : 64 < n
  · exact rmac_long key text A A2 n c m c2 B w hs ht hB h hn hm
  · exact rmac_short key text A A2 n c m c2 B w hs ht hB (by omega) hm
end Go.Proofs.YtnjdloocalfkmaaDoor
