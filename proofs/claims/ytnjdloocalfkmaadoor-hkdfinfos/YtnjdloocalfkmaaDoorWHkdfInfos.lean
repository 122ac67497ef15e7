/-
  The walk of HkdfInfos.
-/
import Derived.Test.YtnjdloocalfkmaaDoorHkG
namespace Go.Proofs.YtnjdloocalfkmaaDoor
open Go.RowKit Go.Joins
set_option linter.unusedVariables false

set_option maxHeartbeats 1000000 in
theorem infos_long (A1 A2 : Option Addr) (n1 c1 n2 c2 : Nat) (x y : Int) (w : World) (hG : Glob w) (h : 300 < n1 ∨ 300 < n2) :
    Calls Tryd.prog 7 #[.slice A1 n1 c1, .slice A2 n2 c2, .int .i64 x, .int .i64 y] w fun e w' => e = .returned (.bool true) ∧ Below w.heap.size w w' := by
  have HA := Lib.hid (awake_any w hG)
  clear hG
  by_cases h0 : 300 < n1
  · have t1 : decide ((300 : Int) < (n1 : Int)) = true := by simp; omega
    clear h h0
    go_enter Tryd.func7, Tryd.ntmps7
    go_wp2_with ((with_reducible refine HA.out.mono ?_); rintro e w1 ⟨rfl, hb⟩)
    go_ret
    exact ⟨rfl, hb⟩
  · have t1 : decide ((300 : Int) < (n1 : Int)) = false := by simp; omega
    have t2 : decide ((300 : Int) < (n2 : Int)) = true := by simp; omega
    clear h h0
    go_enter Tryd.func7, Tryd.ntmps7
    go_wp2_with ((with_reducible refine HA.out.mono ?_); rintro e w1 ⟨rfl, hb⟩)
    go_ret
    exact ⟨rfl, hb⟩

theorem low_nat' (x : Int) (m : Nat) (hm : 0 < m) (hb : m < 4611686018427387904) : ∃ d : Nat, lowV x (m : Int) = (d : Int) ∧ d < m := by
  have := low_bd x (m : Int) (by omega) (by omega)
  exact ⟨(lowV x (m : Int)).toNat, by omega, by omega⟩
theorem tls_add (l : List UInt8) : ∃ S S' : ByteArray, S.data.toList = tlsV ++ l ∧ S'.data.toList = l ∧ S.size = 6 + l.length ∧
    (l.length ≤ 1000000 → ∀ u, (Op.stringOp .add ⟨#[116, 108, 115, 49, 51, 32]⟩ ⟨l.toArray⟩).run Tryd.prog u = .ok (.string S) u) ∧
    ∀ u, (Instr.slice 9 (.string S) (some (.int .i64 6)) none none).run Tryd.prog u = .ok (.string S') u := by
  refine ⟨⟨(tlsV ++ l).toArray⟩, ⟨l.toArray⟩, rfl, rfl, ?_, ?_, ?_⟩
  · simp [ByteArray.size, tlsV]; omega
  · intro hl u
    have h := run_string_add_lists (P := Tryd.prog) u tlsV l (by simp [tlsV]) (by omega)
    exact h
  · intro u
    have h := run_slice_string_l (P := Tryd.prog) u 9 ⟨(tlsV ++ l).toArray⟩ Tryd.underlying9 .i64 6 (by omega) (by simp [ByteArray.size, tlsV]; omega)
    rw [h]
    congr 2
    apply ByteArray.ext
    simp [ByteArray.extract, ByteArray.copySlice, ByteArray.size, tlsV]

theorem head3i (q p : Nat) (hq : q ≤ 200) (hp : p ≤ 249) : #[Value.int .u8 0, Value.int .u8 (q : Int), Value.int .u8 (6 + (p : Int))] = (bvs [0, byteI (q : Int), byteI (6 + (p : Int))]).toArray := by
  rw [bv_byteS (q : Int) (by omega) (by omega), bv_byteS (6 + (p : Int)) (by omega) (by omega)]
  rfl

set_option maxHeartbeats 1000000 in
theorem infos_walk (key ctx : List UInt8) (A1 A2 : Option Addr) (n1 c1 n2 c2 : Nat) (x y : Int) (w : World) (hG : Glob w) (h1 : Sl w w.heap.size A1 n1 key) (h2 : Sl w w.heap.size A2 n2 ctx) (hn1 : n1 ≤ c1) (hc1 : c1 ≤ maxLen) (hn2 : n2 ≤ c2) (hc2 : c2 ≤ maxLen)
    (hm1 : n1 ≤ 300) (hm2 : n2 ≤ 300) :
    Calls Tryd.prog 7 #[.slice A1 n1 c1, .slice A2 n2 c2, .int .i64 x, .int .i64 y] w fun e w' => e = .returned (.bool true) ∧ Below w.heap.size w w' := by
  have HG := Lib.hid hG
  have H1 := Lib.hid h1
  have H2 := Lib.hid h2
  have t1 : decide ((300 : Int) < (n1 : Int)) = false := by simp; omega
  have t2 : decide ((300 : Int) < (n2 : Int)) = false := by simp; omega
  obtain ⟨p, hp, hp261⟩ := low_nat' x 261 (by omega) (by omega)
  obtain ⟨q, hq, hq201⟩ := low_nat' y 201 (by omega) (by omega)
  have hlx := fun u => low_any x 261 u (by omega) (by omega)
  have hly := fun u => low_any y 201 u (by omega) (by omega)
  have hp' : lowV x 261 = (p : Int) := hp
  have hq' : lowV y 201 = (q : Int) := hq
  rw [hp'] at hlx
  rw [hq'] at hly
  have HLX := Lib.hid hlx
  have HLY := Lib.hid hly
  clear hG h1 h2 hp hq hp' hq' hlx hly
  go_enter Tryd.func7, Tryd.ntmps7
  go_wp2_with (first
    | (go_at_call_of 20 (Value.int IntKind.i64 x); (with_reducible refine (HLX.out _).mono ?_); rintro e w' ⟨rfl, rfl⟩)
    | (go_at_call_of 20 (Value.int IntKind.i64 y); (with_reducible refine (HLY.out _).mono ?_); rintro e w' ⟨rfl, rfl⟩))
  go_at_call 22
  (with_reducible refine (grow_any p (by omega) _).mono ?_)
  rintro e3 w3 ⟨lab, A3, c3, rfl, ho3, hle3, hc3, hb3⟩
  have hll := ho3.len
  have hcv := conv_bytes lab A3 p c3 w3.heap.size w3 ho3.sl
  obtain ⟨S, S', hS, hS', hSz, hadd, hsl⟩ := tls_add lab
  have hadd' := hadd (by omega)
  have hSk : S.size = 6 + p := by rw [hSz, hll]
  have HB3 := Lib.hid hb3
  have HS := Lib.hid hS
  have HS' := Lib.hid hS'
  have HLl := Lib.hid hll
  have HSk := Lib.hid hSk
  clear hadd hSz hS hS' ho3 hb3 hll hSk
  go_wp2_with fail
  (with_reducible refine (label_any key lab ctx S' A1 A2 n1 c1 n2 c2 w.heap.size (q : Int) _ (HG.out.below HB3.out) (H1.out.below HB3.out) (H2.out.below HB3.out) HB3.out.size hn1 hc1 hn2 hc2 (by omega) HS'.out).mono ?_)
  rintro e4 w4 ⟨A4, c4, rfl, ho4, hle4, hc4, hb4⟩
  have HB4 : Hid (Below w.heap.size w w4) := HB3.out.trans (hb4.mono HB3.out.size)
  have hww := HB4.out.size
  by_cases hno : 249 < p ∨ 255 < n2
  · have e0 : llen lab ctx (q : Int) = 0 := by
      unfold llen
      rw [if_pos (by rw [HLl.out, H2.out.1]; exact hno)]
    rw [e0] at ho4 hle4 ⊢
    have HAw := Lib.hid (awake_any w4 (HG.out.below HB4.out))
    clear ho4 e0
    by_cases h0 : 249 < p
    · have t3 : decide ((249 : Int) < (p : Int)) = true := by simp; omega
      go_wp2_with ((with_reducible refine HAw.out.mono ?_); rintro e9 w9 ⟨rfl, hb9⟩)
      go_ret
      exact ⟨rfl, HB4.out.trans (hb9.mono hww)⟩
    · have t3 : decide ((249 : Int) < (p : Int)) = false := by simp; omega
      have t4 : decide ((255 : Int) < (n2 : Int)) = true := by simp; omega
      go_wp2_with ((with_reducible refine HAw.out.mono ?_); rintro e9 w9 ⟨rfl, hb9⟩)
      go_ret
      exact ⟨rfl, HB4.out.trans (hb9.mono hww)⟩
  · have e0 : llen lab ctx (q : Int) = q ∧ labV key lab ctx (q : Int) = expV key (infoV (q : Int) lab ctx) q := by
      obtain ⟨k1, k2⟩ := expI_in key (infoV (q : Int) lab ctx) q (by omega)
      unfold llen labV
      rw [if_neg (by rw [HLl.out, H2.out.1]; exact hno), if_neg (by rw [HLl.out, H2.out.1]; exact hno)]
      exact ⟨k2, k1⟩
    rw [e0.1, e0.2] at ho4
    rw [e0.1] at hle4 ⊢
    have HO4 := Lib.hid ho4.sl
    have t3 : decide ((249 : Int) < (p : Int)) = false := by simp; omega
    have t4 : decide ((255 : Int) < (n2 : Int)) = false := by simp; omega
    have hp249 : p ≤ 249 := by omega
    have hSk := HSk.out
    have HH := Lib.hid (head3i q p (by omega) hp249)
    have HI : Hid (([0, byteI (q : Int), byteI (6 + (p : Int))] ++ (tlsV ++ lab) ++ [byteI (n2 : Int)]) ++ ctx = infoV (q : Int) lab ctx) := by
      show _ = _
      have e : byteI ((q : Int) / 256) = 0 := by
        unfold byteI
        rw [show (q : Int) / 256 = 0 by omega]
        rfl
      unfold infoV
      rw [HLl.out, H2.out.1, e]
      simp
    have hbc := bv_byteI (n2 : Int)
    have HBc := Lib.hid hbc
    have hlt : (tlsV ++ lab).length = 6 + p := by rw [List.length_append, HLl.out]; rfl
    have HLt := Lib.hid hlt
    clear hbc e0 ho4 hno hlt
    go_wp2_with (first
      | (at_builtin; (refine wpList_append_str rfl (.tmp 53) (.tmp 54) rfl w4.heap.size (.slice (some ⟨w4.heap.size, 0, none⟩) 3 3) 3 (6 + p) (9 + p) [0, byteI (q : Int), byteI (6 + (p : Int))] (tlsV ++ lab) ([0, byteI (q : Int), byteI (6 + (p : Int))] ++ (tlsV ++ lab)) S rfl ?how rfl HS.out HLt.out (by omega) rfl (by omega) ?hba w4 ?hbe ?_); (case how => exact own_block (heap_alloc_new _ _) HH.out rfl (by simp [maxLen]) (Nat.le_refl _)); (case hba => simp); (case hbe => exact (Below.refl _ _).alloc (Nat.le_refl _) _); intro A5 c5 w5 HO5 hle5 hcm5 HB5; have hz5 := HB5.out.size)
      | (at_builtin; (refine wpList_append_bytesN rfl (.tmp 56) (.tmp 60) rfl w4.heap.size (.slice A5 (9 + p) c5) (9 + p) 1 (10 + p) _ [byteI (n2 : Int)] ([0, byteI (q : Int), byteI (6 + (p : Int))] ++ (tlsV ++ lab) ++ [byteI (n2 : Int)]) rfl (HO5.out.alloc _) (w5.heap.size + 1) (some ⟨w5.heap.size, 0, none⟩) 1 rfl (sl_cell (heap_alloc_new _ _) HBc.out (by omega)) (by omega) rfl (by omega) ?hba w4 ?hbe ?_); (case hba => simp; omega); (case hbe => exact HB5.out.alloc hz5 _); intro A6 c6 w6 HO6 hle6 hcm6 HB6; have hz6 := HB6.out.size)
      | (at_builtin; (refine wpList_append_bytesN rfl (.tmp 61) (.tmp 62) rfl w4.heap.size (.slice A6 (10 + p) c6) (10 + p) n2 (10 + p + n2) _ ctx (infoV (q : Int) lab ctx) rfl HO6.out w.heap.size A2 c2 rfl (H2.out.below (HB4.out.trans (HB6.out.mono hww))) rfl HI.out (by omega) hz6 w4 HB6.out ?_); intro A7 c7 w7 HO7 hle7 hcm7 HB7; have hz7 := HB7.out.size; have HB7w : Hid (Below w.heap.size w w7) := HB4.out.trans (HB7.out.mono hww))
      | (go_at_call 10; (with_reducible refine (expand_nat key (infoV (q : Int) lab ctx) A1 A7 n1 c1 (10 + p + n2) c7 q w7.heap.size _ (HG.out.below HB7w.out) ?q2 HO7.out.sl (Nat.le_refl _) hn1 hc1 hle7 hcm7 (by omega) (by omega) (by omega)).mono ?_); (case q2 => exact (H1.out.below HB7w.out).more HB7w.out.size); rintro e8 w8 ⟨A8, c8, rfl, ho8, hle8, hc8, hb8⟩; have HO8 := Lib.hid ho8.sl; have HB8 := Lib.hid hb8; have hz8 := hb8.size; clear ho8 hb8)
      | (go_at_call 16; (with_reducible refine (same_yes (expV key (infoV (q : Int) lab ctx) q) (expV key (infoV (q : Int) lab ctx) q) rfl A4 A8 q q c4 c8 w4.heap.size w8.heap.size _ ?q1 HO8.out (by simp [maxLen]; omega)).mono ?_); (case q1 => exact (HO4.out.below HB7.out).below (HB8.out.mono hz7)); rintro e9 w9 ⟨rfl, k9, rfl⟩)
      | (go_at_call 8; (with_reducible refine (awake_any _ ?g1).mono ?_); (case g1 => exact HG.out.below (below_drewN (HB7w.out.trans (HB8.out.mono HB7w.out.size)) _)); rintro ea wa ⟨rfl, hba⟩))
    go_ret
    exact ⟨rfl, (below_drewN (HB7w.out.trans (HB8.out.mono HB7w.out.size)) _).trans (hba.mono (Nat.le_trans HB7w.out.size hz8))⟩
end Go.Proofs.YtnjdloocalfkmaaDoor
