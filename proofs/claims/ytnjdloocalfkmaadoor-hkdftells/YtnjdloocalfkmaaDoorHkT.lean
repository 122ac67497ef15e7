/-
  The contract of the document's own Label.
-/
import Derived.Test.YtnjdloocalfkmaaDoorHkS
namespace Go.Proofs.YtnjdloocalfkmaaDoor
open Go.RowKit Go.Joins
set_option linter.unusedVariables false

theorem tls_str (s : ByteArray) (lab : List UInt8) (hs : s.data.toList = lab) : ∃ S : ByteArray, S.data.toList = tlsV ++ lab ∧ S.size = 6 + lab.length ∧
    (lab.length ≤ 1000000 → ∀ u, (Op.stringOp .add ⟨#[116, 108, 115, 49, 51, 32]⟩ s).run Tryd.prog u = .ok (.string S) u) := by
  have hsz : s.size = lab.length := by rw [← hs]; simp
  refine ⟨⟨#[116, 108, 115, 49, 51, 32]⟩ ++ s, ?_, ?_, fun hl u => run_string_add_sum (P := Tryd.prog) u _ s (by rw [hsz]; show 6 + _ ≤ _; omega)⟩
  · rw [ByteArray.data_append, Array.toList_append, hs]; rfl
  · rw [ByteArray.size_append, hsz]; rfl

theorem rlabel_no (s : ByteArray) (A A2 : Option Addr) (n1 c1 n2 c2 : Nat) (n : Int) (w : World) (h : 249 < s.size ∨ 255 < n2 ∨ n < 0 ∨ 8160 < n) :
    Calls Tryd.prog 18 #[.slice A n1 c1, .string s, .slice A2 n2 c2, .int .i64 n] w fun e w' => e = .returned (.slice none 0 0) ∧ w = w' := by
  obtain ⟨k, hk⟩ : ∃ k, s.size = k := ⟨_, rfl⟩
  rw [hk] at h
  by_cases h0 : 249 < k
  · have t1 : decide ((249 : Int) < (k : Int)) = true := by simp; omega
    clear h h0
    go_enter Tryd.func18, Tryd.ntmps18
    go_wp2
    go_ret
    exact ⟨rfl, rfl⟩
  have t1 : decide ((249 : Int) < (k : Int)) = false := by simp; omega
  by_cases h1 : 255 < n2
  · have t2 : decide ((255 : Int) < (n2 : Int)) = true := by simp; omega
    clear h h0 h1
    go_enter Tryd.func18, Tryd.ntmps18
    go_wp2
    go_ret
    exact ⟨rfl, rfl⟩
  have t2 : decide ((255 : Int) < (n2 : Int)) = false := by simp; omega
  by_cases h2 : n < 0
  · have t3 : decide (n < 0) = true := by simp; omega
    clear h h0 h1 h2
    go_enter Tryd.func18, Tryd.ntmps18
    go_wp2
    go_ret
    exact ⟨rfl, rfl⟩
  · have t3 : decide (n < 0) = false := by simp; omega
    have t4 : decide (8160 < n) = true := by simp; omega
    clear h h0 h1 h2
    go_enter Tryd.func18, Tryd.ntmps18
    go_wp2
    go_ret
    exact ⟨rfl, rfl⟩

set_option maxHeartbeats 1000000 in
theorem rlabel_yes (key lab ctx : List UInt8) (s : ByteArray) (A A2 : Option Addr) (n1 c1 n2 c2 B : Nat) (n : Int) (w : World) (h1 : Sl w B A n1 key) (h2 : Sl w B A2 n2 ctx) (hB : B ≤ w.heap.size)
    (hm1 : n1 ≤ 1000000) (hs : s.data.toList = lab) (hl : lab.length ≤ 249) (hm2 : n2 ≤ 255) (hn0 : 0 ≤ n) (hn1 : n ≤ 8160) :
    Calls Tryd.prog 18 #[.slice A n1 c1, .string s, .slice A2 n2 c2, .int .i64 n] w (MakesBytes w (xlen n) (expI key (infoV n lab ctx) n)) := by
  have H1 := Lib.hid h1
  have H2 := Lib.hid h2
  obtain ⟨k, hk⟩ : ∃ k, lab.length = k := ⟨_, rfl⟩
  have hsk : s.size = k := by rw [← hk, ← hs]; simp
  obtain ⟨S, hS, hSz, hadd⟩ := tls_str s lab hs
  have hadd' := hadd (by omega)
  rw [hk] at hSz
  have hk249 : k ≤ 249 := by omega
  have t1 : decide ((249 : Int) < (k : Int)) = false := by simp; omega
  have t2 : decide ((255 : Int) < (n2 : Int)) = false := by simp; omega
  have t3 : decide (n < 0) = false := by simp; omega
  have t4 : decide (8160 < n) = false := by simp; omega
  have HS := Lib.hid hS
  have HK := Lib.hid hk
  have HH := Lib.hid (head3 n k hk249)
  have HI : Hid (([byteI (n / 256), byteI n, byteI (6 + (k : Int))] ++ (tlsV ++ lab) ++ [byteI (n2 : Int)]) ++ ctx = infoV n lab ctx) := by
    show _ = _
    unfold infoV
    rw [HK.out, H2.out.1]
    simp
  have HBc : Hid (Value.int .u8 (n2 : Int) = bv (byteI (n2 : Int))) := bv_byteS (n2 : Int) (by omega) (by omega)
  have hlt : (tlsV ++ lab).length = 6 + k := by rw [List.length_append, hk]; rfl
  have HLt := Lib.hid hlt
  clear h1 h2 hs hk hl hS hadd hlt hn0 hn1
  go_enter Tryd.func18, Tryd.ntmps18
  go_wp2_with (first
    | (at_builtin; (refine wpList_append_str rfl (.tmp 37) (.tmp 38) rfl w.heap.size (.slice (some ⟨w.heap.size, 0, none⟩) 3 3) 3 (6 + k) (9 + k) [byteI (n / 256), byteI n, byteI (6 + (k : Int))] (tlsV ++ lab) ([byteI (n / 256), byteI n, byteI (6 + (k : Int))] ++ (tlsV ++ lab)) S rfl ?how rfl HS.out HLt.out (by omega) rfl (by omega) ?hba w ?hbe ?_); (case how => exact own_block (heap_alloc_new _ _) HH.out rfl (by simp [maxLen]) (Nat.le_refl _)); (case hba => simp); (case hbe => exact (Below.refl _ _).alloc (Nat.le_refl _) _); intro A4 c4 w4 HO4 hle4 hcm4 HB4; have hz4 := HB4.out.size)
    | (at_builtin; (refine wpList_append_bytesN rfl (.tmp 40) (.tmp 44) rfl w.heap.size (.slice A4 (9 + k) c4) (9 + k) 1 (10 + k) _ [byteI (n2 : Int)] ([byteI (n / 256), byteI n, byteI (6 + (k : Int))] ++ (tlsV ++ lab) ++ [byteI (n2 : Int)]) rfl (HO4.out.alloc _) (w4.heap.size + 1) (some ⟨w4.heap.size, 0, none⟩) 1 rfl (sl_cell (heap_alloc_new _ _) ?hV (by omega)) (by omega) rfl (by omega) ?hba w ?hbe ?_); (case hV => first | exact HBc.out | exact bv_byteI (n2 : Int)); (case hba => simp; omega); (case hbe => exact HB4.out.alloc hz4 _); intro A5 c5 w5 HO5 hle5 hcm5 HB5; have hz5 := HB5.out.size)
    | (at_builtin; (refine wpList_append_bytesN rfl (.tmp 45) (.tmp 46) rfl w.heap.size (.slice A5 (10 + k) c5) (10 + k) n2 (10 + k + n2) _ ctx (infoV n lab ctx) rfl HO5.out B A2 c2 rfl (H2.out.below (HB5.out.mono hB)) rfl HI.out (by omega) hz5 w HB5.out ?_); intro A6 c6 w6 HO6 hle6 hcm6 HB6; have hz6 := HB6.out.size))
  (with_reducible refine (rexpand_any key (infoV n lab ctx) A A6 n1 c1 (10 + k + n2) c6 w6.heap.size n _ ?q2 ?q3 ?q4 hm1 ?q5).mono ?_)
  case q2 => exact (H1.out.below (HB6.out.mono hB)).more (by omega)
  case q3 => exact HO6.out.sl
  case q4 => exact Nat.le_refl _
  case q5 => omega
  rintro e7 w7 ⟨A7, c7, rfl, ho7, hle7, hc7, hb7⟩
  go_wp2
  go_ret
  exact ⟨A7, c7, rfl, ⟨ho7.1, by
    rcases ho7.2 with h | ⟨g, cap, cur, q1, q2, q3⟩
    · exact .inl h
    · exact .inr ⟨g, cap, cur, q1, Nat.le_trans hz6 q2, q3⟩⟩, hle7, hc7, HB6.out.trans (hb7.mono hz6)⟩
theorem rlabel_any (key lab ctx : List UInt8) (s : ByteArray) (A A2 : Option Addr) (n1 c1 n2 c2 B : Nat) (n : Int) (w : World) (h1 : Sl w B A n1 key) (h2 : Sl w B A2 n2 ctx) (hB : B ≤ w.heap.size)
    (hm1 : n1 ≤ 1000000) (hs : s.data.toList = lab) :
    Calls Tryd.prog 18 #[.slice A n1 c1, .string s, .slice A2 n2 c2, .int .i64 n] w (MakesBytes w (llen lab ctx n) (labV key lab ctx n)) := by
  have hsl : s.size = lab.length := by rw [← hs]; simp
  have hcl := h2.1
  by_cases h : 249 < lab.length ∨ 255 < ctx.length ∨ n < 0 ∨ 8160 < n
  · refine (rlabel_no s A A2 n1 c1 n2 c2 n w (by omega)).mono ?_
    rintro e w' ⟨rfl, rfl⟩
    have e1 : labV key lab ctx n = [] := by
      unfold labV
      split
      · rfl
      · exact (expI_out _ _ _ (by omega)).1
    have e2 := labV_length key lab ctx n
    rw [e1] at e2
    rw [e1, ← e2]
    exact ⟨none, 0, rfl, Own.nil _ _, Nat.le_refl _, by simp [maxLen], Below.refl _ _⟩
  · unfold llen labV
    rw [if_neg (by omega), if_neg (by omega)]
    exact rlabel_yes key lab ctx s A A2 n1 c1 n2 c2 B n w h1 h2 hB hm1 hs (by omega) (by omega) (by omega) (by omega)
end Go.Proofs.YtnjdloocalfkmaaDoor
