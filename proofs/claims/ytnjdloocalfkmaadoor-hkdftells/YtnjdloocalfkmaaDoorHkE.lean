/-
  The contract of Label.
-/
import Derived.Test.YtnjdloocalfkmaaDoorHkD
import Derived.Lib.AppendStr
namespace Go.Proofs.YtnjdloocalfkmaaDoor
open Go.RowKit Go.Joins
set_option linter.unusedVariables false

theorem str_cells (s : ByteArray) : Lib.strCells s = bvs s.data.toList := rfl
/-- an append of a string's bytes onto a slice of the call's own -/
theorem wpList_append_str {w : World} {ops : Array Oper} {rest : List Oper} {o : Oper} {a : Act} {Q : Exit → Act → World → Prop} (hgd : o.guard = none) (s x : Operand)
    (ho : o.op = .call { callee := .builtin .append, args := #[s, x], argTypes := #[22, 9] })
    (base : Nat) (v : Value) (n m N : Nat) (l r lr : List UInt8) (z : ByteArray) (hs : a.eval s = v) (hown : Own w base v n l) (hx : a.eval x = .string z) (hz : z.data.toList = r) (hm : r.length = m) (hN : n + m = N) (hlr : l ++ r = lr)
    (hlen : N ≤ 70368744177664) (hbase : base ≤ w.heap.size) (w0 : World) (hb : Below base w0 w)
    (h : ∀ A' c' w', Hid (Own w' base (.slice A' N c') N lr) → N ≤ c' → c' ≤ maxLen → Hid (Below base w0 w') → wpList Tryd.prog ops Q rest (a.put o.dst (.slice A' N c')) w') :
    wpList Tryd.prog ops Q (o :: rest) a w := by
  subst hN hlr
  obtain ⟨i, hi, hz0, hz1, hz2⟩ := info_parts byte_info
  have hsz : z.size = m := by rw [← hm, ← hz]; simp
  refine Lib.wpList_append_own_string (P := Tryd.prog) w hgd s x 22 9 ho base 5 i Tryd.underlying22 Tryd.underlying9 hi hz0 hz1 hz2 v n (bvs l) hs hown z hx (by simp only [maxLen]; omega) (by omega) hbase ?_
  intro v' w' h2 h3 _
  rw [str_cells, hz, ← bvs_append, hsz] at h2
  obtain ⟨A', c', rfl, hle, hcm⟩ := Own.form (show Own w' base v' (n + m) (l ++ r) from h2)
  exact h A' c' w' h2 hle hcm (hb.grown h3 hbase fun k hk => (World.ownsRow.lt hown k hk).1)
theorem wpList_append_bytesN {w : World} {ops : Array Oper} {rest : List Oper} {o : Oper} {a : Act} {Q : Exit → Act → World → Prop} (hgd : o.guard = none) (s x : Operand)
    (ho : o.op = .call { callee := .builtin .append, args := #[s, x], argTypes := #[22, 22] })
    (base : Nat) (v : Value) (n m N : Nat) (l r lr : List UInt8) (hs : a.eval s = v) (hown : Own w base v n l)
    (B : Nat) (A : Option Addr) (c : Nat) (hx : a.eval x = .slice A m c) (hr : Sl w B A m r) (hN : n + m = N) (hlr : l ++ r = lr)
    (hlen : N ≤ 70368744177664) (hbase : base ≤ w.heap.size) (w0 : World) (hb : Below base w0 w)
    (h : ∀ A' c' w', Hid (Own w' base (.slice A' N c') N lr) → N ≤ c' → c' ≤ maxLen → Hid (Below base w0 w') → wpList Tryd.prog ops Q rest (a.put o.dst (.slice A' N c')) w') :
    wpList Tryd.prog ops Q (o :: rest) a w := by
  subst hN hlr
  exact wpList_append_bytes hgd s x ho base v n l hs hown B A m c r hx hr hlen hbase w0 hb fun A' c' w' h1 h2 h3 h4 h5 => h A' c' w' h1 h2 h3 h5

theorem bv_byteI (z : Int) : Value.int .u8 (z % 256) = bv (byteI z) := by
  simp only [bv, byteI, UInt8.toNat_ofNat']
  congr 1
  omega
theorem bv_byteS (z : Int) (h0 : 0 ≤ z) (h1 : z ≤ 255) : Value.int .u8 z = bv (byteI z) := by
  rw [← bv_byteI]
  congr 1
  omega
theorem head3 (n : Int) (k : Nat) (hk : k ≤ 249) : #[Value.int .u8 (n / 256 % 256), Value.int .u8 (n % 256), Value.int .u8 (6 + (k : Int))] = (bvs [byteI (n / 256), byteI n, byteI (6 + (k : Int))]).toArray := by
  rw [bv_byteI, bv_byteI, bv_byteS _ (by omega) (by omega)]
  rfl
theorem label_no (s : ByteArray) (A A2 : Option Addr) (n1 c1 n2 c2 : Nat) (n : Int) (w : World) (h : 249 < s.size ∨ 255 < n2) :
    Calls Tryd.prog 11 #[.slice A n1 c1, .string s, .slice A2 n2 c2, .int .i64 n] w fun e w' => e = .returned (.slice none 0 0) ∧ w = w' := by
  obtain ⟨k, hk⟩ : ∃ k, s.size = k := ⟨_, rfl⟩
  rw [hk] at h
  by_cases h0 : 249 < k
  · have t1 : decide ((249 : Int) < (k : Int)) = true := by simp; omega
    clear h h0
    go_enter Tryd.func11, Tryd.ntmps11
    go_wp2
    go_ret
    exact ⟨rfl, rfl⟩
  · have t1 : decide ((249 : Int) < (k : Int)) = false := by simp; omega
    have t2 : decide ((255 : Int) < (n2 : Int)) = true := by simp; omega
    clear h h0
    go_enter Tryd.func11, Tryd.ntmps11
    go_wp2
    go_ret
    exact ⟨rfl, rfl⟩

set_option maxHeartbeats 1000000 in
theorem label_yes (key lab ctx : List UInt8) (s : ByteArray) (A A2 : Option Addr) (n1 c1 n2 c2 B : Nat) (n : Int) (w : World) (hG : Glob w) (h1 : Sl w B A n1 key) (h2 : Sl w B A2 n2 ctx) (hB : B ≤ w.heap.size) (hn1 : n1 ≤ c1) (hc1 : c1 ≤ maxLen) (hn2 : n2 ≤ c2) (hc2 : c2 ≤ maxLen)
    (hm1 : n1 ≤ 1000000) (hs : s.data.toList = lab) (hl : lab.length ≤ 249) (hm2 : n2 ≤ 255) :
    Calls Tryd.prog 11 #[.slice A n1 c1, .string s, .slice A2 n2 c2, .int .i64 n] w (MakesBytes w (xlen n) (expI key (infoV n lab ctx) n)) := by
  have HG := Lib.hid hG
  have H1 := Lib.hid h1
  have H2 := Lib.hid h2
  obtain ⟨k, hk⟩ : ∃ k, lab.length = k := ⟨_, rfl⟩
  have hsk : s.size = k := by rw [← hk, ← hs]; simp
  have hk249 : k ≤ 249 := by omega
  have t1 : decide ((249 : Int) < (k : Int)) = false := by simp; omega
  have t2 : decide ((255 : Int) < (n2 : Int)) = false := by simp; omega
  have HS := Lib.hid hs
  have HK := Lib.hid hk
  clear hG h1 h2 hs hk hl
  go_enter Tryd.func11, Tryd.ntmps11
  have HH := Lib.hid (head3 n k hk249)
  have HI : Hid ((([byteI (n / 256), byteI n, byteI (6 + (k : Int))] ++ tlsV ++ lab) ++ [byteI (n2 : Int)]) ++ ctx = infoV n lab ctx) := by
    show _ = _
    unfold infoV
    rw [HK.out, H2.out.1]
  have hbc := bv_byteS (n2 : Int) (by omega) (by omega)
  have HBc := Lib.hid hbc
  have HCl : Hid (ctx.length = n2) := H2.out.1
  clear hbc
  go_wp2_with (first
    | (at_builtin; (refine wpList_append_str rfl (.tmp 28) (.const (.string ⟨#[116, 108, 115, 49, 51, 32]⟩)) rfl w.heap.size (.slice (some ⟨w.heap.size, 0, none⟩) 3 3) 3 6 9 [byteI (n / 256), byteI n, byteI (6 + (k : Int))] tlsV ([byteI (n / 256), byteI n, byteI (6 + (k : Int))] ++ tlsV) _ rfl ?how rfl rfl rfl rfl rfl (by omega) ?hba w ?hbe ?_); (case how => exact own_block (heap_alloc_new _ _) HH.out rfl (by simp [maxLen]) (Nat.le_refl _)); (case hba => simp); (case hbe => exact (Below.refl _ _).alloc (Nat.le_refl _) _); intro A3 c3 w3 HO3 hle3 hcm3 HB3; have hz3 := HB3.out.size)
    | (at_builtin; (refine wpList_append_str rfl (.tmp 30) (.tmp 31) rfl w.heap.size (.slice A3 9 c3) 9 k (9 + k) _ lab ([byteI (n / 256), byteI n, byteI (6 + (k : Int))] ++ tlsV ++ lab) s rfl HO3.out rfl HS.out HK.out rfl rfl (by omega) hz3 w HB3.out ?_); intro A4 c4 w4 HO4 hle4 hcm4 HB4; have hz4 := HB4.out.size)
    | (at_builtin; (refine wpList_append_bytesN rfl (.tmp 33) (.tmp 37) rfl w.heap.size (.slice A4 (9 + k) c4) (9 + k) 1 (10 + k) _ [byteI (n2 : Int)] (([byteI (n / 256), byteI n, byteI (6 + (k : Int))] ++ tlsV ++ lab) ++ [byteI (n2 : Int)]) rfl (HO4.out.alloc _) (w4.heap.size + 1) (some ⟨w4.heap.size, 0, none⟩) 1 rfl (sl_cell (heap_alloc_new _ _) HBc.out (by omega)) (by omega) rfl (by omega) ?hba w ?hbe ?_); (case hba => simp; omega); (case hbe => exact HB4.out.alloc hz4 _); intro A5 c5 w5 HO5 hle5 hcm5 HB5; have hz5 := HB5.out.size)
    | (at_builtin; (refine wpList_append_bytesN rfl (.tmp 39) (.tmp 40) rfl w.heap.size (.slice A5 (10 + k) c5) (10 + k) n2 (10 + k + n2) _ ctx (infoV n lab ctx) rfl HO5.out B A2 c2 rfl (H2.out.below (HB5.out.mono hB)) rfl HI.out (by omega) hz5 w HB5.out ?_); intro A6 c6 w6 HO6 hle6 hcm6 HB6; have hz6 := HB6.out.size))
  (with_reducible refine (expand_any key (infoV n lab ctx) A A6 n1 c1 (10 + k + n2) c6 w6.heap.size n _ ?q1 ?q2 ?q3 ?q4 hn1 hc1 hle6 hcm6 hm1 ?q5).mono ?_)
  case q1 => exact HG.out.below HB6.out
  case q2 => exact (H1.out.below (HB6.out.mono hB)).more (by omega)
  case q3 => exact HO6.out.sl
  case q4 => exact Nat.le_refl _
  case q5 => omega
  rintro e7 w7 ⟨A7, c7, rfl, ho7, hle7, hc7, hb7⟩
  go_wp2
  go_ret
  exact ⟨A7, c7, rfl, ⟨ho7.1, by
    rcases ho7.2 with h | ⟨g, cap, cur, q1, q2, q3⟩
    · exact .inl h
    · exact .inr ⟨g, cap, cur, q1, Nat.le_trans hz6 q2, q3⟩⟩, hle7, hc7, HB6.out.trans (hb7.mono hz6)⟩
theorem label_any (key lab ctx : List UInt8) (s : ByteArray) (A A2 : Option Addr) (n1 c1 n2 c2 B : Nat) (n : Int) (w : World) (hG : Glob w) (h1 : Sl w B A n1 key) (h2 : Sl w B A2 n2 ctx) (hB : B ≤ w.heap.size) (hn1 : n1 ≤ c1) (hc1 : c1 ≤ maxLen) (hn2 : n2 ≤ c2) (hc2 : c2 ≤ maxLen)
    (hm1 : n1 ≤ 1000000) (hs : s.data.toList = lab) :
    Calls Tryd.prog 11 #[.slice A n1 c1, .string s, .slice A2 n2 c2, .int .i64 n] w (MakesBytes w (llen lab ctx n) (labV key lab ctx n)) := by
  have hsl : s.size = lab.length := by rw [← hs]; simp
  have hcl := h2.1
  by_cases h : 249 < lab.length ∨ 255 < ctx.length
  · refine (label_no s A A2 n1 c1 n2 c2 n w (by omega)).mono ?_
    rintro e w' ⟨rfl, rfl⟩
    unfold llen labV
    rw [if_pos h, if_pos h]
    exact ⟨none, 0, rfl, Own.nil _ _, Nat.le_refl _, by simp [maxLen], Below.refl _ _⟩
  · unfold llen labV
    rw [if_neg h, if_neg h]
    exact label_yes key lab ctx s A A2 n1 c1 n2 c2 B n w hG h1 h2 hB hn1 hc1 hn2 hc2 hm1 hs (by omega) (by omega)
end Go.Proofs.YtnjdloocalfkmaaDoor
