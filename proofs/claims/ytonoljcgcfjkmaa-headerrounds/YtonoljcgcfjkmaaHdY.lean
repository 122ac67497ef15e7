/-
  A header that came in; two headers that are the same; a slice of the call's own written over.
-/
import Derived.Test.YtonoljcgcfjkmaaHdX
import Derived.Test.YtonoljcgcfjkmaaHdL
import Derived.Test.YtonoljcgcfjkmaaOverB
import Derived.Test.YtonoljcgcfjkmaaArgs
import Derived.Lib.SmallJoins
namespace Go.Proofs.Ytonoljcgcfjkmaa
open Go.RowKit Go.ChangeShapes Go.WideShapes Go.ChangeAt
set_option linter.unusedVariables false

section
variable {H : Type} {enc : TypeId × Value → H} {W : World} {n : Nat} {v : Value} {y : DataW H × List MemPlace}
theorem in_bool (h : DataW.trod enc Try.prog W 0 (fun _ => true) true n 4 [v] = some y) : ∃ b, v = .bool b := by
  obtain ⟨b, e, _⟩ := DataW.trod_bool Try.underlying4 h
  exact ⟨b, by simpa using e⟩
theorem in_int (h : DataW.trod enc Try.prog W 0 (fun _ => true) true n 3 [v] = some y) : ∃ z, v = .int .i64 z := by
  obtain ⟨b, e, _⟩ := DataW.trod_int Try.underlying3 h
  exact ⟨b, by simpa using e⟩
theorem in_u32 (h : DataW.trod enc Try.prog W 0 (fun _ => true) true n 22 [v] = some y) : ∃ z : Nat, v = .int .u32 (z : Int) ∧ z < 4294967296 := by
  obtain ⟨b, e, _, hw⟩ := DataW.trod_int Try.underlying22 h
  obtain ⟨z, rfl, hz⟩ := nat_of_u32 hw
  exact ⟨z, by simpa using e, hz⟩
theorem in_u64 (h : DataW.trod enc Try.prog W 0 (fun _ => true) true n 24 [v] = some y) : ∃ z : Nat, v = .int .u64 (z : Int) ∧ z < 18446744073709551616 := by
  obtain ⟨b, e, _, hw⟩ := DataW.trod_int Try.underlying24 h
  obtain ⟨z, rfl, hz⟩ := nat_of_u64 hw
  exact ⟨z, by simpa using e, hz⟩
theorem in_bytes (h : DataW.trod enc Try.prog W 0 (fun _ => true) true n 23 [v] = some y) : ∃ A len cap l, v = .slice A len cap ∧ Sl W W.heap.size A len l ∧ len ≤ cap ∧ cap ≤ maxLen := by
  rcases open_ints Try.underlying23 Try.underlying5 (by kernel_rfl) h with ⟨hcs, _⟩ | ⟨x, l, c, zs, hcs, _, hl, hm, hz, _, hcell, hwz⟩
  · obtain ⟨l', h1, h2, h3⟩ := sl_of_row (w := W) (zs := []) (.inl ⟨rfl, rfl, rfl, rfl⟩)
    exact ⟨none, 0, 0, l', by simpa using hcs, h1, h2, h3⟩
  · obtain ⟨l', h1, h2, h3⟩ := sl_of_row (w := W) (zs := zs) (.inr ⟨x, rfl, hl, hm, by simpa using hz, hcell, hwz⟩)
    exact ⟨some x, l, c, l', by simpa using hcs, h1, h2, h3⟩
theorem list10 {α : Type} {l : List α} (h : l.length = 10) : ∃ a b c d e f g h i j, l = [a, b, c, d, e, f, g, h, i, j] := by
  match l, h with
  | [a, b, c, d, e, f, g, h, i, j], _ => exact ⟨a, b, c, d, e, f, g, h, i, j, rfl⟩
theorem cells_hd : Try.prog.cellsOf 26 = 10 := by kernel_rfl
theorem cells_b : Try.prog.cellsOf 4 = 1 := by kernel_rfl
theorem cells_i : Try.prog.cellsOf 3 = 1 := by kernel_rfl
theorem cells_w : Try.prog.cellsOf 22 = 1 := by kernel_rfl
theorem cells_u : Try.prog.cellsOf 24 = 1 := by kernel_rfl
theorem cells_s : Try.prog.cellsOf 23 = 1 := by kernel_rfl
end
/-- a header that came in -/
theorem open_header {H : Type} {enc : TypeId × Value → H} {W : World} {b0 : Nat} {v : Value} {d : DataW H} {p : List MemPlace} (hval : Value.okWide Try.prog W .any b0 26 v) (h : DataW.Trod enc Try.prog W 0 (fun _ => true) true 26 v d p) :
    ∃ (L : Bool) (K : Int) (V : Nat) (A1 : Option Addr) (n1 c1 : Nat) (A2 : Option Addr) (n2 c2 : Nat) (A3 : Option Addr) (n3 c3 : Nat) (S P : Bool) (N : Nat) (NL : Int) (l1 l2 l3 : List UInt8),
      v = .agg (hdrV L K V A1 n1 c1 A2 n2 c2 A3 n3 c3 S P N NL).toArray ∧ V < 4294967296 ∧ N < 18446744073709551616 ∧ (Sl W W.heap.size A1 n1 l1 ∧ n1 ≤ c1 ∧ c1 ≤ maxLen) ∧ (Sl W W.heap.size A2 n2 l2 ∧ n2 ≤ c2 ∧ c2 ≤ maxLen) ∧ (Sl W W.heap.size A3 n3 l3 ∧ n3 ≤ c3 ∧ c3 ≤ maxLen) := by
  obtain ⟨⟨cs⟩, rfl, hsz⟩ := okWide_struct Try.underlying26 hval
  rw [cells_hd] at hsz
  obtain ⟨v0, v1, v2, v3, v4, v5, v6, v7, v8, v9, rfl⟩ := list10 (show cs.length = 10 from hsz)
  obtain ⟨fuel, hf⟩ := h
  obtain ⟨xs, n, _, _, _, hlen, hf⟩ := DataW.trod_struct Try.underlying26 hf
  obtain ⟨y0, y1, y2, y3, y4, y5, y6, y7, y8, y9, rfl⟩ := list10 (show xs.length = 10 from hlen)
  have h0 : DataW.trod enc Try.prog W 0 (fun _ => true) true n 4 [v0] = some y0 := by simpa [Value.cells, cells_b] using hf 0 _ rfl
  have h1 : DataW.trod enc Try.prog W 0 (fun _ => true) true n 3 [v1] = some y1 := by simpa [Value.cells, cells_i] using hf 1 _ rfl
  have h2 : DataW.trod enc Try.prog W 0 (fun _ => true) true n 22 [v2] = some y2 := by simpa [Value.cells, cells_w] using hf 2 _ rfl
  have h3 : DataW.trod enc Try.prog W 0 (fun _ => true) true n 23 [v3] = some y3 := by simpa [Value.cells, cells_s] using hf 3 _ rfl
  have h4 : DataW.trod enc Try.prog W 0 (fun _ => true) true n 23 [v4] = some y4 := by simpa [Value.cells, cells_s] using hf 4 _ rfl
  have h5 : DataW.trod enc Try.prog W 0 (fun _ => true) true n 23 [v5] = some y5 := by simpa [Value.cells, cells_s] using hf 5 _ rfl
  have h6 : DataW.trod enc Try.prog W 0 (fun _ => true) true n 4 [v6] = some y6 := by simpa [Value.cells, cells_b] using hf 6 _ rfl
  have h7 : DataW.trod enc Try.prog W 0 (fun _ => true) true n 4 [v7] = some y7 := by simpa [Value.cells, cells_b] using hf 7 _ rfl
  have h8 : DataW.trod enc Try.prog W 0 (fun _ => true) true n 24 [v8] = some y8 := by simpa [Value.cells, cells_u] using hf 8 _ rfl
  have h9 : DataW.trod enc Try.prog W 0 (fun _ => true) true n 3 [v9] = some y9 := by simpa [Value.cells, cells_i] using hf 9 _ rfl
  obtain ⟨L, rfl⟩ := in_bool h0
  obtain ⟨K, rfl⟩ := in_int h1
  obtain ⟨V, rfl, hV⟩ := in_u32 h2
  obtain ⟨A1, n1, c1, l1, rfl, s1⟩ := in_bytes h3
  obtain ⟨A2, n2, c2, l2, rfl, s2⟩ := in_bytes h4
  obtain ⟨A3, n3, c3, l3, rfl, s3⟩ := in_bytes h5
  obtain ⟨S, rfl⟩ := in_bool h6
  obtain ⟨P, rfl⟩ := in_bool h7
  obtain ⟨N, rfl, hN⟩ := in_u64 h8
  obtain ⟨NL, rfl⟩ := in_int h9
  exact ⟨L, K, V, A1, n1, c1, A2, n2, c2, A3, n3, c3, S, P, N, NL, l1, l2, l3, rfl, hV, hN, s1, s2, s3⟩

theorem HdrW.len {w : World} {base : Nat} {hv : List Value} {h : Hdr} (k : HdrW w base hv h) : hv.length = 10 := by
  obtain ⟨A1, n1, c1, A2, n2, c2, A3, n3, c3, rfl, _⟩ := k
  rfl
theorem HdrW.len0 {w : World} {base : Nat} {hv : List Value} {h : Hdr} (k : HdrW w base hv h) : hdr0.length = hv.length := by rw [k.len]; rfl
theorem HdrW.one {w : World} {base : Nat} {hv : List Value} {h : Hdr} (k : HdrW w base hv h) : ∀ v ∈ hv, v.oneCell' = true := by
  obtain ⟨A1, n1, c1, A2, n2, c2, A3, n3, c3, rfl, _⟩ := k
  simp [Value.oneCell']
/-- two headers as values that say the same -/
theorem sameHdr {w : World} {b1 b2 : Nat} {hv1 hv2 : List Value} {h : Hdr} (k1 : HdrW w b1 hv1 h) (k2 : HdrW w b2 hv2 h) :
    Calls Try.prog 17 #[.agg hv1.toArray, .agg hv2.toArray] w fun e w' => e = .returned (.bool true) ∧ Below w.heap.size w w' := by
  obtain ⟨A1, n1, c1, A2, n2, c2, A3, n3, c3, rfl, ⟨o1, x1, y1⟩, ⟨o2, x2, y2⟩, ⟨o3, x3, y3⟩, _⟩ := k1
  obtain ⟨A4, n4, c4, A5, n5, c5, A6, n6, c6, rfl, ⟨o4, x4, y4⟩, ⟨o5, x5, y5⟩, ⟨o6, x6, y6⟩, _⟩ := k2
  obtain rfl : n1 = n4 := o1.len.symm.trans o4.len
  obtain rfl : n2 = n5 := o2.len.symm.trans o5.len
  obtain rfl : n3 = n6 := o3.len.symm.trans o6.len
  exact sameHeader_yes h.long h.kind h.ver h.num h.nl h.spin h.phase h.dst h.src h.tok A1 n1 c1 A2 n2 c2 A3 n3 c3 A4 c4 A5 c5 A6 c6 w o1.sl o2.sl o3.sl o4.sl o5.sl o6.sl (by omega) (by omega) (by omega)
/-- a slice of the call's own written over: one block, or none -/
theorem over_own (l : List UInt8) (A : Option Addr) (n c B : Nat) (w : World) (h : Own w B (.slice A n c) n l) (hB : B ≤ w.heap.size) (hn : n ≤ 1000000) :
    Calls Try.prog 18 #[.slice A n c] w fun e w' => e = .returned (.tuple #[]) ∧ ∃ g, (A = none ∧ g = w.heap.size ∨ ∃ a, A = some a ∧ a.block = g) ∧ B ≤ g ∧ Only g w w' := by
  rcases h.2 with hno | ⟨g, cap, row, e, hg, _⟩
  · have e : (A = none ∧ n = 0 ∧ c = 0) ∧ n = 0 := by simpa using hno
    obtain ⟨⟨rfl, rfl, rfl⟩, _⟩ := e
    exact (over_nil w).mono fun e w' ⟨he, hb⟩ => ⟨he, w.heap.size, .inl ⟨rfl, rfl⟩, hB, Only.of_below hb⟩
  · have e : A = some ⟨g, 0, none⟩ ∧ c = cap := by simpa using e
    obtain ⟨rfl, rfl⟩ := e
    exact (over_blk l g n c B w h hB hn).mono fun e w' ⟨he, ho⟩ => ⟨he, g, .inr ⟨_, rfl, rfl⟩, hg, ho⟩
end Go.Proofs.Ytonoljcgcfjkmaa
