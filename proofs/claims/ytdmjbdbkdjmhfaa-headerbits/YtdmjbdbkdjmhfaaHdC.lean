/-
  The first byte of a header: the contract of first; structs as values, in blocks, as results.
-/
import Derived.Test.YtdmjbdbkdjmhfaaHdB
namespace Go.Proofs.Ytdmjbdbkdjmhfaa
open Go.RowKit
set_option linter.unusedVariables false

/-- a struct answered out of its own variable -/
theorem ret_rw {P : Program} {fn : Func} {R : Ending → World → Prop} {a : Act} {w : World} {p : Tmp} {ty : TypeId} (h : fn.results = #[.cell p ty]) (g : Nat) (t : TypeId) (vs : List Value) (d : TypeDesc)
    (hp : a.tmps.getD p undef = .pointer (some ⟨g, 0, none⟩)) (hB : Rw w g t vs) (hu : P.underlying ty = some d) (hd : (match d with | .struct _ | .array _ _ => true | _ => false) = true) (hi : (P.info? ty).map (·.size) = some vs.length)
    (hdf : a.defers = []) (hR : R (.returned (.agg vs.toArray)) w) : bodyPost P fn R .ret a w :=
  bodyPost_ret (results_cell_row h a.tmps w g t vs.toArray (0, 0) d hp hB hu hd (by rw [hi, List.size_toArray])) hdf hR
theorem wpList_load_rw {P : Program} {ops : Array Oper} {rest : List Oper} {o : Oper} {a : Act} {w : World} {Q : Exit → Act → World → Prop} (hgd : o.guard = none) (ty : TypeId) (x : Operand) (ho : o.op = .load ty x)
    (g : Nat) (hx : a.eval x = .pointer (some ⟨g, 0, none⟩)) (t : TypeId) (vs : List Value) (hB : Rw w g t vs) (d : TypeDesc) (hu : P.underlying ty = some d) (hd : (match d with | .struct _ | .array _ _ => true | _ => false) = true) (hi : (P.info? ty).map (·.size) = some vs.length)
    (h : wpList P ops Q rest (a.put o.dst (.agg vs.toArray)) w) : wpList P ops Q (o :: rest) a w :=
  wpList_load_row hgd ty x ho g hx t vs.toArray (0, 0) d hB hu hd (by rw [hi, List.size_toArray]) h
theorem wpList_store_rw {P : Program} {ops : Array Oper} {rest : List Oper} {o : Oper} {a : Act} {w : World} {Q : Exit → Act → World → Prop} (hgd : o.guard = none) (ty : TypeId) (x y : Operand) (ho : o.op = .store ty x y)
    (g : Nat) (vs : List Value) (hx : a.eval x = .pointer (some ⟨g, 0, none⟩)) (hy : a.eval y = .agg vs.toArray) (t : TypeId) (old : List Value) (hB : Rw w g t old) (hi : (P.info? ty).map (·.size) = some vs.length)
    (hold : old.length = vs.length) (h1 : ∀ v ∈ vs, v.oneCell' = true)
    (h : ∀ w', Hid (Rw w' g t vs) → Hid (Only g w w') → wpList P ops Q rest (a.put o.dst undef) w') : wpList P ops Q (o :: rest) a w :=
  wpList_store_only hgd ty x y ho g vs hx hy t old.toArray hB hi (by simpa using hold) h1 h
theorem wpList_wanted {P : Program} {ops : Array Oper} {rest : List Oper} {o : Oper} {a : Act} {w : World} {Q : Exit → Act → World → Prop} (hw : Region.wanted o (yielded ops a.tmps) = true)
    (h : ∀ K : Act → World → Prop, (∀ a w, wpList P ops Q rest a w → K a w) → o.wp P a w K Q) : wpList P ops Q (o :: rest) a w := by
  unfold wpList
  rw [if_pos hw]
  exact .inl (h _ fun _ _ hh => hh)
/-- a struct loaded behind a guard that lets it -/
theorem wpList_load_rwG {P : Program} {ops : Array Oper} {rest : List Oper} {o : Oper} {a : Act} {w : World} {Q : Exit → Act → World → Prop} (k : Tmp) (hk : o.dst = some k) (ty : TypeId) (x : Operand) (ho : o.op = .load ty x) (hw : Region.wanted o (yielded ops a.tmps) = true)
    (g : Nat) (hx : a.eval x = .pointer (some ⟨g, 0, none⟩)) (t : TypeId) (vs : List Value) (hB : Rw w g t vs) (d : TypeDesc) (hu : P.underlying ty = some d) (hd : (match d with | .struct _ | .array _ _ => true | _ => false) = true) (hi : (P.info? ty).map (·.size) = some vs.length)
    (h : wpList P ops Q rest (a.put o.dst (.agg vs.toArray)) w) : wpList P ops Q (o :: rest) a w :=
  wpList_wanted hw fun _ hK => wp_load_row ty x ho g hx t vs.toArray (0, 0) d hB hu hd (by rw [hi, List.size_toArray]) (hK _ _ h)
theorem hdr_size : (Try.prog.info? 26).map (·.size) = some 10 := by kernel_rfl

theorem mayKind_is (K : Int) (r : Bool) (h : (K = 0 ∧ r = true) ∨ (K = 1 ∧ r = false) ∨ (K = 2 ∧ r = true) ∨ (K = 3 ∧ r = false)) (w : World) : Calls Try.prog 46 #[.int .i64 K] w fun e w' => e = .returned (.bool r) ∧ w = w' := by
  rcases h with ⟨rfl, rfl⟩ | ⟨rfl, rfl⟩ | ⟨rfl, rfl⟩ | ⟨rfl, rfl⟩
  all_goals
    go_enter Try.func46, Try.ntmps46
    go_wp2
    go_ret
    exact ⟨rfl, rfl⟩

/-- a byte's bits, one by one -/
theorem ands : ((List.range 256).all fun b => (b &&& 128 == b / 128 * 128) && (b &&& 64 == b / 64 % 2 * 64) && (b &&& 32 == b / 32 % 2 * 32) && (b &&& 4 == b / 4 % 2 * 4) && (b &&& 3 == b % 4) && (b &&& 24 == b / 8 % 4 * 8) && (b &&& 12 == b / 4 % 4 * 4) && (b / 16 &&& 3 == b / 16 % 4)) = true := by kernel_rfl
theorem ands_at (b : Nat) (hb : b < 256) : b &&& 128 = b / 128 * 128 ∧ b &&& 64 = b / 64 % 2 * 64 ∧ b &&& 32 = b / 32 % 2 * 32 ∧ b &&& 4 = b / 4 % 2 * 4 ∧ b &&& 3 = b % 4 ∧ b &&& 24 = b / 8 % 4 * 8 ∧ b &&& 12 = b / 4 % 4 * 4 ∧ b / 16 &&& 3 = b / 16 % 4 := by
  have h := List.all_eq_true.1 ands b (List.mem_range.2 hb)
  simp only [Bool.and_eq_true, beq_iff_eq] at h
  obtain ⟨⟨⟨⟨⟨⟨⟨h1, h2⟩, h3⟩, h4⟩, h5⟩, h6⟩, h7⟩, h8⟩ := h
  exact ⟨h1, h2, h3, h4, h5, h6, h7, h8⟩
theorem and_u8 (b m : Nat) (hb : b < 256) (hm : m < 256) (M : Int) (hM : M = (m : Int)) (V : Nat) (hV : b &&& m = V) : bits .and .u8 (b : Int) M = (V : Int) := by
  subst hM
  rw [u8_and_nat b m hb hm, hV]

/-- a header as a value, of what its first byte tells -/
def hdrC (b : Nat) : List Value := [.bool (longB b), .int .i64 (kindB b : Nat), .int .u32 0, .slice none 0 0, .slice none 0 0, .slice none 0 0, .bool (spinB b), .bool (phaseB b), .int .u64 0, .int .i64 (nlB b : Nat)]
theorem hdrC_one (b : Nat) : ∀ v ∈ hdrC b, v.oneCell' = true := by simp [hdrC, Value.oneCell']
def hdr0 : List Value := [.bool false, .int .i64 0, .int .u32 0, .slice none 0 0, .slice none 0 0, .slice none 0 0, .bool false, .bool false, .int .u64 0, .int .i64 0]
end Go.Proofs.Ytdmjbdbkdjmhfaa
