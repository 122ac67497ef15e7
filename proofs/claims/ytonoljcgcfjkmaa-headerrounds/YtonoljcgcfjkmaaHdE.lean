/-
  What stands in memory while a header is read; a goto ahead; a struct and three numbers answered.
-/
import Derived.Test.YtonoljcgcfjkmaaHdD
import Derived.WalkMore
import Derived.ScopeJumps
namespace Go.Proofs.Ytonoljcgcfjkmaa
open Go.RowKit
set_option linter.unusedVariables false

theorem sz_slice : (Try.prog.info? 23).map (·.size) = some 1 := by kernel_rfl
theorem sz_u32 : (Try.prog.info? 22).map (·.size) = some 1 := by kernel_rfl
theorem sz_u64 : (Try.prog.info? 24).map (·.size) = some 1 := by kernel_rfl

/-- while a header is read: the parts, the header's variable at hb, the answer's -/
structure GS (w : World) (hb : Nat) (v : World) (s : List UInt8 × Nat) (hv : List Value) : Prop where
  p : PtW v w.heap.size (w.heap.size + 2) s
  h : Rw v hb 26 hv
  z : Rw v w.heap.size 26 hdr0
  b : Below w.heap.size w v
  lt : w.heap.size + 2 < hb
theorem GS.call {w v v' : World} {hb : Nat} {s s' : List UInt8 × Nat} {hv : List Value} (k : GS w hb v s hv) (hp : PtW v' w.heap.size (w.heap.size + 2) s') (ho : Only (w.heap.size + 2) v v') : GS w hb v' s' hv :=
  ⟨hp, k.h.only ho (by have := k.lt; omega), k.z.only ho (by omega), k.b.trans (ho.below k.b.size (by omega)), k.lt⟩
theorem GS.put {w v v' : World} {hb : Nat} {s : List UInt8 × Nat} {hv hv' : List Value} (k : GS w hb v s hv) (hr : Rw v' hb 26 hv') (ho : Only hb v v') : GS w hb v' s hv' :=
  ⟨k.p.only ho (by have := k.lt; omega) (by have := k.lt; omega), hr, k.z.only ho (by have := k.lt; omega), k.b.trans (ho.below k.b.size (by have := k.lt; omega)), k.lt⟩
/-- a header as a value: its lists lie in memory from base on, the first and the third apart -/
def HdrW (w : World) (base : Nat) (hv : List Value) (h : Hdr) : Prop :=
  ∃ A1 n1 c1 A2 n2 c2 A3 n3 c3, hv = [.bool h.long, .int .i64 (h.kind : Int), .int .u32 (h.ver : Int), .slice A1 n1 c1, .slice A2 n2 c2, .slice A3 n3 c3, .bool h.spin, .bool h.phase, .int .u64 (h.num : Int), .int .i64 (h.nl : Int)] ∧
    (Own w base (.slice A1 n1 c1) n1 h.dst ∧ n1 ≤ c1 ∧ c1 ≤ maxLen) ∧ (Own w base (.slice A2 n2 c2) n2 h.src ∧ n2 ≤ c2 ∧ c2 ≤ maxLen) ∧ (Own w base (.slice A3 n3 c3) n3 h.tok ∧ n3 ≤ c3 ∧ c3 ≤ maxLen) ∧
    ∀ a1 a3, A1 = some a1 → A3 = some a3 → a1.block ≠ a3.block
/-- what Get answers -/
def Gets (w : World) (r : (Hdr × Nat × Nat) × Nat) (e : Ending) (w' : World) : Prop :=
  ∃ hv, e = .returned (.tuple #[.agg hv.toArray, .int .i64 (r.1.2.1 : Int), .int .i64 (r.1.2.2 : Int), .int .i64 (r.2 : Int)]) ∧ HdrW w' w.heap.size hv r.1.1 ∧ Below w.heap.size w w'
theorem hdr0_w (w : World) (base : Nat) : HdrW w base hdr0 Hdr.zero :=
  ⟨none, 0, 0, none, 0, 0, none, 0, 0, rfl, ⟨Own.nil _ _, Nat.le_refl _, by simp [maxLen]⟩, ⟨Own.nil _ _, Nat.le_refl _, by simp [maxLen]⟩, ⟨Own.nil _ _, Nat.le_refl _, by simp [maxLen]⟩, fun _ _ h => by cases h⟩
theorem hdr0_one : ∀ v ∈ hdr0, v.oneCell' = true := by simp [hdr0, Value.oneCell']
end Go.Proofs.Ytonoljcgcfjkmaa
