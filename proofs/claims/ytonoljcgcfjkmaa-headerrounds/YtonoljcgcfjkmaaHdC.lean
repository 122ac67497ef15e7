/-
  The first byte of a header: the contract of first; structs as values, in blocks, as results.
-/
import Derived.Test.YtonoljcgcfjkmaaHdB
namespace Go.Proofs.Ytonoljcgcfjkmaa
open Go.RowKit
set_option linter.unusedVariables false

theorem hdr_size : (Try.prog.info? 26).map (·.size) = some 10 := by kernel_rfl

theorem mayKind_is (K : Int) (r : Bool) (h : (K = 0 ∧ r = true) ∨ (K = 1 ∧ r = false) ∨ (K = 2 ∧ r = true) ∨ (K = 3 ∧ r = false)) (w : World) : Calls Try.prog 49 #[.int .i64 K] w fun e w' => e = .returned (.bool r) ∧ w = w' := by
  rcases h with ⟨rfl, rfl⟩ | ⟨rfl, rfl⟩ | ⟨rfl, rfl⟩ | ⟨rfl, rfl⟩
  all_goals
    go_enter Try.func49, Try.ntmps49
    go_wp2
    go_ret
    exact ⟨rfl, rfl⟩

/-- a byte's bits, one by one -/
theorem ands : ((List.range 256).all fun b => (b &&& 128 == b / 128 * 128) && (b &&& 64 == b / 64 % 2 * 64) && (b &&& 32 == b / 32 % 2 * 32) && (b &&& 4 == b / 4 % 2 * 4) && (b &&& 3 == b % 4) && (b &&& 24 == b / 8 % 4 * 8) && (b &&& 12 == b / 4 % 4 * 4) && (b / 16 &&& 3 == b / 16 % 4)) = true := by kernel_rfl
theorem ands_at (b : Nat) (hb : b < 256) : b &&& 128 = b / 128 * 128 ∧ b &&& 64 = b / 64 % 2 * 64 ∧ b &&& 32 = b / 32 % 2 * 32 ∧ b &&& 4 = b / 4 % 2 * 4 ∧ b &&& 3 = b % 4 ∧ b &&& 24 = b / 8 % 4 * 8 ∧ b &&& 12 = b / 4 % 4 * 4 ∧ b / 16 &&& 3 = b / 16 % 4 := by
  have h := List.all_eq_true.1 ands b (List.mem_range.2 hb)
  simp only [Bool.and_eq_true, beq_iff_eq] at h
  obtain ⟨⟨⟨⟨⟨⟨⟨h1, h2⟩, h3⟩, h4⟩, h5⟩, h6⟩, h7⟩, h8⟩ := h
  exact ⟨h1, h2, h3, h4, h5, h6, h7, h8⟩
theorem and_u8 (b m : Nat) (hb : b < 256) (hm : m < 256) (M : Int) (hM : M = (m : Int)) (V : Nat) (hV : b &&& m = V) : bits .and .u8 (b : Int) M = (V : Int) := by
  subst hM
  rw [u8_and_nat b m hb hm, hV]

/-- a header as a value, of what its first byte tells -/
def hdrC (b : Nat) : List Value := [.bool (longB b), .int .i64 (kindB b : Nat), .int .u32 0, .slice none 0 0, .slice none 0 0, .slice none 0 0, .bool (spinB b), .bool (phaseB b), .int .u64 0, .int .i64 (nlB b : Nat)]
theorem hdrC_one (b : Nat) : ∀ v ∈ hdrC b, v.oneCell' = true := by simp [hdrC, Value.oneCell']
def hdr0 : List Value := [.bool false, .int .i64 0, .int .u32 0, .slice none 0 0, .slice none 0 0, .slice none 0 0, .bool false, .bool false, .int .u64 0, .int .i64 0]
end Go.Proofs.Ytonoljcgcfjkmaa
