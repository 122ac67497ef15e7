/-
  A set that stands alone; what every program answers that is one.
-/
import Derived.Test.YtjbhhmjkdhkhaaaRgI
namespace Go.Proofs.Ytjbhhmjkdhkhaaa
open Go.RowKit Go.Lib
set_option linter.unusedVariables false

/-- the set s at block g, wherever its ranges lie -/
def St (w : World) (B g : Nat) (s : RS) : Prop := s.Ok ∧ ∃ A n c, SetW w B g A n c s
theorem St.below {w w' : World} {B g : Nat} {s : RS} (h : St w B g s) (hb : Below w.heap.size w w') : St w' B g s := ⟨h.1, by
  obtain ⟨_, A, n, c, h⟩ := h
  exact ⟨A, n, c, h.below hb⟩⟩
theorem SetW.n64 {w : World} {B g n c : Nat} {A : Option Addr} {s : RS} (h : SetW w B g A n c s) (ok : s.Ok) : n ≤ 64 := by have := h.o.len; have := ok.len; have := ok.most.2; omega
theorem st_new (m : Nat) (h1 : 1 ≤ m) (h2 : m ≤ 64) (w : World) (B : Nat) (hB : B ≤ w.heap.size) (z : Int) (hz : z = (m : Int)) :
    Calls Try.prog 9 #[.int .i64 z] w fun e w' => e = .returned (.pointer (some ⟨w.heap.size, 0, none⟩)) ∧ St w' B w.heap.size (RS.new m) ∧ Below w.heap.size w w' := by
  subst hz
  refine (new_any m h1 h2 w B hB).mono ?_
  rintro e w' ⟨rfl, hs, hb⟩
  exact ⟨rfl, ⟨RS.new_ok h1 h2, _, _, _, hs⟩, hb⟩
theorem st_add {w : World} {B g k : Nat} {s : RS} (h : St w B g s) (hB : B ≤ w.heap.size) (z : Int) (hz : z = (k : Int)) :
    Calls Try.prog 11 #[.pointer (some ⟨g, 0, none⟩), .int .u64 z] w fun e w' => e = .returned (.bool (s.newB k)) ∧ St w' B g (s.add k) ∧ Below B w w' := by
  subst hz
  obtain ⟨ok, A, n, c, h⟩ := h
  refine (add_any g A n c B k s w h ok hB).mono ?_
  rintro e w' ⟨rfl, A', n', c', h', m⟩
  exact ⟨rfl, ⟨RS.add_ok ok k, A', n', c', h'⟩, h.moves_below m hB⟩
theorem st_has {w : World} {B g k : Nat} {s : RS} (h : St w B g s) (hk : k < 18446744073709551616) (z : Int) (hz : z = (k : Int)) (b : Bool) (hb : decide (s.mem k) = b) :
    Calls Try.prog 12 #[.pointer (some ⟨g, 0, none⟩), .int .u64 z] w fun e w' => e = .returned (.bool b) ∧ Below w.heap.size w w' := by
  subst hz
  obtain ⟨ok, A, n, c, h⟩ := h
  exact has_any g A n c B k s w h ⟨_, ok.fall⟩ ok.flt hk (by have := h.n64 ok; omega) b hb
theorem st_list {w : World} {B g : Nat} {s : RS} (h : St w B g s) :
    Calls Try.prog 13 #[.pointer (some ⟨g, 0, none⟩)] w fun e w' => ∃ A' c', e = .returned (.slice A' s.l.length c') ∧ OwnR w' w.heap.size (.slice A' s.l.length c') s.l.length s.l ∧ Below w.heap.size w w' := by
  obtain ⟨ok, A, n, c, h⟩ := h
  have hl := h.o.len
  have := list_any g A n c B s w h (by have := h.n64 ok; omega)
  rwa [← hl] at this
theorem st_largest {w : World} {B g : Nat} {s : RS} (h : St w B g s) :
    Calls Try.prog 10 #[.pointer (some ⟨g, 0, none⟩)] w fun e w' => e = .returned (.tuple #[.int .u64 (((s.l.getD 0 (0, 0)).2 : Nat) : Int), .bool (decide (0 < s.l.length))]) ∧ w = w' := by
  obtain ⟨ok, A, n, c, h⟩ := h
  have hl := h.o.len
  have := largest_any g A n c B s w h
  rwa [← hl] at this
theorem st_below {w : World} {B g k : Nat} {s : RS} (h : St w B g s) (hB : B ≤ w.heap.size) (hk : k < 18446744073709551616) :
    Calls Try.prog 14 #[.pointer (some ⟨g, 0, none⟩), .int .u64 (k : Int)] w fun e w' => e = .returned (.tuple #[]) ∧ St w' B g (s.below k) ∧ Below B w w' := by
  obtain ⟨ok, A, n, c, h⟩ := h
  refine (below_any w g A n c B k s h ⟨_, ok.fall⟩ ok.flt hk (by have := h.n64 ok; omega)).mono ?_
  rintro e w' ⟨rfl, n', h', m⟩
  exact ⟨rfl, ⟨RS.below_ok ok hk, A, n', c, h'⟩, h.moves_below m hB⟩

theorem aw1 : (RS.new 2).add 5 = ⟨2, 0, [(5, 5)]⟩ := by kernel_rfl
theorem aw2 : (⟨2, 0, [(5, 5)]⟩ : RS).add 6 = ⟨2, 0, [(5, 6)]⟩ := by kernel_rfl
theorem aw3 : (⟨2, 0, [(5, 6)]⟩ : RS).add 9 = ⟨2, 0, [(9, 9), (5, 6)]⟩ := by kernel_rfl
theorem aw4 : (⟨2, 0, [(9, 9), (5, 6)]⟩ : RS).add 5 = ⟨2, 0, [(9, 9), (5, 6)]⟩ := by kernel_rfl
theorem awb : (RS.new 2).newB 5 = true ∧ (⟨2, 0, [(5, 5)]⟩ : RS).newB 6 = true ∧ (⟨2, 0, [(5, 6)]⟩ : RS).newB 9 = true ∧ (⟨2, 0, [(9, 9), (5, 6)]⟩ : RS).newB 5 = false := ⟨by kernel_rfl, by kernel_rfl, by kernel_rfl, by kernel_rfl⟩
theorem two_lit (w : World) : SlR (w.alloc (.cells #[.int .u64 9, .int .u64 9, .int .u64 5, .int .u64 6] 39)) (w.heap.size + 1) (some ⟨w.heap.size, 0, none⟩) 2 [(9, 9), (5, 6)] := by
  refine ⟨rfl, fun _ => ⟨w.heap.size, 0, rfl, by omega, fun j hj => ?_⟩⟩
  have h : Rw (w.alloc (.cells #[.int .u64 9, .int .u64 9, .int .u64 5, .int .u64 6] 39)) w.heap.size 39 [.int .u64 9, .int .u64 9, .int .u64 5, .int .u64 6] := heap_alloc_new w _
  have : j = 0 ∨ j = 1 := by simp at hj; omega
  rcases this with rfl | rfl
  · exact ⟨h.cell 0 _ rfl, h.cell 1 _ rfl⟩
  · exact ⟨h.cell 2 _ rfl, h.cell 3 _ rfl⟩
set_option maxHeartbeats 4000000 in
theorem awake_any (w : World) : Calls Try.prog 8 #[] w fun e w' => e = .returned (.bool true) ∧ Below w.heap.size w w' := by
  have HN := Lib.hid (st_new 2 (by omega) (by omega) w w.heap.size (Nat.le_refl _) 2 rfl)
  go_enter Try.func8, Try.ntmps8
  go_wp2_with fail
  (with_reducible refine HN.out.mono ?_)
  rintro e1 w1 ⟨rfl, s1, b1⟩
  have B1 := Lib.hid b1
  have A1 := Lib.hid (st_add s1 b1.size 5 rfl)
  rw [awb.1, aw1] at A1
  clear s1 b1
  go_wp2_with fail
  (with_reducible refine A1.out.mono ?_)
  rintro e2 w2 ⟨rfl, s2, b2⟩
  have B2 := Lib.hid (B1.out.trans b2)
  have A2 := Lib.hid (st_add s2 B2.out.size 6 rfl)
  rw [awb.2.1, aw2] at A2
  clear s2 b2
  go_wp2_with fail
  (with_reducible refine A2.out.mono ?_)
  rintro e3 w3 ⟨rfl, s3, b3⟩
  have B3 := Lib.hid (B2.out.trans b3)
  have A3 := Lib.hid (st_add s3 B3.out.size 9 rfl)
  rw [awb.2.2.1, aw3] at A3
  clear s3 b3
  go_wp2_with fail
  (with_reducible refine A3.out.mono ?_)
  rintro e4 w4 ⟨rfl, s4, b4⟩
  have B4 := Lib.hid (B3.out.trans b4)
  have A4 := Lib.hid (st_add s4 B4.out.size 5 rfl)
  rw [awb.2.2.2, aw4] at A4
  clear s4 b4
  go_wp2_with fail
  (with_reducible refine A4.out.mono ?_)
  rintro e5 w5 ⟨rfl, s5, b5⟩
  have B5 := Lib.hid (B4.out.trans b5)
  have S5 := Lib.hid s5
  have L5 : Hid (Calls Try.prog 10 #[.pointer (some ⟨w.heap.size, 0, none⟩)] w5 fun e w' => e = .returned (.tuple #[.int .u64 9, .bool true]) ∧ w5 = w') := st_largest s5
  clear s5 b5
  go_wp2_with fail
  (with_reducible refine L5.out.mono ?_)
  rintro e6 w6 ⟨rfl, rfl⟩
  have H6 := Lib.hid (st_has S5.out (by omega) 6 (k := 6) rfl true (by kernel_rfl))
  go_wp2_with fail
  (with_reducible refine H6.out.mono ?_)
  rintro e7 w7 ⟨rfl, b7⟩
  have S7 := Lib.hid (S5.out.below b7)
  have B7 := Lib.hid (B5.out.trans (b7.mono B5.out.size))
  have H7 := Lib.hid (st_has S7.out (by omega) 7 (k := 7) rfl false (by kernel_rfl))
  clear b7
  go_wp2_with fail
  (with_reducible refine H7.out.mono ?_)
  rintro e8 w8 ⟨rfl, b8⟩
  have S8 := Lib.hid (S7.out.below b8)
  have B8 := Lib.hid (B7.out.trans (b8.mono B7.out.size))
  have L8 := Lib.hid (st_list S8.out)
  clear b8
  go_wp2_with fail
  (with_reducible refine L8.out.mono ?_)
  rintro e9 w9 ⟨A', c', rfl, o9, b9⟩
  have B9 := Lib.hid (B8.out.trans (b9.mono B8.out.size))
  have O9 : Hid (OwnR w9 w8.heap.size (.slice A' 2 c') 2 [(9, 9), (5, 6)]) := o9
  have SL9 : Hid (SlR (w9.alloc (.cells #[.int .u64 9, .int .u64 9, .int .u64 5, .int .u64 6] 39)) (w9.heap.size + 1) A' 2 [(9, 9), (5, 6)]) := (O9.out.sl.below ((Below.refl _ _).alloc (Nat.le_refl _) _)).more (Nat.le_succ _)
  clear o9 b9
  go_wp2_with fail
  (with_reducible refine (rsame_any [(9, 9), (5, 6)] [(9, 9), (5, 6)] A' (some ⟨w9.heap.size, 0, none⟩) 2 2 c' 2 (w9.heap.size + 1) (w9.heap.size + 1) _ SL9.out (two_lit w9) (by simp [maxLen]) true (by simp)).mono ?_)
  rintro e10 w10 ⟨rfl, b10⟩
  have B10 : Hid (Below w.heap.size w w10) := (B9.out.trans ((Below.refl _ _).alloc B9.out.size _)).trans (b10.mono (Nat.le_trans B9.out.size (by simp)))
  clear b10
  have HZ := Lib.hid (new_out 0 (.inl (by omega)) w10)
  go_wp2_with fail
  (with_reducible refine HZ.out.mono ?_)
  rintro e11 w11 ⟨rfl, rfl⟩
  go_wp2
  go_ret
  exact ⟨rfl, B10.out⟩
end Go.Proofs.Ytjbhhmjkdhkhaaa
