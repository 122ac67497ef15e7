/-
  What an Ack has: (*reading).ack.
-/
import Derived.Test.YtcipmfhacloegaaFrJ
namespace Go.Proofs.Ytcipmfhacloegaa
open Go.RowKit
set_option linter.unusedVariables false

theorem PtW.belowB {w w' : World} {B g b : Nat} {s : List UInt8 × Nat} (h : PtW w B g s) (hb : Below b w w') (hg : g < b) : PtW w' B g s := by
  obtain ⟨T, A, n, c, hr, hs, h1, h2, h3⟩ := h
  exact ⟨T, A, n, c, hr.belowB hb hg, hs.below ⟨hb.os, hb.tape, hb.output, hb.size, fun k hk => hb.block k (by omega)⟩, h1, h2, h3⟩
theorem Only.belowB {g : Nat} {a b c : World} (h : Only g a b) (k : Below a.heap.size b c) : Only g a c :=
  ⟨k.os.trans h.os, k.tape.trans h.tape, k.output.trans h.output, Nat.le_trans h.size k.size, fun i hi hne => (k.block i hi).trans (h.block i hi hne)⟩
def AckR (w : World) (B g : Nat) (r : (Nat × List (Nat × Nat)) × (List UInt8 × Nat)) (e : Ending) (w' : World) : Prop :=
  ∃ A n c, e = .returned (.tuple #[.int .u64 (r.1.1 : Int), .slice A n c]) ∧ OwnR w' w.heap.size (.slice A n c) n r.1.2 ∧ PtW w' B g r.2 ∧ Only g w w'
set_option maxHeartbeats 4000000 in
theorem ack_any (s : List UInt8 × Nat) (B g : Nat) (w : World) (h : PtW w B g s) :
    Calls Try.prog 45 #[.pointer (some ⟨g, 0, none⟩)] w (AckR w B g (ackP s)) := by
  have HV1 := Lib.hid (varintp_any s B g w h)
  have HGW : Hid (g < w.heap.size) := h.lt
  have hh62 := varintP_lt s
  unfold ackP
  generalize varintP s = r1 at *
  obtain ⟨hi, s1⟩ := r1
  simp only at HV1 hh62 ⊢
  have HV2 := Lib.hid (fun u hp => varintp_any s1 B g u hp)
  generalize varintP s1 = r2 at *
  obtain ⟨dl, s2⟩ := r2
  simp only at HV2 ⊢
  have HV3 := Lib.hid (fun u hp => varintp_any s2 B g u hp)
  have hm62 := varintP_lt s2
  generalize varintP s2 = r3 at *
  obtain ⟨more, s3⟩ := r3
  simp only at HV3 hm62 ⊢
  clear h
  by_cases h8 : 8 ≤ more
  · rw [if_pos h8]
    go_enter Try.func45, Try.ntmps45
    go_wp2_with fail
    (with_reducible refine HV1.out.mono ?_)
    rintro e1 w1 ⟨rfl, hp1, ho1⟩
    go_wp2_with fail
    (with_reducible refine (HV2.out w1 hp1).mono ?_)
    rintro e2 w2 ⟨rfl, hp2, ho2⟩
    go_wp2_with fail
    (with_reducible refine (HV3.out w2 hp2).mono ?_)
    rintro e3 w3 ⟨rfl, hp3, ho3⟩
    have HF := Lib.hid (fail_any s3 5 5 rfl B g w3 hp3)
    go_wp2_with fail
    (with_reducible refine HF.out.mono ?_)
    rintro e4 w4 ⟨rfl, hp4, ho4⟩
    go_wp2_with fail
    go_ret2
    exact ⟨none, 0, 0, rfl, OwnR.nil _ _, hp4, ((ho1.trans ho2).trans ho3).trans ho4⟩
  · rw [if_neg h8]
    have HB1 := Lib.hid (fun u hp => below_any s3 hi 0 0 rfl hh62 (by omega) B g u hp)
    have hl62 := belowP_lt s3 hi 0 hh62
    generalize belowP s3 hi 0 = r4 at *
    obtain ⟨lo, s4⟩ := r4
    simp only at HB1 hl62 ⊢
    obtain ⟨R, hR⟩ : ∃ R, loopP more lo s4 [(lo, hi)] = R := ⟨_, rfl⟩
    rw [hR]
    have HR := Lib.hid hR
    clear hR
    go_enter Try.func45, Try.ntmps45
    go_wp2_with fail
    (with_reducible refine HV1.out.mono ?_)
    rintro e1 w1 ⟨rfl, hp1, ho1⟩
    go_wp2_with fail
    (with_reducible refine (HV2.out w1 hp1).mono ?_)
    rintro e2 w2 ⟨rfl, hp2, ho2⟩
    go_wp2_with fail
    (with_reducible refine (HV3.out w2 hp2).mono ?_)
    rintro e3 w3 ⟨rfl, hp3, ho3⟩
    go_wp2_with fail
    (with_reducible refine (HB1.out w3 hp3).mono ?_)
    rintro e4 w4 ⟨rfl, hp4, ho4⟩
    have O4 : Hid (Only g w w4) := ((ho1.trans ho2).trans ho3).trans ho4
    have P4 := Lib.hid hp4
    clear hp1 hp2 hp3 hp4 ho1 ho2 ho3 ho4 HV1 HV2 HV3 HB1
    go_wp2_with fail
    have OW : Hid (OwnR (w4.alloc (.cells #[.int .u64 (lo : Int), .int .u64 (hi : Int)] 44)) w.heap.size (.slice (some ⟨w4.heap.size, 0, none⟩) 1 1) 1 [(lo, hi)]) := ownR_lit w4 w.heap.size O4.out.size lo hi
    go_loopw [4, 7, 8, 35] (fun _ lv rv i wr => ∃ (j lo' : Nat) (st : List UInt8 × Nat) (acc : List (Nat × Nat)) (A : Option Addr) (n c : Nat), j ≤ more ∧ i = .int .u64 (j : Int) ∧ lv = .int .u64 (lo' : Int) ∧ lo' < 4611686018427387904 ∧ rv = .slice A n c ∧ n = j + 1 ∧ Hid (OwnR wr w.heap.size (.slice A n c) n acc) ∧ Hid (PtW wr B g st) ∧ Hid (Only g w wr) ∧ Hid (loopP (more - j) lo' st acc = R)) (fun _ _ _ i _ => more - (intOf i).toNat)
    case atStart => exact ⟨0, lo, s4, [(lo, hi)], _, 1, 1, by omega, rfl, rfl, hl62, rfl, rfl, OW, P4.out.below ((Below.refl _ _).alloc (Nat.le_refl _) _), O4.out.alloc _, HR⟩
    case round =>
      obtain ⟨j, lo', st, acc, A, n, c, hj, rfl, rfl, hlo, rfl, rfl, OA, PA, ON, HL⟩ := hrel
      by_cases hlt : j < more
      · obtain ⟨k, hk⟩ : ∃ k, more - j = k + 1 := ⟨more - j - 1, by omega⟩
        have hL := HL.out
        rw [hk] at hL
        unfold loopP at hL
        have HB1 := Lib.hid (fun u hp => below_any st lo' 2 2 rfl hlo (by omega) B g u hp)
        have h62 := belowP_lt st lo' 2 hlo
        generalize belowP st lo' 2 = r5 at *
        obtain ⟨hi1, s5⟩ := r5
        simp only at HB1 h62 hL
        have HB2 := Lib.hid (fun u hp => below_any s5 hi1 0 0 rfl h62 (by omega) B g u hp)
        have h62b := belowP_lt s5 hi1 0 h62
        generalize belowP s5 hi1 0 = r6 at *
        obtain ⟨lo1, s6⟩ := r6
        simp only at HB2 h62b hL
        have HL2 := Lib.hid hL
        have HK : Hid (more - (j + 1) = k) := show _ = _ by omega
        clear hL HL hk
        go_wp2_with fail
        (with_reducible refine (HB1.out wr PA.out).mono ?_)
        rintro e1 w1 ⟨rfl, hp1, ho1⟩
        have OA1 := Lib.hid (OA.out.onlyA ho1 fun a ha => by have := (OA.out.blk a ha).1; have := HGW.out; omega)
        have ON1 := Lib.hid (ON.out.trans ho1)
        go_wp2_with fail
        (with_reducible refine (HB2.out w1 hp1).mono ?_)
        rintro e2 w2 ⟨rfl, hp2, ho2⟩
        have OA2 := Lib.hid (OA1.out.onlyA ho2 fun a ha => by have := (OA1.out.blk a ha).1; have := HGW.out; omega)
        have ON2 := Lib.hid (ON1.out.trans ho2)
        have PA2 := Lib.hid hp2
        clear hp1 ho1 hp2 ho2 OA1 ON1
        go_wp2_with (at_builtin; refine wpList_append_ranges rfl _ _ rfl w.heap.size (.slice A (j + 1) c) (j + 1) acc rfl (OA2.out.alloc _) w2.heap.size 0 1 1 [(lo1, hi1)] rfl (slR_lit w2 lo1 hi1) (by omega) (by omega) (Nat.le_trans ON2.out.size (by simp)) _ (Below.refl _ _) ?_; intro A7 c7 w7 O7 G7 B7)
        go_roundw
        case rel =>
          refine ⟨j + 1, lo1, s6, acc ++ [(lo1, hi1)], A7, j + 1 + 1, c7, by omega, by go_num, rfl, h62b, rfl, rfl, O7, ?_, ?_, ?_⟩
          · exact (PA2.out.below ((Below.refl _ _).alloc (Nat.le_refl _) _)).belowB B7.out HGW.out
          · exact (ON2.out.alloc _).belowB B7.out
          · show loopP _ _ _ _ = _
            rw [HK.out]
            exact HL2.out
        case measure => simp [intOf]; omega
      · obtain rfl : j = more := by omega
        have hL := HL.out
        rw [Nat.sub_self] at hL
        have HL2 : Hid ((acc, st) = R) := hL
        clear hL HL
        go_wp2
        go_ret2
        rw [← HL2.out]
        exact ⟨A, j + 1, c, rfl, OA.out, PA.out, ON.out⟩
end Go.Proofs.Ytcipmfhacloegaa
