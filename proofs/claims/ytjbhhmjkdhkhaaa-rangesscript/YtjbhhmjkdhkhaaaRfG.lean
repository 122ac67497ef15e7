/-
  The document's Add. (Its walk was written by program: every order of one region.)
-/
import Derived.Test.YtjbhhmjkdhkhaaaRfF
import Derived.Test.YtjbhhmjkdhkhaaaTailW
namespace Go.Proofs.Ytjbhhmjkdhkhaaa
open Go.RowKit Go.Lib
set_option linter.unusedVariables false

theorem OwnU.spot {w : World} {B n c : Nat} {A : Option Addr} {l : List Nat} (h : OwnU w B (.slice A n c) n l) : ∀ a, A = some a → a.spot = none := by
  rintro a rfl
  rcases h.2 with ⟨hv, _⟩ | ⟨g, cap, cur, hv, _⟩
  · injection hv with hA
    cases hA
  · injection hv with hA
    injection hA with hA
    subst hA
    rfl
theorem radd_no (w : World) (g cnt x : Nat) (A : Option Addr) (s : RS) (h : RefS w g A cnt s) (hc : cnt ≤ 900) (hx : x < 18446744073709551616) (hno : s.newB x = false) :
    Calls Try.prog 16 #[.pointer (some ⟨g, 0, none⟩), .int .u64 (x : Int)] w (Quiet (.bool false) w) := by
  by_cases h1 : 4611686018427387903 < x
  · have t1 : decide ((4611686018427387903 : Int) < (x : Int)) = true := decide_eq_true (by omega)
    clear h hno
    go_enter Try.func16, Try.ntmps16
    go_wp2_with fail
    go_ret
    exact ⟨rfl, 0, rfl⟩
  · have t1 : decide ((4611686018427387903 : Int) < (x : Int)) = false := decide_eq_false (by omega)
    have hm : s.mem x := by
      have h2 := of_decide_eq_false hno
      unfold topV at h2
      exact Decidable.byContradiction fun h3 => h2 ⟨by omega, h3⟩
    have HH := Lib.hid (rhas_ref h (by omega) x (x : Int) rfl true (decide_eq_true hm))
    clear h hno hm h1
    go_enter Try.func16, Try.ntmps16
    go_wp2_with fail
    (with_reducible refine HH.out.mono ?_)
    rintro e1 w1 ⟨rfl, m1, rfl⟩
    go_wp2_with fail
    go_ret
    exact ⟨rfl, m1, rfl⟩
set_option maxHeartbeats 8000000 in
set_option maxRecDepth 8000 in
theorem radd_yes (w : World) (g n c cnt x : Nat) (A : Option Addr) (N : List Nat) (s : RS) (h : RefW w g A n c s.most s.fl N) (hof : OfS s N) (ok : s.Ok) (hc : cnt ≤ 900) (hncnt : n ≤ cnt) (hA : ∀ a, A = some a → a.block < w.heap.size ∧ a.block ≠ g ∧ a.spot = none) (hx : x < 18446744073709551616) (hnew : s.newB x = true) :
    Calls Try.prog 16 #[.pointer (some ⟨g, 0, none⟩), .int .u64 (x : Int)] w fun e w' => e = .returned (.bool true) ∧ ∃ A', RefS w' g A' (cnt + 1) (s.add x) ∧ Moves g A A' w w' := by
  have hn := of_decide_eq_true hnew
  have htop := hn.1
  have hnm := hn.2
  have t1 : decide ((4611686018427387903 : Int) < (x : Int)) = false := decide_eq_false (by unfold topV at htop; omega)
  have hb : ¬ (false = true ↔ (x ∈ N ∨ x < s.fl)) ∨ True := .inr trivial
  have hxn : ¬ x ∈ N := fun h1 => hnm ((hof.has x).2 (.inl h1))
  have HH := Lib.hid (rhas_any w g n c s.most s.fl x A N h false ⟨fun h1 => (by cases h1), fun h1 => absurd ((hof.has x).2 h1) hnm⟩ (by omega))
  have hl := h.s.1
  have C1 := Lib.hid h.cells.2.1
  have HG := Lib.hid h.r.lt
  have HR := Lib.hid h.r
  have HSL := Lib.hid h.s
  have HLE := Lib.hid h.le
  have HOF := Lib.hid hof
  have HOK := Lib.hid ok
  have HNB := Lib.hid hnew
  have HLN := Lib.hid hl
  have HX : Hid (x ≤ topV) := htop
  have HXN := Lib.hid hxn
  have HA := Lib.hid hA
  clear hn htop hnm hb hxn h hof ok hl hA hnew
  go_enter Try.func16, Try.ntmps16
  go_wp2_with fail
  (with_reducible refine HH.out.mono ?_)
  rintro e1 w1 ⟨rfl, m1, rfl⟩
  clear HH t1
  have c1 : w.cell? ⟨g, 1, none⟩ = some (.slice A n c) := C1.out
  go_wp2_with fail
  go_loopw [5] (fun kk wr => ∃ i : Nat, i ≤ n ∧ kk = .int .i64 i ∧ wr = w.drewN m1 ∧ Hid (∀ t, i ≤ t → t < n → x < N.getD t 0)) (fun kk _ => (intOf kk).toNat)
  case atStart => exact ⟨n, by omega, by first | rfl | trivial, by first | rfl | trivial, fun t h1 h2 => by omega⟩
  case round =>
    obtain ⟨i, hi, rfl, rfl, HAB⟩ := hrel
    have hway : (∃ p y, i = p + 1 ∧ N.getD p 0 = y ∧ x < y) ∨ (i = 0 ∨ ∃ p y, i = p + 1 ∧ N.getD p 0 = y ∧ ¬ x < y) := by
      cases i with
      | zero => exact .inr (.inl rfl)
      | succ p =>
        by_cases hy : x < N.getD p 0
        · exact .inl ⟨p, _, rfl, rfl, hy⟩
        · exact .inr (.inr ⟨p, _, rfl, rfl, hy⟩)
    have HCELL : Hid (∀ p, p < n → ∃ b off, A = some ⟨b, off, none⟩ ∧ w.cell? ⟨b, off + p, none⟩ = some (.int .u64 ((N.getD p 0 : Nat) : Int))) := fun p hp => by
      obtain ⟨b, off, e, _, hcl⟩ := HSL.out.2 (by omega)
      exact ⟨b, off, e, hcl p (by have := HLN.out; omega)⟩
    rcases hway with ⟨p, y, rfl, hy, hxy⟩ | hway
    · obtain ⟨b, off, rfl, hcl⟩ := HCELL.out p (by omega)
      rw [hy] at hcl
      have t2 : decide ((0 : Int) < ((p + 1 : Nat) : Int)) = true := decide_eq_true (by omega)
      have t3 : decide ((x : Int) < (y : Int)) = true := decide_eq_true (by omega)
      have t4 : (p : Int) < (n : Int) := by omega
      have t5 : (x : Int) < (y : Int) := by omega
      have HY := Lib.hid hy
      have HXY := Lib.hid hxy
      clear hy hxy
      go_wp2_with fail
      go_roundw
      case rel => exact ⟨p, by omega, by go_num, by first | rfl | trivial, fun t h1 h2 => by
        rcases Nat.lt_or_ge p t with h3 | h3
        · exact HAB.out t (by omega) h2
        · obtain rfl : t = p := by omega
          rw [HY.out]; exact HXY.out⟩
      case measure => simp [intOf]
    · have hbelow : ∀ t, t < i → N.getD t 0 < x := fun t ht => by
        rcases hway with hi0 | ⟨p, y, hip, hy, hxy⟩
        · omega
        · have hpx : N.getD p 0 ≠ x := fun e => HXN.out (mem_getD.2 ⟨p, by have := HLN.out; omega, e⟩)
          rcases Nat.lt_or_ge t p with h3 | h3
          · have := HOF.out.1.lt t p h3 (by have := HLN.out; omega); omega
          · obtain rfl : t = p := by omega
            omega
      have habove : ∀ t, i ≤ t → t < n → x < N.getD t 0 := HAB.out
      have HBE := Lib.hid hbelow
      have HCUT1 : Hid (∀ u, (Instr.slice 22 (.slice A n c) none (some (.int .i64 (i : Int))) none).run Try.prog u = .ok (.slice A i c) u) := fun u => run_cutU u A (fun a ha => (HA.out a ha).2.2) n c i (by have := HLE.out.1; omega)
      obtain ⟨A2, hA2⟩ : ∃ A2, (if c = i then A else A.map (·.add i)) = A2 := ⟨_, rfl⟩
      have HCUT2 : Hid (∀ u, (Instr.slice 22 (.slice A n c) (some (.int .i64 (i : Int))) none none).run Try.prog u = .ok (.slice A2 (n - i) (c - i)) u) := fun u => hA2 ▸ run_cutU_from u A n c i hi HLE.out.1 (i : Int) rfl
      have HA2 := Lib.hid hA2
      clear hbelow habove hA2
      rcases hway with hi0 | ⟨p, y, hip, hy, hxy⟩
      · have t2 : decide ((0 : Int) < (i : Int)) = false := decide_eq_false (by omega)
        have t3 : decide (0 < i) = false := decide_eq_false (by omega)
        have t4 : ¬ 0 < i := by omega
        have t5 : ¬ (0 : Int) < (i : Int) := by omega
        have hbelow := HBE.out
        have habove : ∀ t, i ≤ t → t < n → x < N.getD t 0 := HAB.out
        have HBA : Hid ((∀ t, t < i → N.getD t 0 < x) ∧ ∀ t, i ≤ t → t < n → x < N.getD t 0) := ⟨hbelow, habove⟩
        clear hbelow habove hi0
        go_wp2_with fail
        refine wp_last (n := 20) (S := fun u => Below w.heap.size w u) (by kernel_rfl) ?_
        refine HT.with ⟨by kernel_rfl, by kernel_rfl, by kernel_rfl, by decide⟩ fun HK => ?_
        have hS : Below w.heap.size w (w.drewN m1).drew := ⟨rfl, rfl, rfl, Nat.le_refl _, fun _ _ => rfl⟩
        refine HT.take HK.out (i := 0) (v := ?_) rfl rfl (by kernel_rfl) (by kernel_rfl) (fun _ _ _ h => h) (Or.inl ⟨by rfl, ?_⟩) hS ?_
        rotate_left 1
        · intro u hu
          go_simp
          first | done | with_reducible rfl
        go_simp
        refine HT.take HK.out (i := 1) (v := ?_) rfl rfl (by kernel_rfl) (by kernel_rfl) (fun _ _ _ h => h) (Or.inl ⟨by rfl, ?_⟩) hS ?_
        rotate_left 1
        · intro u hu
          go_simp
          first | done | with_reducible rfl
        go_simp
        refine HT.take HK.out (i := 2) (v := ?_) rfl rfl (by kernel_rfl) (by kernel_rfl) (fun _ _ _ h => h) (Or.inl ⟨by rfl, ?_⟩) hS ?_
        rotate_left 1
        · intro u hu
          go_simp
          first | done | with_reducible rfl
        go_simp
        refine HT.take HK.out (i := 3) (v := ?_) rfl rfl (by kernel_rfl) (by kernel_rfl) (fun _ _ _ h => h) (Or.inl ⟨by rfl, ?_⟩) hS ?_
        rotate_left 1
        · intro u hu
          go_simp
          first | done | with_reducible rfl
        go_simp
        refine HT.take HK.out (i := 4) (v := ?_) rfl rfl (by kernel_rfl) (by kernel_rfl) (fun _ _ _ h => h) (Or.inl ⟨by rfl, ?_⟩) hS ?_
        rotate_left 1
        · intro u hu
          have q1 := (hu.cell (p := ⟨g, 1, none⟩) HG.out).trans C1.out
          go_simp
          first | done | with_reducible rfl
        go_simp
        refine HT.take HK.out (i := 5) (v := ?_) rfl rfl (by kernel_rfl) (by kernel_rfl) (fun _ _ _ h => h) (Or.inl ⟨by rfl, ?_⟩) hS ?_
        rotate_left 1
        · intro u hu
          go_simp
          first | done | with_reducible rfl
        go_simp
        refine HT.take HK.out (i := 6) (v := ?_) rfl rfl (by kernel_rfl) (by kernel_rfl) (fun _ _ _ h => h) (Or.inl ⟨by rfl, ?_⟩) hS ?_
        rotate_left 1
        · intro u hu
          have q1 := HCUT1.out u
          go_simp
          first | done | with_reducible rfl
        go_simp
        refine HT.take HK.out (i := 8) (v := ?_) rfl rfl (by kernel_rfl) (by kernel_rfl) (fun _ _ _ h => h) (Or.inl ⟨by rfl, ?_⟩) hS ?_
        rotate_left 1
        · intro u hu
          go_simp
          first | done | with_reducible rfl
        go_simp
        refine HT.take HK.out (i := 11) (v := ?_) rfl rfl (by kernel_rfl) (by kernel_rfl) (fun _ _ _ h => h) (Or.inl ⟨by rfl, ?_⟩) hS ?_
        rotate_left 1
        · intro u hu
          go_simp
          first | done | with_reducible rfl
        go_simp
        refine HT.take HK.out (i := 12) (v := ?_) rfl rfl (by kernel_rfl) (by kernel_rfl) (fun _ _ _ h => h) (Or.inl ⟨by rfl, ?_⟩) hS ?_
        rotate_left 1
        · intro u hu
          go_simp
          first | done | with_reducible rfl
        go_simp
        refine HT.take HK.out (i := 13) (v := ?_) rfl rfl (by kernel_rfl) (by kernel_rfl) (fun _ _ _ h => h) (Or.inl ⟨by rfl, ?_⟩) hS ?_
        rotate_left 1
        · intro u hu
          go_simp
          first | done | with_reducible rfl
        go_simp
        refine HT.take HK.out (i := 14) (v := ?_) rfl rfl (by kernel_rfl) (by kernel_rfl) (fun _ _ _ h => h) (Or.inl ⟨by rfl, ?_⟩) hS ?_
        rotate_left 1
        · intro u hu
          have q1 := (hu.cell (p := ⟨g, 1, none⟩) HG.out).trans C1.out
          go_simp
          first | done | with_reducible rfl
        go_simp
        refine HT.take HK.out (i := 15) (v := ?_) rfl rfl (by kernel_rfl) (by kernel_rfl) (fun _ _ _ h => h) (Or.inl ⟨by rfl, ?_⟩) hS ?_
        rotate_left 1
        · intro u hu
          go_simp
          first | done | with_reducible rfl
        go_simp
        refine HT.take HK.out (i := 16) (v := ?_) rfl rfl (by kernel_rfl) (by kernel_rfl) (fun _ _ _ h => h) (Or.inl ⟨by rfl, ?_⟩) hS ?_
        rotate_left 1
        · intro u hu
          have q1 := HCUT2.out u
          go_simp
          first | done | with_reducible rfl
        go_simp
        refine HT.two 7 9 (by kernel_rfl) rfl rfl (by rfl) rfl (by rfl) ?_ ?_
        · refine wp_append_nums _ (.tmp 41) rfl w.heap.size (.slice none 0 0) 0 [] rfl (OwnU.nil _ _) w.heap.size A i c (N.take i) (by with_unfolding_all rfl) ((HSL.out.below hS).take i (by omega)) (by omega) hS.size ?_
          intro A1 c1 u1 O1 L1 B1
          have hS1 := hS.trans B1.out
          refine ⟨hS1, ?_⟩
          clear B1 L1
          refine HT.one 9 (by kernel_rfl) rfl rfl (by rfl) ?_
          refine wp_num (.tmp 43) rfl x (by with_unfolding_all rfl) ?_
          intro gb u2 e2 S2 B2
          have hS2 := hS1.trans (B2.out.mono hS1.size)
          refine ⟨hS2, ?_⟩
          have O2 := Lib.hid (O1.out.below B2.out)
          clear O1 B2 e2 hS1 hS
          refine HT.one 10 (by kernel_rfl) rfl rfl (by rfl) ?_
          refine wp_append_nums (.tmp 42) (.tmp 44) rfl w.heap.size (.slice A1 (0 + i) c1) (0 + i) ([] ++ N.take i) (by with_unfolding_all rfl) O2.out (gb + 1) (some ⟨gb, 0, none⟩) 1 1 [x] (by with_unfolding_all rfl) S2.out (by omega) hS2.size ?_
          intro A3 c3 u3 O3 L3 B3
          have hS3 := hS2.trans B3.out
          refine ⟨hS3, ?_⟩
          clear O2 S2 hS2 B3 L3
          refine HT.one 17 (by kernel_rfl) rfl rfl (by rfl) ?_
          refine wp_append_nums (.tmp 45) (.tmp 51) rfl w.heap.size (.slice A3 (0 + i + 1) c3) (0 + i + 1) ([] ++ N.take i ++ [x]) (by with_unfolding_all rfl) O3.out w.heap.size A2 (n - i) (c - i) (N.drop i) (by with_unfolding_all rfl) (HA2.out ▸ ((HSL.out.below hS3).drop i c (by omega) HLE.out.1)) (by omega) hS3.size ?_
          intro A4 c4 u4 O4 L4 B4
          have hS4 := hS3.trans B4.out
          refine ⟨hS4, ?_⟩
          clear O3 hS3 B4
          refine HT.take HK.out (i := 18) (v := ?_) rfl rfl (by kernel_rfl) (by kernel_rfl) (fun _ _ _ h => h) (Or.inl ⟨by rfl, ?_⟩) hS4 ?_
          rotate_left 1
          · intro u hu
            go_simp
            first | done | with_reducible rfl
          go_simp
          refine HT.take HK.out (i := 19) (v := ?_) rfl rfl (by kernel_rfl) (by kernel_rfl) (fun _ _ _ h => h) (Or.inl ⟨by rfl, ?_⟩) hS4 ?_
          rotate_left 1
          · intro u hu
            go_simp
            first | done | with_reducible rfl
          go_simp
          refine HT.last (by kernel_rfl) (by kernel_rfl) rfl (by rfl) ?_
          refine wp_put_rw 22 (.tmp 54) (.tmp 52) rfl g 1 (.slice A4 (i + 1 + (n - i)) c4) (by with_unfolding_all rfl) (by with_unfolding_all rfl) rfl rfl 35 _ (HR.out.belowB hS4 HG.out) size_slU (by simp) ?_
          intro u5 R5 O5
          clear HK
          go_wp2_with fail
          have hlen : 0 + i + 1 + (n - i) = n + 1 := by omega
          have hlen' : i + 1 + (n - i) = n + 1 := by omega
          have hN1 : [] ++ N.take i ++ [x] ++ N.drop i = N.take i ++ x :: N.drop i := by simp
          have r5 := R5.out
          have o4 := O4.out
          rw [hlen, hN1] at o4
          rw [hlen'] at r5
          obtain ⟨N1, hN1'⟩ : ∃ N1, N.take i ++ x :: N.drop i = N1 := ⟨_, rfl⟩
          rw [hN1'] at o4
          have hAt : ∀ a, A4 = some a → w.heap.size ≤ a.block ∧ a.block < u5.heap.size ∧ a.block ≠ g ∧ a.spot = none := fun a ha => by
            have h9 := o4.blk a ha
            have h8 := O5.out.size
            exact ⟨h9.1, by omega, by have := HG.out; omega, o4.spot a ha⟩
          have R6 : Hid (RefW u5 g A4 (n + 1) c4 s.most s.fl N1) := ⟨r5, (o4.sl.only O5.out (fun a ha => (hAt a ha).2.2.1) (Nat.le_refl _)).more O5.out.size, ⟨by have := L4.out.1; omega, L4.out.2⟩⟩
          have M6 : Hid (Moves g A A4 w u5) := ⟨O5.out.os.trans hS4.os, O5.out.tape.trans hS4.tape, O5.out.output.trans hS4.output, Nat.le_trans hS4.size O5.out.size, fun k hk h1 _ => (O5.out.block k (Nat.lt_of_lt_of_le hk hS4.size) h1).trans (hS4.block k hk), fun a ha => .inr (hAt a ha).1⟩
          have HR1 : Hid (Rise N1) := hN1' ▸ rise_ins HOF.out.1 (by have := HLN.out; omega) HBA.out.1 (by rw [HLN.out]; exact HBA.out.2) HX.out
          have HM1 : Hid (∀ m, m ∈ N1 ↔ m = x ∨ m ∈ N) := fun m => hN1' ▸ ins_mem N i x m
          have HAT := Lib.hid hAt
          have HLI := Lib.hid (rlist_any u5 g (n + 1) c4 s.most s.fl A4 N1 R6.out HR1.out (by omega))
          clear hlen hlen' hN1 hN1' r5 o4 hAt R5 O4 O5 L4 hS4
          go_wp2_with fail
          (with_reducible refine HLI.out.mono ?_)
          rintro e7 w7 ⟨L, A7, c7, rfl, d7, o7, b7⟩
          have R7 := Lib.hid (R6.out.below b7)
          have M7 : Hid (Moves g A A4 w w7) := M6.out.trans (Moves.of_below b7) HG.out
          have O7 := Lib.hid o7
          have HAT7 : Hid (∀ a, A4 = some a → w.heap.size ≤ a.block ∧ a.block < w7.heap.size ∧ a.block ≠ g ∧ a.spot = none) := fun a ha => ⟨(HAT.out a ha).1, Nat.lt_of_lt_of_le (HAT.out a ha).2.1 b7.size, (HAT.out a ha).2.2⟩
          have cm : w7.cell? ⟨g, 0, none⟩ = some (.int .i64 (s.most : Int)) := R7.out.cells.1
          have hcase := HOF.out.add HOK.out HNB.out HR1.out HM1.out d7
          clear HLI d7 o7 b7 R6 M6 HAT
          rcases hcase with ⟨hle, k1, k2, k3⟩ | ⟨l2, y, hL, hlt, hy, kk⟩
          · have t1 : ¬ (s.most : Int) < (L.length : Int) := by omega
            have KK : Hid (OfS (s.add x) N1 ∧ (s.add x).fl = s.fl ∧ (s.add x).most = s.most) := ⟨k1, k2, k3⟩
            clear k1 k2 k3 hle
            go_wp2_with fail
            go_ret
            exact ⟨rfl, A4, ⟨⟨n + 1, c4, N1, by rw [KK.out.2.1, KK.out.2.2]; exact R7.out, KK.out.1, by omega⟩, fun a ha => (HAT7.out a ha).2⟩, M7.out⟩
          · have hlen2 : L.length = l2.length + 1 := by rw [hL]; simp
            obtain ⟨p, hp⟩ : ∃ p, l2.length = p := ⟨_, rfl⟩
            obtain ⟨q, hq⟩ : ∃ q, L.length = q := ⟨_, rfl⟩
            have hlast : L.getD p (0, 0) = y := by rw [hL, ← hp]; simp
            rw [hq] at O7 hlt hlen2 ⊢
            rw [hp] at hlen2
            have t1 : (s.most : Int) < (q : Int) := by omega
            obtain ⟨gl, rfl⟩ : ∃ gl, A7 = some ⟨gl, 0, none⟩ := by
              obtain ⟨gl, off, e, _⟩ := O7.out.sl.2 (by omega)
              subst e
              exact ⟨gl, by rw [O7.out.spot _ rfl]⟩
            have p1 : (q : Int) - 1 = (p : Int) := by omega
            have p2 : p < q := by omega
            have p2' : (p : Int) < (q : Int) := by omega
            have p3 : wrap64 (p : Int) = (p : Int) := by
              have h9 := O7.out.bnd
              unfold maxLen at h9
              unfold wrap64
              omega
            have cy := (O7.out.cells p p2).2
            rw [hlast] at cy
            obtain ⟨ylo, yhi⟩ := y
            simp only at cy hy
            obtain ⟨z, hz⟩ : ∃ z, yhi + 1 = z := ⟨_, rfl⟩
            have hz1 : (yhi : Int) + 1 = (z : Int) := by omega
            have hz2 : IntKind.u64.wrap (z : Int) = (z : Int) := by unfold topV at hy; simp [IntKind.wrap, IntKind.bits, IntKind.signed]; omega
            have HBL := Lib.hid (rbelow_w w7 g (n + 1) c4 s.most s.fl z A4 N1 R7.out (by omega) (fun a ha => (HAT7.out a ha).2.2) _ rfl)
            have HKK := Lib.hid kk
            have HZ := Lib.hid hz
            clear kk hL hlen2 hp hq hlast hlt hz hy
            go_wp2_with fail
            (with_reducible refine HBL.out.mono ?_)
            rintro e8 w8 ⟨rfl, j, A8, hj, r8, ht8, hl8, o8, a8⟩
            obtain ⟨k1, k2, k3⟩ := HKK.out (N1.drop j) (rise_drop HR1.out j) (fun m => by simp only [HZ.out]; exact drop_mem HR1.out ht8 hl8 m)
            simp only [HZ.out] at k2
            have M8 : Hid (Moves g A A8 w w8) := M7.out.trans ⟨o8.os, o8.tape, o8.output, o8.size, fun i hi h4 _ => o8.block i hi h4, fun a' ha => by
              obtain ⟨_, a, e2, e3⟩ := a8 a' ha
              exact .inl ⟨a, e2, e3.symm⟩⟩ HG.out
            have KK : Hid (RefS w8 g A8 (cnt + 1) (s.add x)) := ⟨⟨n + 1 - j, c4 - j, N1.drop j, by rw [k2, k3]; exact r8, k1, by omega⟩, fun a' ha => by
              obtain ⟨e1, a, e2, e3⟩ := a8 a' ha
              have h9 := HAT7.out a e2
              have h8 := o8.size
              exact ⟨by omega, by omega, e1⟩⟩
            clear k1 k2 k3 r8 ht8 hl8 o8 a8 HKK HBL
            go_wp2_with fail
            go_ret
            exact ⟨rfl, A8, KK.out, M8.out⟩
        · refine wp_num (.tmp 43) rfl x (by with_unfolding_all rfl) ?_
          intro gb u1 e1 S1 B1
          have hS1 := hS.trans (B1.out.mono hS.size)
          refine ⟨hS1, ?_⟩
          refine HT.one 7 (by kernel_rfl) rfl rfl (by rfl) ?_
          refine wp_append_nums _ (.tmp 41) rfl u1.heap.size (.slice none 0 0) 0 [] rfl (OwnU.nil _ _) w.heap.size A i c (N.take i) (by with_unfolding_all rfl) ((HSL.out.below hS1).take i (by omega)) (by omega) (Nat.le_refl _) ?_
          intro A1 c1 u2 O1 L1 B2
          have hS2 := hS1.trans (B2.out.mono hS1.size)
          refine ⟨hS2, ?_⟩
          have O2 := Lib.hid (O1.out.base hS1.size)
          have S2 : Hid (SlU u2 (gb + 1) (some ⟨gb, 0, none⟩) 1 [x]) := S1.out.below (B2.out.mono e1.out.2)
          clear S1 B2 e1 hS1 hS L1 B1 O1
          refine HT.one 10 (by kernel_rfl) rfl rfl (by rfl) ?_
          refine wp_append_nums (.tmp 42) (.tmp 44) rfl w.heap.size (.slice A1 (0 + i) c1) (0 + i) ([] ++ N.take i) (by with_unfolding_all rfl) O2.out (gb + 1) (some ⟨gb, 0, none⟩) 1 1 [x] (by with_unfolding_all rfl) S2.out (by omega) hS2.size ?_
          intro A3 c3 u3 O3 L3 B3
          have hS3 := hS2.trans B3.out
          refine ⟨hS3, ?_⟩
          clear O2 S2 hS2 B3 L3
          refine HT.one 17 (by kernel_rfl) rfl rfl (by rfl) ?_
          refine wp_append_nums (.tmp 45) (.tmp 51) rfl w.heap.size (.slice A3 (0 + i + 1) c3) (0 + i + 1) ([] ++ N.take i ++ [x]) (by with_unfolding_all rfl) O3.out w.heap.size A2 (n - i) (c - i) (N.drop i) (by with_unfolding_all rfl) (HA2.out ▸ ((HSL.out.below hS3).drop i c (by omega) HLE.out.1)) (by omega) hS3.size ?_
          intro A4 c4 u4 O4 L4 B4
          have hS4 := hS3.trans B4.out
          refine ⟨hS4, ?_⟩
          clear O3 hS3 B4
          refine HT.take HK.out (i := 18) (v := ?_) rfl rfl (by kernel_rfl) (by kernel_rfl) (fun _ _ _ h => h) (Or.inl ⟨by rfl, ?_⟩) hS4 ?_
          rotate_left 1
          · intro u hu
            go_simp
            first | done | with_reducible rfl
          go_simp
          refine HT.take HK.out (i := 19) (v := ?_) rfl rfl (by kernel_rfl) (by kernel_rfl) (fun _ _ _ h => h) (Or.inl ⟨by rfl, ?_⟩) hS4 ?_
          rotate_left 1
          · intro u hu
            go_simp
            first | done | with_reducible rfl
          go_simp
          refine HT.last (by kernel_rfl) (by kernel_rfl) rfl (by rfl) ?_
          refine wp_put_rw 22 (.tmp 54) (.tmp 52) rfl g 1 (.slice A4 (i + 1 + (n - i)) c4) (by with_unfolding_all rfl) (by with_unfolding_all rfl) rfl rfl 35 _ (HR.out.belowB hS4 HG.out) size_slU (by simp) ?_
          intro u5 R5 O5
          clear HK
          go_wp2_with fail
          have hlen : 0 + i + 1 + (n - i) = n + 1 := by omega
          have hlen' : i + 1 + (n - i) = n + 1 := by omega
          have hN1 : [] ++ N.take i ++ [x] ++ N.drop i = N.take i ++ x :: N.drop i := by simp
          have r5 := R5.out
          have o4 := O4.out
          rw [hlen, hN1] at o4
          rw [hlen'] at r5
          obtain ⟨N1, hN1'⟩ : ∃ N1, N.take i ++ x :: N.drop i = N1 := ⟨_, rfl⟩
          rw [hN1'] at o4
          have hAt : ∀ a, A4 = some a → w.heap.size ≤ a.block ∧ a.block < u5.heap.size ∧ a.block ≠ g ∧ a.spot = none := fun a ha => by
            have h9 := o4.blk a ha
            have h8 := O5.out.size
            exact ⟨h9.1, by omega, by have := HG.out; omega, o4.spot a ha⟩
          have R6 : Hid (RefW u5 g A4 (n + 1) c4 s.most s.fl N1) := ⟨r5, (o4.sl.only O5.out (fun a ha => (hAt a ha).2.2.1) (Nat.le_refl _)).more O5.out.size, ⟨by have := L4.out.1; omega, L4.out.2⟩⟩
          have M6 : Hid (Moves g A A4 w u5) := ⟨O5.out.os.trans hS4.os, O5.out.tape.trans hS4.tape, O5.out.output.trans hS4.output, Nat.le_trans hS4.size O5.out.size, fun k hk h1 _ => (O5.out.block k (Nat.lt_of_lt_of_le hk hS4.size) h1).trans (hS4.block k hk), fun a ha => .inr (hAt a ha).1⟩
          have HR1 : Hid (Rise N1) := hN1' ▸ rise_ins HOF.out.1 (by have := HLN.out; omega) HBA.out.1 (by rw [HLN.out]; exact HBA.out.2) HX.out
          have HM1 : Hid (∀ m, m ∈ N1 ↔ m = x ∨ m ∈ N) := fun m => hN1' ▸ ins_mem N i x m
          have HAT := Lib.hid hAt
          have HLI := Lib.hid (rlist_any u5 g (n + 1) c4 s.most s.fl A4 N1 R6.out HR1.out (by omega))
          clear hlen hlen' hN1 hN1' r5 o4 hAt R5 O4 O5 L4 hS4
          go_wp2_with fail
          (with_reducible refine HLI.out.mono ?_)
          rintro e7 w7 ⟨L, A7, c7, rfl, d7, o7, b7⟩
          have R7 := Lib.hid (R6.out.below b7)
          have M7 : Hid (Moves g A A4 w w7) := M6.out.trans (Moves.of_below b7) HG.out
          have O7 := Lib.hid o7
          have HAT7 : Hid (∀ a, A4 = some a → w.heap.size ≤ a.block ∧ a.block < w7.heap.size ∧ a.block ≠ g ∧ a.spot = none) := fun a ha => ⟨(HAT.out a ha).1, Nat.lt_of_lt_of_le (HAT.out a ha).2.1 b7.size, (HAT.out a ha).2.2⟩
          have cm : w7.cell? ⟨g, 0, none⟩ = some (.int .i64 (s.most : Int)) := R7.out.cells.1
          have hcase := HOF.out.add HOK.out HNB.out HR1.out HM1.out d7
          clear HLI d7 o7 b7 R6 M6 HAT
          rcases hcase with ⟨hle, k1, k2, k3⟩ | ⟨l2, y, hL, hlt, hy, kk⟩
          · have t1 : ¬ (s.most : Int) < (L.length : Int) := by omega
            have KK : Hid (OfS (s.add x) N1 ∧ (s.add x).fl = s.fl ∧ (s.add x).most = s.most) := ⟨k1, k2, k3⟩
            clear k1 k2 k3 hle
            go_wp2_with fail
            go_ret
            exact ⟨rfl, A4, ⟨⟨n + 1, c4, N1, by rw [KK.out.2.1, KK.out.2.2]; exact R7.out, KK.out.1, by omega⟩, fun a ha => (HAT7.out a ha).2⟩, M7.out⟩
          · have hlen2 : L.length = l2.length + 1 := by rw [hL]; simp
            obtain ⟨p, hp⟩ : ∃ p, l2.length = p := ⟨_, rfl⟩
            obtain ⟨q, hq⟩ : ∃ q, L.length = q := ⟨_, rfl⟩
            have hlast : L.getD p (0, 0) = y := by rw [hL, ← hp]; simp
            rw [hq] at O7 hlt hlen2 ⊢
            rw [hp] at hlen2
            have t1 : (s.most : Int) < (q : Int) := by omega
            obtain ⟨gl, rfl⟩ : ∃ gl, A7 = some ⟨gl, 0, none⟩ := by
              obtain ⟨gl, off, e, _⟩ := O7.out.sl.2 (by omega)
              subst e
              exact ⟨gl, by rw [O7.out.spot _ rfl]⟩
            have p1 : (q : Int) - 1 = (p : Int) := by omega
            have p2 : p < q := by omega
            have p2' : (p : Int) < (q : Int) := by omega
            have p3 : wrap64 (p : Int) = (p : Int) := by
              have h9 := O7.out.bnd
              unfold maxLen at h9
              unfold wrap64
              omega
            have cy := (O7.out.cells p p2).2
            rw [hlast] at cy
            obtain ⟨ylo, yhi⟩ := y
            simp only at cy hy
            obtain ⟨z, hz⟩ : ∃ z, yhi + 1 = z := ⟨_, rfl⟩
            have hz1 : (yhi : Int) + 1 = (z : Int) := by omega
            have hz2 : IntKind.u64.wrap (z : Int) = (z : Int) := by unfold topV at hy; simp [IntKind.wrap, IntKind.bits, IntKind.signed]; omega
            have HBL := Lib.hid (rbelow_w w7 g (n + 1) c4 s.most s.fl z A4 N1 R7.out (by omega) (fun a ha => (HAT7.out a ha).2.2) _ rfl)
            have HKK := Lib.hid kk
            have HZ := Lib.hid hz
            clear kk hL hlen2 hp hq hlast hlt hz hy
            go_wp2_with fail
            (with_reducible refine HBL.out.mono ?_)
            rintro e8 w8 ⟨rfl, j, A8, hj, r8, ht8, hl8, o8, a8⟩
            obtain ⟨k1, k2, k3⟩ := HKK.out (N1.drop j) (rise_drop HR1.out j) (fun m => by simp only [HZ.out]; exact drop_mem HR1.out ht8 hl8 m)
            simp only [HZ.out] at k2
            have M8 : Hid (Moves g A A8 w w8) := M7.out.trans ⟨o8.os, o8.tape, o8.output, o8.size, fun i hi h4 _ => o8.block i hi h4, fun a' ha => by
              obtain ⟨_, a, e2, e3⟩ := a8 a' ha
              exact .inl ⟨a, e2, e3.symm⟩⟩ HG.out
            have KK : Hid (RefS w8 g A8 (cnt + 1) (s.add x)) := ⟨⟨n + 1 - j, c4 - j, N1.drop j, by rw [k2, k3]; exact r8, k1, by omega⟩, fun a' ha => by
              obtain ⟨e1, a, e2, e3⟩ := a8 a' ha
              have h9 := HAT7.out a e2
              have h8 := o8.size
              exact ⟨by omega, by omega, e1⟩⟩
            clear k1 k2 k3 r8 ht8 hl8 o8 a8 HKK HBL
            go_wp2_with fail
            go_ret
            exact ⟨rfl, A8, KK.out, M8.out⟩
      · obtain ⟨b, off, hAe, hcl⟩ := HCELL.out p (by omega)
        rw [hy] at hcl
        have t2 : decide ((0 : Int) < (i : Int)) = true := decide_eq_true (by omega)
        have t3 : decide ((x : Int) < (y : Int)) = false := decide_eq_false (by omega)
        have t4 : (p : Int) < (n : Int) := by omega
        have t6 : p < n := by omega
        have t5 : ¬ (x : Int) < (y : Int) := by omega
        have t7 : (i : Int) - 1 = (p : Int) := by omega
        have HBA : Hid ((∀ t, t < i → N.getD t 0 < x) ∧ ∀ t, i ≤ t → t < n → x < N.getD t 0) := ⟨HBE.out, HAB.out⟩
        clear hy hxy hip
        subst hAe
        go_wp2_with fail
        clear t2 t3 t4 t5 t6 t7 hcl
        refine wp_last (n := 20) (S := fun u => Below w.heap.size w u) (by kernel_rfl) ?_
        refine HT.with ⟨by kernel_rfl, by kernel_rfl, by kernel_rfl, by decide⟩ fun HK => ?_
        have hS : Below w.heap.size w (w.drewN m1).drew := ⟨rfl, rfl, rfl, Nat.le_refl _, fun _ _ => rfl⟩
        refine HT.take HK.out (i := 0) (v := ?_) rfl rfl (by kernel_rfl) (by kernel_rfl) (fun _ _ _ h => h) (Or.inl ⟨by rfl, ?_⟩) hS ?_
        rotate_left 1
        · intro u hu
          go_simp
          first | done | with_reducible rfl
        go_simp
        refine HT.take HK.out (i := 1) (v := ?_) rfl rfl (by kernel_rfl) (by kernel_rfl) (fun _ _ _ h => h) (Or.inl ⟨by rfl, ?_⟩) hS ?_
        rotate_left 1
        · intro u hu
          go_simp
          first | done | with_reducible rfl
        go_simp
        refine HT.take HK.out (i := 2) (v := ?_) rfl rfl (by kernel_rfl) (by kernel_rfl) (fun _ _ _ h => h) (Or.inl ⟨by rfl, ?_⟩) hS ?_
        rotate_left 1
        · intro u hu
          go_simp
          first | done | with_reducible rfl
        go_simp
        refine HT.take HK.out (i := 3) (v := ?_) rfl rfl (by kernel_rfl) (by kernel_rfl) (fun _ _ _ h => h) (Or.inl ⟨by rfl, ?_⟩) hS ?_
        rotate_left 1
        · intro u hu
          go_simp
          first | done | with_reducible rfl
        go_simp
        refine HT.take HK.out (i := 4) (v := ?_) rfl rfl (by kernel_rfl) (by kernel_rfl) (fun _ _ _ h => h) (Or.inl ⟨by rfl, ?_⟩) hS ?_
        rotate_left 1
        · intro u hu
          have q1 := (hu.cell (p := ⟨g, 1, none⟩) HG.out).trans C1.out
          go_simp
          first | done | with_reducible rfl
        go_simp
        refine HT.take HK.out (i := 5) (v := ?_) rfl rfl (by kernel_rfl) (by kernel_rfl) (fun _ _ _ h => h) (Or.inl ⟨by rfl, ?_⟩) hS ?_
        rotate_left 1
        · intro u hu
          go_simp
          first | done | with_reducible rfl
        go_simp
        refine HT.take HK.out (i := 6) (v := ?_) rfl rfl (by kernel_rfl) (by kernel_rfl) (fun _ _ _ h => h) (Or.inl ⟨by rfl, ?_⟩) hS ?_
        rotate_left 1
        · intro u hu
          have q1 := HCUT1.out u
          go_simp
          first | done | with_reducible rfl
        go_simp
        refine HT.take HK.out (i := 8) (v := ?_) rfl rfl (by kernel_rfl) (by kernel_rfl) (fun _ _ _ h => h) (Or.inl ⟨by rfl, ?_⟩) hS ?_
        rotate_left 1
        · intro u hu
          go_simp
          first | done | with_reducible rfl
        go_simp
        refine HT.take HK.out (i := 11) (v := ?_) rfl rfl (by kernel_rfl) (by kernel_rfl) (fun _ _ _ h => h) (Or.inl ⟨by rfl, ?_⟩) hS ?_
        rotate_left 1
        · intro u hu
          go_simp
          first | done | with_reducible rfl
        go_simp
        refine HT.take HK.out (i := 12) (v := ?_) rfl rfl (by kernel_rfl) (by kernel_rfl) (fun _ _ _ h => h) (Or.inl ⟨by rfl, ?_⟩) hS ?_
        rotate_left 1
        · intro u hu
          go_simp
          first | done | with_reducible rfl
        go_simp
        refine HT.take HK.out (i := 13) (v := ?_) rfl rfl (by kernel_rfl) (by kernel_rfl) (fun _ _ _ h => h) (Or.inl ⟨by rfl, ?_⟩) hS ?_
        rotate_left 1
        · intro u hu
          go_simp
          first | done | with_reducible rfl
        go_simp
        refine HT.take HK.out (i := 14) (v := ?_) rfl rfl (by kernel_rfl) (by kernel_rfl) (fun _ _ _ h => h) (Or.inl ⟨by rfl, ?_⟩) hS ?_
        rotate_left 1
        · intro u hu
          have q1 := (hu.cell (p := ⟨g, 1, none⟩) HG.out).trans C1.out
          go_simp
          first | done | with_reducible rfl
        go_simp
        refine HT.take HK.out (i := 15) (v := ?_) rfl rfl (by kernel_rfl) (by kernel_rfl) (fun _ _ _ h => h) (Or.inl ⟨by rfl, ?_⟩) hS ?_
        rotate_left 1
        · intro u hu
          go_simp
          first | done | with_reducible rfl
        go_simp
        refine HT.take HK.out (i := 16) (v := ?_) rfl rfl (by kernel_rfl) (by kernel_rfl) (fun _ _ _ h => h) (Or.inl ⟨by rfl, ?_⟩) hS ?_
        rotate_left 1
        · intro u hu
          have q1 := HCUT2.out u
          go_simp
          first | done | with_reducible rfl
        go_simp
        refine HT.two 7 9 (by kernel_rfl) rfl rfl (by rfl) rfl (by rfl) ?_ ?_
        · refine wp_append_nums _ (.tmp 41) rfl w.heap.size (.slice none 0 0) 0 [] rfl (OwnU.nil _ _) w.heap.size (some ⟨b, off, none⟩) i c (N.take i) (by with_unfolding_all rfl) ((HSL.out.below hS).take i (by omega)) (by omega) hS.size ?_
          intro A1 c1 u1 O1 L1 B1
          have hS1 := hS.trans B1.out
          refine ⟨hS1, ?_⟩
          clear B1 L1
          refine HT.one 9 (by kernel_rfl) rfl rfl (by rfl) ?_
          refine wp_num (.tmp 43) rfl x (by with_unfolding_all rfl) ?_
          intro gb u2 e2 S2 B2
          have hS2 := hS1.trans (B2.out.mono hS1.size)
          refine ⟨hS2, ?_⟩
          have O2 := Lib.hid (O1.out.below B2.out)
          clear O1 B2 e2 hS1 hS
          refine HT.one 10 (by kernel_rfl) rfl rfl (by rfl) ?_
          refine wp_append_nums (.tmp 42) (.tmp 44) rfl w.heap.size (.slice A1 (0 + i) c1) (0 + i) ([] ++ N.take i) (by with_unfolding_all rfl) O2.out (gb + 1) (some ⟨gb, 0, none⟩) 1 1 [x] (by with_unfolding_all rfl) S2.out (by omega) hS2.size ?_
          intro A3 c3 u3 O3 L3 B3
          have hS3 := hS2.trans B3.out
          refine ⟨hS3, ?_⟩
          clear O2 S2 hS2 B3 L3
          refine HT.one 17 (by kernel_rfl) rfl rfl (by rfl) ?_
          refine wp_append_nums (.tmp 45) (.tmp 51) rfl w.heap.size (.slice A3 (0 + i + 1) c3) (0 + i + 1) ([] ++ N.take i ++ [x]) (by with_unfolding_all rfl) O3.out w.heap.size A2 (n - i) (c - i) (N.drop i) (by with_unfolding_all rfl) (HA2.out ▸ ((HSL.out.below hS3).drop i c (by omega) HLE.out.1)) (by omega) hS3.size ?_
          intro A4 c4 u4 O4 L4 B4
          have hS4 := hS3.trans B4.out
          refine ⟨hS4, ?_⟩
          clear O3 hS3 B4
          refine HT.take HK.out (i := 18) (v := ?_) rfl rfl (by kernel_rfl) (by kernel_rfl) (fun _ _ _ h => h) (Or.inl ⟨by rfl, ?_⟩) hS4 ?_
          rotate_left 1
          · intro u hu
            go_simp
            first | done | with_reducible rfl
          go_simp
          refine HT.take HK.out (i := 19) (v := ?_) rfl rfl (by kernel_rfl) (by kernel_rfl) (fun _ _ _ h => h) (Or.inl ⟨by rfl, ?_⟩) hS4 ?_
          rotate_left 1
          · intro u hu
            go_simp
            first | done | with_reducible rfl
          go_simp
          refine HT.last (by kernel_rfl) (by kernel_rfl) rfl (by rfl) ?_
          refine wp_put_rw 22 (.tmp 54) (.tmp 52) rfl g 1 (.slice A4 (i + 1 + (n - i)) c4) (by with_unfolding_all rfl) (by with_unfolding_all rfl) rfl rfl 35 _ (HR.out.belowB hS4 HG.out) size_slU (by simp) ?_
          intro u5 R5 O5
          clear HK
          go_wp2_with fail
          have hlen : 0 + i + 1 + (n - i) = n + 1 := by omega
          have hlen' : i + 1 + (n - i) = n + 1 := by omega
          have hN1 : [] ++ N.take i ++ [x] ++ N.drop i = N.take i ++ x :: N.drop i := by simp
          have r5 := R5.out
          have o4 := O4.out
          rw [hlen, hN1] at o4
          rw [hlen'] at r5
          obtain ⟨N1, hN1'⟩ : ∃ N1, N.take i ++ x :: N.drop i = N1 := ⟨_, rfl⟩
          rw [hN1'] at o4
          have hAt : ∀ a, A4 = some a → w.heap.size ≤ a.block ∧ a.block < u5.heap.size ∧ a.block ≠ g ∧ a.spot = none := fun a ha => by
            have h9 := o4.blk a ha
            have h8 := O5.out.size
            exact ⟨h9.1, by omega, by have := HG.out; omega, o4.spot a ha⟩
          have R6 : Hid (RefW u5 g A4 (n + 1) c4 s.most s.fl N1) := ⟨r5, (o4.sl.only O5.out (fun a ha => (hAt a ha).2.2.1) (Nat.le_refl _)).more O5.out.size, ⟨by have := L4.out.1; omega, L4.out.2⟩⟩
          have M6 : Hid (Moves g (some ⟨b, off, none⟩) A4 w u5) := ⟨O5.out.os.trans hS4.os, O5.out.tape.trans hS4.tape, O5.out.output.trans hS4.output, Nat.le_trans hS4.size O5.out.size, fun k hk h1 _ => (O5.out.block k (Nat.lt_of_lt_of_le hk hS4.size) h1).trans (hS4.block k hk), fun a ha => .inr (hAt a ha).1⟩
          have HR1 : Hid (Rise N1) := hN1' ▸ rise_ins HOF.out.1 (by have := HLN.out; omega) HBA.out.1 (by rw [HLN.out]; exact HBA.out.2) HX.out
          have HM1 : Hid (∀ m, m ∈ N1 ↔ m = x ∨ m ∈ N) := fun m => hN1' ▸ ins_mem N i x m
          have HAT := Lib.hid hAt
          have HLI := Lib.hid (rlist_any u5 g (n + 1) c4 s.most s.fl A4 N1 R6.out HR1.out (by omega))
          clear hlen hlen' hN1 hN1' r5 o4 hAt R5 O4 O5 L4 hS4
          go_wp2_with fail
          (with_reducible refine HLI.out.mono ?_)
          rintro e7 w7 ⟨L, A7, c7, rfl, d7, o7, b7⟩
          have R7 := Lib.hid (R6.out.below b7)
          have M7 : Hid (Moves g (some ⟨b, off, none⟩) A4 w w7) := M6.out.trans (Moves.of_below b7) HG.out
          have O7 := Lib.hid o7
          have HAT7 : Hid (∀ a, A4 = some a → w.heap.size ≤ a.block ∧ a.block < w7.heap.size ∧ a.block ≠ g ∧ a.spot = none) := fun a ha => ⟨(HAT.out a ha).1, Nat.lt_of_lt_of_le (HAT.out a ha).2.1 b7.size, (HAT.out a ha).2.2⟩
          have cm : w7.cell? ⟨g, 0, none⟩ = some (.int .i64 (s.most : Int)) := R7.out.cells.1
          have hcase := HOF.out.add HOK.out HNB.out HR1.out HM1.out d7
          clear HLI d7 o7 b7 R6 M6 HAT
          rcases hcase with ⟨hle, k1, k2, k3⟩ | ⟨l2, y, hL, hlt, hy, kk⟩
          · have t1 : ¬ (s.most : Int) < (L.length : Int) := by omega
            have KK : Hid (OfS (s.add x) N1 ∧ (s.add x).fl = s.fl ∧ (s.add x).most = s.most) := ⟨k1, k2, k3⟩
            clear k1 k2 k3 hle
            go_wp2_with fail
            go_ret
            exact ⟨rfl, A4, ⟨⟨n + 1, c4, N1, by rw [KK.out.2.1, KK.out.2.2]; exact R7.out, KK.out.1, by omega⟩, fun a ha => (HAT7.out a ha).2⟩, M7.out⟩
          · have hlen2 : L.length = l2.length + 1 := by rw [hL]; simp
            obtain ⟨p, hp⟩ : ∃ p, l2.length = p := ⟨_, rfl⟩
            obtain ⟨q, hq⟩ : ∃ q, L.length = q := ⟨_, rfl⟩
            have hlast : L.getD p (0, 0) = y := by rw [hL, ← hp]; simp
            rw [hq] at O7 hlt hlen2 ⊢
            rw [hp] at hlen2
            have t1 : (s.most : Int) < (q : Int) := by omega
            obtain ⟨gl, rfl⟩ : ∃ gl, A7 = some ⟨gl, 0, none⟩ := by
              obtain ⟨gl, off, e, _⟩ := O7.out.sl.2 (by omega)
              subst e
              exact ⟨gl, by rw [O7.out.spot _ rfl]⟩
            have p1 : (q : Int) - 1 = (p : Int) := by omega
            have p2 : p < q := by omega
            have p2' : (p : Int) < (q : Int) := by omega
            have p3 : wrap64 (p : Int) = (p : Int) := by
              have h9 := O7.out.bnd
              unfold maxLen at h9
              unfold wrap64
              omega
            have cy := (O7.out.cells p p2).2
            rw [hlast] at cy
            obtain ⟨ylo, yhi⟩ := y
            simp only at cy hy
            obtain ⟨z, hz⟩ : ∃ z, yhi + 1 = z := ⟨_, rfl⟩
            have hz1 : (yhi : Int) + 1 = (z : Int) := by omega
            have hz2 : IntKind.u64.wrap (z : Int) = (z : Int) := by unfold topV at hy; simp [IntKind.wrap, IntKind.bits, IntKind.signed]; omega
            have HBL := Lib.hid (rbelow_w w7 g (n + 1) c4 s.most s.fl z A4 N1 R7.out (by omega) (fun a ha => (HAT7.out a ha).2.2) _ rfl)
            have HKK := Lib.hid kk
            have HZ := Lib.hid hz
            clear kk hL hlen2 hp hq hlast hlt hz hy
            go_wp2_with fail
            (with_reducible refine HBL.out.mono ?_)
            rintro e8 w8 ⟨rfl, j, A8, hj, r8, ht8, hl8, o8, a8⟩
            obtain ⟨k1, k2, k3⟩ := HKK.out (N1.drop j) (rise_drop HR1.out j) (fun m => by simp only [HZ.out]; exact drop_mem HR1.out ht8 hl8 m)
            simp only [HZ.out] at k2
            have M8 : Hid (Moves g (some ⟨b, off, none⟩) A8 w w8) := M7.out.trans ⟨o8.os, o8.tape, o8.output, o8.size, fun i hi h4 _ => o8.block i hi h4, fun a' ha => by
              obtain ⟨_, a, e2, e3⟩ := a8 a' ha
              exact .inl ⟨a, e2, e3.symm⟩⟩ HG.out
            have KK : Hid (RefS w8 g A8 (cnt + 1) (s.add x)) := ⟨⟨n + 1 - j, c4 - j, N1.drop j, by rw [k2, k3]; exact r8, k1, by omega⟩, fun a' ha => by
              obtain ⟨e1, a, e2, e3⟩ := a8 a' ha
              have h9 := HAT7.out a e2
              have h8 := o8.size
              exact ⟨by omega, by omega, e1⟩⟩
            clear k1 k2 k3 r8 ht8 hl8 o8 a8 HKK HBL
            go_wp2_with fail
            go_ret
            exact ⟨rfl, A8, KK.out, M8.out⟩
        · refine wp_num (.tmp 43) rfl x (by with_unfolding_all rfl) ?_
          intro gb u1 e1 S1 B1
          have hS1 := hS.trans (B1.out.mono hS.size)
          refine ⟨hS1, ?_⟩
          refine HT.one 7 (by kernel_rfl) rfl rfl (by rfl) ?_
          refine wp_append_nums _ (.tmp 41) rfl u1.heap.size (.slice none 0 0) 0 [] rfl (OwnU.nil _ _) w.heap.size (some ⟨b, off, none⟩) i c (N.take i) (by with_unfolding_all rfl) ((HSL.out.below hS1).take i (by omega)) (by omega) (Nat.le_refl _) ?_
          intro A1 c1 u2 O1 L1 B2
          have hS2 := hS1.trans (B2.out.mono hS1.size)
          refine ⟨hS2, ?_⟩
          have O2 := Lib.hid (O1.out.base hS1.size)
          have S2 : Hid (SlU u2 (gb + 1) (some ⟨gb, 0, none⟩) 1 [x]) := S1.out.below (B2.out.mono e1.out.2)
          clear S1 B2 e1 hS1 hS L1 B1 O1
          refine HT.one 10 (by kernel_rfl) rfl rfl (by rfl) ?_
          refine wp_append_nums (.tmp 42) (.tmp 44) rfl w.heap.size (.slice A1 (0 + i) c1) (0 + i) ([] ++ N.take i) (by with_unfolding_all rfl) O2.out (gb + 1) (some ⟨gb, 0, none⟩) 1 1 [x] (by with_unfolding_all rfl) S2.out (by omega) hS2.size ?_
          intro A3 c3 u3 O3 L3 B3
          have hS3 := hS2.trans B3.out
          refine ⟨hS3, ?_⟩
          clear O2 S2 hS2 B3 L3
          refine HT.one 17 (by kernel_rfl) rfl rfl (by rfl) ?_
          refine wp_append_nums (.tmp 45) (.tmp 51) rfl w.heap.size (.slice A3 (0 + i + 1) c3) (0 + i + 1) ([] ++ N.take i ++ [x]) (by with_unfolding_all rfl) O3.out w.heap.size A2 (n - i) (c - i) (N.drop i) (by with_unfolding_all rfl) (HA2.out ▸ ((HSL.out.below hS3).drop i c (by omega) HLE.out.1)) (by omega) hS3.size ?_
          intro A4 c4 u4 O4 L4 B4
          have hS4 := hS3.trans B4.out
          refine ⟨hS4, ?_⟩
          clear O3 hS3 B4
          refine HT.take HK.out (i := 18) (v := ?_) rfl rfl (by kernel_rfl) (by kernel_rfl) (fun _ _ _ h => h) (Or.inl ⟨by rfl, ?_⟩) hS4 ?_
          rotate_left 1
          · intro u hu
            go_simp
            first | done | with_reducible rfl
          go_simp
          refine HT.take HK.out (i := 19) (v := ?_) rfl rfl (by kernel_rfl) (by kernel_rfl) (fun _ _ _ h => h) (Or.inl ⟨by rfl, ?_⟩) hS4 ?_
          rotate_left 1
          · intro u hu
            go_simp
            first | done | with_reducible rfl
          go_simp
          refine HT.last (by kernel_rfl) (by kernel_rfl) rfl (by rfl) ?_
          refine wp_put_rw 22 (.tmp 54) (.tmp 52) rfl g 1 (.slice A4 (i + 1 + (n - i)) c4) (by with_unfolding_all rfl) (by with_unfolding_all rfl) rfl rfl 35 _ (HR.out.belowB hS4 HG.out) size_slU (by simp) ?_
          intro u5 R5 O5
          clear HK
          go_wp2_with fail
          have hlen : 0 + i + 1 + (n - i) = n + 1 := by omega
          have hlen' : i + 1 + (n - i) = n + 1 := by omega
          have hN1 : [] ++ N.take i ++ [x] ++ N.drop i = N.take i ++ x :: N.drop i := by simp
          have r5 := R5.out
          have o4 := O4.out
          rw [hlen, hN1] at o4
          rw [hlen'] at r5
          obtain ⟨N1, hN1'⟩ : ∃ N1, N.take i ++ x :: N.drop i = N1 := ⟨_, rfl⟩
          rw [hN1'] at o4
          have hAt : ∀ a, A4 = some a → w.heap.size ≤ a.block ∧ a.block < u5.heap.size ∧ a.block ≠ g ∧ a.spot = none := fun a ha => by
            have h9 := o4.blk a ha
            have h8 := O5.out.size
            exact ⟨h9.1, by omega, by have := HG.out; omega, o4.spot a ha⟩
          have R6 : Hid (RefW u5 g A4 (n + 1) c4 s.most s.fl N1) := ⟨r5, (o4.sl.only O5.out (fun a ha => (hAt a ha).2.2.1) (Nat.le_refl _)).more O5.out.size, ⟨by have := L4.out.1; omega, L4.out.2⟩⟩
          have M6 : Hid (Moves g (some ⟨b, off, none⟩) A4 w u5) := ⟨O5.out.os.trans hS4.os, O5.out.tape.trans hS4.tape, O5.out.output.trans hS4.output, Nat.le_trans hS4.size O5.out.size, fun k hk h1 _ => (O5.out.block k (Nat.lt_of_lt_of_le hk hS4.size) h1).trans (hS4.block k hk), fun a ha => .inr (hAt a ha).1⟩
          have HR1 : Hid (Rise N1) := hN1' ▸ rise_ins HOF.out.1 (by have := HLN.out; omega) HBA.out.1 (by rw [HLN.out]; exact HBA.out.2) HX.out
          have HM1 : Hid (∀ m, m ∈ N1 ↔ m = x ∨ m ∈ N) := fun m => hN1' ▸ ins_mem N i x m
          have HAT := Lib.hid hAt
          have HLI := Lib.hid (rlist_any u5 g (n + 1) c4 s.most s.fl A4 N1 R6.out HR1.out (by omega))
          clear hlen hlen' hN1 hN1' r5 o4 hAt R5 O4 O5 L4 hS4
          go_wp2_with fail
          (with_reducible refine HLI.out.mono ?_)
          rintro e7 w7 ⟨L, A7, c7, rfl, d7, o7, b7⟩
          have R7 := Lib.hid (R6.out.below b7)
          have M7 : Hid (Moves g (some ⟨b, off, none⟩) A4 w w7) := M6.out.trans (Moves.of_below b7) HG.out
          have O7 := Lib.hid o7
          have HAT7 : Hid (∀ a, A4 = some a → w.heap.size ≤ a.block ∧ a.block < w7.heap.size ∧ a.block ≠ g ∧ a.spot = none) := fun a ha => ⟨(HAT.out a ha).1, Nat.lt_of_lt_of_le (HAT.out a ha).2.1 b7.size, (HAT.out a ha).2.2⟩
          have cm : w7.cell? ⟨g, 0, none⟩ = some (.int .i64 (s.most : Int)) := R7.out.cells.1
          have hcase := HOF.out.add HOK.out HNB.out HR1.out HM1.out d7
          clear HLI d7 o7 b7 R6 M6 HAT
          rcases hcase with ⟨hle, k1, k2, k3⟩ | ⟨l2, y, hL, hlt, hy, kk⟩
          · have t1 : ¬ (s.most : Int) < (L.length : Int) := by omega
            have KK : Hid (OfS (s.add x) N1 ∧ (s.add x).fl = s.fl ∧ (s.add x).most = s.most) := ⟨k1, k2, k3⟩
            clear k1 k2 k3 hle
            go_wp2_with fail
            go_ret
            exact ⟨rfl, A4, ⟨⟨n + 1, c4, N1, by rw [KK.out.2.1, KK.out.2.2]; exact R7.out, KK.out.1, by omega⟩, fun a ha => (HAT7.out a ha).2⟩, M7.out⟩
          · have hlen2 : L.length = l2.length + 1 := by rw [hL]; simp
            obtain ⟨p, hp⟩ : ∃ p, l2.length = p := ⟨_, rfl⟩
            obtain ⟨q, hq⟩ : ∃ q, L.length = q := ⟨_, rfl⟩
            have hlast : L.getD p (0, 0) = y := by rw [hL, ← hp]; simp
            rw [hq] at O7 hlt hlen2 ⊢
            rw [hp] at hlen2
            have t1 : (s.most : Int) < (q : Int) := by omega
            obtain ⟨gl, rfl⟩ : ∃ gl, A7 = some ⟨gl, 0, none⟩ := by
              obtain ⟨gl, off, e, _⟩ := O7.out.sl.2 (by omega)
              subst e
              exact ⟨gl, by rw [O7.out.spot _ rfl]⟩
            have p1 : (q : Int) - 1 = (p : Int) := by omega
            have p2 : p < q := by omega
            have p2' : (p : Int) < (q : Int) := by omega
            have p3 : wrap64 (p : Int) = (p : Int) := by
              have h9 := O7.out.bnd
              unfold maxLen at h9
              unfold wrap64
              omega
            have cy := (O7.out.cells p p2).2
            rw [hlast] at cy
            obtain ⟨ylo, yhi⟩ := y
            simp only at cy hy
            obtain ⟨z, hz⟩ : ∃ z, yhi + 1 = z := ⟨_, rfl⟩
            have hz1 : (yhi : Int) + 1 = (z : Int) := by omega
            have hz2 : IntKind.u64.wrap (z : Int) = (z : Int) := by unfold topV at hy; simp [IntKind.wrap, IntKind.bits, IntKind.signed]; omega
            have HBL := Lib.hid (rbelow_w w7 g (n + 1) c4 s.most s.fl z A4 N1 R7.out (by omega) (fun a ha => (HAT7.out a ha).2.2) _ rfl)
            have HKK := Lib.hid kk
            have HZ := Lib.hid hz
            clear kk hL hlen2 hp hq hlast hlt hz hy
            go_wp2_with fail
            (with_reducible refine HBL.out.mono ?_)
            rintro e8 w8 ⟨rfl, j, A8, hj, r8, ht8, hl8, o8, a8⟩
            obtain ⟨k1, k2, k3⟩ := HKK.out (N1.drop j) (rise_drop HR1.out j) (fun m => by simp only [HZ.out]; exact drop_mem HR1.out ht8 hl8 m)
            simp only [HZ.out] at k2
            have M8 : Hid (Moves g (some ⟨b, off, none⟩) A8 w w8) := M7.out.trans ⟨o8.os, o8.tape, o8.output, o8.size, fun i hi h4 _ => o8.block i hi h4, fun a' ha => by
              obtain ⟨_, a, e2, e3⟩ := a8 a' ha
              exact .inl ⟨a, e2, e3.symm⟩⟩ HG.out
            have KK : Hid (RefS w8 g A8 (cnt + 1) (s.add x)) := ⟨⟨n + 1 - j, c4 - j, N1.drop j, by rw [k2, k3]; exact r8, k1, by omega⟩, fun a' ha => by
              obtain ⟨e1, a, e2, e3⟩ := a8 a' ha
              have h9 := HAT7.out a e2
              have h8 := o8.size
              exact ⟨by omega, by omega, e1⟩⟩
            clear k1 k2 k3 r8 ht8 hl8 o8 a8 HKK HBL
            go_wp2_with fail
            go_ret
            exact ⟨rfl, A8, KK.out, M8.out⟩
end Go.Proofs.Ytjbhhmjkdhkhaaa
