/-
  The walk of RangesRising.
-/
import Derived.Test.YtebpalcfnfgfdaaRgK
import Derived.Test.YtebpalcfnfgfdaaLow
import Derived.Test.YtebpalcfnfgfdaaInts
namespace Go.Proofs.Ytebpalcfnfgfdaa
open Go.RowKit Go.Lib
set_option linter.unusedVariables false

/-- all that is there is n at most -/
structure Top (s : RS) (n : Nat) : Prop where
  ok : s.Ok
  le : ∀ m, Mem m s.l → m ≤ n
  fl : s.fl ≤ n
theorem top_new {m : Nat} (h : 1 ≤ m) (h' : m ≤ 64) : Top (RS.new m) 0 := ⟨RS.new_ok h h', fun k hk => absurd hk mem_nil, Nat.le_refl _⟩
/-- what one more above it leaves -/
theorem top_put {s : RS} {n k : Nat} (h : Top s n) (hk : n < k) : putR k s.l = match s.l with | [] => [(k, k)] | x :: r => if x.2 + 1 = k then (x.1, k) :: r else (k, k) :: x :: r := by
  cases hl : s.l with
  | nil => rfl
  | cons x r =>
    have h1 := h.ok.fall
    rw [hl] at h1
    have h2 := h.le x.2 (by rw [hl]; exact mem_cons.2 (.inl ⟨h1.1, Nat.le_refl _⟩))
    have h3 := h1.1
    rw [putR.eq_def]
    simp only
    rw [if_neg (by omega)]
theorem top_newB {s : RS} {n k : Nat} (h : Top s n) (hk : n < k) (hk' : k ≤ 1000) : s.newB k = true := by
  refine decide_eq_true ⟨by unfold topV; omega, fun hh => ?_⟩
  rcases hh with hh | hh
  · have := h.fl; omega
  · have := h.le k hh; omega
theorem top_head {s : RS} {n k : Nat} (h : Top s n) (hk : n < k) : ∃ x r, putR k s.l = x :: r ∧ x.2 = k := by
  rw [top_put h hk]
  cases s.l with
  | nil => exact ⟨_, _, rfl, rfl⟩
  | cons x r =>
    simp only
    split
    · exact ⟨_, _, rfl, rfl⟩
    · exact ⟨_, _, rfl, rfl⟩
/-- the two ways that adding goes -/
theorem top_add {s : RS} {n k : Nat} (h : Top s n) (hk : n < k) (hk' : k ≤ 1000) : Top (s.add k) k ∧ (s.add k).l ≠ [] ∧ ((s.add k).l.getD 0 (0, 0)).2 = k ∧
    (((putR k s.l).length ≤ s.most ∧ (s.add k).l = putR k s.l ∧ (s.add k).fl = s.fl) ∨
     (s.most < (putR k s.l).length ∧ (s.add k).l = (putR k s.l).take s.most ∧ (s.add k).fl = ((putR k s.l).getD s.most (0, 0)).2 + 1)) := by
  have hb := top_newB h hk hk'
  obtain ⟨l1, e1, F, hm, hlen, hfl, hc⟩ := RS.add_new h.ok hb
  obtain ⟨x0, r0, e0, ex⟩ := top_head h hk
  have hok := RS.add_ok h.ok k
  have hmost := h.ok.most
  have hle : ∀ m, Mem m l1 → m ≤ k := fun m hh => by
    rcases (hm m).1 hh with rfl | h1
    · exact Nat.le_refl _
    · have := h.le m h1; omega
  have hfin : ∀ l' fl', (s.add k) = ⟨s.most, fl', l'⟩ → (∃ r', l' = x0 :: r') → (∀ m, Mem m l' → Mem m l1) → Top (s.add k) k ∧ (s.add k).l ≠ [] ∧ ((s.add k).l.getD 0 (0, 0)).2 = k := by
    intro l' fl' e ⟨r', er⟩ hsub
    have h1 := hok.fl x0 (by rw [e]; simp [er])
    have h2 := hok.fall
    rw [e] at h1 h2
    simp only at h1 h2
    rw [er] at h2
    have h3 := h2.1
    refine ⟨⟨hok, fun m hh => hle m (hsub m (by rw [e] at hh; exact hh)), by rw [e]; simp only; omega⟩, by rw [e, er]; simp, by rw [e, er]; exact ex⟩
  rcases hc with ⟨h1, h2⟩ | ⟨l2, x, h1, h2, h3⟩
  · obtain ⟨a, b, c⟩ := hfin l1 s.fl h2 ⟨r0, by rw [← e1]; exact e0⟩ fun m hh => hh
    exact ⟨a, b, c, .inl ⟨by rw [e1]; exact h1, by rw [h2, e1], by rw [h2]⟩⟩
  · have e2 : l2 = (putR k s.l).take s.most := by rw [e1, h1, List.take_left' h2]
    have e3 : ((putR k s.l).getD s.most (0, 0)) = x := by rw [e1, h1, ← h2]; simp
    obtain ⟨a, b, c⟩ := hfin l2 (x.2 + 1) h3 (by
      rw [e2, e0]
      obtain ⟨q, hq⟩ : ∃ q, s.most = q + 1 := ⟨s.most - 1, by omega⟩
      exact ⟨r0.take q, by rw [hq, List.take_succ_cons]⟩) fun m hh => by rw [h1, mem_append]; exact .inl hh
    exact ⟨a, b, c, .inr ⟨by rw [e1, h1]; simp; omega, by rw [h3]; exact e2, by rw [h3, e3]⟩⟩
section
variable {w w' : World} {B g gw n c nw cw : Nat} {A A' Aw : Option Addr} {s : RS} {l : RL}
theorem OwnR.moves (h : OwnR w B (.slice Aw nw cw) nw l) (m : Moves g A A' w w') (hg : ∀ a, Aw = some a → a.block ≠ g ∧ ∀ b, A = some b → a.block ≠ b.block) : OwnR w' B (.slice Aw nw cw) nw l := by
  refine ⟨h.1, h.2.imp id fun ⟨g1, cap, cur, e, hb, hg1, r⟩ => ⟨g1, cap, cur, e, hb, ?_, r⟩⟩
  injection e with hA
  have h1 := hg _ hA
  exact (m.block g1 (Array.getElem?_eq_some_iff.1 hg1).1 h1.1 (fun a ha => h1.2 a ha)).trans hg1
theorem SetW.apart (h : SetW w B g A n c s) (ho : Only gw w w') (h1 : g ≠ gw) (h2 : ∀ b, A = some b → b.block ≠ gw) : SetW w' B g A n c s :=
  ⟨h.r.only ho h1, h.o.onlyA ho h2, h.hB, h.ne⟩
end
/-- the row at Aw is none of the set's -/
def Apart (g : Nat) (A Aw : Option Addr) : Prop := ∀ a, Aw = some a → a.block ≠ g ∧ ∀ b, A = some b → a.block ≠ b.block
theorem apart_moves {g : Nat} {A A' Aw : Option Addr} {w w' : World} (h : Apart g A Aw) (m : Moves g A A' w w') (hlt : ∀ a, Aw = some a → a.block < w.heap.size) : Apart g A' Aw := fun a ha => ⟨(h a ha).1, fun b hb e => by
  rcases m.at_ b hb with ⟨a0, e0, e1⟩ | h2
  · exact (h a ha).2 a0 e0 (e.trans e1)
  · have := hlt a ha; omega⟩

set_option maxHeartbeats 2000000 in
theorem add_seen (g : Nat) (A : Option Addr) (n c B k : Nat) (s : RS) (w : World) (h : SetW w B g A n c s) (ok : s.Ok) (hk : k ≤ topV) (hm : s.mem k) (hn : n ≤ 1000) (z : Int) (hz : z = (k : Int)) :
    Calls Try.prog 11 #[.pointer (some ⟨g, 0, none⟩), .int .u64 z] w fun e w' => e = .returned (.bool false) ∧ Below w.heap.size w w' := by
  subst hz
  have k1 : ¬ (4611686018427387903 : Int) < (k : Int) := by unfold topV at hk; omega
  have HB := Lib.hid (has_any g A n c B k s w h ⟨_, ok.fall⟩ ok.flt (by unfold topV at hk; omega) hn true (decide_eq_true hm))
  clear h hk hm ok
  go_enter Try.func11, Try.ntmps11
  go_wp2_with fail
  (with_reducible refine HB.out.mono ?_)
  rintro e1 w1 ⟨rfl, hb⟩
  go_wp2
  go_ret
  exact ⟨rfl, hb⟩
/-- the second number of a range stored -/
theorem wpList_put2N {P : Program} {ops : Array Oper} {rest : List Oper} {o : Oper} {a : Act} {w : World} {Q : Exit → Act → World → Prop} (hgd : o.guard = none) (ty : TypeId) (x y : Operand) (ho : o.op = .store ty x y)
    (g z : Nat) (hx : a.eval x = .pointer (some ⟨g, 1, none⟩)) (hy : a.eval y = .int .u64 (z : Int)) {B n c : Nat} {l : RL} (hB : OwnR w B (.slice (some ⟨g, 0, none⟩) n c) n l) (hi : (P.info? ty).map (·.size) = some 1) (hl : 0 < n)
    (h : ∀ w', Hid (OwnR w' B (.slice (some ⟨g, 0, none⟩) n c) n (l.set 0 ((l.getD 0 (0, 0)).1, z))) → Hid (Only g w w') → wpList P ops Q rest (a.put o.dst undef) w') : wpList P ops Q (o :: rest) a w :=
  wpList_put_own hgd ty x y ho g 1 (.int .u64 (z : Int)) hx hy rfl rfl hB hi (by omega) fun ho => h _ (show OwnR _ _ _ _ _ from by have := hB.put2 0 z hl; simpa using this) ho
theorem own_some {w : World} {B n c : Nat} {A : Option Addr} {l : RL} (h : OwnR w B (.slice A n c) n l) (hn : 0 < n) : ∃ g, A = some ⟨g, 0, none⟩ ∧ B ≤ g ∧ g < w.heap.size := by
  obtain ⟨b, off, e, _⟩ := h.sl.2 hn
  subst e
  have h1 := h.spot _ rfl
  have h2 := h.blk _ rfl
  exact ⟨b, by rw [h1], h2⟩
theorem cut_cell {w : World} {B g n c M z : Nat} {x : Nat × Nat} {l : RL} (h : OwnR w B (.slice (some ⟨g, 0, none⟩) n c) n ([x] ++ l)) (hM : M < n) (hz : ((x :: l).getD M (0, 0)).2 = z) : w.cell? ⟨g, M * 2 + 1, none⟩ = some (.int .u64 (z : Int)) := by
  have h1 := (h.cells M hM).2
  rw [show [x] ++ l = x :: l from rfl, hz] at h1
  exact h1
theorem cut_run (u : World) {w : World} {B g n c M : Nat} {l : RL} (h : OwnR w B (.slice (some ⟨g, 0, none⟩) n c) n l) (hM : M ≤ n) : (Instr.slice 31 (.slice (some ⟨g, 0, none⟩) n c) none (some (.int .i64 (M : Int))) none).run Try.prog u = .ok (.slice (some ⟨g, 0, none⟩) M c) u :=
  run_cutR u _ (fun a ha => by cases ha; rfl) n c M (Nat.le_trans hM h.bnd.1)
theorem rising_long (a0 : Int) (a1 : Option Addr) (n c : Nat) (w : World) (h : 30 < n) : Calls Try.prog 7 #[.int .i64 a0, .slice a1 n c] w fun e w' => e = .returned (.bool true) ∧ Below w.heap.size w w' := by
  have h1 : (30 : Int) < (n : Int) := by omega
  go_enter Try.func7, Try.ntmps7
  go_wp2_with fail
  (with_reducible refine (awake_any _).mono ?_)
  rintro e1 w1 ⟨rfl, b1⟩
  go_wp2
  go_ret
  exact ⟨rfl, b1⟩
set_option maxHeartbeats 4000000 in
set_option maxRecDepth 8000 in
theorem rising_any (a0 : Int) (a1 : Option Addr) (n c : Nat) (zs : List Int) (w : World) (hn : n ≤ 30) (hz : n ≤ zs.length)
    (hin : 0 < n → ∃ b off, a1 = some ⟨b, off, none⟩ ∧ b < w.heap.size ∧ ∀ i, i < zs.length → w.cell? ⟨b, off + i, none⟩ = some (.int .i64 (zs.getD i 0))) :
    Calls Try.prog 7 #[.int .i64 a0, .slice a1 n c] w fun e w' => e = .returned (.bool true) ∧ Below w.heap.size w w' := by
  obtain ⟨m0, hm0, HL1⟩ := low_nat a0 12 (by omega) (by omega)
  obtain ⟨M, hm⟩ : ∃ m : Nat, (1 : Int) + (m0 : Int) = (m : Int) := ⟨1 + m0, by omega⟩
  have hmb : 1 ≤ M ∧ M ≤ 12 := by omega
  have h30 : ¬ (30 : Int) < (n : Int) := by omega
  have HN := Lib.hid (fun u hu => new_any M (by omega) (by omega) u w.heap.size hu)
  have L1 : Hid (∀ u : World, Calls Try.prog 20 #[.int .i64 a0, .int .i64 12] u fun e w' => e = .returned (.int .i64 (m0 : Int)) ∧ u = w') := HL1
  have HIN := Lib.hid hin
  have P0 := Lib.hid (top_new (m := M) (by omega) (by omega))
  clear HL1 hin
  go_enter Try.func7, Try.ntmps7
  go_wp2_with fail
  (with_reducible refine (L1.out _).mono ?_)
  rintro e1 w1 ⟨rfl, rfl⟩
  clear L1
  go_wp2_with fail
  (with_reducible refine (HN.out _ (Nat.le_refl _)).mono ?_)
  rintro e3 w3 ⟨rfl, s3, b3⟩
  have S3 := Lib.hid s3
  have B3 := Lib.hid b3
  clear s3 b3 HN
  obtain ⟨g, hg⟩ : ∃ g, w.heap.size = g := ⟨_, rfl⟩
  rw [hg] at S3 B3 ⊢
  go_wp2_with fail
  go_loopw [6, 7, 8, 9] (fun nn v fl i wr => ∃ (j k : Nat) (s : RS) (Aw A : Option Addr) (cw ns cs : Nat), j ≤ n ∧ k ≤ 3 * j ∧ nn = .int .u64 (k : Int) ∧ v = .slice Aw s.l.length cw ∧ fl = .int .u64 (s.fl : Int) ∧ i = .int .i64 j ∧ s.most = M ∧ (s.l = [] → Aw = none ∧ cw = 0) ∧ Hid (Top s k) ∧
    Hid (SetW wr g g A ns cs s) ∧ Hid (OwnR wr g (.slice Aw s.l.length cw) s.l.length s.l) ∧ Hid (Apart g A Aw) ∧ Hid (Below g w wr)) (fun _ _ _ i _ => n - (intOf i).toNat)
  case atStart => exact ⟨0, 0, RS.new M, none, none, 0, 0, 0, by omega, by omega, rfl, rfl, rfl, rfl, rfl, fun _ => ⟨rfl, rfl⟩, P0, S3, OwnR.nil _ _, fun a ha => (by cases ha), B3⟩
  case round =>
    obtain ⟨j, k, s, Aw, A, cw, ns, cs, hj, hk, rfl, rfl, rfl, rfl, hM, hnil, P, S, O, AP, B⟩ := hrel
    by_cases hlt : j < n
    · obtain ⟨gb, go, rfl, hgb, hcell⟩ := HIN.out (by omega)
      have hc1 : wr.cell? ⟨gb, go + j, none⟩ = some (.int .i64 (zs.getD j 0)) := (B.out.cell (p := ⟨gb, go + j, none⟩) (by show gb < g; omega)).trans (hcell j (by omega))
      generalize zs.getD j 0 = z at hc1
      obtain ⟨t, ht, HL⟩ := low_nat z 3 (by omega) (by omega)
      have L2 : Hid (∀ u : World, Calls Try.prog 20 #[.int .i64 z, .int .i64 3] u fun e w' => e = .returned (.int .i64 (t : Int)) ∧ u = w') := HL
      obtain ⟨k1, hk1⟩ : ∃ k1 : Nat, (k : Int) + 1 + (t : Int) = (k1 : Int) := ⟨k + 1 + t, by omega⟩
      have hkk : k < k1 ∧ k1 ≤ 3 * (j + 1) := by omega
      have hk1000 : k1 ≤ 1000 := by omega
      have HADD := top_add P.out hkk.1 hk1000
      have hnb := top_newB P.out hkk.1 hk1000
      have HA : Hid (∀ u : World, SetW u g g A ns cs s → g ≤ u.heap.size → Calls Try.prog 11 #[.pointer (some ⟨g, 0, none⟩), .int .u64 (k1 : Int)] u fun e w' => e = .returned (.bool true) ∧ ∃ A' n' c', SetW w' g g A' n' c' (s.add k1) ∧ Moves g A A' u w') := fun u hs hu => by
        have h1 := add_any g A ns cs g k1 s u hs P.out.ok hu
        unfold Adds at h1
        rwa [hnb] at h1
      have hqe : s.l.length ≤ 64 := by have h1 := P.out.ok.len; have h2 := P.out.ok.most.2; omega
      have HGS : Hid (g ≤ wr.heap.size) := show g ≤ wr.heap.size by have := B.out.size; omega
      have HPUT := Lib.hid (top_put P.out hkk.1)
      have HLT := Lib.hid hlt
      have HKK := Lib.hid hkk
      have HM1 : Hid ((s.add k1).most = M) := (RS.add_most s k1).trans hM
      have hQM : s.l.length ≤ M := by have := P.out.ok.len; omega
      obtain ⟨hT, hne, hhd, hway⟩ := HADD
      have T1 := Lib.hid hT
      have NE := Lib.hid hne
      have HD := Lib.hid hhd
      have WAY := Lib.hid hway
      obtain ⟨s1, hs1⟩ : ∃ s1, s.add k1 = s1 := ⟨_, rfl⟩
      rw [hs1] at HA T1 NE HD WAY HM1
      rw [hM] at WAY
      obtain ⟨f0, hf0⟩ : ∃ f0, s.fl = f0 := ⟨_, rfl⟩
      rw [hf0] at WAY ⊢
      clear hcell HL hT hne hhd hway hnb hs1
      go_wp2_with fail
      (with_reducible refine (L2.out _).mono ?_)
      rintro e4 w4 ⟨rfl, rfl⟩
      go_wp2_with fail
      (with_reducible refine (HA.out _ S.out HGS.out).mono ?_)
      rintro e5 w5 ⟨rfl, A5, n5, c5, s5, m5⟩
      have S5 := Lib.hid s5
      have O5 := Lib.hid (O.out.moves m5 AP.out)
      have AP5 : Hid (Apart g A5 Aw) := apart_moves AP.out m5 (fun a ha => (O.out.blk a ha).2)
      have B5 := Lib.hid (B.out.trans (S.out.moves_below m5 HGS.out))
      clear s5 m5 S O AP B HA
      cases hsl : s.l with
      | nil =>
        rw [hsl] at O5 HPUT WAY
        obtain ⟨rfl, rfl⟩ := hnil hsl
        simp only [List.length_nil]
        simp only at HPUT
        have k0 : ¬ (0 : Int) < (0 : Int) := by omega
        have hw := WAY.out
        rw [HPUT.out] at hw
        obtain ⟨hw1, hw2⟩ : s1.l = [(k1, k1)] ∧ s1.fl = f0 := by
          rcases hw with ⟨_, h2, h3⟩ | ⟨h1, _⟩
          · exact ⟨h2, h3⟩
          · simp at h1; omega
        obtain ⟨f8, hf8⟩ : ∃ f8, f0 = f8 := ⟨_, rfl⟩
        rw [hf8] at hw2 ⊢
        have HF8 := Lib.hid hw2
        have HQL : Hid (s1.l.length = 1) := show s1.l.length = 1 by rw [hw1]; rfl
        obtain ⟨w8, hw8⟩ : ∃ w8, w5.alloc (.cells #[.int .u64 (k1 : Int), .int .u64 (k1 : Int)] 39) = w8 := ⟨_, rfl⟩
        have hb8 : Below w5.heap.size w5 w8 := by rw [← hw8]; exact (Below.refl _ _).alloc (Nat.le_refl _) _
        have S8 := Lib.hid (S5.out.below hb8)
        have B8 : Hid (Below g w w8) := B5.out.trans (hb8.mono (by have := B5.out.size; omega))
        obtain ⟨gw, hgw⟩ : ∃ gw, w5.heap.size = gw := ⟨_, rfl⟩
        have O8 : Hid (OwnR w8 g (.slice (some ⟨gw, 0, none⟩) 1 1) 1 s1.l) := by
          rw [hw1, ← hw8, ← hgw]
          exact ownR_lit w5 g (by have := B5.out.size; omega) k1 k1
        have AP8 : Hid (Apart g A5 (some ⟨gw, 0, none⟩)) := fun a ha => by
          injection ha with ha
          subst ha
          exact ⟨by have := S5.out.lt; show gw ≠ g; omega, fun b hb => by have := (S5.out.o.blk b hb).2; show gw ≠ b.block; omega⟩
        clear hw hw1 hw2 hb8 WAY hsl hnil hf8 hf0 hQM hqe
        go_wp2_with fail
        clear hw8 hgw
        have HLG : Hid (Calls Try.prog 10 #[.pointer (some ⟨g, 0, none⟩)] w8 fun e w' => e = .returned (.tuple #[.int .u64 (k1 : Int), .bool true]) ∧ w8 = w') := by
          have h1 := largest_any g A5 n5 c5 g s1 w8 S8.out
          have h2 : 0 < n5 := by have := S8.out.o.len; have := List.length_pos_iff.2 NE.out; omega
          rw [HD.out, decide_eq_true h2] at h1
          exact h1
        have hn5 : n5 ≤ 64 := S8.out.n64 T1.out.ok
        have HLS := Lib.hid (list_any g A5 n5 c5 g s1 w8 S8.out (by omega))
        (with_reducible refine HLG.out.mono ?_)
        rintro e9 w9 ⟨rfl, rfl⟩
        go_wp2_with fail
        (with_reducible refine HLS.out.mono ?_)
        rintro e10 w10 ⟨A10, c10, rfl, o10, b10⟩
        have O10 := Lib.hid (O8.out.below b10)
        have S10 := Lib.hid (S8.out.below b10)
        have B10 : Hid (Below g w w10) := B8.out.trans (b10.mono (by have := B8.out.size; omega))
        have HSM := Lib.hid (rsame_any s1.l s1.l A10 _ n5 _ c10 1 _ _ w10 o10.sl O10.out.sl (by simp [maxLen]; omega) true (by simp))
        clear o10 b10 O8 S8 B8
        go_wp2_with fail
        (with_reducible refine HSM.out.mono ?_)
        rintro e11 w11 ⟨rfl, b11⟩
        have O11 := Lib.hid (O10.out.below b11)
        have S11 := Lib.hid (S10.out.below b11)
        have B11 : Hid (Below g w w11) := B10.out.trans (b11.mono (by have := B10.out.size; omega))
        clear b11 O10 S10 B10
        by_cases hf8 : f8 = 0
        · have hf8' : ¬ (0 : Int) < (f8 : Int) := by omega
          go_wp2_with fail
          go_roundw
          case rel =>
            have O20 : Hid (OwnR w11 g (.slice (some ⟨gw, 0, none⟩) s1.l.length 1) s1.l.length s1.l) := show OwnR w11 g (.slice (some ⟨gw, 0, none⟩) s1.l.length 1) s1.l.length s1.l by rw [HQL.out]; exact O11.out
            exact ⟨j + 1, k1, s1, some ⟨gw, 0, none⟩, A5, 1, n5, c5, by have := HLT.out; omega, by have := HKK.out; omega, rfl, by rw [HQL.out], by rw [HF8.out] <;> (first | rfl | (rw [hf8]; rfl)), by go_num, HM1.out, fun h => absurd h NE.out, T1, S11, O20, AP8, B11⟩
          case measure => have := HLT.out; first | (simp [intOf]; done) | (simp [intOf]; omega)
        · have hf8' : (0 : Int) < (f8 : Int) := by omega
          obtain ⟨f9, hf9⟩ : ∃ f9 : Nat, (f8 : Int) - 1 = (f9 : Int) := ⟨f8 - 1, by omega⟩
          have hf9k : f9 ≤ topV := by have := T1.out.fl; have := HF8.out; unfold topV; omega
          have hf9b : f9 < 1000 := by have := T1.out.fl; have := HF8.out; omega
          have hm9 : s1.mem f9 := .inl (by have := HF8.out; omega)
          have hm0 : s1.mem 0 := .inl (by have := HF8.out; omega)
          have H1 := Lib.hid (has_any g A5 n5 c5 g f9 s1 w11 S11.out ⟨_, T1.out.ok.fall⟩ T1.out.ok.flt (by unfold topV at hf9k; omega) (by omega) true (decide_eq_true hm9))
          have HK9 := Lib.hid hf9k
          have HM9 := Lib.hid hm9
          have HM0 := Lib.hid hm0
          clear hf9k hm9 hm0
          go_wp2_with fail
          (with_reducible refine H1.out.mono ?_)
          rintro e12 w12 ⟨rfl, b12⟩
          have O12 := Lib.hid (O11.out.below b12)
          have S12 := Lib.hid (S11.out.below b12)
          have B12 : Hid (Below g w w12) := B11.out.trans (b12.mono (by have := B11.out.size; omega))
          have H2 := Lib.hid (add_seen g A5 n5 c5 g f9 s1 w12 S12.out T1.out.ok HK9.out HM9.out (by omega) (f9 : Int) rfl)
          clear b12 O11 S11 B11
          go_wp2_with fail
          (with_reducible refine H2.out.mono ?_)
          rintro e13 w13 ⟨rfl, b13⟩
          have O13 := Lib.hid (O12.out.below b13)
          have S13 := Lib.hid (S12.out.below b13)
          have B13 : Hid (Below g w w13) := B12.out.trans (b13.mono (by have := B12.out.size; omega))
          have H3 := Lib.hid (add_seen g A5 n5 c5 g 0 s1 w13 S13.out T1.out.ok (Nat.zero_le _) HM0.out (by omega) 0 rfl)
          clear b13 O12 S12 B12
          go_wp2_with fail
          (with_reducible refine H3.out.mono ?_)
          rintro e14 w14 ⟨rfl, b14⟩
          have O14 := Lib.hid (O13.out.below b14)
          have S14 := Lib.hid (S13.out.below b14)
          have B14 : Hid (Below g w w14) := B13.out.trans (b14.mono (by have := B13.out.size; omega))
          clear b14 O13 S13 B13
          go_wp2_with fail
          go_roundw
          case rel =>
            have O20 : Hid (OwnR w14 g (.slice (some ⟨gw, 0, none⟩) s1.l.length 1) s1.l.length s1.l) := show OwnR w14 g (.slice (some ⟨gw, 0, none⟩) s1.l.length 1) s1.l.length s1.l by rw [HQL.out]; exact O14.out
            exact ⟨j + 1, k1, s1, some ⟨gw, 0, none⟩, A5, 1, n5, c5, by have := HLT.out; omega, by have := HKK.out; omega, rfl, by rw [HQL.out], by rw [HF8.out] <;> (first | rfl | (rw [hf8]; rfl)), by go_num, HM1.out, fun h => absurd h NE.out, T1, S14, O20, AP8, B14⟩
          case measure => have := HLT.out; first | (simp [intOf]; done) | (simp [intOf]; omega)
      | cons x r =>
        obtain ⟨xl, xh⟩ := x
        rw [hsl] at O5 HPUT WAY
        obtain ⟨q, hq⟩ : ∃ q, ((xl, xh) :: r).length = q := ⟨_, rfl⟩
        have hq0 : 0 < q := by rw [← hq]; simp
        have hqM : q ≤ M := by rw [← hq, ← hsl]; exact hQM
        have hq64 : q ≤ 64 := by rw [← hq, ← hsl]; exact hqe
        have hq0' : (0 : Int) < (q : Int) := by omega
        have HQ := Lib.hid hq
        rw [hq] at O5 ⊢
        obtain ⟨gw, rfl⟩ : ∃ gw, Aw = some ⟨gw, 0, none⟩ := by
          obtain ⟨gl, off, e, _⟩ := O5.out.sl.2 hq0
          subst e
          exact ⟨gl, by rw [O5.out.spot _ rfl]⟩
        have hcx := (O5.out.cells 0 hq0).2
        simp only [Nat.zero_mul, Nat.zero_add, List.getD_cons_zero] at hcx
        have hxh : xh ≤ 1000 := by
          have h1 := P.out.le xh
          rw [hsl] at h1
          have h2 := P.out.ok.fall
          rw [hsl] at h2
          have := h1 (mem_cons.2 (.inl ⟨h2.1, Nat.le_refl _⟩))
          omega
        simp only at HPUT
        clear hsl hqe hnil hq hQM
        by_cases hj : xh + 1 = k1
        · rw [if_pos hj] at HPUT
          have k3 : (xh : Int) + 1 = (k1 : Int) := by omega
          have hw := WAY.out
          rw [HPUT.out] at hw
          have hlen : ((xl, k1) :: r).length = q := by rw [← HQ.out]; rfl
          obtain ⟨hw1, hw2⟩ : s1.l = (xl, k1) :: r ∧ s1.fl = f0 := by
            rcases hw with ⟨_, h2, h3⟩ | ⟨h1, _⟩
            · exact ⟨h2, h3⟩
            · rw [hlen] at h1; omega
          obtain ⟨f8, hf8⟩ : ∃ f8, f0 = f8 := ⟨_, rfl⟩
          rw [hf8] at hw2 ⊢
          have HF8 := Lib.hid hw2
          have HW1 := Lib.hid hw1
          have HQL : Hid (s1.l.length = q) := show s1.l.length = q by rw [hw1]; exact hlen
          have HQM : Hid (¬ (M : Int) < (q : Int)) := show ¬ (M : Int) < (q : Int) by omega
          have hqm := HQM.out
          clear hw hw1 hw2 WAY hlen hf8 hf0 HQM
          go_wp2_with ((with_reducible refine wpList_put2N rfl 27 (.tmp 59) (.tmp 57) rfl gw k1 ?hx ?hy O5.out size_u64 hq0 ?_); (case hx => with_unfolding_all rfl); (case hy => with_unfolding_all rfl); intro w8 O7 U7)
          have O8 : Hid (OwnR w8 g (.slice (some ⟨gw, 0, none⟩) q cw) q s1.l) := show OwnR w8 g (.slice (some ⟨gw, 0, none⟩) q cw) q s1.l by rw [HW1.out]; exact O7.out
          have S8 := Lib.hid (S5.out.apart U7.out (fun e => (AP5.out _ rfl).1 e.symm) (fun b hb e => (AP5.out _ rfl).2 b hb e.symm))
          have B8 : Hid (Below g w w8) := B5.out.trans (U7.out.below (by have := B5.out.size; omega) (O5.out.blk _ rfl).1)
          have AP8 := AP5
          clear O7 U7
          have HLG : Hid (Calls Try.prog 10 #[.pointer (some ⟨g, 0, none⟩)] w8 fun e w' => e = .returned (.tuple #[.int .u64 (k1 : Int), .bool true]) ∧ w8 = w') := by
            have h1 := largest_any g A5 n5 c5 g s1 w8 S8.out
            have h2 : 0 < n5 := by have := S8.out.o.len; have := List.length_pos_iff.2 NE.out; omega
            rw [HD.out, decide_eq_true h2] at h1
            exact h1
          have hn5 : n5 ≤ 64 := S8.out.n64 T1.out.ok
          have HLS := Lib.hid (list_any g A5 n5 c5 g s1 w8 S8.out (by omega))
          (with_reducible refine HLG.out.mono ?_)
          rintro e9 w9 ⟨rfl, rfl⟩
          go_wp2_with fail
          (with_reducible refine HLS.out.mono ?_)
          rintro e10 w10 ⟨A10, c10, rfl, o10, b10⟩
          have O10 := Lib.hid (O8.out.below b10)
          have S10 := Lib.hid (S8.out.below b10)
          have B10 : Hid (Below g w w10) := B8.out.trans (b10.mono (by have := B8.out.size; omega))
          have HSM := Lib.hid (rsame_any s1.l s1.l A10 _ n5 _ c10 cw _ _ w10 o10.sl O10.out.sl (by simp [maxLen]; omega) true (by simp))
          clear o10 b10 O8 S8 B8
          go_wp2_with fail
          (with_reducible refine HSM.out.mono ?_)
          rintro e11 w11 ⟨rfl, b11⟩
          have O11 := Lib.hid (O10.out.below b11)
          have S11 := Lib.hid (S10.out.below b11)
          have B11 : Hid (Below g w w11) := B10.out.trans (b11.mono (by have := B10.out.size; omega))
          clear b11 O10 S10 B10
          by_cases hf8 : f8 = 0
          · have hf8' : ¬ (0 : Int) < (f8 : Int) := by omega
            go_wp2_with fail
            go_roundw
            case rel =>
              have O20 : Hid (OwnR w11 g (.slice (some ⟨gw, 0, none⟩) s1.l.length cw) s1.l.length s1.l) := show OwnR w11 g (.slice (some ⟨gw, 0, none⟩) s1.l.length cw) s1.l.length s1.l by rw [HQL.out]; exact O11.out
              exact ⟨j + 1, k1, s1, some ⟨gw, 0, none⟩, A5, cw, n5, c5, by have := HLT.out; omega, by have := HKK.out; omega, rfl, by rw [HQL.out], by rw [HF8.out] <;> (first | rfl | (rw [hf8]; rfl)), by go_num, HM1.out, fun h => absurd h NE.out, T1, S11, O20, AP8, B11⟩
            case measure => have := HLT.out; first | (simp [intOf]; done) | (simp [intOf]; omega)
          · have hf8' : (0 : Int) < (f8 : Int) := by omega
            obtain ⟨f9, hf9⟩ : ∃ f9 : Nat, (f8 : Int) - 1 = (f9 : Int) := ⟨f8 - 1, by omega⟩
            have hf9k : f9 ≤ topV := by have := T1.out.fl; have := HF8.out; unfold topV; omega
            have hf9b : f9 < 1000 := by have := T1.out.fl; have := HF8.out; omega
            have hm9 : s1.mem f9 := .inl (by have := HF8.out; omega)
            have hm0 : s1.mem 0 := .inl (by have := HF8.out; omega)
            have H1 := Lib.hid (has_any g A5 n5 c5 g f9 s1 w11 S11.out ⟨_, T1.out.ok.fall⟩ T1.out.ok.flt (by unfold topV at hf9k; omega) (by omega) true (decide_eq_true hm9))
            have HK9 := Lib.hid hf9k
            have HM9 := Lib.hid hm9
            have HM0 := Lib.hid hm0
            clear hf9k hm9 hm0
            go_wp2_with fail
            (with_reducible refine H1.out.mono ?_)
            rintro e12 w12 ⟨rfl, b12⟩
            have O12 := Lib.hid (O11.out.below b12)
            have S12 := Lib.hid (S11.out.below b12)
            have B12 : Hid (Below g w w12) := B11.out.trans (b12.mono (by have := B11.out.size; omega))
            have H2 := Lib.hid (add_seen g A5 n5 c5 g f9 s1 w12 S12.out T1.out.ok HK9.out HM9.out (by omega) (f9 : Int) rfl)
            clear b12 O11 S11 B11
            go_wp2_with fail
            (with_reducible refine H2.out.mono ?_)
            rintro e13 w13 ⟨rfl, b13⟩
            have O13 := Lib.hid (O12.out.below b13)
            have S13 := Lib.hid (S12.out.below b13)
            have B13 : Hid (Below g w w13) := B12.out.trans (b13.mono (by have := B12.out.size; omega))
            have H3 := Lib.hid (add_seen g A5 n5 c5 g 0 s1 w13 S13.out T1.out.ok (Nat.zero_le _) HM0.out (by omega) 0 rfl)
            clear b13 O12 S12 B12
            go_wp2_with fail
            (with_reducible refine H3.out.mono ?_)
            rintro e14 w14 ⟨rfl, b14⟩
            have O14 := Lib.hid (O13.out.below b14)
            have S14 := Lib.hid (S13.out.below b14)
            have B14 : Hid (Below g w w14) := B13.out.trans (b14.mono (by have := B13.out.size; omega))
            clear b14 O13 S13 B13
            go_wp2_with fail
            go_roundw
            case rel =>
              have O20 : Hid (OwnR w14 g (.slice (some ⟨gw, 0, none⟩) s1.l.length cw) s1.l.length s1.l) := show OwnR w14 g (.slice (some ⟨gw, 0, none⟩) s1.l.length cw) s1.l.length s1.l by rw [HQL.out]; exact O14.out
              exact ⟨j + 1, k1, s1, some ⟨gw, 0, none⟩, A5, cw, n5, c5, by have := HLT.out; omega, by have := HKK.out; omega, rfl, by rw [HQL.out], by rw [HF8.out] <;> (first | rfl | (rw [hf8]; rfl)), by go_num, HM1.out, fun h => absurd h NE.out, T1, S14, O20, AP8, B14⟩
            case measure => have := HLT.out; first | (simp [intOf]; done) | (simp [intOf]; omega)
        · rw [if_neg hj] at HPUT
          have k3 : ¬ (xh : Int) + 1 = (k1 : Int) := by omega
          have hw := WAY.out
          rw [HPUT.out] at hw
          obtain ⟨q1, hq1⟩ : ∃ q1, 1 + q = q1 := ⟨_, rfl⟩
          have hlen : ((k1, k1) :: (xl, xh) :: r).length = q1 := by rw [List.length_cons, HQ.out]; omega
          have hslA : Hid (SlR (w5.alloc (.cells #[.int .u64 (k1 : Int), .int .u64 (k1 : Int)] 39)) (gw + 1) (some ⟨gw, 0, none⟩) q ((xl, xh) :: r)) := O5.out.slA.below ((Below.refl _ _).alloc (Nat.succ_le_of_lt (O5.out.blk _ rfl).2) _)
          by_cases hcut : q1 ≤ M
          · have k4 : ¬ (M : Int) < (q1 : Int) := by omega
            obtain ⟨hw1, hw2⟩ : s1.l = (k1, k1) :: (xl, xh) :: r ∧ s1.fl = f0 := by
              rcases hw with ⟨_, h2, h3⟩ | ⟨h1, _⟩
              · exact ⟨h2, h3⟩
              · rw [hlen] at h1; omega
            obtain ⟨f8, hf8⟩ : ∃ f8, f0 = f8 := ⟨_, rfl⟩
            rw [hf8] at hw2 ⊢
            have HF8 := Lib.hid hw2
            have HW1 := Lib.hid hw1
            have HQL : Hid (s1.l.length = q1) := show s1.l.length = q1 by rw [hw1]; exact hlen
            clear hw hw1 hw2 WAY hlen hf8 hf0
            go_wp2_with (at_builtin; refine wpList_append_ranges rfl _ _ rfl w5.heap.size (.slice (some ⟨w5.heap.size, 0, none⟩) 1 1) 1 [(k1, k1)] rfl (ownR_lit w5 w5.heap.size (Nat.le_refl _) k1 k1) gw 0 q cw ((xl, xh) :: r) rfl hslA.out hq0 (by omega) (by simp) w5 ((Below.refl _ _).alloc (Nat.le_refl _) _) ?_; intro A7 c7 w8 O7 G7 B7)
            obtain ⟨g7, rfl, h7a, h7b⟩ := own_some O7.out (by omega)
            have O8 : Hid (OwnR w8 g (.slice (some ⟨g7, 0, none⟩) q1 c7) q1 s1.l) := show OwnR w8 g (.slice (some ⟨g7, 0, none⟩) q1 c7) q1 s1.l by
              rw [HW1.out, ← hq1]
              exact O7.out.base (by have := B5.out.size; omega)
            have S8 := Lib.hid (S5.out.below B7)
            have B8 : Hid (Below g w w8) := B5.out.trans (B7.mono (by have := B5.out.size; omega))
            have AP8 : Hid (Apart g A5 (some ⟨g7, 0, none⟩)) := fun a ha => by
              injection ha with ha
              subst ha
              exact ⟨by have := S5.out.lt; show g7 ≠ g; omega, fun b hb => by have := (S5.out.o.blk b hb).2; show g7 ≠ b.block; omega⟩
            clear O7 G7 B7 h7a h7b
            have HLG : Hid (Calls Try.prog 10 #[.pointer (some ⟨g, 0, none⟩)] w8 fun e w' => e = .returned (.tuple #[.int .u64 (k1 : Int), .bool true]) ∧ w8 = w') := by
              have h1 := largest_any g A5 n5 c5 g s1 w8 S8.out
              have h2 : 0 < n5 := by have := S8.out.o.len; have := List.length_pos_iff.2 NE.out; omega
              rw [HD.out, decide_eq_true h2] at h1
              exact h1
            have hn5 : n5 ≤ 64 := S8.out.n64 T1.out.ok
            have HLS := Lib.hid (list_any g A5 n5 c5 g s1 w8 S8.out (by omega))
            (with_reducible refine HLG.out.mono ?_)
            rintro e9 w9 ⟨rfl, rfl⟩
            go_wp2_with fail
            (with_reducible refine HLS.out.mono ?_)
            rintro e10 w10 ⟨A10, c10, rfl, o10, b10⟩
            have O10 := Lib.hid (O8.out.below b10)
            have S10 := Lib.hid (S8.out.below b10)
            have B10 : Hid (Below g w w10) := B8.out.trans (b10.mono (by have := B8.out.size; omega))
            have HSM := Lib.hid (rsame_any s1.l s1.l A10 _ n5 _ c10 c7 _ _ w10 o10.sl O10.out.sl (by simp [maxLen]; omega) true (by simp))
            clear o10 b10 O8 S8 B8
            go_wp2_with fail
            (with_reducible refine HSM.out.mono ?_)
            rintro e11 w11 ⟨rfl, b11⟩
            have O11 := Lib.hid (O10.out.below b11)
            have S11 := Lib.hid (S10.out.below b11)
            have B11 : Hid (Below g w w11) := B10.out.trans (b11.mono (by have := B10.out.size; omega))
            clear b11 O10 S10 B10
            by_cases hf8 : f8 = 0
            · have hf8' : ¬ (0 : Int) < (f8 : Int) := by omega
              go_wp2_with fail
              go_roundw
              case rel =>
                have O20 : Hid (OwnR w11 g (.slice (some ⟨g7, 0, none⟩) s1.l.length c7) s1.l.length s1.l) := show OwnR w11 g (.slice (some ⟨g7, 0, none⟩) s1.l.length c7) s1.l.length s1.l by rw [HQL.out]; exact O11.out
                exact ⟨j + 1, k1, s1, some ⟨g7, 0, none⟩, A5, c7, n5, c5, by have := HLT.out; omega, by have := HKK.out; omega, rfl, by rw [HQL.out], by rw [HF8.out] <;> (first | rfl | (rw [hf8]; rfl)), by go_num, HM1.out, fun h => absurd h NE.out, T1, S11, O20, AP8, B11⟩
              case measure => have := HLT.out; first | (simp [intOf]; done) | (simp [intOf]; omega)
            · have hf8' : (0 : Int) < (f8 : Int) := by omega
              obtain ⟨f9, hf9⟩ : ∃ f9 : Nat, (f8 : Int) - 1 = (f9 : Int) := ⟨f8 - 1, by omega⟩
              have hf9k : f9 ≤ topV := by have := T1.out.fl; have := HF8.out; unfold topV; omega
              have hf9b : f9 < 1000 := by have := T1.out.fl; have := HF8.out; omega
              have hm9 : s1.mem f9 := .inl (by have := HF8.out; omega)
              have hm0 : s1.mem 0 := .inl (by have := HF8.out; omega)
              have H1 := Lib.hid (has_any g A5 n5 c5 g f9 s1 w11 S11.out ⟨_, T1.out.ok.fall⟩ T1.out.ok.flt (by unfold topV at hf9k; omega) (by omega) true (decide_eq_true hm9))
              have HK9 := Lib.hid hf9k
              have HM9 := Lib.hid hm9
              have HM0 := Lib.hid hm0
              clear hf9k hm9 hm0
              go_wp2_with fail
              (with_reducible refine H1.out.mono ?_)
              rintro e12 w12 ⟨rfl, b12⟩
              have O12 := Lib.hid (O11.out.below b12)
              have S12 := Lib.hid (S11.out.below b12)
              have B12 : Hid (Below g w w12) := B11.out.trans (b12.mono (by have := B11.out.size; omega))
              have H2 := Lib.hid (add_seen g A5 n5 c5 g f9 s1 w12 S12.out T1.out.ok HK9.out HM9.out (by omega) (f9 : Int) rfl)
              clear b12 O11 S11 B11
              go_wp2_with fail
              (with_reducible refine H2.out.mono ?_)
              rintro e13 w13 ⟨rfl, b13⟩
              have O13 := Lib.hid (O12.out.below b13)
              have S13 := Lib.hid (S12.out.below b13)
              have B13 : Hid (Below g w w13) := B12.out.trans (b13.mono (by have := B12.out.size; omega))
              have H3 := Lib.hid (add_seen g A5 n5 c5 g 0 s1 w13 S13.out T1.out.ok (Nat.zero_le _) HM0.out (by omega) 0 rfl)
              clear b13 O12 S12 B12
              go_wp2_with fail
              (with_reducible refine H3.out.mono ?_)
              rintro e14 w14 ⟨rfl, b14⟩
              have O14 := Lib.hid (O13.out.below b14)
              have S14 := Lib.hid (S13.out.below b14)
              have B14 : Hid (Below g w w14) := B13.out.trans (b14.mono (by have := B13.out.size; omega))
              clear b14 O13 S13 B13
              go_wp2_with fail
              go_roundw
              case rel =>
                have O20 : Hid (OwnR w14 g (.slice (some ⟨g7, 0, none⟩) s1.l.length c7) s1.l.length s1.l) := show OwnR w14 g (.slice (some ⟨g7, 0, none⟩) s1.l.length c7) s1.l.length s1.l by rw [HQL.out]; exact O14.out
                exact ⟨j + 1, k1, s1, some ⟨g7, 0, none⟩, A5, c7, n5, c5, by have := HLT.out; omega, by have := HKK.out; omega, rfl, by rw [HQL.out], by rw [HF8.out] <;> (first | rfl | (rw [hf8]; rfl)), by go_num, HM1.out, fun h => absurd h NE.out, T1, S14, O20, AP8, B14⟩
              case measure => have := HLT.out; first | (simp [intOf]; done) | (simp [intOf]; omega)
          · have k4 : (M : Int) < (q1 : Int) := by omega
            obtain ⟨hw1, hw2⟩ : s1.l = ((k1, k1) :: (xl, xh) :: r).take M ∧ s1.fl = (((k1, k1) :: (xl, xh) :: r).getD M (0, 0)).2 + 1 := by
              rcases hw with ⟨h1, _⟩ | ⟨_, h2, h3⟩
              · rw [hlen] at h1; omega
              · exact ⟨h2, h3⟩
            obtain ⟨xM, hxM⟩ : ∃ xM, (((k1, k1) :: (xl, xh) :: r).getD M (0, 0)).2 = xM := ⟨_, rfl⟩
            rw [hxM] at hw2
            obtain ⟨f8, hf8⟩ : ∃ f8, xM + 1 = f8 := ⟨_, rfl⟩
            rw [hf8] at hw2
            have k6 : (xM : Int) + 1 = (f8 : Int) := by omega
            have hx1000 : xM < 1000 := by have := T1.out.fl; omega
            have HXM := Lib.hid hxM
            have HF8 := Lib.hid hw2
            have HW1 := Lib.hid hw1
            have HQL : Hid (s1.l.length = M) := show s1.l.length = M by rw [hw1, List.length_take, hlen]; omega
            have HMQ : Hid (M < 1 + q) := show M < 1 + q by omega
            have hMq1 : M < q1 := by omega
            clear hw hw1 hw2 WAY hlen hf8 hf0 hxM
            go_wp2_with (at_builtin; refine wpList_append_ranges rfl _ _ rfl w5.heap.size (.slice (some ⟨w5.heap.size, 0, none⟩) 1 1) 1 [(k1, k1)] rfl (ownR_lit w5 w5.heap.size (Nat.le_refl _) k1 k1) gw 0 q cw ((xl, xh) :: r) rfl hslA.out hq0 (by omega) (by simp) w5 ((Below.refl _ _).alloc (Nat.le_refl _) _) ?_; intro A7 c7 w8 O7 G7 B7; obtain ⟨g7, hA7, h7a, h7b⟩ := own_some O7.out (by omega); subst hA7; have hcM := cut_cell O7.out HMQ.out HXM.out; have hcutM := fun u => cut_run u O7.out (Nat.le_of_lt HMQ.out); rw [hq1] at hcutM)
            have O8 : Hid (OwnR w8 g (.slice (some ⟨g7, 0, none⟩) M c7) M s1.l) := show OwnR w8 g (.slice (some ⟨g7, 0, none⟩) M c7) M s1.l by
              rw [HW1.out]
              exact (O7.out.cut (Nat.le_of_lt HMQ.out)).base (by have := B5.out.size; omega)
            have S8 := Lib.hid (S5.out.below B7)
            have B8 : Hid (Below g w w8) := B5.out.trans (B7.mono (by have := B5.out.size; omega))
            have AP8 : Hid (Apart g A5 (some ⟨g7, 0, none⟩)) := fun a ha => by
              injection ha with ha
              subst ha
              exact ⟨by have := S5.out.lt; show g7 ≠ g; omega, fun b hb => by have := (S5.out.o.blk b hb).2; show g7 ≠ b.block; omega⟩
            clear O7 G7 B7 h7a h7b
            have HLG : Hid (Calls Try.prog 10 #[.pointer (some ⟨g, 0, none⟩)] w8 fun e w' => e = .returned (.tuple #[.int .u64 (k1 : Int), .bool true]) ∧ w8 = w') := by
              have h1 := largest_any g A5 n5 c5 g s1 w8 S8.out
              have h2 : 0 < n5 := by have := S8.out.o.len; have := List.length_pos_iff.2 NE.out; omega
              rw [HD.out, decide_eq_true h2] at h1
              exact h1
            have hn5 : n5 ≤ 64 := S8.out.n64 T1.out.ok
            have HLS := Lib.hid (list_any g A5 n5 c5 g s1 w8 S8.out (by omega))
            (with_reducible refine HLG.out.mono ?_)
            rintro e9 w9 ⟨rfl, rfl⟩
            go_wp2_with fail
            (with_reducible refine HLS.out.mono ?_)
            rintro e10 w10 ⟨A10, c10, rfl, o10, b10⟩
            have O10 := Lib.hid (O8.out.below b10)
            have S10 := Lib.hid (S8.out.below b10)
            have B10 : Hid (Below g w w10) := B8.out.trans (b10.mono (by have := B8.out.size; omega))
            have HSM := Lib.hid (rsame_any s1.l s1.l A10 _ n5 _ c10 c7 _ _ w10 o10.sl O10.out.sl (by simp [maxLen]; omega) true (by simp))
            clear o10 b10 O8 S8 B8
            go_wp2_with fail
            (with_reducible refine HSM.out.mono ?_)
            rintro e11 w11 ⟨rfl, b11⟩
            have O11 := Lib.hid (O10.out.below b11)
            have S11 := Lib.hid (S10.out.below b11)
            have B11 : Hid (Below g w w11) := B10.out.trans (b11.mono (by have := B10.out.size; omega))
            clear b11 O10 S10 B10
            by_cases hf8 : f8 = 0
            · have hf8' : ¬ (0 : Int) < (f8 : Int) := by omega
              go_wp2_with fail
              go_roundw
              case rel =>
                have O20 : Hid (OwnR w11 g (.slice (some ⟨g7, 0, none⟩) s1.l.length c7) s1.l.length s1.l) := show OwnR w11 g (.slice (some ⟨g7, 0, none⟩) s1.l.length c7) s1.l.length s1.l by rw [HQL.out]; exact O11.out
                exact ⟨j + 1, k1, s1, some ⟨g7, 0, none⟩, A5, c7, n5, c5, by have := HLT.out; omega, by have := HKK.out; omega, rfl, by rw [HQL.out], by rw [HF8.out] <;> (first | rfl | (rw [hf8]; rfl)), by go_num, HM1.out, fun h => absurd h NE.out, T1, S11, O20, AP8, B11⟩
              case measure => have := HLT.out; first | (simp [intOf]; done) | (simp [intOf]; omega)
            · have hf8' : (0 : Int) < (f8 : Int) := by omega
              obtain ⟨f9, hf9⟩ : ∃ f9 : Nat, (f8 : Int) - 1 = (f9 : Int) := ⟨f8 - 1, by omega⟩
              have hf9k : f9 ≤ topV := by have := T1.out.fl; have := HF8.out; unfold topV; omega
              have hf9b : f9 < 1000 := by have := T1.out.fl; have := HF8.out; omega
              have hm9 : s1.mem f9 := .inl (by have := HF8.out; omega)
              have hm0 : s1.mem 0 := .inl (by have := HF8.out; omega)
              have H1 := Lib.hid (has_any g A5 n5 c5 g f9 s1 w11 S11.out ⟨_, T1.out.ok.fall⟩ T1.out.ok.flt (by unfold topV at hf9k; omega) (by omega) true (decide_eq_true hm9))
              have HK9 := Lib.hid hf9k
              have HM9 := Lib.hid hm9
              have HM0 := Lib.hid hm0
              clear hf9k hm9 hm0
              go_wp2_with fail
              (with_reducible refine H1.out.mono ?_)
              rintro e12 w12 ⟨rfl, b12⟩
              have O12 := Lib.hid (O11.out.below b12)
              have S12 := Lib.hid (S11.out.below b12)
              have B12 : Hid (Below g w w12) := B11.out.trans (b12.mono (by have := B11.out.size; omega))
              have H2 := Lib.hid (add_seen g A5 n5 c5 g f9 s1 w12 S12.out T1.out.ok HK9.out HM9.out (by omega) (f9 : Int) rfl)
              clear b12 O11 S11 B11
              go_wp2_with fail
              (with_reducible refine H2.out.mono ?_)
              rintro e13 w13 ⟨rfl, b13⟩
              have O13 := Lib.hid (O12.out.below b13)
              have S13 := Lib.hid (S12.out.below b13)
              have B13 : Hid (Below g w w13) := B12.out.trans (b13.mono (by have := B12.out.size; omega))
              have H3 := Lib.hid (add_seen g A5 n5 c5 g 0 s1 w13 S13.out T1.out.ok (Nat.zero_le _) HM0.out (by omega) 0 rfl)
              clear b13 O12 S12 B12
              go_wp2_with fail
              (with_reducible refine H3.out.mono ?_)
              rintro e14 w14 ⟨rfl, b14⟩
              have O14 := Lib.hid (O13.out.below b14)
              have S14 := Lib.hid (S13.out.below b14)
              have B14 : Hid (Below g w w14) := B13.out.trans (b14.mono (by have := B13.out.size; omega))
              clear b14 O13 S13 B13
              go_wp2_with fail
              go_roundw
              case rel =>
                have O20 : Hid (OwnR w14 g (.slice (some ⟨g7, 0, none⟩) s1.l.length c7) s1.l.length s1.l) := show OwnR w14 g (.slice (some ⟨g7, 0, none⟩) s1.l.length c7) s1.l.length s1.l by rw [HQL.out]; exact O14.out
                exact ⟨j + 1, k1, s1, some ⟨g7, 0, none⟩, A5, c7, n5, c5, by have := HLT.out; omega, by have := HKK.out; omega, rfl, by rw [HQL.out], by rw [HF8.out] <;> (first | rfl | (rw [hf8]; rfl)), by go_num, HM1.out, fun h => absurd h NE.out, T1, S14, O20, AP8, B14⟩
              case measure => have := HLT.out; first | (simp [intOf]; done) | (simp [intOf]; omega)
    · obtain rfl : j = n := by omega
      go_wp2_with fail
      (with_reducible refine (awake_any _).mono ?_)
      rintro e9 w9 ⟨rfl, b9⟩
      go_wp2
      go_ret
      exact ⟨rfl, by rw [hg]; exact B.out.trans (b9.mono (by have := B.out.size; omega))⟩
end Go.Proofs.Ytebpalcfnfgfdaa
