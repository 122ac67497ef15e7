/-
  The walk through GcmTells.
-/
import Derived.Test.YtjnclcehnpkncaaGcmY
import Derived.Test.YtjnclcehnpkncaaGcmL
import Derived.Test.YtjnclcehnpkncaaOverB
import Derived.Test.YtjnclcehnpkncaaSame
namespace Go.Proofs.Ytjnclcehnpkncaa
open Go.RowKit
set_option linter.unusedVariables false

/-- the boxes of a law's key and nonce -/
structure TeW (w wr : World) (key nonce : List UInt8) : Prop where
  k : Blk wr w.heap.size 22 key
  n : Blk wr (w.heap.size + 1) 23 nonce
  b : Below w.heap.size w wr
theorem TeW.below {w wr wx : World} {key nonce : List UInt8} (h : TeW w wr key nonce) (hb : Below wr.heap.size wr wx) : TeW w wx key nonce := ⟨h.k.below hb, h.n.below hb, h.b.trans (hb.mono h.b.size)⟩
theorem TeW.drewN {w wr : World} {key nonce : List UInt8} (h : TeW w wr key nonce) (k : Nat) : TeW w (wr.drewN k) key nonce := ⟨h.k, h.n, below_drewN h.b k⟩
theorem TeW.drew {w wr : World} {key nonce : List UInt8} (h : TeW w wr key nonce) : TeW w wr.drew key nonce := ⟨h.k, h.n, h.b.drew⟩
theorem TeW.only {w wr wx : World} {key nonce : List UInt8} {g : Nat} (h : TeW w wr key nonce) (ho : Only g wr wx) (hg : w.heap.size + 1 < g) : TeW w wx key nonce := ⟨h.k.only ho (by omega), h.n.only ho (by omega), h.b.trans (ho.below h.b.size (by omega))⟩
theorem tells_long (key nonce : List UInt8) (A1 A2 A3 : Option Addr) (n1 c1 n2 c2 n3 c3 : Nat) (w : World) (h : 120 < n1 ∨ 120 < n2 ∨ 120 < n3) :
    Calls Try.prog 3 #[.agg (bvs key).toArray, .agg (bvs nonce).toArray, .slice A1 n1 c1, .slice A2 n2 c2, .slice A3 n3 c3] w fun e w' => e = .returned (.bool true) ∧ Below w.heap.size w w' := by
  have hways : (decide ((120 : Int) < (n1 : Int)) = true) ∨ (decide ((120 : Int) < (n1 : Int)) = false ∧ decide ((120 : Int) < (n2 : Int)) = true) ∨ (decide ((120 : Int) < (n1 : Int)) = false ∧ decide ((120 : Int) < (n2 : Int)) = false ∧ decide ((120 : Int) < (n3 : Int)) = true) := by
    by_cases h1 : 120 < n1
    · exact .inl (by simp; omega)
    · by_cases h2 : 120 < n2
      · exact .inr (.inl ⟨by simp; omega, by simp; omega⟩)
      · exact .inr (.inr ⟨by simp; omega, by simp; omega, by simp; omega⟩)
  clear h
  rcases hways with t1 | ⟨t1, t2⟩ | ⟨t1, t2, t3⟩
  all_goals
    go_enter Try.func3, Try.ntmps3
    go_wp2_with (go_at_call 9; (with_reducible refine (awake_any _).mono ?_); rintro e1 w1 ⟨rfl, b1⟩)
    go_ret
    exact ⟨rfl, (((Below.refl _ _).alloc (Nat.le_refl _) _).alloc (by simp) _).trans (b1.mono (by simp; omega))⟩

set_option maxRecDepth 8000 in
set_option maxHeartbeats 4000000 in
theorem tells_walk (key nonce text data other : List UInt8) (hk : key.length = 16) (hno : nonce.length = 12) (A1 A2 A3 : Option Addr) (n1 c1 n2 c2 n3 c3 : Nat) (w : World) (hs1 : Sl w w.heap.size A1 n1 text) (hs2 : Sl w w.heap.size A2 n2 data) (hs3 : Sl w w.heap.size A3 n3 other) (hnc1 : n1 ≤ c1) (hcm1 : c1 ≤ maxLen) (hnc2 : n2 ≤ c2) (hcm2 : c2 ≤ maxLen) (hnc3 : n3 ≤ c3) (hcm3 : c3 ≤ maxLen) (hn1 : n1 ≤ 120) (hn2 : n2 ≤ 120) (hn3 : n3 ≤ 120) :
    Calls Try.prog 3 #[.agg (bvs key).toArray, .agg (bvs nonce).toArray, .slice A1 n1 c1, .slice A2 n2 c2, .slice A3 n3 c3] w fun e w' => e = .returned (.bool true) ∧ Below w.heap.size w w' := by
  have Hk := Lib.hid hk
  have Hno := Lib.hid hno
  have HN1 : Hid (n1 ≤ c1 ∧ c1 ≤ maxLen) := ⟨hnc1, hcm1⟩
  have HN2 : Hid (n2 ≤ c2 ∧ c2 ≤ maxLen) := ⟨hnc2, hcm2⟩
  have HN3 : Hid (n3 ≤ c3 ∧ c3 ≤ maxLen) := ⟨hnc3, hcm3⟩
  have HL1 := Lib.hid hs1.1
  have HP : Hid (∀ u : World, Below w.heap.size w u → Sl u w.heap.size A1 n1 text ∧ Sl u w.heap.size A2 n2 data ∧ Sl u w.heap.size A3 n3 other) := fun u hu => ⟨hs1.below hu, hs2.below hu, hs3.below hu⟩
  obtain ⟨X, hX⟩ : ∃ x, sealG key nonce text data = x := ⟨_, rfl⟩
  have HX := Lib.hid hX
  have HXL : Hid (X.length = n1 + 16) := show _ = _ by rw [← hX, sealG_length _ _ _ _ hk hno, hs1.1]
  have HO : Hid (openG key nonce X data 3 7 = (text, 0)) := show _ = _ by rw [← hX]; exact open_seal _ _ _ _ _ _ hk hno
  obtain ⟨⟨lo, eo⟩, hro⟩ : ∃ r, openG key nonce other data 3 7 = r := ⟨_, rfl⟩
  have HRO := Lib.hid hro
  have HLO : Hid (lo.length ≤ 120) := by
    show _ ≤ _
    unfold openG at hro
    rw [hs3.1] at hro
    split at hro
    · injection hro with h1 h2; subst h1; simp
    · split at hro
      · injection hro with h1 h2; subst h1; rw [turnG_length, List.length_take]; omega
      · injection hro with h1 h2; subst h1; simp
  have t1 : decide ((120 : Int) < (n1 : Int)) = false := by simp; omega
  have t2 : decide ((120 : Int) < (n2 : Int)) = false := by simp; omega
  have t3 : decide ((120 : Int) < (n3 : Int)) = false := by simp; omega
  have t4 : (eo == eo) = true := by simp
  clear hk hno hs1 hs2 hs3 hnc1 hcm1 hnc2 hcm2 hnc3 hcm3 hX hro
  go_enter Try.func3, Try.ntmps3
  go_upto_region 3 with fail
  refine wp_forget (fun w1 => TeW w w1 key nonce) ⟨heap_allocs w [_, _] 0 _ rfl, heap_allocs w [_, _] 1 _ rfl, ((Below.refl _ _).alloc (Nat.le_refl _) _).alloc (by simp) _⟩ ?_
  intro w1 h1
  have TW := Lib.hid h1
  clear h1
  go_upto_region 4 with (first
    | ((with_reducible refine wpList_load_blk rfl 22 (.tmp 5) rfl w.heap.size ?hx 22 key ?hg 16 5 Try.underlying22 16 sizeRow Hk.out ?_); (case hx => with_unfolding_all rfl); (case hg => with_reducible exact TW.out.k))
    | ((with_reducible refine wpList_load_blk rfl 23 (.tmp 6) rfl (w.heap.size + 1) ?hx 23 nonce ?hg 12 5 Try.underlying23 12 size12 Hno.out ?_); (case hx => with_unfolding_all rfl); (case hg => with_reducible exact TW.out.n))
    | (go_at_call 10; (with_reducible refine (seal_any key nonce text data Hk.out Hno.out A1 A2 n1 c1 n2 c2 w.heap.size _ (HP.out _ TW.out.b).1 (HP.out _ TW.out.b).2.1 TW.out.b.size HN1.out.1 HN1.out.2 (by omega) HN2.out.1 HN2.out.2 (by omega)).mono ?_); rintro e2 w2 ⟨As, cs, rfl, o2, ls, ms, b2⟩; rw [HX.out] at o2;
        have HSZ := Lib.hid TW.out.n.lt; replace TW := Lib.hid (TW.out.below b2); have OS := Lib.hid o2; have LS : Hid (n1 + 16 ≤ cs ∧ cs ≤ maxLen) := ⟨ls, ms⟩; clear o2 ls ms b2))
  obtain ⟨gs, es, hgs1, hgs2⟩ := OS.out.at_ (by omega)
  subst es
  have HGs : Hid (w.heap.size + 1 < gs ∧ gs < w2.heap.size) := ⟨by have := HSZ.out; omega, hgs2⟩
  clear HSZ hgs1 hgs2
  replace OS := Lib.hid (OS.out.base (Nat.zero_le _))
  go_upto_region 6 with (first
    | ((with_reducible refine wpList_load_blk rfl 22 (.tmp 5) rfl w.heap.size ?hx 22 key ?hg 16 5 Try.underlying22 16 sizeRow Hk.out ?_); (case hx => with_unfolding_all rfl); (case hg => with_reducible exact TW.out.k))
    | ((with_reducible refine wpList_load_blk rfl 23 (.tmp 6) rfl (w.heap.size + 1) ?hx 23 nonce ?hg 12 5 Try.underlying23 12 size12 Hno.out ?_); (case hx => with_unfolding_all rfl); (case hg => with_reducible exact TW.out.n))
    | (go_at_call 12; (with_reducible refine (rseal_any key nonce text data Hk.out Hno.out A1 A2 n1 c1 n2 c2 w.heap.size _ (HP.out _ TW.out.b).1 (HP.out _ TW.out.b).2.1 TW.out.b.size HN1.out.1 HN1.out.2 (by omega) HN2.out.1 HN2.out.2 (by omega)).mono ?_); rintro e3 w3 ⟨Ar, cr, rfl, o3, lr, mr, b3⟩; rw [HX.out] at o3;
        replace TW := Lib.hid (TW.out.below b3); replace OS := Lib.hid (OS.out.below b3); have OR := Lib.hid o3; have HS23 := Lib.hid b3.size; clear o3 lr mr b3)
    | (go_at_call 11; (with_reducible refine (same_yes X X rfl _ _ (n1 + 16) (n1 + 16) cs cr w3.heap.size w3.heap.size _ OS.out.sl OR.out.sl (by simp [maxLen]; omega)).mono ?_); rintro e4 w4 ⟨rfl, k4, rfl⟩; replace TW := Lib.hid (TW.out.drewN k4); replace OS : Hid (Own (w3.drewN k4) 0 _ _ X) := OS.out; clear OR))
  obtain ⟨w4, hw4⟩ : ∃ x, w3.drewN k4 = x := ⟨_, rfl⟩
  have HS24 : Hid (w2.heap.size ≤ w4.heap.size) := show _ ≤ _ by rw [← hw4]; exact HS23.out
  rw [hw4] at TW OS ⊢
  clear hw4
  go_upto_region 7 with (first
    | ((with_reducible refine wpList_load_blk rfl 22 (.tmp 5) rfl w.heap.size ?hx 22 key ?hg 16 5 Try.underlying22 16 sizeRow Hk.out ?_); (case hx => with_unfolding_all rfl); (case hg => with_reducible exact TW.out.k))
    | ((with_reducible refine wpList_load_blk rfl 23 (.tmp 6) rfl (w.heap.size + 1) ?hx 23 nonce ?hg 12 5 Try.underlying23 12 size12 Hno.out ?_); (case hx => with_unfolding_all rfl); (case hg => with_reducible exact TW.out.n))
    | (go_at_call 13; (with_reducible refine (open_any key nonce X data Hk.out Hno.out _ A2 (n1 + 16) cs n2 c2 w4.heap.size _ OS.out.sl (((HP.out _ TW.out.b).2.1).more TW.out.b.size) (Nat.le_refl _) LS.out.1 LS.out.2 (by omega) HN2.out.1 HN2.out.2 (by omega)).mono ?_); rw [HO.out]; rintro e5 w5 ⟨Aa, na, ca, rfl, o5, la, ma, b5⟩;
        have HGa : Hid (∀ a, Aa = some a → w4.heap.size ≤ a.block) := fun a ha => (o5.blk a ha).1; replace TW := Lib.hid (TW.out.below b5); replace OS := Lib.hid (OS.out.below b5); have OA := Lib.hid (o5.base (Nat.zero_le _)); have hz5 := Lib.hid b5.size; clear o5 la ma b5))
  obtain rfl : na = n1 := by have h1 : text.length = na := OA.out.len; have h2 := HL1.out; omega
  go_upto_region 8 with (first
    | ((with_reducible refine wpList_load_blk rfl 22 (.tmp 5) rfl w.heap.size ?hx 22 key ?hg 16 5 Try.underlying22 16 sizeRow Hk.out ?_); (case hx => with_unfolding_all rfl); (case hg => with_reducible exact TW.out.k))
    | ((with_reducible refine wpList_load_blk rfl 23 (.tmp 6) rfl (w.heap.size + 1) ?hx 23 nonce ?hg 12 5 Try.underlying23 12 size12 Hno.out ?_); (case hx => with_unfolding_all rfl); (case hg => with_reducible exact TW.out.n))
    | (go_at_call 13; (with_reducible refine (open_any key nonce other data Hk.out Hno.out A3 A2 n3 c3 n2 c2 w.heap.size _ (HP.out _ TW.out.b).2.2 (HP.out _ TW.out.b).2.1 TW.out.b.size HN3.out.1 HN3.out.2 (by omega) HN2.out.1 HN2.out.2 (by omega)).mono ?_); rw [HRO.out]; rintro e6 w6 ⟨Ab, nb, cb, rfl, o6, lb, mb, b6⟩;
        replace TW := Lib.hid (TW.out.below b6); replace OS := Lib.hid (OS.out.below b6); replace OA := Lib.hid (OA.out.below b6); have OB := Lib.hid o6; have hz6 := Lib.hid b6.size; clear o6 lb mb b6))
  go_upto_region 9 with (first
    | ((with_reducible refine wpList_load_blk rfl 22 (.tmp 5) rfl w.heap.size ?hx 22 key ?hg 16 5 Try.underlying22 16 sizeRow Hk.out ?_); (case hx => with_unfolding_all rfl); (case hg => with_reducible exact TW.out.k))
    | ((with_reducible refine wpList_load_blk rfl 23 (.tmp 6) rfl (w.heap.size + 1) ?hx 23 nonce ?hg 12 5 Try.underlying23 12 size12 Hno.out ?_); (case hx => with_unfolding_all rfl); (case hg => with_reducible exact TW.out.n))
    | (go_at_call 14; (with_reducible refine (ropen_any key nonce other data Hk.out Hno.out A3 A2 n3 c3 n2 c2 w.heap.size _ (HP.out _ TW.out.b).2.2 (HP.out _ TW.out.b).2.1 TW.out.b.size HN3.out.1 HN3.out.2 (by omega) HN2.out.1 HN2.out.2 (by omega)).mono ?_); rw [HRO.out]; rintro e7 w7 ⟨Ac, nc, cc, rfl, o7, lc, mc, b7⟩;
        replace TW := Lib.hid (TW.out.below b7); replace OS := Lib.hid (OS.out.below b7); replace OA := Lib.hid (OA.out.below b7); replace OB := Lib.hid (OB.out.below b7); have OC := Lib.hid o7; have hz7 := Lib.hid b7.size; clear o7 lc mc b7))
  have HNB : Hid (nb = lo.length) := OB.out.len.symm
  have HNC : Hid (nc = lo.length) := OC.out.len.symm
  go_upto_region 10 with (first
    | (go_at_call 11; (first
        | ((with_reducible refine (same_yes text text rfl Aa A1 na na ca c1 w7.heap.size w.heap.size _ OA.out.sl (HP.out _ TW.out.b).1 (by simp [maxLen]; omega)).mono ?_); rintro e8 w8 ⟨rfl, k8, rfl⟩)
        | ((with_reducible refine (same_yes lo lo rfl Ab Ac nb nc cb cc w7.heap.size w7.heap.size _ (Sl.drewN OB.out.sl k8) (Sl.drewN OC.out.sl k8) (by have := HNB.out; have := HLO.out; simp [maxLen]; omega)).mono ?_); rintro e9 w9 ⟨rfl, k9, rfl⟩))))
  obtain ⟨w9, hw9⟩ : ∃ x, w7.drewN (k8 + k9) = x := ⟨_, rfl⟩
  have TW9 : Hid (TeW w w9 key nonce) := show TeW _ _ _ _ by rw [← hw9]; exact TW.out.drewN (k8 + k9)
  have OS9 : Hid (Own w9 0 (.slice (some ⟨gs, 0, none⟩) (na + 16) cs) (na + 16) X) := show Own _ _ _ _ _ by rw [← hw9]; exact OS.out
  have OA9 : Hid (Own w9 0 (.slice Aa na ca) na text) := show Own _ _ _ _ _ by rw [← hw9]; exact OA.out
  have HZ9 : Hid (w4.heap.size ≤ w9.heap.size) := show _ ≤ _ by rw [← hw9]; exact Nat.le_trans (Nat.le_trans hz5.out hz6.out) hz7.out
  rw [hw9]
  clear hw9 TW OS OA OB OC hz5 hz6 hz7 HNB HNC
  go_upto_region 11 with (go_at_call 15; (with_reducible refine (over_blk X gs (na + 16) cs 0 _ OS9.out (Nat.zero_le _) (by omega)).mono ?_); rintro e10 w10 ⟨rfl, o10⟩; have O10 := Lib.hid o10; clear o10)
  have TW10 := Lib.hid (TW9.out.only O10.out HGs.out.1)
  have HA : Hid (Calls Try.prog 15 #[.slice Aa na ca] w10 fun e w' => e = .returned (.tuple #[]) ∧ TeW w w' key nonce) := by
    have hg := HGs.out
    have h4 : gs < w4.heap.size := by have := HS24.out; omega
    rcases OA9.out.2 with ⟨hv, hn0⟩ | ⟨ga, cap, cur, hv, _⟩
    · injection hv with h1 h2 h3
      subst h1 h2 h3
      exact (over_nil w10).mono fun e w' ⟨he, hb⟩ => ⟨he, TW10.out.below hb⟩
    · injection hv with h1 h2 h3
      subst h1
      have hga : w4.heap.size ≤ ga := HGa.out _ rfl
      have o := OA9.out.only O10.out (by omega)
      exact (over_blk text ga na ca 0 w10 o (Nat.zero_le _) (by omega)).mono fun e w' ⟨he, ho⟩ => ⟨he, TW10.out.only ho (by omega)⟩
  go_upto_region 12 with (go_at_call 15; (with_reducible refine HA.out.mono ?_); rintro e11 w11 ⟨rfl, t11⟩; have TW := Lib.hid t11; clear t11)
  clear TW9 OS9 OA9 O10 TW10 HA HZ9
  refine wp_held (S := fun u => Below w11.drew.heap.size w11.drew u) (by kernel_rfl) ?_
  replace TW := Lib.hid TW.out.drew
  obtain ⟨wa, hwa⟩ : ∃ x, w11.drew = x := ⟨_, rfl⟩
  rw [hwa] at TW ⊢
  clear hwa
  have b0 : Below wa.heap.size wa wa := Below.refl _ _
  refine wpAnyH_take (i := 0) (v := ?_) rfl (by kernel_rfl) (by kernel_rfl) (by kernel_rfl) (fun _ _ _ h => h) (Or.inl ⟨by rfl, ?_⟩) b0 ?_
  rotate_left 1
  · intro u hu
    go_simp
    first | done | with_reducible rfl
  go_simp
  refine wpAnyH_take (i := 1) (v := ?_) rfl (by kernel_rfl) (by kernel_rfl) (by kernel_rfl) (fun _ _ _ h => h) (Or.inl ⟨by rfl, ?_⟩) b0 ?_
  rotate_left 1
  · intro u hu
    go_simp
    first | done | with_reducible rfl
  go_simp
  refine wpAnyH_pickG 2 (.agg (bvs key).toArray) rfl (by kernel_rfl) (by kernel_rfl) (by kernel_rfl) (by rfl) (fun _ _ _ h => h) (fun u hu => exec_load_blk u 22 (.tmp 5) rfl w.heap.size (by with_unfolding_all rfl) 22 key (TW.out.k.below hu) 16 5 Try.underlying22 16 sizeRow Hk.out) b0 ?_
  go_simp
  refine wpAnyH_pickG 3 (.agg (bvs nonce).toArray) rfl (by kernel_rfl) (by kernel_rfl) (by kernel_rfl) (by rfl) (fun _ _ _ h => h) (fun u hu => exec_load_blk u 23 (.tmp 6) rfl (w.heap.size + 1) (by with_unfolding_all rfl) 23 nonce (TW.out.n.below hu) 12 5 Try.underlying23 12 size12 Hno.out) b0 ?_
  go_simp
  refine wpAnyH_take (i := 4) (v := ?_) rfl (by kernel_rfl) (by kernel_rfl) (by kernel_rfl) (fun _ _ _ h => h) (Or.inl ⟨by rfl, ?_⟩) b0 ?_
  rotate_left 1
  · intro u hu
    go_simp
    first | done | with_reducible rfl
  go_simp
  refine wpAnyH_take (i := 5) (v := ?_) rfl (by kernel_rfl) (by kernel_rfl) (by kernel_rfl) (fun _ _ _ h => h) (Or.inl ⟨by rfl, ?_⟩) b0 ?_
  rotate_left 1
  · intro u hu
    go_simp
    first | done | with_reducible rfl
  go_simp
  refine wpAnyH_pickG 7 (.agg (bvs key).toArray) rfl (by kernel_rfl) (by kernel_rfl) (by kernel_rfl) (by rfl) (fun _ _ _ h => h) (fun u hu => exec_load_blk u 22 (.tmp 5) rfl w.heap.size (by with_unfolding_all rfl) 22 key (TW.out.k.below hu) 16 5 Try.underlying22 16 sizeRow Hk.out) b0 ?_
  go_simp
  refine wpAnyH_pickG 8 (.agg (bvs nonce).toArray) rfl (by kernel_rfl) (by kernel_rfl) (by kernel_rfl) (by rfl) (fun _ _ _ h => h) (fun u hu => exec_load_blk u 23 (.tmp 6) rfl (w.heap.size + 1) (by with_unfolding_all rfl) 23 nonce (TW.out.n.below hu) 12 5 Try.underlying23 12 size12 Hno.out) b0 ?_
  go_simp
  refine wpAnyH_take (i := 9) (v := ?_) rfl (by kernel_rfl) (by kernel_rfl) (by kernel_rfl) (fun _ _ _ h => h) (Or.inl ⟨by rfl, ?_⟩) b0 ?_
  rotate_left 1
  · intro u hu
    go_simp
    first | done | with_reducible rfl
  go_simp
  refine wpAnyH_take (i := 10) (v := ?_) rfl (by kernel_rfl) (by kernel_rfl) (by kernel_rfl) (fun _ _ _ h => h) (Or.inl ⟨by rfl, ?_⟩) b0 ?_
  rotate_left 1
  · intro u hu
    go_simp
    first | done | with_reducible rfl
  go_simp
  refine wpAnyH_oneG 6 (by kernel_rfl) rfl (by rfl) ?_
  go_wp2_with fail
  (with_reducible refine (seal_any key nonce text data Hk.out Hno.out A1 A2 na c1 n2 c2 w.heap.size _ (HP.out _ TW.out.b).1 (HP.out _ TW.out.b).2.1 TW.out.b.size HN1.out.1 HN1.out.2 (by omega) HN2.out.1 HN2.out.2 (by omega)).mono ?_)
  rintro e12 w12 ⟨Ax, cx, rfl, ox, lx, mx, b12⟩
  rw [HX.out] at ox
  refine ⟨b12, ?_⟩
  have TW2 := Lib.hid (TW.out.below b12)
  go_simp
  refine wpAnyH_oneG 11 (by kernel_rfl) rfl (by rfl) ?_
  go_wp2_with fail
  (with_reducible refine (rseal_any key nonce text data Hk.out Hno.out A1 A2 na c1 n2 c2 w.heap.size _ (HP.out _ TW2.out.b).1 (HP.out _ TW2.out.b).2.1 TW2.out.b.size HN1.out.1 HN1.out.2 (by omega) HN2.out.1 HN2.out.2 (by omega)).mono ?_)
  rintro e13 w13 ⟨Ay, cy, rfl, oy, ly, my, b13⟩
  rw [HX.out] at oy
  have b13' := b12.trans (b13.mono b12.size)
  refine ⟨b13', ?_⟩
  go_simp
  refine wpAnyH_oneG 12 (by kernel_rfl) rfl (by rfl) ?_
  go_wp2_with fail
  (with_reducible refine (same_yes X X rfl _ _ (na + 16) (na + 16) cx cy w13.heap.size w13.heap.size _ (ox.below b13).sl oy.sl (by simp [maxLen]; omega)).mono ?_)
  rintro e14 w14 ⟨rfl, k14, rfl⟩
  have b14 := below_drewN b13' k14
  refine ⟨b14, ?_⟩
  go_simp
  refine wpAnyH_take (i := 13) (v := ?_) rfl (by kernel_rfl) (by kernel_rfl) (by kernel_rfl) (fun _ _ _ h => h) (Or.inl ⟨by rfl, ?_⟩) b14 ?_
  rotate_left 1
  · intro u hu
    go_simp
    first | done | with_reducible rfl
  go_simp
  refine wpAnyH_take (i := 14) (v := ?_) rfl (by kernel_rfl) (by kernel_rfl) (by kernel_rfl) (fun _ _ _ h => h) (Or.inl ⟨by rfl, ?_⟩) b14 ?_
  rotate_left 1
  · intro u hu
    go_simp
    first | done | with_reducible rfl
  go_simp
  refine wpAnyH_oneG 15 (by kernel_rfl) rfl (by rfl) ?_
  go_wp2_with fail
  (with_reducible refine (awake_any _).mono ?_)
  rintro e15 w15 ⟨rfl, c15⟩
  have b15 := b14.trans (c15.mono b14.size)
  refine ⟨b15, ?_⟩
  go_simp
  refine wpAnyH_take (i := 16) (v := ?_) rfl (by kernel_rfl) (by kernel_rfl) (by kernel_rfl) (fun _ _ _ h => h) (Or.inl ⟨by rfl, ?_⟩) b15 ?_
  rotate_left 1
  · intro u hu
    go_simp
    first | done | with_reducible rfl
  go_simp
  refine wpAnyH_take (i := 17) (v := ?_) rfl (by kernel_rfl) (by kernel_rfl) (by kernel_rfl) (fun _ _ _ h => h) (Or.inl ⟨by rfl, ?_⟩) b15 ?_
  rotate_left 1
  · intro u hu
    go_simp
    first | done | with_reducible rfl
  go_simp
  refine wpAnyH_done (by kernel_rfl) ?_ _
  go_wp2_with fail
  go_ret
  exact ⟨rfl, TW.out.b.trans (b15.mono TW.out.b.size)⟩
theorem tells_all (key nonce text data other : List UInt8) (hk : key.length = 16) (hno : nonce.length = 12) (A1 A2 A3 : Option Addr) (n1 c1 n2 c2 n3 c3 : Nat) (w : World) (hs1 : Sl w w.heap.size A1 n1 text) (hs2 : Sl w w.heap.size A2 n2 data) (hs3 : Sl w w.heap.size A3 n3 other) (hnc1 : n1 ≤ c1) (hcm1 : c1 ≤ maxLen) (hnc2 : n2 ≤ c2) (hcm2 : c2 ≤ maxLen) (hnc3 : n3 ≤ c3) (hcm3 : c3 ≤ maxLen) :
    Calls Try.prog 3 #[.agg (bvs key).toArray, .agg (bvs nonce).toArray, .slice A1 n1 c1, .slice A2 n2 c2, .slice A3 n3 c3] w fun e w' => e = .returned (.bool true) ∧ Below w.heap.size w w' := by
  by_cases h : 120 < n1 ∨ 120 < n2 ∨ 120 < n3
  · exact tells_long key nonce A1 A2 A3 n1 c1 n2 c2 n3 c3 w h
  · exact tells_walk key nonce text data other hk hno A1 A2 A3 n1 c1 n2 c2 n3 c3 w hs1 hs2 hs3 hnc1 hcm1 hnc2 hcm2 hnc3 hcm3 (by omega) (by omega) (by omega)
end Go.Proofs.Ytjnclcehnpkncaa
