/-
  slices.Delete of one range.
-/
import Derived.Test.YtjbhhmjkdhkhaaaRgD
namespace Go.Proofs.Ytjbhhmjkdhkhaaa
open Go.RowKit Go.Lib
set_option linter.unusedVariables false

/-- an append into the room of a row -/
theorem wpList_append_roomR {w : World} {ops : Array Oper} {rest : List Oper} {o : Oper} {a : Act} {Q : Exit → Act → World → Prop} (hgd : o.guard = none) (s x : Operand)
    (ho : o.op = .call { callee := .builtin .append, args := #[s, x], argTypes := #[31, 31] })
    (gl n c k : Nat) (hs : a.eval s = .slice (some ⟨gl, 0, none⟩) n c) (ad : Addr) (m c2 : Nat) (hx : a.eval x = .slice (some ad) m c2) (hk : n + m = k) (cur : List Value) (hR : Rw w gl 39 cur) (hc : cur.length = c * 2)
    (news : List Value) (hn : news.length = m * 2) (hsrc : ∀ j u, news[j]? = some u → w.cell? (ad.add j) = some u) (h1 : ∀ v ∈ news, v.oneCell' = true) (hroom : k ≤ c)
    (h : ∀ w', Hid (Rw w' gl 39 (splice cur (n * 2) news)) → Hid (Only gl w w') → wpList Try.prog ops Q rest (a.put o.dst (.slice (some ⟨gl, 0, none⟩) k c)) w') : wpList Try.prog ops Q (o :: rest) a w := by
  subst hk
  obtain ⟨i, hi, hz0, hz1, hz2⟩ := info_parts range_info
  have hl : n * 2 + news.length ≤ cur.length := by rw [hn, hc]; omega
  have hrun := run_append_room_cells (P := Try.prog) w 31 o.type 39 i Try.underlying31 hi gl 0 n c ad m c2 news (by rw [hz1]; exact hn) hsrc h1 hroom
    (fun j hj => by rw [hz1, Nat.zero_add]; exact hR.some _ (by omega)) (fun j hj => hR.frozen _)
  rw [hz1, Nat.zero_add] at hrun
  obtain ⟨r1, r2⟩ := rw_sets hR (n * 2) news hl
  refine wpList_plain hgd fun K hK => ?_
  unfold Oper.wp execOp
  simp only [ho, resolve, invoke, builtin, Sem.run_bind, Sem.run_pure, Result.andThen_ok, List.map_toArray, List.map_cons, List.map_nil, hs, hx, hrun]
  exact hK _ _ (h _ r1 r2)
theorem wpList_clearR {w : World} {ops : Array Oper} {rest : List Oper} {o : Oper} {a : Act} {Q : Exit → Act → World → Prop} (hgd : o.guard = none) (s : Operand)
    (ho : o.op = .call { callee := .builtin .clear, args := #[s], argTypes := #[31] })
    (gl off n c : Nat) (hs : a.eval s = .slice (some ⟨gl, off, none⟩) n c) (hn : 0 < n) (cur : List Value) (hR : Rw w gl 39 cur) (hc : off + n * 2 ≤ cur.length)
    (h : ∀ w', Hid (Rw w' gl 39 (splice cur off (List.replicate (n * 2) (.int .u64 0)))) → Hid (Only gl w w') → wpList Try.prog ops Q rest (a.put o.dst (.tuple #[])) w') : wpList Try.prog ops Q (o :: rest) a w := by
  have hrun := run_clearR w o.type gl off n c hn (fun j hj => hR.some _ (by omega)) (fun j hj => hR.frozen _)
  obtain ⟨r1, r2⟩ := rw_sets hR off (List.replicate (n * 2) (.int .u64 0)) (by simpa using hc)
  refine wpList_plain hgd fun K hK => ?_
  unfold Oper.wp execOp
  simp only [ho, resolve, invoke, builtin, Sem.run_bind, Sem.run_pure, Result.andThen_ok, List.map_toArray, List.map_cons, List.map_nil, hs, hrun]
  exact hK _ _ (h _ r1 r2)
theorem splice_take (cur : List Value) (off k : Nat) (cs : List Value) (h : k ≤ off) (hl : off ≤ cur.length) : (splice cur off cs).take k = cur.take k := by
  unfold splice
  rw [List.take_append_of_le_length (by rw [List.length_take]; omega), List.take_take, Nat.min_eq_left h]
theorem splice_to (cur : List Value) (off : Nat) (cs : List Value) (hl : off + cs.length ≤ cur.length) : (splice cur off cs).take (off + cs.length) = cur.take off ++ cs := by
  unfold splice
  rw [← List.append_assoc]
  exact List.take_left' (by simp; omega)
theorem splice_len (cur : List Value) (off : Nat) (cs : List Value) (hl : off + cs.length ≤ cur.length) : (splice cur off cs).length = cur.length := by
  unfold splice
  simp
  omega
/-- a row's cells read as its ranges -/
theorem row_at {w : World} {gl n : Nat} {cur : List Value} {l : RL} (hR : Rw w gl 39 cur) (ht : cur.take (n * 2) = rvs l) (j t : Nat) (u : Value) (hu : (rvs (l.drop j))[t]? = some u) : w.cell? ⟨gl, j * 2 + t, none⟩ = some u := by
  refine hR.cell _ _ ?_
  rw [← rvs_drop, List.getElem?_drop, ← ht, List.getElem?_take] at hu
  split at hu
  · exact hu
  · cases hu
set_option maxHeartbeats 2000000 in
theorem delete_any (gl n c B i j : Nat) (l : RL) (w : World) (h : OwnR w B (.slice (some ⟨gl, 0, none⟩) n c) n l) (hj : j = i + 1) (hi : i < n) (hn : n ≤ 1000) :
    Calls Try.prog 27 #[.slice (some ⟨gl, 0, none⟩) n c, .int .i64 (i : Int), .int .i64 (j : Int)] w fun e w' => e = .returned (.slice (some ⟨gl, 0, none⟩) (n - 1) c) ∧ OwnR w' B (.slice (some ⟨gl, 0, none⟩) (n - 1) c) (n - 1) (l.eraseIdx i) ∧ Only gl w w' := by
  obtain ⟨p, hp⟩ : ∃ p, n = p + 1 := ⟨n - 1, by omega⟩
  have hl := h.len
  obtain ⟨cur, hR, hB, hc, hnc, hm, ht⟩ := ownR_cur h
  have i1 : (i : Int) ≤ (j : Int) := by omega
  have i2 : (j : Int) ≤ (n : Int) := by omega
  have i3 : (n : Int) ≤ (c : Int) := by omega
  have i4 : (i : Int) ≤ (c : Int) := by omega
  have i5 : (j : Int) ≤ (c : Int) := by omega
  have i6 : ¬ ((i : Int) = (j : Int)) := by omega
  have i7 : i ≤ c := by omega
  have HR := Lib.hid hR
  have HJ := Lib.hid hj
  have HP := Lib.hid hp
  clear hj hp h hR
  go_enter Try.func27, Try.ntmps27
  go_wp2_with fail
  have hcA : ∀ u, (Instr.slice 31 (.slice (some ⟨gl, 0, none⟩) n c) none (some (.int .i64 (i : Int))) none).run Try.prog u = .ok (.slice (some ⟨gl, 0, none⟩) i c) u := fun u => run_cutR u _ (fun a ha => by cases ha; rfl) n c i i7
  obtain ⟨o2, ho2⟩ : ∃ o2, (if c = j then 0 else 0 + j * 2) = o2 := ⟨_, rfl⟩
  have hcB : ∀ u, (Instr.slice 31 (.slice (some ⟨gl, 0, none⟩) n c) (some (.int .i64 (j : Int))) none none).run Try.prog u = .ok (.slice (some ⟨gl, o2, none⟩) (n - j) (c - j)) u := fun u => by
    rw [← ho2]; exact run_cutR_from u gl 0 n c j (by omega) hnc
  have hcC : ∀ u, (Instr.slice 31 (.slice (some ⟨gl, 0, none⟩) p c) (some (.int .i64 (p : Int))) (some (.int .i64 (n : Int))) none).run Try.prog u = .ok (.slice (some ⟨gl, p * 2, none⟩) 1 (c - p)) u := fun u => by
    have h1 := run_cutR_mid u gl 0 p c p n (by have := HP.out; omega) hnc
    rw [if_neg (by have := HP.out; omega), show n - p = 1 by have := HP.out; omega, Nat.zero_add] at h1
    exact h1
  have hsrc : ∀ t u, (rvs (l.drop j))[t]? = some u → w.drew.cell? ((⟨gl, o2, none⟩ : Addr).add t) = some u := fun t u hu => by
    rw [addr_at, ← ho2]
    by_cases e : c = j
    · have h0 : l.drop j = [] := List.drop_of_length_le (by omega)
      rw [h0] at hu
      simp [rvs] at hu
    · rw [if_neg e, Nat.zero_add]
      exact row_at HR.out.drew ht j t u hu
  have HC := Lib.hid hc
  have HT := Lib.hid ht
  have HLN := Lib.hid hl
  have hlen : (rvs (l.drop j)).length = (n - j) * 2 := by rw [rvs_length, List.length_drop, hl]
  have hfit1 : i * 2 + (rvs (l.drop j)).length ≤ cur.length := by rw [hlen, hc]; have := HJ.out; omega
  have hk : i + (n - j) = p := by have := HJ.out; have := HP.out; omega
  have HK := Lib.hid hk
  have HLEN := Lib.hid hlen
  have HFIT := Lib.hid hfit1
  have HSRC := Lib.hid hsrc
  have HO2 := Lib.hid ho2
  clear hlen hfit1 hsrc hc ht hl hk ho2
  refine wp_tail 6 (by kernel_rfl) (by kernel_rfl) ?_
  simp only [List.take_succ_cons, List.take_zero, List.drop_succ_cons, List.drop_zero]
  repeat still_step
  refine wpStill_nil ?_
  go_wp2_with (first
    | ((with_reducible refine wpList_append_roomR rfl (.tmp 22) (.tmp 25) rfl gl i c p ?hx ⟨gl, o2, none⟩ (n - j) (c - j) ?hy HK.out cur HR.out.drew HC.out (rvs (l.drop j)) HLEN.out HSRC.out (rvs_one _) ?hr ?_); (case hx => with_unfolding_all rfl); (case hy => with_unfolding_all rfl); (case hr => have := HP.out; omega); intro w2 R2 O2)
    | ((with_reducible refine wpList_clearR rfl (.tmp 31) rfl gl (p * 2) 1 (c - p) ?hx (by omega) (splice cur (i * 2) (rvs (l.drop j))) R2.out ?hr ?_); (case hx => with_unfolding_all rfl); (case hr => rw [splice_len _ _ _ HFIT.out, HC.out]; have := HP.out; omega); intro w3 R3 O3))
  go_ret
  have hp := HP.out
  have hj := HJ.out
  have e1 : n - 1 = p := by omega
  rw [e1]
  refine ⟨rfl, ownR_row R3.out hB ?_ (by omega) hm ?_ ?_, ((Only.refl gl w).drew.trans O2.out).trans O3.out⟩
  · have e2 := splice_len cur (i * 2) (rvs (l.drop j)) HFIT.out
    rw [splice_len _ _ _ (by rw [e2, HC.out]; simp; omega), e2, HC.out]
  · rw [List.length_eraseIdx_of_lt (by have := HLN.out; omega), HLN.out]; exact e1
  · have e2 := splice_len cur (i * 2) (rvs (l.drop j)) HFIT.out
    rw [splice_take _ _ _ _ (Nat.le_refl _) (by rw [e2, HC.out]; omega)]
    have e3 := splice_to cur (i * 2) (rvs (l.drop j)) HFIT.out
    rw [show i * 2 + (rvs (l.drop j)).length = p * 2 by rw [HLEN.out]; omega] at e3
    rw [e3, List.eraseIdx_eq_take_drop_succ, rvs_append, ← rvs_take l i, ← HT.out, List.take_take, Nat.min_eq_left (by omega), hj]
end Go.Proofs.Ytjbhhmjkdhkhaaa
