/-
  What the laws share beside Words: the value of an integer slot, Low, Copied, a copy into a row just made.
-/
import Derived.Test.YtocolaccgoochaaDoorWords
import Derived.Test.YtocolaccgoochaaDoorLow
import Derived.Laws.CopyOwn
import Derived.Laws.MakeOwn
namespace Go.Proofs.YtocolaccgoochaaDoor
open Go.RowKit
set_option linter.unusedVariables false

/-- a slice from byte k on -/
theorem run_cut_bytes (u : World) (A : Option Addr) (n c k : Nat) (hk : k ≤ n) (hc : n ≤ c) :
    (Instr.slice 30 (.slice A n c) (some (.int .i64 (k : Int))) none none).run Tryd.prog u = .ok (.slice (if c = k then A else A.map (·.add k)) (n - k) (c - k)) u := by
  obtain ⟨i, hi, hz0, hz1, hz2⟩ := info_parts byte_info
  have he : Tryd.prog.elem 30 = 5 := by simp [Program.elem, Tryd.underlying30]
  have h := run_slice_l (P := Tryd.prog) u 30 A n c (by rw [he]; exact Tryd.underlying30) .i64 (k : Int) (by omega) (by omega)
  rw [h, he]
  simp [sizeOf, typeInfo, hi, hz1, sliced]
/-- a slice from byte lo to byte hi -/
theorem run_cut2 (u : World) (A : Option Addr) (n c lo hi : Nat) (h1 : lo ≤ hi) (h2 : hi ≤ c) :
    (Instr.slice 30 (.slice A n c) (some (.int .i64 (lo : Int))) (some (.int .i64 (hi : Int))) none).run Tryd.prog u = .ok (.slice (if c = lo then A else A.map (·.add lo)) (hi - lo) (c - lo)) u := by
  obtain ⟨i, hi', hz0, hz1, hz2⟩ := info_parts byte_info
  have he : Tryd.prog.elem 30 = 5 := by simp [Program.elem, Tryd.underlying30]
  have h := run_slice_lh (P := Tryd.prog) u 30 A n c (by rw [he]; exact Tryd.underlying30) .i64 .i64 (lo : Int) (hi : Int) (by omega) (by omega) (by omega)
  rw [h, he]
  simp [sizeOf, typeInfo, hi', hz1, sliced]
/-- the first hi bytes of a slice -/
theorem run_cut_to (u : World) (A : Option Addr) (n c hi : Nat) (h2 : hi ≤ c) :
    (Instr.slice 30 (.slice A n c) none (some (.int .i64 (hi : Int))) none).run Tryd.prog u = .ok (.slice (if c = 0 then A else A.map (·.add 0)) hi c) u := by
  obtain ⟨i, hi', hz0, hz1, hz2⟩ := info_parts byte_info
  have he : Tryd.prog.elem 30 = 5 := by simp [Program.elem, Tryd.underlying30]
  have h := run_slice_h (P := Tryd.prog) u 30 A n c (by rw [he]; exact Tryd.underlying30) .i64 (hi : Int) (by omega) (by omega)
  rw [h, he]
  simp [sizeOf, typeInfo, hi', hz1, sliced]
/-- 'copy' into a row that the call has just made, as long as what is copied, in the walk: behind it 'intro w1 ho hb' -/
theorem wpList_copy_made {w : World} {ops : Array Oper} {rest : List Oper} {o : Oper} {a : Act} {Q : Exit → Act → World → Prop} (hgd : o.guard = none) (d s : Operand)
    (ho : o.op = .call { callee := .builtin .copy, args := #[d, s], argTypes := #[30, 30] })
    (g n cap : Nat) (hd : a.eval d = .slice (some ⟨g, 0, none⟩) n cap) (A : Option Addr) (c B : Nat) (l : List UInt8) (hs : a.eval s = .slice A n c) (hr : Sl w B A n l)
    (cur : Array Value) (hg : w.heap[g]? = some (.cells cur 5 (0, 0))) (hcur : cur.size = cap) (hnc : n ≤ cap) (hm : cap ≤ maxLen) (base : Nat) (hbase : base ≤ g) (w0 : World) (hb : Below base w0 w)
    (h : ∀ w', Own w' base (.slice (some ⟨g, 0, none⟩) n cap) n l → Below base w0 w' → wpList Tryd.prog ops Q rest (a.put o.dst (goInt n)) w') :
    wpList Tryd.prog ops Q (o :: rest) a w := by
  have hl := hr.1
  refine wpList_copy_splice (P := Tryd.prog) hgd d s 30 30 ho 5 Tryd.underlying30 (by kernel_rfl) _ A n cap n c hd hs g 0 cur.toList 5 (by simpa using hg) (bvs l)
    (by rw [bvs_length, hl]; exact (Nat.min_self n).symm) ?_ (by rw [bvs_length]; simp; omega) (bvs_one l) base w0 hb hbase ?_
  · intro h0
    rw [bvs_length] at h0
    obtain ⟨b, off, rfl, _, hc⟩ := hr.2 (by omega)
    refine ⟨rfl, _, rfl, fun j u hu => ?_⟩
    have hj : j < l.length := by
      have := (List.getElem?_eq_some_iff.1 hu).1
      rwa [bvs_length] at this
    have hadd : (⟨b, off, none⟩ : Addr).add j = ⟨b, off + j, none⟩ := by unfold Addr.add; split <;> simp_all
    rw [hadd, hc j hj, ← hu]
    simp [bvs, hj]
  · intro w' hh hb'
    have hlen : (bvs l).length = n := by rw [bvs_length]; exact hl
    rw [hlen]
    refine h w' ⟨by rw [hlen]; omega, .inr ⟨g, cap, _, rfl, hbase, hh.out, hnc, hm, ?_, ?_⟩⟩ hb'
    · rw [List.size_toArray, length_splice _ _ _ (by rw [hlen]; simp; omega)]
      simp [hcur]
    · simp only [splice, List.take_zero, List.nil_append, Nat.mul_one]
      exact List.take_left' hlen

end Go.Proofs.YtocolaccgoochaaDoor
