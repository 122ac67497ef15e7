/-
  Credit: how much may come. Pure.
-/
import Derived.Test.YtfkapjlindcdkaaInts
namespace Go.Proofs.Ytfkapjlindcdkaa
open Go.RowKit
set_option linter.unusedVariables false

/-- the window; the limit; what was taken; what was read -/
structure CrS where
  win : Int
  lim : Int
  used : Int
  seen : Int
def CrS.new (win : Int) : CrS := ⟨win, win, 0, 0⟩
structure CrS.Ok (s : CrS) : Prop where
  w1 : 1 ≤ s.win
  w2 : s.win ≤ 1048576
  l1 : s.win ≤ s.lim
  l2 : s.lim ≤ 1099511627776
  u1 : 0 ≤ s.used
  u2 : s.used ≤ s.lim
  s1 : 0 ≤ s.seen
  s2 : s.seen ≤ 549755813888
theorem CrS.new_ok {win : Int} (h1 : 1 ≤ win) (h2 : win ≤ 1048576) : (CrS.new win).Ok := by
  constructor <;> simp only [CrS.new] <;> omega
def takeB (s : CrS) (n : Int) : Bool := decide (0 ≤ n) && decide (n ≤ s.lim - s.used)
def takeS (s : CrS) (n : Int) : CrS := if takeB s n = true then { s with used := s.used + n } else s
def raiseB (s : CrS) (n : Int) : Bool := decide (s.lim < n) && decide (n ≤ 1099511627776)
def raiseS (s : CrS) (n : Int) : CrS := if raiseB s n = true then { s with lim := n } else s
def seenV (s : CrS) (t : Int) : Int := max s.seen (min t 549755813888)
def readB (s : CrS) (t : Int) : Bool := decide (s.lim < seenV s t + s.win) && decide (s.lim + s.win / 2 ≤ seenV s t + s.win)
def creadS (s : CrS) (t : Int) : CrS := ⟨s.win, if readB s t = true then seenV s t + s.win else s.lim, s.used, seenV s t⟩
theorem takeB_iff {s : CrS} {n : Int} : takeB s n = true ↔ 0 ≤ n ∧ n ≤ s.lim - s.used := by unfold takeB; simp
theorem raiseB_iff {s : CrS} {n : Int} : raiseB s n = true ↔ s.lim < n ∧ n ≤ 1099511627776 := by unfold raiseB; simp
theorem readB_iff {s : CrS} {t : Int} : readB s t = true ↔ s.lim < seenV s t + s.win ∧ s.lim + s.win / 2 ≤ seenV s t + s.win := by unfold readB; simp
theorem takeS_ok {s : CrS} (h : s.Ok) (n : Int) : (takeS s n).Ok := by
  unfold takeS
  split
  · rename_i hb
    have hb := takeB_iff.1 hb
    exact ⟨h.w1, h.w2, h.l1, h.l2, by have := h.u1; show 0 ≤ s.used + n; omega, by show s.used + n ≤ s.lim; omega, h.s1, h.s2⟩
  · exact h
theorem raiseS_ok {s : CrS} (h : s.Ok) (n : Int) : (raiseS s n).Ok := by
  unfold raiseS
  split
  · rename_i hb
    have hb := raiseB_iff.1 hb
    have h1 := h.l1
    have h2 := h.u2
    exact ⟨h.w1, h.w2, by show s.win ≤ n; omega, hb.2, h.u1, by show s.used ≤ n; omega, h.s1, h.s2⟩
  · exact h
theorem seen_bd {s : CrS} (h : s.Ok) (t : Int) : s.seen ≤ seenV s t ∧ 0 ≤ seenV s t ∧ seenV s t ≤ 549755813888 := by
  have h1 := h.s1
  have h2 := h.s2
  unfold seenV
  omega
theorem creadS_ok {s : CrS} (h : s.Ok) (t : Int) : (creadS s t).Ok := by
  have h1 := seen_bd h t
  have h2 := h.w1
  have h3 := h.w2
  have h4 := h.l1
  have h5 := h.u2
  refine ⟨h.w1, h.w2, ?_, ?_, h.u1, ?_, h1.2.1, h1.2.2⟩
  · show s.win ≤ if readB s t = true then seenV s t + s.win else s.lim
    split <;> omega
  · show (if readB s t = true then seenV s t + s.win else s.lim) ≤ 1099511627776
    have := h.l2
    split <;> omega
  · show s.used ≤ if readB s t = true then seenV s t + s.win else s.lim
    split
    · rename_i hb
      have := (readB_iff.1 hb).1
      omega
    · exact h5
/-- behind a Read less than half a window is missing -/
theorem cread_near {s : CrS} (h : s.Ok) (t : Int) : seenV s t + s.win - s.win / 2 ≤ (creadS s t).lim := by
  have h2 := h.w1
  show seenV s t + s.win - s.win / 2 ≤ if readB s t = true then seenV s t + s.win else s.lim
  split
  · omega
  · rename_i hb
    rw [readB_iff] at hb
    omega
/-- never more than a window ahead of what was read, if so it was -/
theorem cread_far {s : CrS} (h : s.Ok) (t : Int) (hl : s.lim ≤ s.seen + s.win) : (creadS s t).lim ≤ seenV s t + s.win := by
  have h1 := (seen_bd h t).1
  show (if readB s t = true then seenV s t + s.win else s.lim) ≤ seenV s t + s.win
  split <;> omega
theorem cread_lim {s : CrS} (h : s.Ok) (t : Int) : s.lim ≤ (creadS s t).lim ∧ (readB s t = true ↔ s.lim < (creadS s t).lim) := by
  show s.lim ≤ (if readB s t = true then seenV s t + s.win else s.lim) ∧ (readB s t = true ↔ s.lim < if readB s t = true then seenV s t + s.win else s.lim)
  by_cases hb : readB s t = true
  · have := readB_iff.1 hb
    rw [if_pos hb]
    exact ⟨by omega, fun _ => by omega, fun _ => hb⟩
  · rw [if_neg hb]
    exact ⟨Int.le_refl _, fun h => absurd h hb, fun h => absurd h (by omega)⟩
/-- a round of CreditFlows: sent and read, of total; the limit that both know -/
structure FlowOk (win total lim sent read : Int) : Prop where
  w1 : 1 ≤ win
  near : read + win - win / 2 ≤ lim
  far : lim ≤ read + win
  s1 : read ≤ sent
  s2 : sent ≤ lim
  s3 : sent ≤ total
  r0 : 0 ≤ read
/-- what is read grows -/
theorem flow_grows {win total lim sent read step n : Int} (h : FlowOk win total lim sent read) (hr : read < total) (hs : 1 ≤ step) (hn : n = min (lim - sent) (total - sent)) : 0 ≤ n ∧ read + 1 ≤ min (sent + n) (read + step) ∧ sent + n ≤ lim ∧ sent + n ≤ total ∧ sent + n - read ≤ win := by
  obtain ⟨h1, h2, h3, h4, h5, h6, h7⟩ := h
  subst hn
  omega
end Go.Proofs.Ytfkapjlindcdkaa
