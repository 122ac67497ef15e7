/-
  DERIVED. GIVEN WITH THE SEED: THE CARDS: each row of YtocolaccgoochaaDoorRows.lean that lists a variable, with what it lists TIED to the program's text (the seventh form; the later family's looks); each row that meets fmt, with fmt's text TOLD by the authors' own Lean function (tested against real Go, not proved from fmt's source: count such statements apart). THE CARD IS WHAT COUNTS. Prove the row's statement (the work); the ties are given (YtocolaccgoochaaDoorTie.lean); close each card by the builder's one call (the guide's Derived/Test/ToyasCard.lean, 'card_holds'). Laid BY PROGRAM, IN A SANDBOX (cutbox-door.mjs). By AI agents, Wed Nov 11 2026. No macro, syntax, notation, axiom, sorry.
-/
import Derived.Test.YtocolaccgoochaaDoorRows
import GoSem.ClaimSeven
namespace Go.Proofs.YtocolaccgoochaaDoor
namespace Rows

/-- THE TIED CARD OF 'mantillalaw12.IncomeScript'. -/
def incomeScriptCard : Claim7 := { stood := { row := incomeScriptRow, standIns := [], harness := (true, "7cf92f29014ef9ba1255ec8347b01cbb5294c753e70c93c0948125a87e44a802"), looks := false }, kinds := [], alts := [], laidByText := true, laidKinds := [.data], laidTests := true, laidLooks := .later }
def IncomeScriptCardSaid : Prop := Claim7.holds Tryd.pinned (.plain (OpenSpec.ofChange incomeScriptSpec)) incomeScriptCard

/-- THE TIED CARD OF 'mantillalaw12.IncomeAny'. -/
def incomeAnyCard : Claim7 := { stood := { row := incomeAnyRow, standIns := [], harness := (true, "7cf92f29014ef9ba1255ec8347b01cbb5294c753e70c93c0948125a87e44a802"), looks := false }, kinds := [], alts := [], laidByText := true, laidKinds := [.data], laidTests := true, laidLooks := .later }
def IncomeAnyCardSaid : Prop := Claim7.holds Tryd.pinned (.plain (OpenSpec.ofChange incomeAnySpec)) incomeAnyCard

/-- THE TIED CARD OF 'mantillalaw12.IncomeGaps'. -/
def incomeGapsCard : Claim7 := { stood := { row := incomeGapsRow, standIns := [], harness := (true, "7cf92f29014ef9ba1255ec8347b01cbb5294c753e70c93c0948125a87e44a802"), looks := false }, kinds := [], alts := [], laidByText := true, laidKinds := [.data], laidTests := true, laidLooks := .later }
def IncomeGapsCardSaid : Prop := Claim7.holds Tryd.pinned (.plain (OpenSpec.ofChange incomeGapsSpec)) incomeGapsCard

/-- THE TIED CARD OF 'mantillalaw12.IncomeTurned'. -/
def incomeTurnedCard : Claim7 := { stood := { row := incomeTurnedRow, standIns := [], harness := (true, "7cf92f29014ef9ba1255ec8347b01cbb5294c753e70c93c0948125a87e44a802"), looks := false }, kinds := [], alts := [], laidByText := true, laidKinds := [.data], laidTests := true, laidLooks := .later }
def IncomeTurnedCardSaid : Prop := Claim7.holds Tryd.pinned (.plain (OpenSpec.ofChange incomeTurnedSpec)) incomeTurnedCard

/-- THE TIED CARD OF 'mantillalaw12.IncomeTurns2'. -/
def incomeTurns2Card : Claim7 := { stood := { row := incomeTurns2Row, standIns := [], harness := (true, "7cf92f29014ef9ba1255ec8347b01cbb5294c753e70c93c0948125a87e44a802"), looks := false }, kinds := [], alts := [], laidByText := true, laidKinds := [.data], laidTests := true, laidLooks := .later }
def IncomeTurns2CardSaid : Prop := Claim7.holds Tryd.pinned (.plain (OpenSpec.ofChange incomeTurns2Spec)) incomeTurns2Card

/-- THE SECOND FORM's CARD OF 'mantillalaw12.IncomeScript'. -/
def incomeScriptUptoCard : Claim7 := { stood := { row := incomeScriptUptoRow, standIns := [], harness := (true, "7cf92f29014ef9ba1255ec8347b01cbb5294c753e70c93c0948125a87e44a802"), looks := false }, kinds := [], alts := [], laidByText := true, laidKinds := [.data], laidTests := true, laidLooks := .later }
def IncomeScriptUptoCardSaid : Prop := Claim7.holds Tryd.pinned (.plain (OpenSpec.upto incomeScriptSpec)) incomeScriptUptoCard

/-- THE SECOND FORM's CARD OF 'mantillalaw12.IncomeAny'. -/
def incomeAnyUptoCard : Claim7 := { stood := { row := incomeAnyUptoRow, standIns := [], harness := (true, "7cf92f29014ef9ba1255ec8347b01cbb5294c753e70c93c0948125a87e44a802"), looks := false }, kinds := [], alts := [], laidByText := true, laidKinds := [.data], laidTests := true, laidLooks := .later }
def IncomeAnyUptoCardSaid : Prop := Claim7.holds Tryd.pinned (.plain (OpenSpec.upto incomeAnySpec)) incomeAnyUptoCard

/-- THE SECOND FORM's CARD OF 'mantillalaw12.IncomeGaps'. -/
def incomeGapsUptoCard : Claim7 := { stood := { row := incomeGapsUptoRow, standIns := [], harness := (true, "7cf92f29014ef9ba1255ec8347b01cbb5294c753e70c93c0948125a87e44a802"), looks := false }, kinds := [], alts := [], laidByText := true, laidKinds := [.data], laidTests := true, laidLooks := .later }
def IncomeGapsUptoCardSaid : Prop := Claim7.holds Tryd.pinned (.plain (OpenSpec.upto incomeGapsSpec)) incomeGapsUptoCard

/-- THE SECOND FORM's CARD OF 'mantillalaw12.IncomeTurned'. -/
def incomeTurnedUptoCard : Claim7 := { stood := { row := incomeTurnedUptoRow, standIns := [], harness := (true, "7cf92f29014ef9ba1255ec8347b01cbb5294c753e70c93c0948125a87e44a802"), looks := false }, kinds := [], alts := [], laidByText := true, laidKinds := [.data], laidTests := true, laidLooks := .later }
def IncomeTurnedUptoCardSaid : Prop := Claim7.holds Tryd.pinned (.plain (OpenSpec.upto incomeTurnedSpec)) incomeTurnedUptoCard

/-- THE SECOND FORM's CARD OF 'mantillalaw12.IncomeTurns2'. -/
def incomeTurns2UptoCard : Claim7 := { stood := { row := incomeTurns2UptoRow, standIns := [], harness := (true, "7cf92f29014ef9ba1255ec8347b01cbb5294c753e70c93c0948125a87e44a802"), looks := false }, kinds := [], alts := [], laidByText := true, laidKinds := [.data], laidTests := true, laidLooks := .later }
def IncomeTurns2UptoCardSaid : Prop := Claim7.holds Tryd.pinned (.plain (OpenSpec.upto incomeTurns2Spec)) incomeTurns2UptoCard
end Rows
end Go.Proofs.YtocolaccgoochaaDoor
