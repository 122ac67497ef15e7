/-
  DERIVED. GIVEN WITH THE SEED: THE CARDS: each row of YtkodjajhlcbmkaaDoorRows.lean that lists a variable, with what it lists TIED to the program's text (the seventh form; the later family's looks); each row that meets fmt, with fmt's text TOLD by the authors' own Lean function (tested against real Go, not proved from fmt's source: count such statements apart). THE CARD IS WHAT COUNTS. Prove the row's statement (the work); the ties are given (YtkodjajhlcbmkaaDoorTie.lean); close each card by the builder's one call (the guide's Derived/Test/ToyasCard.lean, 'card_holds'). Laid BY PROGRAM, IN A SANDBOX (cutbox-door.mjs). By AI agents, Wed Nov 11 2026. No macro, syntax, notation, axiom, sorry.
-/
import Derived.Test.YtkodjajhlcbmkaaDoorRows
import GoSem.ClaimSeven
namespace Go.Proofs.YtkodjajhlcbmkaaDoor
namespace Rows

/-- THE TIED CARD OF 'mantillalaw11.OutgoScript'. -/
def outgoScriptCard : Claim7 := { stood := { row := outgoScriptRow, standIns := [], harness := (true, "60d29d15fd1f7f9aa0c0dac7ab9abba3f00c7d9a92c461829dc6837360b5efa0"), looks := false }, kinds := [], alts := [], laidByText := true, laidKinds := [.data], laidTests := true, laidLooks := .later }
def OutgoScriptCardSaid : Prop := Claim7.holds Tryd.pinned (.plain (OpenSpec.ofChange outgoScriptSpec)) outgoScriptCard

/-- THE TIED CARD OF 'mantillalaw11.OutgoArrives'. -/
def outgoArrivesCard : Claim7 := { stood := { row := outgoArrivesRow, standIns := [], harness := (true, "60d29d15fd1f7f9aa0c0dac7ab9abba3f00c7d9a92c461829dc6837360b5efa0"), looks := false }, kinds := [], alts := [], laidByText := true, laidKinds := [.data], laidTests := true, laidLooks := .later }
def OutgoArrivesCardSaid : Prop := Claim7.holds Tryd.pinned (.plain (OpenSpec.ofChange outgoArrivesSpec)) outgoArrivesCard

/-- THE TIED CARD OF 'mantillalaw11.OutgoOrder'. -/
def outgoOrderCard : Claim7 := { stood := { row := outgoOrderRow, standIns := [], harness := (true, "60d29d15fd1f7f9aa0c0dac7ab9abba3f00c7d9a92c461829dc6837360b5efa0"), looks := false }, kinds := [], alts := [], laidByText := true, laidKinds := [.data], laidTests := true, laidLooks := .later }
def OutgoOrderCardSaid : Prop := Claim7.holds Tryd.pinned (.plain (OpenSpec.ofChange outgoOrderSpec)) outgoOrderCard

/-- THE TIED CARD OF 'mantillalaw11.OutgoPieces'. -/
def outgoPiecesCard : Claim7 := { stood := { row := outgoPiecesRow, standIns := [], harness := (true, "60d29d15fd1f7f9aa0c0dac7ab9abba3f00c7d9a92c461829dc6837360b5efa0"), looks := false }, kinds := [], alts := [], laidByText := true, laidKinds := [.data], laidTests := true, laidLooks := .later }
def OutgoPiecesCardSaid : Prop := Claim7.holds Tryd.pinned (.plain (OpenSpec.ofChange outgoPiecesSpec)) outgoPiecesCard

/-- THE TIED CARD OF 'mantillalaw11.OutgoAllows'. -/
def outgoAllowsCard : Claim7 := { stood := { row := outgoAllowsRow, standIns := [], harness := (true, "60d29d15fd1f7f9aa0c0dac7ab9abba3f00c7d9a92c461829dc6837360b5efa0"), looks := false }, kinds := [], alts := [], laidByText := true, laidKinds := [.data], laidTests := true, laidLooks := .later }
def OutgoAllowsCardSaid : Prop := Claim7.holds Tryd.pinned (.plain (OpenSpec.ofChange outgoAllowsSpec)) outgoAllowsCard

/-- THE SECOND FORM's CARD OF 'mantillalaw11.OutgoScript'. -/
def outgoScriptUptoCard : Claim7 := { stood := { row := outgoScriptUptoRow, standIns := [], harness := (true, "60d29d15fd1f7f9aa0c0dac7ab9abba3f00c7d9a92c461829dc6837360b5efa0"), looks := false }, kinds := [], alts := [], laidByText := true, laidKinds := [.data], laidTests := true, laidLooks := .later }
def OutgoScriptUptoCardSaid : Prop := Claim7.holds Tryd.pinned (.plain (OpenSpec.upto outgoScriptSpec)) outgoScriptUptoCard

/-- THE SECOND FORM's CARD OF 'mantillalaw11.OutgoArrives'. -/
def outgoArrivesUptoCard : Claim7 := { stood := { row := outgoArrivesUptoRow, standIns := [], harness := (true, "60d29d15fd1f7f9aa0c0dac7ab9abba3f00c7d9a92c461829dc6837360b5efa0"), looks := false }, kinds := [], alts := [], laidByText := true, laidKinds := [.data], laidTests := true, laidLooks := .later }
def OutgoArrivesUptoCardSaid : Prop := Claim7.holds Tryd.pinned (.plain (OpenSpec.upto outgoArrivesSpec)) outgoArrivesUptoCard

/-- THE SECOND FORM's CARD OF 'mantillalaw11.OutgoOrder'. -/
def outgoOrderUptoCard : Claim7 := { stood := { row := outgoOrderUptoRow, standIns := [], harness := (true, "60d29d15fd1f7f9aa0c0dac7ab9abba3f00c7d9a92c461829dc6837360b5efa0"), looks := false }, kinds := [], alts := [], laidByText := true, laidKinds := [.data], laidTests := true, laidLooks := .later }
def OutgoOrderUptoCardSaid : Prop := Claim7.holds Tryd.pinned (.plain (OpenSpec.upto outgoOrderSpec)) outgoOrderUptoCard

/-- THE SECOND FORM's CARD OF 'mantillalaw11.OutgoPieces'. -/
def outgoPiecesUptoCard : Claim7 := { stood := { row := outgoPiecesUptoRow, standIns := [], harness := (true, "60d29d15fd1f7f9aa0c0dac7ab9abba3f00c7d9a92c461829dc6837360b5efa0"), looks := false }, kinds := [], alts := [], laidByText := true, laidKinds := [.data], laidTests := true, laidLooks := .later }
def OutgoPiecesUptoCardSaid : Prop := Claim7.holds Tryd.pinned (.plain (OpenSpec.upto outgoPiecesSpec)) outgoPiecesUptoCard

/-- THE SECOND FORM's CARD OF 'mantillalaw11.OutgoAllows'. -/
def outgoAllowsUptoCard : Claim7 := { stood := { row := outgoAllowsUptoRow, standIns := [], harness := (true, "60d29d15fd1f7f9aa0c0dac7ab9abba3f00c7d9a92c461829dc6837360b5efa0"), looks := false }, kinds := [], alts := [], laidByText := true, laidKinds := [.data], laidTests := true, laidLooks := .later }
def OutgoAllowsUptoCardSaid : Prop := Claim7.holds Tryd.pinned (.plain (OpenSpec.upto outgoAllowsSpec)) outgoAllowsUptoCard
end Rows
end Go.Proofs.YtkodjajhlcbmkaaDoor
