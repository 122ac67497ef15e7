/-
  DERIVED. GIVEN WITH THE SEED: THE CARDS: each row of YtnjdloocalfkmaaDoorRows.lean that lists a variable, with what it lists TIED to the program's text (the seventh form; the later family's looks); each row that meets fmt, with fmt's text TOLD by the authors' own Lean function (tested against real Go, not proved from fmt's source: count such statements apart). THE CARD IS WHAT COUNTS. Prove the row's statement (the work); the ties are given (YtnjdloocalfkmaaDoorTie.lean); close each card by the builder's one call (the guide's Derived/Test/ToyasCard.lean, 'card_holds'). Laid BY PROGRAM, IN A SANDBOX (cutbox-door.mjs). By AI agents, Wed Nov 11 2026. No macro, syntax, notation, axiom, sorry.
-/
import Derived.Test.YtnjdloocalfkmaaDoorRows
import GoSem.ClaimSeven
namespace Go.Proofs.YtnjdloocalfkmaaDoor
namespace Rows

/-- THE TIED CARD OF 'mantillalaw3.HkdfTells'. -/
def hkdfTellsCard : Claim7 := { stood := { row := hkdfTellsRow, standIns := [], harness := (true, "22ac4ab8ddff422a564653556456a16af91602ecb3219ffaff16c44af00ff66e"), looks := false }, kinds := [], alts := [], laidByText := true, laidKinds := [.data, .data], laidTests := true, laidLooks := .later }
def HkdfTellsCardSaid : Prop := Claim7.holds Tryd.pinned (.plain (OpenSpec.ofChange hkdfTellsSpec)) hkdfTellsCard

/-- THE TIED CARD OF 'mantillalaw3.HkdfGrows'. -/
def hkdfGrowsCard : Claim7 := { stood := { row := hkdfGrowsRow, standIns := [], harness := (true, "22ac4ab8ddff422a564653556456a16af91602ecb3219ffaff16c44af00ff66e"), looks := false }, kinds := [], alts := [], laidByText := true, laidKinds := [.data, .data], laidTests := true, laidLooks := .later }
def HkdfGrowsCardSaid : Prop := Claim7.holds Tryd.pinned (.plain (OpenSpec.ofChange hkdfGrowsSpec)) hkdfGrowsCard

/-- THE TIED CARD OF 'mantillalaw3.HkdfParts'. -/
def hkdfPartsCard : Claim7 := { stood := { row := hkdfPartsRow, standIns := [], harness := (true, "22ac4ab8ddff422a564653556456a16af91602ecb3219ffaff16c44af00ff66e"), looks := false }, kinds := [], alts := [], laidByText := true, laidKinds := [.data, .data], laidTests := true, laidLooks := .later }
def HkdfPartsCardSaid : Prop := Claim7.holds Tryd.pinned (.plain (OpenSpec.ofChange hkdfPartsSpec)) hkdfPartsCard

/-- THE TIED CARD OF 'mantillalaw3.HkdfKeys'. -/
def hkdfKeysCard : Claim7 := { stood := { row := hkdfKeysRow, standIns := [], harness := (true, "22ac4ab8ddff422a564653556456a16af91602ecb3219ffaff16c44af00ff66e"), looks := false }, kinds := [], alts := [], laidByText := true, laidKinds := [.data, .data], laidTests := true, laidLooks := .later }
def HkdfKeysCardSaid : Prop := Claim7.holds Tryd.pinned (.plain (OpenSpec.ofChange hkdfKeysSpec)) hkdfKeysCard

/-- THE TIED CARD OF 'mantillalaw3.HkdfInfos'. -/
def hkdfInfosCard : Claim7 := { stood := { row := hkdfInfosRow, standIns := [], harness := (true, "22ac4ab8ddff422a564653556456a16af91602ecb3219ffaff16c44af00ff66e"), looks := false }, kinds := [], alts := [], laidByText := true, laidKinds := [.data, .data], laidTests := true, laidLooks := .later }
def HkdfInfosCardSaid : Prop := Claim7.holds Tryd.pinned (.plain (OpenSpec.ofChange hkdfInfosSpec)) hkdfInfosCard

/-- THE SECOND FORM's CARD OF 'mantillalaw3.HkdfTells'. -/
def hkdfTellsUptoCard : Claim7 := { stood := { row := hkdfTellsUptoRow, standIns := [], harness := (true, "22ac4ab8ddff422a564653556456a16af91602ecb3219ffaff16c44af00ff66e"), looks := false }, kinds := [], alts := [], laidByText := true, laidKinds := [.data, .data], laidTests := true, laidLooks := .later }
def HkdfTellsUptoCardSaid : Prop := Claim7.holds Tryd.pinned (.plain (OpenSpec.upto hkdfTellsSpec)) hkdfTellsUptoCard

/-- THE SECOND FORM's CARD OF 'mantillalaw3.HkdfGrows'. -/
def hkdfGrowsUptoCard : Claim7 := { stood := { row := hkdfGrowsUptoRow, standIns := [], harness := (true, "22ac4ab8ddff422a564653556456a16af91602ecb3219ffaff16c44af00ff66e"), looks := false }, kinds := [], alts := [], laidByText := true, laidKinds := [.data, .data], laidTests := true, laidLooks := .later }
def HkdfGrowsUptoCardSaid : Prop := Claim7.holds Tryd.pinned (.plain (OpenSpec.upto hkdfGrowsSpec)) hkdfGrowsUptoCard

/-- THE SECOND FORM's CARD OF 'mantillalaw3.HkdfParts'. -/
def hkdfPartsUptoCard : Claim7 := { stood := { row := hkdfPartsUptoRow, standIns := [], harness := (true, "22ac4ab8ddff422a564653556456a16af91602ecb3219ffaff16c44af00ff66e"), looks := false }, kinds := [], alts := [], laidByText := true, laidKinds := [.data, .data], laidTests := true, laidLooks := .later }
def HkdfPartsUptoCardSaid : Prop := Claim7.holds Tryd.pinned (.plain (OpenSpec.upto hkdfPartsSpec)) hkdfPartsUptoCard

/-- THE SECOND FORM's CARD OF 'mantillalaw3.HkdfKeys'. -/
def hkdfKeysUptoCard : Claim7 := { stood := { row := hkdfKeysUptoRow, standIns := [], harness := (true, "22ac4ab8ddff422a564653556456a16af91602ecb3219ffaff16c44af00ff66e"), looks := false }, kinds := [], alts := [], laidByText := true, laidKinds := [.data, .data], laidTests := true, laidLooks := .later }
def HkdfKeysUptoCardSaid : Prop := Claim7.holds Tryd.pinned (.plain (OpenSpec.upto hkdfKeysSpec)) hkdfKeysUptoCard

/-- THE SECOND FORM's CARD OF 'mantillalaw3.HkdfInfos'. -/
def hkdfInfosUptoCard : Claim7 := { stood := { row := hkdfInfosUptoRow, standIns := [], harness := (true, "22ac4ab8ddff422a564653556456a16af91602ecb3219ffaff16c44af00ff66e"), looks := false }, kinds := [], alts := [], laidByText := true, laidKinds := [.data, .data], laidTests := true, laidLooks := .later }
def HkdfInfosUptoCardSaid : Prop := Claim7.holds Tryd.pinned (.plain (OpenSpec.upto hkdfInfosSpec)) hkdfInfosUptoCard
end Rows
end Go.Proofs.YtnjdloocalfkmaaDoor
