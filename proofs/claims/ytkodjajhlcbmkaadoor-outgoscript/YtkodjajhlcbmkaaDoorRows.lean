/-
  NARROWER THAN 'FOR EVERY INPUT', by the rows' own cells (each row's printed sentence says how): OutgoScript: laid · OutgoArrives: laid · OutgoOrder: laid · OutgoPieces: laid · OutgoAllows: laid.
  DERIVED. THE GIVEN ROWS OF THIS SEAT. 5 by the template 'for every input the law returns true; each argument reads behind the call as it read before'; 0 by the template 'total and deterministic' (their statements: YtkodjajhlcbmkaaDoorTotals.lean).
  GIVEN WITH THE SEED: the statements are not yours to turn. If you find one false, say at which input.
  Laid BY PROGRAM, IN A SANDBOX (cutbox-rows.mjs): the forced cells as the released guide's own fill.sh prints them over the translation 9665a4947024846d… (all of the seat's roots in one cut). By AI agents, Wed Nov 11 2026. No macro, syntax, notation, axiom, sorry.
-/
import Derived.Test.YtkodjajhlcbmkaaDoorChecked
import GoSem.Claim
import GoSem.ClaimJoined
import GoSem.ClaimMapViews
import Derived.JoinedTies
import Derived.KernelRfl
namespace Go.Proofs.YtkodjajhlcbmkaaDoor
/- THE CELL 'sum', in the pinned program and in every row, IS THE sha256 OF THE DUMP (.gsa) THAT YtkodjajhlcbmkaaDoorProg.lean LOADS. Nothing in Lean hashes anything: it is a label: what it is worth is what the hold of that sum in a sandbox is worth. -/
noncomputable def Tryd.pinned : Pinned := { name := "ytkodjajhlcbmkaadoor", sum := "9665a4947024846d2ac5db001155705450ccee29385b8f29552ed172d9386f86", checked := Tryd.checked }
namespace Rows
def none {H : Type} : Left H := { results := [], args := [] }

/- WHAT THE LISTED PACKAGE-LEVEL VARIABLES READ AS WHEN THE CALL BEGINS. Each datum BY PROGRAM (the guide's laid-datum.mjs) off the statement by which the dump's own 'gosem.cut.vars' lays the variable. In a bare row this is a premise. The card (YtkodjajhlcbmkaaDoorCards.lean) ties it to the program's text. -/
def laid_math_bits_deBruijn64tab {H : Type} : DataW H := .agg [.lit (.int .u8 0), .lit (.int .u8 1), .lit (.int .u8 56), .lit (.int .u8 2), .lit (.int .u8 57), .lit (.int .u8 49), .lit (.int .u8 28), .lit (.int .u8 3), .lit (.int .u8 61), .lit (.int .u8 58), .lit (.int .u8 42), .lit (.int .u8 50), .lit (.int .u8 38), .lit (.int .u8 29), .lit (.int .u8 17), .lit (.int .u8 4), .lit (.int .u8 62), .lit (.int .u8 47), .lit (.int .u8 59), .lit (.int .u8 36), .lit (.int .u8 45), .lit (.int .u8 43), .lit (.int .u8 51), .lit (.int .u8 22), .lit (.int .u8 53), .lit (.int .u8 39), .lit (.int .u8 33), .lit (.int .u8 30), .lit (.int .u8 24), .lit (.int .u8 18), .lit (.int .u8 12), .lit (.int .u8 5), .lit (.int .u8 63), .lit (.int .u8 55), .lit (.int .u8 48), .lit (.int .u8 27), .lit (.int .u8 60), .lit (.int .u8 41), .lit (.int .u8 37), .lit (.int .u8 16), .lit (.int .u8 46), .lit (.int .u8 35), .lit (.int .u8 44), .lit (.int .u8 21), .lit (.int .u8 52), .lit (.int .u8 32), .lit (.int .u8 23), .lit (.int .u8 11), .lit (.int .u8 54), .lit (.int .u8 26), .lit (.int .u8 40), .lit (.int .u8 15), .lit (.int .u8 34), .lit (.int .u8 20), .lit (.int .u8 31), .lit (.int .u8 10), .lit (.int .u8 25), .lit (.int .u8 14), .lit (.int .u8 19), .lit (.int .u8 9), .lit (.int .u8 13), .lit (.int .u8 8), .lit (.int .u8 7), .lit (.int .u8 6)]

/-- 'mantillalaw11.OutgoScript': WHATEVER THE INPUT: true; the input reads as it did. -/
def outgoScriptSpec : ChangeSpec := { name := "outgoScript", fn := fun _ => fun
  | [d1, d2] => { results := [.lit (.bool true)], args := [d1, d2] }
  | _ => none }
def outgoScriptRow : OpenClaim := { program := "ytkodjajhlcbmkaadoor", sum := "9665a4947024846d2ac5db001155705450ccee29385b8f29552ed172d9386f86", func := "mantilla/mantillalaw11.OutgoScript", spec := "outgoScript", named := ["math/bits.deBruijn64tab"], apart := false, laid := [("math/bits.deBruijn64tab", laid_math_bits_deBruijn64tab)] }
def OutgoScriptSaid : Prop := outgoScriptRow.holds Tryd.pinned (OpenSpec.ofChange outgoScriptSpec)

/-- ITS FALSE NEIGHBOUR: 'it returns false'. Refute it at one input. -/
def outgoScriptWrong : ChangeSpec := { name := "outgoScript", fn := fun _ => fun
  | [d1, d2] => { results := [.lit (.bool false)], args := [d1, d2] }
  | _ => none }
def OutgoScriptWrongFalsely : Prop := outgoScriptRow.holds Tryd.pinned (OpenSpec.ofChange outgoScriptWrong)

/-- 'mantillalaw11.OutgoArrives': WHATEVER THE INPUT: true; the input reads as it did. -/
def outgoArrivesSpec : ChangeSpec := { name := "outgoArrives", fn := fun _ => fun
  | [d1, d2, d3] => { results := [.lit (.bool true)], args := [d1, d2, d3] }
  | _ => none }
def outgoArrivesRow : OpenClaim := { program := "ytkodjajhlcbmkaadoor", sum := "9665a4947024846d2ac5db001155705450ccee29385b8f29552ed172d9386f86", func := "mantilla/mantillalaw11.OutgoArrives", spec := "outgoArrives", named := ["math/bits.deBruijn64tab"], apart := false, laid := [("math/bits.deBruijn64tab", laid_math_bits_deBruijn64tab)] }
def OutgoArrivesSaid : Prop := outgoArrivesRow.holds Tryd.pinned (OpenSpec.ofChange outgoArrivesSpec)

/-- ITS FALSE NEIGHBOUR: 'it returns false'. Refute it at one input. -/
def outgoArrivesWrong : ChangeSpec := { name := "outgoArrives", fn := fun _ => fun
  | [d1, d2, d3] => { results := [.lit (.bool false)], args := [d1, d2, d3] }
  | _ => none }
def OutgoArrivesWrongFalsely : Prop := outgoArrivesRow.holds Tryd.pinned (OpenSpec.ofChange outgoArrivesWrong)

/-- 'mantillalaw11.OutgoOrder': WHATEVER THE INPUT: true; the input reads as it did. -/
def outgoOrderSpec : ChangeSpec := { name := "outgoOrder", fn := fun _ => fun
  | [d1, d2, d3, d4] => { results := [.lit (.bool true)], args := [d1, d2, d3, d4] }
  | _ => none }
def outgoOrderRow : OpenClaim := { program := "ytkodjajhlcbmkaadoor", sum := "9665a4947024846d2ac5db001155705450ccee29385b8f29552ed172d9386f86", func := "mantilla/mantillalaw11.OutgoOrder", spec := "outgoOrder", named := ["math/bits.deBruijn64tab"], apart := false, laid := [("math/bits.deBruijn64tab", laid_math_bits_deBruijn64tab)] }
def OutgoOrderSaid : Prop := outgoOrderRow.holds Tryd.pinned (OpenSpec.ofChange outgoOrderSpec)

/-- ITS FALSE NEIGHBOUR: 'it returns false'. Refute it at one input. -/
def outgoOrderWrong : ChangeSpec := { name := "outgoOrder", fn := fun _ => fun
  | [d1, d2, d3, d4] => { results := [.lit (.bool false)], args := [d1, d2, d3, d4] }
  | _ => none }
def OutgoOrderWrongFalsely : Prop := outgoOrderRow.holds Tryd.pinned (OpenSpec.ofChange outgoOrderWrong)

/-- 'mantillalaw11.OutgoPieces': WHATEVER THE INPUT: true; the input reads as it did. -/
def outgoPiecesSpec : ChangeSpec := { name := "outgoPieces", fn := fun _ => fun
  | [d1, d2, d3] => { results := [.lit (.bool true)], args := [d1, d2, d3] }
  | _ => none }
def outgoPiecesRow : OpenClaim := { program := "ytkodjajhlcbmkaadoor", sum := "9665a4947024846d2ac5db001155705450ccee29385b8f29552ed172d9386f86", func := "mantilla/mantillalaw11.OutgoPieces", spec := "outgoPieces", named := ["math/bits.deBruijn64tab"], apart := false, laid := [("math/bits.deBruijn64tab", laid_math_bits_deBruijn64tab)] }
def OutgoPiecesSaid : Prop := outgoPiecesRow.holds Tryd.pinned (OpenSpec.ofChange outgoPiecesSpec)

/-- ITS FALSE NEIGHBOUR: 'it returns false'. Refute it at one input. -/
def outgoPiecesWrong : ChangeSpec := { name := "outgoPieces", fn := fun _ => fun
  | [d1, d2, d3] => { results := [.lit (.bool false)], args := [d1, d2, d3] }
  | _ => none }
def OutgoPiecesWrongFalsely : Prop := outgoPiecesRow.holds Tryd.pinned (OpenSpec.ofChange outgoPiecesWrong)

/-- 'mantillalaw11.OutgoAllows': WHATEVER THE INPUT: true; the input reads as it did. -/
def outgoAllowsSpec : ChangeSpec := { name := "outgoAllows", fn := fun _ => fun
  | [d1, d2] => { results := [.lit (.bool true)], args := [d1, d2] }
  | _ => none }
def outgoAllowsRow : OpenClaim := { program := "ytkodjajhlcbmkaadoor", sum := "9665a4947024846d2ac5db001155705450ccee29385b8f29552ed172d9386f86", func := "mantilla/mantillalaw11.OutgoAllows", spec := "outgoAllows", named := ["math/bits.deBruijn64tab"], apart := false, laid := [("math/bits.deBruijn64tab", laid_math_bits_deBruijn64tab)] }
def OutgoAllowsSaid : Prop := outgoAllowsRow.holds Tryd.pinned (OpenSpec.ofChange outgoAllowsSpec)

/-- ITS FALSE NEIGHBOUR: 'it returns false'. Refute it at one input. -/
def outgoAllowsWrong : ChangeSpec := { name := "outgoAllows", fn := fun _ => fun
  | [d1, d2] => { results := [.lit (.bool false)], args := [d1, d2] }
  | _ => none }
def OutgoAllowsWrongFalsely : Prop := outgoAllowsRow.holds Tryd.pinned (OpenSpec.ofChange outgoAllowsWrong)

/- THE SECOND FORM. 'bulk': how many values and letters a reading holds, each counted each time it is reached (what is shared counts as often as it is met; a slice's spare places count too). A statement '..UptoSaid' is the law's where the arguments, and the package variables that the reading takes, are together of bulk at most 1048576: NARROWER than '..Said'. Prove '..Said' where nothing that the law and all that it calls make is longer than what came in: it says more and counts as full. Else prove '..UptoSaid'. A law counts once. -/
mutual
def uptoBulk {H : Type} : DataW H → Nat
  | .lit (.string bytes) => bytes.length + 1
  | .lit _ => 1
  | .nil => 1
  | .ptr d => uptoBulk d + 1
  | .slice elems spare => uptoBulkAll elems + uptoBulkAll spare + 1
  | .agg parts => uptoBulkAll parts + 1
  | .iface _ d => uptoBulk d + 1
  | .map entries => uptoBulkEntries entries + 1
  | .held _ => 1
def uptoBulkAll {H : Type} : List (DataW H) → Nat
  | [] => 0
  | d :: r => uptoBulk d + uptoBulkAll r
def uptoBulkEntries {H : Type} : List (Lit × DataW H) → Nat
  | [] => 0
  | x :: r => uptoBulkEntry x + uptoBulkEntries r
def uptoBulkEntry {H : Type} : Lit × DataW H → Nat
  | (.string bytes, d) => bytes.length + uptoBulk d + 1
  | (_, d) => uptoBulk d + 1
 end
def uptoSmall : (H : Type) → List (DataW H) → Bool := fun _ ds => decide (uptoBulkAll ds ≤ 1048576)
def OpenSpec.upto (s : _root_.Go.ChangeSpec) : _root_.Go.OpenSpec := { _root_.Go.OpenSpec.ofChange s with cond := some uptoSmall }

/-- 'mantillalaw11.OutgoScript', WHERE WHAT IT READS IS OF BULK AT MOST 1048576: true; the input reads as it did. -/
def outgoScriptUptoRow : OpenClaim := { program := "ytkodjajhlcbmkaadoor", sum := "9665a4947024846d2ac5db001155705450ccee29385b8f29552ed172d9386f86", func := "mantilla/mantillalaw11.OutgoScript", spec := "outgoScript", named := ["math/bits.deBruijn64tab"], apart := false, laid := [("math/bits.deBruijn64tab", laid_math_bits_deBruijn64tab)], narrowed := true }
def OutgoScriptUptoSaid : Prop := outgoScriptUptoRow.holds Tryd.pinned (OpenSpec.upto outgoScriptSpec)

/-- 'mantillalaw11.OutgoArrives', WHERE WHAT IT READS IS OF BULK AT MOST 1048576: true; the input reads as it did. -/
def outgoArrivesUptoRow : OpenClaim := { program := "ytkodjajhlcbmkaadoor", sum := "9665a4947024846d2ac5db001155705450ccee29385b8f29552ed172d9386f86", func := "mantilla/mantillalaw11.OutgoArrives", spec := "outgoArrives", named := ["math/bits.deBruijn64tab"], apart := false, laid := [("math/bits.deBruijn64tab", laid_math_bits_deBruijn64tab)], narrowed := true }
def OutgoArrivesUptoSaid : Prop := outgoArrivesUptoRow.holds Tryd.pinned (OpenSpec.upto outgoArrivesSpec)

/-- 'mantillalaw11.OutgoOrder', WHERE WHAT IT READS IS OF BULK AT MOST 1048576: true; the input reads as it did. -/
def outgoOrderUptoRow : OpenClaim := { program := "ytkodjajhlcbmkaadoor", sum := "9665a4947024846d2ac5db001155705450ccee29385b8f29552ed172d9386f86", func := "mantilla/mantillalaw11.OutgoOrder", spec := "outgoOrder", named := ["math/bits.deBruijn64tab"], apart := false, laid := [("math/bits.deBruijn64tab", laid_math_bits_deBruijn64tab)], narrowed := true }
def OutgoOrderUptoSaid : Prop := outgoOrderUptoRow.holds Tryd.pinned (OpenSpec.upto outgoOrderSpec)

/-- 'mantillalaw11.OutgoPieces', WHERE WHAT IT READS IS OF BULK AT MOST 1048576: true; the input reads as it did. -/
def outgoPiecesUptoRow : OpenClaim := { program := "ytkodjajhlcbmkaadoor", sum := "9665a4947024846d2ac5db001155705450ccee29385b8f29552ed172d9386f86", func := "mantilla/mantillalaw11.OutgoPieces", spec := "outgoPieces", named := ["math/bits.deBruijn64tab"], apart := false, laid := [("math/bits.deBruijn64tab", laid_math_bits_deBruijn64tab)], narrowed := true }
def OutgoPiecesUptoSaid : Prop := outgoPiecesUptoRow.holds Tryd.pinned (OpenSpec.upto outgoPiecesSpec)

/-- 'mantillalaw11.OutgoAllows', WHERE WHAT IT READS IS OF BULK AT MOST 1048576: true; the input reads as it did. -/
def outgoAllowsUptoRow : OpenClaim := { program := "ytkodjajhlcbmkaadoor", sum := "9665a4947024846d2ac5db001155705450ccee29385b8f29552ed172d9386f86", func := "mantilla/mantillalaw11.OutgoAllows", spec := "outgoAllows", named := ["math/bits.deBruijn64tab"], apart := false, laid := [("math/bits.deBruijn64tab", laid_math_bits_deBruijn64tab)], narrowed := true }
def OutgoAllowsUptoSaid : Prop := outgoAllowsUptoRow.holds Tryd.pinned (OpenSpec.upto outgoAllowsSpec)

end Rows
end Go.Proofs.YtkodjajhlcbmkaaDoor
