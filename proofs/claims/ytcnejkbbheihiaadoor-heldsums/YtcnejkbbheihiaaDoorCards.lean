/-
  DERIVED. GIVEN WITH THE SEED: THE CARDS: each row of YtcnejkbbheihiaaDoorRows.lean that lists a variable, with what it lists TIED to the program's text (the seventh form; the later family's looks); each row that meets fmt, with fmt's text TOLD by the authors' own Lean function (tested against real Go, not proved from fmt's source: count such statements apart). THE CARD IS WHAT COUNTS. Prove the row's statement (the work); the ties are given (YtcnejkbbheihiaaDoorTie.lean); close each card by the builder's one call (the guide's Derived/Test/ToyasCard.lean, 'card_holds'). Laid BY PROGRAM, IN A SANDBOX (cutbox-door.mjs). By AI agents, Wed Nov 11 2026. No macro, syntax, notation, axiom, sorry.
-/
import Derived.Test.YtcnejkbbheihiaaDoorRows
import GoSem.ClaimSeven
namespace Go.Proofs.YtcnejkbbheihiaaDoor
namespace Rows

/-- THE TIED CARD OF 'chandlerylaw2.HeldSums'. -/
def heldSumsCard : Claim7 := { stood := { row := heldSumsRow, standIns := [], harness := (true, "e19970ebfa861be374f266372cadb3c6fd7740194d19c777ee6d184de5cf21a8"), looks := true }, kinds := [], alts := [], laidByText := true, laidKinds := [.data, .data, .data, .handle, .sentinel, .sentinel, .sentinel, .sentinel, .sentinel, .sentinel, .sentinel, .sentinel, .sentinel, .sentinel, .sentinel, .sentinel, .sentinel], laidTests := true, laidLooks := .later }
def HeldSumsCardSaid : Prop := Claim7.holds Tryd.pinned (.plain (OpenSpec.ofChange heldSumsSpec)) heldSumsCard

/-- THE TIED CARD OF 'chandlerylaw2.HeldDrops'. -/
def heldDropsCard : Claim7 := { stood := { row := heldDropsRow, standIns := [], harness := (true, "e19970ebfa861be374f266372cadb3c6fd7740194d19c777ee6d184de5cf21a8"), looks := true }, kinds := [], alts := [], laidByText := true, laidKinds := [.data, .data, .data, .handle, .sentinel, .sentinel, .sentinel, .sentinel, .sentinel, .sentinel, .sentinel, .sentinel, .sentinel, .sentinel, .sentinel, .sentinel, .sentinel], laidTests := true, laidLooks := .later }
def HeldDropsCardSaid : Prop := Claim7.holds Tryd.pinned (.plain (OpenSpec.ofChange heldDropsSpec)) heldDropsCard

/-- THE SECOND FORM's CARD OF 'chandlerylaw2.HeldSums'. -/
def heldSumsUptoCard : Claim7 := { stood := { row := heldSumsUptoRow, standIns := [], harness := (true, "e19970ebfa861be374f266372cadb3c6fd7740194d19c777ee6d184de5cf21a8"), looks := true }, kinds := [], alts := [], laidByText := true, laidKinds := [.data, .data, .data, .handle, .sentinel, .sentinel, .sentinel, .sentinel, .sentinel, .sentinel, .sentinel, .sentinel, .sentinel, .sentinel, .sentinel, .sentinel, .sentinel], laidTests := true, laidLooks := .later }
def HeldSumsUptoCardSaid : Prop := Claim7.holds Tryd.pinned (.plain (OpenSpec.upto heldSumsSpec)) heldSumsUptoCard

/-- THE SECOND FORM's CARD OF 'chandlerylaw2.HeldDrops'. -/
def heldDropsUptoCard : Claim7 := { stood := { row := heldDropsUptoRow, standIns := [], harness := (true, "e19970ebfa861be374f266372cadb3c6fd7740194d19c777ee6d184de5cf21a8"), looks := true }, kinds := [], alts := [], laidByText := true, laidKinds := [.data, .data, .data, .handle, .sentinel, .sentinel, .sentinel, .sentinel, .sentinel, .sentinel, .sentinel, .sentinel, .sentinel, .sentinel, .sentinel, .sentinel, .sentinel], laidTests := true, laidLooks := .later }
def HeldDropsUptoCardSaid : Prop := Claim7.holds Tryd.pinned (.plain (OpenSpec.upto heldDropsSpec)) heldDropsUptoCard
end Rows
end Go.Proofs.YtcnejkbbheihiaaDoor
