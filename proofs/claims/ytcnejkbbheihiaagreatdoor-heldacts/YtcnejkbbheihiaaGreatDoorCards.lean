/-
  DERIVED. GIVEN WITH THE SEED: THE CARDS: each row of YtcnejkbbheihiaaGreatDoorRows.lean that lists a variable, with what it lists TIED to the program's text (the seventh form; the later family's looks); each row that meets fmt, with fmt's text TOLD by the authors' own Lean function (tested against real Go, not proved from fmt's source: count such statements apart). THE CARD IS WHAT COUNTS. Prove the row's statement (the work); the ties are given (YtcnejkbbheihiaaGreatDoorTie.lean); close each card by the builder's one call (the guide's Derived/Test/ToyasCard.lean, 'card_holds'). Laid BY PROGRAM, IN A SANDBOX (cutbox-door.mjs). By AI agents, Wed Nov 11 2026. No macro, syntax, notation, axiom, sorry.
-/
import Derived.Test.YtcnejkbbheihiaaGreatDoorRows
import GoSem.ClaimSeven
namespace Go.Proofs.YtcnejkbbheihiaaGreatDoor
namespace Rows

/-- THE TIED CARD OF 'chandlerylaw2.HeldActs'. -/
def heldActsCard : Claim7 := { stood := { row := heldActsRow, standIns := [], harness := (true, "57105e7e6a6ac00987d6991835678e524342aa9e9581c1a7f42056c46b808373"), looks := true }, kinds := [], alts := [], laidByText := true, laidKinds := [.data, .data, .data, .handle, .sentinel, .sentinel, .sentinel, .sentinel, .sentinel, .sentinel, .sentinel, .sentinel, .sentinel, .sentinel, .sentinel, .sentinel, .sentinel], laidTests := true, laidLooks := .later }
def HeldActsCardSaid : Prop := Claim7.holds Tryz.pinned (.plain (OpenSpec.ofChange heldActsSpec)) heldActsCard

/-- THE SECOND FORM's CARD OF 'chandlerylaw2.HeldActs'. -/
def heldActsUptoCard : Claim7 := { stood := { row := heldActsUptoRow, standIns := [], harness := (true, "57105e7e6a6ac00987d6991835678e524342aa9e9581c1a7f42056c46b808373"), looks := true }, kinds := [], alts := [], laidByText := true, laidKinds := [.data, .data, .data, .handle, .sentinel, .sentinel, .sentinel, .sentinel, .sentinel, .sentinel, .sentinel, .sentinel, .sentinel, .sentinel, .sentinel, .sentinel, .sentinel], laidTests := true, laidLooks := .later }
def HeldActsUptoCardSaid : Prop := Claim7.holds Tryz.pinned (.plain (OpenSpec.upto heldActsSpec)) heldActsUptoCard
end Rows
end Go.Proofs.YtcnejkbbheihiaaGreatDoor
