/-
  DERIVED. GIVEN WITH THE SEED: THE CARDS: each row of YtbhjpmfekjhckaaGreatDoorRows.lean that lists a variable, with what it lists TIED to the program's text (the seventh form; the later family's looks); each row that meets fmt, with fmt's text TOLD by the authors' own Lean function (tested against real Go, not proved from fmt's source: count such statements apart). THE CARD IS WHAT COUNTS. Prove the row's statement (the work); the ties are given (YtbhjpmfekjhckaaGreatDoorTie.lean); close each card by the builder's one call (the guide's Derived/Test/ToyasCard.lean, 'card_holds'). Laid BY PROGRAM, IN A SANDBOX (cutbox-door.mjs). By AI agents, Wed Nov 11 2026. No macro, syntax, notation, axiom, sorry.
-/
import Derived.Test.YtbhjpmfekjhckaaGreatDoorRows
import GoSem.ClaimSeven
namespace Go.Proofs.YtbhjpmfekjhckaaGreatDoor
namespace Rows

/-- THE TIED CARD OF 'chandlerylaw2.WantRight'. -/
def wantRightCard : Claim7 := { stood := { row := wantRightRow, standIns := [], harness := (true, "23a16e12e379a4f26c68b58e831ce3b99dff9a8b3745e5357c5503519aa7ec29"), looks := true }, kinds := [], alts := [], laidByText := true, laidKinds := [.data, .data, .data, .data, .handle, .sentinel, .sentinel, .sentinel, .sentinel, .sentinel, .sentinel, .sentinel, .sentinel, .sentinel, .sentinel, .sentinel, .sentinel, .sentinel, .sentinel, .sentinel, .pinned], laidTests := true, laidLooks := .later }
def WantRightCardSaid : Prop := Claim7.holds Tryz.pinned (.plain (OpenSpec.ofChange wantRightSpec)) wantRightCard

/-- THE SECOND FORM's CARD OF 'chandlerylaw2.WantRight'. -/
def wantRightUptoCard : Claim7 := { stood := { row := wantRightUptoRow, standIns := [], harness := (true, "23a16e12e379a4f26c68b58e831ce3b99dff9a8b3745e5357c5503519aa7ec29"), looks := true }, kinds := [], alts := [], laidByText := true, laidKinds := [.data, .data, .data, .data, .handle, .sentinel, .sentinel, .sentinel, .sentinel, .sentinel, .sentinel, .sentinel, .sentinel, .sentinel, .sentinel, .sentinel, .sentinel, .sentinel, .sentinel, .sentinel, .pinned], laidTests := true, laidLooks := .later }
def WantRightUptoCardSaid : Prop := Claim7.holds Tryz.pinned (.plain (OpenSpec.upto wantRightSpec)) wantRightUptoCard
end Rows
end Go.Proofs.YtbhjpmfekjhckaaGreatDoor
