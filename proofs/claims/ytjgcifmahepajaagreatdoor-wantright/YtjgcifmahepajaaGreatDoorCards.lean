/-
  DERIVED. GIVEN WITH THE SEED: THE CARDS: each row of YtjgcifmahepajaaGreatDoorRows.lean that lists a variable, with what it lists TIED to the program's text (the seventh form; the later family's looks); each row that meets fmt, with fmt's text TOLD by the authors' own Lean function (tested against real Go, not proved from fmt's source: count such statements apart). THE CARD IS WHAT COUNTS. Prove the row's statement (the work); the ties are given (YtjgcifmahepajaaGreatDoorTie.lean); close each card by the builder's one call (the guide's Derived/Test/ToyasCard.lean, 'card_holds'). Laid BY PROGRAM, IN A SANDBOX (cutbox-door.mjs). By AI agents, Wed Nov 11 2026. No macro, syntax, notation, axiom, sorry.
-/
import Derived.Test.YtjgcifmahepajaaGreatDoorRows
import GoSem.ClaimSeven
namespace Go.Proofs.YtjgcifmahepajaaGreatDoor
namespace Rows

/-- THE TIED CARD OF 'chandlerylaw2.WantRight'. -/
def wantRightCard : Claim7 := { stood := { row := wantRightRow, standIns := [], harness := (true, "d2c8751e2f0522c5aee4fad8eb2d4180403d02fd0bfacf577dcdedb23a1b8d2c"), looks := true }, kinds := [], alts := [], laidByText := true, laidKinds := [.data, .data, .data, .data, .handle, .sentinel, .sentinel, .sentinel, .sentinel, .sentinel, .sentinel, .sentinel, .sentinel, .sentinel, .sentinel, .sentinel, .sentinel, .sentinel, .sentinel, .sentinel, .pinned], laidTests := true, laidLooks := .later }
def WantRightCardSaid : Prop := Claim7.holds Tryz.pinned (.plain (OpenSpec.ofChange wantRightSpec)) wantRightCard

/-- THE TIED CARD OF 'chandlerylaw2.WantTells'. -/
def wantTellsCard : Claim7 := { stood := { row := wantTellsRow, standIns := [], harness := (true, "d2c8751e2f0522c5aee4fad8eb2d4180403d02fd0bfacf577dcdedb23a1b8d2c"), looks := true }, kinds := [], alts := [], laidByText := true, laidKinds := [.data, .data, .data, .data, .handle, .sentinel, .sentinel, .sentinel, .sentinel, .sentinel, .sentinel, .sentinel, .sentinel, .sentinel, .sentinel, .sentinel, .sentinel, .sentinel, .sentinel, .sentinel, .pinned], laidTests := true, laidLooks := .later }
def WantTellsCardSaid : Prop := Claim7.holds Tryz.pinned (.plain (OpenSpec.ofChange wantTellsSpec)) wantTellsCard

/-- THE SECOND FORM's CARD OF 'chandlerylaw2.WantRight'. -/
def wantRightUptoCard : Claim7 := { stood := { row := wantRightUptoRow, standIns := [], harness := (true, "d2c8751e2f0522c5aee4fad8eb2d4180403d02fd0bfacf577dcdedb23a1b8d2c"), looks := true }, kinds := [], alts := [], laidByText := true, laidKinds := [.data, .data, .data, .data, .handle, .sentinel, .sentinel, .sentinel, .sentinel, .sentinel, .sentinel, .sentinel, .sentinel, .sentinel, .sentinel, .sentinel, .sentinel, .sentinel, .sentinel, .sentinel, .pinned], laidTests := true, laidLooks := .later }
def WantRightUptoCardSaid : Prop := Claim7.holds Tryz.pinned (.plain (OpenSpec.upto wantRightSpec)) wantRightUptoCard

/-- THE SECOND FORM's CARD OF 'chandlerylaw2.WantTells'. -/
def wantTellsUptoCard : Claim7 := { stood := { row := wantTellsUptoRow, standIns := [], harness := (true, "d2c8751e2f0522c5aee4fad8eb2d4180403d02fd0bfacf577dcdedb23a1b8d2c"), looks := true }, kinds := [], alts := [], laidByText := true, laidKinds := [.data, .data, .data, .data, .handle, .sentinel, .sentinel, .sentinel, .sentinel, .sentinel, .sentinel, .sentinel, .sentinel, .sentinel, .sentinel, .sentinel, .sentinel, .sentinel, .sentinel, .sentinel, .pinned], laidTests := true, laidLooks := .later }
def WantTellsUptoCardSaid : Prop := Claim7.holds Tryz.pinned (.plain (OpenSpec.upto wantTellsSpec)) wantTellsUptoCard
end Rows
end Go.Proofs.YtjgcifmahepajaaGreatDoor
