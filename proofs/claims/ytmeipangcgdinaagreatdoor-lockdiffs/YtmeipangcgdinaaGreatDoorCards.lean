/-
  DERIVED. GIVEN WITH THE SEED: THE CARDS: each row of YtmeipangcgdinaaGreatDoorRows.lean that lists a variable, with what it lists TIED to the program's text (the seventh form; the later family's looks); each row that meets fmt, with fmt's text TOLD by the authors' own Lean function (tested against real Go, not proved from fmt's source: count such statements apart). THE CARD IS WHAT COUNTS. Prove the row's statement (the work); the ties are given (YtmeipangcgdinaaGreatDoorTie.lean); close each card by the builder's one call (the guide's Derived/Test/ToyasCard.lean, 'card_holds'). Laid BY PROGRAM, IN A SANDBOX (cutbox-door.mjs). By AI agents, Wed Nov 11 2026. No macro, syntax, notation, axiom, sorry.
-/
import Derived.Test.YtmeipangcgdinaaGreatDoorRows
import GoSem.ClaimSeven
namespace Go.Proofs.YtmeipangcgdinaaGreatDoor
namespace Rows

/-- THE TIED CARD OF 'chandlerylaw3.LockDiffs'. -/
def lockDiffsCard : Claim7 := { stood := { row := lockDiffsRow, standIns := [], harness := (true, "e6e78593be7cefc697a9985e76bd04e3e082d33010babafc17dec1aa4a35fab2"), looks := true }, kinds := [], alts := [], laidByText := true, laidKinds := [.data, .data, .data, .data, .sentinel, .sentinel, .sentinel, .sentinel, .sentinel, .sentinel, .sentinel, .sentinel, .sentinel, .sentinel, .pinned], laidTests := true, laidLooks := .later }
def LockDiffsCardSaid : Prop := Claim7.holds Tryz.pinned (.plain (OpenSpec.ofChange lockDiffsSpec)) lockDiffsCard

/-- THE SECOND FORM's CARD OF 'chandlerylaw3.LockDiffs'. -/
def lockDiffsUptoCard : Claim7 := { stood := { row := lockDiffsUptoRow, standIns := [], harness := (true, "e6e78593be7cefc697a9985e76bd04e3e082d33010babafc17dec1aa4a35fab2"), looks := true }, kinds := [], alts := [], laidByText := true, laidKinds := [.data, .data, .data, .data, .sentinel, .sentinel, .sentinel, .sentinel, .sentinel, .sentinel, .sentinel, .sentinel, .sentinel, .sentinel, .pinned], laidTests := true, laidLooks := .later }
def LockDiffsUptoCardSaid : Prop := Claim7.holds Tryz.pinned (.plain (OpenSpec.upto lockDiffsSpec)) lockDiffsUptoCard
end Rows
end Go.Proofs.YtmeipangcgdinaaGreatDoor
