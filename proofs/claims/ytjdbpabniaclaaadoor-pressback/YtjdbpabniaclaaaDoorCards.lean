/-
  DERIVED. GIVEN WITH THE SEED: THE CARDS: each row of YtjdbpabniaclaaaDoorRows.lean that lists a variable, with what it lists TIED to the program's text (the seventh form; the later family's looks); each row that meets fmt, with fmt's text TOLD by the authors' own Lean function (tested against real Go, not proved from fmt's source: count such statements apart). THE CARD IS WHAT COUNTS. Prove the row's statement (the work); the ties are given (YtjdbpabniaclaaaDoorTie.lean); close each card by the builder's one call (the guide's Derived/Test/ToyasCard.lean, 'card_holds'). Laid BY PROGRAM, IN A SANDBOX (cutbox-door.mjs). By AI agents, Wed Nov 11 2026. No macro, syntax, notation, axiom, sorry.
-/
import Derived.Test.YtjdbpabniaclaaaDoorRows
import GoSem.ClaimSeven
namespace Go.Proofs.YtjdbpabniaclaaaDoor
namespace Rows

/-- THE TIED CARD OF 'chandlerylaw1.PressBack'. -/
def pressBackCard : Claim7 := { stood := { row := pressBackRow, standIns := [], harness := (true, "5917fd7b38c423d616313ff674e64ff34a4224a9a63095ad0f8ca60864a6b363"), looks := true }, kinds := [], alts := [], laidByText := true, laidKinds := [.data, .data, .data, .handle, .sentinel, .sentinel, .sentinel, .sentinel, .sentinel, .sentinel, .sentinel, .sentinel, .sentinel, .sentinel, .sentinel, .sentinel, .sentinel], laidTests := true, laidLooks := .later }
def PressBackCardSaid : Prop := Claim7.holds Tryd.pinned (.plain (OpenSpec.ofChange pressBackSpec)) pressBackCard

/-- THE TIED CARD OF 'chandlerylaw1.PressTells'. -/
def pressTellsCard : Claim7 := { stood := { row := pressTellsRow, standIns := [], harness := (true, "5917fd7b38c423d616313ff674e64ff34a4224a9a63095ad0f8ca60864a6b363"), looks := true }, kinds := [], alts := [], laidByText := true, laidKinds := [.data, .data, .data, .handle, .sentinel, .sentinel, .sentinel, .sentinel, .sentinel, .sentinel, .sentinel, .sentinel, .sentinel, .sentinel, .sentinel, .sentinel, .sentinel], laidTests := true, laidLooks := .later }
def PressTellsCardSaid : Prop := Claim7.holds Tryd.pinned (.plain (OpenSpec.ofChange pressTellsSpec)) pressTellsCard

/-- THE SECOND FORM's CARD OF 'chandlerylaw1.PressBack'. -/
def pressBackUptoCard : Claim7 := { stood := { row := pressBackUptoRow, standIns := [], harness := (true, "5917fd7b38c423d616313ff674e64ff34a4224a9a63095ad0f8ca60864a6b363"), looks := true }, kinds := [], alts := [], laidByText := true, laidKinds := [.data, .data, .data, .handle, .sentinel, .sentinel, .sentinel, .sentinel, .sentinel, .sentinel, .sentinel, .sentinel, .sentinel, .sentinel, .sentinel, .sentinel, .sentinel], laidTests := true, laidLooks := .later }
def PressBackUptoCardSaid : Prop := Claim7.holds Tryd.pinned (.plain (OpenSpec.upto pressBackSpec)) pressBackUptoCard

/-- THE SECOND FORM's CARD OF 'chandlerylaw1.PressTells'. -/
def pressTellsUptoCard : Claim7 := { stood := { row := pressTellsUptoRow, standIns := [], harness := (true, "5917fd7b38c423d616313ff674e64ff34a4224a9a63095ad0f8ca60864a6b363"), looks := true }, kinds := [], alts := [], laidByText := true, laidKinds := [.data, .data, .data, .handle, .sentinel, .sentinel, .sentinel, .sentinel, .sentinel, .sentinel, .sentinel, .sentinel, .sentinel, .sentinel, .sentinel, .sentinel, .sentinel], laidTests := true, laidLooks := .later }
def PressTellsUptoCardSaid : Prop := Claim7.holds Tryd.pinned (.plain (OpenSpec.upto pressTellsSpec)) pressTellsUptoCard
end Rows
end Go.Proofs.YtjdbpabniaclaaaDoor
