/-
  DERIVED. GIVEN WITH THE SEED: THE CARDS: each row of YtoahlopnjpolkaaDoorRows.lean that lists a variable, with what it lists TIED to the program's text (the seventh form; the later family's looks); each row that meets fmt, with fmt's text TOLD by the authors' own Lean function (tested against real Go, not proved from fmt's source: count such statements apart). THE CARD IS WHAT COUNTS. Prove the row's statement (the work); the ties are given (YtoahlopnjpolkaaDoorTie.lean); close each card by the builder's one call (the guide's Derived/Test/ToyasCard.lean, 'card_holds'). Laid BY PROGRAM, IN A SANDBOX (cutbox-door.mjs). By AI agents, Wed Nov 11 2026. No macro, syntax, notation, axiom, sorry.
-/
import Derived.Test.YtoahlopnjpolkaaDoorRows
import GoSem.ClaimSeven
namespace Go.Proofs.YtoahlopnjpolkaaDoor
namespace Rows

/-- THE TIED CARD OF 'chandlerylaw2.LinkSwaps'. -/
def linkSwapsCard : Claim7 := { stood := { row := linkSwapsRow, standIns := [], harness := (true, "e9edbc609145aa602b58150b502c7e395abddd2d2a1507a35de32d3cdf7bb9fb"), looks := true }, kinds := [], alts := [], laidByText := true, laidKinds := [.sentinel, .sentinel, .sentinel, .sentinel, .sentinel], laidTests := true, laidLooks := .later }
def LinkSwapsCardSaid : Prop := Claim7.holds Tryd.pinned (.plain (OpenSpec.ofChange linkSwapsSpec)) linkSwapsCard

/-- THE TIED CARD OF 'chandlerylaw2.LinkTells'. -/
def linkTellsCard : Claim7 := { stood := { row := linkTellsRow, standIns := [], harness := (true, "e9edbc609145aa602b58150b502c7e395abddd2d2a1507a35de32d3cdf7bb9fb"), looks := true }, kinds := [], alts := [], laidByText := true, laidKinds := [.handle, .sentinel, .sentinel, .sentinel, .sentinel, .sentinel, .sentinel, .sentinel, .sentinel, .sentinel, .sentinel, .sentinel, .sentinel, .sentinel], laidTests := true, laidLooks := .later }
def LinkTellsCardSaid : Prop := Claim7.holds Tryd.pinned (.plain (OpenSpec.ofChange linkTellsSpec)) linkTellsCard

/-- THE SECOND FORM's CARD OF 'chandlerylaw2.LinkSwaps'. -/
def linkSwapsUptoCard : Claim7 := { stood := { row := linkSwapsUptoRow, standIns := [], harness := (true, "e9edbc609145aa602b58150b502c7e395abddd2d2a1507a35de32d3cdf7bb9fb"), looks := true }, kinds := [], alts := [], laidByText := true, laidKinds := [.sentinel, .sentinel, .sentinel, .sentinel, .sentinel], laidTests := true, laidLooks := .later }
def LinkSwapsUptoCardSaid : Prop := Claim7.holds Tryd.pinned (.plain (OpenSpec.upto linkSwapsSpec)) linkSwapsUptoCard

/-- THE SECOND FORM's CARD OF 'chandlerylaw2.LinkTells'. -/
def linkTellsUptoCard : Claim7 := { stood := { row := linkTellsUptoRow, standIns := [], harness := (true, "e9edbc609145aa602b58150b502c7e395abddd2d2a1507a35de32d3cdf7bb9fb"), looks := true }, kinds := [], alts := [], laidByText := true, laidKinds := [.handle, .sentinel, .sentinel, .sentinel, .sentinel, .sentinel, .sentinel, .sentinel, .sentinel, .sentinel, .sentinel, .sentinel, .sentinel, .sentinel], laidTests := true, laidLooks := .later }
def LinkTellsUptoCardSaid : Prop := Claim7.holds Tryd.pinned (.plain (OpenSpec.upto linkTellsSpec)) linkTellsUptoCard
end Rows
end Go.Proofs.YtoahlopnjpolkaaDoor
