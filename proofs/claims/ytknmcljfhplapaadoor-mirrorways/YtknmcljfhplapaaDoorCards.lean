/-
  DERIVED. GIVEN WITH THE SEED: THE CARDS: each row of YtknmcljfhplapaaDoorRows.lean that lists a variable, with what it lists TIED to the program's text (the seventh form; the later family's looks); each row that meets fmt, with fmt's text TOLD by the authors' own Lean function (tested against real Go, not proved from fmt's source: count such statements apart). THE CARD IS WHAT COUNTS. Prove the row's statement (the work); the ties are given (YtknmcljfhplapaaDoorTie.lean); close each card by the builder's one call (the guide's Derived/Test/ToyasCard.lean, 'card_holds'). Laid BY PROGRAM, IN A SANDBOX (cutbox-door.mjs). By AI agents, Wed Nov 11 2026. No macro, syntax, notation, axiom, sorry.
-/
import Derived.Test.YtknmcljfhplapaaDoorRows
import GoSem.ClaimSeven
namespace Go.Proofs.YtknmcljfhplapaaDoor
namespace Rows

/-- THE TIED CARD OF 'chandlerylaw2.MirrorWays'. -/
def mirrorWaysCard : Claim7 := { stood := { row := mirrorWaysRow, standIns := [], harness := (true, "377c0eb3480724481d04675b19a0b384b06723f1b4d5d46cdb3355fa29f9b9aa"), looks := true }, kinds := [], alts := [], laidByText := true, laidKinds := [.sentinel, .sentinel, .sentinel, .sentinel, .sentinel], laidTests := true, laidLooks := .later }
def MirrorWaysCardSaid : Prop := Claim7.holds Tryd.pinned (.plain (OpenSpec.ofChange mirrorWaysSpec)) mirrorWaysCard

/-- THE TIED CARD OF 'chandlerylaw2.MirrorTells'. -/
def mirrorTellsCard : Claim7 := { stood := { row := mirrorTellsRow, standIns := [], harness := (true, "377c0eb3480724481d04675b19a0b384b06723f1b4d5d46cdb3355fa29f9b9aa"), looks := true }, kinds := [], alts := [], laidByText := true, laidKinds := [.handle, .sentinel, .sentinel, .sentinel, .sentinel, .sentinel, .sentinel, .sentinel, .sentinel, .sentinel, .sentinel, .sentinel, .sentinel, .sentinel], laidTests := true, laidLooks := .later }
def MirrorTellsCardSaid : Prop := Claim7.holds Tryd.pinned (.plain (OpenSpec.ofChange mirrorTellsSpec)) mirrorTellsCard

/-- THE SECOND FORM's CARD OF 'chandlerylaw2.MirrorWays'. -/
def mirrorWaysUptoCard : Claim7 := { stood := { row := mirrorWaysUptoRow, standIns := [], harness := (true, "377c0eb3480724481d04675b19a0b384b06723f1b4d5d46cdb3355fa29f9b9aa"), looks := true }, kinds := [], alts := [], laidByText := true, laidKinds := [.sentinel, .sentinel, .sentinel, .sentinel, .sentinel], laidTests := true, laidLooks := .later }
def MirrorWaysUptoCardSaid : Prop := Claim7.holds Tryd.pinned (.plain (OpenSpec.upto mirrorWaysSpec)) mirrorWaysUptoCard

/-- THE SECOND FORM's CARD OF 'chandlerylaw2.MirrorTells'. -/
def mirrorTellsUptoCard : Claim7 := { stood := { row := mirrorTellsUptoRow, standIns := [], harness := (true, "377c0eb3480724481d04675b19a0b384b06723f1b4d5d46cdb3355fa29f9b9aa"), looks := true }, kinds := [], alts := [], laidByText := true, laidKinds := [.handle, .sentinel, .sentinel, .sentinel, .sentinel, .sentinel, .sentinel, .sentinel, .sentinel, .sentinel, .sentinel, .sentinel, .sentinel, .sentinel], laidTests := true, laidLooks := .later }
def MirrorTellsUptoCardSaid : Prop := Claim7.holds Tryd.pinned (.plain (OpenSpec.upto mirrorTellsSpec)) mirrorTellsUptoCard
end Rows
end Go.Proofs.YtknmcljfhplapaaDoor
