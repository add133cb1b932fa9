/-
  DERIVED. GIVEN WITH THE SEED: THE CARDS: each row of YtmpfjambenkeeaaDoorRows.lean that lists a variable, with what it lists TIED to the program's text (the seventh form; the later family's looks); each row that meets fmt, with fmt's text TOLD by the authors' own Lean function (tested against real Go, not proved from fmt's source: count such statements apart). THE CARD IS WHAT COUNTS. Prove the row's statement (the work); the ties are given (YtmpfjambenkeeaaDoorTie.lean); close each card by the builder's one call (the guide's Derived/Test/ToyasCard.lean, 'card_holds'). Laid BY PROGRAM, IN A SANDBOX (cutbox-door.mjs). By AI agents, Wed Nov 11 2026. No macro, syntax, notation, axiom, sorry.
-/
import Derived.Test.YtmpfjambenkeeaaDoorRows
import GoSem.ClaimSeven
namespace Go.Proofs.YtmpfjambenkeeaaDoor
namespace Rows

/-- THE TIED CARD OF 'chandlerylaw2.LinkSwaps'. -/
def linkSwapsCard : Claim7 := { stood := { row := linkSwapsRow, standIns := [], harness := (true, "ceead8355670d141edbb81b2652f97a56f5bc7721513c16754ec200497120496"), looks := true }, kinds := [], alts := [], laidByText := true, laidKinds := [.sentinel, .sentinel, .sentinel, .sentinel, .sentinel], laidTests := true, laidLooks := .later }
def LinkSwapsCardSaid : Prop := Claim7.holds Tryd.pinned (.plain (OpenSpec.ofChange linkSwapsSpec)) linkSwapsCard

/-- THE TIED CARD OF 'chandlerylaw2.LinkTells'. -/
def linkTellsCard : Claim7 := { stood := { row := linkTellsRow, standIns := [], harness := (true, "ceead8355670d141edbb81b2652f97a56f5bc7721513c16754ec200497120496"), looks := true }, kinds := [], alts := [], laidByText := true, laidKinds := [.handle, .sentinel, .sentinel, .sentinel, .sentinel, .sentinel, .sentinel, .sentinel, .sentinel, .sentinel, .sentinel, .sentinel, .sentinel, .sentinel], laidTests := true, laidLooks := .later }
def LinkTellsCardSaid : Prop := Claim7.holds Tryd.pinned (.plain (OpenSpec.ofChange linkTellsSpec)) linkTellsCard

/-- THE TIED CARD OF 'chandlerylaw2.MirrorWays'. -/
def mirrorWaysCard : Claim7 := { stood := { row := mirrorWaysRow, standIns := [], harness := (true, "ceead8355670d141edbb81b2652f97a56f5bc7721513c16754ec200497120496"), looks := true }, kinds := [], alts := [], laidByText := true, laidKinds := [.sentinel, .sentinel, .sentinel, .sentinel, .sentinel], laidTests := true, laidLooks := .later }
def MirrorWaysCardSaid : Prop := Claim7.holds Tryd.pinned (.plain (OpenSpec.ofChange mirrorWaysSpec)) mirrorWaysCard

/-- THE TIED CARD OF 'chandlerylaw2.MirrorTells'. -/
def mirrorTellsCard : Claim7 := { stood := { row := mirrorTellsRow, standIns := [], harness := (true, "ceead8355670d141edbb81b2652f97a56f5bc7721513c16754ec200497120496"), looks := true }, kinds := [], alts := [], laidByText := true, laidKinds := [.handle, .sentinel, .sentinel, .sentinel, .sentinel, .sentinel, .sentinel, .sentinel, .sentinel, .sentinel, .sentinel, .sentinel, .sentinel, .sentinel], laidTests := true, laidLooks := .later }
def MirrorTellsCardSaid : Prop := Claim7.holds Tryd.pinned (.plain (OpenSpec.ofChange mirrorTellsSpec)) mirrorTellsCard

/-- THE SECOND FORM's CARD OF 'chandlerylaw2.LinkSwaps'. -/
def linkSwapsUptoCard : Claim7 := { stood := { row := linkSwapsUptoRow, standIns := [], harness := (true, "ceead8355670d141edbb81b2652f97a56f5bc7721513c16754ec200497120496"), looks := true }, kinds := [], alts := [], laidByText := true, laidKinds := [.sentinel, .sentinel, .sentinel, .sentinel, .sentinel], laidTests := true, laidLooks := .later }
def LinkSwapsUptoCardSaid : Prop := Claim7.holds Tryd.pinned (.plain (OpenSpec.upto linkSwapsSpec)) linkSwapsUptoCard

/-- THE SECOND FORM's CARD OF 'chandlerylaw2.LinkTells'. -/
def linkTellsUptoCard : Claim7 := { stood := { row := linkTellsUptoRow, standIns := [], harness := (true, "ceead8355670d141edbb81b2652f97a56f5bc7721513c16754ec200497120496"), looks := true }, kinds := [], alts := [], laidByText := true, laidKinds := [.handle, .sentinel, .sentinel, .sentinel, .sentinel, .sentinel, .sentinel, .sentinel, .sentinel, .sentinel, .sentinel, .sentinel, .sentinel, .sentinel], laidTests := true, laidLooks := .later }
def LinkTellsUptoCardSaid : Prop := Claim7.holds Tryd.pinned (.plain (OpenSpec.upto linkTellsSpec)) linkTellsUptoCard

/-- THE SECOND FORM's CARD OF 'chandlerylaw2.MirrorWays'. -/
def mirrorWaysUptoCard : Claim7 := { stood := { row := mirrorWaysUptoRow, standIns := [], harness := (true, "ceead8355670d141edbb81b2652f97a56f5bc7721513c16754ec200497120496"), looks := true }, kinds := [], alts := [], laidByText := true, laidKinds := [.sentinel, .sentinel, .sentinel, .sentinel, .sentinel], laidTests := true, laidLooks := .later }
def MirrorWaysUptoCardSaid : Prop := Claim7.holds Tryd.pinned (.plain (OpenSpec.upto mirrorWaysSpec)) mirrorWaysUptoCard

/-- THE SECOND FORM's CARD OF 'chandlerylaw2.MirrorTells'. -/
def mirrorTellsUptoCard : Claim7 := { stood := { row := mirrorTellsUptoRow, standIns := [], harness := (true, "ceead8355670d141edbb81b2652f97a56f5bc7721513c16754ec200497120496"), looks := true }, kinds := [], alts := [], laidByText := true, laidKinds := [.handle, .sentinel, .sentinel, .sentinel, .sentinel, .sentinel, .sentinel, .sentinel, .sentinel, .sentinel, .sentinel, .sentinel, .sentinel, .sentinel], laidTests := true, laidLooks := .later }
def MirrorTellsUptoCardSaid : Prop := Claim7.holds Tryd.pinned (.plain (OpenSpec.upto mirrorTellsSpec)) mirrorTellsUptoCard
end Rows
end Go.Proofs.YtmpfjambenkeeaaDoor
