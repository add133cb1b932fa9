/-
  DERIVED. GIVEN WITH THE SEED: THE PROGRAM's TIES (one call each: nine closed facts by the kernel) AND EACH ROW's TIE, after the 31st guide's Derived/Test/Toyas{Tie, Card}.lean. No idea stands in it: it is a product of the set-up. Laid BY PROGRAM, IN A SANDBOX (cutbox-door.mjs). By AI agents, Wed Nov 11 2026. No macro, syntax, notation, axiom, sorry.
-/
import Derived.Test.YtpogcedghbokbaaGreatDoorRows
import Derived.LaidByTextLater
import Derived.SevenTiedAt
import Derived.LaidSub
import Derived.LaidOnce
namespace Go.Proofs.YtpogcedghbokbaaGreatDoor
open Go
set_option maxRecDepth 100000
theorem seatTie1 : Tryz.prog.laidByTextLater [("errors.errorType", Rows.laid_errors_errorType), ("chandlery/api.ErrText", Rows.laid_chandlery_api_ErrText), ("chandlery/api.ErrBound", Rows.laid_chandlery_api_ErrBound), ("chandlery/api.ErrShape", Rows.laid_chandlery_api_ErrShape), ("chandlery/api.ErrKind", Rows.laid_chandlery_api_ErrKind), ("chandlery/api.ErrName", Rows.laid_chandlery_api_ErrName), ("chandlery/api.ErrNone", Rows.laid_chandlery_api_ErrNone), ("chandlery/api.ErrExist", Rows.laid_chandlery_api_ErrExist), ("chandlery/api.ErrFull", Rows.laid_chandlery_api_ErrFull), ("chandlery/api.ErrOrder", Rows.laid_chandlery_api_ErrOrder), ("chandlery/api.ErrOut", Rows.laid_chandlery_api_ErrOut), ("chandlery/api.ErrClash", Rows.laid_chandlery_api_ErrClash), ("chandlery/api.ErrSum", Rows.laid_chandlery_api_ErrSum), ("chandlery/api.ErrOff", Rows.laid_chandlery_api_ErrOff)] [.handle, .sentinel, .sentinel, .sentinel, .sentinel, .sentinel, .sentinel, .sentinel, .sentinel, .sentinel, .sentinel, .sentinel, .sentinel, .sentinel] true :=
  Program.laidByTextLater_by_one 263 8 2 (by kernel_rfl) (by kernel_rfl) (by kernel_rfl) (by kernel_rfl) (by kernel_rfl) (by kernel_rfl) (fun _ _ => by kernel_rfl)
theorem noOwnUnsafe : Tryz.pinned.checked.prog.headLifts.contains "ownunsafe" = false := by kernel_rfl
theorem tie : Tryz.prog.laidByTextLater [("errors.errorType", Rows.laid_errors_errorType), ("chandlery/api.ErrText", Rows.laid_chandlery_api_ErrText), ("chandlery/api.ErrBound", Rows.laid_chandlery_api_ErrBound), ("chandlery/api.ErrShape", Rows.laid_chandlery_api_ErrShape), ("chandlery/api.ErrKind", Rows.laid_chandlery_api_ErrKind), ("chandlery/api.ErrName", Rows.laid_chandlery_api_ErrName), ("chandlery/api.ErrNone", Rows.laid_chandlery_api_ErrNone), ("chandlery/api.ErrExist", Rows.laid_chandlery_api_ErrExist), ("chandlery/api.ErrFull", Rows.laid_chandlery_api_ErrFull), ("chandlery/api.ErrOrder", Rows.laid_chandlery_api_ErrOrder), ("chandlery/api.ErrOut", Rows.laid_chandlery_api_ErrOut), ("chandlery/api.ErrClash", Rows.laid_chandlery_api_ErrClash), ("chandlery/api.ErrSum", Rows.laid_chandlery_api_ErrSum), ("chandlery/api.ErrOff", Rows.laid_chandlery_api_ErrOff)] [.handle, .sentinel, .sentinel, .sentinel, .sentinel, .sentinel, .sentinel, .sentinel, .sentinel, .sentinel, .sentinel, .sentinel, .sentinel, .sentinel] true :=
  Program.laidByTextLater.sub seatTie1 ["errors.errorType", "chandlery/api.ErrText", "chandlery/api.ErrBound", "chandlery/api.ErrShape", "chandlery/api.ErrKind", "chandlery/api.ErrName", "chandlery/api.ErrNone", "chandlery/api.ErrExist", "chandlery/api.ErrFull", "chandlery/api.ErrOrder", "chandlery/api.ErrOut", "chandlery/api.ErrClash", "chandlery/api.ErrSum", "chandlery/api.ErrOff"] (by kernel_rfl) (by kernel_rfl)
theorem treeGrafts_row_tie : Rows.treeGraftsRow.laidByTextAt .later Tryz.pinned [.handle, .sentinel, .sentinel, .sentinel, .sentinel, .sentinel, .sentinel, .sentinel, .sentinel, .sentinel, .sentinel, .sentinel, .sentinel, .sentinel] true :=
  OpenClaim.laidByTextAt_later rfl rfl tie noOwnUnsafe
theorem treeTells_row_tie : Rows.treeTellsRow.laidByTextAt .later Tryz.pinned [.handle, .sentinel, .sentinel, .sentinel, .sentinel, .sentinel, .sentinel, .sentinel, .sentinel, .sentinel, .sentinel, .sentinel, .sentinel, .sentinel] true :=
  OpenClaim.laidByTextAt_later rfl rfl tie noOwnUnsafe
theorem treeStrips_row_tie : Rows.treeStripsRow.laidByTextAt .later Tryz.pinned [.handle, .sentinel, .sentinel, .sentinel, .sentinel, .sentinel, .sentinel, .sentinel, .sentinel, .sentinel, .sentinel, .sentinel, .sentinel, .sentinel] true :=
  OpenClaim.laidByTextAt_later rfl rfl tie noOwnUnsafe
theorem treeGraftsUpto_row_tie : Rows.treeGraftsUptoRow.laidByTextAt .later Tryz.pinned [.handle, .sentinel, .sentinel, .sentinel, .sentinel, .sentinel, .sentinel, .sentinel, .sentinel, .sentinel, .sentinel, .sentinel, .sentinel, .sentinel] true :=
  OpenClaim.laidByTextAt_later rfl rfl tie noOwnUnsafe
theorem treeTellsUpto_row_tie : Rows.treeTellsUptoRow.laidByTextAt .later Tryz.pinned [.handle, .sentinel, .sentinel, .sentinel, .sentinel, .sentinel, .sentinel, .sentinel, .sentinel, .sentinel, .sentinel, .sentinel, .sentinel, .sentinel] true :=
  OpenClaim.laidByTextAt_later rfl rfl tie noOwnUnsafe
theorem treeStripsUpto_row_tie : Rows.treeStripsUptoRow.laidByTextAt .later Tryz.pinned [.handle, .sentinel, .sentinel, .sentinel, .sentinel, .sentinel, .sentinel, .sentinel, .sentinel, .sentinel, .sentinel, .sentinel, .sentinel, .sentinel] true :=
  OpenClaim.laidByTextAt_later rfl rfl tie noOwnUnsafe
end Go.Proofs.YtpogcedghbokbaaGreatDoor
