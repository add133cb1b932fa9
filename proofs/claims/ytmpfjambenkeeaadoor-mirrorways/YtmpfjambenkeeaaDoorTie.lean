/-
  DERIVED. GIVEN WITH THE SEED: THE PROGRAM's TIES (one call each: nine closed facts by the kernel) AND EACH ROW's TIE, after the 31st guide's Derived/Test/Toyas{Tie, Card}.lean. No idea stands in it: it is a product of the set-up. Laid BY PROGRAM, IN A SANDBOX (cutbox-door.mjs). By AI agents, Wed Nov 11 2026. No macro, syntax, notation, axiom, sorry.
-/
import Derived.Test.YtmpfjambenkeeaaDoorRows
import Derived.LaidByTextLater
import Derived.SevenTiedAt
import Derived.LaidSub
import Derived.LaidOnce
namespace Go.Proofs.YtmpfjambenkeeaaDoor
open Go
set_option maxRecDepth 100000
theorem seatTie1 : Tryd.prog.laidByTextLater [("errors.errorType", Rows.laid_errors_errorType), ("chandlery/api.ErrText", Rows.laid_chandlery_api_ErrText), ("chandlery/api.ErrBound", Rows.laid_chandlery_api_ErrBound), ("chandlery/api.ErrShape", Rows.laid_chandlery_api_ErrShape), ("chandlery/api.ErrKind", Rows.laid_chandlery_api_ErrKind), ("chandlery/api.ErrName", Rows.laid_chandlery_api_ErrName), ("chandlery/api.ErrNone", Rows.laid_chandlery_api_ErrNone), ("chandlery/api.ErrExist", Rows.laid_chandlery_api_ErrExist), ("chandlery/api.ErrFull", Rows.laid_chandlery_api_ErrFull), ("chandlery/api.ErrOrder", Rows.laid_chandlery_api_ErrOrder), ("chandlery/api.ErrOut", Rows.laid_chandlery_api_ErrOut), ("chandlery/api.ErrClash", Rows.laid_chandlery_api_ErrClash), ("chandlery/api.ErrSum", Rows.laid_chandlery_api_ErrSum), ("chandlery/api.ErrOff", Rows.laid_chandlery_api_ErrOff)] [.handle, .sentinel, .sentinel, .sentinel, .sentinel, .sentinel, .sentinel, .sentinel, .sentinel, .sentinel, .sentinel, .sentinel, .sentinel, .sentinel] true :=
  Program.laidByTextLater_by_one 263 8 2 (by kernel_rfl) (by kernel_rfl) (by kernel_rfl) (by kernel_rfl) (by kernel_rfl) (by kernel_rfl) (fun _ _ => by kernel_rfl)
theorem noOwnUnsafe : Tryd.pinned.checked.prog.headLifts.contains "ownunsafe" = false := by kernel_rfl
theorem tie : Tryd.prog.laidByTextLater [("chandlery/api.ErrText", Rows.laid_chandlery_api_ErrText), ("chandlery/api.ErrKind", Rows.laid_chandlery_api_ErrKind), ("chandlery/api.ErrName", Rows.laid_chandlery_api_ErrName), ("chandlery/api.ErrNone", Rows.laid_chandlery_api_ErrNone), ("chandlery/api.ErrFull", Rows.laid_chandlery_api_ErrFull)] [.sentinel, .sentinel, .sentinel, .sentinel, .sentinel] true :=
  Program.laidByTextLater.sub seatTie1 ["chandlery/api.ErrText", "chandlery/api.ErrKind", "chandlery/api.ErrName", "chandlery/api.ErrNone", "chandlery/api.ErrFull"] (by kernel_rfl) (by kernel_rfl)
theorem linkSwaps_row_tie : Rows.linkSwapsRow.laidByTextAt .later Tryd.pinned [.sentinel, .sentinel, .sentinel, .sentinel, .sentinel] true :=
  OpenClaim.laidByTextAt_later rfl rfl tie noOwnUnsafe
theorem mirrorWays_row_tie : Rows.mirrorWaysRow.laidByTextAt .later Tryd.pinned [.sentinel, .sentinel, .sentinel, .sentinel, .sentinel] true :=
  OpenClaim.laidByTextAt_later rfl rfl tie noOwnUnsafe
theorem tie2 : Tryd.prog.laidByTextLater [("errors.errorType", Rows.laid_errors_errorType), ("chandlery/api.ErrText", Rows.laid_chandlery_api_ErrText), ("chandlery/api.ErrBound", Rows.laid_chandlery_api_ErrBound), ("chandlery/api.ErrShape", Rows.laid_chandlery_api_ErrShape), ("chandlery/api.ErrKind", Rows.laid_chandlery_api_ErrKind), ("chandlery/api.ErrName", Rows.laid_chandlery_api_ErrName), ("chandlery/api.ErrNone", Rows.laid_chandlery_api_ErrNone), ("chandlery/api.ErrExist", Rows.laid_chandlery_api_ErrExist), ("chandlery/api.ErrFull", Rows.laid_chandlery_api_ErrFull), ("chandlery/api.ErrOrder", Rows.laid_chandlery_api_ErrOrder), ("chandlery/api.ErrOut", Rows.laid_chandlery_api_ErrOut), ("chandlery/api.ErrClash", Rows.laid_chandlery_api_ErrClash), ("chandlery/api.ErrSum", Rows.laid_chandlery_api_ErrSum), ("chandlery/api.ErrOff", Rows.laid_chandlery_api_ErrOff)] [.handle, .sentinel, .sentinel, .sentinel, .sentinel, .sentinel, .sentinel, .sentinel, .sentinel, .sentinel, .sentinel, .sentinel, .sentinel, .sentinel] true :=
  Program.laidByTextLater.sub seatTie1 ["errors.errorType", "chandlery/api.ErrText", "chandlery/api.ErrBound", "chandlery/api.ErrShape", "chandlery/api.ErrKind", "chandlery/api.ErrName", "chandlery/api.ErrNone", "chandlery/api.ErrExist", "chandlery/api.ErrFull", "chandlery/api.ErrOrder", "chandlery/api.ErrOut", "chandlery/api.ErrClash", "chandlery/api.ErrSum", "chandlery/api.ErrOff"] (by kernel_rfl) (by kernel_rfl)
theorem linkTells_row_tie : Rows.linkTellsRow.laidByTextAt .later Tryd.pinned [.handle, .sentinel, .sentinel, .sentinel, .sentinel, .sentinel, .sentinel, .sentinel, .sentinel, .sentinel, .sentinel, .sentinel, .sentinel, .sentinel] true :=
  OpenClaim.laidByTextAt_later rfl rfl tie2 noOwnUnsafe
theorem mirrorTells_row_tie : Rows.mirrorTellsRow.laidByTextAt .later Tryd.pinned [.handle, .sentinel, .sentinel, .sentinel, .sentinel, .sentinel, .sentinel, .sentinel, .sentinel, .sentinel, .sentinel, .sentinel, .sentinel, .sentinel] true :=
  OpenClaim.laidByTextAt_later rfl rfl tie2 noOwnUnsafe
theorem linkSwapsUpto_row_tie : Rows.linkSwapsUptoRow.laidByTextAt .later Tryd.pinned [.sentinel, .sentinel, .sentinel, .sentinel, .sentinel] true :=
  OpenClaim.laidByTextAt_later rfl rfl tie noOwnUnsafe
theorem linkTellsUpto_row_tie : Rows.linkTellsUptoRow.laidByTextAt .later Tryd.pinned [.handle, .sentinel, .sentinel, .sentinel, .sentinel, .sentinel, .sentinel, .sentinel, .sentinel, .sentinel, .sentinel, .sentinel, .sentinel, .sentinel] true :=
  OpenClaim.laidByTextAt_later rfl rfl tie2 noOwnUnsafe
theorem mirrorWaysUpto_row_tie : Rows.mirrorWaysUptoRow.laidByTextAt .later Tryd.pinned [.sentinel, .sentinel, .sentinel, .sentinel, .sentinel] true :=
  OpenClaim.laidByTextAt_later rfl rfl tie noOwnUnsafe
theorem mirrorTellsUpto_row_tie : Rows.mirrorTellsUptoRow.laidByTextAt .later Tryd.pinned [.handle, .sentinel, .sentinel, .sentinel, .sentinel, .sentinel, .sentinel, .sentinel, .sentinel, .sentinel, .sentinel, .sentinel, .sentinel, .sentinel] true :=
  OpenClaim.laidByTextAt_later rfl rfl tie2 noOwnUnsafe
end Go.Proofs.YtmpfjambenkeeaaDoor
