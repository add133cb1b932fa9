/-
  What the row of PackBack lists of the package-level variables gives the walk; and a world that meets the list: the one that the program's own initialisers leave.
-/
import Derived.Test.YtkcjgncpcidfoaaDoorRows
import Derived.Test.YtkcjgncpcidfoaaDoorCode
import Derived.Test.YtkcjgncpcidfoaaDoorLaidTexts
import Derived.Lay
namespace Go.Proofs.YtkcjgncpcidfoaaDoor
open Go.ChangeShapes Go.WideShapes Go.RowKit

def fewTexts : List (String × List UInt8) := [0, 1, 2, 4, 7, 8, 9, 10].map fun k => apiTexts.getD k ("", [])
def fewNums : List Nat := [1, 0, 2, 4, 5, 6, 3, 7]
/-- The place in the list of an error by its number. -/
def fewAt : Nat → Nat
  | 0 => 0 | 1 => 1 | 2 => 2 | 4 => 3 | 7 => 4 | 8 => 5 | 9 => 6 | 10 => 7 | _ => 0

theorem back_handles : (Rows.packBackRow.laid.filter fun x => x.2.handleName?.isNone) = Rows.packBackRow.laid := by kernel_rfl
theorem back_api : (Rows.packBackRow.laid.filter isApi) = fewTexts.map errData := by kernel_rfl
theorem back_conv : (Rows.packBackRow.laid.filter isConv) = convTexts.map errData := by kernel_rfl
theorem back_pow : (Rows.packBackRow.laid.filter isPow) = [("internal/strconv.uint64pow10", Lib.tabData .u64 Lib.pow10Tab)] := by kernel_rfl

theorem back_envs {W : World} (h : laidMetH Tryd.prog Rows.packBackRow.laid W) : ∃ p, Env p W ∧ SEnv p W := by
  obtain ⟨hl, _⟩ := laidMetH_iff.1 h
  rw [back_handles] at hl
  obtain ⟨z, h1, _, _⟩ := errs_of_laid _ fewTexts fewNums isApi back_api (by kernel_rfl) hl
  obtain ⟨q, k1, _, _⟩ := errs_of_laid _ convTexts convNums isConv back_conv (by kernel_rfl) hl
  exact ⟨fun k => z (fewAt k), ⟨h1 0 (by decide), h1 1 (by decide), h1 2 (by decide), h1 3 (by decide), h1 4 (by decide), h1 5 (by decide), h1 6 (by decide), h1 7 (by decide)⟩, ⟨h1 0 (by decide), h1 1 (by decide), ⟨_, k1 1 (by decide)⟩, ⟨_, k1 0 (by decide)⟩, tab_of_laid back_pow hl⟩⟩

/-- A world that holds what the list says, and no more. -/
theorem back_met (os : Os) (args : Array Value) : laidMetH Tryd.prog Rows.packBackRow.laid ((World.laidAll Tryd.prog os Rows.packBackRow.laid).forCall (fun _ _ => 0) ⟨#[], args, []⟩).memory := by
  rw [MakeChecks.laidMetH_plain _ _ _ (by kernel_rfl)]
  exact laidMet_laidAll _ (by kernel_rfl) (by kernel_rfl)
end Go.Proofs.YtkcjgncpcidfoaaDoor
