/-
  What the rows of MirrorWays and MirrorTells list of the package-level variables, and the world's shape, give the walks; a world that meets the lists: the one that the program's own initialisers leave; and the wrap that keeps both.
-/
import Derived.Test.YtmpfjambenkeeaaDoorRows
import Derived.Test.YtmpfjambenkeeaaDoorCode
import Derived.Test.YtmpfjambenkeeaaDoorPkLink
import Derived.Test.YtmpfjambenkeeaaDoorLaidErrs
import Derived.LaidHandle
import Derived.HandedShaped
import Derived.Shelf.Vars
namespace Go.Proofs.YtmpfjambenkeeaaDoor
open Go.ChangeShapes Go.WideShapes Go.RowKit

theorem Tryd.rt : (Tryd.prog.cutTypes.find? (·.1 == "internal/reflectlite.rtype")).map (·.2) = some 107 := by kernel_rfl
theorem Tryd.size : Tryd.prog.types.size = 155 := by kernel_rfl
theorem Tryd.oneRow : ((List.range 155).filter fun t => Tryd.prog.rowNamed t [101, 114, 114, 111, 114]) = [24] := by kernel_rfl
theorem Tryd.gErrType : Tryd.prog.globalNamed "errors.errorType" = some 13 := by kernel_rfl

def apiTextsK : List (String × List UInt8) := [
  ("chandlery/api.ErrText", [99, 104, 97, 110, 100, 108, 101, 114, 121, 58, 32, 116, 101, 120, 116]),
  ("chandlery/api.ErrBound", [99, 104, 97, 110, 100, 108, 101, 114, 121, 58, 32, 98, 111, 117, 110, 100]),
  ("chandlery/api.ErrShape", [99, 104, 97, 110, 100, 108, 101, 114, 121, 58, 32, 115, 104, 97, 112, 101]),
  ("chandlery/api.ErrKind", [99, 104, 97, 110, 100, 108, 101, 114, 121, 58, 32, 107, 105, 110, 100]),
  ("chandlery/api.ErrName", [99, 104, 97, 110, 100, 108, 101, 114, 121, 58, 32, 110, 97, 109, 101]),
  ("chandlery/api.ErrNone", [99, 104, 97, 110, 100, 108, 101, 114, 121, 58, 32, 110, 111, 110, 101]),
  ("chandlery/api.ErrExist", [99, 104, 97, 110, 100, 108, 101, 114, 121, 58, 32, 101, 120, 105, 115, 116]),
  ("chandlery/api.ErrFull", [99, 104, 97, 110, 100, 108, 101, 114, 121, 58, 32, 102, 117, 108, 108]),
  ("chandlery/api.ErrOrder", [99, 104, 97, 110, 100, 108, 101, 114, 121, 58, 32, 111, 114, 100, 101, 114]),
  ("chandlery/api.ErrOut", [99, 104, 97, 110, 100, 108, 101, 114, 121, 58, 32, 111, 117, 116]),
  ("chandlery/api.ErrClash", [99, 104, 97, 110, 100, 108, 101, 114, 121, 58, 32, 99, 108, 97, 115, 104]),
  ("chandlery/api.ErrSum", [99, 104, 97, 110, 100, 108, 101, 114, 121, 58, 32, 115, 117, 109]),
  ("chandlery/api.ErrOff", [99, 104, 97, 110, 100, 108, 101, 114, 121, 58, 32, 111, 102, 102])]
def isApiK (x : String × DataW Unit) : Bool := apiTextsK.any (·.1 == x.1)
def apiNumsK : List Nat := [2, 5, 6, 3, 4, 0, 7, 1, 8, 9, 10, 11, 12]
def handleK : List (String × DataW Unit) := [("errors.errorType", Rows.laid_errors_errorType)]


def fiveTexts : List (String × List UInt8) := [
  ("chandlery/api.ErrText", [99, 104, 97, 110, 100, 108, 101, 114, 121, 58, 32, 116, 101, 120, 116]),
  ("chandlery/api.ErrKind", [99, 104, 97, 110, 100, 108, 101, 114, 121, 58, 32, 107, 105, 110, 100]),
  ("chandlery/api.ErrName", [99, 104, 97, 110, 100, 108, 101, 114, 121, 58, 32, 110, 97, 109, 101]),
  ("chandlery/api.ErrNone", [99, 104, 97, 110, 100, 108, 101, 114, 121, 58, 32, 110, 111, 110, 101]),
  ("chandlery/api.ErrFull", [99, 104, 97, 110, 100, 108, 101, 114, 121, 58, 32, 102, 117, 108, 108])]
def isFive (x : String × DataW Unit) : Bool := fiveTexts.any (·.1 == x.1)
def fiveNums : List Nat := [2, 3, 4, 0, 1]
/-- The place of an error's number in the list of five. -/
def fiveAt (k : Nat) : Nat := match k with | 0 => 0 | 3 => 1 | 4 => 2 | 5 => 3 | _ => 4

/-- The library's own variable holds some number: by the world's shape. -/
theorem maxLen_shaped {W : World} (h : W.ShapedOpen Tryd.prog) : ∃ m, W.cell? ⟨14, 0, none⟩ = some (.int .i64 m) :=
  cell_of_shapedOpen_int (t := 3) (zero := #[.int .i64 0]) h (of_decide_eq_true (by kernel_rfl)) (by kernel_rfl) rfl (by kernel_rfl) (by kernel_rfl) Tryd.underlying3

theorem swaps_env {W : World} (h : laidMetH Tryd.prog Rows.mirrorWaysRow.laid W) (hsh : W.ShapedOpen Tryd.prog) : ∃ p, LEnv p W := by
  obtain ⟨hl, _⟩ := laidMetH_iff.1 h
  obtain ⟨z, h1, _, _⟩ := errs_of_laid _ fiveTexts fiveNums isFive (by kernel_rfl) (by kernel_rfl) hl
  exact ⟨fun k => z (fiveAt k), h1 0 (by decide), h1 1 (by decide), h1 2 (by decide), h1 3 (by decide), h1 4 (by decide), maxLen_shaped hsh⟩

theorem tells_envs {W : World} (h : laidMetH Tryd.prog Rows.mirrorTellsRow.laid W) (hsh : W.ShapedOpen Tryd.prog) : ∃ p, Env p W ∧ LEnv p W := by
  obtain ⟨hl, hk⟩ := laidMetH_iff.1 h
  rw [show ((Rows.mirrorTellsRow.laid.filter fun x => x.2.handleName?.isSome) = handleK) by kernel_rfl] at hk
  obtain ⟨p, h1, h2, h3⟩ := errs_of_laid _ apiTextsK apiNumsK isApiK (by kernel_rfl) (by kernel_rfl) hl
  refine ⟨p, ⟨h1 0 (by decide), h1 1 (by decide), h1 2 (by decide), h1 3 (by decide), h1 4 (by decide), h1 5 (by decide), h1 6 (by decide), h1 7 (by decide), h1 8 (by decide), h1 9 (by decide), h1 10 (by decide), h1 11 (by decide), h1 12 (by decide), ?_, h2, h3⟩, h1 0 (by decide), h1 3 (by decide), h1 4 (by decide), h1 5 (by decide), h1 7 (by decide), maxLen_shaped hsh⟩
  obtain ⟨name, u, ty, e1, e2, e3, e4, e5⟩ := hk _ (List.mem_singleton.2 rfl)
  have en : name = [101, 114, 114, 111, 114] := (Option.some.inj e1).symm
  subst en
  obtain rfl := Option.some.inj (Tryd.rt.symm.trans e2)
  have hm : ty ∈ (List.range 155).filter fun t => Tryd.prog.rowNamed t [101, 114, 114, 111, 114] := List.mem_filter.2 ⟨List.mem_range.2 (by rw [← Tryd.size]; exact e3), e4⟩
  rw [Tryd.oneRow] at hm
  obtain rfl := List.mem_singleton.1 hm
  have hh : typeHandle Tryd.prog 24 = .pointer (some ⟨15, 24, none⟩) := by kernel_rfl
  rw [hh] at e5
  simpa using World.var?_cell Tryd.gErrType e5 0

/-- The heap that the program's own initialisers leave meets the lists. -/
theorem swaps_met (os : Os) (args : Array Value) : laidMetH Tryd.prog Rows.mirrorWaysRow.laid ((World.doorLaid Tryd.prog 263 os).forCall (fun _ _ => 0) ⟨#[], args, []⟩).memory :=
  laidMetH_of_parts3 (fuel := 8) (laidMet_of_run' 8 (by kernel_rfl) (by kernel_rfl)) (by kernel_rfl) (by kernel_rfl)
theorem tells_met (os : Os) (args : Array Value) : laidMetH Tryd.prog Rows.mirrorTellsRow.laid ((World.doorLaid Tryd.prog 263 os).forCall (fun _ _ => 0) ⟨#[], args, []⟩).memory :=
  laidMetH_of_parts3 (fuel := 8) (laidMet_of_run' 8 (by kernel_rfl) (by kernel_rfl)) (by kernel_rfl) (by kernel_rfl)
end Go.Proofs.YtmpfjambenkeeaaDoor
