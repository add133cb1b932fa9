/-
  What the rows of PressBack and PressTells list of the package-level variables gives the walks; and a world that meets the lists: the one that the program's own initialisers leave.
-/
import Derived.Test.YtjdbpabniaclaaaDoorRows
import Derived.Test.YtjdbpabniaclaaaDoorCode
import Derived.Test.YtjdbpabniaclaaaDoorPkPress
import Derived.Test.YtjdbpabniaclaaaDoorLaidErrs
import Derived.LaidHandle
import Derived.Lib.LaidTab
namespace Go.Proofs.YtjdbpabniaclaaaDoor
open Go.ChangeShapes Go.WideShapes Go.RowKit

theorem Tryd.rt : (Tryd.prog.cutTypes.find? (·.1 == "internal/reflectlite.rtype")).map (·.2) = some 97 := by kernel_rfl
theorem Tryd.size : Tryd.prog.types.size = 153 := by kernel_rfl
theorem Tryd.oneRow : ((List.range 153).filter fun t => Tryd.prog.rowNamed t [101, 114, 114, 111, 114]) = [25] := by kernel_rfl
theorem Tryd.gErrType : Tryd.prog.globalNamed "errors.errorType" = some 13 := by kernel_rfl

def apiTextsP : List (String × List UInt8) := [
  ("chandlery/api.ErrText", [99, 104, 97, 110, 100, 108, 101, 114, 121, 58, 32, 116, 101, 120, 116]),
  ("chandlery/api.ErrBound", [99, 104, 97, 110, 100, 108, 101, 114, 121, 58, 32, 98, 111, 117, 110, 100]),
  ("chandlery/api.ErrShape", [99, 104, 97, 110, 100, 108, 101, 114, 121, 58, 32, 115, 104, 97, 112, 101]),
  ("chandlery/api.ErrKind", [99, 104, 97, 110, 100, 108, 101, 114, 121, 58, 32, 107, 105, 110, 100]),
  ("chandlery/api.ErrName", [99, 104, 97, 110, 100, 108, 101, 114, 121, 58, 32, 110, 97, 109, 101]),
  ("chandlery/api.ErrNone", [99, 104, 97, 110, 100, 108, 101, 114, 121, 58, 32, 110, 111, 110, 101]),
  ("chandlery/api.ErrExist", [99, 104, 97, 110, 100, 108, 101, 114, 121, 58, 32, 101, 120, 105, 115, 116]),
  ("chandlery/api.ErrFull", [99, 104, 97, 110, 100, 108, 101, 114, 121, 58, 32, 102, 117, 108, 108]),
  ("chandlery/api.ErrOrder", [99, 104, 97, 110, 100, 108, 101, 114, 121, 58, 32, 111, 114, 100, 101, 114]),
  ("chandlery/api.ErrOut", [99, 104, 97, 110, 100, 108, 101, 114, 121, 58, 32, 111, 117, 116]),
  ("chandlery/api.ErrClash", [99, 104, 97, 110, 100, 108, 101, 114, 121, 58, 32, 99, 108, 97, 115, 104]),
  ("chandlery/api.ErrSum", [99, 104, 97, 110, 100, 108, 101, 114, 121, 58, 32, 115, 117, 109]),
  ("chandlery/api.ErrOff", [99, 104, 97, 110, 100, 108, 101, 114, 121, 58, 32, 111, 102, 102])]
def isApiP (x : String × DataW Unit) : Bool := apiTextsP.any (·.1 == x.1)
def isPowP (x : String × DataW Unit) : Bool := x.1 == "internal/strconv.uint64pow10"
def apiNumsP : List Nat := [1, 2, 3, 4, 5, 6, 7, 0, 8, 9, 10, 11, 12]
def handleP : List (String × DataW Unit) := [("errors.errorType", Rows.laid_errors_errorType)]

theorem tabP_of_laid {W : World} {L : List (String × DataW Unit)} (hf : L.filter isPowP = [("internal/strconv.uint64pow10", Lib.tabData .u64 Lib.pow10Tab)]) (h : laidMet Tryd.prog L W) : Tab W := by
  have h' := h.filter isPowP
  rw [hf] at h'
  exact Lib.tabIs_of_head (g := 14) (t := 113) (e := 90) (n := 20) Tryd.gPowT (by kernel_rfl) Tryd.underlying113 Tryd.underlying90 (by kernel_rfl) (by kernel_rfl) h'

/-- Out of a list like those of these rows. -/
theorem press_envs {L : List (String × DataW Unit)} {W : World} (hh : (L.filter fun x => x.2.handleName?.isSome) = handleP) (ha : ((L.filter fun x => x.2.handleName?.isNone).filter isApiP) = apiTextsP.map errData)
    (hw : ((L.filter fun x => x.2.handleName?.isNone).filter isPowP) = [("internal/strconv.uint64pow10", Lib.tabData .u64 Lib.pow10Tab)]) (h : laidMetH Tryd.prog L W) : ∃ p, Env p W ∧ Tab W := by
  obtain ⟨hl, hk⟩ := laidMetH_iff.1 h
  rw [hh] at hk
  obtain ⟨p, h1, h2, h3⟩ := errs_of_laid _ apiTextsP apiNumsP isApiP ha (by kernel_rfl) hl
  refine ⟨p, ⟨h1 0 (by decide), h1 1 (by decide), h1 2 (by decide), h1 3 (by decide), h1 4 (by decide), h1 5 (by decide), h1 6 (by decide), h1 7 (by decide), h1 8 (by decide), h1 9 (by decide), h1 10 (by decide), h1 11 (by decide), h1 12 (by decide), ?_, h2, h3⟩, tabP_of_laid hw hl⟩
  obtain ⟨name, u, ty, e1, e2, e3, e4, e5⟩ := hk _ (List.mem_singleton.2 rfl)
  have en : name = [101, 114, 114, 111, 114] := (Option.some.inj e1).symm
  subst en
  obtain rfl := Option.some.inj (Tryd.rt.symm.trans e2)
  have hm : ty ∈ (List.range 153).filter fun t => Tryd.prog.rowNamed t [101, 114, 114, 111, 114] := List.mem_filter.2 ⟨List.mem_range.2 (by rw [← Tryd.size]; exact e3), e4⟩
  rw [Tryd.oneRow] at hm
  obtain rfl := List.mem_singleton.1 hm
  have hh : typeHandle Tryd.prog 25 = .pointer (some ⟨18, 25, none⟩) := by kernel_rfl
  rw [hh] at e5
  simpa using World.var?_cell Tryd.gErrType e5 0

theorem back_envs {W : World} (h : laidMetH Tryd.prog Rows.pressBackRow.laid W) : ∃ p, Env p W ∧ Tab W := press_envs (by kernel_rfl) (by kernel_rfl) (by kernel_rfl) h
theorem tells_envs {W : World} (h : laidMetH Tryd.prog Rows.pressTellsRow.laid W) : ∃ p, Env p W ∧ Tab W := press_envs (by kernel_rfl) (by kernel_rfl) (by kernel_rfl) h
/-- The heap that the program's own initialisers leave meets the lists. -/
theorem back_met (os : Os) (args : Array Value) : laidMetH Tryd.prog Rows.pressBackRow.laid ((World.doorLaid Tryd.prog 278 os).forCall (fun _ _ => 0) ⟨#[], args, []⟩).memory :=
  laidMetH_of_parts3 (fuel := 8) (laidMet_of_run' 8 (by kernel_rfl) (by kernel_rfl)) (by kernel_rfl) (by kernel_rfl)
theorem tells_met (os : Os) (args : Array Value) : laidMetH Tryd.prog Rows.pressTellsRow.laid ((World.doorLaid Tryd.prog 278 os).forCall (fun _ _ => 0) ⟨#[], args, []⟩).memory :=
  laidMetH_of_parts3 (fuel := 8) (laidMet_of_run' 8 (by kernel_rfl) (by kernel_rfl)) (by kernel_rfl) (by kernel_rfl)
end Go.Proofs.YtjdbpabniaclaaaDoor
