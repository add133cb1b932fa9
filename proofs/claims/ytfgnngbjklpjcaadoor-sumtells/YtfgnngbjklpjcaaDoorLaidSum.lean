/-
  What the rows of SumTells and SumJoins list of the package-level variables gives the walks; and a world that meets the lists: the one that the program's own initialisers leave.
-/
import Derived.Test.YtfgnngbjklpjcaaDoorRows
import Derived.Test.YtfgnngbjklpjcaaDoorCode
import Derived.Test.YtfgnngbjklpjcaaDoorSumEnv
import Derived.Test.YtfgnngbjklpjcaaDoorLaidTexts
import Derived.LaidHandle
import Derived.Lib.LaidTab
namespace Go.Proofs.YtfgnngbjklpjcaaDoor
open Go.ChangeShapes Go.WideShapes Go.RowKit

theorem Tryd.rt : (Tryd.prog.cutTypes.find? (·.1 == "internal/reflectlite.rtype")).map (·.2) = some 88 := by kernel_rfl
theorem Tryd.size : Tryd.prog.types.size = 144 := by kernel_rfl
theorem Tryd.oneRow : ((List.range 144).filter fun t => Tryd.prog.rowNamed t [101, 114, 114, 111, 114]) = [24] := by kernel_rfl
theorem Tryd.gErrType : Tryd.prog.globalNamed "errors.errorType" = some 13 := by kernel_rfl

def apiNums : List Nat := [1, 0, 2, 3, 4, 5, 6, 7, 8, 9, 10, 11, 12]
def handleSum : List (String × DataW Unit) := [("errors.errorType", Rows.laid_errors_errorType)]

theorem tells_handles : (Rows.sumTellsRow.laid.filter fun x => x.2.handleName?.isSome) = handleSum := by kernel_rfl
theorem tells_api : ((Rows.sumTellsRow.laid.filter fun x => x.2.handleName?.isNone).filter isApi) = apiTexts.map errData := by kernel_rfl
theorem tells_conv : ((Rows.sumTellsRow.laid.filter fun x => x.2.handleName?.isNone).filter isConv) = convTexts.map errData := by kernel_rfl
theorem tells_pow : ((Rows.sumTellsRow.laid.filter fun x => x.2.handleName?.isNone).filter isPow) = [("internal/strconv.uint64pow10", Lib.tabData .u64 Lib.pow10Tab)] := by kernel_rfl

theorem tells_envs {W : World} (h : laidMetH Tryd.prog Rows.sumTellsRow.laid W) : ∃ p, Env p W ∧ SEnv p W := by
  obtain ⟨hl, hh⟩ := laidMetH_iff.1 h
  rw [tells_handles] at hh
  obtain ⟨p, h1, h2, h3⟩ := errs_of_laid _ apiTexts apiNums isApi tells_api (by kernel_rfl) hl
  obtain ⟨q, k1, _, _⟩ := errs_of_laid _ convTexts convNums isConv tells_conv (by kernel_rfl) hl
  refine ⟨p, ⟨h1 0 (by decide), h1 1 (by decide), h1 2 (by decide), h1 3 (by decide), h1 4 (by decide), h1 5 (by decide), h1 6 (by decide), h1 7 (by decide), h1 8 (by decide), h1 9 (by decide), h1 10 (by decide), h1 11 (by decide), h1 12 (by decide), ?_, h2, h3⟩, ⟨h1 0 (by decide), h1 1 (by decide), ⟨_, k1 1 (by decide)⟩, ⟨_, k1 0 (by decide)⟩, tab_of_laid tells_pow hl⟩⟩
  obtain ⟨name, u, ty, e1, e2, e3, e4, e5⟩ := hh _ (List.mem_singleton.2 rfl)
  have en : name = [101, 114, 114, 111, 114] := (Option.some.inj e1).symm
  subst en
  obtain rfl := Option.some.inj (Tryd.rt.symm.trans e2)
  have hm : ty ∈ (List.range 144).filter fun t => Tryd.prog.rowNamed t [101, 114, 114, 111, 114] := List.mem_filter.2 ⟨List.mem_range.2 (by rw [← Tryd.size]; exact e3), e4⟩
  rw [Tryd.oneRow] at hm
  obtain rfl := List.mem_singleton.1 hm
  have hh : typeHandle Tryd.prog 24 = .pointer (some ⟨19, 24, none⟩) := by kernel_rfl
  rw [hh] at e5
  simpa using World.var?_cell Tryd.gErrType e5 0

/-- The heap that the program's own initialisers leave meets the list. -/
theorem tells_met (os : Os) (args : Array Value) : laidMetH Tryd.prog Rows.sumTellsRow.laid ((World.doorLaid Tryd.prog 316 os).forCall (fun _ _ => 0) ⟨#[], args, []⟩).memory :=
  laidMetH_of_parts3 (fuel := 8) (laidMet_of_run' 8 (by kernel_rfl) (by kernel_rfl)) (by kernel_rfl) (by kernel_rfl)

def twoTexts : List (String × List UInt8) := apiTexts.take 2
theorem joins_handles : (Rows.sumJoinsRow.laid.filter fun x => x.2.handleName?.isNone) = Rows.sumJoinsRow.laid := by kernel_rfl
theorem joins_api : (Rows.sumJoinsRow.laid.filter isApi) = twoTexts.map errData := by kernel_rfl
theorem joins_conv : (Rows.sumJoinsRow.laid.filter isConv) = convTexts.map errData := by kernel_rfl
theorem joins_pow : (Rows.sumJoinsRow.laid.filter isPow) = [("internal/strconv.uint64pow10", Lib.tabData .u64 Lib.pow10Tab)] := by kernel_rfl

theorem joins_envs {W : World} (h : laidMetH Tryd.prog Rows.sumJoinsRow.laid W) : ∃ p, SEnv p W := by
  obtain ⟨hl, _⟩ := laidMetH_iff.1 h
  rw [joins_handles] at hl
  obtain ⟨p, h1, _, _⟩ := errs_of_laid _ twoTexts apiNums isApi joins_api (by kernel_rfl) hl
  obtain ⟨q, k1, _, _⟩ := errs_of_laid _ convTexts convNums isConv joins_conv (by kernel_rfl) hl
  exact ⟨p, h1 0 (by decide), h1 1 (by decide), ⟨_, k1 1 (by decide)⟩, ⟨_, k1 0 (by decide)⟩, tab_of_laid joins_pow hl⟩

theorem joins_none : (Rows.sumJoinsRow.laid.filter fun x => x.2.handleName?.isSome) = [] := by kernel_rfl
theorem joins_met (os : Os) (args : Array Value) : laidMetH Tryd.prog Rows.sumJoinsRow.laid ((World.doorLaid Tryd.prog 316 os).forCall (fun _ _ => 0) ⟨#[], args, []⟩).memory := by
  refine laidMetH_iff.2 ⟨?_, ?_⟩
  · rw [joins_handles]
    exact laidMet_of_run' 8 (by kernel_rfl) (by kernel_rfl)
  · rw [joins_none]
    intro x hx
    cases hx
end Go.Proofs.YtfgnngbjklpjcaaDoor
