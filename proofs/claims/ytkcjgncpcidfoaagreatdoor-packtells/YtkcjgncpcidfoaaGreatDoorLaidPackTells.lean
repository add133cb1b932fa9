/-
  What the row of PackTells lists of the package-level variables gives the walk; and a world that meets the list: the one that the program's own initialisers leave, with the pinned table laid.
-/
import Derived.Test.YtkcjgncpcidfoaaGreatDoorRows
import Derived.Test.YtkcjgncpcidfoaaGreatDoorCode
import Derived.Test.YtkcjgncpcidfoaaGreatDoorLaidTexts
import Derived.LaidHandle
import Derived.Lay
namespace Go.Proofs.YtkcjgncpcidfoaaGreatDoor
open Go.ChangeShapes Go.WideShapes Go.RowKit

theorem Tryz.rt : (Tryz.prog.cutTypes.find? (·.1 == "internal/reflectlite.rtype")).map (·.2) = some 114 := by kernel_rfl
theorem Tryz.size : Tryz.prog.types.size = 201 := by kernel_rfl
theorem Tryz.oneRow : ((List.range 201).filter fun t => Tryz.prog.rowNamed t [101, 114, 114, 111, 114]) = [26] := by kernel_rfl
theorem Tryz.gErrType : Tryz.prog.globalNamed "errors.errorType" = some 13 := by kernel_rfl
def apiNums : List Nat := [1, 0, 3, 4, 5, 6, 7, 2, 8, 9, 10, 11, 12]
def handlePack : List (String × DataW Unit) := [("errors.errorType", Rows.laid_errors_errorType)]
def plainPack : List (String × DataW Unit) := Rows.packTellsRow.laid.filter fun x => x.2.handleName?.isNone

theorem tells_handles : (Rows.packTellsRow.laid.filter fun x => x.2.handleName?.isSome) = handlePack := by kernel_rfl
theorem tells_api : (plainPack.filter isApi) = apiTexts.map errData := by kernel_rfl
theorem tells_conv : (plainPack.filter isConv) = convTexts.map errData := by kernel_rfl
theorem tells_pow : (plainPack.filter isPow) = [("internal/strconv.uint64pow10", Lib.tabData .u64 Lib.pow10Tab)] := by kernel_rfl

theorem tells_envs {W : World} (h : laidMetH Tryz.prog Rows.packTellsRow.laid W) : ∃ p, Env p W ∧ SEnv p W := by
  obtain ⟨hl0, hh⟩ := laidMetH_iff.1 h
  have hl : laidMet Tryz.prog plainPack W := hl0
  rw [tells_handles] at hh
  obtain ⟨p, h1, h2, h3⟩ := errs_of_laid _ apiTexts apiNums isApi tells_api (by kernel_rfl) hl
  obtain ⟨q, k1, _, _⟩ := errs_of_laid _ convTexts convNums isConv tells_conv (by kernel_rfl) hl
  refine ⟨p, ⟨h1 0 (by decide), h1 1 (by decide), h1 2 (by decide), h1 3 (by decide), h1 4 (by decide), h1 5 (by decide), h1 6 (by decide), h1 7 (by decide), h1 8 (by decide), h1 9 (by decide), h1 10 (by decide), h1 11 (by decide), h1 12 (by decide), ?_, h2, h3⟩, ⟨h1 0 (by decide), h1 1 (by decide), ⟨_, k1 1 (by decide)⟩, ⟨_, k1 0 (by decide)⟩, tab_of_laid tells_pow hl⟩⟩
  obtain ⟨name, u, ty, e1, e2, e3, e4, e5⟩ := hh _ (List.mem_singleton.2 rfl)
  have en : name = [101, 114, 114, 111, 114] := (Option.some.inj e1).symm
  subst en
  obtain rfl := Option.some.inj (Tryz.rt.symm.trans e2)
  have hm : ty ∈ (List.range 201).filter fun t => Tryz.prog.rowNamed t [101, 114, 114, 111, 114] := List.mem_filter.2 ⟨List.mem_range.2 (by rw [← Tryz.size]; exact e3), e4⟩
  rw [Tryz.oneRow] at hm
  obtain rfl := List.mem_singleton.1 hm
  have hh : typeHandle Tryz.prog 26 = .pointer (some ⟨22, 26, none⟩) := by kernel_rfl
  rw [hh] at e5
  simpa using World.var?_cell Tryz.gErrType e5 0

def greatPack : List String := ["unicode/utf8.first"]
theorem tellsWorld_os (os : Os) : ((World.doorLaid Tryz.prog 326 os).layVars Tryz.prog (plainPack.filter fun x => greatPack.contains x.1)).os = os := (World.layVars_os _ _ _).trans rfl
def otherBlocks (n : Nat) : List Nat := (List.range n).filter (· != 20)

set_option maxRecDepth 100000 in
theorem tells_met (os : Os) (args : Array Value) : laidMetH Tryz.prog Rows.packTellsRow.laid (((World.doorLaid Tryz.prog 326 os).layVars Tryz.prog (plainPack.filter fun x => greatPack.contains x.1)).forCall (fun _ _ => 0) ⟨#[], args, []⟩).memory := by
  have hp : laidMet Tryz.prog plainPack ((World.doorLaid Tryz.prog 326 os).layVars Tryz.prog (plainPack.filter fun x => greatPack.contains x.1)) :=
    laidMet_layVars (w0 := World.doorLaid Tryz.prog 326 os) greatPack (otherBlocks (World.doorLaid Tryz.prog 326 os).heap.size) rfl (by kernel_rfl) (by kernel_rfl)
      (LaidIn.of_run _ 8 (by kernel_rfl) (by kernel_rfl) (by kernel_rfl) (by kernel_rfl))
  refine laidMetH_of_parts3 (fuel := 8) ?_ (by kernel_rfl) (by kernel_rfl)
  exact hp.of_heap (by simp [World.memory, World.forCall, Input.heap])
end Go.Proofs.YtkcjgncpcidfoaaGreatDoor
