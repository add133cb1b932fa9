/-
  What the rows list of the package-level variables gives the walks: thirteen errors at thirteen addresses and the handle of type error (Env); and a world that meets the list: the one that the program's own initialisers leave.
-/
import Derived.Test.YtpogcedghbokbaaGreatDoorRows
import Derived.Test.YtpogcedghbokbaaGreatDoorCode
import Derived.Test.YtpogcedghbokbaaGreatDoorLaidErrs
import Derived.ProofKit
import Derived.LaidMore
import Derived.LaidLaws
import Derived.LaidHandle
import Derived.Stop.Joined
namespace Go.Proofs.YtpogcedghbokbaaGreatDoor
open Go.ChangeShapes Go.WideShapes Go.RowKit

theorem Tryz.rt : (Tryz.prog.cutTypes.find? (·.1 == "internal/reflectlite.rtype")).map (·.2) = some 144 := by kernel_rfl
theorem Tryz.size : Tryz.prog.types.size = 205 := by kernel_rfl
theorem Tryz.oneRow : ((List.range 205).filter fun t => Tryz.prog.rowNamed t [101, 114, 114, 111, 114]) = [28] := by kernel_rfl
theorem Tryz.gErrType : Tryz.prog.globalNamed "errors.errorType" = some 13 := by kernel_rfl

def errTexts : List (String × List UInt8) := [
  ("chandlery/api.ErrText", [99, 104, 97, 110, 100, 108, 101, 114, 121, 58, 32, 116, 101, 120, 116]),
  ("chandlery/api.ErrBound", [99, 104, 97, 110, 100, 108, 101, 114, 121, 58, 32, 98, 111, 117, 110, 100]),
  ("chandlery/api.ErrShape", [99, 104, 97, 110, 100, 108, 101, 114, 121, 58, 32, 115, 104, 97, 112, 101]),
  ("chandlery/api.ErrKind", [99, 104, 97, 110, 100, 108, 101, 114, 121, 58, 32, 107, 105, 110, 100]),
  ("chandlery/api.ErrName", [99, 104, 97, 110, 100, 108, 101, 114, 121, 58, 32, 110, 97, 109, 101]),
  ("chandlery/api.ErrNone", [99, 104, 97, 110, 100, 108, 101, 114, 121, 58, 32, 110, 111, 110, 101]),
  ("chandlery/api.ErrExist", [99, 104, 97, 110, 100, 108, 101, 114, 121, 58, 32, 101, 120, 105, 115, 116]),
  ("chandlery/api.ErrFull", [99, 104, 97, 110, 100, 108, 101, 114, 121, 58, 32, 102, 117, 108, 108]),
  ("chandlery/api.ErrOrder", [99, 104, 97, 110, 100, 108, 101, 114, 121, 58, 32, 111, 114, 100, 101, 114]),
  ("chandlery/api.ErrOut", [99, 104, 97, 110, 100, 108, 101, 114, 121, 58, 32, 111, 117, 116]),
  ("chandlery/api.ErrClash", [99, 104, 97, 110, 100, 108, 101, 114, 121, 58, 32, 99, 108, 97, 115, 104]),
  ("chandlery/api.ErrSum", [99, 104, 97, 110, 100, 108, 101, 114, 121, 58, 32, 115, 117, 109]),
  ("chandlery/api.ErrOff", [99, 104, 97, 110, 100, 108, 101, 114, 121, 58, 32, 111, 102, 102])]

def handleList : List (String × DataW Unit) := [("errors.errorType", Rows.laid_errors_errorType)]

theorem filterSome : (Rows.treeGraftsRow.laid.filter fun x => x.2.handleName?.isSome) = handleList := by kernel_rfl
theorem filterNone : (Rows.treeGraftsRow.laid.filter fun x => x.2.handleName?.isNone) = (errTexts.map fun x => (x.1, .iface "*errors.errorString" (.ptr (.agg [.lit (.string x.2)])))) := by kernel_rfl

/-- The thirteen variables' numbers. -/
def errNums : List Nat := [7, 1, 8, 9, 6, 2, 3, 0, 4, 10, 5, 11, 12]

theorem errGlobals : (List.range 13).all (fun i => match errTexts[i]? with | some x => Tryz.prog.globalNamed x.1 == some (errNums.getD i 0) && (Tryz.prog.globals[errNums.getD i 0]?).map (·.type) == some 28 | none => false) = true := by kernel_rfl

theorem errGlobal (i : Nat) (x : String × List UInt8) (h : errTexts[i]? = some x) : Tryz.prog.globalNamed x.1 = some (errNums.getD i 0) ∧ (Tryz.prog.globals[errNums.getD i 0]?).map (·.type) = some 28 := by
  have hl : i < 13 := by
    have := (List.getElem?_eq_some_iff.1 h).1
    simpa [errTexts] using this
  have := List.all_eq_true.1 errGlobals i (List.mem_range.2 hl)
  rw [h] at this
  simpa using this

theorem env_of_laid {W : World} (h : laidMetH Tryz.prog Rows.treeGraftsRow.laid W) : ∃ p, Env p W := by
  unfold laidMetH at h
  rw [filterSome, filterNone] at h
  have h' : laidMet Tryz.prog (errTexts.map fun x => (x.1, .iface "*errors.errorString" (.ptr (.agg [.lit (.string x.2)])))) W ∧ handlesMet Tryz.prog handleList W := h
  obtain ⟨⟨ps, hv, hnd, hrows⟩, hh⟩ := h'
  obtain ⟨zs, hl, hn, hm, hr⟩ := sentinels_of_laid Tryz.underlying28 Tryz.row56 Tryz.underlying175 Tryz.underlying194 rfl rfl Tryz.underlying9 Tryz.cells58 Tryz.cells9 errTexts ps
    (fun x hx => by
      obtain ⟨i, hi, e⟩ := List.getElem_of_mem hx
      exact ⟨errNums.getD i 0, errGlobal i x (by rw [List.getElem?_eq_getElem hi, e])⟩) hv hnd hrows
  have hl13 : zs.length = 13 := by rw [hl]; rfl
  have hzs : ∀ k, k < 13 → ∃ x, errTexts[k]? = some x ∧ zs[k]? = some (zs.getD k ⟨0, 0, none⟩) := fun k hk => by
    have h1 : k < errTexts.length := by simpa [errTexts] using hk
    have h2 : k < zs.length := by omega
    exact ⟨errTexts[k], List.getElem?_eq_getElem h1, by rw [List.getD_eq_getElem?_getD, List.getElem?_eq_getElem h2]; rfl⟩
  have hs : ∀ k, k < 13 → W.cell? ⟨errNums.getD k 0, 0, none⟩ = some (.iface 175 (.pointer (some (zs.getD k ⟨0, 0, none⟩)))) := fun k hk => by
    obtain ⟨x, hx, ha⟩ := hzs k hk
    have := hr k x _ hx ha
    simpa using World.var?_cell (errGlobal k x hx).1 this 0
  refine ⟨fun k => zs.getD k ⟨0, 0, none⟩, ⟨hs 0 (by decide), hs 1 (by decide), hs 2 (by decide), hs 3 (by decide), hs 4 (by decide), hs 5 (by decide), hs 6 (by decide), hs 7 (by decide), hs 8 (by decide), hs 9 (by decide), hs 10 (by decide), hs 11 (by decide), hs 12 (by decide), ?_, fun k hk => ?_, fun k l hk hl' e => ?_⟩⟩
  · obtain ⟨name, u, ty, e1, e2, e3, e4, e5⟩ := hh _ (List.mem_singleton.2 rfl)
    have en : name = [101, 114, 114, 111, 114] := (Option.some.inj e1).symm
    subst en
    obtain rfl := Option.some.inj (Tryz.rt.symm.trans e2)
    have hm : ty ∈ (List.range 205).filter fun t => Tryz.prog.rowNamed t [101, 114, 114, 111, 114] := List.mem_filter.2 ⟨List.mem_range.2 (by rw [← Tryz.size]; exact e3), e4⟩
    rw [Tryz.oneRow] at hm
    obtain rfl := List.mem_singleton.1 hm
    have hh : typeHandle Tryz.prog 28 = .pointer (some ⟨15, 28, none⟩) := by kernel_rfl
    rw [hh] at e5
    simpa using World.var?_cell Tryz.gErrType e5 0
  · obtain ⟨x, hx, ha⟩ := hzs k hk
    exact (hrows _ _ (hm _ (List.mem_of_getElem? ha))).1
  · obtain ⟨x, hx, ha⟩ := hzs k hk
    obtain ⟨y, hy, hb⟩ := hzs l hl'
    have e' : zs.getD k ⟨0, 0, none⟩ = zs.getD l ⟨0, 0, none⟩ := e
    rw [← e'] at hb
    exact (List.getElem?_inj (by omega) hn).1 (ha.trans hb.symm)

/-- The heap that the program's own initialisers leave meets the list. -/
theorem door_met (os : Os) (args : Array Value) : laidMetH Tryz.prog Rows.treeGraftsRow.laid ((World.doorLaid Tryz.prog 263 os).forCall (fun _ _ => 0) ⟨#[], args, []⟩).memory :=
  laidMetH_of_parts3 (fuel := 8) (laidMet_of_run' 8 (by kernel_rfl) (by kernel_rfl)) (by kernel_rfl) (by kernel_rfl)
end Go.Proofs.YtpogcedghbokbaaGreatDoor
