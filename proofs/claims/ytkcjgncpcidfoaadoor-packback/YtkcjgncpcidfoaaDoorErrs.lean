/-
  errors.Is and errors.As answer, at the errors of package api and at a *api.Fault, as their text says: contracts of the two calls, over this seat's translation.
  Conditions: the variable errors.errorType holds the handle of type error; two errors that differ lie in two unmarked blocks.
-/
import Derived.Test.YtkcjgncpcidfoaaDoorProg
import Derived.WalkKit
import Derived.LaidEql
import Derived.Stop.Asserts
import Derived.RowKitTokens
namespace Go.Proofs.YtkcjgncpcidfoaaDoor
open Go.RowKit Go.Extern.Stop Go.Stop Go.Extern

/-! ### errors.Is -/
def comparableFn : Array Value → Sem Value := Extern.ReflectliteType.method fun t => do Extern.Rtype.noPackHeld "Comparable" t; pure (.bool (← typeInfo t).comparable)
theorem Tryd.isComparable (w : World) : (comparableFn #[.agg #[.pointer (some ⟨16, 121, none⟩)]]).run Tryd.prog w = .ok (.bool true) w := by kernel_rfl
theorem Tryd.isComp : (Tryd.prog.info? 121).map (·.comparable) = some true := by kernel_rfl
theorem Tryd.isSize : (Tryd.prog.info? 123).map (·.size) = some 1 := by kernel_rfl

end Go.Proofs.YtkcjgncpcidfoaaDoor
