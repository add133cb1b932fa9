/-
  The law package's coded, told of an error by its number, over this seat's translation.
-/
import Derived.Test.YtmpfjambenkeeaaDoorCoded
import Derived.Test.YtmpfjambenkeeaaDoorErrV
namespace Go.Proofs.YtmpfjambenkeeaaDoor
open Go.RowKit

/-- coded(err, code) of one of the thirteen. -/
theorem coded_sent (p : Nat → Addr) (j : Nat) (c : Int) (w : World) (hE : Env p w) (hj : j < 13) (hc : (j : Int) + 1 = c) :
    Calls Tryd.prog 13 #[.iface 123 (.pointer (some (p j))), .int .i64 c] w fun e w' => e = .returned (.bool true) ∧ Below w.heap.size w w' := by
  subst hc
  exact coded_yes _ _ _ (code_sent p j w hE hj)

theorem coded_errV (p : Nat → Addr) (c : Nat) (w : World) (hE : Env p w) (hc : c ≤ 13) :
    Calls Tryd.prog 13 #[errV p c, .int .i64 c] w fun e w' => e = .returned (.bool true) ∧ Below w.heap.size w w' := by
  cases c with
  | zero => exact coded_nil w
  | succ k => exact coded_sent p k ((k + 1 : Nat) : Int) w hE (by omega) (by omega)
end Go.Proofs.YtmpfjambenkeeaaDoor
