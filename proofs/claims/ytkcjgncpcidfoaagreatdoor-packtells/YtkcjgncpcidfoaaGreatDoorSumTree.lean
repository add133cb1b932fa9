/-
  The sum of a tree, plainly: no machine.
-/
import Derived.Test.YtkcjgncpcidfoaaGreatDoorPackPure
import Derived.Test.YtkcjgncpcidfoaaGreatDoorSumPure
namespace Go.Proofs.YtkcjgncpcidfoaaGreatDoor

/-- The sum of a tree (none: 0). -/
def sumT (l : List F) : Nat := if (treeFault l).1 = 0 then sumL (packL l) else 0
theorem sum_yes {l : List F} (h : (treeFault l).1 = 0) : sumT l = sumL (packL l) := by unfold sumT; rw [if_pos h]
theorem sum_no {l : List F} (h : (treeFault l).1 ≠ 0) : sumT l = 0 := by unfold sumT; rw [if_neg h]
end Go.Proofs.YtkcjgncpcidfoaaGreatDoor
