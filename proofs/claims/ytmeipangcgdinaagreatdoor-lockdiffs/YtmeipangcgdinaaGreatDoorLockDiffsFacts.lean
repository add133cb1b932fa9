/-
  The closed facts of the row of LockDiffs, one by one (each by the kernel alone, so that none stands on another's memory): over this seat's translation.
-/
import Derived.Test.YtmeipangcgdinaaGreatDoorRows
import Derived.JoinedOf
import Derived.KernelRfl
namespace Go.Proofs.YtmeipangcgdinaaGreatDoor

set_option maxRecDepth 100000 in
set_option maxHeartbeats 80000000 in
theorem lockDiffs_facts : joinedFacts Tryz.prog 3 Tryz.f3 Rows.lockDiffsSpec Rows.lockDiffsRow = true := by
  unfold joinedFacts
  simp only [Bool.and_eq_true]
  repeat' apply And.intro
  all_goals as_aux_lemma => kernel_rfl
end Go.Proofs.YtmeipangcgdinaaGreatDoor
