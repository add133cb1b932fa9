/-
  The closed facts of the row of LockLoads, one by one (each by the kernel alone, so that none stands on another's memory): over this seat's translation.
-/
import Derived.Test.YtmcfkoenpikldaaGreatDoorRows
import Derived.JoinedOf
import Derived.KernelRfl
namespace Go.Proofs.YtmcfkoenpikldaaGreatDoor

set_option maxRecDepth 100000 in
set_option maxHeartbeats 80000000 in
theorem lockLoads_facts : joinedFacts Tryz.prog 6 Tryz.f6 Rows.lockLoadsSpec Rows.lockLoadsRow = true := by
  unfold joinedFacts
  simp only [Bool.and_eq_true]
  repeat' apply And.intro
  all_goals as_aux_lemma => kernel_rfl
end Go.Proofs.YtmcfkoenpikldaaGreatDoor
