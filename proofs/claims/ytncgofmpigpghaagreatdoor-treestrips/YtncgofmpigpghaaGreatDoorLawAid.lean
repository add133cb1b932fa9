/-
  What the walks of the statements on trees share: over this seat's translation.
-/
import Derived.Test.YtncgofmpigpghaaGreatDoorLawTreeCame
import Derived.Test.YtncgofmpigpghaaGreatDoorRooted
import Derived.Test.YtncgofmpigpghaaGreatDoorPkGraft
import Derived.Test.YtncgofmpigpghaaGreatDoorPkStrip
import Derived.Test.YtncgofmpigpghaaGreatDoorPkSame
import Derived.Test.YtncgofmpigpghaaGreatDoorTreeFactsTreeInsertTreeAt
namespace Go.Proofs.YtncgofmpigpghaaGreatDoor
open Go.RowKit Go.Shelf

theorem graft_fine {l m : List F} {d : List UInt8} (h : (graftT l d m).2.1 = 0) : ∃ t, graftT l d m = (t, 0, -1) ∧ (treeFault l).1 = 0 ∧ (treeFault m).1 = 0 ∧ Grafted l d m t := by
  obtain ⟨h1, h2, hG⟩ := graft_zero h
  refine ⟨(graftT l d m).1, ?_, h1, h2, hG⟩
  have h3 : (graftT l d m).2.2 = -1 := by
    unfold graftT at h ⊢
    rw [if_neg (by simp [h1]), if_neg (by simp [h2])] at h ⊢
    repeat' split
    all_goals rfl
  generalize graftT l d m = r at h h3
  obtain ⟨x, y, z⟩ := r
  simp only at h h3
  subst h h3
  rfl
theorem graft_none {l m : List F} {d : List UInt8} (h : (graftT l d m).2.1 ≠ 0) : ∃ c i, graftT l d m = ([], c, i) ∧ c ≠ 0 := by
  have h0 := graft_bad h
  generalize graftT l d m = r at h h0
  obtain ⟨x, y, z⟩ := r
  simp only at h h0
  subst h0
  exact ⟨y, z, rfl, h⟩
theorem under_fine {t : List F} {d : List UInt8} (h : (treeFault t).1 = 0) : underT t d = (underL t d, 0, -1) := by simp [underT, h]
end Go.Proofs.YtncgofmpigpghaaGreatDoor
