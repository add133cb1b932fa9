/-
  What is grafted with no error: a fact on lists of files (no Go text is spoken of here).
-/
import Derived.Test.YtpogcedghbokbaaGreatDoorTreeFacts
namespace Go.Proofs.YtpogcedghbokbaaGreatDoor

theorem graft_fine {l m : List F} {d : List UInt8} (h : (graftT l d m).2.1 = 0) : ∃ t, graftT l d m = (t, 0, -1) ∧ (treeFault l).1 = 0 ∧ (treeFault m).1 = 0 ∧ Grafted l d m t := by
  obtain ⟨h1, h2, hG⟩ := graft_zero h
  refine ⟨(graftT l d m).1, ?_, h1, h2, hG⟩
  have h3 : (graftT l d m).2.2 = -1 := by
    unfold graftT at h ⊢
    rw [if_neg (by simp [h1]), if_neg (by simp [h2])] at h ⊢
    repeat' split
    all_goals rfl
  generalize graftT l d m = r at h h3
  obtain ⟨x, y, z⟩ := r
  simp only at h h3
  subst h h3
  rfl
end Go.Proofs.YtpogcedghbokbaaGreatDoor
