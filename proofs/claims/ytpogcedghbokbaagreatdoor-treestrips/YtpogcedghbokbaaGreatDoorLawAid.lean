/-
  What the walks of the statements on trees share: over this seat's translation.
-/
import Derived.Test.YtpogcedghbokbaaGreatDoorCame
import Derived.Test.YtpogcedghbokbaaGreatDoorRooted
import Derived.Test.YtpogcedghbokbaaGreatDoorPkGraft
import Derived.Test.YtpogcedghbokbaaGreatDoorPkStrip
import Derived.Test.YtpogcedghbokbaaGreatDoorPkSame
import Derived.Test.YtpogcedghbokbaaGreatDoorTreeInsert
import Derived.Test.YtpogcedghbokbaaGreatDoorGraftFine
namespace Go.Proofs.YtpogcedghbokbaaGreatDoor
open Go.RowKit Go.Shelf

theorem graft_none {l m : List F} {d : List UInt8} (h : (graftT l d m).2.1 ≠ 0) : ∃ c i, graftT l d m = ([], c, i) ∧ c ≠ 0 := by
  have h0 := graft_bad h
  generalize graftT l d m = r at h h0
  obtain ⟨x, y, z⟩ := r
  simp only at h h0
  subst h0
  exact ⟨y, z, rfl, h⟩
theorem under_fine {t : List F} {d : List UInt8} (h : (treeFault t).1 = 0) : underT t d = (underL t d, 0, -1) := by simp [underT, h]
end Go.Proofs.YtpogcedghbokbaaGreatDoor
