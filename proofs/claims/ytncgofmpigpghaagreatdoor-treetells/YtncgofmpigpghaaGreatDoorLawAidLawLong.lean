/-
  Own texts of the proof, joined by program: LawAid, LawLong.
-/
import Derived.Test.YtncgofmpigpghaaGreatDoorLawTreeCame
import Derived.Test.YtncgofmpigpghaaGreatDoorRooted
import Derived.Test.YtncgofmpigpghaaGreatDoorPkGraft
import Derived.Test.YtncgofmpigpghaaGreatDoorPkStrip
import Derived.Test.YtncgofmpigpghaaGreatDoorPkSameRefSame
import Derived.Test.YtncgofmpigpghaaGreatDoorTreeFactsTreeInsertTreeAt
/-
  What the walks of the statements on trees share: over this seat's translation.
-/
namespace Go.Proofs.YtncgofmpigpghaaGreatDoor
open Go.RowKit Go.Shelf

theorem graft_fine {l m : List F} {d : List UInt8} (h : (graftT l d m).2.1 = 0) : ∃ t, graftT l d m = (t, 0, -1) ∧ (treeFault l).1 = 0 ∧ (treeFault m).1 = 0 ∧ Grafted l d m t := by
  obtain ⟨h1, h2, hG⟩ := graft_zero h
  refine ⟨(graftT l d m).1, ?_, h1, h2, hG⟩
  have h3 : (graftT l d m).2.2 = -1 := by
    unfold graftT at h ⊢
    rw [if_neg (by simp [h1]), if_neg (by simp [h2])] at h ⊢
    repeat' split
    all_goals rfl
  generalize graftT l d m = r at h h3
  obtain ⟨x, y, z⟩ := r
  simp only at h h3
  subst h h3
  rfl
theorem graft_none {l m : List F} {d : List UInt8} (h : (graftT l d m).2.1 ≠ 0) : ∃ c i, graftT l d m = ([], c, i) ∧ c ≠ 0 := by
  have h0 := graft_bad h
  generalize graftT l d m = r at h h0
  obtain ⟨x, y, z⟩ := r
  simp only at h h0
  subst h0
  exact ⟨y, z, rfl, h⟩
theorem under_fine {t : List F} {d : List UInt8} (h : (treeFault t).1 = 0) : underT t d = (underL t d, 0, -1) := by simp [underT, h]
end Go.Proofs.YtncgofmpigpghaaGreatDoor
/-
  What the statements' walks say of files that are too long: over this seat's translation.
-/
namespace Go.Proofs.YtncgofmpigpghaaGreatDoor
open Go.RowKit Go.Shelf

theorem came_one (W : World) (x : F) (T : TypeId) (hp : x.p.length ≤ maxLen) (ht : x.t.length ≤ maxLen) : Came (W.alloc (.cells #[sv x.p, .bool x.r, sv x.t] T)).drew (some ⟨W.heap.size, 0, none⟩) 1 [x] :=
  ⟨lies_one W x T, by simp, by unfold maxLen; simp, fun f hf => by rw [List.mem_singleton.1 hf]; exact ⟨hp, ht⟩, fun h => by cases h⟩
theorem long_one (W : World) (x : F) (c : Int) (hp : x.p.length ≤ maxLen) (ht : x.t.length ≤ maxLen) (hc : (longL [x] : Int) = c) :
    Calls Tryz.prog 7 #[.slice (some ⟨W.heap.size, 0, none⟩) 1 1] (W.alloc (.cells #[sv x.p, .bool x.r, sv x.t] 24)).drew fun e w' => e = .returned (.int .i64 c) ∧ w' = (W.alloc (.cells #[sv x.p, .bool x.r, sv x.t] 24)).drew :=
  long_is (came_one W x _ hp ht) c hc
theorem one_of_long {x : F} (h : (longL [x] : Int) = 0) : x.p.length ≤ 40000 ∧ x.t.length ≤ 500000 := by
  have := small_of_long h
  exact ⟨this.path x (by simp), this.text x (by simp)⟩

end Go.Proofs.YtncgofmpigpghaaGreatDoor
