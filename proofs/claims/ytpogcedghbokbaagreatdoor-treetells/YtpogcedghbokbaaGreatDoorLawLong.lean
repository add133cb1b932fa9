/-
  What the statements' walks say of files that are too long: over this seat's translation.
-/
import Derived.Test.YtpogcedghbokbaaGreatDoorLawAid
namespace Go.Proofs.YtpogcedghbokbaaGreatDoor
open Go.RowKit Go.Shelf

theorem came_one (W : World) (x : F) (T : TypeId) (hp : x.p.length ≤ maxLen) (ht : x.t.length ≤ maxLen) : Came (W.alloc (.cells #[sv x.p, .bool x.r, sv x.t] T)).drew (some ⟨W.heap.size, 0, none⟩) 1 [x] :=
  ⟨lies_one W x T, by simp, by unfold maxLen; simp, fun f hf => by rw [List.mem_singleton.1 hf]; exact ⟨hp, ht⟩, fun h => by cases h⟩
theorem long_one (W : World) (x : F) (c : Int) (hp : x.p.length ≤ maxLen) (ht : x.t.length ≤ maxLen) (hc : (longL [x] : Int) = c) :
    Calls Tryz.prog 7 #[.slice (some ⟨W.heap.size, 0, none⟩) 1 1] (W.alloc (.cells #[sv x.p, .bool x.r, sv x.t] 24)).drew fun e w' => e = .returned (.int .i64 c) ∧ w' = (W.alloc (.cells #[sv x.p, .bool x.r, sv x.t] 24)).drew :=
  long_is (came_one W x _ hp ht) c hc
theorem one_of_long {x : F} (h : (longL [x] : Int) = 0) : x.p.length ≤ 40000 ∧ x.t.length ≤ 500000 := by
  have := small_of_long h
  exact ⟨this.path x (by simp), this.text x (by simp)⟩

end Go.Proofs.YtpogcedghbokbaaGreatDoor
