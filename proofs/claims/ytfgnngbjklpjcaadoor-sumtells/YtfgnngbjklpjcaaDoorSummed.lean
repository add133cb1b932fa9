/-
  The closed fact on sums (summed): over this seat's translation.
-/
import Derived.Test.YtfgnngbjklpjcaaDoorPkRead
namespace Go.Proofs.YtfgnngbjklpjcaaDoor
open Go.RowKit

theorem of_is (l : List UInt8) (k : Nat) (w : World) (hl : l.length ≤ 281474976710656) (h : sumL l = k) : Calls Tryd.prog 7 #[.string ⟨l.toArray⟩] w fun e w' => e = .returned (.int .i64 k) ∧ w' = w := by
  subst h
  exact pkOf_any l w hl

theorem summed_any (w : World) : Calls Tryd.prog 5 #[] w fun e w' => e = .returned (.bool true) ∧ w' = w := by
  go_enter Tryd.func5, Tryd.ntmps5
  go_wp2_with fail
  refine (of_is [] 0 _ (by decide) (by decide)).mono ?_
  rintro e w' ⟨rfl, rfl⟩
  go_wp2_with fail
  refine (of_is [97] 98 _ (by decide) (by decide)).mono ?_
  rintro e w' ⟨rfl, rfl⟩
  go_wp2_with fail
  refine (of_is [97, 98] 25873 _ (by decide) (by decide)).mono ?_
  rintro e w' ⟨rfl, rfl⟩
  go_wp2
  go_ret
  exact ⟨rfl, rfl⟩
end Go.Proofs.YtfgnngbjklpjcaaDoor
