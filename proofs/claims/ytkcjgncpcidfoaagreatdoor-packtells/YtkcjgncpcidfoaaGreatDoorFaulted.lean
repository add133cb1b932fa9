/-
  The law package's faulted: over this seat's translation.
-/
import Derived.Test.YtkcjgncpcidfoaaGreatDoorSlots
namespace Go.Proofs.YtkcjgncpcidfoaaGreatDoor
open Go.RowKit

set_option maxRecDepth 100000 in
theorem faulted_yes (e : Value) (c n : Int) (w : World) (h : ∀ w1, Below w.heap.size w w1 → Calls Tryz.prog 21 #[e] w1 fun e w' => e = .returned (.tuple #[.int .i64 c, .int .i64 n]) ∧ Below w1.heap.size w1 w') :
    Calls Tryz.prog 9 #[e, .agg #[.int .i64 c, .int .i64 n]] w fun e w' => e = .returned (.bool true) ∧ Below w.heap.size w w' := by
  have H : Hid (∀ w1, Below w.heap.size w w1 → Calls Tryz.prog 21 #[e] w1 fun e w' => e = .returned (.tuple #[.int .i64 c, .int .i64 n]) ∧ Below w1.heap.size w1 w') := h
  clear h
  by_cases hc : c = 0
  · subst hc
    go_enter Tryz.func9, Tryz.ntmps9
    go_wp2_with fail
    refine (H.out _ ((Below.refl _ _).alloc (Nat.le_refl _) _)).mono ?_
    rintro e1 w1 ⟨rfl, hb1⟩
    obtain ⟨s0, s1, s2, s3, s4⟩ := slot_two (w := w) (hb1.mono (by simp))
    have HB : Hid (Below w.heap.size w w1) := s4
    clear hb1 s4
    go_wp2
    go_ret
    exact ⟨rfl, HB.out⟩
  · have hc' : (c == 0) = false := by simpa using hc
    go_enter Tryz.func9, Tryz.ntmps9
    go_wp2_with fail
    refine (H.out _ ((Below.refl _ _).alloc (Nat.le_refl _) _)).mono ?_
    rintro e1 w1 ⟨rfl, hb1⟩
    obtain ⟨s0, s1, s2, s3, s4⟩ := slot_two (w := w) (hb1.mono (by simp))
    have HB : Hid (Below w.heap.size w w1) := s4
    clear hb1 s4
    go_wp2
    go_ret
    exact ⟨rfl, HB.out⟩
end Go.Proofs.YtkcjgncpcidfoaaGreatDoor
