/-
  The document's answer for paths, further: PathError, SameTexts, glue, Begins, IsIn, StripOf: contracts, over this seat's translation.
-/
import Derived.Test.YtmpfjambenkeeaaDoorRef
import Derived.Test.YtmpfjambenkeeaaDoorRefBegins
namespace Go.Proofs.YtmpfjambenkeeaaDoor
open Go.RowKit Go.Shelf

theorem pathError_any (s : List UInt8) (w : World) (hs : s.length ≤ 90000) :
    Calls Tryd.prog 35 #[.string ⟨s.toArray⟩] w fun e w' => e = .returned (.int .i64 (checkCode s)) ∧ Below w.heap.size w w' := by
  go_enter Tryd.func35, Tryd.ntmps35
  go_wp2_with fail
  refine (partsOf_any s _ hs).mono ?_
  rintro e w1 ⟨⟨v, rfl, _, _⟩, hb⟩
  have HB : Hid (Below w.heap.size w w1) := hb
  clear hb
  go_wp2
  go_ret
  exact ⟨rfl, HB.out⟩

theorem join_snoc {k : List (List UInt8)} (x : List UInt8) (h : k ≠ []) : Lib.join (k ++ [x]) [47] = Lib.join k [47] ++ [47] ++ x := by
  rw [join_app h (by simp), Lib.join_one]; simp

end Go.Proofs.YtmpfjambenkeeaaDoor
