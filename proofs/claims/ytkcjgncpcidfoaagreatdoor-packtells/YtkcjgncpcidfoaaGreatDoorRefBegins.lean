/-
  The document's answer's Begins: over this seat's translation.
-/
import Derived.Test.YtkcjgncpcidfoaaGreatDoorPart
import Derived.Test.YtkcjgncpcidfoaaGreatDoorCut
namespace Go.Proofs.YtkcjgncpcidfoaaGreatDoor
open Go.RowKit Go.Shelf

theorem begins_any (s q : List UInt8) (w : World) (_hs : s.length ≤ 200000) (_hq : q.length ≤ 200000) : Calls Tryz.prog 47 #[.string ⟨s.toArray⟩, .string ⟨q.toArray⟩] w fun e w' => e = .returned (.bool (Lib.hasPrefix s q)) ∧ w' = w := by
  by_cases h : s.length < q.length
  · have h' : (s.length : Int) < q.length := by omega
    have HF : Hid (Lib.hasPrefix s q = false) := by
      show Lib.hasPrefix s q = false
      rw [Bool.eq_false_iff]
      intro e
      have e' : q <+: s := by simpa [Lib.hasPrefix] using e
      have := e'.length_le
      omega
    go_enter Tryz.func47, Tryz.ntmps47
    go_wp2
    go_ret
    exact ⟨ret_bool HF.out.symm, rfl⟩
  · have h' : ¬ (s.length : Int) < q.length := by omega
    have h2 : q.length ≤ s.length := by omega
    clear h
    go_enter Tryz.func47, Tryz.ntmps47
    go_wp2
    go_ret
    refine ⟨ret_bool ?_, rfl⟩
    rw [extract_list, Lib.toList_data, Bool.eq_iff_iff]
    simp [Lib.hasPrefix]
    rw [List.prefix_iff_eq_take]
    exact eq_comm
end Go.Proofs.YtkcjgncpcidfoaaGreatDoor
