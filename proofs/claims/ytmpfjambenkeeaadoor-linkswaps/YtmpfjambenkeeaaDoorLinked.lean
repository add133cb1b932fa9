/-
  The closed fact of the laws on links: a link is swapped, its host told: over this seat's translation.
-/
import Derived.Test.YtmpfjambenkeeaaDoorPkLinks
namespace Go.Proofs.YtmpfjambenkeeaaDoor
open Go.RowKit Go.Shelf

theorem linked_swap : swapK [104, 116, 116, 112, 58, 47, 47, 97, 47, 120, 47] [102, 116, 112, 58, 47, 47, 98, 47] [104, 116, 116, 112, 58, 47, 47, 97, 47, 120, 47, 121] = ([102, 116, 112, 58, 47, 47, 98, 47, 121], 0) := by decide +kernel
theorem linked_host : readK [104, 116, 116, 112, 58, 47, 47, 97, 47, 120, 47, 121] = ([97], [120, 47, 121], 0) := by decide +kernel

set_option maxRecDepth 100000 in
theorem linked_any (p : Nat → Addr) (w : World) (hE : LEnv p w) : Calls Tryd.prog 7 #[] w fun e w' => e = .returned (.bool true) ∧ Below w.heap.size w w' := by
  have HE := Lib.hid hE
  clear hE
  go_enter Tryd.func7, Tryd.ntmps7
  go_wp2_with fail
  refine (linkSwap_any p [104, 116, 116, 112, 58, 47, 47, 97, 47, 120, 47] [102, 116, 112, 58, 47, 47, 98, 47] [104, 116, 116, 112, 58, 47, 47, 97, 47, 120, 47, 121] _ HE.out (by decide) (by decide) (by decide)).mono ?_
  rintro e w1 ⟨rfl, hb1⟩
  have HB1 := Lib.hid hb1
  clear hb1
  rw [linked_swap, errV_zero]
  go_wp2_with fail
  refine (hostOf_any p [104, 116, 116, 112, 58, 47, 47, 97, 47, 120, 47, 121] _ (HE.out.below HB1.out) (by decide)).mono ?_
  rintro e w2 ⟨rfl, hb2⟩
  have HB2 := Lib.hid (HB1.out.trans (hb2.mono HB1.out.size))
  clear hb2
  rw [checkK, linked_host, errV_zero]
  go_wp2
  go_ret
  exact ⟨rfl, HB2.out⟩
end Go.Proofs.YtmpfjambenkeeaaDoor
