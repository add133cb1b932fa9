/-
  The closed fact pathed holds: over this seat's translation.
-/
import Derived.Test.YtpogcedghbokbaaDoorPaths
namespace Go.Proofs.YtpogcedghbokbaaDoor
open Go.RowKit Go.Shelf

set_option maxRecDepth 100000 in
theorem pathed_any (p : Nat → Addr) (w : World) (hE : Env p w) : Calls Tryd.prog 6 #[] w fun e w' => e = .returned (.bool true) ∧ Below w.heap.size w w' := by
  have HE : Hid (Env p w) := hE
  clear hE
  have H1 : Hid (cleanL [97, 47, 46, 47, 98, 47, 47, 46, 46, 47, 99] = ([97, 47, 99], 0)) := by show cleanL _ = _; decide +kernel
  have H2 : Hid (cleanL [97, 47, 46, 46, 47, 46, 46] = ([], 10)) := by show cleanL _ = _; decide +kernel
  go_enter Tryd.func6, Tryd.ntmps6
  go_wp2_with fail
  refine (clean_ok p [97, 47, 46, 47, 98, 47, 47, 46, 46, 47, 99] [97, 47, 99] _ HE.out (by decide) H1.out).mono ?_
  rintro e w1 ⟨rfl, hb1⟩
  have HB1 : Hid (Below w.heap.size w w1) := hb1
  have HE1 : Hid (Env p w1) := HE.out.below hb1
  clear hb1
  go_wp2_with fail
  refine (clean_bad p [97, 47, 46, 46, 47, 46, 46] [] 9 _ HE1.out (by decide) H2.out).mono ?_
  rintro e w2 ⟨rfl, hb2⟩
  have HB2 : Hid (Below w.heap.size w w2) := HB1.out.trans (hb2.mono HB1.out.size)
  have HE2 : Hid (Env p w2) := HE1.out.below hb2
  clear hb2
  go_wp2_with fail
  refine (coded_sent p 9 10 _ HE2.out (by decide) (by decide)).mono ?_
  rintro e w3 ⟨rfl, hb3⟩
  have HB3 : Hid (Below w.heap.size w w3) := HB2.out.trans (hb3.mono HB2.out.size)
  clear hb3
  go_wp2
  go_ret
  exact ⟨rfl, HB3.out⟩
end Go.Proofs.YtpogcedghbokbaaDoor
