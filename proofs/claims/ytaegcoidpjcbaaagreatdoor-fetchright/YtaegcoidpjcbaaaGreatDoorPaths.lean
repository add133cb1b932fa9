/-
  path.Join and path.In answer as the plain functions say: contracts, over this seat's translation.
-/
import Derived.Test.YtaegcoidpjcbaaaGreatDoorClean
import Derived.Test.YtaegcoidpjcbaaaGreatDoorCodedCodedVCodedTwoKept
namespace Go.Proofs.YtaegcoidpjcbaaaGreatDoor
open Go.RowKit Go.Shelf

theorem check_is (p : Nat → Addr) (s : List UInt8) (k : Nat) (w : World) (hE : Env p w) (hs : s.length ≤ 90000) (h : checkCode s = k) :
    Calls Tryz.prog 113 #[.string ⟨s.toArray⟩] w fun e w' => e = .returned (errV p k) ∧ Below w.heap.size w w' := by
  have := check_any p s w hE hs
  rwa [h] at this

theorem cat_list (a b : List UInt8) : ({ data := a.toArray } : ByteArray) ++ { data := b.toArray } = ⟨(a ++ b).toArray⟩ := by
  apply ByteArray.ext
  simp

theorem check_ok (p : Nat → Addr) (s : List UInt8) (w : World) (hE : Env p w) (hs : s.length ≤ 90000) (h : checkCode s = 0) :
    Calls Tryz.prog 113 #[.string ⟨s.toArray⟩] w fun e w' => e = .returned .nilIface ∧ Below w.heap.size w w' := check_is p s 0 w hE hs h
theorem check_bad (p : Nat → Addr) (s : List UInt8) (k : Nat) (w : World) (hE : Env p w) (hs : s.length ≤ 90000) (h : checkCode s = k + 1) :
    Calls Tryz.prog 113 #[.string ⟨s.toArray⟩] w fun e w' => e = .returned (.iface 311 (.pointer (some (p k)))) ∧ Below w.heap.size w w' := check_is p s (k + 1) w hE hs h

/-- Join of a text below a directory. -/
def joinTo (dir s : List UInt8) : List UInt8 := if dir = [] then s else dir ++ 47 :: s

def isIn (s dir : List UInt8) : Bool := decide (checkCode s = 0) && (dir.isEmpty || Lib.hasPrefix s (dir ++ [47]))

set_option maxHeartbeats 1000000 in
theorem in_any (p : Nat → Addr) (s dir : List UInt8) (w : World) (hE : Env p w) (hs : s.length ≤ 90000) (hd : dir.length ≤ 90000) :
    Calls Tryz.prog 123 #[.string ⟨s.toArray⟩, .string ⟨dir.toArray⟩] w fun e w' => e = .returned (.bool (isIn s dir)) ∧ Below w.heap.size w w' := by
  have HE : Hid (Env p w) := hE
  clear hE
  by_cases hc : checkCode s = 0
  · have HI : Hid (isIn s dir = (dir.isEmpty || Lib.hasPrefix s (dir ++ [47]))) := by
      show isIn s dir = _
      simp [isIn, hc]
    have HC : Hid (checkCode s = 0) := hc
    clear hc
    go_enter Tryz.func123, Tryz.ntmps123
    go_wp2_with fail
    refine (check_is p s 0 _ HE.out hs HC.out).mono ?_
    rintro e w1 ⟨rfl, hb⟩
    have HB : Hid (Below w.heap.size w w1) := hb
    clear hb
    rw [errV_zero]
    by_cases h0 : dir = []
    · subst h0
      go_wp2
      go_ret
      exact ⟨ret_bool (by rw [HI.out]; rfl), HB.out⟩
    · have hb0 : dir.isEmpty = false := by simpa using h0
      have HI' : Hid (Lib.hasPrefix s (dir ++ [47]) = isIn s dir) := by
        show Lib.hasPrefix s (dir ++ [47]) = isIn s dir
        rw [HI.out, hb0]; simp
      clear h0 HI
      go_wp2_with fail
      rw [show ({ data := dir.toArray } : ByteArray) ++ { data := #[47] } = ⟨(dir ++ [47]).toArray⟩ from by
        rw [show ({ data := #[47] } : ByteArray) = ⟨[47].toArray⟩ from rfl, cat_list]]
      refine (hasPrefix_is s (dir ++ [47]) (isIn s dir) _ HI'.out).mono ?_
      rintro e w2 ⟨rfl, rfl⟩
      go_wp2
      go_ret
      exact ⟨rfl, HB.out⟩
  · have HI : Hid (isIn s dir = false) := by
      show isIn s dir = _
      simp [isIn, hc]
    have HC : Hid (checkCode s ≠ 0) := hc
    clear hc
    go_enter Tryz.func123, Tryz.ntmps123
    go_wp2_with fail
    refine (check_is p s _ _ HE.out hs rfl).mono ?_
    rintro e w1 ⟨rfl, hb⟩
    have HB : Hid (Below w.heap.size w w1) := hb
    clear hb
    rw [errV_some p HC.out]
    go_wp2
    go_ret
    exact ⟨ret_bool HI.out.symm, HB.out⟩
end Go.Proofs.YtaegcoidpjcbaaaGreatDoor
