/-
  path.Join and path.In answer as the plain functions say: contracts, over this seat's translation.
-/
import Derived.Test.YtmpfjambenkeeaaDoorClean
import Derived.Test.YtmpfjambenkeeaaDoorCodedV
namespace Go.Proofs.YtmpfjambenkeeaaDoor
open Go.RowKit Go.Shelf

theorem check_is (p : Nat → Addr) (s : List UInt8) (k : Nat) (w : World) (hE : Env p w) (hs : s.length ≤ 90000) (h : checkCode s = k) :
    Calls Tryd.prog 34 #[.string ⟨s.toArray⟩] w fun e w' => e = .returned (errV p k) ∧ Below w.heap.size w w' := by
  have := check_any p s w hE hs
  rwa [h] at this

theorem cat_list (a b : List UInt8) : ({ data := a.toArray } : ByteArray) ++ { data := b.toArray } = ⟨(a ++ b).toArray⟩ := by
  apply ByteArray.ext
  simp

theorem check_ok (p : Nat → Addr) (s : List UInt8) (w : World) (hE : Env p w) (hs : s.length ≤ 90000) (h : checkCode s = 0) :
    Calls Tryd.prog 34 #[.string ⟨s.toArray⟩] w fun e w' => e = .returned .nilIface ∧ Below w.heap.size w w' := check_is p s 0 w hE hs h
theorem check_bad (p : Nat → Addr) (s : List UInt8) (k : Nat) (w : World) (hE : Env p w) (hs : s.length ≤ 90000) (h : checkCode s = k + 1) :
    Calls Tryd.prog 34 #[.string ⟨s.toArray⟩] w fun e w' => e = .returned (.iface 123 (.pointer (some (p k)))) ∧ Below w.heap.size w w' := check_is p s (k + 1) w hE hs h

/-- Join of a text below a directory. -/
def joinTo (dir s : List UInt8) : List UInt8 := if dir = [] then s else dir ++ 47 :: s

def isIn (s dir : List UInt8) : Bool := decide (checkCode s = 0) && (dir.isEmpty || Lib.hasPrefix s (dir ++ [47]))

end Go.Proofs.YtmpfjambenkeeaaDoor
