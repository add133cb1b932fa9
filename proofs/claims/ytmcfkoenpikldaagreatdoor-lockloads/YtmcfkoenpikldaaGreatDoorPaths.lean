/-
  path.Join and path.In answer as the plain functions say: contracts, over this seat's translation.
-/
import Derived.Test.YtmcfkoenpikldaaGreatDoorCutCheckClean
import Derived.Test.YtmcfkoenpikldaaGreatDoorCodedKept
import Derived.Test.YtmcfkoenpikldaaGreatDoorErrV
namespace Go.Proofs.YtmcfkoenpikldaaGreatDoor
open Go.RowKit Go.Shelf

theorem clean_any (p : Nat → Addr) (s : List UInt8) (w : World) (hE : Env p w) (hs : s.length ≤ 90000) :
    Calls Tryz.prog 214 #[.string ⟨s.toArray⟩] w fun e w' => e = .returned (.tuple #[.string ⟨(cleanL s).1.toArray⟩, errV p (cleanL s).2]) ∧ Below w.heap.size w w' := by
  by_cases h : s.head? = some 47
  · have e : cleanL s = ([], 3) := by unfold cleanL; rw [if_pos h]
    rw [e]
    exact clean_root p s w hE h
  · exact clean_below p s w hE hs h

theorem check_is (p : Nat → Addr) (s : List UInt8) (k : Nat) (w : World) (hE : Env p w) (hs : s.length ≤ 90000) (h : checkCode s = k) :
    Calls Tryz.prog 160 #[.string ⟨s.toArray⟩] w fun e w' => e = .returned (errV p k) ∧ Below w.heap.size w w' := by
  have := check_any p s w hE hs
  rwa [h] at this

theorem clean_is (p : Nat → Addr) (s c : List UInt8) (k : Nat) (w : World) (hE : Env p w) (hs : s.length ≤ 90000) (h : cleanL s = (c, k)) :
    Calls Tryz.prog 214 #[.string ⟨s.toArray⟩] w fun e w' => e = .returned (.tuple #[.string ⟨c.toArray⟩, errV p k]) ∧ Below w.heap.size w w' := by
  have := clean_any p s w hE hs
  rwa [h] at this

theorem cat_list (a b : List UInt8) : ({ data := a.toArray } : ByteArray) ++ { data := b.toArray } = ⟨(a ++ b).toArray⟩ := by
  apply ByteArray.ext
  simp

theorem clean_ok (p : Nat → Addr) (s c : List UInt8) (w : World) (hE : Env p w) (hs : s.length ≤ 90000) (h : cleanL s = (c, 0)) :
    Calls Tryz.prog 214 #[.string ⟨s.toArray⟩] w fun e w' => e = .returned (.tuple #[.string ⟨c.toArray⟩, .nilIface]) ∧ Below w.heap.size w w' := clean_is p s c 0 w hE hs h
theorem clean_bad (p : Nat → Addr) (s c : List UInt8) (k : Nat) (w : World) (hE : Env p w) (hs : s.length ≤ 90000) (h : cleanL s = (c, k + 1)) :
    Calls Tryz.prog 214 #[.string ⟨s.toArray⟩] w fun e w' => e = .returned (.tuple #[.string ⟨c.toArray⟩, .iface 379 (.pointer (some (p k)))]) ∧ Below w.heap.size w w' := clean_is p s c (k + 1) w hE hs h
theorem check_ok (p : Nat → Addr) (s : List UInt8) (w : World) (hE : Env p w) (hs : s.length ≤ 90000) (h : checkCode s = 0) :
    Calls Tryz.prog 160 #[.string ⟨s.toArray⟩] w fun e w' => e = .returned .nilIface ∧ Below w.heap.size w w' := check_is p s 0 w hE hs h
theorem check_bad (p : Nat → Addr) (s : List UInt8) (k : Nat) (w : World) (hE : Env p w) (hs : s.length ≤ 90000) (h : checkCode s = k + 1) :
    Calls Tryz.prog 160 #[.string ⟨s.toArray⟩] w fun e w' => e = .returned (.iface 379 (.pointer (some (p k)))) ∧ Below w.heap.size w w' := check_is p s (k + 1) w hE hs h

/-- Join of a text below a directory. -/
def joinTo (dir s : List UInt8) : List UInt8 := if dir = [] then s else dir ++ 47 :: s

set_option maxHeartbeats 1000000 in
theorem pathJoin_is (p : Nat → Addr) (dir s c : List UInt8) (k : Nat) (w : World) (hE : Env p w) (hd : dir.length ≤ 40000) (hs : s.length ≤ 40000) (h : cleanL (joinTo dir s) = (c, k)) :
    Calls Tryz.prog 161 #[.string ⟨dir.toArray⟩, .string ⟨s.toArray⟩] w fun e w' => e = .returned (.tuple #[.string ⟨c.toArray⟩, errV p k]) ∧ Below w.heap.size w w' := by
  have H : Hid (cleanL (joinTo dir s) = (c, k)) := h
  have HE : Hid (Env p w) := hE
  clear h hE
  by_cases h0 : dir = []
  · subst h0
    have H' : Hid (cleanL s = (c, k)) := by have := H.out; simp only [joinTo, if_true] at this; exact this
    go_enter Tryz.func161, Tryz.ntmps161
    go_wp2_with fail
    refine (clean_is p s c k _ HE.out (by omega) H'.out).mono ?_
    rintro e w1 ⟨rfl, hb⟩
    have HB : Hid (Below w.heap.size w w1) := hb
    clear hb
    go_wp2
    go_ret2
    exact ⟨rfl, HB.out⟩
  · have H' : Hid (cleanL (dir ++ 47 :: s) = (c, k)) := by have := H.out; simp only [joinTo, if_neg h0] at this; exact this
    have hb0 : dir.isEmpty = false := by simpa using h0
    clear h0 H
    go_enter Tryz.func161, Tryz.ntmps161
    go_wp2_with fail
    rw [show ({ data := dir.toArray } : ByteArray) ++ { data := #[47] } ++ { data := s.toArray } = ⟨(dir ++ 47 :: s).toArray⟩ from by
      rw [show ({ data := #[47] } : ByteArray) = ⟨[47].toArray⟩ from rfl, cat_list, cat_list]; simp]
    refine (clean_is p (dir ++ 47 :: s) c k _ HE.out (by simp; omega) H'.out).mono ?_
    rintro e w1 ⟨rfl, hb⟩
    have HB : Hid (Below w.heap.size w w1) := hb
    clear hb
    go_wp2
    go_ret2
    exact ⟨rfl, HB.out⟩

theorem pathJoin_ok (p : Nat → Addr) (dir s c : List UInt8) (w : World) (hE : Env p w) (hd : dir.length ≤ 40000) (hs : s.length ≤ 40000) (h : cleanL (joinTo dir s) = (c, 0)) :
    Calls Tryz.prog 161 #[.string ⟨dir.toArray⟩, .string ⟨s.toArray⟩] w fun e w' => e = .returned (.tuple #[.string ⟨c.toArray⟩, .nilIface]) ∧ Below w.heap.size w w' := pathJoin_is p dir s c 0 w hE hd hs h
theorem pathJoin_bad (p : Nat → Addr) (dir s c : List UInt8) (k : Nat) (w : World) (hE : Env p w) (hd : dir.length ≤ 40000) (hs : s.length ≤ 40000) (h : cleanL (joinTo dir s) = (c, k + 1)) :
    Calls Tryz.prog 161 #[.string ⟨dir.toArray⟩, .string ⟨s.toArray⟩] w fun e w' => e = .returned (.tuple #[.string ⟨c.toArray⟩, .iface 379 (.pointer (some (p k)))]) ∧ Below w.heap.size w w' := pathJoin_is p dir s c (k + 1) w hE hd hs h

def isIn (s dir : List UInt8) : Bool := decide (checkCode s = 0) && (dir.isEmpty || Lib.hasPrefix s (dir ++ [47]))

set_option maxHeartbeats 1000000 in
theorem in_any (p : Nat → Addr) (s dir : List UInt8) (w : World) (hE : Env p w) (hs : s.length ≤ 90000) (hd : dir.length ≤ 90000) :
    Calls Tryz.prog 220 #[.string ⟨s.toArray⟩, .string ⟨dir.toArray⟩] w fun e w' => e = .returned (.bool (isIn s dir)) ∧ Below w.heap.size w w' := by
  have HE : Hid (Env p w) := hE
  clear hE
  by_cases hc : checkCode s = 0
  · have HI : Hid (isIn s dir = (dir.isEmpty || Lib.hasPrefix s (dir ++ [47]))) := by
      show isIn s dir = _
      simp [isIn, hc]
    have HC : Hid (checkCode s = 0) := hc
    clear hc
    go_enter Tryz.func220, Tryz.ntmps220
    go_wp2_with fail
    refine (check_is p s 0 _ HE.out hs HC.out).mono ?_
    rintro e w1 ⟨rfl, hb⟩
    have HB : Hid (Below w.heap.size w w1) := hb
    clear hb
    rw [errV_zero]
    by_cases h0 : dir = []
    · subst h0
      go_wp2
      go_ret
      exact ⟨ret_bool (by rw [HI.out]; rfl), HB.out⟩
    · have hb0 : dir.isEmpty = false := by simpa using h0
      have HI' : Hid (Lib.hasPrefix s (dir ++ [47]) = isIn s dir) := by
        show Lib.hasPrefix s (dir ++ [47]) = isIn s dir
        rw [HI.out, hb0]; simp
      clear h0 HI
      go_wp2_with fail
      rw [show ({ data := dir.toArray } : ByteArray) ++ { data := #[47] } = ⟨(dir ++ [47]).toArray⟩ from by
        rw [show ({ data := #[47] } : ByteArray) = ⟨[47].toArray⟩ from rfl, cat_list]]
      refine (hasPrefix_is s (dir ++ [47]) (isIn s dir) _ HI'.out).mono ?_
      rintro e w2 ⟨rfl, rfl⟩
      go_wp2
      go_ret
      exact ⟨rfl, HB.out⟩
  · have HI : Hid (isIn s dir = false) := by
      show isIn s dir = _
      simp [isIn, hc]
    have HC : Hid (checkCode s ≠ 0) := hc
    clear hc
    go_enter Tryz.func220, Tryz.ntmps220
    go_wp2_with fail
    refine (check_is p s _ _ HE.out hs rfl).mono ?_
    rintro e w1 ⟨rfl, hb⟩
    have HB : Hid (Below w.heap.size w w1) := hb
    clear hb
    rw [errV_some p HC.out]
    go_wp2
    go_ret
    exact ⟨ret_bool HI.out.symm, HB.out⟩
end Go.Proofs.YtmcfkoenpikldaaGreatDoor
