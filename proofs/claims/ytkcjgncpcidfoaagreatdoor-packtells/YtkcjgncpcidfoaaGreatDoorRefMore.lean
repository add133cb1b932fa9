/-
  The document's answer for paths, further: PathError, SameTexts, glue, Begins, IsIn, StripOf: contracts, over this seat's translation.
-/
import Derived.Test.YtkcjgncpcidfoaaGreatDoorRef
import Derived.Test.YtkcjgncpcidfoaaGreatDoorRefBegins
namespace Go.Proofs.YtkcjgncpcidfoaaGreatDoor
open Go.RowKit Go.Shelf

theorem pathError_any (s : List UInt8) (w : World) (hs : s.length ≤ 90000) :
    Calls Tryz.prog 31 #[.string ⟨s.toArray⟩] w fun e w' => e = .returned (.int .i64 (checkCode s)) ∧ Below w.heap.size w w' := by
  go_enter Tryz.func31, Tryz.ntmps31
  go_wp2_with fail
  refine (partsOf_any s _ hs).mono ?_
  rintro e w1 ⟨⟨v, rfl, _, _⟩, hb⟩
  have HB : Hid (Below w.heap.size w w1) := hb
  clear hb
  go_wp2
  go_ret
  exact ⟨rfl, HB.out⟩

theorem join_snoc {k : List (List UInt8)} (x : List UInt8) (h : k ≠ []) : Lib.join (k ++ [x]) [47] = Lib.join k [47] ++ [47] ++ x := by
  rw [join_app h (by simp), Lib.join_one]; simp

set_option maxHeartbeats 1000000 in
theorem refIsIn_any (s dir : List UInt8) (w : World) (hs : s.length ≤ 90000) (hd : dir.length ≤ 90000) :
    Calls Tryz.prog 32 #[.string ⟨s.toArray⟩, .string ⟨dir.toArray⟩] w fun e w' => e = .returned (.bool (isIn s dir)) ∧ Below w.heap.size w w' := by
  by_cases hc : checkCode s = 0
  · have HC : Hid (((checkCode s : Nat) : Int) = 0) := by show ((checkCode s : Nat) : Int) = 0; rw [hc]; rfl
    have HI : Hid (isIn s dir = (dir.isEmpty || Lib.hasPrefix s (dir ++ [47]))) := by
      show isIn s dir = _
      simp [isIn, hc]
    have HPD : Hid (Lib.hasPrefix s (dir ++ [47]) = true → checkCode dir = 0) := fun h => by
      have h' : dir ++ [47] <+: s := by simpa [Lib.hasPrefix] using h
      obtain ⟨r, hr⟩ := h'
      have e : s = dir ++ 47 :: r := by rw [← hr]; simp
      obtain ⟨hp, hl⟩ := checkCode_zero.1 hc
      rw [e, pieces_app] at hp hl
      rw [checkCode_zero]
      exact ⟨fun x hx => hp x (List.mem_append_left _ hx), by rw [List.length_append] at hl; omega⟩
    clear hc
    go_enter Tryz.func32, Tryz.ntmps32
    go_wp2_with fail
    refine (pathError_any s _ hs).mono ?_
    rintro e w1 ⟨rfl, hb⟩
    have HB : Hid (Below w.heap.size w w1) := hb
    clear hb
    rw [HC.out]
    by_cases h0 : dir = []
    · subst h0
      go_wp2
      go_ret
      exact ⟨ret_bool (by rw [HI.out]; rfl), HB.out⟩
    · have hb0 : dir.isEmpty = false := by simpa using h0
      have HI' : Hid (isIn s dir = Lib.hasPrefix s (dir ++ [47])) := by
        show isIn s dir = _
        rw [HI.out, hb0]; simp
      clear h0 HI
      by_cases hcd : checkCode dir = 0
      · have HCD : Hid (((checkCode dir : Nat) : Int) = 0) := by show ((checkCode dir : Nat) : Int) = 0; rw [hcd]; rfl
        clear hcd
        go_wp2_with fail
        refine (pathError_any dir _ hd).mono ?_
        rintro e w2 ⟨rfl, hb2⟩
        have HB2 : Hid (Below w.heap.size w w2) := HB.out.trans (hb2.mono HB.out.size)
        clear hb2
        rw [HCD.out]
        go_wp2_with fail
        rw [show ({ data := dir.toArray } : ByteArray) ++ { data := #[47] } = ⟨(dir ++ [47]).toArray⟩ from by
          rw [show ({ data := #[47] } : ByteArray) = ⟨[47].toArray⟩ from rfl, cat_list]]
        refine (begins_any s (dir ++ [47]) _ (by omega) (by simp; omega)).mono ?_
        rintro e w3 ⟨rfl, rfl⟩
        rw [← HI'.out]
        go_wp2
        go_ret
        exact ⟨rfl, HB2.out⟩
      · have HF : Hid (isIn s dir = false) := by
          show isIn s dir = false
          rw [HI'.out, Bool.eq_false_iff]
          intro h
          exact hcd (HPD.out h)
        have hne : (((checkCode dir : Nat) : Int) == 0) = false := by rw [beq_eq_false_iff_ne]; omega
        clear hcd
        go_wp2_with fail
        refine (pathError_any dir _ hd).mono ?_
        rintro e w2 ⟨rfl, hb2⟩
        have HB2 : Hid (Below w.heap.size w w2) := HB.out.trans (hb2.mono HB.out.size)
        clear hb2
        go_wp2
        go_ret
        exact ⟨ret_bool HF.out.symm, HB2.out⟩
  · have HF : Hid (isIn s dir = false) := by
      show isIn s dir = _
      simp [isIn, hc]
    have hne : (0 : Int) < ((checkCode s : Nat) : Int) := by omega
    clear hc
    go_enter Tryz.func32, Tryz.ntmps32
    go_wp2_with fail
    refine (pathError_any s _ hs).mono ?_
    rintro e w1 ⟨rfl, hb⟩
    have HB : Hid (Below w.heap.size w w1) := hb
    clear hb
    go_wp2
    go_ret
    exact ⟨ret_bool HF.out.symm, HB.out⟩

end Go.Proofs.YtkcjgncpcidfoaaGreatDoor
