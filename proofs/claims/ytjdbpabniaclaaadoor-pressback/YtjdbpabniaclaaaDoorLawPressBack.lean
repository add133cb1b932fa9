/-
  The closed fact of pressed texts, and the law PressBack, whatever texts and number it is called with: walks over this seat's translation.
-/
import Derived.Test.YtjdbpabniaclaaaDoorPkPress
import Derived.Test.YtjdbpabniaclaaaDoorPkOpen
namespace Go.Proofs.YtjdbpabniaclaaaDoor
open Go.RowKit Go.Shelf

theorem coded_err {p : Nat → Addr} {w : World} {v : Value} {c : Nat} (h : ErrAt p w v c (-1)) (hE : Env p w) :
    Calls Tryd.prog 9 #[v, .int .i64 c] w fun e w' => e = .returned (.bool true) ∧ Below w.heap.size w w' := coded_yes _ _ _ (code_err h hE)

theorem press_length (s : List UInt8) (h : s.length ≤ 999999999) : (pressL s).length ≤ 11 * s.length := by
  have h1 := runs_few s
  have h2 := write_bound (l := runs s) fun r hr => by have := runs_mem hr; omega
  show (writeL (runs s)).length ≤ _
  omega
theorem back_runs {s : List UInt8} (h : s.length ≤ 999999999) : (readL (pressL s)).2 = none ∧ sizeL (runsS (pressL s)) = s.length := by
  have e := read_one s h
  exact ⟨by rw [e], by rw [runsS_none (by rw [e]), e, size_runs]⟩
theorem back_open {s : List UInt8} (h : s.length ≤ 999999999) : openS (pressL s) s.length = (s, 0, -1) := by
  have e := read_one s h
  rw [openS_fine (by rw [e]) (by rw [e, size_runs]; omega), e, open_runs]
theorem back_full {s : List UInt8} {most : Int} (h : s.length ≤ 999999999) (hm : most < s.length) : openS (pressL s) most = ([], 8, -1) := by
  have e := read_one s h
  rw [openS_full (by rw [e]) (by rw [e, size_runs]; exact hm)]
theorem back_two {s t : List UInt8} (hs : s.length ≤ 999999999) (ht : t.length ≤ 999999999) : openS (pressL s ++ pressL t) ((s.length : Int) + (t.length : Int)) = (s ++ t, 0, -1) := by
  have e := read_two s t hs ht
  rw [openS_fine (by rw [e]) (by rw [e, sizeL_app, size_runs, size_runs]; omega), e, openL_app, open_runs, open_runs]
theorem const_press : pressL [97, 97, 97, 98] = [51, 58, 97, 49, 58, 98] := by
  simp [pressL, runs, putRun, writeL, runL, digits_small]
theorem const_open : openS [51, 58, 97, 49, 58, 98] 9 = ([97, 97, 97, 98], 0, -1) := by decide

theorem open_is (p : Nat → Addr) (x : ByteArray) (s : List UInt8) (most : Int) (w : World) (hx : x = ⟨s.toArray⟩) (hs : s.length ≤ 1000000000) (hm : most ≤ 140737488355328) (hE : Env p w) :
    Calls Tryd.prog 8 #[.string x, .int .i64 most] w fun e w' => ∃ v, e = .returned (.tuple #[.string ⟨(openS s most).1.toArray⟩, v]) ∧ ErrAt p w' v (openS s most).2.1 (openS s most).2.2 ∧ Below w.heap.size w w' := by
  subst hx
  exact open_any p s most w hs hm hE
theorem bytes_app (a b : List UInt8) : (⟨a.toArray⟩ : ByteArray) ++ ⟨b.toArray⟩ = ⟨(a ++ b).toArray⟩ := by
  apply ByteArray.ext
  simp

set_option maxRecDepth 100000 in
theorem pressed_any (p : Nat → Addr) (w : World) (hE : Env p w) (hT : Tab w) :
    Calls Tryd.prog 5 #[] w fun e w' => e = .returned (.bool true) ∧ Below w.heap.size w w' := by
  have HE := Lib.hid hE
  have HT := Lib.hid hT
  clear hE hT
  go_enter Tryd.func5, Tryd.ntmps5
  go_wp2_with fail
  refine (open_any p [51, 58, 97, 49, 58, 98] 9 _ (by decide) (by decide) HE.out).mono ?_
  rintro e w1 ⟨v, rfl, hv, hb1⟩
  rw [const_open] at hv ⊢
  obtain rfl := hv.isNil
  have HB1 := Lib.hid hb1
  clear hb1 hv
  go_wp2_with fail
  refine (press_any [97, 97, 97, 98] _ (by decide) (HT.out.below HB1.out)).mono ?_
  rintro e w2 ⟨rfl, hb2⟩
  rw [const_press]
  have HB2 := Lib.hid (HB1.out.trans (hb2.mono HB1.out.size))
  clear hb2
  go_wp2
  go_ret
  exact ⟨rfl, HB2.out⟩

theorem pressBack_long (p : Nat → Addr) (s t : ByteArray) (most : Int) (w : World) (hE : Env p w) (hT : Tab w) (hs : s.size ≤ maxLen) (ht : t.size ≤ maxLen) (h : 500 < s.size ∨ 500 < t.size) :
    Calls Tryd.prog 3 #[.string s, .string t, .int .i64 most] w fun e w' => e = .returned (.bool true) ∧ Below w.heap.size w w' := by
  unfold maxLen at hs ht
  have HE := Lib.hid hE
  have HT := Lib.hid hT
  clear hE hT
  have hc : (500 : Int) < s.size ∨ (¬ (500 : Int) < s.size ∧ (500 : Int) < t.size) := by omega
  clear h
  rcases hc with h | ⟨h1, h2⟩
  all_goals
    go_enter Tryd.func3, Tryd.ntmps3
    go_wp2_with fail
    refine (pressed_any p _ HE.out HT.out).mono ?_
    rintro e w1 ⟨rfl, hb1⟩
    have HB1 := Lib.hid hb1
    clear hb1
    go_wp2
    go_ret
    exact ⟨rfl, HB1.out⟩

set_option maxRecDepth 100000 in
set_option maxHeartbeats 4000000 in
theorem pressBack_main (p : Nat → Addr) (s t : List UInt8) (most : Int) (w : World) (hE : Env p w) (hT : Tab w) (hs : s.length ≤ 500) (ht : t.length ≤ 500) :
    Calls Tryd.prog 3 #[.string ⟨s.toArray⟩, .string ⟨t.toArray⟩, .int .i64 most] w fun e w' => e = .returned (.bool true) ∧ Below w.heap.size w w' := by
  have HE := Lib.hid hE
  have HT := Lib.hid hT
  have hs' : ¬ (500 : Int) < s.length := by omega
  have ht' : ¬ (500 : Int) < t.length := by omega
  have hpl := press_length s (by omega)
  have hql := press_length t (by omega)
  have K1 := Lib.hid (back_runs (s := s) (by omega))
  have K2 := Lib.hid (back_open (s := s) (by omega))
  have K3 := Lib.hid (fun h => back_full (s := s) (most := most) (by omega) h)
  have K4 := Lib.hid (back_two (s := s) (t := t) (by omega) (by omega))
  clear hE hT
  go_enter Tryd.func3, Tryd.ntmps3
  go_wp2_with fail
  refine (pressed_any p _ HE.out HT.out).mono ?_
  rintro e w1 ⟨rfl, hb1⟩
  have HB1 := Lib.hid hb1
  clear hb1
  go_wp2_with fail
  refine (press_any s _ (by omega) (HT.out.below HB1.out)).mono ?_
  rintro e w2 ⟨rfl, hb2⟩
  have HB2 := Lib.hid (HB1.out.trans (hb2.mono HB1.out.size))
  clear hb2
  generalize hP : pressL s = P at hpl K1 K2 K3 K4 ⊢
  have HP := Lib.hid hP
  clear hP
  go_wp2_with fail
  refine (size_any p P _ (by omega) (HE.out.below HB2.out)).mono ?_
  rintro e w3 ⟨v, rfl, hv, hb3⟩
  rw [K1.out.1] at hv
  obtain rfl := hv.isNil
  rw [K1.out.2]
  have HB3 := Lib.hid (HB2.out.trans (hb3.mono HB2.out.size))
  clear hb3 hv
  go_wp2_with fail
  refine (open_any p P s.length _ (by omega) (by omega) (HE.out.below HB3.out)).mono ?_
  rintro e w4 ⟨v, rfl, hv, hb4⟩
  rw [K2.out] at hv ⊢
  obtain rfl := hv.isNil
  have HB4 := Lib.hid (HB3.out.trans (hb4.mono HB3.out.size))
  clear hb4 hv
  go_wp2_with fail
  refine (press_any s _ (by omega) (HT.out.below HB4.out)).mono ?_
  rintro e w5 ⟨rfl, hb5⟩
  rw [HP.out]
  have HB5 := Lib.hid (HB4.out.trans (hb5.mono HB4.out.size))
  clear hb5
  by_cases hm : most < (s.length : Int)
  · go_wp2_with fail
    refine (open_any p P most _ (by omega) (by omega) (HE.out.below HB5.out)).mono ?_
    rintro e w6 ⟨v, rfl, hv, hb6⟩
    rw [K3.out hm] at hv ⊢
    have HB6 := Lib.hid (HB5.out.trans (hb6.mono HB5.out.size))
    have HV := Lib.hid hv
    clear hb6 hv
    go_wp2_with fail
    refine (coded_err HV.out (HE.out.below HB6.out)).mono ?_
    rintro e w7 ⟨rfl, hb7⟩
    have HB7 := Lib.hid (HB6.out.trans (hb7.mono HB6.out.size))
    clear hb7
    go_wp2_with fail
    refine (press_any t _ (by omega) (HT.out.below HB7.out)).mono ?_
    rintro e w8 ⟨rfl, hb8⟩
    have HB8 := Lib.hid (HB7.out.trans (hb8.mono HB7.out.size))
    clear hb8
    generalize pressL t = Q at hql K4 ⊢
    go_wp2_with fail
    refine (open_is p _ (P ++ Q) _ _ (bytes_app P Q) (by rw [List.length_append]; omega) (by omega) (HE.out.below HB8.out)).mono ?_
    rintro e w9 ⟨v9, rfl, hv9, hb9⟩
    rw [K4.out] at hv9 ⊢
    obtain rfl := hv9.isNil
    have HB9 := Lib.hid (HB8.out.trans (hb9.mono HB8.out.size))
    have hst := bytes_app s t
    clear hb9 hv9
    go_wp2
    go_ret
    exact ⟨rfl, HB9.out⟩
  · have hm' : decide (most < (s.length : Int)) = false := by simp; omega
    go_wp2_with fail
    refine (press_any t _ (by omega) (HT.out.below HB5.out)).mono ?_
    rintro e w8 ⟨rfl, hb8⟩
    have HB8 := Lib.hid (HB5.out.trans (hb8.mono HB5.out.size))
    clear hb8
    generalize pressL t = Q at hql K4 ⊢
    go_wp2_with fail
    refine (open_is p _ (P ++ Q) _ _ (bytes_app P Q) (by rw [List.length_append]; omega) (by omega) (HE.out.below HB8.out)).mono ?_
    rintro e w9 ⟨v9, rfl, hv9, hb9⟩
    rw [K4.out] at hv9 ⊢
    obtain rfl := hv9.isNil
    have HB9 := Lib.hid (HB8.out.trans (hb9.mono HB8.out.size))
    have hst := bytes_app s t
    clear hb9 hv9
    go_wp2
    go_ret
    exact ⟨rfl, HB9.out⟩

theorem pressBack_any (p : Nat → Addr) (s t : ByteArray) (most : Int) (w : World) (hE : Env p w) (hT : Tab w) (hs : s.size ≤ maxLen) (ht : t.size ≤ maxLen) :
    Calls Tryd.prog 3 #[.string s, .string t, .int .i64 most] w fun e w' => e = .returned (.bool true) ∧ Below w.heap.size w w' := by
  by_cases h : 500 < s.size ∨ 500 < t.size
  · exact pressBack_long p s t most w hE hT hs ht h
  · obtain ⟨s, rfl⟩ : ∃ l : List UInt8, s = ⟨l.toArray⟩ := ⟨s.data.toList, by cases s; simp⟩
    obtain ⟨t, rfl⟩ : ∃ l : List UInt8, t = ⟨l.toArray⟩ := ⟨t.data.toList, by cases t; simp⟩
    simp only [ByteArray.size, List.size_toArray] at h
    exact pressBack_main p s t most w hE hT (by omega) (by omega)
end Go.Proofs.YtjdbpabniaclaaaDoor
