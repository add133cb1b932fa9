/-
  The law LinkSwaps, whatever texts it is called with: a walk over this seat's translation.
-/
import Derived.Test.YtmpfjambenkeeaaDoorLinked
import Derived.Test.YtmpfjambenkeeaaDoorRefBegins
namespace Go.Proofs.YtmpfjambenkeeaaDoor
open Go.RowKit Go.Shelf

theorem linkSwaps_long (p : Nat → Addr) (s a b : ByteArray) (w : World) (hE : LEnv p w) (hs : s.size ≤ maxLen) (ha : a.size ≤ maxLen) (hb : b.size ≤ maxLen) (h : 120 < s.size ∨ 120 < a.size ∨ 120 < b.size) :
    Calls Tryd.prog 3 #[.string s, .string a, .string b] w fun e w' => e = .returned (.bool true) ∧ Below w.heap.size w w' := by
  unfold maxLen at hs ha hb
  have HE := Lib.hid hE
  clear hE
  have hc : (120 : Int) < s.size ∨ (¬ (120 : Int) < s.size ∧ (120 : Int) < a.size) ∨ (¬ (120 : Int) < s.size ∧ ¬ (120 : Int) < a.size ∧ (120 : Int) < b.size) := by omega
  clear h
  rcases hc with h | ⟨h1, h2⟩ | ⟨h1, h2, h3⟩
  all_goals
    go_enter Tryd.func3, Tryd.ntmps3
    go_wp2_with fail
    refine (linked_any p _ HE.out).mono ?_
    rintro e w1 ⟨rfl, hb1⟩
    have HB1 := Lib.hid hb1
    clear hb1
    go_wp2
    go_ret
    exact ⟨rfl, HB1.out⟩

theorem swapK_short (a b s : List UInt8) : (swapK a b s).1.length ≤ b.length + s.length := by
  unfold swapK
  split
  · simp
  · split
    · simp
    · split
      · simp
      · split
        · simp
        · split
          · simp
          · simp

set_option maxRecDepth 100000 in
set_option maxHeartbeats 4000000 in
theorem linkSwaps_main (p : Nat → Addr) (s a b : List UInt8) (w : World) (hE : LEnv p w) (hs : s.length ≤ 120) (ha : a.length ≤ 120) (hb : b.length ≤ 120) :
    Calls Tryd.prog 3 #[.string ⟨s.toArray⟩, .string ⟨a.toArray⟩, .string ⟨b.toArray⟩] w fun e w' => e = .returned (.bool true) ∧ Below w.heap.size w w' := by
  have HE := Lib.hid hE
  have hs' : ¬ (120 : Int) < s.length := by omega
  have ha' : ¬ (120 : Int) < a.length := by omega
  have hb' : ¬ (120 : Int) < b.length := by omega
  have hxl : (swapK a b s).1.length ≤ 240 := by have := swapK_short a b s; omega
  clear hE
  cases h2 : (swapK a b s).2 with
  | succ j =>
    have H2 := Lib.hid h2
    have H2x := Lib.hid (swap_bad (a := a) (b := b) (s := s) (by rw [h2]; exact Nat.succ_ne_zero j))
    clear h2 hxl
    cases hs0 : checkK s with
    | zero =>
      have H1 := Lib.hid hs0
      have H1b := Lib.hid (begin_of_check hs0)
      have H1s := Lib.hid (swap_self hs0)
      clear hs0
      go_enter Tryd.func3, Tryd.ntmps3
      go_wp2_with fail
      refine (linked_any p _ HE.out).mono ?_
      rintro e w1 ⟨rfl, hb1⟩
      have HB1 := Lib.hid hb1
      clear hb1
      go_wp2_with fail
      refine (linkCheck_is p s _ _ (HE.out.below HB1.out) (by omega) H1.out).mono ?_
      rintro e w2 ⟨rfl, hb2⟩
      have HB2 := Lib.hid (HB1.out.trans (hb2.mono HB1.out.size))
      clear hb2
      rw [errV_zero]
      go_wp2_with fail
      refine (linkSwap_any p s s s _ (HE.out.below HB2.out) (by omega) (by omega) (by omega)).mono ?_
      rintro e w3 ⟨rfl, hb3⟩
      have HB3 := Lib.hid (HB2.out.trans (hb3.mono HB2.out.size))
      clear hb3
      rw [H1s.out, errV_zero]
      go_wp2_with fail
      refine (linkBegins_is p s _ _ (HE.out.below HB3.out) (by omega) H1b.out).mono ?_
      rintro e w4 ⟨rfl, hb4⟩
      have HB4 := Lib.hid (HB3.out.trans (hb4.mono HB3.out.size))
      clear hb4
      rw [errV_zero]
      go_wp2_with fail
      refine (linkSwap_any p a b s _ (HE.out.below HB4.out) (by omega) (by omega) (by omega)).mono ?_
      rintro e w5 ⟨rfl, hb5⟩
      have HB5 := Lib.hid (HB4.out.trans (hb5.mono HB4.out.size))
      clear hb5
      rw [H2.out, H2x.out, errV_some p (Nat.succ_ne_zero j)]
      go_wp2
      go_ret
      exact ⟨rfl, HB5.out⟩
    | succ k =>
      have H1 := Lib.hid hs0
      clear hs0
      go_enter Tryd.func3, Tryd.ntmps3
      go_wp2_with fail
      refine (linked_any p _ HE.out).mono ?_
      rintro e w1 ⟨rfl, hb1⟩
      have HB1 := Lib.hid hb1
      clear hb1
      go_wp2_with fail
      refine (linkCheck_is p s _ _ (HE.out.below HB1.out) (by omega) H1.out).mono ?_
      rintro e w2 ⟨rfl, hb2⟩
      have HB2 := Lib.hid (HB1.out.trans (hb2.mono HB1.out.size))
      clear hb2
      rw [errV_some p (Nat.succ_ne_zero k)]
      have HB4 := HB2
      go_wp2_with fail
      refine (linkSwap_any p a b s _ (HE.out.below HB4.out) (by omega) (by omega) (by omega)).mono ?_
      rintro e w5 ⟨rfl, hb5⟩
      have HB5 := Lib.hid (HB4.out.trans (hb5.mono HB4.out.size))
      clear hb5
      rw [H2.out, H2x.out, errV_some p (Nat.succ_ne_zero j)]
      go_wp2
      go_ret
      exact ⟨rfl, HB5.out⟩
  | zero =>
    have H2 := Lib.hid h2
    obtain ⟨y1, y2, y3⟩ := swap_back h2
    have H2y := Lib.hid y1
    have H2c := Lib.hid y2
    have H2p := Lib.hid y3
    clear h2 y1 y2 y3
    cases hs0 : checkK s with
    | zero =>
      have H1 := Lib.hid hs0
      have H1b := Lib.hid (begin_of_check hs0)
      have H1s := Lib.hid (swap_self hs0)
      clear hs0
      go_enter Tryd.func3, Tryd.ntmps3
      go_wp2_with fail
      refine (linked_any p _ HE.out).mono ?_
      rintro e w1 ⟨rfl, hb1⟩
      have HB1 := Lib.hid hb1
      clear hb1
      go_wp2_with fail
      refine (linkCheck_is p s _ _ (HE.out.below HB1.out) (by omega) H1.out).mono ?_
      rintro e w2 ⟨rfl, hb2⟩
      have HB2 := Lib.hid (HB1.out.trans (hb2.mono HB1.out.size))
      clear hb2
      rw [errV_zero]
      go_wp2_with fail
      refine (linkSwap_any p s s s _ (HE.out.below HB2.out) (by omega) (by omega) (by omega)).mono ?_
      rintro e w3 ⟨rfl, hb3⟩
      have HB3 := Lib.hid (HB2.out.trans (hb3.mono HB2.out.size))
      clear hb3
      rw [H1s.out, errV_zero]
      go_wp2_with fail
      refine (linkBegins_is p s _ _ (HE.out.below HB3.out) (by omega) H1b.out).mono ?_
      rintro e w4 ⟨rfl, hb4⟩
      have HB4 := Lib.hid (HB3.out.trans (hb4.mono HB3.out.size))
      clear hb4
      rw [errV_zero]
      go_wp2_with fail
      refine (linkSwap_any p a b s _ (HE.out.below HB4.out) (by omega) (by omega) (by omega)).mono ?_
      rintro e w5 ⟨rfl, hb5⟩
      have HB5 := Lib.hid (HB4.out.trans (hb5.mono HB4.out.size))
      clear hb5
      rw [H2.out, errV_zero]
      generalize (swapK a b s).1 = x at H2y H2c H2p hxl ⊢
      go_wp2_with fail
      refine (linkSwap_any p b a x _ (HE.out.below HB5.out) (by omega) (by omega) (by omega)).mono ?_
      rintro e w6 ⟨rfl, hb6⟩
      have HB6 := Lib.hid (HB5.out.trans (hb6.mono HB5.out.size))
      clear hb6
      rw [H2y.out, errV_zero]
      go_wp2_with fail
      refine (linkCheck_is p x _ _ (HE.out.below HB6.out) (by omega) H2c.out).mono ?_
      rintro e w7 ⟨rfl, hb7⟩
      have HB7 := Lib.hid (HB6.out.trans (hb7.mono HB6.out.size))
      clear hb7
      rw [errV_zero]
      go_wp2_with fail
      refine (begins_any x b _ (by omega) (by omega)).mono ?_
      rintro e w' ⟨rfl, rfl⟩
      rw [H2p.out]
      go_wp2
      go_ret
      exact ⟨rfl, HB7.out⟩
    | succ k =>
      have H1 := Lib.hid hs0
      clear hs0
      go_enter Tryd.func3, Tryd.ntmps3
      go_wp2_with fail
      refine (linked_any p _ HE.out).mono ?_
      rintro e w1 ⟨rfl, hb1⟩
      have HB1 := Lib.hid hb1
      clear hb1
      go_wp2_with fail
      refine (linkCheck_is p s _ _ (HE.out.below HB1.out) (by omega) H1.out).mono ?_
      rintro e w2 ⟨rfl, hb2⟩
      have HB2 := Lib.hid (HB1.out.trans (hb2.mono HB1.out.size))
      clear hb2
      rw [errV_some p (Nat.succ_ne_zero k)]
      have HB4 := HB2
      go_wp2_with fail
      refine (linkSwap_any p a b s _ (HE.out.below HB4.out) (by omega) (by omega) (by omega)).mono ?_
      rintro e w5 ⟨rfl, hb5⟩
      have HB5 := Lib.hid (HB4.out.trans (hb5.mono HB4.out.size))
      clear hb5
      rw [H2.out, errV_zero]
      generalize (swapK a b s).1 = x at H2y H2c H2p hxl ⊢
      go_wp2_with fail
      refine (linkSwap_any p b a x _ (HE.out.below HB5.out) (by omega) (by omega) (by omega)).mono ?_
      rintro e w6 ⟨rfl, hb6⟩
      have HB6 := Lib.hid (HB5.out.trans (hb6.mono HB5.out.size))
      clear hb6
      rw [H2y.out, errV_zero]
      go_wp2_with fail
      refine (linkCheck_is p x _ _ (HE.out.below HB6.out) (by omega) H2c.out).mono ?_
      rintro e w7 ⟨rfl, hb7⟩
      have HB7 := Lib.hid (HB6.out.trans (hb7.mono HB6.out.size))
      clear hb7
      rw [errV_zero]
      go_wp2_with fail
      refine (begins_any x b _ (by omega) (by omega)).mono ?_
      rintro e w' ⟨rfl, rfl⟩
      rw [H2p.out]
      go_wp2
      go_ret
      exact ⟨rfl, HB7.out⟩

theorem linkSwaps_any (p : Nat → Addr) (s a b : ByteArray) (w : World) (hE : LEnv p w) (hs : s.size ≤ maxLen) (ha : a.size ≤ maxLen) (hb : b.size ≤ maxLen) :
    Calls Tryd.prog 3 #[.string s, .string a, .string b] w fun e w' => e = .returned (.bool true) ∧ Below w.heap.size w w' := by
  by_cases h : 120 < s.size ∨ 120 < a.size ∨ 120 < b.size
  · exact linkSwaps_long p s a b w hE hs ha hb h
  · obtain ⟨s, rfl⟩ : ∃ l : List UInt8, s = ⟨l.toArray⟩ := ⟨s.data.toList, by cases s; simp⟩
    obtain ⟨a, rfl⟩ : ∃ l : List UInt8, a = ⟨l.toArray⟩ := ⟨a.data.toList, by cases a; simp⟩
    obtain ⟨b, rfl⟩ : ∃ l : List UInt8, b = ⟨l.toArray⟩ := ⟨b.data.toList, by cases b; simp⟩
    simp only [ByteArray.size, List.size_toArray] at h
    exact linkSwaps_main p s a b w hE (by omega) (by omega) (by omega)
end Go.Proofs.YtmpfjambenkeeaaDoor
