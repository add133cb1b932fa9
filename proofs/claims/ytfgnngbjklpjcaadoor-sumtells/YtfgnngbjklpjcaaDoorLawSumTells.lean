/-
  The law SumTells returns true, whatever texts and numbers it is called with, if the listed variables hold what the row lists: the walk of the law, over this seat's translation.
-/
import Derived.Test.YtfgnngbjklpjcaaDoorSummed
import Derived.Test.YtfgnngbjklpjcaaDoorRefRead
import Derived.Test.YtfgnngbjklpjcaaDoorCodedV
namespace Go.Proofs.YtfgnngbjklpjcaaDoor
open Go.RowKit Go.Shelf

theorem joinS_le (a b n : Int) : (joinS a b n).2 ≤ 13 := by unfold joinS; split <;> simp

theorem sumTells_long (s t : ByteArray) (a b n : Int) (w : World) (hs : s.size ≤ maxLen) (ht : t.size ≤ maxLen) (h : 500 < s.size ∨ 40 < t.size) :
    Calls Tryd.prog 4 #[.string s, .string t, .int .i64 a, .int .i64 b, .int .i64 n] w fun e w' => e = .returned (.bool true) ∧ Below w.heap.size w w' := by
  unfold maxLen at hs ht
  have hc : (500 : Int) < s.size ∨ (¬ (500 : Int) < s.size ∧ (40 : Int) < t.size) := by omega
  clear h
  rcases hc with h | ⟨h1, h2⟩
  all_goals
    go_enter Tryd.func4, Tryd.ntmps4
    go_wp2_with fail
    refine (summed_any _).mono ?_
    rintro e w1 ⟨rfl, rfl⟩
    go_wp2
    go_ret
    exact ⟨rfl, Below.refl _ _⟩

set_option maxRecDepth 100000 in
set_option maxHeartbeats 4000000 in
theorem sumTells_main (p : Nat → Addr) (s t : List UInt8) (a b n : Int) (w : World) (hE : Env p w) (hF : SEnv p w) (hs : s.length ≤ 500) (ht : t.length ≤ 40) :
    Calls Tryd.prog 4 #[.string ⟨s.toArray⟩, .string ⟨t.toArray⟩, .int .i64 a, .int .i64 b, .int .i64 n] w fun e w' => e = .returned (.bool true) ∧ Below w.heap.size w w' := by
  have HE := Lib.hid hE
  have HF := Lib.hid hF
  have hs' : ¬ (500 : Int) < s.length := by omega
  have ht' : ¬ (40 : Int) < t.length := by omega
  clear hE hF
  go_enter Tryd.func4, Tryd.ntmps4
  go_wp2_with fail
  refine (summed_any _).mono ?_
  rintro e w' ⟨rfl, rfl⟩
  go_wp2_with fail
  refine (pkJoin_any p a b n _ HF.out).mono ?_
  rintro e w1 ⟨rfl, hb1⟩
  have HB1 := Lib.hid hb1
  have HE1 := Lib.hid (HE.out.below hb1)
  have HF1 := Lib.hid (HF.out.below hb1)
  clear hb1
  go_wp2_with fail
  refine (joinSums_any a b n _).mono ?_
  rintro e w'' ⟨rfl, rfl⟩
  have HL := Lib.hid (joinS_le a b n)
  go_wp2_with fail
  refine (coded_errV p (joinS a b n).2 _ HE1.out HL.out).mono ?_
  rintro e w2 ⟨rfl, hb2⟩
  have HB2 := Lib.hid (HB1.out.trans (hb2.mono HB1.out.size))
  have HE2 := Lib.hid (HE1.out.below hb2)
  have HF2 := Lib.hid (HF1.out.below hb2)
  clear hb2
  go_wp2_with fail
  refine (pkOf_any s _ (by omega)).mono ?_
  rintro e w3 ⟨rfl, rfl⟩
  go_wp2_with fail
  refine (refSumOf_any s _ (by omega)).mono ?_
  rintro e w3 ⟨rfl, rfl⟩
  go_wp2_with fail
  refine (pkText_any p a _ HF2.out).mono ?_
  rintro e w3 ⟨rfl, hb3⟩
  have HB3 := Lib.hid (HB2.out.trans (hb3.mono HB2.out.size))
  have HE3 := Lib.hid (HE2.out.below hb3)
  have HF3 := Lib.hid (HF2.out.below hb3)
  clear hb3
  go_wp2_with fail
  refine (sumText_any a _).mono ?_
  rintro e w4 ⟨rfl, hb4⟩
  have HB4 := Lib.hid (HB3.out.trans (hb4.mono HB3.out.size))
  have HE4 := Lib.hid (HE3.out.below hb4)
  have HF4 := Lib.hid (HF3.out.below hb4)
  clear hb4
  go_wp2_with fail
  refine (pkRead_any p t _ HF4.out (by omega)).mono ?_
  rintro e w5 ⟨rfl, hb5⟩
  have HB5 := Lib.hid (HB4.out.trans (hb5.mono HB4.out.size))
  have HE5 := Lib.hid (HE4.out.below hb5)
  clear hb5
  go_wp2_with fail
  refine (readSum_any t _ (by omega)).mono ?_
  rintro e w'' ⟨rfl, rfl⟩
  go_wp2_with fail
  refine (coded_errV p (readS t).2 _ HE5.out (Nat.le_trans (read_le t) (by decide))).mono ?_
  rintro e w6 ⟨rfl, hb6⟩
  have HB6 := Lib.hid (HB5.out.trans (hb6.mono HB5.out.size))
  clear hb6
  go_wp2
  go_ret
  exact ⟨rfl, HB6.out⟩

theorem sumTells_any (p : Nat → Addr) (s t : ByteArray) (a b n : Int) (w : World) (hE : Env p w) (hF : SEnv p w) (hs : s.size ≤ maxLen) (ht : t.size ≤ maxLen) :
    Calls Tryd.prog 4 #[.string s, .string t, .int .i64 a, .int .i64 b, .int .i64 n] w fun e w' => e = .returned (.bool true) ∧ Below w.heap.size w w' := by
  by_cases h : 500 < s.size ∨ 40 < t.size
  · exact sumTells_long s t a b n w hs ht h
  · obtain ⟨s, rfl⟩ : ∃ l : List UInt8, s = ⟨l.toArray⟩ := ⟨s.data.toList, by cases s; simp⟩
    obtain ⟨t, rfl⟩ : ∃ l : List UInt8, t = ⟨l.toArray⟩ := ⟨t.data.toList, by cases t; simp⟩
    simp only [ByteArray.size, List.size_toArray] at h
    exact sumTells_main p s t a b n w hE hF (by omega) (by omega)
end Go.Proofs.YtfgnngbjklpjcaaDoor
