/-
  The law MirrorWays, whatever it is called with: what is too long, and what is not.
-/
import Derived.Test.YtmpfjambenkeeaaDoorLawMirrorWays
namespace Go.Proofs.YtmpfjambenkeeaaDoor
open Go.RowKit Go.Shelf

theorem mirrorWays_any (p : Nat → Addr) (l : List Ru) (a : Option Addr) (ca : Nat) (s : ByteArray) (n : Int) (w : World) (hL : LEnv p w) (hc : CameR w a ca l) (hs : s.size ≤ maxLen) :
    Calls Tryd.prog 5 #[.slice a l.length ca, .string s, .int .i64 n] w fun e w' => e = .returned (.bool true) ∧ Below w.heap.size w w' := by
  unfold maxLen at hs
  rcases longR_or l with h | h
  · by_cases hsl : 120 < s.size
    · have hsl' : (120 : Int) < s.size := by omega
      have HLE := Lib.hid hL
      have HC := Lib.hid hc
      have HLG := Lib.hid h
      clear hL hc h hsl
      go_enter Tryd.func5, Tryd.ntmps5
      go_wp2_with fail
      refine (mirrored_any p _ HLE.out).mono ?_
      rintro e w1 ⟨rfl, hb1⟩
      have HB1 := Lib.hid hb1
      clear hb1
      go_wp2_with fail
      refine (longRules_is l a ca _ _ (HC.out.lies.below HB1.out) HC.out.len HC.out.texts HLG.out).mono ?_
      rintro e w' ⟨rfl, rfl⟩
      go_wp2
      go_ret
      exact ⟨rfl, HB1.out⟩
    · obtain ⟨s, rfl⟩ : ∃ l : List UInt8, s = ⟨l.toArray⟩ := ⟨s.data.toList, by cases s; simp⟩
      exact mirrorWays_main p l a ca s n w hL hc (by simp only [ByteArray.size, List.size_toArray] at hsl; omega) h
  · have HLE := Lib.hid hL
    have HC := Lib.hid hc
    have HLG := Lib.hid h
    clear hL hc h
    go_enter Tryd.func5, Tryd.ntmps5
    go_wp2_with fail
    refine (mirrored_any p _ HLE.out).mono ?_
    rintro e w1 ⟨rfl, hb1⟩
    have HB1 := Lib.hid hb1
    clear hb1
    go_wp2_with fail
    refine (longRules_is l a ca _ _ (HC.out.lies.below HB1.out) HC.out.len HC.out.texts HLG.out).mono ?_
    rintro e w' ⟨rfl, rfl⟩
    go_wp2
    go_ret
    exact ⟨rfl, HB1.out⟩
end Go.Proofs.YtmpfjambenkeeaaDoor
