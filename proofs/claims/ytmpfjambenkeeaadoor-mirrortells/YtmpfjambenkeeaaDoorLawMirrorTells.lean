/-
  The law MirrorTells, whatever rules and whatever link it is called with: a walk over this seat's translation.
-/
import Derived.Test.YtmpfjambenkeeaaDoorMirrored
import Derived.Test.YtmpfjambenkeeaaDoorRefWays
import Derived.Test.YtmpfjambenkeeaaDoorCameRules
namespace Go.Proofs.YtmpfjambenkeeaaDoor
open Go.RowKit Go.Shelf

set_option maxRecDepth 100000 in
set_option maxHeartbeats 8000000 in
theorem mirrorTells_main (p : Nat → Addr) (l : List Ru) (a : Option Addr) (ca : Nat) (s : List UInt8) (w : World) (hE : Env p w) (hL : LEnv p w) (hc : CameR w a ca l) (hs : s.length ≤ 120) (h : (longR l : Int) = 0) :
    Calls Tryd.prog 6 #[.slice a l.length ca, .string ⟨s.toArray⟩] w fun e w' => e = .returned (.bool true) ∧ Below w.heap.size w w' := by
  have HSM := Lib.hid (longR_small h).1
  have HE := Lib.hid hE
  have HLE := Lib.hid hL
  have HC := Lib.hid hc
  have HLG := Lib.hid h
  have hs' : ¬ (120 : Int) < s.length := by omega
  have hwl : (waysQ (l.map Ru.q) s).1.length ≤ 100000 := by
    unfold waysQ
    split
    · simp
    · split
      · simp
      · have h1 := waysL_length (closestQ s (l.map Ru.q)) s
        have h2 : (closestQ s (l.map Ru.q)).2.length ≤ 1000 := by
          rw [← closestR_q]
          exact closestR_small (s := s) (l := l) (fun r => r.t.length ≤ 1000) (by simp [noRu]) HSM.out.many
        simp only
        omega
  clear hE hL hc h
  go_enter Tryd.func6, Tryd.ntmps6
  go_wp2_with fail
  refine (mirrored_any p _ HLE.out).mono ?_
  rintro e w1 ⟨rfl, hb1⟩
  have HB1 := Lib.hid hb1
  clear hb1
  go_wp2_with fail
  refine (longRules_is l a ca _ _ (HC.out.lies.below HB1.out) HC.out.len HC.out.texts HLG.out).mono ?_
  rintro e w' ⟨rfl, rfl⟩
  go_wp2_with fail
  refine (ownRules_any l a ca _ (HC.out.lies.below HB1.out) HSM.out).mono ?_
  rintro e w2 ⟨⟨v, m, rfl, hmq, hown⟩, hb2⟩
  have HB2 := Lib.hid (HB1.out.trans (hb2.mono HB1.out.size))
  obtain ⟨va, vc, rfl, hra, _, _⟩ := hown.rules
  have HRA := Lib.hid hra
  have HSQ := Lib.hid (small_of_q hmq HSM.out)
  have HMQ := Lib.hid hmq
  clear hb2 hown hra hmq
  go_wp2_with fail
  refine (mirrorCheck_any p m va vc _ (HLE.out.below HB2.out) HRA.out HSQ.out).mono ?_
  rintro e w3 ⟨⟨u, rfl, herr⟩, hb3⟩
  rw [HMQ.out] at herr
  have HB3 := Lib.hid (HB2.out.trans (hb3.mono HB2.out.size))
  have HERR := Lib.hid herr
  clear hb3 herr HRA HSQ HMQ
  go_wp2_with fail
  refine (rulesFault_any l a ca _ (HC.out.lies.below HB3.out) HSM.out).mono ?_
  rintro e w4 ⟨rfl, hb4⟩
  have HB4 := Lib.hid (HB3.out.trans (hb4.mono HB3.out.size))
  have HERR4 := Lib.hid (HERR.out.below hb4)
  clear hb4 HERR
  go_wp2_with fail
  refine (faulted_err HERR4.out (HE.out.below HB4.out)).mono ?_
  rintro e w5 ⟨rfl, hb5⟩
  have HB5 := Lib.hid (HB4.out.trans (hb5.mono HB4.out.size))
  clear hb5 HERR4
  go_wp2_with fail
  refine (ownRules_any l a ca _ (HC.out.lies.below HB5.out) HSM.out).mono ?_
  rintro e w6 ⟨⟨v, m, rfl, hmq, hown⟩, hb6⟩
  have HB6 := Lib.hid (HB5.out.trans (hb6.mono HB5.out.size))
  obtain ⟨va, vc, rfl, hra, _, _⟩ := hown.rules
  have HRA := Lib.hid hra
  have HSQ := Lib.hid (small_of_q hmq HSM.out)
  have HMQ := Lib.hid hmq
  clear hb6 hown hra hmq
  go_wp2_with fail
  refine (waysOn_any p s m va _ vc _ _ (HLE.out.below HB6.out) HRA.out HSQ.out (by omega) rfl (by rw [HMQ.out])).mono ?_
  rintro e w7 ⟨⟨x, u, rfl, herr, hrow⟩, hb7⟩
  have HB7 := Lib.hid (HB6.out.trans (hb7.mono HB6.out.size))
  have HERR := Lib.hid herr
  have HROW := Lib.hid hrow
  clear hb7 herr hrow HRA HSQ HMQ
  go_wp2_with fail
  refine (waysOf_any s l a ca _ (HC.out.lies.below HB7.out) HSM.out (by omega)).mono ?_
  rintro e w8 ⟨⟨y, rfl, hrow8⟩, hb8⟩
  have HB8 := Lib.hid (HB7.out.trans (hb8.mono HB7.out.size))
  have HERR8 := Lib.hid (HERR.out.below hb8)
  have HROW8 := Lib.hid (row_below HROW.out hb8)
  have HR8 := Lib.hid hrow8
  clear hb8 hrow8 HERR HROW
  obtain ⟨c, hcc⟩ : ∃ c, (waysQ (l.map Ru.q) s).2.1 = c := ⟨_, rfl⟩
  obtain ⟨i, hii⟩ : ∃ i, (waysQ (l.map Ru.q) s).2.2 = i := ⟨_, rfl⟩
  obtain ⟨ws, hws⟩ : ∃ ws, (waysQ (l.map Ru.q) s).1 = ws := ⟨_, rfl⟩
  rw [hcc, hii] at HERR8 ⊢
  rw [hws] at HROW8 HR8 hwl
  clear hcc hii hws
  obtain ⟨W, hW⟩ : ∃ W, W = w8.alloc (.cells #[.int .i64 c, .int .i64 i] 52) := ⟨_, rfl⟩
  have hBW : Below w8.heap.size w8 W := by rw [hW]; exact (Below.refl _ _).alloc (Nat.le_refl _) _
  have hTW : Two W w8.heap.size (.int .i64 c) (.int .i64 i) 52 := by rw [hW]; exact Two.new _ _ _ _
  have HBW := Lib.hid (HB8.out.trans (hBW.mono HB8.out.size))
  have HERW := Lib.hid (HERR8.out.below hBW)
  have HROW9 := Lib.hid (row_below HROW8.out hBW)
  have HR9 := Lib.hid (row_below HR8.out hBW)
  obtain ⟨z0, z1, _, _⟩ := hTW.cells
  clear hBW hTW HERR8 HROW8 HR8
  go_wp2_with fail
  rw [← hW]
  refine (faulted_err HERW.out (HE.out.below HBW.out)).mono ?_
  rintro e w9 ⟨rfl, hb9⟩
  have HB9 := Lib.hid (HBW.out.trans (hb9.mono HBW.out.size))
  have HROWa := Lib.hid (row_below HROW9.out hb9)
  have HRa := Lib.hid (row_below HR9.out hb9)
  clear hb9 hW
  go_wp2_with fail
  refine (sameTexts_yes HROWa.out HRa.out hwl).mono ?_
  rintro e wa ⟨rfl, hba⟩
  have HBa := Lib.hid (HB9.out.trans (hba.mono HB9.out.size))
  clear hba
  go_wp2
  go_ret
  exact ⟨rfl, HBa.out⟩

theorem mirrorTells_any (p : Nat → Addr) (l : List Ru) (a : Option Addr) (ca : Nat) (s : ByteArray) (w : World) (hE : Env p w) (hL : LEnv p w) (hc : CameR w a ca l) (hs : s.size ≤ maxLen) :
    Calls Tryd.prog 6 #[.slice a l.length ca, .string s] w fun e w' => e = .returned (.bool true) ∧ Below w.heap.size w w' := by
  unfold maxLen at hs
  rcases longR_or l with h | h
  · by_cases hsl : 120 < s.size
    · have hsl' : (120 : Int) < s.size := by omega
      have HLE := Lib.hid hL
      have HC := Lib.hid hc
      have HLG := Lib.hid h
      clear hE hL hc h hsl
      go_enter Tryd.func6, Tryd.ntmps6
      go_wp2_with fail
      refine (mirrored_any p _ HLE.out).mono ?_
      rintro e w1 ⟨rfl, hb1⟩
      have HB1 := Lib.hid hb1
      clear hb1
      go_wp2_with fail
      refine (longRules_is l a ca _ _ (HC.out.lies.below HB1.out) HC.out.len HC.out.texts HLG.out).mono ?_
      rintro e w' ⟨rfl, rfl⟩
      go_wp2
      go_ret
      exact ⟨rfl, HB1.out⟩
    · obtain ⟨s, rfl⟩ : ∃ l : List UInt8, s = ⟨l.toArray⟩ := ⟨s.data.toList, by cases s; simp⟩
      exact mirrorTells_main p l a ca s w hE hL hc (by simp only [ByteArray.size, List.size_toArray] at hsl; omega) h
  · have HLE := Lib.hid hL
    have HC := Lib.hid hc
    have HLG := Lib.hid h
    clear hE hL hc h
    go_enter Tryd.func6, Tryd.ntmps6
    go_wp2_with fail
    refine (mirrored_any p _ HLE.out).mono ?_
    rintro e w1 ⟨rfl, hb1⟩
    have HB1 := Lib.hid hb1
    clear hb1
    go_wp2_with fail
    refine (longRules_is l a ca _ _ (HC.out.lies.below HB1.out) HC.out.len HC.out.texts HLG.out).mono ?_
    rintro e w' ⟨rfl, rfl⟩
    go_wp2
    go_ret
    exact ⟨rfl, HB1.out⟩
end Go.Proofs.YtmpfjambenkeeaaDoor
