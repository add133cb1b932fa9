/-
  The law LinkTells, whatever texts it is called with: a walk over this seat's translation.
-/
import Derived.Test.YtmpfjambenkeeaaDoorLinked
import Derived.Test.YtmpfjambenkeeaaDoorPkLast
import Derived.Test.YtmpfjambenkeeaaDoorRefLinks
import Derived.Test.YtmpfjambenkeeaaDoorCodedV
namespace Go.Proofs.YtmpfjambenkeeaaDoor
open Go.RowKit Go.Shelf

theorem linkTells_long (p : Nat → Addr) (s a b : ByteArray) (w : World) (hE : LEnv p w) (hs : s.size ≤ maxLen) (ha : a.size ≤ maxLen) (hb : b.size ≤ maxLen) (h : 120 < s.size ∨ 120 < a.size ∨ 120 < b.size) :
    Calls Tryd.prog 4 #[.string s, .string a, .string b] w fun e w' => e = .returned (.bool true) ∧ Below w.heap.size w w' := by
  unfold maxLen at hs ha hb
  have HE := Lib.hid hE
  clear hE
  have hc : (120 : Int) < s.size ∨ (¬ (120 : Int) < s.size ∧ (120 : Int) < a.size) ∨ (¬ (120 : Int) < s.size ∧ ¬ (120 : Int) < a.size ∧ (120 : Int) < b.size) := by omega
  clear h
  rcases hc with h | ⟨h1, h2⟩ | ⟨h1, h2, h3⟩
  all_goals
    go_enter Tryd.func4, Tryd.ntmps4
    go_wp2_with fail
    refine (linked_any p _ HE.out).mono ?_
    rintro e w1 ⟨rfl, hb1⟩
    have HB1 := Lib.hid hb1
    clear hb1
    go_wp2
    go_ret
    exact ⟨rfl, HB1.out⟩

theorem coded_errZ (p : Nat → Addr) (c : Nat) (z : Int) (w : World) (hE : Env p w) (hc : c ≤ 13) (hz : (c : Int) = z) :
    Calls Tryd.prog 13 #[errV p c, .int .i64 z] w fun e w' => e = .returned (.bool true) ∧ Below w.heap.size w w' := by
  rw [← hz]
  exact coded_errV p c w hE hc
theorem hostOf_is (p : Nat → Addr) (s h q : List UInt8) (c : Nat) (w : World) (hE : LEnv p w) (hs : s.length ≤ 90000) (e : readK s = (h, q, c)) :
    Calls Tryd.prog 17 #[.string ⟨s.toArray⟩] w fun e w' => e = .returned (.tuple #[.string ⟨h.toArray⟩, errV p c]) ∧ Below w.heap.size w w' := by
  have := hostOf_any p s w hE hs
  rwa [checkK, e] at this
theorem linkLast_is (p : Nat → Addr) (s h q y : List UInt8) (c : Nat) (w : World) (hE : LEnv p w) (hs : s.length ≤ 90000) (e : readK s = (h, q, c)) (hy : lastL q = y) :
    Calls Tryd.prog 18 #[.string ⟨s.toArray⟩] w fun e w' => e = .returned (.tuple #[.string ⟨y.toArray⟩, errV p c]) ∧ Below w.heap.size w w' := by
  have := linkLast_any p s w hE hs
  rw [checkK, e] at this
  simp only at this
  rwa [hy] at this
theorem linkSwap_is (p : Nat → Addr) (a b s x : List UInt8) (k : Nat) (w : World) (hE : LEnv p w) (ha : a.length ≤ 40000) (hb : b.length ≤ 40000) (hs : s.length ≤ 40000) (e : swapK a b s = (x, k)) :
    Calls Tryd.prog 9 #[.string ⟨a.toArray⟩, .string ⟨b.toArray⟩, .string ⟨s.toArray⟩] w fun e w' => e = .returned (.tuple #[.string ⟨x.toArray⟩, errV p k]) ∧ Below w.heap.size w w' := by
  have := linkSwap_any p a b s w hE ha hb hs
  rwa [e] at this
theorem swapOf_is (a b s x : List UInt8) (k : Nat) (w : World) (ha : a.length ≤ 40000) (hb : b.length ≤ 40000) (hs : s.length ≤ 40000) (e : swapK a b s = (x, k)) :
    Calls Tryd.prog 19 #[.string ⟨a.toArray⟩, .string ⟨b.toArray⟩, .string ⟨s.toArray⟩] w fun e w' => e = .returned (.tuple #[.string ⟨x.toArray⟩, .int .i64 k]) ∧ Below w.heap.size w w' := by
  have := swapOf_any a b s w ha hb hs
  rwa [e] at this

/-- The last of the pieces, in memory. -/
theorem last_cell {q : List UInt8} {m base : Nat} {v : Value} {w : World} (hm : (pieces q).length = m + 1) (hrow : w.ownsRow base 9 1 v (pieces q).length ((pieces q).map sv)) :
    ∃ g cap, v = .slice (some ⟨g, 0, none⟩) (m + 1) cap ∧ w.cell? ⟨g, m, none⟩ = some (.string ⟨(lastL q).toArray⟩) := by
  have h1 := hrow
  rw [hm] at h1
  obtain ⟨g, cap, rfl⟩ := ownsRow_succ h1
  refine ⟨g, cap, rfl, ?_⟩
  rw [← hm] at hrow
  have hc := (owns_cells hrow rfl).1 m (by omega)
  rw [hc]
  have e : (pieces q)[m]'(by omega) = lastL q := by
    unfold lastL
    rw [List.getLast_eq_getElem]
    congr 1
    omega
  rw [e]

theorem readK_zero {s h q : List UInt8} (e : readK s = (h, q, 0)) : linkL s = (h, q, 0) := by
  unfold readK at e
  split at e
  · rename_i h0
    simp at e
    exact absurd e.2.2 h0
  · rename_i h0
    split at e
    · rename_i h1
      simp at e
      exact absurd e.2.2 h1
    · have h2 : (linkL s).2.2 = 0 := by omega
      rw [← e, ← h2]
theorem readK_bad {s h q : List UInt8} {c : Nat} (e : readK s = (h, q, c)) (hc : c ≠ 0) : h = [] ∧ q = [] := by
  unfold readK at e
  split at e
  · simp at e
    exact ⟨e.1, e.2.1⟩
  · split at e
    · simp at e
      exact ⟨e.1, e.2.1⟩
    · simp at e
      exact absurd e.2.2.symm hc

set_option maxRecDepth 100000 in
set_option maxHeartbeats 4000000 in
theorem linkTells_main (p : Nat → Addr) (s a b : List UInt8) (w : World) (hE : Env p w) (hL : LEnv p w) (hs : s.length ≤ 120) (ha : a.length ≤ 120) (hb : b.length ≤ 120) :
    Calls Tryd.prog 4 #[.string ⟨s.toArray⟩, .string ⟨a.toArray⟩, .string ⟨b.toArray⟩] w fun e w' => e = .returned (.bool true) ∧ Below w.heap.size w w' := by
  have HE := Lib.hid hE
  have HL := Lib.hid hL
  have hs' : ¬ (120 : Int) < s.length := by omega
  have ha' : ¬ (120 : Int) < a.length := by omega
  have hb' : ¬ (120 : Int) < b.length := by omega
  clear hE hL
  obtain ⟨⟨h, q, c⟩, hr⟩ : ∃ r, readK s = r := ⟨_, rfl⟩
  obtain ⟨d, hd⟩ : ∃ d, beginK s = d := ⟨_, rfl⟩
  obtain ⟨⟨x, k⟩, hx⟩ : ∃ r, swapK a b s = r := ⟨_, rfl⟩
  obtain ⟨y, hy⟩ : ∃ y, lastL q = y := ⟨_, rfl⟩
  have hcs := checkK_small s
  have hds := beginK_small s
  have hks := swapK_small a b s
  have hqs := (readK_short s).2
  have hck : checkK s = c := by unfold checkK; rw [hr]
  rw [hck] at hcs
  rw [hd] at hds
  rw [hx] at hks
  rw [hr] at hqs
  simp only at hks hqs
  have HR := Lib.hid hr
  have HC := Lib.hid hck
  have HD := Lib.hid hd
  have HDz : Hid (((beginK s : Nat) : Int) = d) := by show ((beginK s : Nat) : Int) = d; rw [hd]
  have HS := Lib.hid hx
  have HY := Lib.hid hy
  by_cases hc0 : c = 0
  · have HCz : Hid (((checkK s : Nat) : Int) = 0) := by show ((checkK s : Nat) : Int) = 0; rw [hck, hc0]; rfl
    have Hc0 : Hid ((c : Int) = 0) := by show (c : Int) = 0; rw [hc0]; rfl
    have HK : Hid (linkL s = (h, q, 0)) := by show linkL s = _; rw [hc0] at hr; exact readK_zero hr
    obtain ⟨m, hm⟩ : ∃ m, (pieces q).length = m + 1 := ⟨(pieces q).length - 1, by have := List.length_pos_iff.2 (pieces_ne q); omega⟩
    have hml := pieces_length q
    rw [hm] at hml
    have HM := Lib.hid hm
    clear hr hd hx hy hck hc0 hm
    go_enter Tryd.func4, Tryd.ntmps4
    go_wp2_with fail
    refine (linked_any p _ HL.out).mono ?_
    rintro e w1 ⟨rfl, hb1⟩
    have HB1 := Lib.hid hb1
    clear hb1
    go_wp2_with fail
    refine (linkError_is s (0) _ (by omega) HCz.out).mono ?_
    rintro e w2 ⟨rfl, hb2⟩
    have HB2 := Lib.hid (HB1.out.trans (hb2.mono HB1.out.size))
    clear hb2
    go_wp2_with fail
    refine (linkCheck_is p s c _ (HL.out.below HB2.out) (by omega) HC.out).mono ?_
    rintro e w3 ⟨rfl, hb3⟩
    have HB3 := Lib.hid (HB2.out.trans (hb3.mono HB2.out.size))
    clear hb3
    go_wp2_with fail
    refine (coded_errZ p c (0) _ (HE.out.below HB3.out) (by omega) Hc0.out).mono ?_
    rintro e w4 ⟨rfl, hb4⟩
    have HB4 := Lib.hid (HB3.out.trans (hb4.mono HB3.out.size))
    clear hb4
    go_wp2_with fail
    refine (linkBegins_is p s d _ (HL.out.below HB4.out) (by omega) HD.out).mono ?_
    rintro e w5 ⟨rfl, hb5⟩
    have HB5 := Lib.hid (HB4.out.trans (hb5.mono HB4.out.size))
    clear hb5
    go_wp2_with fail
    refine (beginError_is s d _ (by omega) HDz.out).mono ?_
    rintro e w6 ⟨rfl, hb6⟩
    have HB6 := Lib.hid (HB5.out.trans (hb6.mono HB5.out.size))
    clear hb6
    go_wp2_with fail
    refine (coded_errV p d _ (HE.out.below HB6.out) (by omega)).mono ?_
    rintro e w7 ⟨rfl, hb7⟩
    have HB7 := Lib.hid (HB6.out.trans (hb7.mono HB6.out.size))
    clear hb7
    go_wp2_with fail
    refine (linkParts_is s h q 0 _ (by omega) HK.out).mono ?_
    rintro e w8 ⟨⟨kk, rfl⟩, hb8⟩
    have HB8 := Lib.hid (HB7.out.trans (hb8.mono HB7.out.size))
    clear hb8
    go_wp2_with fail
    refine (refCut_any q _ (by omega)).mono ?_
    rintro e w9 ⟨v, rfl, hrow, hb9⟩
    have HB9 := Lib.hid (HB8.out.trans (hb9.mono HB8.out.size))
    clear hb9
    obtain ⟨g, cap, rfl, hcl⟩ := last_cell HM.out hrow
    rw [HY.out] at hcl
    clear hrow
    go_wp2_with fail
    refine (hostOf_is p s h q c _ (HL.out.below HB9.out) (by omega) HR.out).mono ?_
    rintro e w10 ⟨rfl, hb10⟩
    have HB10 := Lib.hid (HB9.out.trans (hb10.mono HB9.out.size))
    clear hb10
    go_wp2_with fail
    refine (coded_errZ p c (0) _ (HE.out.below HB10.out) (by omega) Hc0.out).mono ?_
    rintro e w11 ⟨rfl, hb11⟩
    have HB11 := Lib.hid (HB10.out.trans (hb11.mono HB10.out.size))
    clear hb11
    go_wp2_with fail
    refine (linkLast_is p s h q y c _ (HL.out.below HB11.out) (by omega) HR.out HY.out).mono ?_
    rintro e w12 ⟨rfl, hb12⟩
    have HB12 := Lib.hid (HB11.out.trans (hb12.mono HB11.out.size))
    clear hb12
    go_wp2_with fail
    refine (coded_errZ p c (0) _ (HE.out.below HB12.out) (by omega) Hc0.out).mono ?_
    rintro e w13 ⟨rfl, hb13⟩
    have HB13 := Lib.hid (HB12.out.trans (hb13.mono HB12.out.size))
    clear hb13
    go_wp2_with fail
    refine (linkSwap_is p a b s x k _ (HL.out.below HB13.out) (by omega) (by omega) (by omega) HS.out).mono ?_
    rintro e w14 ⟨rfl, hb14⟩
    have HB14 := Lib.hid (HB13.out.trans (hb14.mono HB13.out.size))
    clear hb14
    go_wp2_with fail
    refine (swapOf_is a b s x k _ (by omega) (by omega) (by omega) HS.out).mono ?_
    rintro e w15 ⟨rfl, hb15⟩
    have HB15 := Lib.hid (HB14.out.trans (hb15.mono HB14.out.size))
    clear hb15
    go_wp2_with fail
    refine (coded_errV p k _ (HE.out.below HB15.out) (by omega)).mono ?_
    rintro e w16 ⟨rfl, hb16⟩
    have HB16 := Lib.hid (HB15.out.trans (hb16.mono HB15.out.size))
    clear hb16
    go_wp2
    go_ret
    exact ⟨rfl, HB16.out⟩
  · have HCz : Hid (((checkK s : Nat) : Int) = c) := by show ((checkK s : Nat) : Int) = c; rw [hck]
    have hcz : ((c : Int) == 0) = false := by rw [beq_eq_false_iff_ne]; omega
    obtain ⟨rfl, rfl⟩ := readK_bad hr hc0
    have hy0 : y = [] := by rw [← hy]; exact lastL_no (by simp)
    subst hy0
    clear hr hd hx hy hck hc0
    go_enter Tryd.func4, Tryd.ntmps4
    go_wp2_with fail
    refine (linked_any p _ HL.out).mono ?_
    rintro e w1 ⟨rfl, hb1⟩
    have HB1 := Lib.hid hb1
    clear hb1
    go_wp2_with fail
    refine (linkError_is s (c) _ (by omega) HCz.out).mono ?_
    rintro e w2 ⟨rfl, hb2⟩
    have HB2 := Lib.hid (HB1.out.trans (hb2.mono HB1.out.size))
    clear hb2
    go_wp2_with fail
    refine (linkCheck_is p s c _ (HL.out.below HB2.out) (by omega) HC.out).mono ?_
    rintro e w3 ⟨rfl, hb3⟩
    have HB3 := Lib.hid (HB2.out.trans (hb3.mono HB2.out.size))
    clear hb3
    go_wp2_with fail
    refine (coded_errZ p c (c) _ (HE.out.below HB3.out) (by omega) rfl).mono ?_
    rintro e w4 ⟨rfl, hb4⟩
    have HB4 := Lib.hid (HB3.out.trans (hb4.mono HB3.out.size))
    clear hb4
    go_wp2_with fail
    refine (linkBegins_is p s d _ (HL.out.below HB4.out) (by omega) HD.out).mono ?_
    rintro e w5 ⟨rfl, hb5⟩
    have HB5 := Lib.hid (HB4.out.trans (hb5.mono HB4.out.size))
    clear hb5
    go_wp2_with fail
    refine (beginError_is s d _ (by omega) HDz.out).mono ?_
    rintro e w6 ⟨rfl, hb6⟩
    have HB6 := Lib.hid (HB5.out.trans (hb6.mono HB5.out.size))
    clear hb6
    go_wp2_with fail
    refine (coded_errV p d _ (HE.out.below HB6.out) (by omega)).mono ?_
    rintro e w7 ⟨rfl, hb7⟩
    have HB7 := Lib.hid (HB6.out.trans (hb7.mono HB6.out.size))
    clear hb7
    go_wp2_with fail
    refine (hostOf_is p s [] [] c _ (HL.out.below HB7.out) (by omega) HR.out).mono ?_
    rintro e w8 ⟨rfl, hb8⟩
    have HB8 := Lib.hid (HB7.out.trans (hb8.mono HB7.out.size))
    clear hb8
    go_wp2_with fail
    refine (coded_errZ p c (c) _ (HE.out.below HB8.out) (by omega) rfl).mono ?_
    rintro e w9 ⟨rfl, hb9⟩
    have HB9 := Lib.hid (HB8.out.trans (hb9.mono HB8.out.size))
    clear hb9
    go_wp2_with fail
    refine (linkLast_is p s [] [] [] c _ (HL.out.below HB9.out) (by omega) HR.out HY.out).mono ?_
    rintro e w10 ⟨rfl, hb10⟩
    have HB10 := Lib.hid (HB9.out.trans (hb10.mono HB9.out.size))
    clear hb10
    go_wp2_with fail
    refine (coded_errZ p c (c) _ (HE.out.below HB10.out) (by omega) rfl).mono ?_
    rintro e w11 ⟨rfl, hb11⟩
    have HB11 := Lib.hid (HB10.out.trans (hb11.mono HB10.out.size))
    clear hb11
    go_wp2_with fail
    refine (linkSwap_is p a b s x k _ (HL.out.below HB11.out) (by omega) (by omega) (by omega) HS.out).mono ?_
    rintro e w12 ⟨rfl, hb12⟩
    have HB12 := Lib.hid (HB11.out.trans (hb12.mono HB11.out.size))
    clear hb12
    go_wp2_with fail
    refine (swapOf_is a b s x k _ (by omega) (by omega) (by omega) HS.out).mono ?_
    rintro e w13 ⟨rfl, hb13⟩
    have HB13 := Lib.hid (HB12.out.trans (hb13.mono HB12.out.size))
    clear hb13
    go_wp2_with fail
    refine (coded_errV p k _ (HE.out.below HB13.out) (by omega)).mono ?_
    rintro e w14 ⟨rfl, hb14⟩
    have HB14 := Lib.hid (HB13.out.trans (hb14.mono HB13.out.size))
    clear hb14
    go_wp2
    go_ret
    exact ⟨rfl, HB14.out⟩

theorem linkTells_any (p : Nat → Addr) (s a b : ByteArray) (w : World) (hE : Env p w) (hL : LEnv p w) (hs : s.size ≤ maxLen) (ha : a.size ≤ maxLen) (hb : b.size ≤ maxLen) :
    Calls Tryd.prog 4 #[.string s, .string a, .string b] w fun e w' => e = .returned (.bool true) ∧ Below w.heap.size w w' := by
  by_cases h : 120 < s.size ∨ 120 < a.size ∨ 120 < b.size
  · exact linkTells_long p s a b w hL hs ha hb h
  · obtain ⟨s, rfl⟩ : ∃ l : List UInt8, s = ⟨l.toArray⟩ := ⟨s.data.toList, by cases s; simp⟩
    obtain ⟨a, rfl⟩ : ∃ l : List UInt8, a = ⟨l.toArray⟩ := ⟨a.data.toList, by cases a; simp⟩
    obtain ⟨b, rfl⟩ : ∃ l : List UInt8, b = ⟨l.toArray⟩ := ⟨b.data.toList, by cases b; simp⟩
    simp only [ByteArray.size, List.size_toArray] at h
    exact linkTells_main p s a b w hE hL (by omega) (by omega) (by omega)
end Go.Proofs.YtmpfjambenkeeaaDoor
