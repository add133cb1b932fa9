/-
  The law PathTells returns true, whatever texts and number it is called with, if the listed variables hold what the row lists: the walk of the law, over this seat's translation.
-/
import Derived.Test.YtpogcedghbokbaaDoorRefTexts
import Derived.Test.YtpogcedghbokbaaDoorPathed
import Derived.Test.YtpogcedghbokbaaDoorRefClean
namespace Go.Proofs.YtpogcedghbokbaaDoor
open Go.RowKit Go.Shelf

theorem checkCode_le (s : List UInt8) : checkCode s ≤ 13 := by
  unfold checkCode
  split
  · split <;> omega
  · omega

theorem cleanStep_le {st : List (List UInt8) × Nat} (h : st.2 ≤ 13) (x : List UInt8) : (cleanStep st x).2 ≤ 13 := by
  unfold cleanStep
  split
  · exact h
  · split
    · exact h
    · split
      · split <;> simp
      · split <;> simp

theorem cleanF_le (xs : List (List UInt8)) : (cleanF xs).2 ≤ 13 := by
  have h : ∀ (xs : List (List UInt8)) (st : List (List UInt8) × Nat), st.2 ≤ 13 → (xs.foldl cleanStep st).2 ≤ 13 := by
    intro xs
    induction xs with
    | nil => intro st h; exact h
    | cons x xs ih => intro st h; exact ih _ (cleanStep_le h x)
  exact h xs ([], 0) (by decide)

theorem cleanL_le (s : List UInt8) : (cleanL s).2 ≤ 13 := by
  have := cleanF_le (pieces s)
  unfold cleanL
  split
  · simp
  · split
    · exact this
    · split <;> simp

theorem stripL_le (s : List UInt8) (n : Int) : (stripL s n).2 ≤ 13 := by
  have := checkCode_le s
  unfold stripL
  split
  · exact this
  · split
    · simp
    · split <;> simp

theorem parts_any (p : Nat → Addr) (s : List UInt8) (w : World) (hE : Env p w) (hs : s.length ≤ 90000) :
    Calls Tryd.prog 13 #[.string ⟨s.toArray⟩] w fun e w' => (∃ v, e = .returned (.tuple #[v, errV p (checkCode s)]) ∧ (checkCode s = 0 → w'.ownsRow w.heap.size 9 1 v (pieces s).length ((pieces s).map sv)) ∧ (checkCode s ≠ 0 → v = .slice none 0 0)) ∧ Below w.heap.size w w' := by
  cases hc : checkCode s with
  | zero =>
    exact (parts_ok p s w hE hs hc).mono fun e w' ⟨v, h1, h2, h3⟩ => ⟨⟨v, h1, fun _ => h2, fun h => absurd rfl h⟩, h3⟩
  | succ k =>
    exact (parts_bad p s k w hE hs hc).mono fun e w' ⟨h1, h2⟩ => ⟨⟨_, h1, fun h => absurd h (by simp), fun _ => rfl⟩, h2⟩

/-- SameTexts of what Parts and PartsOf hand back. -/
theorem same_parts (s : List UInt8) (b1 b2 : Nat) (v x : Value) (w1 w2 : World) (hs : s.length ≤ 90000) (hb : Below w1.heap.size w1 w2)
    (h1 : checkCode s = 0 → w1.ownsRow b1 9 1 v (pieces s).length ((pieces s).map sv)) (n1 : checkCode s ≠ 0 → v = .slice none 0 0)
    (h2 : checkCode s = 0 → w2.ownsRow b2 9 1 x (pieces s).length ((pieces s).map sv)) (n2 : checkCode s ≠ 0 → x = .slice none 0 0) (w3 : World) (hb3 : Below w2.heap.size w2 w3) :
    Calls Tryd.prog 15 #[v, x] w3 fun e w' => e = .returned (.bool true) ∧ Below w3.heap.size w3 w' := by
  by_cases hc : checkCode s = 0
  · have hpl := pieces_length s
    have hpn : 1 ≤ (pieces s).length := by
      have := pieces_ne s
      rcases hl : pieces s with _ | ⟨y, r⟩
      · exact absurd hl this
      · simp
    obtain ⟨q, hq⟩ : ∃ q, (pieces s).length = q + 1 := ⟨(pieces s).length - 1, by omega⟩
    have r1 := h1 hc
    have r2 := h2 hc
    have r1' := r1
    have r2' := r2
    rw [hq] at r1' r2'
    obtain ⟨g1, c1, rfl⟩ := ownsRow_succ r1'
    obtain ⟨g2, c2, rfl⟩ := ownsRow_succ r2'
    rw [← hq] at r1 r2 ⊢
    obtain ⟨k1, l1, _⟩ := owns_cells r1 rfl
    obtain ⟨k2, l2, _⟩ := owns_cells r2 rfl
    refine sameTexts_own g1 g2 c1 c2 (pieces s) w3 (by omega) (fun j h => ?_) (fun j h => ?_)
    · exact (hb3.cell (p := ⟨g1, j, none⟩) (Nat.lt_of_lt_of_le l1 hb.size)).trans ((hb.cell (p := ⟨g1, j, none⟩) l1).trans (k1 j h))
    · exact (hb3.cell (p := ⟨g2, j, none⟩) l2).trans (k2 j h)
  · rw [n1 hc, n2 hc]
    exact sameTexts_nil w3

theorem tells_long (p : Nat → Addr) (s d : ByteArray) (n : Int) (w : World) (hE : Env p w) (hs : s.size ≤ maxLen) (hd : d.size ≤ maxLen) (h : 100 < s.size ∨ 100 < d.size) :
    Calls Tryd.prog 4 #[.string s, .string d, .int .i64 n] w fun e w' => e = .returned (.bool true) ∧ Below w.heap.size w w' := by
  have HE : Hid (Env p w) := hE
  unfold maxLen at hs hd
  clear hE
  have hc : (100 : Int) < s.size ∨ (¬ (100 : Int) < s.size ∧ (100 : Int) < d.size) := by omega
  clear h
  rcases hc with h | ⟨h1, h2⟩
  all_goals
    go_enter Tryd.func4, Tryd.ntmps4
    go_wp2_with fail
    refine (pathed_any p _ HE.out).mono ?_
    rintro e w1 ⟨rfl, hb1⟩
    have HB1 : Hid (Below w.heap.size w w1) := hb1
    clear hb1
    go_wp2
    go_ret
    exact ⟨rfl, HB1.out⟩

set_option maxRecDepth 100000 in
set_option maxHeartbeats 4000000 in
theorem tells_main (p : Nat → Addr) (s d : List UInt8) (n : Int) (w : World) (hE : Env p w) (hs : s.length ≤ 100) (hd : d.length ≤ 100) :
    Calls Tryd.prog 4 #[.string ⟨s.toArray⟩, .string ⟨d.toArray⟩, .int .i64 n] w fun e w' => e = .returned (.bool true) ∧ Below w.heap.size w w' := by
  have HE : Hid (Env p w) := hE
  have hs' : ¬ (100 : Int) < s.length := by omega
  have hd' : ¬ (100 : Int) < d.length := by omega
  have HLC : Hid (checkCode s ≤ 13) := checkCode_le s
  clear hE
  go_enter Tryd.func4, Tryd.ntmps4
  go_wp2_with fail
  refine (pathed_any p _ HE.out).mono ?_
  rintro e w1 ⟨rfl, hb1⟩
  have HB1 : Hid (Below w.heap.size w w1) := hb1
  have HE1 : Hid (Env p w1) := HE.out.below hb1
  clear hb1
  go_wp2_with fail
  refine (parts_any p s _ HE1.out (by omega)).mono ?_
  rintro e w2 ⟨⟨v, rfl, o1, n1⟩, hb2⟩
  have HB2 : Hid (Below w.heap.size w w2) := HB1.out.trans (hb2.mono HB1.out.size)
  have HE2 : Hid (Env p w2) := HE1.out.below hb2
  have HO1 : Hid (checkCode s = 0 → w2.ownsRow w1.heap.size 9 1 v (pieces s).length ((pieces s).map sv)) := o1
  have HN1 : Hid (checkCode s ≠ 0 → v = .slice none 0 0) := n1
  clear hb2 o1 n1
  go_wp2_with fail
  refine (partsOf_any s _ (by omega)).mono ?_
  rintro e w3 ⟨⟨x, rfl, o2, n2⟩, hb3⟩
  have HB23 : Hid (Below w2.heap.size w2 w3) := hb3
  have HB3 : Hid (Below w.heap.size w w3) := HB2.out.trans (hb3.mono HB2.out.size)
  have HE3 : Hid (Env p w3) := HE2.out.below hb3
  have HO2 : Hid (checkCode s = 0 → w3.ownsRow w2.heap.size 9 1 x (pieces s).length ((pieces s).map sv)) := o2
  have HN2 : Hid (checkCode s ≠ 0 → x = .slice none 0 0) := n2
  clear hb3 o2 n2
  go_wp2_with fail
  refine (coded_errV p (checkCode s) _ HE3.out HLC.out).mono ?_
  rintro e w4 ⟨rfl, hb4⟩
  have HB34 : Hid (Below w3.heap.size w3 w4) := hb4
  have HB4 : Hid (Below w.heap.size w w4) := HB3.out.trans (hb4.mono HB3.out.size)
  have HE4 : Hid (Env p w4) := HE3.out.below hb4
  clear hb4
  go_wp2_with fail
  refine (same_parts s _ _ v x w2 w3 (by omega) HB23.out HO1.out HN1.out HO2.out HN2.out w4 HB34.out).mono ?_
  rintro e w5 ⟨rfl, hb5⟩
  have HB5 : Hid (Below w.heap.size w w5) := HB4.out.trans (hb5.mono HB4.out.size)
  have HE5 : Hid (Env p w5) := HE4.out.below hb5
  clear hb5 HO1 HO2 HN1 HN2
  go_wp2_with fail
  refine (check_any p s _ HE5.out (by omega)).mono ?_
  rintro e w6 ⟨rfl, hb6⟩
  have HB6 : Hid (Below w.heap.size w w6) := HB5.out.trans (hb6.mono HB5.out.size)
  have HE6 : Hid (Env p w6) := HE5.out.below hb6
  clear hb6
  go_wp2_with fail
  refine (coded_errV p (checkCode s) _ HE6.out HLC.out).mono ?_
  rintro e w7 ⟨rfl, hb7⟩
  have HB7 : Hid (Below w.heap.size w w7) := HB6.out.trans (hb7.mono HB6.out.size)
  have HE7 : Hid (Env p w7) := HE6.out.below hb7
  clear hb7
  go_wp2_with fail
  refine (clean_any p s _ HE7.out (by omega)).mono ?_
  rintro e w8 ⟨rfl, hb8⟩
  have HB8 : Hid (Below w.heap.size w w8) := HB7.out.trans (hb8.mono HB7.out.size)
  have HE8 : Hid (Env p w8) := HE7.out.below hb8
  clear hb8
  go_wp2_with fail
  refine (cleanOf_any s _ (by omega)).mono ?_
  rintro e w9 ⟨rfl, hb9⟩
  have HB9 : Hid (Below w.heap.size w w9) := HB8.out.trans (hb9.mono HB8.out.size)
  have HE9 : Hid (Env p w9) := HE8.out.below hb9
  clear hb9
  go_wp2_with fail
  refine (coded_errV p (cleanL s).2 _ HE9.out (cleanL_le s)).mono ?_
  rintro e wa ⟨rfl, hba⟩
  have HBa : Hid (Below w.heap.size w wa) := HB9.out.trans (hba.mono HB9.out.size)
  have HEa : Hid (Env p wa) := HE9.out.below hba
  clear hba
  go_wp2_with fail
  refine (pathJoin_is p d s (cleanL (joinTo d s)).1 (cleanL (joinTo d s)).2 _ HEa.out (by omega) (by omega) rfl).mono ?_
  rintro e wb ⟨rfl, hbb⟩
  have HBb : Hid (Below w.heap.size w wb) := HBa.out.trans (hbb.mono HBa.out.size)
  have HEb : Hid (Env p wb) := HEa.out.below hbb
  clear hbb
  go_wp2_with fail
  refine (joinOf_any d s _ (by omega) (by omega)).mono ?_
  rintro e wc ⟨rfl, hbc⟩
  have HBc : Hid (Below w.heap.size w wc) := HBb.out.trans (hbc.mono HBb.out.size)
  have HEc : Hid (Env p wc) := HEb.out.below hbc
  clear hbc
  go_wp2_with fail
  refine (coded_errV p (cleanL (joinTo d s)).2 _ HEc.out (cleanL_le _)).mono ?_
  rintro e wd ⟨rfl, hbd⟩
  have HBd : Hid (Below w.heap.size w wd) := HBc.out.trans (hbd.mono HBc.out.size)
  have HEd : Hid (Env p wd) := HEc.out.below hbd
  clear hbd
  go_wp2_with fail
  refine (strip_is p s n _ HEd.out (by omega)).mono ?_
  rintro e we ⟨rfl, hbe⟩
  have HBe : Hid (Below w.heap.size w we) := HBd.out.trans (hbe.mono HBd.out.size)
  have HEe : Hid (Env p we) := HEd.out.below hbe
  clear hbe
  go_wp2_with fail
  refine (stripOf_any s n _ (by omega)).mono ?_
  rintro e wf ⟨rfl, hbf⟩
  have HBf : Hid (Below w.heap.size w wf) := HBe.out.trans (hbf.mono HBe.out.size)
  have HEf : Hid (Env p wf) := HEe.out.below hbf
  clear hbf
  go_wp2_with fail
  refine (refIsIn_any s d _ (by omega) (by omega)).mono ?_
  rintro e wg ⟨rfl, hbg⟩
  have HBg : Hid (Below w.heap.size w wg) := HBf.out.trans (hbg.mono HBf.out.size)
  have HEg : Hid (Env p wg) := HEf.out.below hbg
  clear hbg
  go_wp2_with fail
  refine (coded_errV p (stripL s n).2 _ HEg.out (stripL_le _ _)).mono ?_
  rintro e wh ⟨rfl, hbh⟩
  have HBh : Hid (Below w.heap.size w wh) := HBg.out.trans (hbh.mono HBg.out.size)
  have HEh : Hid (Env p wh) := HEg.out.below hbh
  clear hbh
  go_wp2_with fail
  refine (in_any p s d _ HEh.out (by omega) (by omega)).mono ?_
  rintro e wi ⟨rfl, hbi⟩
  have HBi : Hid (Below w.heap.size w wi) := HBh.out.trans (hbi.mono HBh.out.size)
  clear hbi
  go_wp2
  go_ret
  exact ⟨rfl, HBi.out⟩

theorem tells_any (p : Nat → Addr) (s d : ByteArray) (n : Int) (w : World) (hE : Env p w) (hs : s.size ≤ maxLen) (hd : d.size ≤ maxLen) :
    Calls Tryd.prog 4 #[.string s, .string d, .int .i64 n] w fun e w' => e = .returned (.bool true) ∧ Below w.heap.size w w' := by
  by_cases h : 100 < s.size ∨ 100 < d.size
  · exact tells_long p s d n w hE hs hd h
  · obtain ⟨s, rfl⟩ : ∃ l : List UInt8, s = ⟨l.toArray⟩ := ⟨s.data.toList, by cases s; simp⟩
    obtain ⟨d, rfl⟩ : ∃ l : List UInt8, d = ⟨l.toArray⟩ := ⟨d.data.toList, by cases d; simp⟩
    simp only [ByteArray.size, List.size_toArray] at h
    exact tells_main p s d n w hE (by omega) (by omega)
end Go.Proofs.YtpogcedghbokbaaDoor
