/-
  The law PressTells, whatever texts and number it is called with: a walk over this seat's translation.
-/
import Derived.Test.YtjdbpabniaclaaaDoorLawPressBack
import Derived.Test.YtjdbpabniaclaaaDoorRefOpen
namespace Go.Proofs.YtjdbpabniaclaaaDoor
open Go.RowKit Go.Shelf

theorem pressTells_long (p : Nat → Addr) (s t : ByteArray) (most : Int) (w : World) (hE : Env p w) (hT : Tab w) (hs : s.size ≤ maxLen) (ht : t.size ≤ maxLen) (h : 500 < s.size ∨ 300 < t.size ∨ 100000 < most) :
    Calls Tryd.prog 4 #[.string s, .string t, .int .i64 most] w fun e w' => e = .returned (.bool true) ∧ Below w.heap.size w w' := by
  unfold maxLen at hs ht
  have HE := Lib.hid hE
  have HT := Lib.hid hT
  clear hE hT
  have hc : (500 : Int) < s.size ∨ (¬ (500 : Int) < s.size ∧ (300 : Int) < t.size) ∨ (¬ (500 : Int) < s.size ∧ ¬ (300 : Int) < t.size ∧ 100000 < most) := by omega
  clear h
  rcases hc with h | ⟨h1, h2⟩ | ⟨h1, h2, h3⟩
  all_goals
    go_enter Tryd.func4, Tryd.ntmps4
    go_wp2_with fail
    refine (pressed_any p _ HE.out HT.out).mono ?_
    rintro e w1 ⟨rfl, hb1⟩
    have HB1 := Lib.hid hb1
    clear hb1
    go_wp2
    go_ret
    exact ⟨rfl, HB1.out⟩

/-- Two cells of a block, kept. -/
theorem two_cells {w : World} {b : Nat} {x y : Value} {T : TypeId} {fz : Nat × Nat} (h : w.heap[b]? = some (.cells #[x, y] T fz)) : w.cell? ⟨b, 0, none⟩ = some x ∧ w.cell? ⟨b, 1, none⟩ = some y := by
  refine ⟨?_, ?_⟩ <;> simp [World.cell?, h]

theorem two_free {w : World} {b : Nat} {x y : Value} {T : TypeId} (h : w.heap[b]? = some (.cells #[x, y] T (0, 0))) : w.frozen? ⟨b, 0, none⟩ = false ∧ w.frozen? ⟨b, 1, none⟩ = false := by
  refine ⟨?_, ?_⟩ <;> simp [World.frozen?, h]
/-- An error lies apart from a block of two numbers. -/
theorem err_apart {p : Nat → Addr} {w : World} {v : Value} {c : Nat} {i x y : Int} {F : Nat} {T : TypeId} {fz : Nat × Nat} (h : ErrAt p w v c i) (hF : w.heap[F]? = some (.cells #[.int .i64 x, .int .i64 y] T fz)) (u1 u2 : Value) :
    ErrAt p ((w.setCell ⟨F, 0, none⟩ u1).setCell ⟨F, 1, none⟩ u2) v c i := by
  rcases h with h | h | ⟨j, b, o, h0, h1, h2, h3, h4⟩
  · exact .inl h
  · exact .inr (.inl h)
  · have hne : b ≠ F := by
      rintro rfl
      have e : w.cell? ⟨b, o + 1, none⟩ = #[Value.int .i64 x, .int .i64 y][o + 1]? := by simp [World.cell?, hF]
      rw [e] at h4
      rcases o with _ | o
      · simp at h4
      · simp at h4
    have k : ∀ q : Nat, ((w.setCell ⟨F, 0, none⟩ u1).setCell ⟨F, 1, none⟩ u2).cell? ⟨b, q, none⟩ = w.cell? ⟨b, q, none⟩ := fun q => by
      rw [World.cell?_setCell_other (h := fun e => hne (congrArg Addr.block e).symm), World.cell?_setCell_other (h := fun e => hne (congrArg Addr.block e).symm)]
    exact .inr (.inr ⟨j, b, o, h0, h1, h2, (k o).trans h3, (k (o + 1)).trans h4⟩)

set_option maxRecDepth 100000 in
set_option maxHeartbeats 4000000 in
theorem pressTells_main (p : Nat → Addr) (s t : List UInt8) (most : Int) (w : World) (hE : Env p w) (hT : Tab w) (hs : s.length ≤ 500) (ht : t.length ≤ 300) (hm : most ≤ 100000) :
    Calls Tryd.prog 4 #[.string ⟨s.toArray⟩, .string ⟨t.toArray⟩, .int .i64 most] w fun e w' => e = .returned (.bool true) ∧ Below w.heap.size w w' := by
  have HE := Lib.hid hE
  have HT := Lib.hid hT
  have hs' : ¬ (500 : Int) < s.length := by omega
  have ht' : ¬ (300 : Int) < t.length := by omega
  have hm' : ¬ (100000 : Int) < most := by omega
  have hsz := size_runsS t
  have hfw : (runsS t).length ≤ 1000000 := by
    unfold runsS
    split
    · have := (read_few t.length t (Nat.le_refl _)).1; omega
    · simp
  clear hE hT
  go_enter Tryd.func4, Tryd.ntmps4
  go_wp2_with fail
  refine (pressed_any p _ HE.out HT.out).mono ?_
  rintro e w1 ⟨rfl, hb1⟩
  have HB1 := Lib.hid hb1
  clear hb1
  go_wp2_with fail
  refine (press_any s _ (by omega) (HT.out.below HB1.out)).mono ?_
  rintro e w2 ⟨rfl, hb2⟩
  have HB2 := Lib.hid (HB1.out.trans (hb2.mono HB1.out.size))
  clear hb2
  go_wp2_with fail
  refine (pressOf_any s _ (by omega)).mono ?_
  rintro e w3 ⟨rfl, hb3⟩
  have HB3 := Lib.hid (HB2.out.trans (hb3.mono HB2.out.size))
  clear hb3
  go_wp2_with fail
  refine (runsOf_any t _ (by omega)).mono ?_
  rintro e w4 ⟨⟨v, rfl, hrow⟩, hb4⟩
  have HB4 := Lib.hid (HB3.out.trans (hb4.mono HB3.out.size))
  obtain ⟨av, cv, rfl, hl, _⟩ := rowns_lies hrow
  have HL := Lib.hid hl
  clear hb4 hrow hl
  obtain ⟨⟨c, i⟩, hci⟩ : ∃ ci, placeE (readL t).2 = ci := ⟨_, rfl⟩
  have HCI := Lib.hid hci
  rw [hci]
  clear hci
  go_wp2_with fail
  obtain ⟨W0, hW0⟩ : ∃ W0, W0 = w4.alloc (.cells #[.int .i64 c, .int .i64 i] 34) := ⟨_, rfl⟩
  have hf0 : W0.heap[w4.heap.size]? = some (.cells #[.int .i64 c, .int .i64 i] 34) := by rw [hW0]; exact heap_new _ _
  have hB0 : Below w4.heap.size w4 W0 := by rw [hW0]; exact (Below.refl _ _).alloc (Nat.le_refl _) _
  have HBW := Lib.hid (HB4.out.trans (hB0.mono HB4.out.size))
  have HL0 := Lib.hid (HL.out.below hB0)
  rw [← hW0]
  clear hW0 hB0 HL
  refine (size_any p t _ (by omega) (HE.out.below HBW.out)).mono ?_
  rintro e w5 ⟨v5, rfl, hv5, hb5⟩
  rw [HCI.out] at hv5
  have HV5 := Lib.hid hv5
  have hf5 := (hb5.block w4.heap.size (Array.getElem?_eq_some_iff.1 hf0).1).trans hf0
  have HF5 := Lib.hid hf5
  obtain ⟨c0, c1⟩ := two_cells hf5
  have HB5 := Lib.hid (HBW.out.trans (hb5.mono HBW.out.size))
  have HL5 := Lib.hid (HL0.out.below hb5)
  clear hv5 hb5 hf0 hf5 HL0 HBW
  go_wp2_with fail
  refine (faulted_err HV5.out (HE.out.below HB5.out)).mono ?_
  rintro e w6 ⟨rfl, hb6⟩
  have HB6 := Lib.hid (HB5.out.trans (hb6.mono HB5.out.size))
  have HL6 := Lib.hid (HL5.out.below hb6)
  have HF6 := Lib.hid ((hb6.block w4.heap.size (Array.getElem?_eq_some_iff.1 HF5.out).1).trans HF5.out)
  clear hb6 HL5 HF5 c0 c1
  go_wp2_with fail
  refine (sizeOf_any (runsS t) av cv _ HL6.out (by omega) hfw).mono ?_
  rintro e w7 ⟨rfl, rfl⟩
  go_wp2_with fail
  refine (open_any p t most _ (by omega) (by omega) (HE.out.below HB6.out)).mono ?_
  rintro e w8 ⟨v8, rfl, hv8, hb8⟩
  have HB8 := Lib.hid (HB6.out.trans (hb8.mono HB6.out.size))
  have HV8 := Lib.hid hv8
  have HF8 := Lib.hid ((hb8.block w4.heap.size (Array.getElem?_eq_some_iff.1 HF6.out).1).trans HF6.out)
  clear hb8 hv8 HF6
  go_wp2_with fail
  refine (openOf_any t most _ (by omega) (by omega)).mono ?_
  rintro e w9 ⟨rfl, hb9⟩
  have HB9 := Lib.hid (HB8.out.trans (hb9.mono HB8.out.size))
  have HV9 := Lib.hid (HV8.out.below hb9)
  have hf9 := (hb9.block w4.heap.size (Array.getElem?_eq_some_iff.1 HF8.out).1).trans HF8.out
  have HF9 := Lib.hid hf9
  obtain ⟨c0, c1⟩ := two_cells hf9
  obtain ⟨z0, z1⟩ := two_free hf9
  generalize openS t most = os at HV9 ⊢
  obtain ⟨x, c', i'⟩ := os
  simp only at HV9 ⊢
  have hle : w.heap.size ≤ w4.heap.size := HB4.out.size
  have HVF := Lib.hid (err_apart HV9.out hf9 (.int .i64 c') (.int .i64 i'))
  have HBF := Lib.hid ((HB9.out.setCell (p := ⟨w4.heap.size, 0, none⟩) hle (.int .i64 c')).setCell (p := ⟨w4.heap.size, 1, none⟩) hle (.int .i64 i'))
  clear hb9 HV8 HF8 hf9
  go_wp2_with fail
  refine (faulted_err HVF.out (HE.out.below HBF.out)).mono ?_
  rintro e w10 ⟨rfl, hb10⟩
  have HB10 := Lib.hid (HBF.out.trans (hb10.mono HBF.out.size))
  clear hb10
  go_wp2
  go_ret
  exact ⟨rfl, HB10.out⟩

theorem pressTells_any (p : Nat → Addr) (s t : ByteArray) (most : Int) (w : World) (hE : Env p w) (hT : Tab w) (hs : s.size ≤ maxLen) (ht : t.size ≤ maxLen) :
    Calls Tryd.prog 4 #[.string s, .string t, .int .i64 most] w fun e w' => e = .returned (.bool true) ∧ Below w.heap.size w w' := by
  by_cases h : 500 < s.size ∨ 300 < t.size ∨ 100000 < most
  · exact pressTells_long p s t most w hE hT hs ht h
  · obtain ⟨s, rfl⟩ : ∃ l : List UInt8, s = ⟨l.toArray⟩ := ⟨s.data.toList, by cases s; simp⟩
    obtain ⟨t, rfl⟩ : ∃ l : List UInt8, t = ⟨l.toArray⟩ := ⟨t.data.toList, by cases t; simp⟩
    simp only [ByteArray.size, List.size_toArray] at h
    exact pressTells_main p s t most w hE hT (by omega) (by omega) (by omega)
end Go.Proofs.YtjdbpabniaclaaaDoor
