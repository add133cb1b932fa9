/-
  The law SumJoins returns true, whatever texts, place and byte it is called with, if the listed variables hold what the row lists: the walk of the law, over this seat's translation.
-/
import Derived.Test.YtfgnngbjklpjcaaDoorSummed
import Derived.Laws.IdiomStrings
namespace Go.Proofs.YtfgnngbjklpjcaaDoor
open Go.RowKit Go.Shelf

theorem sumJoins_long (a b c : ByteArray) (at_ x : Int) (w : World) (ha : a.size ≤ maxLen) (hb : b.size ≤ maxLen) (hc : c.size ≤ maxLen) (h : 300 < a.size ∨ 300 < b.size ∨ 300 < c.size) :
    Calls Tryd.prog 3 #[.string a, .string b, .string c, .int .i64 at_, .int .u8 x] w fun e w' => e = .returned (.bool true) ∧ Below w.heap.size w w' := by
  unfold maxLen at ha hb hc
  have hc : (300 : Int) < a.size ∨ (¬ (300 : Int) < a.size ∧ (300 : Int) < b.size) ∨ (¬ (300 : Int) < a.size ∧ ¬ (300 : Int) < b.size ∧ (300 : Int) < c.size) := by omega
  clear h
  rcases hc with h | ⟨h1, h2⟩ | ⟨h1, h2, h3⟩
  all_goals
    go_enter Tryd.func3, Tryd.ntmps3
    go_wp2_with fail
    refine (summed_any _).mono ?_
    rintro e w1 ⟨rfl, rfl⟩
    go_wp2
    go_ret
    exact ⟨rfl, Below.refl _ _⟩

theorem bytes_app (a b : List UInt8) : ({ data := a.toArray } : ByteArray) ++ { data := b.toArray } = ⟨(a ++ b).toArray⟩ := by
  apply ByteArray.ext
  simp
theorem join_sums (a b : List UInt8) (h : b.length ≤ 1073741824) : joinS (sumL a) (sumL b) b.length = (((sumL (a ++ b) : Nat) : Int), 0) := by
  have h1 := sumL_lt a
  have h2 := sumL_lt b
  unfold Mo at h1 h2
  rw [joinS_yes (decide_eq_true (by omega)) (decide_eq_true (by omega)) (by omega) (by omega), Int.toNat_natCast, Int.toNat_natCast, Int.toNat_natCast, sumL_app]
theorem pkJoin_is (p : Nat → Addr) (a b : List UInt8) (w : World) (hE : SEnv p w) (h : b.length ≤ 1073741824) : Calls Tryd.prog 6 #[.int .i64 (sumL a), .int .i64 (sumL b), .int .i64 b.length] w fun e w' => e = .returned (.tuple #[.int .i64 (sumL (a ++ b)), .nilIface]) ∧ Below w.heap.size w w' := by
  have := pkJoin_any p (sumL a) (sumL b) b.length w hE
  rwa [join_sums a b h] at this
theorem isS_sum (a : List UInt8) : isS (sumL a) = true := by
  have h1 := sumL_lt a
  unfold Mo at h1
  exact decide_eq_true (by omega)
theorem pkRead_is (p : Nat → Addr) (a : List UInt8) (w : World) (hE : SEnv p w) : Calls Tryd.prog 8 #[.string ⟨(textS (sumL a)).toArray⟩] w fun e w' => e = .returned (.tuple #[.int .i64 (sumL a), .nilIface]) ∧ Below w.heap.size w w' := by
  have hl : (textS (sumL a)).length ≤ 11 := by
    have h1 := sumL_lt a
    unfold Mo at h1
    rw [text_is (isS_sum a), List.length_cons, Int.toNat_natCast]
    have := digits_length 9 (sumL a) (by omega)
    omega
  have := pkRead_any p (textS (sumL a)) w hE (by omega)
  rwa [read_text (isS_sum a)] at this

/-- A row of bytes, with one of them set. -/
theorem back_cells {w : World} {g i : Nat} {a : List UInt8} {x : UInt8} (hi : i < a.length) (h : ∀ j, j < a.length → w.cell? ⟨g, j, none⟩ = some (.int .u8 (a.getD j 0).toNat)) :
    ∀ j (hj : j < (a.set i x).length), (w.setCell ⟨g, i, none⟩ (.int .u8 x.toNat)).cell? ((⟨g, 0, none⟩ : Addr).add j) = some (.int .u8 ((a.set i x)[j].toNat : Int)) := by
  intro j hj
  rw [List.length_set] at hj
  have ea : (⟨g, 0, none⟩ : Addr).add j = ⟨g, j, none⟩ := by
    simp [Addr.add]
    intro h
    omega
  rw [ea]
  by_cases hij : i = j
  · subst hij
    have h1 := World.cell?_setCell_same' w ⟨g, i, none⟩ (.int .u8 (x.toNat : Int)) (by rw [h i hi]; rfl)
    rw [h1, List.getElem_set_self]
  · have h6 : (w.setCell ⟨g, i, none⟩ (.int .u8 x.toNat)).cell? ⟨g, j, none⟩ = w.cell? ⟨g, j, none⟩ := World.cell?_setCell_other _ _ _ _ (fun e => hij (by simpa using congrArg Addr.off e))
    rw [h6, h j hj, List.getElem_set_ne hij]
    simp [List.getD, hj]
theorem not_frozen {w : World} {g i n : Nat} {cs : Array Value} {t : TypeId} (h : w.heap[g]? = some (.cells cs t (cs.size, cs.size + 1))) (hn : n ≤ cs.size) (hi : i < n) : w.frozen? ⟨g, i, none⟩ = false := by
  simp [World.frozen?, h]
  omega

set_option maxRecDepth 100000 in
set_option maxHeartbeats 4000000 in
theorem sumJoins_main (p : Nat → Addr) (a b c : List UInt8) (at_ : Int) (x : UInt8) (w : World) (hE : SEnv p w) (ha : a.length ≤ 300) (hb : b.length ≤ 300) (hc : c.length ≤ 300) :
    Calls Tryd.prog 3 #[.string ⟨a.toArray⟩, .string ⟨b.toArray⟩, .string ⟨c.toArray⟩, .int .i64 at_, .int .u8 x.toNat] w fun e w' => e = .returned (.bool true) ∧ Below w.heap.size w w' := by
  have HE := Lib.hid hE
  have ha' : ¬ (300 : Int) < a.length := by omega
  have hb' : ¬ (300 : Int) < b.length := by omega
  have hc' : ¬ (300 : Int) < c.length := by omega
  clear hE
  go_enter Tryd.func3, Tryd.ntmps3
  go_wp2_with fail
  refine (summed_any _).mono ?_
  rintro e w' ⟨rfl, rfl⟩
  go_wp2_with fail
  refine (pkOf_any a _ (by omega)).mono ?_
  rintro e w1 ⟨rfl, rfl⟩
  go_wp2_with fail
  refine (pkOf_any b _ (by omega)).mono ?_
  rintro e w1 ⟨rfl, rfl⟩
  go_wp2_with fail
  refine (pkJoin_is p a b _ HE.out (by omega)).mono ?_
  rintro e w1 ⟨rfl, hb1⟩
  have HB1 := Lib.hid hb1
  have HE1 := Lib.hid (HE.out.below hb1)
  clear hb1
  go_wp2_with fail
  rw [bytes_app]
  refine (pkOf_any (a ++ b) _ (by rw [List.length_append]; omega)).mono ?_
  rintro e w2 ⟨rfl, rfl⟩
  go_wp2_with fail
  refine (pkOf_any c _ (by omega)).mono ?_
  rintro e w2 ⟨rfl, rfl⟩
  go_wp2_with fail
  refine (pkJoin_is p (a ++ b) c _ HE1.out (by omega)).mono ?_
  rintro e w2 ⟨rfl, hb2⟩
  have HB2 := Lib.hid (HB1.out.trans (hb2.mono HB1.out.size))
  have HE2 := Lib.hid (HE1.out.below hb2)
  clear hb2
  go_wp2_with fail
  rw [bytes_app, bytes_app]
  refine (pkOf_any (a ++ b ++ c) _ (by rw [List.length_append, List.length_append]; omega)).mono ?_
  rintro e w3 ⟨rfl, rfl⟩
  go_wp2_with fail
  refine (pkText_any p _ _ HE2.out).mono ?_
  rintro e w3 ⟨rfl, hb3⟩
  have HB3 := Lib.hid (HB2.out.trans (hb3.mono HB2.out.size))
  have HE3 := Lib.hid (HE2.out.below hb3)
  clear hb3
  go_wp2_with fail
  refine (pkRead_is p _ _ HE3.out).mono ?_
  rintro e w4 ⟨rfl, hb4⟩
  have HB4 := Lib.hid (HB3.out.trans (hb4.mono HB3.out.size))
  clear hb4
  by_cases h0 : at_ < 0
  · go_wp2
    go_ret
    exact ⟨rfl, HB4.out⟩
  · have h0' : decide (at_ < 0) = false := by simp; omega
    by_cases h1 : (a.length : Int) ≤ at_
    · go_wp2
      go_ret
      exact ⟨rfl, HB4.out⟩
    · have h1' : decide ((a.length : Int) ≤ at_) = false := by simp; omega
      obtain ⟨i, rfl⟩ := Int.eq_ofNat_of_zero_le (show 0 ≤ at_ by omega)
      have hi : i < a.length := by omega
      have his : i < ({ data := a.toArray } : ByteArray).size := by simp [ByteArray.size]; omega
      clear h0 h1
      by_cases hx : a[i] = x
      · have hx' : ((({ data := a.toArray } : ByteArray)[i]'his).toNat : Int) = (x.toNat : Int) := by
          show ((a[i]'hi).toNat : Int) = _
          rw [hx]
        clear hx
        go_wp2
        go_ret
        exact ⟨rfl, HB4.out⟩
      · have hx' : ¬ ((({ data := a.toArray } : ByteArray)[i]'his).toNat : Int) = (x.toNat : Int) := by
          show ¬ ((a[i]'hi).toNat : Int) = _
          intro e
          exact hx (UInt8.toNat_inj.1 (by omega))
        have HX := Lib.hid hx
        clear hx
        have HC : (convert 9 30 (.string ⟨a.toArray⟩)).run Tryd.prog w4 = .ok (.slice (some ⟨w4.heap.size, 0, none⟩) a.length (grownCap w4 a.length 0 5)) (Lib.bytesWorld w4 5 ⟨a.toArray⟩) :=
          Lib.run_convert_string_bytes (P := Tryd.prog) w4 9 30 5 ⟨a.toArray⟩ Tryd.underlying9 Tryd.underlying30 Tryd.underlying5
        have hcap := grownCap_ge w4 a.length 0 5
        have hcl : ∀ j, j < a.length → (Lib.bytesWorld w4 5 ⟨a.toArray⟩).cell? ⟨w4.heap.size, j, none⟩ = some (.int .u8 (a.getD j 0).toNat) := fun j hj => Lib.bytesWorld_cell w4 5 ⟨a.toArray⟩ j (by simpa [ByteArray.size] using hj)
        have hbl := Lib.bytesWorld_at_new w4 5 ⟨a.toArray⟩
        have HB5 := Lib.hid (HB4.out.trans ((Lib.bytesWorld_below w4 5 ⟨a.toArray⟩).mono HB4.out.size))
        have hcs : a.length ≤ (Lib.bytesCells w4 5 ⟨a.toArray⟩).size := by simp [Lib.bytesCells]
        generalize Lib.bytesWorld w4 5 ⟨a.toArray⟩ = w5 at HC hcl hbl HB5
        generalize Lib.bytesCells w4 5 ⟨a.toArray⟩ = cs at hbl hcs
        generalize grownCap w4 a.length 0 5 = cap at HC hcap
        obtain ⟨g, hg⟩ : ∃ g, g = w4.heap.size := ⟨_, rfl⟩
        rw [← hg] at HC hcl hbl
        have hsz := HB4.out.size
        have hgb : w1.heap.size ≤ g := by omega
        have h5 := hcl i hi
        have HCL := Lib.hid hcl
        have hfz := not_frozen hbl hcs hi
        have hback := back_cells hi hcl (x := x)
        have HC2 : (convert 30 9 (.slice (some ⟨g, 0, none⟩) a.length cap)).run Tryd.prog (w5.setCell ⟨g, i, none⟩ (.int .u8 x.toNat)) = .ok (.string ⟨(a.set i x).toArray⟩) (w5.setCell ⟨g, i, none⟩ (.int .u8 x.toNat)) := by
          have := run_convert_bytes_back (P := Tryd.prog) (w5.setCell ⟨g, i, none⟩ (.int .u8 x.toNat)) 30 9 5 ⟨g, 0, none⟩ cap (a.set i x) Tryd.underlying30 Tryd.underlying5 Tryd.underlying9 hback
          rwa [List.length_set] at this
        have HB6 := Lib.hid (HB5.out.setCell (p := ⟨g, i, none⟩) hgb (.int .u8 x.toNat))
        have hn0 := sumL_set (b := []) hi HX.out
        have hn1 := sumL_set (b := b) hi HX.out
        rw [List.append_nil, List.append_nil] at hn0
        clear hcl hsz hg hback HCL
        have hq0 : ((sumL (a.set i x) : Int) != (sumL a : Int)) = true := by simp; omega
        have hq1 : ((sumL (a.set i x ++ b) : Int) != (sumL (a ++ b) : Int)) = true := by simp; omega
        clear hn0 hn1
        have hsl : (a.set i x).length ≤ 300 := by rw [List.length_set]; exact ha
        generalize a.set i x = d at HC2 hq0 hq1 hsl
        go_wp2_with fail
        refine (pkOf_any d _ (by omega)).mono ?_
        rintro e w6 ⟨rfl, rfl⟩
        go_wp2_with fail
        refine (pkOf_any a _ (by omega)).mono ?_
        rintro e w6 ⟨rfl, rfl⟩
        go_wp2_with fail
        rw [bytes_app]
        refine (pkOf_any (d ++ b) _ (by rw [List.length_append]; omega)).mono ?_
        rintro e w6 ⟨rfl, rfl⟩
        go_wp2_with fail
        rw [bytes_app]
        refine (pkOf_any (a ++ b) _ (by rw [List.length_append]; omega)).mono ?_
        rintro e w6 ⟨rfl, rfl⟩
        go_wp2
        go_ret
        exact ⟨rfl, HB6.out⟩

theorem sumJoins_any (p : Nat → Addr) (a b c : ByteArray) (at_ : Int) (x : UInt8) (w : World) (hE : SEnv p w) (ha : a.size ≤ maxLen) (hb : b.size ≤ maxLen) (hc : c.size ≤ maxLen) :
    Calls Tryd.prog 3 #[.string a, .string b, .string c, .int .i64 at_, .int .u8 x.toNat] w fun e w' => e = .returned (.bool true) ∧ Below w.heap.size w w' := by
  by_cases h : 300 < a.size ∨ 300 < b.size ∨ 300 < c.size
  · exact sumJoins_long a b c at_ x.toNat w ha hb hc h
  · obtain ⟨a, rfl⟩ : ∃ l : List UInt8, a = ⟨l.toArray⟩ := ⟨a.data.toList, by cases a; simp⟩
    obtain ⟨b, rfl⟩ : ∃ l : List UInt8, b = ⟨l.toArray⟩ := ⟨b.data.toList, by cases b; simp⟩
    obtain ⟨c, rfl⟩ : ∃ l : List UInt8, c = ⟨l.toArray⟩ := ⟨c.data.toList, by cases c; simp⟩
    simp only [ByteArray.size, List.size_toArray] at h
    exact sumJoins_main p a b c at_ x w hE (by omega) (by omega) (by omega)
end Go.Proofs.YtfgnngbjklpjcaaDoor
