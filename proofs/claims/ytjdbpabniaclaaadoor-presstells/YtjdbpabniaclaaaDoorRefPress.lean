/-
  The document's answer for pressed texts: PressOf: over this seat's translation.
-/
import Derived.Test.YtjdbpabniaclaaaDoorPkPress
import Derived.Test.YtjdbpabniaclaaaDoorRefDigits
import Derived.Deep.RegionHeld3
import Derived.Deep.RegionWith
namespace Go.Proofs.YtjdbpabniaclaaaDoor
open Go.RowKit Go.Shelf

theorem adds3 (a d c : List UInt8) (ha : a.length ≤ 100000) (hd : d.length ≤ 20) (hc : c.length ≤ 1) : ∃ x1 x2 x3 : List UInt8,
    (∀ W, (Op.stringOp .add ⟨a.toArray⟩ ⟨d.toArray⟩).run Tryd.prog W = .ok (.string ⟨x1.toArray⟩) W) ∧ (∀ W, (Op.stringOp .add ⟨x1.toArray⟩ ⟨#[58]⟩).run Tryd.prog W = .ok (.string ⟨x2.toArray⟩) W) ∧
    (∀ W, (Op.stringOp .add ⟨x2.toArray⟩ ⟨c.toArray⟩).run Tryd.prog W = .ok (.string ⟨x3.toArray⟩) W) ∧ x3 = a ++ d ++ [58] ++ c :=
  ⟨a ++ d, a ++ d ++ [58], a ++ d ++ [58] ++ c, fun W => run_string_add_lists (P := Tryd.prog) W a d (by omega) (by omega), fun W => run_string_add_lists (P := Tryd.prog) W _ [58] (by simp; omega) (by simp),
    fun W => run_string_add_lists (P := Tryd.prog) W _ c (by simp; omega) (by omega), rfl⟩
theorem rep_snoc (m : Nat) (c : UInt8) (r : List UInt8) : List.replicate m c ++ c :: r = List.replicate (m + 1) c ++ r := by
  rw [List.replicate_succ', List.append_assoc]
  rfl
theorem extract_one {l : List UInt8} {i : Nat} (h : i < l.length) : ({ data := l.toArray } : ByteArray).extract i (i + 1) = ⟨[l[i]].toArray⟩ := by
  apply ByteArray.ext
  simp
  rw [List.drop_eq_getElem_cons h]
  rfl

set_option maxRecDepth 100000 in
set_option maxHeartbeats 4000000 in
theorem pressOf_any (s : List UInt8) (w : World) (hs : s.length ≤ 5000) :
    Calls Tryd.prog 10 #[.string ⟨s.toArray⟩] w fun e w' => e = .returned (.string ⟨(pressL s).toArray⟩) ∧ Below w.heap.size w w' := by
  go_enter Tryd.func10, Tryd.ntmps10
  go_wp2_with fail
  go_loopw [3, 4, 5] (fun ov nv iv wr => ∃ (d : List (Nat × UInt8)) (m i : Nat), i ≤ s.length ∧ m ≤ i ∧ (m ≠ 0 → i < s.length) ∧ runs s = d ++ runs (List.replicate m (s.getD i 0) ++ s.drop i) ∧ ov = .string ⟨(writeL d).toArray⟩ ∧ nv = .int .i64 (m : Int) ∧ iv = .int .i64 (i : Int) ∧ Below w.heap.size w wr) (fun _ _ iv _ => s.length - (intOf iv).toNat)
  case atStart => exact ⟨[], 0, 0, by omega, by omega, by simp, by simp, rfl, rfl, rfl, Below.refl _ _⟩
  case round =>
    obtain ⟨d, m, i, hi, hm, hmi, hr, rfl, rfl, rfl, hb⟩ := hrel
    have HB := Lib.hid hb
    have HR := Lib.hid hr
    clear hb hr
    by_cases hlt : i < s.length
    · have hlt' : (i : Int) < (s.length : Int) := by omega
      have hiz : i < ({ data := s.toArray } : ByteArray).size := by simp [ByteArray.size]; omega
      have hx1 := extract_one hlt
      obtain ⟨c, hc⟩ : ∃ c, s[i] = c := ⟨_, rfl⟩
      have hci : ({ data := s.toArray } : ByteArray)[i]'hiz = c := hc
      have HD : Hid (runs s = d ++ runs (List.replicate (m + 1) c ++ s.drop (i + 1))) := by
        show runs s = _
        rw [HR.out, List.getD_eq_getElem?_getD, List.getElem?_eq_getElem hlt, drop_at hlt, hc, Option.getD_some, rep_snoc]
      rw [hc] at hx1
      clear HR hc hmi
      by_cases hgo : s[i + 1]? = some c
      · have hlt1 : i + 1 < s.length := by
          rcases Nat.lt_or_ge (i + 1) s.length with h | h
          · exact h
          · rw [List.getElem?_eq_none h] at hgo; cases hgo
        have hlt1' : (i : Int) + 1 < (s.length : Int) := by omega
        have hjz : i + 1 < ({ data := s.toArray } : ByteArray).size := by simp [ByteArray.size]; omega
        have hcj : ({ data := s.toArray } : ByteArray)[i + 1]'hjz = c := by
          rw [List.getElem?_eq_getElem hlt1] at hgo
          exact Option.some.inj hgo
        have HG : Hid (s.getD (i + 1) 0 = c) := by show s.getD (i + 1) 0 = c; rw [List.getD_eq_getElem?_getD, hgo]; rfl
        clear hgo hx1
        go_wp2_with fail
        go_quiet (fail)
        go_wp2
        go_roundw
        case rel => exact ⟨d, m + 1, i + 1, by omega, by omega, fun _ => hlt1, by rw [HG.out]; exact HD.out, rfl, by go_num, by go_num, below_drewN HB.out _⟩
        case measure => simp [intOf]; omega
      · have HX : Hid (runs s = d ++ (m + 1, c) :: runs (s.drop (i + 1))) := by
          show runs s = _
          rw [HD.out, runs_rep m c _ (by rw [List.head?_drop]; exact hgo)]
        have hwb := (runs_part HX.out (by omega)).1
        have HW := Lib.hid (writeL_snoc d (m + 1, c))
        have hdl : (digitsL (m + 1)).length ≤ 9 := digits_length 8 _ (by omega)
        have HC : ∀ W, Calls Tryd.prog 27 #[.int .i64 ((m : Int) + 1)] W fun e w' => e = .returned (.string ⟨(digitsL (m + 1)).toArray⟩) ∧ Below W.heap.size W w' := fun W => decimal_any (m + 1) W (by omega)
        obtain ⟨x1, x2, x3, A1, A2, A3, hx⟩ := adds3 (writeL d) (digitsL (m + 1)) [c] (by omega) (by omega) (by simp)
        have HX3 : Hid (writeL (d ++ [(m + 1, c)]) = x3) := by
          show writeL _ = x3
          rw [HW.out, hx]
          simp [runL]
        have HGO := Lib.hid hgo
        have hwr : IntKind.i64.wrap ((i : Int) + 1) = (i : Int) + 1 := by rw [IntKind.wrap_i64]; omega
        have hi0 : (0 : Int) ≤ (i : Int) := by omega
        have hi1 : (i : Int) ≤ (i : Int) + 1 := by omega
        have hi2 : (i : Int) + 1 ≤ (s.length : Int) := by omega
        have ht1 : ((i : Int) + 1).toNat = i + 1 := by omega
        generalize digitsL (m + 1) = ds at HC A1 hdl
        generalize writeL d = wd at A1 hwb ⊢
        clear hx HW HD hgo
        by_cases hlt1 : i + 1 < s.length
        · have hlt1' : (i : Int) + 1 < (s.length : Int) := by omega
          have hjz : i + 1 < ({ data := s.toArray } : ByteArray).size := by simp [ByteArray.size]; omega
          obtain ⟨c', hc'⟩ : ∃ c', s[i + 1] = c' := ⟨_, rfl⟩
          have hcj : ({ data := s.toArray } : ByteArray)[i + 1]'hjz = c' := hc'
          have hcc : ((c'.toNat : Int) == (c.toNat : Int)) = false := by
            simp
            exact fun e => HGO.out (by rw [List.getElem?_eq_getElem hlt1, hc']; exact congrArg some (UInt8.toNat_inj.1 (by omega)))
          clear hc'
          go_wp2_with fail
          go_quiet (fail)
          go_wp2_with fail
          go_region_with (first
            | (go_at_call 27; (with_reducible refine (HC _).mono ?_); rintro e w1 ⟨rfl, hb1⟩; have HB1 := Lib.hid ((below_drewN HB.out _).drew.trans (hb1.mono HB.out.size)); clear hb1))
          all_goals
            go_wp2
            go_roundw
            case rel => exact ⟨d ++ [(m + 1, c)], 0, i + 1, by omega, by omega, by simp, by rw [List.append_assoc]; simpa using HX.out, by rw [HX3.out], rfl, by go_num, HB1.out⟩
            case measure => simp [intOf]; omega
        · have hlt1' : decide ((i : Int) + 1 < (s.length : Int)) = false := by simp; omega
          go_wp2_with fail
          go_region_with (first
            | (go_at_call 27; (with_reducible refine (HC _).mono ?_); rintro e w1 ⟨rfl, hb1⟩; have HB1 := Lib.hid (HB.out.drew.trans (hb1.mono HB.out.size)); clear hb1))
          all_goals
            go_wp2
            go_roundw
            case rel => exact ⟨d ++ [(m + 1, c)], 0, i + 1, by omega, by omega, by simp, by rw [List.append_assoc]; simpa using HX.out, by rw [HX3.out], rfl, by go_num, HB1.out⟩
            case measure => simp [intOf]; omega
    · obtain rfl : i = s.length := by omega
      obtain rfl : m = 0 := by
        rcases Nat.eq_zero_or_pos m with h | h
        · exact h
        · exact absurd (hmi (by omega)) hlt
      have HN : Hid (pressL s = writeL d) := by
        show writeL (runs s) = _
        rw [HR.out]
        simp [runs]
      clear HR hmi
      go_wp2
      go_ret
      exact ⟨by rw [HN.out]; rfl, HB.out⟩
end Go.Proofs.YtjdbpabniaclaaaDoor
