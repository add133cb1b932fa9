/-
  The document's answer for packs: PackText: over this seat's translation.
-/
import Derived.Test.YtkcjgncpcidfoaaGreatDoorPkMakePkPackMakePkPackSum
import Derived.Test.YtkcjgncpcidfoaaGreatDoorRefDigitsRefSumPkSum
import Derived.Deep.RegionHeld3
namespace Go.Proofs.YtkcjgncpcidfoaaGreatDoor
open Go.RowKit Go.Shelf

theorem pack_take_le (l : List F) (q : Nat) : (packL (l.take q)).length ≤ (packL l).length := by
  have h : packL l = packL (l.take q) ++ packL (l.drop q) := by
    show l.flatMap fileL = (l.take q).flatMap fileL ++ (l.drop q).flatMap fileL
    rw [← List.flatMap_append, List.take_append_drop]
  rw [h, List.length_append]
  omega

/-- Six texts behind a first one, one after another. -/
theorem adds6 (s a m d t : List UInt8) (h : s.length + a.length + m.length + d.length + t.length ≤ 1000000) : ∃ x1 x2 x3 x4 x5 x6 : List UInt8,
    (∀ W, (Op.stringOp .add ⟨s.toArray⟩ ⟨a.toArray⟩).run Tryz.prog W = .ok (.string ⟨x1.toArray⟩) W) ∧ (∀ W, (Op.stringOp .add ⟨x1.toArray⟩ ⟨m.toArray⟩).run Tryz.prog W = .ok (.string ⟨x2.toArray⟩) W) ∧
    (∀ W, (Op.stringOp .add ⟨x2.toArray⟩ ⟨d.toArray⟩).run Tryz.prog W = .ok (.string ⟨x3.toArray⟩) W) ∧ (∀ W, (Op.stringOp .add ⟨x3.toArray⟩ ⟨#[10]⟩).run Tryz.prog W = .ok (.string ⟨x4.toArray⟩) W) ∧
    (∀ W, (Op.stringOp .add ⟨x4.toArray⟩ ⟨t.toArray⟩).run Tryz.prog W = .ok (.string ⟨x5.toArray⟩) W) ∧ (∀ W, (Op.stringOp .add ⟨x5.toArray⟩ ⟨#[10]⟩).run Tryz.prog W = .ok (.string ⟨x6.toArray⟩) W) ∧
    x6 = s ++ a ++ m ++ d ++ [10] ++ t ++ [10] :=
  ⟨s ++ a, s ++ a ++ m, s ++ a ++ m ++ d, s ++ a ++ m ++ d ++ [10], s ++ a ++ m ++ d ++ [10] ++ t, s ++ a ++ m ++ d ++ [10] ++ t ++ [10], fun W => run_string_add_lists (P := Tryz.prog) W s a (by omega) (by omega),
    fun W => run_string_add_lists (P := Tryz.prog) W _ m (by simp; omega) (by omega), fun W => run_string_add_lists (P := Tryz.prog) W _ d (by simp; omega) (by omega), fun W => run_string_add_lists (P := Tryz.prog) W _ [10] (by simp; omega) (by simp),
    fun W => run_string_add_lists (P := Tryz.prog) W _ t (by simp; omega) (by omega), fun W => run_string_add_lists (P := Tryz.prog) W _ [10] (by simp; omega) (by simp), rfl⟩

set_option maxRecDepth 100000 in
set_option maxHeartbeats 4000000 in
theorem packText_any (l : List F) (a : Option Addr) (ca : Nat) (w : World) (hl : LiesAt w a l) (hs : Small l) (hpk : (packL l).length ≤ 20000) :
    Calls Tryz.prog 20 #[.slice a l.length ca] w fun e w' => e = .returned (.string ⟨(packL l).toArray⟩) ∧ Below w.heap.size w w' := by
  have HL := Lib.hid hl
  have HSM := Lib.hid hs
  have hfew := hs.few
  clear hl hs
  go_enter Tryz.func20, Tryz.ntmps20
  go_wp2_with fail
  go_loopw [3, 4] (fun sv' i wr => ∃ q : Nat, q ≤ l.length ∧ i = .int .i64 q ∧ sv' = .string ⟨(packL (l.take q)).toArray⟩ ∧ Below w.heap.size w wr) (fun _ i _ => l.length - (intOf i).toNat)
  case atStart => exact ⟨0, by omega, rfl, rfl, Below.refl _ _⟩
  case round =>
    obtain ⟨q, hq, rfl, rfl, hb⟩ := hrel
    have HB := Lib.hid hb
    clear hb
    by_cases hlt : q < l.length
    · have hlt' : (q : Int) < (l.length : Int) := by omega
      have hq0 : (0 : Int) ≤ (q : Int) := by omega
      obtain ⟨b, o, rfl, c0, c1, c2⟩ := (HL.out.below HB.out).at hlt
      have hle := pack_take_le l q
      have hm := pack_mem (l := l) (List.getElem_mem hlt)
      have HPK := Lib.hid (pack_take hlt)
      generalize l[q] = f at c0 c1 c2 hm HPK
      generalize packL (l.take q) = pk at hle HPK
      have hbl : b < wr.heap.size := block_lt_of_cell c0
      have hdl : (digitsL f.t.length).length ≤ 6 := digits_length 5 _ (by omega)
      have HD : Calls Tryz.prog 34 #[.int .i64 f.t.length] wr.drew fun e w' => e = .returned (.string ⟨(digitsL f.t.length).toArray⟩) ∧ Below wr.drew.heap.size wr.drew w' := decimal_any f.t.length wr.drew (by omega)
      have HLN := Lib.hid (line_of f)
      obtain ⟨fp, fr, ft⟩ := f
      simp only at c0 c1 c2 hm hdl HD HLN
      generalize digitsL ft.length = ds at HD hdl HLN
      cases fr with
      | true =>
        obtain ⟨x1, x2, x3, x4, x5, x6, A1, A2, A3, A4, A5, A6, hx⟩ := adds6 pk fp [32, 120, 32] ds ft (by simp; omega)
        have HX : Hid (pk ++ fileL ⟨fp, true, ft⟩ = x6) := by
          show pk ++ fileL ⟨fp, true, ft⟩ = x6
          unfold fileL
          rw [HLN.out, hx]
          simp
        clear hx HLN
        go_wp2_with fail
        go_region_held3 (fun w' => w'.cell? ⟨b, o + q * 3, none⟩ = some (sv fp) ∧ w'.cell? ⟨b, o + q * 3 + 2, none⟩ = some (sv ft)) (go_keep) (first
          | (go_at_call 34; (with_reducible refine HD.mono ?_); rintro e w1 ⟨rfl, hb1⟩; have d0 := (hb1.cell (p := ⟨b, o + q * 3, none⟩) hbl).trans c0; have d2 := (hb1.cell (p := ⟨b, o + q * 3 + 2, none⟩) hbl).trans c2; have HB1 := Lib.hid (HB.out.drew.trans (hb1.mono HB.out.size)); clear hb1))
        go_wp2
        go_roundw
        case rel => exact ⟨q + 1, by omega, by go_num, by rw [HPK.out, HX.out], HB1.out⟩
        case measure => simp [intOf]; omega
      | false =>
        obtain ⟨x1, x2, x3, x4, x5, x6, A1, A2, A3, A4, A5, A6, hx⟩ := adds6 pk fp [32, 102, 32] ds ft (by simp; omega)
        have HX : Hid (pk ++ fileL ⟨fp, false, ft⟩ = x6) := by
          show pk ++ fileL ⟨fp, false, ft⟩ = x6
          unfold fileL
          rw [HLN.out, hx]
          simp
        clear hx HLN
        go_wp2_with fail
        go_region_held3 (fun w' => w'.cell? ⟨b, o + q * 3, none⟩ = some (sv fp) ∧ w'.cell? ⟨b, o + q * 3 + 2, none⟩ = some (sv ft)) (go_keep) (first
          | (go_at_call 34; (with_reducible refine HD.mono ?_); rintro e w1 ⟨rfl, hb1⟩; have d0 := (hb1.cell (p := ⟨b, o + q * 3, none⟩) hbl).trans c0; have d2 := (hb1.cell (p := ⟨b, o + q * 3 + 2, none⟩) hbl).trans c2; have HB1 := Lib.hid (HB.out.drew.trans (hb1.mono HB.out.size)); clear hb1))
        go_wp2
        go_roundw
        case rel => exact ⟨q + 1, by omega, by go_num, by rw [HPK.out, HX.out], HB1.out⟩
        case measure => simp [intOf]; omega
    · obtain rfl : q = l.length := by omega
      rw [List.take_length]
      go_wp2
      go_ret
      exact ⟨rfl, HB.out⟩
end Go.Proofs.YtkcjgncpcidfoaaGreatDoor
