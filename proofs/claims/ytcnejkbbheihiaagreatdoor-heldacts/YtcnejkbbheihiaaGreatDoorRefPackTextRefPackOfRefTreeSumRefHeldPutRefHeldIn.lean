/-
  Own texts of the proof, joined by program: RefPackText, RefPackOf, RefTreeSum, RefHeldPut, RefHeldIn.
-/
import Derived.Test.YtcnejkbbheihiaaGreatDoorPkMakePkPackMakePkPackSum
import Derived.Test.YtcnejkbbheihiaaGreatDoorRefDigitsRefSumPkSum
import Derived.Deep.RegionHeld3
import Derived.Test.YtcnejkbbheihiaaGreatDoorRefCutPartsRefRefBeginsRefMoreRefTree
import Derived.Test.YtcnejkbbheihiaaGreatDoorHeldRowRefHeld
import Derived.Laws.AppendOwnNone
/-
  The document's answer for packs: PackText: over this seat's translation.
-/
namespace Go.Proofs.YtcnejkbbheihiaaGreatDoor
open Go.RowKit Go.Shelf

theorem pack_take_le (l : List F) (q : Nat) : (packL (l.take q)).length ≤ (packL l).length := by
  have h : packL l = packL (l.take q) ++ packL (l.drop q) := by
    show l.flatMap fileL = (l.take q).flatMap fileL ++ (l.drop q).flatMap fileL
    rw [← List.flatMap_append, List.take_append_drop]
  rw [h, List.length_append]
  omega

/-- Six texts behind a first one, one after another. -/
theorem adds6 (s a m d t : List UInt8) (h : s.length + a.length + m.length + d.length + t.length ≤ 1000000) : ∃ x1 x2 x3 x4 x5 x6 : List UInt8,
    (∀ W, (Op.stringOp .add ⟨s.toArray⟩ ⟨a.toArray⟩).run Tryz.prog W = .ok (.string ⟨x1.toArray⟩) W) ∧ (∀ W, (Op.stringOp .add ⟨x1.toArray⟩ ⟨m.toArray⟩).run Tryz.prog W = .ok (.string ⟨x2.toArray⟩) W) ∧
    (∀ W, (Op.stringOp .add ⟨x2.toArray⟩ ⟨d.toArray⟩).run Tryz.prog W = .ok (.string ⟨x3.toArray⟩) W) ∧ (∀ W, (Op.stringOp .add ⟨x3.toArray⟩ ⟨#[10]⟩).run Tryz.prog W = .ok (.string ⟨x4.toArray⟩) W) ∧
    (∀ W, (Op.stringOp .add ⟨x4.toArray⟩ ⟨t.toArray⟩).run Tryz.prog W = .ok (.string ⟨x5.toArray⟩) W) ∧ (∀ W, (Op.stringOp .add ⟨x5.toArray⟩ ⟨#[10]⟩).run Tryz.prog W = .ok (.string ⟨x6.toArray⟩) W) ∧
    x6 = s ++ a ++ m ++ d ++ [10] ++ t ++ [10] :=
  ⟨s ++ a, s ++ a ++ m, s ++ a ++ m ++ d, s ++ a ++ m ++ d ++ [10], s ++ a ++ m ++ d ++ [10] ++ t, s ++ a ++ m ++ d ++ [10] ++ t ++ [10], fun W => run_string_add_lists (P := Tryz.prog) W s a (by omega) (by omega),
    fun W => run_string_add_lists (P := Tryz.prog) W _ m (by simp; omega) (by omega), fun W => run_string_add_lists (P := Tryz.prog) W _ d (by simp; omega) (by omega), fun W => run_string_add_lists (P := Tryz.prog) W _ [10] (by simp; omega) (by simp),
    fun W => run_string_add_lists (P := Tryz.prog) W _ t (by simp; omega) (by omega), fun W => run_string_add_lists (P := Tryz.prog) W _ [10] (by simp; omega) (by simp), rfl⟩

set_option maxRecDepth 100000 in
set_option maxHeartbeats 4000000 in
theorem packText_any (l : List F) (a : Option Addr) (ca : Nat) (w : World) (hl : LiesAt w a l) (hs : Small l) (hpk : (packL l).length ≤ 20000) :
    Calls Tryz.prog 46 #[.slice a l.length ca] w fun e w' => e = .returned (.string ⟨(packL l).toArray⟩) ∧ Below w.heap.size w w' := by
  have HL := Lib.hid hl
  have HSM := Lib.hid hs
  have hfew := hs.few
  clear hl hs
  go_enter Tryz.func46, Tryz.ntmps46
  go_wp2_with fail
  go_loopw [3, 4] (fun sv' i wr => ∃ q : Nat, q ≤ l.length ∧ i = .int .i64 q ∧ sv' = .string ⟨(packL (l.take q)).toArray⟩ ∧ Below w.heap.size w wr) (fun _ i _ => l.length - (intOf i).toNat)
  case atStart => exact ⟨0, by omega, rfl, rfl, Below.refl _ _⟩
  case round =>
    obtain ⟨q, hq, rfl, rfl, hb⟩ := hrel
    have HB := Lib.hid hb
    clear hb
    by_cases hlt : q < l.length
    · have hlt' : (q : Int) < (l.length : Int) := by omega
      have hq0 : (0 : Int) ≤ (q : Int) := by omega
      obtain ⟨b, o, rfl, c0, c1, c2⟩ := (HL.out.below HB.out).at hlt
      have hle := pack_take_le l q
      have hm := pack_mem (l := l) (List.getElem_mem hlt)
      have HPK := Lib.hid (pack_take hlt)
      generalize l[q] = f at c0 c1 c2 hm HPK
      generalize packL (l.take q) = pk at hle HPK
      have hbl : b < wr.heap.size := block_lt_of_cell c0
      have hdl : (digitsL f.t.length).length ≤ 6 := digits_length 5 _ (by omega)
      have HD : Calls Tryz.prog 59 #[.int .i64 f.t.length] wr.drew fun e w' => e = .returned (.string ⟨(digitsL f.t.length).toArray⟩) ∧ Below wr.drew.heap.size wr.drew w' := decimal_any f.t.length wr.drew (by omega)
      have HLN := Lib.hid (line_of f)
      obtain ⟨fp, fr, ft⟩ := f
      simp only at c0 c1 c2 hm hdl HD HLN
      generalize digitsL ft.length = ds at HD hdl HLN
      cases fr with
      | true =>
        obtain ⟨x1, x2, x3, x4, x5, x6, A1, A2, A3, A4, A5, A6, hx⟩ := adds6 pk fp [32, 120, 32] ds ft (by simp; omega)
        have HX : Hid (pk ++ fileL ⟨fp, true, ft⟩ = x6) := by
          show pk ++ fileL ⟨fp, true, ft⟩ = x6
          unfold fileL
          rw [HLN.out, hx]
          simp
        clear hx HLN
        go_wp2_with fail
        go_region_held3 (fun w' => w'.cell? ⟨b, o + q * 3, none⟩ = some (sv fp) ∧ w'.cell? ⟨b, o + q * 3 + 2, none⟩ = some (sv ft)) (go_keep) (first
          | (go_at_call 59; (with_reducible refine HD.mono ?_); rintro e w1 ⟨rfl, hb1⟩; have d0 := (hb1.cell (p := ⟨b, o + q * 3, none⟩) hbl).trans c0; have d2 := (hb1.cell (p := ⟨b, o + q * 3 + 2, none⟩) hbl).trans c2; have HB1 := Lib.hid (HB.out.drew.trans (hb1.mono HB.out.size)); clear hb1))
        go_wp2
        go_roundw
        case rel => exact ⟨q + 1, by omega, by go_num, by rw [HPK.out, HX.out], HB1.out⟩
        case measure => simp [intOf]; omega
      | false =>
        obtain ⟨x1, x2, x3, x4, x5, x6, A1, A2, A3, A4, A5, A6, hx⟩ := adds6 pk fp [32, 102, 32] ds ft (by simp; omega)
        have HX : Hid (pk ++ fileL ⟨fp, false, ft⟩ = x6) := by
          show pk ++ fileL ⟨fp, false, ft⟩ = x6
          unfold fileL
          rw [HLN.out, hx]
          simp
        clear hx HLN
        go_wp2_with fail
        go_region_held3 (fun w' => w'.cell? ⟨b, o + q * 3, none⟩ = some (sv fp) ∧ w'.cell? ⟨b, o + q * 3 + 2, none⟩ = some (sv ft)) (go_keep) (first
          | (go_at_call 59; (with_reducible refine HD.mono ?_); rintro e w1 ⟨rfl, hb1⟩; have d0 := (hb1.cell (p := ⟨b, o + q * 3, none⟩) hbl).trans c0; have d2 := (hb1.cell (p := ⟨b, o + q * 3 + 2, none⟩) hbl).trans c2; have HB1 := Lib.hid (HB.out.drew.trans (hb1.mono HB.out.size)); clear hb1))
        go_wp2
        go_roundw
        case rel => exact ⟨q + 1, by omega, by go_num, by rw [HPK.out, HX.out], HB1.out⟩
        case measure => simp [intOf]; omega
    · obtain rfl : q = l.length := by omega
      rw [List.take_length]
      go_wp2
      go_ret
      exact ⟨rfl, HB.out⟩
end Go.Proofs.YtcnejkbbheihiaaGreatDoor
/-
  The document's answer for packs: PackOf, TreeSum: over this seat's translation.
-/
namespace Go.Proofs.YtcnejkbbheihiaaGreatDoor
open Go.RowKit Go.Shelf

theorem fault_nat (l : List F) : ∃ c i, treeFault l = (c, i) := ⟨_, _, rfl⟩

set_option maxRecDepth 100000 in
set_option maxHeartbeats 4000000 in
theorem packOf_any (l : List F) (a : Option Addr) (ca : Nat) (w : World) (hl : LiesAt w a l) (hs : Small l) :
    Calls Tryz.prog 37 #[.slice a l.length ca] w fun e w' => e = .returned (.tuple #[.string ⟨(makeL l).toArray⟩, .agg #[.int .i64 (treeFault l).1, .int .i64 (treeFault l).2]]) ∧ Below w.heap.size w w' := by
  have HL := Lib.hid hl
  have HSM := Lib.hid hs
  obtain ⟨W0, hW0⟩ : ∃ W0, W0 = w.alloc (.cells #[.int .i64 0, .int .i64 0] 38) := ⟨_, rfl⟩
  have hb0 : Below w.heap.size w W0 := by rw [hW0]; exact (Below.refl _ _).alloc (Nat.le_refl _) _
  have HT := Lib.hid (refTreeFault_any l a ca W0 (hl.below hb0) hs)
  have HS0 : Hid (Below (w.heap.size + 1) (w.alloc (.cells #[.int .i64 0, .int .i64 0] 38)) W0) := by
    show Below _ _ _
    rw [hW0]
    exact Below.refl _ _
  clear hl hs hb0
  go_enter Tryz.func37, Tryz.ntmps37
  go_wp2_with fail
  rw [← hW0]
  clear hW0
  refine HT.out.mono ?_
  rintro e w1 ⟨rfl, hb1⟩
  have HS1 := Lib.hid (more_below HS0.out rfl hb1)
  clear hb1 HS0 HT
  by_cases hz : (treeFault l).1 = 0
  · have hps := pack_small hz
    have HMK := Lib.hid (make_yes hz)
    have HZ := Lib.hid (treeFault_zero hz)
    rw [HZ.out]
    clear hz
    go_wp2_with fail
    obtain ⟨W, hW⟩ : ∃ W, W = w1.alloc (.cells #[.int .i64 0, .int .i64 (-1)] 38) := ⟨_, rfl⟩
    have hbW : Below w1.heap.size w1 W := by rw [hW]; exact (Below.refl _ _).alloc (Nat.le_refl _) _
    have HSW := Lib.hid (more_below HS1.out rfl hbW)
    obtain ⟨f0, f1, _, _, _⟩ := slot_two (w := w1) (wr := W) (u := .int .i64 0) (v := .int .i64 (-1)) (T := 38) (by rw [hW]; exact Below.refl _ _)
    have hne : w1.heap.size ≠ w.heap.size := by have := HS1.out.size; simp at this; omega
    have hbl : w1.heap.size < W.heap.size := by rw [hW]; simp
    rw [← hW]
    clear hW hbW HS1
    generalize w1.heap.size = fb at f0 f1 hne hbl ⊢
    have HPT := packText_any l a ca W.drew (HL.out.below (slot_two HSW.out).2.2.2.2.drew) HSM.out hps
    obtain ⟨s0, s1, z0, z1, sb⟩ := slot_two HSW.out
    go_region_with (first
      | (go_at_call 46; (with_reducible refine HPT.mono ?_); rintro e w2 ⟨rfl, hb2⟩; have HS2 := Lib.hid (more_below HSW.out.drew rfl hb2); have d0 := (hb2.cell (p := ⟨fb, 0, none⟩) hbl).trans f0; have d1 := (hb2.cell (p := ⟨fb, 1, none⟩) hbl).trans f1; obtain ⟨t0, t1, y0, y1, tb⟩ := slot_two HS2.out; clear hb2))
    all_goals go_wp2
    all_goals
      obtain ⟨q0, q1, q2⟩ := slot_set (w := w) (wr := w2) (.int .i64 0) (.int .i64 (-1)) t0 t1 tb
      exact bodyPost_ret (v := .tuple #[.string ⟨(packL l).toArray⟩, .agg #[.int .i64 0, .int .i64 (-1)]]) (by simp [results, Tryz.results37, go_sem, q0, q1]) rfl ⟨by rw [HMK.out, HZ.out]; rfl, q2⟩
  · have HMK := Lib.hid (make_no hz)
    obtain ⟨c, i, hci⟩ := fault_nat l
    have hc : 0 < c := by rw [hci] at hz; simp at hz; omega
    have hc' : (0 : Int) < (c : Int) := by omega
    rw [hci]
    have HCI := Lib.hid hci
    clear hz hci
    go_wp2_with fail
    obtain ⟨W, hW⟩ : ∃ W, W = w1.alloc (.cells #[.int .i64 c, .int .i64 i] 38) := ⟨_, rfl⟩
    have hbW : Below w1.heap.size w1 W := by rw [hW]; exact (Below.refl _ _).alloc (Nat.le_refl _) _
    have HSW := Lib.hid (more_below HS1.out rfl hbW)
    obtain ⟨f0, f1, _, _, _⟩ := slot_two (w := w1) (wr := W) (u := .int .i64 c) (v := .int .i64 i) (T := 38) (by rw [hW]; exact Below.refl _ _)
    have hne : w1.heap.size ≠ w.heap.size := by have := HS1.out.size; simp at this; omega
    rw [← hW]
    clear hW hbW HS1
    generalize w1.heap.size = fb at f0 f1 hne ⊢
    obtain ⟨s0, s1, z0, z1, sb⟩ := slot_two HSW.out
    go_region
    all_goals go_wp2
    all_goals
      obtain ⟨q0, q1, q2⟩ := slot_set (w := w) (wr := W) (.int .i64 c) (.int .i64 i) s0 s1 sb
      exact bodyPost_ret (v := .tuple #[.string ⟨#[]⟩, .agg #[.int .i64 c, .int .i64 i]]) (by simp [results, Tryz.results37, go_sem, q0, q1]) rfl ⟨by rw [HMK.out, HCI.out], Below.drew q2⟩
end Go.Proofs.YtcnejkbbheihiaaGreatDoor
/-
  The document's answer for packs: TreeSum: over this seat's translation.
-/
namespace Go.Proofs.YtcnejkbbheihiaaGreatDoor
open Go.RowKit Go.Shelf

set_option maxRecDepth 100000 in
set_option maxHeartbeats 4000000 in
theorem treeSum_any (l : List F) (a : Option Addr) (ca : Nat) (w : World) (hl : LiesAt w a l) (hs : Small l) :
    Calls Tryz.prog 27 #[.slice a l.length ca] w fun e w' => e = .returned (.tuple #[.int .i64 (sumT l), .agg #[.int .i64 (treeFault l).1, .int .i64 (treeFault l).2]]) ∧ Below w.heap.size w w' := by
  obtain ⟨W0, hW0⟩ : ∃ W0, W0 = w.alloc (.cells #[.int .i64 0, .int .i64 0] 38) := ⟨_, rfl⟩
  have hb0 : Below w.heap.size w W0 := by rw [hW0]; exact (Below.refl _ _).alloc (Nat.le_refl _) _
  have HT := Lib.hid (packOf_any l a ca W0 (hl.below hb0) hs)
  have HS0 : Hid (Below (w.heap.size + 1) (w.alloc (.cells #[.int .i64 0, .int .i64 0] 38)) W0) := by
    show Below _ _ _
    rw [hW0]
    exact Below.refl _ _
  clear hl hs hb0
  go_enter Tryz.func27, Tryz.ntmps27
  go_wp2_with fail
  rw [← hW0]
  clear hW0
  refine HT.out.mono ?_
  rintro e w1 ⟨rfl, hb1⟩
  have HS1 := Lib.hid (more_below HS0.out rfl hb1)
  clear hb1 HS0 HT
  by_cases hz : (treeFault l).1 = 0
  · have hps := pack_small hz
    have HMK := Lib.hid (sum_yes hz)
    have HZ := Lib.hid (treeFault_zero hz)
    rw [HZ.out, make_yes hz]
    clear hz
    go_wp2_with fail
    obtain ⟨W, hW⟩ : ∃ W, W = w1.alloc (.cells #[.int .i64 0, .int .i64 (-1)] 38) := ⟨_, rfl⟩
    have hbW : Below w1.heap.size w1 W := by rw [hW]; exact (Below.refl _ _).alloc (Nat.le_refl _) _
    have HSW := Lib.hid (more_below HS1.out rfl hbW)
    obtain ⟨f0, f1, _, _, _⟩ := slot_two (w := w1) (wr := W) (u := .int .i64 0) (v := .int .i64 (-1)) (T := 38) (by rw [hW]; exact Below.refl _ _)
    have hne : w1.heap.size ≠ w.heap.size := by have := HS1.out.size; simp at this; omega
    have hbl : w1.heap.size < W.heap.size := by rw [hW]; simp
    rw [← hW]
    clear hW hbW HS1
    generalize w1.heap.size = fb at f0 f1 hne hbl ⊢
    have HPT := refSumOf_any (packL l) W.drew (by omega)
    generalize packL l = pk at HPT HMK hps
    generalize sumL pk = sm at HPT HMK
    obtain ⟨s0, s1, z0, z1, sb⟩ := slot_two HSW.out
    go_region_with (first
      | (go_at_call 38; (with_reducible refine HPT.mono ?_); rintro e w2 ⟨rfl, rfl⟩))
    all_goals go_wp2
    all_goals
      obtain ⟨q0, q1, q2⟩ := slot_set (w := w) (wr := W) (.int .i64 0) (.int .i64 (-1)) s0 s1 sb
      exact bodyPost_ret (v := .tuple #[.int .i64 sm, .agg #[.int .i64 0, .int .i64 (-1)]]) (by simp [results, Tryz.results27, go_sem, q0, q1]) rfl ⟨by rw [HMK.out, HZ.out]; rfl, Below.drew q2⟩
  · have HMK := Lib.hid (sum_no hz)
    rw [make_no hz]
    obtain ⟨c, i, hci⟩ := fault_nat l
    have hc : 0 < c := by rw [hci] at hz; simp at hz; omega
    have hc' : (0 : Int) < (c : Int) := by omega
    rw [hci]
    have HCI := Lib.hid hci
    clear hz hci
    go_wp2_with fail
    obtain ⟨W, hW⟩ : ∃ W, W = w1.alloc (.cells #[.int .i64 c, .int .i64 i] 38) := ⟨_, rfl⟩
    have hbW : Below w1.heap.size w1 W := by rw [hW]; exact (Below.refl _ _).alloc (Nat.le_refl _) _
    have HSW := Lib.hid (more_below HS1.out rfl hbW)
    obtain ⟨f0, f1, _, _, _⟩ := slot_two (w := w1) (wr := W) (u := .int .i64 c) (v := .int .i64 i) (T := 38) (by rw [hW]; exact Below.refl _ _)
    have hne : w1.heap.size ≠ w.heap.size := by have := HS1.out.size; simp at this; omega
    rw [← hW]
    clear hW hbW HS1
    generalize w1.heap.size = fb at f0 f1 hne ⊢
    obtain ⟨s0, s1, z0, z1, sb⟩ := slot_two HSW.out
    go_region
    all_goals go_wp2
    all_goals
      obtain ⟨q0, q1, q2⟩ := slot_set (w := w) (wr := W) (.int .i64 c) (.int .i64 i) s0 s1 sb
      exact bodyPost_ret (v := .tuple #[.int .i64 0, .agg #[.int .i64 c, .int .i64 i]]) (by simp [results, Tryz.results27, go_sem, q0, q1]) rfl ⟨by rw [HMK.out, HCI.out]; rfl, Below.drew q2⟩
end Go.Proofs.YtcnejkbbheihiaaGreatDoor
/-
  What the document's answer holds: NewHeld, Sums, Put, Drop: contracts, over this seat's translation.
-/
namespace Go.Proofs.YtcnejkbbheihiaaGreatDoor
open Go.RowKit Go.Shelf

theorem refHNew_any (m : Int) (w : World) : Calls Tryz.prog 7 #[.int .i64 m] w fun e w' => ∃ mb, e = .returned (.pointer (some ⟨mb, 0, none⟩)) ∧ RefHAt w' mb (.slice none 0 0) (mostH m) [] ∧ w.heap.size ≤ mb ∧ Below w.heap.size w w' := by
  have ref_new : ∀ k : Nat, RefHAt (w.alloc (.cells #[.int .i64 k, .slice none 0 0] 44)) w.heap.size (.slice none 0 0) k [] := fun k => by
    have e := heap_new w (.cells #[.int .i64 k, .slice none 0 0] 44)
    generalize w.alloc (.cells #[.int .i64 k, .slice none 0 0] 44) = V at e ⊢
    exact ⟨by simp [World.cell?, e], by simp [World.cell?, e], fun j => by simp [World.cell?, e], fun j => by simp [World.frozen?, e], World.ownsRow_nil _ _ _ _⟩
  have HR := Lib.hid ref_new
  clear ref_new
  by_cases h0 : m < 0
  · have HM : Hid (mostH m = 0) := if_pos h0
    go_enter Tryz.func7, Tryz.ntmps7
    go_wp2
    go_ret
    exact ⟨_, rfl, by rw [HM.out]; exact HR.out 0, Nat.le_refl _, (Below.refl _ _).alloc (Nat.le_refl _) _⟩
  · have h0' : decide (m < 0) = false := by simp; omega
    by_cases h1 : 40 < m
    · have HM : Hid (mostH m = 40) := by show mostH m = 40; unfold mostH; rw [if_neg h0, if_pos h1]
      clear h0
      go_enter Tryz.func7, Tryz.ntmps7
      go_wp2
      go_ret
      exact ⟨_, rfl, by rw [HM.out]; exact HR.out 40, Nat.le_refl _, (Below.refl _ _).alloc (Nat.le_refl _) _⟩
    · have HM : Hid (mostH m = m.toNat) := by show mostH m = m.toNat; unfold mostH; rw [if_neg h0, if_neg h1]
      have h1' : decide (40 < m) = false := by simp; omega
      obtain ⟨k, rfl⟩ := Int.eq_ofNat_of_zero_le (show 0 ≤ m by omega)
      clear h0 h1
      go_enter Tryz.func7, Tryz.ntmps7
      go_wp2
      go_ret
      exact ⟨_, rfl, by rw [HM.out]; exact HR.out k, Nat.le_refl _, (Below.refl _ _).alloc (Nat.le_refl _) _⟩

theorem Tryz.infoIntH : (Tryz.prog.info? 3).map (fun i => (i.zero, i.size, i.bytes)) = some (some (.int .i64 0), 1, 8) := by kernel_rfl
set_option maxRecDepth 100000 in
set_option maxHeartbeats 1000000 in
theorem refHSums_any (mb most : Nat) (v : Value) (rs : List Rt) (w : World) (h : RefHAt w mb v most rs) (hl : rs.length ≤ 100000) :
    Calls Tryz.prog 18 #[.pointer (some ⟨mb, 0, none⟩)] w fun e w' => (∃ u, e = .returned u ∧ w'.ownsRow w.heap.size 3 1 u (rs.map fun x => (x.n : Int)).length ((rs.map fun x => (x.n : Int)).map iv)) ∧ Below w.heap.size w w' := by
  obtain ⟨i0, hi, hz0, hz1, hz2⟩ := info_parts Tryz.infoIntH
  have H := Lib.hid h
  have c1 := h.c1
  obtain ⟨av, cv, hv⟩ := owns_slice h.row
  subst hv
  clear h
  go_enter Tryz.func18, Tryz.ntmps18
  go_wp2_with fail
  go_loopw [3, 4] (fun u i wr => ∃ q : Nat, q ≤ rs.length ∧ i = .int .i64 q ∧ wr.ownsRow w.heap.size 3 1 u ((rs.take q).map fun x => (x.n : Int)).length (((rs.take q).map fun x => (x.n : Int)).map iv) ∧ Below w.heap.size w wr) (fun _ i _ => rs.length - (intOf i).toNat)
  case atStart => exact ⟨0, by omega, rfl, by simpa using World.ownsRow_nil _ _ _ _, Below.refl _ _⟩
  case round =>
    obtain ⟨q, hq, rfl, hrow, hb⟩ := hrel
    have HB := Lib.hid hb
    have HR := Lib.hid (H.out.below hb)
    have hbs := hb.size
    have c1 := HR.out.c1
    have hfl : ((rs.take q).map fun x => (x.n : Int)).length = q := by simp; omega
    clear hb
    by_cases hlt : q < rs.length
    · have hlt' : (q : Int) < (rs.length : Int) := by omega
      obtain ⟨g, cap, hv2, hcap, k0, _⟩ := HR.out.site hlt
      cases hv2
      have HF : Hid (((rs.take (q + 1)).map fun x => (x.n : Int)) = ((rs.take q).map fun x => (x.n : Int)) ++ [(rs[q].n : Int)]) := by
        show _ = _
        rw [List.take_succ_eq_append_getElem hlt, List.map_append]
        rfl
      generalize ((rs.take q).map fun x => (x.n : Int)) = L at hrow HF hfl
      generalize (rs[q].n : Int) = x at k0 HF
      go_wp2_with (at_builtin; refine wpList_append_own _ rfl _ _ 52 rfl w.heap.size 3 i0 (.int .i64 0) 1 8 Tryz.underlying52 hi hz0 hz1 hz2 rfl (by decide) _ _ _ rfl (hrow.alloc _) ⟨wr.heap.size, 0, none⟩ 1 1 [.int .i64 x] rfl rfl (cell_one_new _ _ _) (by simp [Value.oneCell']) (by unfold maxLen; omega) (by omega) (by simp; omega) ?_; intro v' w2 hown' hgrow _)
      have HB2 : Below w.heap.size w w2 := (HB.out.alloc hbs _).grown hgrow (by simp; omega) (fun j ej => (hrow.lt j ej).1)
      refine ⟨⟨q + 1, by omega, by go_num, ?_, HB2⟩, by simp [intOf]; omega⟩
      rw [HF.out, List.length_append]
      simpa using hown'
    · have hql : q = rs.length := by omega
      have HF : Hid (((rs.take q).map fun x => (x.n : Int)) = rs.map fun x => (x.n : Int)) := by
        show _ = _
        rw [hql, List.take_length]
      rw [HF.out] at hrow
      obtain ⟨a2, cap2, hv2⟩ := owns_slice hrow
      clear hql hfl
      go_wp2
      go_ret
      exact ⟨⟨_, rfl, hrow⟩, HB.out⟩

theorem Tryz.infoTreeH : (Tryz.prog.info? 46).map (fun i => (i.zero, i.size, i.bytes)) = some (some (.agg #[.int .i64 0, .slice none 0 0]), 2, 32) := by kernel_rfl
theorem drop_end {w : World} {base g cap : Nat} {rs : List Rt} (h : w.ownsRow base 46 2 (.slice (some ⟨g, 0, none⟩) rs.length cap) rs.length (rscells rs)) (k : Nat) (hk : k ≤ rs.length) : ∀ j u, (rscells (rs.drop k))[j]? = some u → w.cell? ((⟨g, k * 2, none⟩ : Addr).add j) = some u := fun j u hj => by
  have hlt : j < (rscells (rs.drop k)).length := (List.getElem?_eq_some_iff.1 hj).1
  rw [rscells_length, List.length_drop] at hlt
  have e : rscells rs = rscells (rs.take k) ++ rscells (rs.drop k) := by rw [← rscells_app, List.take_append_drop]
  have hl : (rscells (rs.take k)).length = k * 2 := by rw [rscells_length, List.length_take]; congr 1; omega
  rw [Addr.add_lit, h.cellAt (k * 2 + j) (by omega), e, List.getElem?_append_right (by omega), hl, Nat.add_sub_cancel_left]
  exact hj
theorem take_end {w : World} {base g cap : Nat} {rs : List Rt} (h : w.ownsRow base 46 2 (.slice (some ⟨g, 0, none⟩) rs.length cap) rs.length (rscells rs)) (k : Nat) (hk : k ≤ rs.length) : ∀ j u, (rscells (rs.take k))[j]? = some u → w.cell? ((⟨g, 0, none⟩ : Addr).add j) = some u := fun j u hj => by
  have hlt : j < (rscells (rs.take k)).length := (List.getElem?_eq_some_iff.1 hj).1
  have hl : (rscells (rs.take k)).length = k * 2 := by rw [rscells_length, List.length_take]; congr 1; omega
  have e : rscells rs = rscells (rs.take k) ++ rscells (rs.drop k) := by rw [← rscells_app, List.take_append_drop]
  rw [Addr.add_lit, Nat.zero_add, h.cellAt j (by omega), e, List.getElem?_append_left hlt]
  exact hj
theorem erase_tr (rs : List Rt) (k : Nat) : (rs.take k ++ rs.drop (k + 1)).map Rt.tr = (rs.map Rt.tr).eraseIdx k := by
  rw [List.eraseIdx_eq_take_drop_succ, List.map_append, List.map_take, List.map_drop]

set_option maxRecDepth 100000 in
set_option maxHeartbeats 2000000 in
theorem refHDrop_any (mb most : Nat) (v : Value) (rs : List Rt) (n : Int) (w : World) (h : RefHAt w mb v most rs) (hl : rs.length ≤ 1000) :
    Calls Tryz.prog 14 #[.pointer (some ⟨mb, 0, none⟩), .int .i64 n] w fun e w' => e = .returned (.int .i64 (dropH ⟨most, rs.map Rt.tr⟩ n).2) ∧ ∃ v' rs', RefHLeft w mb most rs' w' v' v ∧ rs'.map Rt.tr = (dropH ⟨most, rs.map Rt.tr⟩ n).1.l ∧ ∀ r ∈ rs', r ∈ rs := by
  obtain ⟨i0, hi, hz0, hz1, hz2⟩ := info_parts Tryz.infoTreeH
  have H := Lib.hid h
  have c1 := h.c1
  clear h
  cases hs : spotH (rs.map Rt.tr) n with
  | none =>
    have HC := Lib.hid (dropH_none (s := ⟨most, rs.map Rt.tr⟩) hs)
    have HA := Lib.hid (atH_none hs)
    clear hs
    go_enter Tryz.func14, Tryz.ntmps14
    go_wp2_with fail
    refine (refHFind_is mb most v rs n _ _ H.out (by omega) HA.out).mono ?_
    rintro e w' ⟨rfl, hw'⟩
    obtain rfl : w = w' := hw'.symm
    go_wp2
    go_ret
    exact ⟨by rw [HC.out]; rfl, v, rs, RefHLeft.of_below H.out (Below.refl _ _), by rw [HC.out], fun _ h => h⟩
  | some k =>
    obtain ⟨hk0, _⟩ := spotH_some hs
    have hk : k < rs.length := by simpa using hk0
    have HC := Lib.hid (dropH_some (s := ⟨most, rs.map Rt.tr⟩) hs)
    have HA := Lib.hid (atH_some hs)
    have HE := Lib.hid (erase_tr rs k)
    obtain ⟨g, cap, rfl, hcap, _, _⟩ := H.out.site hk
    have hmlt := H.out.lt
    have hglt := H.out.row.lt g rfl
    have z1 := H.out.live 1
    have HR := Lib.hid H.out.row
    have HT := Lib.hid (take_end H.out.row k (by omega))
    have HD := Lib.hid (drop_end H.out.row (k + 1) (by omega))
    have hcm : cap ≤ maxLen := by
      obtain ⟨g', cap', hv', _, hm'⟩ := owns_at H.out.row (by omega)
      cases hv'
      exact hm'
    have hkc : (k : Int) ≤ (cap : Int) := by omega
    have hk1 : ((k : Int) + 1) ≤ (rs.length : Int) := by omega
    clear hs
    by_cases hend : cap = k + 1
    · subst hend
      go_enter Tryz.func14, Tryz.ntmps14
      go_wp2_with fail
      refine (refHFind_is mb most _ rs n _ _ H.out (by omega) HA.out).mono ?_
      rintro e w' ⟨rfl, hw'⟩
      obtain rfl : w = w' := hw'.symm
      go_wp2_with (at_builtin; first
        | (refine wpList_append_own _ rfl _ _ 42 rfl w.heap.size 46 i0 (.agg #[.int .i64 0, .slice none 0 0]) 2 32 Tryz.underlying42 hi hz0 hz1 hz2 rfl (by decide) (.slice none 0 0) 0 [] rfl (World.ownsRow_nil _ _ _ _) ⟨g, 0, none⟩ k _ (rscells (rs.take k)) rfl (by rw [rscells_length, List.length_take]; congr 1; omega) HT.out (rscells_one _) (by unfold maxLen; omega) (by omega) (by omega) ?_; intro v2 w2 hown2 hgrow2 hnil2; have HO2 := Lib.hid hown2; have HB2 := Lib.hid (show Below w.heap.size w w2 from (Below.refl _ _).grown hgrow2 (Nat.le_refl _) (fun k e => by cases e)); clear hown2 hgrow2 hnil2; have hs2 : w.heap.size ≤ w2.heap.size := HB2.out.size; have d1 : w2.cell? ⟨mb, 1, none⟩ = some (.slice (some ⟨g, 0, none⟩) rs.length (k + 1)) := (HB2.out.cell (p := ⟨mb, 1, none⟩) hmlt).trans c1)
        | (refine wpList_append_own _ rfl _ _ 42 rfl w.heap.size 46 i0 (.agg #[.int .i64 0, .slice none 0 0]) 2 32 Tryz.underlying42 hi hz0 hz1 hz2 rfl (by decide) v2 _ _ rfl HO2.out ⟨g, 0, none⟩ 0 0 [] rfl rfl (fun j u hj => by simp at hj) (fun u hu => by simp at hu) (by unfold maxLen; omega) (by omega) (by omega) ?_; intro v3 w3 hown3 hgrow3 hnil3; have HO3 := Lib.hid hown3; have HB3 := Lib.hid (show Below w.heap.size w w3 from HB2.out.grown hgrow3 hs2 (fun j e => (HO2.out.lt j e).1)); obtain ⟨a3, c3, hv3⟩ := owns_slice hown3; subst hv3; clear hown3 hgrow3 hnil3; have e1 : w3.cell? ⟨mb, 1, none⟩ = some (.slice (some ⟨g, 0, none⟩) rs.length (k + 1)) := (HB3.out.cell (p := ⟨mb, 1, none⟩) hmlt).trans c1; have z3 : w3.frozen? ⟨mb, 1, none⟩ = false := (HB3.out.frozen (p := ⟨mb, 1, none⟩) hmlt).trans z1))
      go_ret
      have hdn : rs.drop (k + 1) = [] := List.drop_eq_nil_of_le (by omega)
      have hown : w3.ownsRow w.heap.size 46 2 (.slice a3 k c3) (rs.take k ++ rs.drop (k + 1)).length (rscells (rs.take k ++ rs.drop (k + 1))) := by
        have := HO3.out
        rw [hdn, List.append_nil, List.length_take, Nat.min_eq_left (by omega)]
        simpa using this
      exact ⟨by rw [HC.out]; rfl, _, rs.take k ++ rs.drop (k + 1), H.out.stored HB3.out hown, by rw [HC.out]; exact HE.out, fun r hr => (List.mem_append.1 hr).elim (fun h => List.mem_of_mem_take h) (fun h => List.mem_of_mem_drop h)⟩
    · go_enter Tryz.func14, Tryz.ntmps14
      go_wp2_with fail
      refine (refHFind_is mb most _ rs n _ _ H.out (by omega) HA.out).mono ?_
      rintro e w' ⟨rfl, hw'⟩
      obtain rfl : w = w' := hw'.symm
      go_wp2_with (at_builtin; first
        | (refine wpList_append_own _ rfl _ _ 42 rfl w.heap.size 46 i0 (.agg #[.int .i64 0, .slice none 0 0]) 2 32 Tryz.underlying42 hi hz0 hz1 hz2 rfl (by decide) (.slice none 0 0) 0 [] rfl (World.ownsRow_nil _ _ _ _) ⟨g, 0, none⟩ k _ (rscells (rs.take k)) rfl (by rw [rscells_length, List.length_take]; congr 1; omega) HT.out (rscells_one _) (by unfold maxLen; omega) (by omega) (by omega) ?_; intro v2 w2 hown2 hgrow2 hnil2; have HO2 := Lib.hid hown2; have HB2 := Lib.hid (show Below w.heap.size w w2 from (Below.refl _ _).grown hgrow2 (Nat.le_refl _) (fun k e => by cases e)); clear hown2 hgrow2 hnil2; have hs2 : w.heap.size ≤ w2.heap.size := HB2.out.size; have d1 : w2.cell? ⟨mb, 1, none⟩ = some (.slice (some ⟨g, 0, none⟩) rs.length cap) := (HB2.out.cell (p := ⟨mb, 1, none⟩) hmlt).trans c1)
        | (refine wpList_append_own _ rfl _ _ 42 rfl w.heap.size 46 i0 (.agg #[.int .i64 0, .slice none 0 0]) 2 32 Tryz.underlying42 hi hz0 hz1 hz2 rfl (by decide) v2 _ _ rfl HO2.out ⟨g, (k + 1) * 2, none⟩ (rs.length - (k + 1)) _ (rscells (rs.drop (k + 1))) rfl (by rw [rscells_length, List.length_drop]) (fun j u hj => by rw [HB2.out.cell (p := (⟨g, (k + 1) * 2, none⟩ : Addr).add j) (by rw [Addr.add_lit]; exact hglt.2)]; exact HD.out j u hj) (rscells_one _) (by unfold maxLen; omega) (by omega) (by omega) ?_; intro v3 w3 hown3 hgrow3 hnil3; have HO3 := Lib.hid hown3; have HB3 := Lib.hid (show Below w.heap.size w w3 from HB2.out.grown hgrow3 hs2 (fun j e => (HO2.out.lt j e).1)); obtain ⟨a3, c3, hv3⟩ := owns_slice hown3; subst hv3; clear hown3 hgrow3 hnil3; have e1 : w3.cell? ⟨mb, 1, none⟩ = some (.slice (some ⟨g, 0, none⟩) rs.length cap) := (HB3.out.cell (p := ⟨mb, 1, none⟩) hmlt).trans c1; have z3 : w3.frozen? ⟨mb, 1, none⟩ = false := (HB3.out.frozen (p := ⟨mb, 1, none⟩) hmlt).trans z1))
      go_ret
      have hown : w3.ownsRow w.heap.size 46 2 (.slice a3 (k + (rs.length - (k + 1))) c3) (rs.take k ++ rs.drop (k + 1)).length (rscells (rs.take k ++ rs.drop (k + 1))) := by
        have := HO3.out
        rw [rscells_app, List.length_append, List.length_take, List.length_drop, Nat.min_eq_left (by omega)]
        simpa using this
      exact ⟨by rw [HC.out]; rfl, _, rs.take k ++ rs.drop (k + 1), H.out.stored HB3.out hown, by rw [HC.out]; exact HE.out, fun r hr => (List.mem_append.1 hr).elim (fun h => List.mem_of_mem_take h) (fun h => List.mem_of_mem_drop h)⟩
end Go.Proofs.YtcnejkbbheihiaaGreatDoor
/-
  What the document's answer holds: Put: a contract, over this seat's translation.
-/
namespace Go.Proofs.YtcnejkbbheihiaaGreatDoor
open Go.RowKit Go.Shelf

theorem RefHLeft.drew {w w' : World} {mb most : Nat} {v v' : Value} {rs' : List Rt} (h : RefHLeft w mb most rs' w' v' v) : RefHLeft w mb most rs' w'.drew v' v :=
  ⟨h.ref.below (Below.refl _ _).drew, h.below.drew, ⟨h.kept.size, h.kept.block⟩, h.row⟩
/-- A result's own cell is written. -/
theorem RefHLeft.slot {w w' : World} {mb most : Nat} {v v' : Value} {rs' : List Rt} (h : RefHLeft w mb most rs' w' v' v) (hm : mb < w.heap.size) (hv : ∀ g, v'.ownBlock = some g → g ≠ w.heap.size) (j : Nat) (x : Value) : RefHLeft w mb most rs' (w'.setCell ⟨w.heap.size, j, none⟩ x) v' v :=
  ⟨h.ref.kept (S := fun b => b = w.heap.size) (Kept.set (S := fun b => b = w.heap.size) w' (a := ⟨w.heap.size, j, none⟩) rfl x) (by omega) hv, h.below.setCell (p := ⟨w.heap.size, j, none⟩) (by show mb ≤ w.heap.size; omega) _,
    ⟨by simp; exact h.kept.size, fun b hb hs => (Below.heap_setCell w' ⟨w.heap.size, j, none⟩ x b (by show b ≠ w.heap.size; omega)).trans (h.kept.block b hb hs)⟩, h.row⟩
/-- The tree that comes last. -/
theorem tree_new (w : World) (r : Rt) (T : TypeId) : ∀ j u, (rtcells r)[j]? = some u → (w.alloc (.cells #[.int .i64 r.n, .slice r.a r.l.length r.c] T)).cell? ((⟨w.heap.size, 0, none⟩ : Addr).add j) = some u := by
  intro j u h
  have hn := heap_new w (.cells #[.int .i64 r.n, .slice r.a r.l.length r.c] T)
  have hc : ∀ k, (w.alloc (.cells #[.int .i64 r.n, .slice r.a r.l.length r.c] T)).cell? ⟨w.heap.size, k, none⟩ = (#[.int .i64 r.n, .slice r.a r.l.length r.c] : Array Value)[k]? := fun k => by
    unfold World.cell?
    rw [hn]
    rfl
  rcases j with _ | _ | j
  · exact (hc 0).trans h
  · exact (hc 1).trans h
  · simp [rtcells] at h

/-- append of whatever lies at whatever address, or of nothing at none. -/
theorem wpList_append_own_opt {P : Program} {w : World} {ops : Array Oper} {rest : List Oper} {o : Oper} {a : Act} {Q : Exit → Act → World → Prop} (hgd : o.guard = none) (s x : Operand) (t : TypeId)
    (ho : o.op = .call { callee := .builtin .append, args := #[s, x], argTypes := #[t, t] })
    (base : Nat) (e : TypeId) (i : TypeInfo) (z : Value) (size bytes : Nat) (ht : P.underlying t = some (.slice e)) (hi : P.info? e = some i) (hz : i.zero = some z)
    (hsize : i.size = size) (hby : i.bytes = bytes) (hzs : z.cells.size = size) (hsz : 0 < size)
    (v : Value) (n : Nat) (xs : List Value) (hs : a.eval s = v) (hown : w.ownsRow base e size v n xs)
    (ao : Option Addr) (m c : Nat) (news : List Value) (hx : a.eval x = .slice ao m c) (hnone : ao = none → m = 0 ∧ c = 0) (hl : news.length = m * size) (hnews : ∀ ad, ao = some ad → ∀ j u, news[j]? = some u → w.cell? (ad.add j) = some u) (h1 : ∀ u ∈ news, u.oneCell' = true)
    (h63 : n + m ≤ maxLen) (hbytes : (n + m) * bytes ≤ 140737488355328) (hbase : base ≤ w.heap.size)
    (h : ∀ v' w', w'.ownsRow base e size v' (n + m) (xs ++ news) → w.grownBy w' v.ownBlock → wpList P ops Q rest (a.put o.dst v') w') : wpList P ops Q (o :: rest) a w := by
  cases ao with
  | some ad => exact wpList_append_own w hgd s x t ho base e i z size bytes ht hi hz hsize hby hzs hsz v n xs hs hown ad m c news hx hl (hnews ad rfl) h1 h63 hbytes hbase fun v' w' h2 h3 _ => h v' w' h2 h3
  | none =>
    obtain ⟨rfl, rfl⟩ := hnone rfl
    have hn : news = [] := List.eq_nil_of_length_eq_zero (by simpa using hl)
    subst hn
    exact wpList_append_own_none hgd s x t ho base e i size ht hi v n xs hs hown hx (h v w (by simpa using hown) ⟨rfl, rfl, rfl, Nat.le_refl _, fun _ _ _ => rfl⟩)

set_option maxRecDepth 100000 in
set_option maxHeartbeats 4000000 in
theorem refHPut_any (mb most : Nat) (v : Value) (rs : List Rt) (l : List F) (a : Option Addr) (ca : Nat) (w : World) (h : RefHAt w mb v most rs) (hl : rs.length ≤ 1000) (hla : LiesAt w a l) (hs : Small l) :
    Calls Tryz.prog 10 #[.pointer (some ⟨mb, 0, none⟩), .slice a l.length ca] w fun e w' => e = .returned (.tuple #[.int .i64 (putH ⟨most, rs.map Rt.tr⟩ l).2.1, .agg #[.int .i64 (putH ⟨most, rs.map Rt.tr⟩ l).2.2.1, .int .i64 (putH ⟨most, rs.map Rt.tr⟩ l).2.2.2]]) ∧
      ∃ v' rs', RefHLeft w mb most rs' w' v' v ∧ rs'.map Rt.tr = (putH ⟨most, rs.map Rt.tr⟩ l).1.l ∧ ∀ r ∈ rs', r ∈ rs ∨ r = ⟨sumT l, l, a, ca⟩ := by
  obtain ⟨i0, hi, hz0, hz1, hz2⟩ := info_parts Tryz.infoTreeH
  obtain ⟨W0, hW0⟩ : ∃ W0, W0 = w.alloc (.cells #[.int .i64 0, .int .i64 0] 38) := ⟨_, rfl⟩
  have hb0 : Below w.heap.size w W0 := by rw [hW0]; exact (Below.refl _ _).alloc (Nat.le_refl _) _
  have HT := Lib.hid (treeSum_any l a ca W0 (hla.below hb0) hs)
  have H := Lib.hid h
  have hmlt := h.lt
  have HS0 : Hid (Below (w.heap.size + 1) (w.alloc (.cells #[.int .i64 0, .int .i64 0] 38)) W0) := by
    show Below _ _ _
    rw [hW0]
    exact Below.refl _ _
  clear hla hs hb0 h
  go_enter Tryz.func10, Tryz.ntmps10
  go_wp2_with fail
  rw [← hW0]
  clear hW0
  refine HT.out.mono ?_
  rintro e w1 ⟨rfl, hb1⟩
  have HS1 := Lib.hid (more_below HS0.out rfl hb1)
  clear hb1 HS0 HT
  by_cases hz : (treeFault l).1 = 0
  · have HZ := Lib.hid hz
    have hzz := treeFault_zero hz
    rw [hzz]
    clear hz hzz
    obtain ⟨W, hW⟩ : ∃ W, W = w1.alloc (.cells #[.int .i64 0, .int .i64 (-1)] 38) := ⟨_, rfl⟩
    have hbW : Below w1.heap.size w1 W := by rw [hW]; exact (Below.refl _ _).alloc (Nat.le_refl _) _
    have HSW := Lib.hid (more_below HS1.out rfl hbW)
    obtain ⟨f0, f1, _, _, _⟩ := slot_two (w := w1) (wr := W) (u := .int .i64 0) (v := .int .i64 (-1)) (T := 38) (by rw [hW]; exact Below.refl _ _)
    have hws : w.heap.size < w1.heap.size := by have := HS1.out.size; simp at this; omega
    have hfl : w1.heap.size < W.heap.size := by rw [hW]; simp
    obtain ⟨s0, s1, z0, z1, sb⟩ := slot_two HSW.out
    have HRW := Lib.hid (H.out.below sb)
    have HSB := Lib.hid sb
    have c0 := HRW.out.c0
    have c1 := HRW.out.c1
    clear hbW HS1 sb
    rw [hW] at c0 c1
    by_cases hm : most = 0
    · subst hm
      have HC := Lib.hid (putH_full (s := ⟨0, rs.map Rt.tr⟩) HZ.out rfl)
      go_wp2_with fail
      rw [← hW]
      clear hW c0 c1
      refine (bare_any 8 _).mono ?_
      rintro e w2 ⟨rfl, hb2⟩
      have HS2 := Lib.hid (more_below HSW.out rfl hb2)
      obtain ⟨s0', s1', z0', z1', sb'⟩ := slot_two HS2.out
      clear s0 s1 z0 z1 f0 f1 hb2
      go_wp2
      obtain ⟨q0, q1, q2⟩ := slot_set (w := w) (wr := w2) (.int .i64 8) (.int .i64 (-1)) s0' s1' sb'
      exact bodyPost_ret (v := .tuple #[.int .i64 0, .agg #[.int .i64 8, .int .i64 (-1)]]) (by simp [results, Tryz.results10, go_sem, q0, q1]) rfl ⟨by rw [HC.out]; rfl, v, rs, RefHLeft.of_below H.out q2, by rw [HC.out], fun _ h => .inl h⟩
    · have hm' : ((most : Int) == 0) = false := by simp; omega
      cases hsp : spotH (rs.map Rt.tr) (sumT l : Int) with
      | some k =>
        have HC := Lib.hid (putH_there (s := ⟨most, rs.map Rt.tr⟩) HZ.out hm hsp)
        have HA := Lib.hid (atH_some hsp)
        clear hsp hm
        go_wp2_with fail
        rw [← hW]
        clear hW c0 c1
        refine (refHFind_is mb most v rs (sumT l : Int) _ _ HRW.out (by omega) HA.out).mono ?_
        rintro e w' ⟨rfl, hw'⟩
        obtain rfl : W = w' := hw'.symm
        have hne : w1.heap.size ≠ w.heap.size := by omega
        generalize w1.heap.size = fb at f0 f1 hne hfl hws ⊢
        go_wp2_with fail
        go_region
        all_goals go_wp2
        all_goals
          obtain ⟨q0, q1, q2⟩ := slot_set (w := w) (wr := W) (.int .i64 0) (.int .i64 (-1)) s0 s1 HSB.out
          exact bodyPost_ret (v := .tuple #[.int .i64 (sumT l), .agg #[.int .i64 0, .int .i64 (-1)]]) (by simp [results, Tryz.results10, go_sem, q0, q1]) rfl ⟨by rw [HC.out]; rfl, v, rs, RefHLeft.of_below H.out (Below.drew q2), by rw [HC.out], fun _ h => .inl h⟩
      | none =>
        have HA := Lib.hid (atH_none hsp)
        obtain ⟨av, cv, hv⟩ := owns_slice HRW.out.row
        subst hv
        by_cases hg : most ≤ rs.length
        · have HC := Lib.hid (putH_goes (s := ⟨most, rs.map Rt.tr⟩) HZ.out hm hsp (by simpa using hg))
          have hpos : 0 < rs.length := by omega
          have hge : (rs.length : Int) ≥ (most : Int) := by omega
          have h1l : (1 : Int) ≤ (rs.length : Int) := by omega
          obtain ⟨g, cap, hv, hcap, _, _⟩ := HRW.out.site hpos
          cases hv
          have HD := Lib.hid (drop_end HRW.out.row 1 (by omega))
          clear hsp hm hg
          by_cases hcv : cv = 1
          · subst hcv
            go_wp2_with fail
            rw [← hW]
            clear hW c0 c1
            have c0 := HRW.out.c0
            have c1 := HRW.out.c1
            have hwl : w.heap.size + 1 ≤ W.heap.size := by omega
            refine (refHFind_is mb most _ rs (sumT l : Int) _ _ HRW.out (by omega) HA.out).mono ?_
            rintro e w' ⟨rfl, hw'⟩
            obtain rfl : W = w' := hw'.symm
            have hne : w1.heap.size ≠ w.heap.size := by omega
            generalize w1.heap.size = fb at f0 f1 hne hfl hws ⊢
            go_wp2_with (at_builtin; first
              | (refine wpList_append_own_opt rfl _ _ 42 rfl W.heap.size 46 i0 (.agg #[.int .i64 0, .slice none 0 0]) 2 32 Tryz.underlying42 hi hz0 hz1 hz2 rfl (by decide) (.slice none 0 0) 0 [] rfl (World.ownsRow_nil _ _ _ _) _ 0 _ [] rfl (fun e => by cases e) rfl (fun ad e j u hj => by simp at hj) (fun u hu => by simp at hu) (by unfold maxLen; omega) (by omega) (Nat.le_refl _) ?_; intro v2 w2 hown2 hgrow2; have HO2 := Lib.hid hown2; have HB2 := Lib.hid (show Below W.heap.size W w2 from (Below.refl _ _).grown hgrow2 (Nat.le_refl _) (fun k e => by cases e)); have hs2 : W.heap.size ≤ w2.heap.size := HB2.out.size; clear hown2 hgrow2)
              | (refine wpList_append_own _ rfl _ _ 42 rfl W.heap.size 46 i0 (.agg #[.int .i64 0, .slice none 0 0]) 2 32 Tryz.underlying42 hi hz0 hz1 hz2 rfl (by decide) v2 _ _ rfl (HO2.out.alloc _) ⟨w2.heap.size, 0, none⟩ 1 1 (rtcells ⟨sumT l, l, a, ca⟩) rfl rfl (tree_new _ ⟨sumT l, l, a, ca⟩ _) (by simp [rtcells, Value.oneCell']) (by unfold maxLen; omega) (by omega) (by simp; omega) ?_; intro v3 w3 hown3 hgrow3 _; have HO3 := Lib.hid hown3; have HB3b := Lib.hid (show Below W.heap.size W w3 from ((HB2.out.alloc hs2 _).grown hgrow3 (by simp; omega) (fun j e => (HO2.out.lt j e).1))); have HB3 := Lib.hid (HB3b.out.mono hwl); obtain ⟨a3, c3, hv3⟩ := owns_slice hown3; subst hv3; clear hown3 hgrow3; have e1 : w3.cell? ⟨mb, 1, none⟩ = some _ := (HB3.out.cell (p := ⟨mb, 1, none⟩) (by show mb < w.heap.size + 1; omega)).trans c1; have HF3 : Hid (w3.cell? ⟨fb, 0, none⟩ = some (.int .i64 0) ∧ w3.cell? ⟨fb, 1, none⟩ = some (.int .i64 (-1))) := ⟨(HB3b.out.cell (p := ⟨fb, 0, none⟩) hfl).trans f0, (HB3b.out.cell (p := ⟨fb, 1, none⟩) hfl).trans f1⟩; have z3 : w3.frozen? ⟨mb, 1, none⟩ = false := (HB3.out.frozen (p := ⟨mb, 1, none⟩) (by show mb < w.heap.size + 1; omega)).trans (HRW.out.live 1)))
            have hown : w3.ownsRow (w.heap.size + 1) 46 2 (.slice a3 (1) c3) (rs.drop 1 ++ [(⟨sumT l, l, a, ca⟩ : Rt)]).length (rscells (rs.drop 1 ++ [(⟨sumT l, l, a, ca⟩ : Rt)])) := by
              have := HO3.out.mono hwl
              rw [rscells_app, List.length_append]
              rw [List.drop_eq_nil_of_le (by omega)]
              simpa [rscells] using this
            have HLW : Hid (Below w.heap.size w w3) := HSB.out.trans (HB3.out.mono (Nat.le_succ _))
            have HST := Lib.hid (H.out.stored HLW.out (hown.mono (Nat.le_succ _)))
            have hv3 : ∀ q, (Value.slice a3 (1) c3).ownBlock = some q → q ≠ w.heap.size := fun q e => by have := (hown.lt q e).1; omega
            have x0 : (w3.setCell ⟨mb, 1, none⟩ (.slice a3 (1) c3)).cell? ⟨w.heap.size, 0, none⟩ = some (.int .i64 0) := by rw [World.cell?_setCell_other (h := by simp)]; exact (HB3.out.cell (p := ⟨w.heap.size, 0, none⟩) (Nat.lt_succ_self _)).trans s0
            have x1 : (w3.setCell ⟨mb, 1, none⟩ (.slice a3 (1) c3)).cell? ⟨w.heap.size, 1, none⟩ = some (.int .i64 0) := by rw [World.cell?_setCell_other (h := by simp)]; exact (HB3.out.cell (p := ⟨w.heap.size, 1, none⟩) (Nat.lt_succ_self _)).trans s1
            have y0 : (w3.setCell ⟨mb, 1, none⟩ (.slice a3 (1) c3)).frozen? ⟨w.heap.size, 0, none⟩ = false := by rw [World.frozen?_setCell]; exact (HB3.out.frozen (p := ⟨w.heap.size, 0, none⟩) (Nat.lt_succ_self _)).trans z0
            have y1 : (w3.setCell ⟨mb, 1, none⟩ (.slice a3 (1) c3)).frozen? ⟨w.heap.size, 1, none⟩ = false := by rw [World.frozen?_setCell]; exact (HB3.out.frozen (p := ⟨w.heap.size, 1, none⟩) (Nat.lt_succ_self _)).trans z1
            have t0 : (w3.setCell ⟨mb, 1, none⟩ (.slice a3 (1) c3)).cell? ⟨fb, 0, none⟩ = some (.int .i64 0) := by rw [World.cell?_setCell_other (h := by simp)]; exact HF3.out.1
            have t1 : (w3.setCell ⟨mb, 1, none⟩ (.slice a3 (1) c3)).cell? ⟨fb, 1, none⟩ = some (.int .i64 (-1)) := by rw [World.cell?_setCell_other (h := by simp)]; exact HF3.out.2
            clear s0 s1 z0 z1 f0 f1 e1 z3 c0 c1 hown
            generalize w3.setCell ⟨mb, 1, none⟩ (.slice a3 (1) c3) = W4 at x0 x1 y0 y1 t0 t1 HST ⊢
            go_region
            all_goals go_wp2
            all_goals
              obtain ⟨q0, q1, _⟩ := slot_set (w := W4) (wr := W4) (b := w.heap.size) (.int .i64 0) (.int .i64 (-1)) x0 x1 (Below.refl _ _)
              exact bodyPost_ret (v := .tuple #[.int .i64 (sumT l), .agg #[.int .i64 0, .int .i64 (-1)]]) (by simp [results, Tryz.results10, go_sem, q0, q1]) rfl ⟨by rw [HC.out]; rfl, _, _, ((HST.out.slot hmlt hv3 0 _).slot hmlt hv3 1 _).drew, by rw [HC.out, List.map_append]; rw [List.map_drop]; rfl, fun r hr => (List.mem_append.1 hr).elim (fun h => .inl (List.mem_of_mem_drop h)) (fun h => .inr (by simpa using h))⟩
          · go_wp2_with fail
            rw [← hW]
            clear hW c0 c1
            have c0 := HRW.out.c0
            have c1 := HRW.out.c1
            have hwl : w.heap.size + 1 ≤ W.heap.size := by omega
            refine (refHFind_is mb most _ rs (sumT l : Int) _ _ HRW.out (by omega) HA.out).mono ?_
            rintro e w' ⟨rfl, hw'⟩
            obtain rfl : W = w' := hw'.symm
            have hne : w1.heap.size ≠ w.heap.size := by omega
            generalize w1.heap.size = fb at f0 f1 hne hfl hws ⊢
            go_wp2_with (at_builtin; first
              | (refine wpList_append_own_opt rfl _ _ 42 rfl W.heap.size 46 i0 (.agg #[.int .i64 0, .slice none 0 0]) 2 32 Tryz.underlying42 hi hz0 hz1 hz2 rfl (by decide) (.slice none 0 0) 0 [] rfl (World.ownsRow_nil _ _ _ _) _ (rs.length - 1) _ (rscells (rs.drop 1)) rfl (fun e => by cases e) (by rw [rscells_length, List.length_drop]) (fun ad e j u hj => by cases e; exact HD.out j u hj) (rscells_one _) (by unfold maxLen; omega) (by omega) (Nat.le_refl _) ?_; intro v2 w2 hown2 hgrow2; have HO2 := Lib.hid hown2; have HB2 := Lib.hid (show Below W.heap.size W w2 from (Below.refl _ _).grown hgrow2 (Nat.le_refl _) (fun k e => by cases e)); have hs2 : W.heap.size ≤ w2.heap.size := HB2.out.size; clear hown2 hgrow2)
              | (refine wpList_append_own _ rfl _ _ 42 rfl W.heap.size 46 i0 (.agg #[.int .i64 0, .slice none 0 0]) 2 32 Tryz.underlying42 hi hz0 hz1 hz2 rfl (by decide) v2 _ _ rfl (HO2.out.alloc _) ⟨w2.heap.size, 0, none⟩ 1 1 (rtcells ⟨sumT l, l, a, ca⟩) rfl rfl (tree_new _ ⟨sumT l, l, a, ca⟩ _) (by simp [rtcells, Value.oneCell']) (by unfold maxLen; omega) (by omega) (by simp; omega) ?_; intro v3 w3 hown3 hgrow3 _; have HO3 := Lib.hid hown3; have HB3b := Lib.hid (show Below W.heap.size W w3 from ((HB2.out.alloc hs2 _).grown hgrow3 (by simp; omega) (fun j e => (HO2.out.lt j e).1))); have HB3 := Lib.hid (HB3b.out.mono hwl); obtain ⟨a3, c3, hv3⟩ := owns_slice hown3; subst hv3; clear hown3 hgrow3; have e1 : w3.cell? ⟨mb, 1, none⟩ = some _ := (HB3.out.cell (p := ⟨mb, 1, none⟩) (by show mb < w.heap.size + 1; omega)).trans c1; have HF3 : Hid (w3.cell? ⟨fb, 0, none⟩ = some (.int .i64 0) ∧ w3.cell? ⟨fb, 1, none⟩ = some (.int .i64 (-1))) := ⟨(HB3b.out.cell (p := ⟨fb, 0, none⟩) hfl).trans f0, (HB3b.out.cell (p := ⟨fb, 1, none⟩) hfl).trans f1⟩; have z3 : w3.frozen? ⟨mb, 1, none⟩ = false := (HB3.out.frozen (p := ⟨mb, 1, none⟩) (by show mb < w.heap.size + 1; omega)).trans (HRW.out.live 1)))
            have hown : w3.ownsRow (w.heap.size + 1) 46 2 (.slice a3 (rs.length - 1 + 1) c3) (rs.drop 1 ++ [(⟨sumT l, l, a, ca⟩ : Rt)]).length (rscells (rs.drop 1 ++ [(⟨sumT l, l, a, ca⟩ : Rt)])) := by
              have := HO3.out.mono hwl
              rw [rscells_app, List.length_append]
              rw [List.length_drop]
              simpa [rscells] using this
            have HLW : Hid (Below w.heap.size w w3) := HSB.out.trans (HB3.out.mono (Nat.le_succ _))
            have HST := Lib.hid (H.out.stored HLW.out (hown.mono (Nat.le_succ _)))
            have hv3 : ∀ q, (Value.slice a3 (rs.length - 1 + 1) c3).ownBlock = some q → q ≠ w.heap.size := fun q e => by have := (hown.lt q e).1; omega
            have x0 : (w3.setCell ⟨mb, 1, none⟩ (.slice a3 (rs.length - 1 + 1) c3)).cell? ⟨w.heap.size, 0, none⟩ = some (.int .i64 0) := by rw [World.cell?_setCell_other (h := by simp)]; exact (HB3.out.cell (p := ⟨w.heap.size, 0, none⟩) (Nat.lt_succ_self _)).trans s0
            have x1 : (w3.setCell ⟨mb, 1, none⟩ (.slice a3 (rs.length - 1 + 1) c3)).cell? ⟨w.heap.size, 1, none⟩ = some (.int .i64 0) := by rw [World.cell?_setCell_other (h := by simp)]; exact (HB3.out.cell (p := ⟨w.heap.size, 1, none⟩) (Nat.lt_succ_self _)).trans s1
            have y0 : (w3.setCell ⟨mb, 1, none⟩ (.slice a3 (rs.length - 1 + 1) c3)).frozen? ⟨w.heap.size, 0, none⟩ = false := by rw [World.frozen?_setCell]; exact (HB3.out.frozen (p := ⟨w.heap.size, 0, none⟩) (Nat.lt_succ_self _)).trans z0
            have y1 : (w3.setCell ⟨mb, 1, none⟩ (.slice a3 (rs.length - 1 + 1) c3)).frozen? ⟨w.heap.size, 1, none⟩ = false := by rw [World.frozen?_setCell]; exact (HB3.out.frozen (p := ⟨w.heap.size, 1, none⟩) (Nat.lt_succ_self _)).trans z1
            have t0 : (w3.setCell ⟨mb, 1, none⟩ (.slice a3 (rs.length - 1 + 1) c3)).cell? ⟨fb, 0, none⟩ = some (.int .i64 0) := by rw [World.cell?_setCell_other (h := by simp)]; exact HF3.out.1
            have t1 : (w3.setCell ⟨mb, 1, none⟩ (.slice a3 (rs.length - 1 + 1) c3)).cell? ⟨fb, 1, none⟩ = some (.int .i64 (-1)) := by rw [World.cell?_setCell_other (h := by simp)]; exact HF3.out.2
            clear s0 s1 z0 z1 f0 f1 e1 z3 c0 c1 hown
            generalize w3.setCell ⟨mb, 1, none⟩ (.slice a3 (rs.length - 1 + 1) c3) = W4 at x0 x1 y0 y1 t0 t1 HST ⊢
            go_region
            all_goals go_wp2
            all_goals
              obtain ⟨q0, q1, _⟩ := slot_set (w := W4) (wr := W4) (b := w.heap.size) (.int .i64 0) (.int .i64 (-1)) x0 x1 (Below.refl _ _)
              exact bodyPost_ret (v := .tuple #[.int .i64 (sumT l), .agg #[.int .i64 0, .int .i64 (-1)]]) (by simp [results, Tryz.results10, go_sem, q0, q1]) rfl ⟨by rw [HC.out]; rfl, _, _, ((HST.out.slot hmlt hv3 0 _).slot hmlt hv3 1 _).drew, by rw [HC.out, List.map_append]; rw [List.map_drop]; rfl, fun r hr => (List.mem_append.1 hr).elim (fun h => .inl (List.mem_of_mem_drop h)) (fun h => .inr (by simpa using h))⟩
        · have HC := Lib.hid (putH_comes (s := ⟨most, rs.map Rt.tr⟩) HZ.out hm hsp (by simpa using hg))
          have hlt : ¬ (rs.length : Int) ≥ (most : Int) := by omega
          have HN : Hid (av = none → rs.length = 0 ∧ cv = 0) := fun e => by
            subst e
            rcases HRW.out.row.2 with ⟨e1, e2⟩ | ⟨g, cap, cur, e1, _⟩
            · simp only [Value.slice.injEq] at e1
              exact ⟨e2, e1.2.2⟩
            · simp at e1
          have HD : Hid (∀ ad, av = some ad → ∀ j u, (rscells rs)[j]? = some u → W.cell? (ad.add j) = some u) := fun ad e j u hj => by
            subst e
            rcases HRW.out.row.2 with ⟨e1, e2⟩ | ⟨g, cap, cur, e1, _⟩
            · simp at e1
            · simp only [Value.slice.injEq, Option.some.injEq] at e1
              obtain ⟨rfl, _, rfl⟩ := e1
              rw [Addr.add_lit, Nat.zero_add, HRW.out.row.cellAt j (by have := (List.getElem?_eq_some_iff.1 hj).1; rw [rscells_length] at this; exact this)]
              exact hj
          clear hsp hm hg
          go_wp2_with fail
          rw [← hW]
          clear hW c0 c1
          have c0 := HRW.out.c0
          have c1 := HRW.out.c1
          have hwl : w.heap.size + 1 ≤ W.heap.size := by omega
          refine (refHFind_is mb most _ rs (sumT l : Int) _ _ HRW.out (by omega) HA.out).mono ?_
          rintro e w' ⟨rfl, hw'⟩
          obtain rfl : W = w' := hw'.symm
          have hne : w1.heap.size ≠ w.heap.size := by omega
          generalize w1.heap.size = fb at f0 f1 hne hfl hws ⊢
          go_wp2_with (at_builtin; first
            | (refine wpList_append_own_opt rfl _ _ 42 rfl W.heap.size 46 i0 (.agg #[.int .i64 0, .slice none 0 0]) 2 32 Tryz.underlying42 hi hz0 hz1 hz2 rfl (by decide) (.slice none 0 0) 0 [] rfl (World.ownsRow_nil _ _ _ _) _ (rs.length) _ (rscells (rs)) rfl (fun e => HN.out e) (rscells_length _) (fun ad e j u hj => HD.out ad e j u hj) (rscells_one _) (by unfold maxLen; omega) (by omega) (Nat.le_refl _) ?_; intro v2 w2 hown2 hgrow2; have HO2 := Lib.hid hown2; have HB2 := Lib.hid (show Below W.heap.size W w2 from (Below.refl _ _).grown hgrow2 (Nat.le_refl _) (fun k e => by cases e)); have hs2 : W.heap.size ≤ w2.heap.size := HB2.out.size; clear hown2 hgrow2)
            | (refine wpList_append_own _ rfl _ _ 42 rfl W.heap.size 46 i0 (.agg #[.int .i64 0, .slice none 0 0]) 2 32 Tryz.underlying42 hi hz0 hz1 hz2 rfl (by decide) v2 _ _ rfl (HO2.out.alloc _) ⟨w2.heap.size, 0, none⟩ 1 1 (rtcells ⟨sumT l, l, a, ca⟩) rfl rfl (tree_new _ ⟨sumT l, l, a, ca⟩ _) (by simp [rtcells, Value.oneCell']) (by unfold maxLen; omega) (by omega) (by simp; omega) ?_; intro v3 w3 hown3 hgrow3 _; have HO3 := Lib.hid hown3; have HB3b := Lib.hid (show Below W.heap.size W w3 from ((HB2.out.alloc hs2 _).grown hgrow3 (by simp; omega) (fun j e => (HO2.out.lt j e).1))); have HB3 := Lib.hid (HB3b.out.mono hwl); obtain ⟨a3, c3, hv3⟩ := owns_slice hown3; subst hv3; clear hown3 hgrow3; have e1 : w3.cell? ⟨mb, 1, none⟩ = some _ := (HB3.out.cell (p := ⟨mb, 1, none⟩) (by show mb < w.heap.size + 1; omega)).trans c1; have HF3 : Hid (w3.cell? ⟨fb, 0, none⟩ = some (.int .i64 0) ∧ w3.cell? ⟨fb, 1, none⟩ = some (.int .i64 (-1))) := ⟨(HB3b.out.cell (p := ⟨fb, 0, none⟩) hfl).trans f0, (HB3b.out.cell (p := ⟨fb, 1, none⟩) hfl).trans f1⟩; have z3 : w3.frozen? ⟨mb, 1, none⟩ = false := (HB3.out.frozen (p := ⟨mb, 1, none⟩) (by show mb < w.heap.size + 1; omega)).trans (HRW.out.live 1)))
          have hown : w3.ownsRow (w.heap.size + 1) 46 2 (.slice a3 (rs.length + 1) c3) (rs ++ [(⟨sumT l, l, a, ca⟩ : Rt)]).length (rscells (rs ++ [(⟨sumT l, l, a, ca⟩ : Rt)])) := by
            have := HO3.out.mono hwl
            rw [rscells_app, List.length_append]
            simpa [rscells] using this
          have HLW : Hid (Below w.heap.size w w3) := HSB.out.trans (HB3.out.mono (Nat.le_succ _))
          have HST := Lib.hid (H.out.stored HLW.out (hown.mono (Nat.le_succ _)))
          have hv3 : ∀ q, (Value.slice a3 (rs.length + 1) c3).ownBlock = some q → q ≠ w.heap.size := fun q e => by have := (hown.lt q e).1; omega
          have x0 : (w3.setCell ⟨mb, 1, none⟩ (.slice a3 (rs.length + 1) c3)).cell? ⟨w.heap.size, 0, none⟩ = some (.int .i64 0) := by rw [World.cell?_setCell_other (h := by simp)]; exact (HB3.out.cell (p := ⟨w.heap.size, 0, none⟩) (Nat.lt_succ_self _)).trans s0
          have x1 : (w3.setCell ⟨mb, 1, none⟩ (.slice a3 (rs.length + 1) c3)).cell? ⟨w.heap.size, 1, none⟩ = some (.int .i64 0) := by rw [World.cell?_setCell_other (h := by simp)]; exact (HB3.out.cell (p := ⟨w.heap.size, 1, none⟩) (Nat.lt_succ_self _)).trans s1
          have y0 : (w3.setCell ⟨mb, 1, none⟩ (.slice a3 (rs.length + 1) c3)).frozen? ⟨w.heap.size, 0, none⟩ = false := by rw [World.frozen?_setCell]; exact (HB3.out.frozen (p := ⟨w.heap.size, 0, none⟩) (Nat.lt_succ_self _)).trans z0
          have y1 : (w3.setCell ⟨mb, 1, none⟩ (.slice a3 (rs.length + 1) c3)).frozen? ⟨w.heap.size, 1, none⟩ = false := by rw [World.frozen?_setCell]; exact (HB3.out.frozen (p := ⟨w.heap.size, 1, none⟩) (Nat.lt_succ_self _)).trans z1
          have t0 : (w3.setCell ⟨mb, 1, none⟩ (.slice a3 (rs.length + 1) c3)).cell? ⟨fb, 0, none⟩ = some (.int .i64 0) := by rw [World.cell?_setCell_other (h := by simp)]; exact HF3.out.1
          have t1 : (w3.setCell ⟨mb, 1, none⟩ (.slice a3 (rs.length + 1) c3)).cell? ⟨fb, 1, none⟩ = some (.int .i64 (-1)) := by rw [World.cell?_setCell_other (h := by simp)]; exact HF3.out.2
          clear s0 s1 z0 z1 f0 f1 e1 z3 c0 c1 hown
          generalize w3.setCell ⟨mb, 1, none⟩ (.slice a3 (rs.length + 1) c3) = W4 at x0 x1 y0 y1 t0 t1 HST ⊢
          go_region
          all_goals go_wp2
          all_goals
            obtain ⟨q0, q1, _⟩ := slot_set (w := W4) (wr := W4) (b := w.heap.size) (.int .i64 0) (.int .i64 (-1)) x0 x1 (Below.refl _ _)
            exact bodyPost_ret (v := .tuple #[.int .i64 (sumT l), .agg #[.int .i64 0, .int .i64 (-1)]]) (by simp [results, Tryz.results10, go_sem, q0, q1]) rfl ⟨by rw [HC.out]; rfl, _, _, ((HST.out.slot hmlt hv3 0 _).slot hmlt hv3 1 _).drew, by rw [HC.out, List.map_append]; rfl, fun r hr => (List.mem_append.1 hr).elim (fun h => .inl (h)) (fun h => .inr (by simpa using h))⟩
  · have HC := Lib.hid (putH_bad (s := ⟨most, rs.map Rt.tr⟩) hz)
    obtain ⟨c, i, hci⟩ := fault_nat l
    have hc : 0 < c := by rw [hci] at hz; simp at hz; omega
    have hc' : (0 : Int) < (c : Int) := by omega
    rw [hci]
    have HCI := Lib.hid hci
    clear hz hci
    go_wp2_with fail
    obtain ⟨W, hW⟩ : ∃ W, W = w1.alloc (.cells #[.int .i64 c, .int .i64 i] 38) := ⟨_, rfl⟩
    have hbW : Below w1.heap.size w1 W := by rw [hW]; exact (Below.refl _ _).alloc (Nat.le_refl _) _
    have HSW := Lib.hid (more_below HS1.out rfl hbW)
    obtain ⟨f0, f1, _, _, _⟩ := slot_two (w := w1) (wr := W) (u := .int .i64 c) (v := .int .i64 i) (T := 38) (by rw [hW]; exact Below.refl _ _)
    have hne : w1.heap.size ≠ w.heap.size := by have := HS1.out.size; simp at this; omega
    rw [← hW]
    clear hW hbW HS1
    generalize w1.heap.size = fb at f0 f1 hne ⊢
    obtain ⟨s0, s1, z0, z1, sb⟩ := slot_two HSW.out
    go_region
    all_goals go_wp2
    all_goals
      obtain ⟨q0, q1, q2⟩ := slot_set (w := w) (wr := W) (.int .i64 c) (.int .i64 i) s0 s1 sb
      exact bodyPost_ret (v := .tuple #[.int .i64 0, .agg #[.int .i64 c, .int .i64 i]]) (by simp [results, Tryz.results10, go_sem, q0, q1]) rfl ⟨by rw [HC.out, HCI.out]; rfl, v, rs, RefHLeft.of_below H.out (Below.drew q2), by rw [HC.out], fun _ h => .inl h⟩
end Go.Proofs.YtcnejkbbheihiaaGreatDoor
