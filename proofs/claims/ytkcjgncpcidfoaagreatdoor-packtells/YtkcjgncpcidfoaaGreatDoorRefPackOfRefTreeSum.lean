/-
  Own texts of the proof, joined by program: RefPackOf, RefTreeSum.
-/
import Derived.Test.YtkcjgncpcidfoaaGreatDoorRefPackText
import Derived.Test.YtkcjgncpcidfoaaGreatDoorRefTree
import Derived.Test.YtkcjgncpcidfoaaGreatDoorRefDigitsRefSumPkSum
import Derived.Test.YtkcjgncpcidfoaaGreatDoorPkMakePkPackMakePkPackSum
/-
  The document's answer for packs: PackOf, TreeSum: over this seat's translation.
-/
namespace Go.Proofs.YtkcjgncpcidfoaaGreatDoor
open Go.RowKit Go.Shelf

theorem fault_nat (l : List F) : ∃ c i, treeFault l = (c, i) := ⟨_, _, rfl⟩

set_option maxRecDepth 100000 in
set_option maxHeartbeats 4000000 in
theorem packOf_any (l : List F) (a : Option Addr) (ca : Nat) (w : World) (hl : LiesAt w a l) (hs : Small l) :
    Calls Tryz.prog 8 #[.slice a l.length ca] w fun e w' => e = .returned (.tuple #[.string ⟨(makeL l).toArray⟩, .agg #[.int .i64 (treeFault l).1, .int .i64 (treeFault l).2]]) ∧ Below w.heap.size w w' := by
  have HL := Lib.hid hl
  have HSM := Lib.hid hs
  obtain ⟨W0, hW0⟩ : ∃ W0, W0 = w.alloc (.cells #[.int .i64 0, .int .i64 0] 31) := ⟨_, rfl⟩
  have hb0 : Below w.heap.size w W0 := by rw [hW0]; exact (Below.refl _ _).alloc (Nat.le_refl _) _
  have HT := Lib.hid (refTreeFault_any l a ca W0 (hl.below hb0) hs)
  have HS0 : Hid (Below (w.heap.size + 1) (w.alloc (.cells #[.int .i64 0, .int .i64 0] 31)) W0) := by
    show Below _ _ _
    rw [hW0]
    exact Below.refl _ _
  clear hl hs hb0
  go_enter Tryz.func8, Tryz.ntmps8
  go_wp2_with fail
  rw [← hW0]
  clear hW0
  refine HT.out.mono ?_
  rintro e w1 ⟨rfl, hb1⟩
  have HS1 := Lib.hid (more_below HS0.out rfl hb1)
  clear hb1 HS0 HT
  by_cases hz : (treeFault l).1 = 0
  · have hps := pack_small hz
    have HMK := Lib.hid (make_yes hz)
    have HZ := Lib.hid (treeFault_zero hz)
    rw [HZ.out]
    clear hz
    go_wp2_with fail
    obtain ⟨W, hW⟩ : ∃ W, W = w1.alloc (.cells #[.int .i64 0, .int .i64 (-1)] 31) := ⟨_, rfl⟩
    have hbW : Below w1.heap.size w1 W := by rw [hW]; exact (Below.refl _ _).alloc (Nat.le_refl _) _
    have HSW := Lib.hid (more_below HS1.out rfl hbW)
    obtain ⟨f0, f1, _, _, _⟩ := slot_two (w := w1) (wr := W) (u := .int .i64 0) (v := .int .i64 (-1)) (T := 31) (by rw [hW]; exact Below.refl _ _)
    have hne : w1.heap.size ≠ w.heap.size := by have := HS1.out.size; simp at this; omega
    have hbl : w1.heap.size < W.heap.size := by rw [hW]; simp
    rw [← hW]
    clear hW hbW HS1
    generalize w1.heap.size = fb at f0 f1 hne hbl ⊢
    have HPT := packText_any l a ca W.drew (HL.out.below (slot_two HSW.out).2.2.2.2.drew) HSM.out hps
    obtain ⟨s0, s1, z0, z1, sb⟩ := slot_two HSW.out
    go_region_with (first
      | (go_at_call 20; (with_reducible refine HPT.mono ?_); rintro e w2 ⟨rfl, hb2⟩; have HS2 := Lib.hid (more_below HSW.out.drew rfl hb2); have d0 := (hb2.cell (p := ⟨fb, 0, none⟩) hbl).trans f0; have d1 := (hb2.cell (p := ⟨fb, 1, none⟩) hbl).trans f1; obtain ⟨t0, t1, y0, y1, tb⟩ := slot_two HS2.out; clear hb2))
    all_goals go_wp2
    all_goals
      obtain ⟨q0, q1, q2⟩ := slot_set (w := w) (wr := w2) (.int .i64 0) (.int .i64 (-1)) t0 t1 tb
      exact bodyPost_ret (v := .tuple #[.string ⟨(packL l).toArray⟩, .agg #[.int .i64 0, .int .i64 (-1)]]) (by simp [results, Tryz.results8, go_sem, q0, q1]) rfl ⟨by rw [HMK.out, HZ.out]; rfl, q2⟩
  · have HMK := Lib.hid (make_no hz)
    obtain ⟨c, i, hci⟩ := fault_nat l
    have hc : 0 < c := by rw [hci] at hz; simp at hz; omega
    have hc' : (0 : Int) < (c : Int) := by omega
    rw [hci]
    have HCI := Lib.hid hci
    clear hz hci
    go_wp2_with fail
    obtain ⟨W, hW⟩ : ∃ W, W = w1.alloc (.cells #[.int .i64 c, .int .i64 i] 31) := ⟨_, rfl⟩
    have hbW : Below w1.heap.size w1 W := by rw [hW]; exact (Below.refl _ _).alloc (Nat.le_refl _) _
    have HSW := Lib.hid (more_below HS1.out rfl hbW)
    obtain ⟨f0, f1, _, _, _⟩ := slot_two (w := w1) (wr := W) (u := .int .i64 c) (v := .int .i64 i) (T := 31) (by rw [hW]; exact Below.refl _ _)
    have hne : w1.heap.size ≠ w.heap.size := by have := HS1.out.size; simp at this; omega
    rw [← hW]
    clear hW hbW HS1
    generalize w1.heap.size = fb at f0 f1 hne ⊢
    obtain ⟨s0, s1, z0, z1, sb⟩ := slot_two HSW.out
    go_region
    all_goals go_wp2
    all_goals
      obtain ⟨q0, q1, q2⟩ := slot_set (w := w) (wr := W) (.int .i64 c) (.int .i64 i) s0 s1 sb
      exact bodyPost_ret (v := .tuple #[.string ⟨#[]⟩, .agg #[.int .i64 c, .int .i64 i]]) (by simp [results, Tryz.results8, go_sem, q0, q1]) rfl ⟨by rw [HMK.out, HCI.out], Below.drew q2⟩
end Go.Proofs.YtkcjgncpcidfoaaGreatDoor
/-
  The document's answer for packs: TreeSum: over this seat's translation.
-/
namespace Go.Proofs.YtkcjgncpcidfoaaGreatDoor
open Go.RowKit Go.Shelf

set_option maxRecDepth 100000 in
set_option maxHeartbeats 4000000 in
theorem treeSum_any (l : List F) (a : Option Addr) (ca : Nat) (w : World) (hl : LiesAt w a l) (hs : Small l) :
    Calls Tryz.prog 11 #[.slice a l.length ca] w fun e w' => e = .returned (.tuple #[.int .i64 (sumT l), .agg #[.int .i64 (treeFault l).1, .int .i64 (treeFault l).2]]) ∧ Below w.heap.size w w' := by
  obtain ⟨W0, hW0⟩ : ∃ W0, W0 = w.alloc (.cells #[.int .i64 0, .int .i64 0] 31) := ⟨_, rfl⟩
  have hb0 : Below w.heap.size w W0 := by rw [hW0]; exact (Below.refl _ _).alloc (Nat.le_refl _) _
  have HT := Lib.hid (packOf_any l a ca W0 (hl.below hb0) hs)
  have HS0 : Hid (Below (w.heap.size + 1) (w.alloc (.cells #[.int .i64 0, .int .i64 0] 31)) W0) := by
    show Below _ _ _
    rw [hW0]
    exact Below.refl _ _
  clear hl hs hb0
  go_enter Tryz.func11, Tryz.ntmps11
  go_wp2_with fail
  rw [← hW0]
  clear hW0
  refine HT.out.mono ?_
  rintro e w1 ⟨rfl, hb1⟩
  have HS1 := Lib.hid (more_below HS0.out rfl hb1)
  clear hb1 HS0 HT
  by_cases hz : (treeFault l).1 = 0
  · have hps := pack_small hz
    have HMK := Lib.hid (sum_yes hz)
    have HZ := Lib.hid (treeFault_zero hz)
    rw [HZ.out, make_yes hz]
    clear hz
    go_wp2_with fail
    obtain ⟨W, hW⟩ : ∃ W, W = w1.alloc (.cells #[.int .i64 0, .int .i64 (-1)] 31) := ⟨_, rfl⟩
    have hbW : Below w1.heap.size w1 W := by rw [hW]; exact (Below.refl _ _).alloc (Nat.le_refl _) _
    have HSW := Lib.hid (more_below HS1.out rfl hbW)
    obtain ⟨f0, f1, _, _, _⟩ := slot_two (w := w1) (wr := W) (u := .int .i64 0) (v := .int .i64 (-1)) (T := 31) (by rw [hW]; exact Below.refl _ _)
    have hne : w1.heap.size ≠ w.heap.size := by have := HS1.out.size; simp at this; omega
    have hbl : w1.heap.size < W.heap.size := by rw [hW]; simp
    rw [← hW]
    clear hW hbW HS1
    generalize w1.heap.size = fb at f0 f1 hne hbl ⊢
    have HPT := refSumOf_any (packL l) W.drew (by omega)
    generalize packL l = pk at HPT HMK hps
    generalize sumL pk = sm at HPT HMK
    obtain ⟨s0, s1, z0, z1, sb⟩ := slot_two HSW.out
    go_region_with (first
      | (go_at_call 23; (with_reducible refine HPT.mono ?_); rintro e w2 ⟨rfl, rfl⟩))
    all_goals go_wp2
    all_goals
      obtain ⟨q0, q1, q2⟩ := slot_set (w := w) (wr := W) (.int .i64 0) (.int .i64 (-1)) s0 s1 sb
      exact bodyPost_ret (v := .tuple #[.int .i64 sm, .agg #[.int .i64 0, .int .i64 (-1)]]) (by simp [results, Tryz.results11, go_sem, q0, q1]) rfl ⟨by rw [HMK.out, HZ.out]; rfl, Below.drew q2⟩
  · have HMK := Lib.hid (sum_no hz)
    rw [make_no hz]
    obtain ⟨c, i, hci⟩ := fault_nat l
    have hc : 0 < c := by rw [hci] at hz; simp at hz; omega
    have hc' : (0 : Int) < (c : Int) := by omega
    rw [hci]
    have HCI := Lib.hid hci
    clear hz hci
    go_wp2_with fail
    obtain ⟨W, hW⟩ : ∃ W, W = w1.alloc (.cells #[.int .i64 c, .int .i64 i] 31) := ⟨_, rfl⟩
    have hbW : Below w1.heap.size w1 W := by rw [hW]; exact (Below.refl _ _).alloc (Nat.le_refl _) _
    have HSW := Lib.hid (more_below HS1.out rfl hbW)
    obtain ⟨f0, f1, _, _, _⟩ := slot_two (w := w1) (wr := W) (u := .int .i64 c) (v := .int .i64 i) (T := 31) (by rw [hW]; exact Below.refl _ _)
    have hne : w1.heap.size ≠ w.heap.size := by have := HS1.out.size; simp at this; omega
    rw [← hW]
    clear hW hbW HS1
    generalize w1.heap.size = fb at f0 f1 hne ⊢
    obtain ⟨s0, s1, z0, z1, sb⟩ := slot_two HSW.out
    go_region
    all_goals go_wp2
    all_goals
      obtain ⟨q0, q1, q2⟩ := slot_set (w := w) (wr := W) (.int .i64 c) (.int .i64 i) s0 s1 sb
      exact bodyPost_ret (v := .tuple #[.int .i64 0, .agg #[.int .i64 c, .int .i64 i]]) (by simp [results, Tryz.results11, go_sem, q0, q1]) rfl ⟨by rw [HMK.out, HCI.out]; rfl, Below.drew q2⟩
end Go.Proofs.YtkcjgncpcidfoaaGreatDoor
