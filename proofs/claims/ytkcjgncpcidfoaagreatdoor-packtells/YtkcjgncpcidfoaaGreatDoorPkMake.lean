/-
  Package pack: head: a contract, over this seat's translation.
-/
import Derived.Test.YtkcjgncpcidfoaaGreatDoorPkPackRead
import Derived.Test.YtkcjgncpcidfoaaGreatDoorWritten
import Derived.Deep.RegionHeld3
namespace Go.Proofs.YtkcjgncpcidfoaaGreatDoor
open Go.RowKit Go.Shelf

theorem line_of (f : F) : lineL f = f.p ++ [32] ++ (if f.r = true then [120] else [102]) ++ [32] ++ digitsL f.t.length := by
  unfold lineL
  cases f.r <;> simp

/-- Four texts behind a first one, one after another. -/
theorem adds (a m d : List UInt8) (ha : a.length ≤ 100000) (hm : m.length ≤ 1) (hd : d.length ≤ 6) : ∃ x1 x2 x3 x4 : List UInt8,
    (∀ W, (Op.stringOp .add ⟨a.toArray⟩ ⟨#[32]⟩).run Tryz.prog W = .ok (.string ⟨x1.toArray⟩) W) ∧ (∀ W, (Op.stringOp .add ⟨x1.toArray⟩ ⟨m.toArray⟩).run Tryz.prog W = .ok (.string ⟨x2.toArray⟩) W) ∧
    (∀ W, (Op.stringOp .add ⟨x2.toArray⟩ ⟨#[32]⟩).run Tryz.prog W = .ok (.string ⟨x3.toArray⟩) W) ∧ (∀ W, (Op.stringOp .add ⟨x3.toArray⟩ ⟨d.toArray⟩).run Tryz.prog W = .ok (.string ⟨x4.toArray⟩) W) ∧ x4 = a ++ [32] ++ m ++ [32] ++ d :=
  ⟨a ++ [32], a ++ [32] ++ m, a ++ [32] ++ m ++ [32], a ++ [32] ++ m ++ [32] ++ d, fun W => run_string_add_lists (P := Tryz.prog) W a [32] (by omega) (by simp), fun W => run_string_add_lists (P := Tryz.prog) W _ m (by simp; omega) (by omega),
    fun W => run_string_add_lists (P := Tryz.prog) W _ [32] (by simp; omega) (by simp), fun W => run_string_add_lists (P := Tryz.prog) W _ d (by simp; omega) (by omega), rfl⟩

set_option maxRecDepth 100000 in
set_option maxHeartbeats 2000000 in
theorem packHead_any (p : Nat → Addr) (f : F) (w : World) (hS : SEnv p w) (hp : f.p.length ≤ 100000) (ht : f.t.length ≤ 500000) :
    Calls Tryz.prog 17 #[fv f] w fun e w' => e = .returned (.string ⟨(lineL f).toArray⟩) ∧ Below w.heap.size w w' := by
  obtain ⟨W, hW⟩ : ∃ W, W = w.alloc (.cells #[sv f.p, .bool f.r, sv f.t] 46) := ⟨_, rfl⟩
  obtain ⟨g0, g1, g2, hBW⟩ := box_three (w := w) (w' := W) (x := sv f.p) (y := .bool f.r) (z := sv f.t) (T := 46) (by rw [hW]; exact Below.refl _ _)
  have HW := Lib.hid hBW
  have HI : Calls Tryz.prog 30 #[.int .i64 f.t.length] W.drew fun e w' => e = .returned (.string ⟨(digitsL f.t.length).toArray⟩) ∧ Below W.drew.heap.size W.drew w' := itoa_any f.t.length W.drew (by omega) (hS.below hBW.drew).tab
  have HL := Lib.hid (line_of f)
  have hdl : (digitsL f.t.length).length ≤ 6 := digits_length 5 _ (by omega)
  have hbl : w.heap.size < W.heap.size := by rw [hW]; simp
  obtain ⟨fp, fr, ft⟩ := f
  simp only at hp ht HI HL hdl g0 g1 g2 hW
  generalize digitsL ft.length = ds at HI HL hdl
  clear hS hBW
  cases fr with
  | true =>
    obtain ⟨x1, x2, x3, x4, A1, A2, A3, A4, hx⟩ := adds fp [120] ds hp (by simp) hdl
    have HX : Hid (lineL ⟨fp, true, ft⟩ = x4) := by
      show lineL ⟨fp, true, ft⟩ = x4
      rw [HL.out, hx]
      rfl
    clear hx HL
    go_enter Tryz.func17, Tryz.ntmps17
    go_wp2_with fail
    rw [← hW]
    clear hW
    go_region_held3 (fun w' => w'.cell? ⟨w.heap.size, 0, none⟩ = some (sv fp) ∧ w'.cell? ⟨w.heap.size, 2, none⟩ = some (sv ft)) (go_keep) (first
      | (go_at_call 30; (with_reducible refine HI.mono ?_); rintro e w1 ⟨rfl, hb1⟩; have d0 := (hb1.cell (p := ⟨w.heap.size, 0, none⟩) hbl).trans g0; have d2 := (hb1.cell (p := ⟨w.heap.size, 2, none⟩) hbl).trans g2; have HB1 := Lib.hid (HW.out.drew.trans (hb1.mono HW.out.size)); clear hb1))
    all_goals go_wp2
    all_goals go_ret
    all_goals exact ⟨by rw [HX.out]; rfl, HB1.out⟩
  | false =>
    obtain ⟨x1, x2, x3, x4, A1, A2, A3, A4, hx⟩ := adds fp [102] ds hp (by simp) hdl
    have HX : Hid (lineL ⟨fp, false, ft⟩ = x4) := by
      show lineL ⟨fp, false, ft⟩ = x4
      rw [HL.out, hx]
      rfl
    clear hx HL
    go_enter Tryz.func17, Tryz.ntmps17
    go_wp2_with fail
    rw [← hW]
    clear hW
    go_region_held3 (fun w' => w'.cell? ⟨w.heap.size, 0, none⟩ = some (sv fp) ∧ w'.cell? ⟨w.heap.size, 2, none⟩ = some (sv ft)) (go_keep) (first
      | (go_at_call 30; (with_reducible refine HI.mono ?_); rintro e w1 ⟨rfl, hb1⟩; have d0 := (hb1.cell (p := ⟨w.heap.size, 0, none⟩) hbl).trans g0; have d2 := (hb1.cell (p := ⟨w.heap.size, 2, none⟩) hbl).trans g2; have HB1 := Lib.hid (HW.out.drew.trans (hb1.mono HW.out.size)); clear hb1))
    all_goals go_wp2
    all_goals go_ret
    all_goals exact ⟨by rw [HX.out]; rfl, HB1.out⟩
end Go.Proofs.YtkcjgncpcidfoaaGreatDoor
