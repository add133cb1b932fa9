/-
  Own texts of the proof, joined by program: WtEq, PkLockMark.
-/
import Derived.Test.YtmeipangcgdinaaGreatDoorWtRowWtInsertWtInsertGrowWtDelete
import Derived.Test.YtmeipangcgdinaaGreatDoorTreeMemTreeSlotsTreeOwn
import Derived.Laws.StructEq
import Derived.BigQuiet
/-
  Wants compared: over this seat's translation.
-/
namespace Go.Proofs.YtmeipangcgdinaaGreatDoor
open Go.RowKit Go.Shelf

theorem Tryz.heldWant : Tryz.prog.stoodInHeld 41 = false := by kernel_rfl
theorem Tryz.guardWant : Tryz.prog.eqGuardType Tryz.prog.depth 41 = false := by kernel_rfl

open Classical in
theorem want_equal (x y : Wt) (w : World) : (Op.equalIn 10000 41 (wv x) (wv y)).run Tryz.prog w = .ok (decide (x = y)) w := by
  rw [run_equalIn_agg w 9999 41 _ _ (by kernel_rfl) Tryz.heldWant]
  simp only [Program.fieldsOf, Tryz.underlying41, Op.eqFields]
  have e9 := fun d a b w => run_equalIn_string (P := Tryz.prog) w d 9 a b Tryz.underlying9
  have e3 := fun d a b w => run_equalIn_int (P := Tryz.prog) w d 3 .i64 .i64 a b Tryz.underlying3
  obtain ⟨n1, u1, k1, s1, m1⟩ := x
  obtain ⟨n2, u2, k2, s2, m2⟩ := y
  simp [part, isAgg, run_underlying Tryz.underlying9, run_underlying Tryz.underlying3, e9, e3]
  by_cases h1 : n1 = n2 <;> by_cases h2 : u1 = u2 <;> by_cases h3 : k1 = k2 <;> by_cases h4 : s1 = s2 <;> by_cases h5 : m1 = m2 <;> simp [h1, h2, h3, h4, h5]

open Classical in
theorem want_neq (x y : Wt) (r : Bool) (h : decide (x = y) = r) (w : World) : (binOp .neq 41 (wv x) (wv y)).run Tryz.prog w = .ok (.bool (!r)) w := by
  rw [run_neq_struct, want_equal, h]
  rfl
open Classical in
theorem want_eql (x y : Wt) (r : Bool) (h : decide (x = y) = r) (w : World) : (binOp .eql 41 (wv x) (wv y)).run Tryz.prog w = .ok (.bool r) w := by
  rw [run_eql_struct, want_equal, h]
  rfl
end Go.Proofs.YtmeipangcgdinaaGreatDoor
/-
  Package lock: the mark of a pair: its contract, over this seat's translation.
-/
namespace Go.Proofs.YtmeipangcgdinaaGreatDoor
open Go.RowKit Go.Shelf

/-- Whether two wants are the same. -/
def sameW (x y : Wt) : Bool := x.n == y.n && x.u == y.u && x.k == y.k && x.s == y.s && x.m == y.m
theorem sameW_iff {x y : Wt} : sameW x y = true ↔ x = y := by
  obtain ⟨n1, u1, k1, s1, m1⟩ := x
  obtain ⟨n2, u2, k2, s2, m2⟩ := y
  simp [sameW, and_assoc]
open Classical in
theorem sameW_decide (x y : Wt) : decide (x = y) = sameW x y := by
  rw [Bool.eq_iff_iff, decide_eq_true_iff, sameW_iff]
theorem want_eqs (x y : Wt) (w : World) : (binOp .eql 41 (wv x) (wv y)).run Tryz.prog w = .ok (.bool (sameW x y)) w := want_eql x y _ (sameW_decide x y) w
theorem want_guard (op : BinOp) (x y : Wt) (s t : Operand) (w : World) : (eqGuard op 41 s t (wv x) (wv y)).run Tryz.prog w = .ok () w := run_eqGuard_agg w op 41 s t _ _ Tryz.guardWant
/-- The want that no lock has. -/
def noW : Wt := ⟨[], [], [], 0, 0⟩
/-- What stands ahead of a name in a line of a difference. -/
def markL (x y : Wt) : List UInt8 := if sameW x y then [] else if sameW y noW then [45, 32] else if sameW x noW then [43, 32] else [42, 32]
/-- Two wants as a value. -/
abbrev pv (x y : Wt) : Value := .agg #[sv x.n, sv x.u, sv x.k, .int .i64 x.s, .int .i64 x.m, sv y.n, sv y.u, sv y.k, .int .i64 y.s, .int .i64 y.m]

set_option maxRecDepth 100000 in
set_option maxHeartbeats 4000000 in
theorem mark_any (x y : Wt) (w : World) : Calls Tryz.prog 23 #[pv x y] w fun e w' => e = .returned (.string ⟨(markL x y).toArray⟩) ∧ Below w.heap.size w w' := by
  have g1 := fun op s t w => want_guard op x y s t w
  have g2 := fun op s t w => want_guard op y noW s t w
  have g3 := fun op s t w => want_guard op x noW s t w
  have e1 := fun w => want_eqs x y w
  have e2 := fun w => want_eqs y noW w
  have e3 := fun w => want_eqs x noW w
  have HM : Hid (markL x y = if sameW x y then [] else if sameW y noW then [45, 32] else if sameW x noW then [43, 32] else [42, 32]) := rfl
  generalize sameW x y = b1 at e1 HM
  generalize sameW y noW = b2 at e2 HM
  generalize sameW x noW = b3 at e3 HM
  simp only [noW] at g2 g3 e2 e3
  have HB := fun (o1 o2 : Obj) => Lib.hid ((((Below.refl w.heap.size w).alloc (Nat.le_refl _) o1)).alloc (by simp) o2)
  obtain ⟨n, u, k, s, m⟩ := x
  obtain ⟨n', u', k', s', m'⟩ := y
  generalize markL _ _ = r at HM ⊢
  cases b1 with
  | true =>
    have hr : r = [] := HM.out
    subst hr
    clear HM
    go_enter Tryz.func23, Tryz.ntmps23
    go_wp2_with fail
    go_ret
    exact ⟨rfl, (HB _ _).out⟩
  | false =>
    cases b2 with
    | true =>
      have hr : r = [45, 32] := HM.out
      subst hr
      clear HM
      go_enter Tryz.func23, Tryz.ntmps23
      go_wp2_with fail
      go_ret
      exact ⟨rfl, (HB _ _).out⟩
    | false =>
      cases b3 with
      | true =>
        have hr : r = [43, 32] := HM.out
        subst hr
        clear HM
        go_enter Tryz.func23, Tryz.ntmps23
        go_wp2_with fail
        go_ret
        exact ⟨rfl, (HB _ _).out⟩
      | false =>
        have hr : r = [42, 32] := HM.out
        subst hr
        clear HM
        go_enter Tryz.func23, Tryz.ntmps23
        go_wp2_with fail
        go_ret
        exact ⟨rfl, (HB _ _).out⟩
end Go.Proofs.YtmeipangcgdinaaGreatDoor
