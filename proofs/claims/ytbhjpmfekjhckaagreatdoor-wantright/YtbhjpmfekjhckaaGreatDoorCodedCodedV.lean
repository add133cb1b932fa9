/-
  Own texts of the proof, joined by program: Coded, CodedV.
-/
import Derived.Test.YtbhjpmfekjhckaaGreatDoorCode
import Derived.Deep.QuietTactic
import Derived.BigQuiet
import Derived.WalkSmall
import Derived.Test.YtbhjpmfekjhckaaGreatDoorErrV
/-
  The law package's coded, told of any error of plain.Code, over this seat's translation.
-/
namespace Go.Proofs.YtbhjpmfekjhckaaGreatDoor
open Go.RowKit Go.Extern.Stop Go.Stop Go.Extern

theorem code_sent (p : Nat → Addr) (j : Nat) (w : World) (E : Env p w) (hj : j < 13) :
    Calls Tryz.prog 42 #[.iface 207 (.pointer (some (p j)))] w fun e w' => e = .returned (.tuple #[.int .i64 ((j : Int) + 1), .int .i64 (-1)]) ∧ Below w.heap.size w w' := by
  obtain ⟨c, t, h⟩ := E.rows j hj
  have := code_str p j (p j) c t w E h (Nat.le_of_lt hj) (fun k hk => ⟨fun e => (E.inj j k hj hk e).symm, fun e => by rw [e]⟩)
  rwa [← codeOf_lt hj] at this

theorem code_flaw (p : Nat → Addr) (j : Nat) (pb po : Nat) (n : Int) (w : World) (E : Env p w) (hj : j < 13) (h0 : w.cell? ⟨pb, po, none⟩ = some (.int .i64 n)) (h1 : w.cell? ⟨pb, po + 1, none⟩ = some (.iface 207 (.pointer (some (p j))))) :
    Calls Tryz.prog 42 #[.iface 79 (.pointer (some ⟨pb, po, none⟩))] w fun e w' => e = .returned (.tuple #[.int .i64 ((j : Int) + 1), .int .i64 n]) ∧ Below w.heap.size w w' := by
  have := code_fault p j pb po n w E hj h0 h1
  rwa [← codeOf_lt hj] at this

theorem code_another (p : Nat → Addr) (a : Addr) (ca : Array Value) (ta : TypeId) (w : World) (E : Env p w) (ha : w.heap[a.block]? = some (.cells ca ta (0, 0))) (hp : ∀ k, k < 13 → a ≠ p k) :
    Calls Tryz.prog 42 #[.iface 207 (.pointer (some a))] w fun e w' => e = .returned (.tuple #[.int .i64 (-1), .int .i64 (-1)]) ∧ Below w.heap.size w w' :=
  code_str p 13 a ca ta w E ha (Nat.le_refl _) (fun k hk => ⟨fun e => absurd e (hp k hk), fun e => by omega⟩)

/-- coded(err, code), where Code tells this number and no place. -/
theorem coded_yes (e : Value) (c : Int) (w : World) (h : Calls Tryz.prog 42 #[e] w fun e w' => e = .returned (.tuple #[.int .i64 c, .int .i64 (-1)]) ∧ Below w.heap.size w w') :
    Calls Tryz.prog 17 #[e, .int .i64 c] w fun e w' => e = .returned (.bool true) ∧ Below w.heap.size w w' := by
  have H : Hid (Calls Tryz.prog 42 #[e] w fun e w' => e = .returned (.tuple #[.int .i64 c, .int .i64 (-1)]) ∧ Below w.heap.size w w') := h
  clear h
  go_enter Tryz.func17, Tryz.ntmps17
  go_wp2_with fail
  refine H.out.mono ?_
  rintro e w1 ⟨rfl, hb⟩
  have HB : Hid (Below w.heap.size w w1) := hb
  clear hb
  go_wp2
  go_ret
  exact ⟨rfl, HB.out⟩

/-- coded(err, code), where Code tells another number. -/
theorem coded_no (e : Value) (c d : Int) (n : Int) (w : World) (hne : c ≠ d) (h : Calls Tryz.prog 42 #[e] w fun e w' => e = .returned (.tuple #[.int .i64 c, .int .i64 n]) ∧ Below w.heap.size w w') :
    Calls Tryz.prog 17 #[e, .int .i64 d] w fun e w' => e = .returned (.bool false) ∧ Below w.heap.size w w' := by
  have H : Hid (Calls Tryz.prog 42 #[e] w fun e w' => e = .returned (.tuple #[.int .i64 c, .int .i64 n]) ∧ Below w.heap.size w w') := h
  have hcd : (c == d) = false := by simpa using hne
  clear h hne
  go_enter Tryz.func17, Tryz.ntmps17
  go_wp2_with fail
  refine H.out.mono ?_
  rintro e w1 ⟨rfl, hb⟩
  have HB : Hid (Below w.heap.size w w1) := hb
  clear hb
  go_wp2
  go_ret
  exact ⟨rfl, HB.out⟩

theorem coded_nil (w : World) : Calls Tryz.prog 17 #[.nilIface, .int .i64 0] w fun e w' => e = .returned (.bool true) ∧ Below w.heap.size w w' :=
  coded_yes .nilIface 0 w ((code_nil w).mono fun _ _ ⟨h, h'⟩ => ⟨h, by rw [h']; exact Below.refl _ _⟩)
end Go.Proofs.YtbhjpmfekjhckaaGreatDoor
/-
  The law package's coded, told of an error by its number, over this seat's translation.
-/
namespace Go.Proofs.YtbhjpmfekjhckaaGreatDoor
open Go.RowKit

/-- coded(err, code) of one of the thirteen. -/
theorem coded_sent (p : Nat → Addr) (j : Nat) (c : Int) (w : World) (hE : Env p w) (hj : j < 13) (hc : (j : Int) + 1 = c) :
    Calls Tryz.prog 17 #[.iface 207 (.pointer (some (p j))), .int .i64 c] w fun e w' => e = .returned (.bool true) ∧ Below w.heap.size w w' := by
  subst hc
  exact coded_yes _ _ _ (code_sent p j w hE hj)

theorem coded_errV (p : Nat → Addr) (c : Nat) (w : World) (hE : Env p w) (hc : c ≤ 13) :
    Calls Tryz.prog 17 #[errV p c, .int .i64 c] w fun e w' => e = .returned (.bool true) ∧ Below w.heap.size w w' := by
  cases c with
  | zero => exact coded_nil w
  | succ k => exact coded_sent p k ((k + 1 : Nat) : Int) w hE (by omega) (by omega)
end Go.Proofs.YtbhjpmfekjhckaaGreatDoor
