/-
  The law package's coded, told of any error of plain.Code, over this seat's translation.
-/
import Derived.Test.YtkcjgncpcidfoaaGreatDoorCode
import Derived.Deep.QuietTactic
import Derived.BigQuiet
import Derived.WalkSmall
namespace Go.Proofs.YtkcjgncpcidfoaaGreatDoor
open Go.RowKit Go.Extern.Stop Go.Stop Go.Extern

theorem code_sent (p : Nat → Addr) (j : Nat) (w : World) (E : Env p w) (hj : j < 13) :
    Calls Tryz.prog 21 #[.iface 171 (.pointer (some (p j)))] w fun e w' => e = .returned (.tuple #[.int .i64 ((j : Int) + 1), .int .i64 (-1)]) ∧ Below w.heap.size w w' := by
  obtain ⟨c, t, h⟩ := E.rows j hj
  have := code_str p j (p j) c t w E h (Nat.le_of_lt hj) (fun k hk => ⟨fun e => (E.inj j k hj hk e).symm, fun e => by rw [e]⟩)
  rwa [← codeOf_lt hj] at this

theorem code_flaw (p : Nat → Addr) (j : Nat) (pb po : Nat) (n : Int) (w : World) (E : Env p w) (hj : j < 13) (h0 : w.cell? ⟨pb, po, none⟩ = some (.int .i64 n)) (h1 : w.cell? ⟨pb, po + 1, none⟩ = some (.iface 171 (.pointer (some (p j))))) :
    Calls Tryz.prog 21 #[.iface 62 (.pointer (some ⟨pb, po, none⟩))] w fun e w' => e = .returned (.tuple #[.int .i64 ((j : Int) + 1), .int .i64 n]) ∧ Below w.heap.size w w' := by
  have := code_fault p j pb po n w E hj h0 h1
  rwa [← codeOf_lt hj] at this

theorem code_another (p : Nat → Addr) (a : Addr) (ca : Array Value) (ta : TypeId) (w : World) (E : Env p w) (ha : w.heap[a.block]? = some (.cells ca ta (0, 0))) (hp : ∀ k, k < 13 → a ≠ p k) :
    Calls Tryz.prog 21 #[.iface 171 (.pointer (some a))] w fun e w' => e = .returned (.tuple #[.int .i64 (-1), .int .i64 (-1)]) ∧ Below w.heap.size w w' :=
  code_str p 13 a ca ta w E ha (Nat.le_refl _) (fun k hk => ⟨fun e => absurd e (hp k hk), fun e => by omega⟩)

end Go.Proofs.YtkcjgncpcidfoaaGreatDoor
