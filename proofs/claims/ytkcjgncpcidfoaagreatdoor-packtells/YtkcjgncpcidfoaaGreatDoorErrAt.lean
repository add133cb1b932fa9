/-
  What an error tells: its number and its place: over this seat's translation.
-/
import Derived.Test.YtkcjgncpcidfoaaGreatDoorFaulted
import Derived.Test.YtkcjgncpcidfoaaGreatDoorCoded
import Derived.Test.YtkcjgncpcidfoaaGreatDoorErrV
namespace Go.Proofs.YtkcjgncpcidfoaaGreatDoor
open Go.RowKit

/-- An error that tells this number (0: none) and this place (-1: none). -/
def ErrAt (p : Nat → Addr) (w : World) (v : Value) (c : Nat) (i : Int) : Prop :=
  (c = 0 ∧ i = -1 ∧ v = .nilIface) ∨ (∃ j, c = j + 1 ∧ j < 13 ∧ i = -1 ∧ v = .iface 171 (.pointer (some (p j)))) ∨
    ∃ j b o, c = j + 1 ∧ j < 13 ∧ v = .iface 62 (.pointer (some ⟨b, o, none⟩)) ∧ w.cell? ⟨b, o, none⟩ = some (.int .i64 i) ∧ w.cell? ⟨b, o + 1, none⟩ = some (.iface 171 (.pointer (some (p j))))

theorem ErrAt.below {p : Nat → Addr} {w w' : World} {v : Value} {c : Nat} {i : Int} (h : ErrAt p w v c i) (hb : Below w.heap.size w w') : ErrAt p w' v c i := by
  rcases h with h | h | ⟨j, b, o, h0, h1, h2, h3, h4⟩
  · exact .inl h
  · exact .inr (.inl h)
  · exact .inr (.inr ⟨j, b, o, h0, h1, h2, (hb.cell (p := ⟨b, o, none⟩) (block_lt_of_cell h3)).trans h3, (hb.cell (p := ⟨b, o + 1, none⟩) (block_lt_of_cell h4)).trans h4⟩)

theorem ErrAt.fine (p : Nat → Addr) (w : World) : ErrAt p w .nilIface 0 (-1) := .inl ⟨rfl, rfl, rfl⟩
theorem ErrAt.bare {p : Nat → Addr} {w : World} {c : Nat} (h : c ≤ 13) : ErrAt p w (errV p c) c (-1) := by
  rcases c with _ | c
  · exact .inl ⟨rfl, rfl, rfl⟩
  · exact .inr (.inl ⟨c, rfl, by omega, rfl, rfl⟩)

/-- nil or not. -/
theorem ErrAt.isNil {p : Nat → Addr} {w : World} {v : Value} {i : Int} (h : ErrAt p w v 0 i) : v = .nilIface := by
  rcases h with h | ⟨j, h, _⟩ | ⟨j, b, o, h, _⟩
  · exact h.2.2
  · omega
  · omega
theorem ErrAt.some {p : Nat → Addr} {w : World} {v : Value} {c : Nat} {i : Int} (h : ErrAt p w v c i) (hc : c ≠ 0) : ∃ T u, v = .iface T u := by
  rcases h with h | ⟨j, _, _, _, h⟩ | ⟨j, b, o, _, _, h, _⟩
  · exact absurd h.1 hc
  · exact ⟨_, _, h⟩
  · exact ⟨_, _, h⟩

theorem code_err {p : Nat → Addr} {w : World} {v : Value} {c : Nat} {i : Int} (h : ErrAt p w v c i) (hE : Env p w) :
    Calls Tryz.prog 21 #[v] w fun e w' => e = .returned (.tuple #[.int .i64 c, .int .i64 i]) ∧ Below w.heap.size w w' := by
  rcases h with ⟨rfl, rfl, rfl⟩ | ⟨j, rfl, hj, rfl, rfl⟩ | ⟨j, b, o, rfl, hj, rfl, h0, h1⟩
  · exact (code_nil w).mono fun _ _ ⟨h, h'⟩ => ⟨h, by rw [h']; exact Below.refl _ _⟩
  · exact code_sent p j w hE hj
  · exact code_flaw p j b o i w hE hj h0 h1

theorem faulted_err {p : Nat → Addr} {w : World} {v : Value} {c : Nat} {i : Int} (h : ErrAt p w v c i) (hE : Env p w) :
    Calls Tryz.prog 9 #[v, .agg #[.int .i64 c, .int .i64 i]] w fun e w' => e = .returned (.bool true) ∧ Below w.heap.size w w' :=
  faulted_yes v c i w fun _ hb => code_err (h.below hb) (hE.below hb)
end Go.Proofs.YtkcjgncpcidfoaaGreatDoor
