/-
  Own texts of the proof, joined by program: Slots, ErrAt.
-/
import Derived.Test.YtmeipangcgdinaaGreatDoorErrsAsCode
import Derived.Deep.QuietTactic
import Derived.BigQuiet
import Derived.WalkSmall
import Derived.WalkLawsBesides
import Derived.Test.YtmeipangcgdinaaGreatDoorErrV
/-
  A struct result's two cells: over this seat's translation.
-/
namespace Go.Proofs.YtmeipangcgdinaaGreatDoor
open Go.RowKit

theorem heap_new (w : World) (o : Obj) : (w.alloc o).heap[w.heap.size]? = some o := by
  show (w.heap.push o)[w.heap.size]? = _
  simp

/-- A result's own two cells, still as they were laid. -/
theorem slot_two {w wr : World} {u v : Value} {T : TypeId} (h : Below (w.heap.size + 1) (w.alloc (.cells #[u, v] T)) wr) :
    wr.cell? ⟨w.heap.size, 0, none⟩ = some u ∧ wr.cell? ⟨w.heap.size, 1, none⟩ = some v ∧ wr.frozen? ⟨w.heap.size, 0, none⟩ = false ∧ wr.frozen? ⟨w.heap.size, 1, none⟩ = false ∧ Below w.heap.size w wr := by
  have e := h.block w.heap.size (Nat.lt_succ_self _)
  have e' : (w.alloc (.cells #[u, v] T)).heap[w.heap.size]? = some (.cells #[u, v] T) := heap_new w _
  rw [e'] at e
  refine ⟨by simp [World.cell?, e], by simp [World.cell?, e], by simp [World.frozen?, e], by simp [World.frozen?, e], ?_⟩
  exact ((Below.refl _ _).alloc (Nat.le_refl _) _).trans (h.mono (by omega))

theorem slot_set {w wr : World} {b : Nat} {u v : Value} (x y : Value) (h0 : wr.cell? ⟨b, 0, none⟩ = some u) (h1 : wr.cell? ⟨b, 1, none⟩ = some v) (hb : Below b w wr) :
    (wr.setCell ⟨b, 0, none⟩ x).cell? ⟨b, 0, none⟩ = some x ∧ ((wr.setCell ⟨b, 0, none⟩ x).setCell ⟨b, 1, none⟩ y).cell? ⟨b, 1, none⟩ = some y ∧ Below b w ((wr.setCell ⟨b, 0, none⟩ x).setCell ⟨b, 1, none⟩ y) := by
  refine ⟨World.cell?_setCell_same' _ _ _ (by rw [h0]; rfl), World.cell?_setCell_same' _ _ _ ?_, (hb.setCell (p := ⟨b, 0, none⟩) (Nat.le_refl _) _).setCell (p := ⟨b, 1, none⟩) (Nat.le_refl _) _⟩
  rw [World.cell?_setCell_other (h := by simp), h1]
  rfl

theorem slot_setN {w wr : World} {b : Nat} {u v : Value} (x y : Value) (h0 : wr.cell? ⟨b, 0, none⟩ = some u) (h1 : wr.cell? ⟨b, 1, none⟩ = some v) (hb : Below b w wr) (n : Nat) :
    ((wr.drewN n).setCell ⟨b, 0, none⟩ x).cell? ⟨b, 0, none⟩ = some x ∧ (((wr.drewN n).setCell ⟨b, 0, none⟩ x).setCell ⟨b, 1, none⟩ y).cell? ⟨b, 1, none⟩ = some y ∧ Below b w (((wr.drewN n).setCell ⟨b, 0, none⟩ x).setCell ⟨b, 1, none⟩ y) :=
  slot_set (wr := wr.drewN n) x y h0 h1 (below_drewN hb n)
end Go.Proofs.YtmeipangcgdinaaGreatDoor
/-
  What an error tells: its number and its place: over this seat's translation.
-/
namespace Go.Proofs.YtmeipangcgdinaaGreatDoor
open Go.RowKit

/-- An error that tells this number (0: none) and this place (-1: none). -/
def ErrAt (p : Nat → Addr) (w : World) (v : Value) (c : Nat) (i : Int) : Prop :=
  (c = 0 ∧ i = -1 ∧ v = .nilIface) ∨ (∃ j, c = j + 1 ∧ j < 13 ∧ i = -1 ∧ v = .iface 156 (.pointer (some (p j)))) ∨
    ∃ j b o, c = j + 1 ∧ j < 13 ∧ v = .iface 44 (.pointer (some ⟨b, o, none⟩)) ∧ w.cell? ⟨b, o, none⟩ = some (.int .i64 i) ∧ w.cell? ⟨b, o + 1, none⟩ = some (.iface 156 (.pointer (some (p j))))

theorem ErrAt.below {p : Nat → Addr} {w w' : World} {v : Value} {c : Nat} {i : Int} (h : ErrAt p w v c i) (hb : Below w.heap.size w w') : ErrAt p w' v c i := by
  rcases h with h | h | ⟨j, b, o, h0, h1, h2, h3, h4⟩
  · exact .inl h
  · exact .inr (.inl h)
  · exact .inr (.inr ⟨j, b, o, h0, h1, h2, (hb.cell (p := ⟨b, o, none⟩) (block_lt_of_cell h3)).trans h3, (hb.cell (p := ⟨b, o + 1, none⟩) (block_lt_of_cell h4)).trans h4⟩)

theorem ErrAt.fine (p : Nat → Addr) (w : World) : ErrAt p w .nilIface 0 (-1) := .inl ⟨rfl, rfl, rfl⟩
theorem ErrAt.bare {p : Nat → Addr} {w : World} {c : Nat} (h : c ≤ 13) : ErrAt p w (errV p c) c (-1) := by
  rcases c with _ | c
  · exact .inl ⟨rfl, rfl, rfl⟩
  · exact .inr (.inl ⟨c, rfl, by omega, rfl, rfl⟩)

/-- nil or not. -/
theorem ErrAt.isNil {p : Nat → Addr} {w : World} {v : Value} {i : Int} (h : ErrAt p w v 0 i) : v = .nilIface := by
  rcases h with h | ⟨j, h, _⟩ | ⟨j, b, o, h, _⟩
  · exact h.2.2
  · omega
  · omega
theorem ErrAt.some {p : Nat → Addr} {w : World} {v : Value} {c : Nat} {i : Int} (h : ErrAt p w v c i) (hc : c ≠ 0) : ∃ T u, v = .iface T u := by
  rcases h with h | ⟨j, _, _, _, h⟩ | ⟨j, b, o, _, _, h, _⟩
  · exact absurd h.1 hc
  · exact ⟨_, _, h⟩
  · exact ⟨_, _, h⟩

end Go.Proofs.YtmeipangcgdinaaGreatDoor
