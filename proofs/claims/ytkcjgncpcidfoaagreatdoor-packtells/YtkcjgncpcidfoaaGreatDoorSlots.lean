/-
  A struct result's two cells: over this seat's translation.
-/
import Derived.Test.YtkcjgncpcidfoaaGreatDoorCoded
import Derived.Deep.QuietTactic
import Derived.BigQuiet
import Derived.WalkLawsBesides
namespace Go.Proofs.YtkcjgncpcidfoaaGreatDoor
open Go.RowKit

theorem heap_new (w : World) (o : Obj) : (w.alloc o).heap[w.heap.size]? = some o := by
  show (w.heap.push o)[w.heap.size]? = _
  simp

/-- A result's own two cells, still as they were laid. -/
theorem slot_two {w wr : World} {u v : Value} {T : TypeId} (h : Below (w.heap.size + 1) (w.alloc (.cells #[u, v] T)) wr) :
    wr.cell? ⟨w.heap.size, 0, none⟩ = some u ∧ wr.cell? ⟨w.heap.size, 1, none⟩ = some v ∧ wr.frozen? ⟨w.heap.size, 0, none⟩ = false ∧ wr.frozen? ⟨w.heap.size, 1, none⟩ = false ∧ Below w.heap.size w wr := by
  have e := h.block w.heap.size (Nat.lt_succ_self _)
  have e' : (w.alloc (.cells #[u, v] T)).heap[w.heap.size]? = some (.cells #[u, v] T) := heap_new w _
  rw [e'] at e
  refine ⟨by simp [World.cell?, e], by simp [World.cell?, e], by simp [World.frozen?, e], by simp [World.frozen?, e], ?_⟩
  exact ((Below.refl _ _).alloc (Nat.le_refl _) _).trans (h.mono (by omega))

theorem slot_set {w wr : World} {b : Nat} {u v : Value} (x y : Value) (h0 : wr.cell? ⟨b, 0, none⟩ = some u) (h1 : wr.cell? ⟨b, 1, none⟩ = some v) (hb : Below b w wr) :
    (wr.setCell ⟨b, 0, none⟩ x).cell? ⟨b, 0, none⟩ = some x ∧ ((wr.setCell ⟨b, 0, none⟩ x).setCell ⟨b, 1, none⟩ y).cell? ⟨b, 1, none⟩ = some y ∧ Below b w ((wr.setCell ⟨b, 0, none⟩ x).setCell ⟨b, 1, none⟩ y) := by
  refine ⟨World.cell?_setCell_same' _ _ _ (by rw [h0]; rfl), World.cell?_setCell_same' _ _ _ ?_, (hb.setCell (p := ⟨b, 0, none⟩) (Nat.le_refl _) _).setCell (p := ⟨b, 1, none⟩) (Nat.le_refl _) _⟩
  rw [World.cell?_setCell_other (h := by simp), h1]
  rfl

theorem slot_setN {w wr : World} {b : Nat} {u v : Value} (x y : Value) (h0 : wr.cell? ⟨b, 0, none⟩ = some u) (h1 : wr.cell? ⟨b, 1, none⟩ = some v) (hb : Below b w wr) (n : Nat) :
    ((wr.drewN n).setCell ⟨b, 0, none⟩ x).cell? ⟨b, 0, none⟩ = some x ∧ (((wr.drewN n).setCell ⟨b, 0, none⟩ x).setCell ⟨b, 1, none⟩ y).cell? ⟨b, 1, none⟩ = some y ∧ Below b w (((wr.drewN n).setCell ⟨b, 0, none⟩ x).setCell ⟨b, 1, none⟩ y) :=
  slot_set (wr := wr.drewN n) x y h0 h1 (below_drewN hb n)
end Go.Proofs.YtkcjgncpcidfoaaGreatDoor
