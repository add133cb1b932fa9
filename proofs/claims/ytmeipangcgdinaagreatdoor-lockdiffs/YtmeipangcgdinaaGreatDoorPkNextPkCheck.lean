/-
  Own texts of the proof, joined by program: PkNext, PkCheck.
-/
import Derived.Test.YtmeipangcgdinaaGreatDoorSlotsErrAt
import Derived.Test.YtmeipangcgdinaaGreatDoorTreeMemTreeSlotsTreeOwn
import Derived.Test.YtmeipangcgdinaaGreatDoorCutCheckCleanPaths
import Derived.Test.YtmeipangcgdinaaGreatDoorTreePureTreeSortTreeFactsTreeInsertTreeAt
import Derived.Test.YtmeipangcgdinaaGreatDoorShelf2
import Derived.StillTailTactics
/-
  Package tree's checkNext: over this seat's translation.
-/
namespace Go.Proofs.YtmeipangcgdinaaGreatDoor
open Go.RowKit Go.Shelf

/-- Files whose paths are not too long. -/
abbrev SF := { f : F // f.p.length ≤ 40000 }

theorem packed : ∀ l : List F, (∀ g ∈ l, g.p.length ≤ 40000) → ∃ zs : List SF, zs.map (fun x => x.1) = l
  | [], _ => ⟨[], rfl⟩
  | f :: l, h => by
    obtain ⟨zs, e⟩ := packed l fun g hg => h g (List.mem_cons_of_mem _ hg)
    exact ⟨⟨f, h f List.mem_cons_self⟩ :: zs, by rw [List.map_cons, e]⟩

theorem box_three {w w' : World} {x y z : Value} {T : TypeId} (h : Below (w.heap.size + 1) (w.alloc (.cells #[x, y, z] T)) w') :
    w'.cell? ⟨w.heap.size, 0, none⟩ = some x ∧ w'.cell? ⟨w.heap.size, 1, none⟩ = some y ∧ w'.cell? ⟨w.heap.size, 2, none⟩ = some z ∧ Below w.heap.size w w' := by
  have e := h.block w.heap.size (Nat.lt_succ_self _)
  rw [heap_new] at e
  exact ⟨by simp [World.cell?, e], by simp [World.cell?, e], by simp [World.cell?, e], ((Below.refl _ _).alloc (Nat.le_refl _) _).trans (h.mono (by omega))⟩

end Go.Proofs.YtmeipangcgdinaaGreatDoor
/-
  Package tree's Check tells of every list of files what the plain function tells: over this seat's translation.
-/
namespace Go.Proofs.YtmeipangcgdinaaGreatDoor
open Go.RowKit Go.Shelf

theorem LiesAt.take {w : World} {a : Option Addr} {l : List F} (h : LiesAt w a l) (k : Nat) : LiesAt w a (l.take k) := fun hne => by
  have hl : l ≠ [] := fun e => hne (by rw [e]; simp)
  obtain ⟨b, o, e, hc⟩ := h hl
  refine ⟨b, o, e, fun j hj => ?_⟩
  rw [List.getElem_take]
  exact hc j (by rw [List.length_take] at hj; omega)

theorem pair_cells {w w' : World} {x y : Value} {T : TypeId} (h : Below (w.heap.size + 1) (w.alloc (.cells #[x, y] T)) w') :
    w'.cell? ⟨w.heap.size, 0, none⟩ = some x ∧ w'.cell? ⟨w.heap.size, 0 + 1, none⟩ = some y := by
  have := slot_two h
  exact ⟨this.1, this.2.1⟩

end Go.Proofs.YtmeipangcgdinaaGreatDoor
