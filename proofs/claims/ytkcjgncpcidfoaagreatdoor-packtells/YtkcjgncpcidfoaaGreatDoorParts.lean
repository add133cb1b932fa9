/-
  path.Parts and path.Strip tell of every text that is not too long what the plain functions tell: contracts, over this seat's translation.
-/
import Derived.Test.YtkcjgncpcidfoaaGreatDoorPaths
import Derived.Test.YtkcjgncpcidfoaaGreatDoorFacts
namespace Go.Proofs.YtkcjgncpcidfoaaGreatDoor
open Go.RowKit Go.Shelf

attribute [local go_sem] Oper.semAt_some

/-- What a slice that owns some pieces holds, cell by cell. -/
theorem owns_cells {w : World} {base g cap n : Nat} {k : List (List UInt8)} (hrow : w.ownsRow base 9 1 (.slice (some ⟨g, 0, none⟩) n cap) n (k.map sv)) (hn : n = k.length) :
    (∀ j (h : j < k.length), w.cell? ⟨g, j, none⟩ = some (.string ⟨(k[j]).toArray⟩)) ∧ g < w.heap.size ∧ n ≤ cap ∧ cap ≤ maxLen := by
  refine ⟨fun j h => ?_, (hrow.lt g rfl).2, ?_⟩
  · rw [hrow.cellAt j (by omega), List.getElem?_map, List.getElem?_eq_getElem h]
    rfl
  · rcases hrow.2 with ⟨h, _⟩ | ⟨g', cap', cur, hv', _, _, h1, h2, _⟩
    · cases h
    · cases hv'; exact ⟨h1, h2⟩

end Go.Proofs.YtkcjgncpcidfoaaGreatDoor
