/-
  path.Parts and path.Strip tell of every text that is not too long what the plain functions tell: contracts, over this seat's translation.
-/
import Derived.Test.YtmeipangcgdinaaGreatDoorCutCheckCleanPaths
import Derived.Test.YtmeipangcgdinaaGreatDoorPureFacts
namespace Go.Proofs.YtmeipangcgdinaaGreatDoor
open Go.RowKit Go.Shelf

attribute [local go_sem] Oper.semAt_some

/-- strings.Join of a part of a slice. -/
theorem join_off (g o cap : Nat) (k : List (List UInt8)) (w : World) (hcell : ∀ j (h : j < k.length), w.cell? ⟨g, o + j, none⟩ = some (.string ⟨(k[j]).toArray⟩)) (hg : g < w.heap.size) (hcap : k.length ≤ cap) (hk : k.length ≤ 100000) (hM : ∀ x ∈ k, x.length ≤ 100000) :
    Calls Tryz.prog 36 #[.slice (some ⟨g, o, none⟩) k.length cap, .string ⟨#[47]⟩] w fun e w' => e = .returned (.string ⟨(Lib.join k [47]).toArray⟩) ∧ Below w.heap.size w w' := by
  have hl := join_length hM
  have hmap : (k.map fun l => (⟨l.toArray⟩ : ByteArray)).map (·.data.toList) = k := by
    rw [List.map_map]
    have : ((fun x : ByteArray => x.data.toList) ∘ fun l : List UInt8 => (⟨l.toArray⟩ : ByteArray)) = id := by funext l; simp
    rw [this, List.map_id]
  have := Tryz.strings_Join g o cap (k.map fun l => ⟨l.toArray⟩) ⟨#[47]⟩ w (fun j x hx => by
      have hj : j < k.length := by
        have := (List.getElem?_eq_some_iff.1 hx).1
        simpa using this
      rw [hcell j hj]
      rw [List.getElem?_map, List.getElem?_eq_getElem hj] at hx
      simp at hx ⊢
      exact hx) hg (by simp; omega) (by simpa using hcap) (by
      rw [hmap]
      have e : (⟨#[47]⟩ : ByteArray).data.toList = [47] := rfl
      rw [e]
      omega)
  rw [hmap, List.length_map] at this
  exact this

/-- What a slice that owns some pieces holds, cell by cell. -/
theorem owns_cells {w : World} {base g cap n : Nat} {k : List (List UInt8)} (hrow : w.ownsRow base 9 1 (.slice (some ⟨g, 0, none⟩) n cap) n (k.map sv)) (hn : n = k.length) :
    (∀ j (h : j < k.length), w.cell? ⟨g, j, none⟩ = some (.string ⟨(k[j]).toArray⟩)) ∧ g < w.heap.size ∧ n ≤ cap ∧ cap ≤ maxLen := by
  refine ⟨fun j h => ?_, (hrow.lt g rfl).2, ?_⟩
  · rw [hrow.cellAt j (by omega), List.getElem?_map, List.getElem?_eq_getElem h]
    rfl
  · rcases hrow.2 with ⟨h, _⟩ | ⟨g', cap', cur, hv', _, _, h1, h2, _⟩
    · cases h
    · cases hv'; exact ⟨h1, h2⟩

end Go.Proofs.YtmeipangcgdinaaGreatDoor
