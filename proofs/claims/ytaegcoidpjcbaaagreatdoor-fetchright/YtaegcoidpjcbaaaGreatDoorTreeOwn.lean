/-
  Files that a call has gathered itself, by append: rows of three cells a file.
-/
import Derived.Test.YtaegcoidpjcbaaaGreatDoorTreeMemTreeSlotsTreeErr
import Derived.Deep.Onto
namespace Go.Proofs.YtaegcoidpjcbaaaGreatDoor
open Go.RowKit Go.Shelf

def fcells (f : F) : List Value := [sv f.p, .bool f.r, sv f.t]
def lcells (l : List F) : List Value := l.flatMap fcells

theorem lcells_length (l : List F) : (lcells l).length = l.length * 3 := by
  induction l with
  | nil => rfl
  | cons f l ih => simp only [lcells, List.flatMap_cons, List.length_append, List.length_cons] at ih ⊢; simp only [fcells, List.length_cons, List.length_nil]; omega

theorem lcells_app (a b : List F) : lcells (a ++ b) = lcells a ++ lcells b := by simp [lcells]

theorem lcells_at : ∀ (l : List F) (k : Nat) (h : k < l.length) (j : Nat), j < 3 → (lcells l)[k * 3 + j]? = (fcells l[k])[j]?
  | [], k, h, _, _ => by simp at h
  | f :: l, 0, _, j, hj => by
    show (fcells f ++ lcells l)[0 * 3 + j]? = (fcells f)[j]?
    rw [Nat.zero_mul, Nat.zero_add, List.getElem?_append_left (by simp [fcells]; omega)]
  | f :: l, k + 1, h, j, hj => by
    have ih := lcells_at l k (by simpa using h) j hj
    show (fcells f ++ lcells l)[(k + 1) * 3 + j]? = _
    rw [List.getElem?_append_right (by simp [fcells]; omega)]
    have : (k + 1) * 3 + j - (fcells f).length = k * 3 + j := by simp [fcells]; omega
    rw [this, ih]
    rfl

/-- The files of a row of the call's own. -/
theorem owns_lies {w : World} {base : Nat} {v : Value} {l : List F} (h : w.ownsRow base 68 3 v l.length (lcells l)) :
    ∃ a cap, v = .slice a l.length cap ∧ LiesAt w a l ∧ (a = none → cap = 0 ∧ l = []) := by
  rcases h.2 with ⟨rfl, hn⟩ | ⟨g, cap, cur, rfl, _, hg, hcap, hm, hsz, htk⟩
  · have e : l = [] := List.length_eq_zero_iff.1 hn
    subst e
    exact ⟨none, 0, rfl, fun h => absurd rfl h, fun _ => ⟨rfl, rfl⟩⟩
  · refine ⟨some ⟨g, 0, none⟩, cap, rfl, fun _ => ⟨g, 0, rfl, fun k hk => ?_⟩, fun h => by cases h⟩
    have hc : ∀ j, j < 3 → w.cell? ⟨g, 0 + k * 3 + j, none⟩ = (fcells l[k])[j]? := fun j hj => by
      rw [← lcells_at l k hk j hj, ← htk, List.getElem?_take_of_lt (by omega)]
      simp [World.cell?, hg]
    exact ⟨by simpa [fcells] using hc 0 (by omega), by simpa [fcells] using hc 1 (by omega), by simpa [fcells] using hc 2 (by omega)⟩

theorem owns_keep {w w' : World} {base : Nat} {e : TypeId} {size : Nat} {v : Value} {n : Nat} {xs : List Value} (h : w.ownsRow base e size v n xs) (hk : ∀ g, base ≤ g → g < w.heap.size → w'.heap[g]? = w.heap[g]?) : w'.ownsRow base e size v n xs := by
  refine ⟨h.1, ?_⟩
  rcases h.2 with h0 | ⟨g, cap, cur, hv, hg, hh, h1, h2, h3, h4⟩
  · exact .inl h0
  · exact .inr ⟨g, cap, cur, hv, hg, by rw [hk g hg (Array.getElem?_eq_some_iff.1 hh).1]; exact hh, h1, h2, h3, h4⟩

theorem owns_below {w w' : World} {base : Nat} {e : TypeId} {size : Nat} {v : Value} {n : Nat} {xs : List Value} (h : w.ownsRow base e size v n xs) (hb : Below w.heap.size w w') : w'.ownsRow base e size v n xs :=
  owns_keep h fun g _ hg => hb.block g hg

/-- A row of the call's own, behind the two stores into the result's cells. -/
theorem owns_slot {w : World} {b : Nat} {e : TypeId} {size : Nat} {v : Value} {n : Nat} {xs : List Value} (x y : Value) (h : w.ownsRow (b + 1) e size v n xs) : ((w.setCell ⟨b, 0, none⟩ x).setCell ⟨b, 1, none⟩ y).ownsRow b e size v n xs :=
  (owns_keep h fun g hg _ => (Below.heap_setCell _ _ _ _ (by show g ≠ b; omega)).trans (Below.heap_setCell _ _ _ _ (by show g ≠ b; omega))).mono (Nat.le_succ _)

theorem Tryz.infoFile : (Tryz.prog.info? 68).map (fun i => (i.zero, i.size, i.bytes)) = some (some (.agg #[.string ⟨#[]⟩, .bool false, .string ⟨#[]⟩]), 3, 40) := by kernel_rfl

theorem cells_new (w : World) (f : F) (T : TypeId) : ∀ j u, (fcells f)[j]? = some u → (w.alloc (.cells #[sv f.p, .bool f.r, sv f.t] T)).cell? ((⟨w.heap.size, 0, none⟩ : Addr).add j) = some u := by
  intro j u h
  have hn := heap_new w (.cells #[sv f.p, .bool f.r, sv f.t] T)
  have hc : ∀ k, (w.alloc (.cells #[sv f.p, .bool f.r, sv f.t] T)).cell? ⟨w.heap.size, k, none⟩ = #[sv f.p, .bool f.r, sv f.t][k]? := fun k => by
    unfold World.cell?
    rw [hn]
    rfl
  rcases j with _ | _ | _ | j
  · exact (hc 0).trans h
  · exact (hc (0 + 1)).trans h
  · exact (hc (0 + 2)).trans h
  · simp [fcells] at h

end Go.Proofs.YtaegcoidpjcbaaaGreatDoor
