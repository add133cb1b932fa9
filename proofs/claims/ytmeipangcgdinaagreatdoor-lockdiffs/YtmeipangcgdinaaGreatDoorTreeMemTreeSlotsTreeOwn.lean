/-
  Own texts of the proof, joined by program: TreeMem, TreeSlots, TreeOwn.
-/
import Derived.Test.YtmeipangcgdinaaGreatDoorTreePureTreeSortTreeFactsTreeInsertTreeAt
import Derived.Deep.QuietTactic
import Derived.BigQuiet
import Derived.WalkLawsBesides
import Derived.Laws.StructEq
import Derived.Test.YtmeipangcgdinaaGreatDoorSlotsErrAt
import Derived.Deep.Onto
/-
  Files in memory: three cells each, one behind the other; two files compared: over this seat's translation.
-/
namespace Go.Proofs.YtmeipangcgdinaaGreatDoor
open Go.RowKit Go.Shelf

/-- Files that lie in memory from an address on. -/
def LiesAt (w : World) (a : Option Addr) (l : List F) : Prop :=
  l ≠ [] → ∃ b o, a = some ⟨b, o, none⟩ ∧ ∀ k (h : k < l.length), w.cell? ⟨b, o + k * 3, none⟩ = some (sv l[k].p) ∧ w.cell? ⟨b, o + k * 3 + 1, none⟩ = some (.bool l[k].r) ∧ w.cell? ⟨b, o + k * 3 + 2, none⟩ = some (sv l[k].t)

theorem LiesAt.below {w w' : World} {a : Option Addr} {l : List F} (h : LiesAt w a l) (hb : Below w.heap.size w w') : LiesAt w' a l := fun hl => by
  obtain ⟨b, o, e, hc⟩ := h hl
  refine ⟨b, o, e, fun k hk => ?_⟩
  obtain ⟨h0, h1, h2⟩ := hc k hk
  exact ⟨(hb.cell (p := ⟨b, o + k * 3, none⟩) (block_lt_of_cell h0)).trans h0, (hb.cell (p := ⟨b, o + k * 3 + 1, none⟩) (block_lt_of_cell h1)).trans h1, (hb.cell (p := ⟨b, o + k * 3 + 2, none⟩) (block_lt_of_cell h2)).trans h2⟩

theorem LiesAt.at {w : World} {a : Option Addr} {l : List F} (h : LiesAt w a l) {k : Nat} (hk : k < l.length) : ∃ b o, a = some ⟨b, o, none⟩ ∧ w.cell? ⟨b, o + k * 3, none⟩ = some (sv l[k].p) ∧ w.cell? ⟨b, o + k * 3 + 1, none⟩ = some (.bool l[k].r) ∧ w.cell? ⟨b, o + k * 3 + 2, none⟩ = some (sv l[k].t) := by
  obtain ⟨b, o, e, hc⟩ := h (fun e => by simp [e] at hk)
  exact ⟨b, o, e, hc k hk⟩

/-- A file as a value. -/
abbrev fv (f : F) : Value := .agg #[sv f.p, .bool f.r, sv f.t]

end Go.Proofs.YtmeipangcgdinaaGreatDoor
/-
  A struct result's cells; trees of some length: what the walks of trees use.
-/
namespace Go.Proofs.YtmeipangcgdinaaGreatDoor
open Go.RowKit Go.Shelf

/-- Texts of some length. -/
structure Small (l : List F) : Prop where
  few : l.length ≤ 100000
  path : ∀ f ∈ l, f.p.length ≤ 40000
  text : ∀ f ∈ l, f.t.length ≤ 500000

theorem total_take {l : List F} (h : ∀ f ∈ l, f.t.length ≤ 500000) (k : Nat) : total (l.take k) ≤ 500000 * k := by
  induction k with
  | zero => simp [total]
  | succ k ih =>
    by_cases hk : k < l.length
    · rw [List.take_succ_eq_append_getElem hk]
      have := h _ (List.getElem_mem hk)
      simp only [total, List.map_append, List.sum_append, List.map_cons, List.map_nil, List.sum_cons, List.sum_nil] at ih ⊢
      omega
    · rw [List.take_of_length_le (by omega)] at ih ⊢
      omega
theorem total_succ {l : List F} {k : Nat} (hk : k < l.length) : total (l.take (k + 1)) = total (l.take k) + l[k].t.length := by
  rw [List.take_succ_eq_append_getElem hk]
  simp only [total, List.map_append, List.sum_append, List.map_cons, List.map_nil, List.sum_cons, List.sum_nil]
  omega

theorem more_below {w wr w1 : World} {n : Nat} {o : Obj} (h : Below (n + 1) (w.alloc o) wr) (hn : n = w.heap.size) (hb : Below wr.heap.size wr w1) : Below (n + 1) (w.alloc o) w1 :=
  h.trans (hb.mono (by have := h.size; simp at this; omega))
end Go.Proofs.YtmeipangcgdinaaGreatDoor
/-
  Files that a call has gathered itself, by append: rows of three cells a file.
-/
namespace Go.Proofs.YtmeipangcgdinaaGreatDoor
open Go.RowKit Go.Shelf

def fcells (f : F) : List Value := [sv f.p, .bool f.r, sv f.t]
def lcells (l : List F) : List Value := l.flatMap fcells

theorem lcells_length (l : List F) : (lcells l).length = l.length * 3 := by
  induction l with
  | nil => rfl
  | cons f l ih => simp only [lcells, List.flatMap_cons, List.length_append, List.length_cons] at ih ⊢; simp only [fcells, List.length_cons, List.length_nil]; omega

theorem lcells_app (a b : List F) : lcells (a ++ b) = lcells a ++ lcells b := by simp [lcells]

theorem lcells_at : ∀ (l : List F) (k : Nat) (h : k < l.length) (j : Nat), j < 3 → (lcells l)[k * 3 + j]? = (fcells l[k])[j]?
  | [], k, h, _, _ => by simp at h
  | f :: l, 0, _, j, hj => by
    show (fcells f ++ lcells l)[0 * 3 + j]? = (fcells f)[j]?
    rw [Nat.zero_mul, Nat.zero_add, List.getElem?_append_left (by simp [fcells]; omega)]
  | f :: l, k + 1, h, j, hj => by
    have ih := lcells_at l k (by simpa using h) j hj
    show (fcells f ++ lcells l)[(k + 1) * 3 + j]? = _
    rw [List.getElem?_append_right (by simp [fcells]; omega)]
    have : (k + 1) * 3 + j - (fcells f).length = k * 3 + j := by simp [fcells]; omega
    rw [this, ih]
    rfl

theorem owns_keep {w w' : World} {base : Nat} {e : TypeId} {size : Nat} {v : Value} {n : Nat} {xs : List Value} (h : w.ownsRow base e size v n xs) (hk : ∀ g, base ≤ g → g < w.heap.size → w'.heap[g]? = w.heap[g]?) : w'.ownsRow base e size v n xs := by
  refine ⟨h.1, ?_⟩
  rcases h.2 with h0 | ⟨g, cap, cur, hv, hg, hh, h1, h2, h3, h4⟩
  · exact .inl h0
  · exact .inr ⟨g, cap, cur, hv, hg, by rw [hk g hg (Array.getElem?_eq_some_iff.1 hh).1]; exact hh, h1, h2, h3, h4⟩

theorem owns_below {w w' : World} {base : Nat} {e : TypeId} {size : Nat} {v : Value} {n : Nat} {xs : List Value} (h : w.ownsRow base e size v n xs) (hb : Below w.heap.size w w') : w'.ownsRow base e size v n xs :=
  owns_keep h fun g _ hg => hb.block g hg

/-- A row of the call's own, behind the two stores into the result's cells. -/
theorem owns_slot {w : World} {b : Nat} {e : TypeId} {size : Nat} {v : Value} {n : Nat} {xs : List Value} (x y : Value) (h : w.ownsRow (b + 1) e size v n xs) : ((w.setCell ⟨b, 0, none⟩ x).setCell ⟨b, 1, none⟩ y).ownsRow b e size v n xs :=
  (owns_keep h fun g hg _ => (Below.heap_setCell _ _ _ _ (by show g ≠ b; omega)).trans (Below.heap_setCell _ _ _ _ (by show g ≠ b; omega))).mono (Nat.le_succ _)

theorem cells_new (w : World) (f : F) (T : TypeId) : ∀ j u, (fcells f)[j]? = some u → (w.alloc (.cells #[sv f.p, .bool f.r, sv f.t] T)).cell? ((⟨w.heap.size, 0, none⟩ : Addr).add j) = some u := by
  intro j u h
  have hn := heap_new w (.cells #[sv f.p, .bool f.r, sv f.t] T)
  have hc : ∀ k, (w.alloc (.cells #[sv f.p, .bool f.r, sv f.t] T)).cell? ⟨w.heap.size, k, none⟩ = #[sv f.p, .bool f.r, sv f.t][k]? := fun k => by
    unfold World.cell?
    rw [hn]
    rfl
  rcases j with _ | _ | _ | j
  · exact (hc 0).trans h
  · exact (hc (0 + 1)).trans h
  · exact (hc (0 + 2)).trans h
  · simp [fcells] at h

end Go.Proofs.YtmeipangcgdinaaGreatDoor
