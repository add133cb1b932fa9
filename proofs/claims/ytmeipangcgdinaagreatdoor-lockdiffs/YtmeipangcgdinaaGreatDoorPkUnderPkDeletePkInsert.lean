/-
  Own texts of the proof, joined by program: PkUnder, PkDelete, PkInsert.
-/
import Derived.Test.YtmeipangcgdinaaGreatDoorPkClonePkFindPkSortFnPkSort
import Derived.Test.YtmeipangcgdinaaGreatDoorTreePureTreeSortTreeFactsTreeInsertTreeAt
import Derived.Shelf.Spec.SlicesInsert
import Derived.Deep.RegionLaw
import Derived.Shelf.RegionOpenPlain
import Derived.Lib.AppendZerosOnto
import Derived.Laws.NewBlocks
import Derived.Lib.Overlaps
import Derived.Laws.Externs
/-
  Package tree's Under: over this seat's translation.
-/
namespace Go.Proofs.YtmeipangcgdinaaGreatDoor
open Go.RowKit Go.Shelf

theorem underL_take {l : List F} {k : Nat} (dir : List UInt8) (hk : k < l.length) : underL (l.take (k + 1)) dir = underL (l.take k) dir ++ (if isIn l[k].p dir = true then [cutF dir l[k]] else []) := by
  rw [List.take_succ_eq_append_getElem hk]
  unfold underL
  rw [List.filter_append, List.map_append]
  by_cases h : isIn l[k].p dir = true
  · rw [if_pos h, List.filter_cons, if_pos h]; rfl
  · rw [if_neg h, List.filter_cons, if_neg h]; rfl

theorem cut_path {f : F} {dir : List UInt8} (h : isIn f.p dir = true) : Lib.trimPrefix f.p (dir ++ [47]) = (cutF dir f).p := by
  simp only [isIn, Bool.and_eq_true, Bool.or_eq_true, decide_eq_true_eq] at h
  by_cases hd : dir = []
  · subst hd
    have hh := (clean_self h.1).1
    have : Lib.hasPrefix f.p [47] = false := by
      cases hp : Lib.hasPrefix f.p [47] with
      | false => rfl
      | true =>
        have hp' : [47] <+: f.p := by simpa [Lib.hasPrefix] using hp
        obtain ⟨t, ht⟩ := hp'
        rw [← ht] at hh
        simp at hh
    simp [Lib.trimPrefix, cutF, this]
  · have hp : Lib.hasPrefix f.p (dir ++ [47]) = true := by
      rcases h.2 with h' | h'
      · exact absurd (List.isEmpty_iff.1 h') hd
      · exact h'
    simp [Lib.trimPrefix, cutF, hd, hp]

theorem box_set {W : World} {b : Nat} {x y z : Value} (u : Value) (g0 : W.cell? ⟨b, 0, none⟩ = some x) (g1 : W.cell? ⟨b, 1, none⟩ = some y) (g2 : W.cell? ⟨b, 2, none⟩ = some z) :
    (W.setCell ⟨b, 0, none⟩ u).cell? ⟨b, 0, none⟩ = some u ∧ (W.setCell ⟨b, 0, none⟩ u).cell? ⟨b, 1, none⟩ = some y ∧ (W.setCell ⟨b, 0, none⟩ u).cell? ⟨b, 2, none⟩ = some z := by
  refine ⟨World.cell?_setCell_same' _ _ _ (by rw [g0]; rfl), ?_, ?_⟩
  · rw [World.cell?_setCell_other (h := by simp), g1]
  · rw [World.cell?_setCell_other (h := by simp), g2]

theorem box_frozen {w w' : World} {x y z : Value} {T : TypeId} (h : Below (w.heap.size + 1) (w.alloc (.cells #[x, y, z] T)) w') (j : Nat) : w'.frozen? ⟨w.heap.size, j, none⟩ = false := by
  have e := h.block w.heap.size (Nat.lt_succ_self _)
  rw [heap_new] at e
  simp [World.frozen?, e]

/-- A row of the call's own, behind a store into a later block. -/
theorem owns_later {w w1 : World} {base b j : Nat} {e : TypeId} {size : Nat} {v : Value} {n : Nat} {xs : List Value} (u : Value) (h : w.ownsRow base e size v n xs) (hb : Below w.heap.size w w1) (hbb : w.heap.size ≤ b) : (w1.setCell ⟨b, j, none⟩ u).ownsRow base e size v n xs :=
  owns_keep h fun g _ hg => (Below.heap_setCell _ _ _ _ (by show g ≠ b; omega)).trans (hb.block g hg)

theorem three_new (W : World) (x y z : Value) (T : TypeId) (n : Nat) (hn : n = W.heap.size) : ∀ j u, [x, y, z][j]? = some u → (W.alloc (.cells #[x, y, z] T)).cell? ((⟨n, 0, none⟩ : Addr).add j) = some u := by
  subst hn
  intro j u h
  have hn := heap_new W (.cells #[x, y, z] T)
  have hc : ∀ k, (W.alloc (.cells #[x, y, z] T)).cell? ⟨W.heap.size, k, none⟩ = #[x, y, z][k]? := fun k => by
    unfold World.cell?
    rw [hn]
    rfl
  rcases j with _ | _ | _ | j
  · exact (hc 0).trans h
  · exact (hc (0 + 1)).trans h
  · exact (hc (0 + 2)).trans h
  · simp at h

end Go.Proofs.YtmeipangcgdinaaGreatDoor
/-
  Package slices' Delete of one file, package tree's Drop: over this seat's translation.
-/
namespace Go.Proofs.YtmeipangcgdinaaGreatDoor
open Go.RowKit Go.Shelf Go.Lib

theorem lies_of_cells {w : World} {g : Nat} {m : List F} (h : ∀ t u, (lcells m)[t]? = some u → w.cell? ⟨g, t, none⟩ = some u) : LiesAt w (some ⟨g, 0, none⟩) m := fun _ => by
  refine ⟨g, 0, rfl, fun k hk => ?_⟩
  have hc : ∀ j, j < 3 → ∀ u, (fcells m[k])[j]? = some u → w.cell? ⟨g, 0 + k * 3 + j, none⟩ = some u := fun j hj u hu => by
    rw [Nat.zero_add]
    refine h _ u ?_
    rw [lcells_at m k hk j hj]
    exact hu
  exact ⟨by simpa using hc 0 (by omega) _ rfl, by simpa using hc 1 (by omega) _ rfl, by simpa using hc 2 (by omega) _ rfl⟩

theorem below_cells {base : Nat} {w0 w : World} (h : Below base w0 w) {g : Nat} (hg : base ≤ g) : ∀ (vs : List Value) (o : Nat), Below base w0 (w.setCells g o vs)
  | [], _ => h
  | v :: r, o => by
    rw [World.setCells]
    exact below_cells (h.setCell (p := ⟨g, o, none⟩) hg v) hg r (o + 1)

end Go.Proofs.YtmeipangcgdinaaGreatDoor
/-
  Package slices' Insert of one file: over this seat's translation.
-/
namespace Go.Proofs.YtmeipangcgdinaaGreatDoor
open Go.RowKit Go.Shelf Go.Lib

theorem lcells_cut (l : List F) (j : Nat) : lcells l = lcells (l.take j) ++ lcells (l.drop j) := by rw [← lcells_app, List.take_append_drop]
theorem lcells_take_length {l : List F} {j : Nat} (hj : j ≤ l.length) : (lcells (l.take j)).length = j * 3 := by rw [lcells_length, List.length_take]; congr 1; omega

/-- What lies where a file was put between. -/
theorem lies_between {w : World} {g j : Nat} {l : List F} {x : F} (hj : j ≤ l.length) (h0 : ∀ t u, t < j * 3 → (lcells (l.take j))[t]? = some u → w.cell? ⟨g, t, none⟩ = some u)
    (h1 : ∀ t u, (fcells x)[t]? = some u → w.cell? ⟨g, j * 3 + t, none⟩ = some u) (h2 : ∀ t u, (lcells (l.drop j))[t]? = some u → w.cell? ⟨g, (j + 1) * 3 + t, none⟩ = some u) : LiesAt w (some ⟨g, 0, none⟩) (l.take j ++ x :: l.drop j) := by
  refine lies_of_cells fun t u hu => ?_
  have e : lcells (l.take j ++ x :: l.drop j) = lcells (l.take j) ++ (fcells x ++ lcells (l.drop j)) := by rw [lcells_app]; rfl
  rw [e] at hu
  have hl := lcells_take_length hj
  by_cases ht : t < j * 3
  · rw [List.getElem?_append_left (by omega)] at hu
    exact h0 t u ht hu
  · rw [List.getElem?_append_right (by omega), hl] at hu
    by_cases ht3 : t - j * 3 < 3
    · rw [List.getElem?_append_left (by simp [fcells]; omega)] at hu
      have := h1 (t - j * 3) u hu
      rwa [show j * 3 + (t - j * 3) = t by omega] at this
    · have h3 : (fcells x).length = 3 := rfl
      rw [List.getElem?_append_right (by omega), h3] at hu
      have := h2 (t - j * 3 - 3) u hu
      rwa [show (j + 1) * 3 + (t - j * 3 - 3) = t by omega] at this

end Go.Proofs.YtmeipangcgdinaaGreatDoor
