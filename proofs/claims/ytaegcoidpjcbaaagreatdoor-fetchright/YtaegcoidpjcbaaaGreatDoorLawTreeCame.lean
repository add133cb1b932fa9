/-
  Own texts of the proof, joined by program: LawTree, Came.
-/
import Derived.Test.YtaegcoidpjcbaaaGreatDoorTreeOwn
import Derived.Test.YtaegcoidpjcbaaaGreatDoorTreePureTreeSortTreeFactsTreeInsertTreeAt
/-
  The law package's LongFiles and OwnFiles: over this seat's translation.
-/
namespace Go.Proofs.YtaegcoidpjcbaaaGreatDoor
open Go.RowKit Go.Shelf

def longF (f : F) : Bool := decide (100 < f.p.length) || (decide (200 < f.t.length) && !decide (f.t.length = 4000) && !decide (f.t.length = 4001))
def longL (l : List F) : Nat := if 25 < l.length ∧ l.length ≠ 31 then 1 else if l.any longF then 1 else 0

theorem longL_zero {l : List F} (h : longL l = 0) : (l.length ≤ 25 ∨ l.length = 31) ∧ ∀ f ∈ l, f.p.length ≤ 100 ∧ (f.t.length ≤ 200 ∨ f.t.length = 4000 ∨ f.t.length = 4001) := by
  unfold longL at h
  by_cases h1 : 25 < l.length ∧ l.length ≠ 31
  · rw [if_pos h1] at h; cases h
  · rw [if_neg h1] at h
    by_cases h2 : l.any longF = true
    · rw [if_pos h2] at h; cases h
    · refine ⟨by omega, fun f hf => ?_⟩
      have : longF f = false := by
        cases hl : longF f with
        | false => rfl
        | true => exact absurd (List.any_eq_true.2 ⟨f, hf, hl⟩) h2
      simp [longF] at this
      omega

/-- The cells of files that lie from an address on. -/
theorem LiesAt.news {w : World} {ad : Addr} {l : List F} (h : LiesAt w (some ad) l) : ∀ j u, (lcells l)[j]? = some u → w.cell? (ad.add j) = some u := by
  intro j u hj
  have hjl : j < (lcells l).length := (List.getElem?_eq_some_iff.1 hj).1
  rw [lcells_length] at hjl
  have hk : j / 3 < l.length := by omega
  obtain ⟨b, o, e, c0, c1, c2⟩ := h.at hk
  cases e
  have ej : j = j / 3 * 3 + j % 3 := by omega
  have hm : j % 3 < 3 := Nat.mod_lt _ (by decide)
  rw [ej, lcells_at l (j / 3) hk (j % 3) hm] at hj
  have ha : (⟨b, o, none⟩ : Addr).add j = ⟨b, o + j, none⟩ := by
    unfold Addr.add
    by_cases hz : j = 0
    · simp [hz]
    · simp [hz]
  rw [ha]
  have hoj : o + j = o + j / 3 * 3 + j % 3 := by omega
  rw [hoj]
  rcases (show j % 3 = 0 ∨ j % 3 = 1 ∨ j % 3 = 2 by omega) with hr | hr | hr
  · rw [hr] at hj ⊢; exact c0.trans hj
  · rw [hr] at hj ⊢; exact c1.trans hj
  · rw [hr] at hj ⊢; exact c2.trans hj

theorem lcells_one (l : List F) : ∀ u ∈ lcells l, u.oneCell' = true := by
  intro u hu
  simp only [lcells, List.mem_flatMap] at hu
  obtain ⟨f, _, hf⟩ := hu
  simp only [fcells, List.mem_cons, List.not_mem_nil, or_false] at hf
  rcases hf with rfl | rfl | rfl <;> rfl

end Go.Proofs.YtaegcoidpjcbaaaGreatDoor
/-
  Files that came in, as an argument: what a walk asks of them; those that are not too long are few and small: over this seat's translation.
-/
namespace Go.Proofs.YtaegcoidpjcbaaaGreatDoor
open Go.RowKit Go.Shelf

theorem longL_or (l : List F) : (longL l : Int) = 0 ∨ (longL l : Int) = 1 := by
  unfold longL
  repeat' split
  all_goals simp

/-- What is asked of files that came in. -/
structure Came (w : World) (a : Option Addr) (ca : Nat) (l : List F) : Prop where
  lies : LiesAt w a l
  cap : l.length ≤ ca
  len : l.length ≤ maxLen
  texts : ∀ f ∈ l, f.p.length ≤ maxLen ∧ f.t.length ≤ maxLen
  nil : a = none → ca = 0 ∧ l = []

theorem Came.below {w w' : World} {a : Option Addr} {ca : Nat} {l : List F} (h : Came w a ca l) (hb : Below w.heap.size w w') : Came w' a ca l := ⟨h.lies.below hb, h.cap, h.len, h.texts, h.nil⟩

theorem small_of_long {l : List F} (h : (longL l : Int) = 0) : Small l := by
  obtain ⟨h1, h2⟩ := longL_zero (l := l) (by omega)
  exact ⟨by omega, fun f hf => by have := (h2 f hf).1; omega, fun f hf => by have := (h2 f hf).2; omega⟩

theorem tree_small {l : List F} (h : (treeFault l).1 = 0) : Small l := by
  obtain ⟨g, hn, _⟩ := tree_good.1 h
  exact ⟨by omega, fun f hf => by have := path_short (g.right f hf).1; omega, fun f hf => by have := (g.right f hf).2; omega⟩

end Go.Proofs.YtaegcoidpjcbaaaGreatDoor
