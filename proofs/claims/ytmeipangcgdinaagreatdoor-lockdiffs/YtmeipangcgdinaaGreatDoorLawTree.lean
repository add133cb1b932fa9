/-
  The law package's LongFiles and OwnFiles: over this seat's translation.
-/
import Derived.Test.YtmeipangcgdinaaGreatDoorTreeMemTreeSlotsTreeOwn
namespace Go.Proofs.YtmeipangcgdinaaGreatDoor
open Go.RowKit Go.Shelf

def longF (f : F) : Bool := decide (100 < f.p.length) || (decide (200 < f.t.length) && !decide (f.t.length = 4000) && !decide (f.t.length = 4001))
def longL (l : List F) : Nat := if 25 < l.length ∧ l.length ≠ 31 then 1 else if l.any longF then 1 else 0

theorem longL_zero {l : List F} (h : longL l = 0) : (l.length ≤ 25 ∨ l.length = 31) ∧ ∀ f ∈ l, f.p.length ≤ 100 ∧ (f.t.length ≤ 200 ∨ f.t.length = 4000 ∨ f.t.length = 4001) := by
  unfold longL at h
  by_cases h1 : 25 < l.length ∧ l.length ≠ 31
  · rw [if_pos h1] at h; cases h
  · rw [if_neg h1] at h
    by_cases h2 : l.any longF = true
    · rw [if_pos h2] at h; cases h
    · refine ⟨by omega, fun f hf => ?_⟩
      have : longF f = false := by
        cases hl : longF f with
        | false => rfl
        | true => exact absurd (List.any_eq_true.2 ⟨f, hf, hl⟩) h2
      simp [longF] at this
      omega

/-- The cells of files that lie from an address on. -/
theorem LiesAt.news {w : World} {ad : Addr} {l : List F} (h : LiesAt w (some ad) l) : ∀ j u, (lcells l)[j]? = some u → w.cell? (ad.add j) = some u := by
  intro j u hj
  have hjl : j < (lcells l).length := (List.getElem?_eq_some_iff.1 hj).1
  rw [lcells_length] at hjl
  have hk : j / 3 < l.length := by omega
  obtain ⟨b, o, e, c0, c1, c2⟩ := h.at hk
  cases e
  have ej : j = j / 3 * 3 + j % 3 := by omega
  have hm : j % 3 < 3 := Nat.mod_lt _ (by decide)
  rw [ej, lcells_at l (j / 3) hk (j % 3) hm] at hj
  have ha : (⟨b, o, none⟩ : Addr).add j = ⟨b, o + j, none⟩ := by
    unfold Addr.add
    by_cases hz : j = 0
    · simp [hz]
    · simp [hz]
  rw [ha]
  have hoj : o + j = o + j / 3 * 3 + j % 3 := by omega
  rw [hoj]
  rcases (show j % 3 = 0 ∨ j % 3 = 1 ∨ j % 3 = 2 by omega) with hr | hr | hr
  · rw [hr] at hj ⊢; exact c0.trans hj
  · rw [hr] at hj ⊢; exact c1.trans hj
  · rw [hr] at hj ⊢; exact c2.trans hj

theorem lcells_one (l : List F) : ∀ u ∈ lcells l, u.oneCell' = true := by
  intro u hu
  simp only [lcells, List.mem_flatMap] at hu
  obtain ⟨f, _, hf⟩ := hu
  simp only [fcells, List.mem_cons, List.not_mem_nil, or_false] at hf
  rcases hf with rfl | rfl | rfl <;> rfl

end Go.Proofs.YtmeipangcgdinaaGreatDoor
