/-
  A file put into a sorted list; where a file is put: facts on lists. No Go text is spoken of here.
-/
import Derived.Test.YtkcjgncpcidfoaaDoorTreeFacts
namespace Go.Proofs.YtkcjgncpcidfoaaDoor

theorem insert_perm (s : List F) (x : F) (j : Nat) : (s.take j ++ x :: s.drop j).Perm (s ++ [x]) := by
  have h1 : (s.take j ++ x :: s.drop j).Perm (x :: (s.take j ++ s.drop j)) := List.perm_middle
  rw [List.take_append_drop] at h1
  exact h1.trans (List.perm_append_comm (l₁ := [x]) (l₂ := s))

theorem insert_weak {s : List F} {x : F} {j : Nat} (hs : Weak s) (hj : j ≤ s.length) (hlow : ∀ h : 0 < j, less x.p (s[j - 1]'(by omega)).p = false) (hup : ∀ m (h : m < s.length), j ≤ m → less x.p s[m].p = true) :
    Weak (s.take j ++ x :: s.drop j) := by
  have hp := List.pairwise_iff_getElem.1 hs
  have hbefore : ∀ a ∈ s.take j, less x.p a.p = false := fun a ha => by
    obtain ⟨i, hi, rfl⟩ := List.getElem_of_mem ha
    rw [List.length_take] at hi
    rw [List.getElem_take]
    have hj0 : 0 < j := by omega
    by_cases e : i = j - 1
    · subst e; exact hlow hj0
    · exact less_weak (hp i (j - 1) (by omega) (by omega) (by omega)) (hlow hj0)
  have hbehind : ∀ b ∈ s.drop j, less b.p x.p = false := fun b hb => by
    obtain ⟨i, hi, rfl⟩ := List.getElem_of_mem hb
    rw [List.length_drop] at hi
    rw [List.getElem_drop]
    exact less_asymm (hup (j + i) (by omega) (by omega))
  refine List.pairwise_append.2 ⟨hs.sublist (List.take_sublist _ _), List.pairwise_cons.2 ⟨hbehind, hs.sublist (List.drop_sublist _ _)⟩, fun a ha b hb => ?_⟩
  rcases List.mem_cons.1 hb with rfl | hb
  · exact hbefore a ha
  · exact less_weak (hbefore a ha) (hbehind b hb)

/-- Where the first file stands that is not below a path. -/
theorem while_at {l : List F} {q : List UInt8} : ∀ {j : Nat}, j ≤ l.length → (∀ i (h : i < l.length), i < j → less l[i].p q = true) → (∀ h : j < l.length, less l[j].p q = false) →
    l.takeWhile (fun f => less f.p q) = l.take j ∧ l.dropWhile (fun f => less f.p q) = l.drop j := by
  induction l with
  | nil => intro j _ _ _; simp
  | cons f l ih =>
    intro j hj hb he
    cases j with
    | zero =>
      have h := he (by simp)
      simp only [List.getElem_cons_zero] at h
      simp [h]
    | succ j =>
      have h := hb 0 (by simp) (by omega)
      simp only [List.getElem_cons_zero] at h
      have := ih (j := j) (by simpa using hj) (fun i hi hij => by have := hb (i + 1) (by simp; omega) (by omega); simpa using this) (fun hi => by have := he (by simp; omega); simpa using this)
      simp [h, this]

theorem with_at {l : List F} {x : F} {j : Nat} (hj : j ≤ l.length) (hb : ∀ i (h : i < l.length), i < j → less l[i].p x.p = true) (he : ∀ h : j < l.length, less l[j].p x.p = false) :
    withF l x = l.take j ++ x :: behind x.p (l.drop j) := by
  obtain ⟨h1, h2⟩ := while_at hj hb he
  unfold withF
  rw [h1, h2]

theorem behind_same {l : List F} {q : List UInt8} {j : Nat} (h : j < l.length) (e : l[j].p = q) : behind q (l.drop j) = l.drop (j + 1) := by
  rw [List.drop_eq_getElem_cons h]
  simp [behind, e]
theorem behind_other {l : List F} {q : List UInt8} {j : Nat} (h : ∀ h : j < l.length, l[j].p ≠ q) : behind q (l.drop j) = l.drop j := by
  by_cases hj : j < l.length
  · rw [List.drop_eq_getElem_cons hj]
    simp [behind, h hj]
  · rw [List.drop_of_length_le (by omega)]
    rfl

end Go.Proofs.YtkcjgncpcidfoaaDoor
