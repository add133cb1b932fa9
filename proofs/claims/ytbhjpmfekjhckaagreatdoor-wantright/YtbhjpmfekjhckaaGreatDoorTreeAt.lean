/-
  Where a path stands in a rising list: facts on lists of files. No Go text is spoken of here.
-/
import Derived.Test.YtbhjpmfekjhckaaGreatDoorTreePureTreeSortTreeFactsTreeInsertGraftFine
namespace Go.Proofs.YtbhjpmfekjhckaaGreatDoor

theorem rise_at {l : List F} (h : Rise l) {i j : Nat} (hij : i < j) (hj : j < l.length) : less (l[i]'(by omega)).p l[j].p = true :=
  List.pairwise_iff_getElem.1 h i j (by omega) hj hij

theorem less_before {l : List F} (h : Rise l) {q : List UInt8} {i j : Nat} (hij : i ≤ j) (hj : j < l.length) (hq : less l[j].p q = true) : less (l[i]'(by omega)).p q = true := by
  by_cases e : i = j
  · subst e; exact hq
  · exact less_trans (rise_at h (by omega) hj) hq

theorem less_behind {l : List F} (h : Rise l) {q : List UInt8} {i j : Nat} (hij : i ≤ j) (hj : j < l.length) (hq : less (l[i]'(by omega)).p q = false) : less l[j].p q = false := by
  cases e : less l[j].p q with
  | false => rfl
  | true => rw [less_before h hij hj e] at hq; cases hq

/-- Where a path is, or would be. -/
structure Place (l : List F) (q : List UInt8) (j : Nat) : Prop where
  le : j ≤ l.length
  low : ∀ i (h : i < l.length), i < j → less l[i].p q = true
  high : ∀ h : j < l.length, less l[j].p q = false

/-- Is it there? -/
def there (l : List F) (q : List UInt8) (j : Nat) : Bool := match l[j]? with | some f => f.p == q | none => false

theorem there_true {l : List F} {q : List UInt8} {j : Nat} (h : there l q j = true) : ∃ h : j < l.length, l[j].p = q := by
  unfold there at h
  split at h
  · rename_i f e
    obtain ⟨hj, e'⟩ := List.getElem?_eq_some_iff.1 e
    exact ⟨hj, by rw [e']; simpa using h⟩
  · cases h
theorem there_false {l : List F} {q : List UInt8} {j : Nat} (h : there l q j = false) (hj : j < l.length) : l[j].p ≠ q := by
  unfold there at h
  rw [List.getElem?_eq_getElem hj] at h
  simpa using h
theorem there_at {l : List F} {q : List UInt8} {j : Nat} (hj : j < l.length) : there l q j = (l[j].p == q) := by
  unfold there
  rw [List.getElem?_eq_getElem hj]
theorem there_end {l : List F} {q : List UInt8} {j : Nat} (hj : ¬ j < l.length) : there l q j = false := by
  unfold there
  rw [List.getElem?_eq_none (by omega)]

theorem without_there {l : List F} {q : List UInt8} {j : Nat} (h : Rise l) (P : Place l q j) (ht : there l q j = true) : without l q = l.take j ++ l.drop (j + 1) := by
  obtain ⟨hj, e⟩ := there_true ht
  have hl : l = l.take j ++ l[j] :: l.drop (j + 1) := by rw [← List.drop_eq_getElem_cons hj, List.take_append_drop]
  have h1 : (l.take j).filter (fun f => !(f.p == q)) = l.take j := List.filter_eq_self.2 fun f hf => by
    obtain ⟨i, hi, rfl⟩ := List.getElem_of_mem hf
    rw [List.length_take] at hi
    rw [List.getElem_take]
    simp [less_ne (P.low i (by omega) (by omega))]
  have h2 : (l.drop (j + 1)).filter (fun f => !(f.p == q)) = l.drop (j + 1) := List.filter_eq_self.2 fun f hf => by
    obtain ⟨i, hi, rfl⟩ := List.getElem_of_mem hf
    rw [List.length_drop] at hi
    rw [List.getElem_drop]
    have := less_ne (rise_at h (i := j) (j := j + 1 + i) (by omega) (by omega))
    rw [e] at this
    simp [Ne.symm this]
  have h3 : (l[j] :: l.drop (j + 1)).filter (fun f => !(f.p == q)) = l.drop (j + 1) := by
    rw [List.filter_cons, if_neg (by simp [e]), h2]
  have : without l q = (l.take j ++ l[j] :: l.drop (j + 1)).filter (fun f => !(f.p == q)) := by rw [← hl]; rfl
  rw [this, List.filter_append, h1, h3]

theorem none_there {l : List F} {q : List UInt8} {j : Nat} (h : Rise l) (P : Place l q j) (ht : there l q j = false) : ∀ f ∈ l, f.p ≠ q := fun f hf => by
  obtain ⟨i, hi, rfl⟩ := List.getElem_of_mem hf
  by_cases hij : i < j
  · exact less_ne (P.low i hi hij)
  · have hj : j < l.length := by omega
    have hn := there_false ht hj
    have hq : less q l[j].p = true := by
      cases e : less q l[j].p with
      | true => rfl
      | false => exact absurd (less_total (P.high hj) e) hn
    by_cases e : i = j
    · subst e; exact hn
    · exact (less_ne (less_trans hq (rise_at h (i := j) (j := i) (by omega) hi))).symm

theorem without_absent {l : List F} {q : List UInt8} {j : Nat} (h : Rise l) (P : Place l q j) (ht : there l q j = false) : without l q = l :=
  List.filter_eq_self.2 fun f hf => by simp [none_there h P ht f hf]

theorem drop_there {l : List F} {q : List UInt8} {j : Nat} (hz : (treeFault l).1 = 0) (h : Rise l) (P : Place l q j) (ht : there l q j = true) : dropT l q = (l.take j ++ l.drop (j + 1), 0, -1) := by
  obtain ⟨hj, _⟩ := there_true ht
  have e := without_there h P ht
  have hl : ¬ (without l q).length = l.length := by
    rw [e, List.length_append, List.length_take, List.length_drop]
    omega
  unfold dropT
  rw [if_neg (by simp [hz]), if_neg hl, e]
theorem drop_absent {l : List F} {q : List UInt8} {j : Nat} (hz : (treeFault l).1 = 0) (h : Rise l) (P : Place l q j) (ht : there l q j = false) : dropT l q = ([], 6, -1) := by
  unfold dropT
  rw [if_neg (by simp [hz]), if_pos (by rw [without_absent h P ht])]

theorem with_there {l : List F} {x : F} {j : Nat} (P : Place l x.p j) (ht : there l x.p j = true) : withF l x = l.take j ++ x :: l.drop (j + 1) := by
  obtain ⟨hj, e⟩ := there_true ht
  rw [with_at P.le P.low P.high, behind_same hj e]
theorem with_absent {l : List F} {x : F} {j : Nat} (P : Place l x.p j) (ht : there l x.p j = false) : withF l x = l.take j ++ x :: l.drop j := by
  rw [with_at P.le P.low P.high, behind_other fun h => there_false ht h]

theorem tree_rise {l : List F} (h : (treeFault l).1 = 0) : Rise l := (tree_good.1 h).1.rise
theorem checkCode_le (s : List UInt8) : checkCode s ≤ 13 := by
  unfold checkCode
  repeat' split
  all_goals omega
theorem fileCode_le (pre : List F) (f : F) : fileCode pre f ≤ 13 := by
  have := checkCode_le f.p
  unfold fileCode
  repeat' split
  all_goals omega
theorem firstBad_le : ∀ {pre r : List F} {c i : Nat}, firstBad pre r = some (c, i) → c ≤ 13
  | _, [], _, _, h => by simp [firstBad] at h
  | pre, f :: r, c, i, h => by
    unfold firstBad at h
    split at h
    · simp only [Option.some.injEq, Prod.mk.injEq] at h
      rw [← h.1]
      exact fileCode_le _ _
    · exact firstBad_le h
theorem treeFault_le (l : List F) : (treeFault l).1 ≤ 13 := by
  unfold treeFault
  split
  · show (8 : Nat) ≤ 13; omega
  · split
    · rename_i c i h
      exact firstBad_le h
    · split <;> simp
end Go.Proofs.YtbhjpmfekjhckaaGreatDoor
