/-
  Locks, plainly: checked, searched, set: no machine.
-/
import Derived.Test.YtmeipangcgdinaaGreatDoorPackPurePackFactsWantPure
import Derived.Test.YtmeipangcgdinaaGreatDoorTreePureTreeSortTreeFactsTreeInsertTreeAt
namespace Go.Proofs.YtmeipangcgdinaaGreatDoor

/-- The number of the error of a want behind those ahead of it (0: none). -/
def nextCode (pre : List Wt) (x : Wt) : Nat :=
  if wantCode x ≠ 0 then wantCode x else if pre ≠ [] ∧ less ((pre.getLast?.map (·.n)).getD []) x.n = false then 9 else 0
def firstBadW : List Wt → List Wt → Option (Nat × Nat)
  | _, [] => none
  | pre, x :: r => if nextCode pre x ≠ 0 then some (nextCode pre x, pre.length) else firstBadW (pre ++ [x]) r
/-- A lock's fault: an error's number (0: none), and where (-1: nowhere). -/
def lockFault (l : List Wt) : Nat × Int :=
  if 20 < l.length then (8, -1) else match firstBadW [] l with
    | some (c, i) => (c, i)
    | none => (0, -1)

theorem firstBadW_some {l : List Wt} : ∀ {k : Nat} {pre : List Wt} {r : List Wt}, l = pre ++ r → (∀ i (h : i < r.length), i < k → nextCode (pre ++ r.take i) r[i] = 0) → (hk : k < r.length) → nextCode (pre ++ r.take k) r[k] ≠ 0 →
    firstBadW pre r = some (nextCode (pre ++ r.take k) r[k], pre.length + k)
  | k, pre, [], _, _, hk, _ => by simp at hk
  | 0, pre, f :: r, _, _, _, h => by
    simp at h
    simp [firstBadW, h]
  | k + 1, pre, f :: r, e, h0, hk, h => by
    have z := h0 0 (by simp) (by omega)
    simp at z
    have ih := firstBadW_some (l := l) (k := k) (pre := pre ++ [f]) (r := r) (by simp [e]) (fun i hi hik => by
      have := h0 (i + 1) (by simp; omega) (by omega)
      simpa using this) (by simpa using hk) (by simpa using h)
    simp [firstBadW, z, ih]
    omega
theorem firstBadW_none {l : List Wt} : ∀ {pre r : List Wt}, l = pre ++ r → (∀ i (h : i < r.length), nextCode (pre ++ r.take i) r[i] = 0) → firstBadW pre r = none
  | _, [], _, _ => rfl
  | pre, f :: r, e, h => by
    have z := h 0 (by simp)
    simp at z
    have ih := firstBadW_none (l := l) (pre := pre ++ [f]) (r := r) (by simp [e]) (fun i hi => by
      have := h (i + 1) (by simp; omega)
      simpa using this)
    simp [firstBadW, z, ih]
theorem lockFault_long {l : List Wt} (h : 20 < l.length) : lockFault l = (8, -1) := by simp [lockFault, h]
theorem lockFault_at {l : List Wt} {k : Nat} (hl : l.length ≤ 20) (hk : k < l.length) (h0 : ∀ i (h : i < l.length), i < k → nextCode (l.take i) l[i] = 0) (h : nextCode (l.take k) l[k] ≠ 0) :
    lockFault l = (nextCode (l.take k) l[k], (k : Int)) := by
  have := firstBadW_some (l := l) (pre := []) (r := l) rfl (by simpa using h0) hk (by simpa using h)
  simp [lockFault, Nat.not_lt.2 hl, this]
theorem lockFault_end {l : List Wt} (hl : l.length ≤ 20) (h0 : ∀ i (h : i < l.length), nextCode (l.take i) l[i] = 0) : lockFault l = (0, -1) := by
  have := firstBadW_none (l := l) (pre := []) (r := l) rfl (by simpa using h0)
  simp [lockFault, Nat.not_lt.2 hl, this]
theorem firstBadW_zero : ∀ {pre r : List Wt}, firstBadW pre r = none → ∀ i (h : i < r.length), nextCode (pre ++ r.take i) r[i] = 0
  | _, [], _, _, h => by simp at h
  | pre, f :: r, e, i, h => by
    by_cases z : nextCode pre f = 0
    · simp [firstBadW, z] at e
      have ih := firstBadW_zero e
      cases i with
      | zero => simpa using z
      | succ i => have := ih i (by simpa using h); simpa using this
    · simp [firstBadW, z] at e
theorem firstBadW_code : ∀ {pre r : List Wt} {c i : Nat}, firstBadW pre r = some (c, i) → c ≠ 0
  | _, [], _, _, h => by simp [firstBadW] at h
  | pre, f :: r, c, i, h => by
    by_cases z : nextCode pre f = 0
    · simp [firstBadW, z] at h
      exact firstBadW_code h
    · simp [firstBadW, z] at h
      omega
theorem next_le (pre : List Wt) (x : Wt) : nextCode pre x ≤ 9 := by
  have := want_le x
  unfold nextCode
  split
  · omega
  · split <;> omega
theorem next_want {pre : List Wt} {x : Wt} {k : Nat} (h : wantCode x = k + 1) : nextCode pre x = k + 1 := by unfold nextCode; rw [if_pos (by omega), h]
theorem next_first {x : Wt} (h : wantCode x = 0) : nextCode [] x = 0 := by unfold nextCode; rw [if_neg (by omega), if_neg (by simp)]
theorem next_order {pre : List Wt} {x : Wt} (h : wantCode x = 0) (h0 : 0 < pre.length) (hl : less (pre[pre.length - 1]'(by omega)).n x.n = false) : nextCode pre x = 9 := by
  have hlast : (pre.getLast?.map (·.n)).getD [] = (pre[pre.length - 1]'(by omega)).n := by
    rw [List.getLast?_eq_getElem?, List.getElem?_eq_getElem (by omega)]; rfl
  unfold nextCode
  rw [if_neg (by omega), hlast, if_pos ⟨List.length_pos_iff.1 h0, hl⟩]
theorem next_good {pre : List Wt} {x : Wt} (h : wantCode x = 0) (h0 : 0 < pre.length) (hl : less (pre[pre.length - 1]'(by omega)).n x.n = true) : nextCode pre x = 0 := by
  have hlast : (pre.getLast?.map (·.n)).getD [] = (pre[pre.length - 1]'(by omega)).n := by
    rw [List.getLast?_eq_getElem?, List.getElem?_eq_getElem (by omega)]; rfl
  unfold nextCode
  rw [if_neg (by omega), hlast, if_neg (by simp [hl])]

/-- A right lock. -/
structure Lock (l : List Wt) : Prop where
  few : l.length ≤ 20
  right : ∀ x ∈ l, wantCode x = 0
  rise : l.Pairwise fun x y => less x.n y.n = true
theorem Lock.nil : Lock [] := ⟨by simp, fun x h => by simp at h, .nil⟩
theorem rise_of_next {l : List Wt} (h : ∀ i (h : i + 1 < l.length), less l[i].n l[i + 1].n = true) : l.Pairwise fun x y => less x.n y.n = true := by
  rw [List.pairwise_iff_getElem]
  intro i j hi hj hij
  obtain ⟨d, rfl⟩ : ∃ d, j = i + 1 + d := ⟨j - i - 1, by omega⟩
  clear hij
  induction d with
  | zero => exact h i hj
  | succ d ih => exact less_trans (ih (by omega)) (h (i + 1 + d) (by omega))
theorem lock_iff {l : List Wt} : (lockFault l).1 = 0 ↔ Lock l := by
  constructor
  · intro h
    by_cases hl : 20 < l.length
    · rw [lockFault_long hl] at h; cases h
    · have hn : firstBadW [] l = none := by
        cases e : firstBadW [] l with
        | none => rfl
        | some r => obtain ⟨c, i⟩ := r; rw [lockFault, if_neg hl, e] at h; exact absurd h (firstBadW_code e)
      have hz := fun i hi => by simpa using firstBadW_zero hn i hi
      have hw : ∀ i (hi : i < l.length), wantCode l[i] = 0 := fun i hi => by
        have := hz i hi
        unfold nextCode at this
        split at this
        · omega
        · omega
      refine ⟨by omega, fun x hx => ?_, rise_of_next fun i hi => ?_⟩
      · obtain ⟨i, hi, rfl⟩ := List.mem_iff_getElem.1 hx
        exact hw i hi
      · have := hz (i + 1) hi
        cases e : less l[i].n l[i + 1].n with
        | true => rfl
        | false =>
          have hp : 0 < (l.take (i + 1)).length := by rw [List.length_take]; omega
          have hg : ((l.take (i + 1))[(l.take (i + 1)).length - 1]'(by omega)) = l[i] := by
            rw [List.getElem_take]
            congr 1
            rw [List.length_take]
            omega
          rw [next_order (hw _ hi) hp (by rw [hg]; exact e)] at this
          cases this
  · intro h
    rw [lockFault_end h.few fun i hi => ?_]
    have hw := h.right _ (List.getElem_mem hi)
    by_cases h0 : i = 0
    · subst h0
      simpa using next_first hw
    · have hp : 0 < (l.take i).length := by rw [List.length_take]; omega
      have hg : ((l.take i)[(l.take i).length - 1]'(by omega)) = l[i - 1] := by
        rw [List.getElem_take]
        congr 1
        rw [List.length_take]
        omega
      refine next_good hw hp ?_
      rw [hg]
      exact (List.pairwise_iff_getElem.1 h.rise) (i - 1) i (by omega) hi (by omega)
theorem lock_zero {l : List Wt} (h : Lock l) : lockFault l = (0, -1) := by
  have h0 := lock_iff.2 h
  unfold lockFault at h0 ⊢
  rw [if_neg (by have := h.few; omega)] at h0 ⊢
  cases e : firstBadW [] l with
  | none => rfl
  | some r => obtain ⟨c, i⟩ := r; rw [e] at h0; exact absurd h0 (firstBadW_code e)

/-- Where a name stands, or would stand. -/
def placeL (l : List Wt) (n : List UInt8) : Nat := (l.takeWhile fun y => less y.n n).length
theorem place_le (l : List Wt) (n : List UInt8) : placeL l n ≤ l.length := (List.takeWhile_prefix _).length_le
theorem place_is {l : List Wt} {n : List UInt8} {i : Nat} (hi : i ≤ l.length) (h0 : ∀ t (h : t < l.length), t < i → less l[t].n n = true) (h1 : ∀ h : i < l.length, less l[i].n n = false) : placeL l n = i := by
  induction l generalizing i with
  | nil => simp at hi; subst hi; rfl
  | cons x r ih =>
    unfold placeL
    cases i with
    | zero =>
      have := h1 (by simp)
      simp at this
      simp [this]
    | succ i =>
      have hx := h0 0 (by simp) (by omega)
      simp at hx
      have := ih (i := i) (by simpa using hi) (fun t ht hti => by have := h0 (t + 1) (by simp; omega) (by omega); simpa using this) (fun h => by have := h1 (by simp; omega); simpa using this)
      unfold placeL at this
      simp [hx, this]
theorem place_below {l : List Wt} {n : List UInt8} {t : Nat} (h : t < placeL l n) : ∃ ht : t < l.length, less l[t].n n = true := by
  have hl : t < l.length := Nat.lt_of_lt_of_le h (place_le l n)
  refine ⟨hl, ?_⟩
  have hm : (l.takeWhile fun y => less y.n n)[t]'h ∈ l.takeWhile fun y => less y.n n := List.getElem_mem _
  have := (List.all_eq_true.1 (List.all_takeWhile (p := fun y : Wt => less y.n n) (l := l))) _ hm
  have e : (l.takeWhile fun y => less y.n n)[t]'h = l[t] := (List.takeWhile_prefix _).getElem h
  rw [e] at this
  exact this
theorem place_at {l : List Wt} {n : List UInt8} (h : placeL l n < l.length) : less l[placeL l n].n n = false := by
  induction l with
  | nil => simp at h
  | cons x r ih =>
    unfold placeL at h ⊢
    cases hx : less x.n n with
    | false => simp [hx]
    | true =>
      simp [hx] at h ⊢
      exact ih h
/-- Is it there? -/
def thereL (l : List Wt) (n : List UInt8) : Bool := match l[placeL l n]? with | some y => y.n == n | none => false
/-- One want set. -/
def putL (l : List Wt) (x : Wt) : List Wt := if thereL l x.n then l.set (placeL l x.n) x else l.take (placeL l x.n) ++ x :: l.drop (placeL l x.n)
def setL (l : List Wt) (x : Wt) : List Wt × Nat × Int :=
  if (lockFault l).1 ≠ 0 then ([], lockFault l) else if wantCode x ≠ 0 then ([], wantCode x, -1)
  else if thereL l x.n = false ∧ l.length = 20 then ([], 8, -1) else (putL l x, 0, -1)
theorem setL_bad {l : List Wt} {x : Wt} (h : (lockFault l).1 ≠ 0) : setL l x = ([], lockFault l) := by unfold setL; rw [if_pos h]
theorem setL_want {l : List Wt} {x : Wt} {k : Nat} (h : (lockFault l).1 = 0) (h1 : wantCode x = k + 1) : setL l x = ([], k + 1, -1) := by unfold setL; rw [if_neg (by omega), if_pos (by omega), h1]
theorem setL_full {l : List Wt} {x : Wt} (h : (lockFault l).1 = 0) (h1 : wantCode x = 0) (h2 : thereL l x.n = false) (h3 : l.length = 20) : setL l x = ([], 8, -1) := by unfold setL; rw [if_neg (by omega), if_neg (by omega), if_pos ⟨h2, h3⟩]
theorem setL_there {l : List Wt} {x : Wt} (h : (lockFault l).1 = 0) (h1 : wantCode x = 0) (h2 : thereL l x.n = true) : setL l x = (l.set (placeL l x.n) x, 0, -1) := by unfold setL putL; rw [if_neg (by omega), if_neg (by omega), if_neg (by simp [h2]), if_pos h2]
theorem setL_new {l : List Wt} {x : Wt} (h : (lockFault l).1 = 0) (h1 : wantCode x = 0) (h2 : thereL l x.n = false) (h3 : l.length ≠ 20) : setL l x = (l.take (placeL l x.n) ++ x :: l.drop (placeL l x.n), 0, -1) := by unfold setL putL; rw [if_neg (by omega), if_neg (by omega), if_neg (by simp [h3]), if_neg (by simp [h2])]
theorem there_yes {l : List Wt} {n : List UInt8} (h : thereL l n = true) : ∃ h : placeL l n < l.length, l[placeL l n].n = n := by
  unfold thereL at h
  cases e : l[placeL l n]? with
  | none => rw [e] at h; cases h
  | some y =>
    rw [e] at h
    obtain ⟨hl, hy⟩ := List.getElem?_eq_some_iff.1 e
    exact ⟨hl, by rw [hy]; simpa using h⟩
theorem there_no {l : List Wt} {n : List UInt8} (h : thereL l n = false) (hl : placeL l n < l.length) : l[placeL l n].n ≠ n := by
  unfold thereL at h
  rw [List.getElem?_eq_getElem hl] at h
  simpa using h
theorem Lock.le {l : List Wt} (h : Lock l) {i j : Nat} (hi : i < l.length) (hj : j < l.length) (hij : i < j) : less l[i].n l[j].n = true := (List.pairwise_iff_getElem.1 h.rise) i j hi hj hij
theorem Lock.set {l : List Wt} (h : Lock l) {x : Wt} (hx : wantCode x = 0) {i : Nat} (hi : i < l.length) (hn : l[i].n = x.n) : Lock (l.set i x) := by
  refine ⟨by rw [List.length_set]; exact h.few, fun y hy => ?_, ?_⟩
  · rcases List.mem_or_eq_of_mem_set hy with hy | rfl
    · exact h.right y hy
    · exact hx
  · rw [List.pairwise_iff_getElem]
    intro a b ha hb hab
    simp only [List.length_set] at ha hb
    have := h.le ha hb hab
    rw [List.getElem_set, List.getElem_set]
    by_cases e1 : i = a
    · subst e1
      rw [if_pos rfl, if_neg (by omega), ← hn]
      exact this
    · rw [if_neg e1]
      by_cases e2 : i = b
      · subst e2
        rw [if_pos rfl, ← hn]
        exact this
      · rw [if_neg e2]
        exact this
theorem Lock.insert {l : List Wt} (h : Lock l) {x : Wt} (hx : wantCode x = 0) (h2 : thereL l x.n = false) (h3 : l.length ≠ 20) : Lock (l.take (placeL l x.n) ++ x :: l.drop (placeL l x.n)) := by
  have hp := place_le l x.n
  have hfew := h.few
  refine ⟨by simp; omega, fun y hy => ?_, ?_⟩
  · rcases List.mem_append.1 hy with hy | hy
    · exact h.right y (List.mem_of_mem_take hy)
    · rcases List.mem_cons.1 hy with rfl | hy
      · exact hx
      · exact h.right y (List.mem_of_mem_drop hy)
  · have hlow : ∀ y ∈ l.take (placeL l x.n), less y.n x.n = true := fun y hy => by
      obtain ⟨t, ht, rfl⟩ := List.mem_iff_getElem.1 hy
      rw [List.getElem_take]
      exact (place_below (by rw [List.length_take] at ht; omega)).2
    have hhigh : ∀ y ∈ l.drop (placeL l x.n), less x.n y.n = true := fun y hy => by
      obtain ⟨t, ht, rfl⟩ := List.mem_iff_getElem.1 hy
      rw [List.length_drop] at ht
      rw [List.getElem_drop]
      have hl : placeL l x.n < l.length := by omega
      have h0 := place_at hl
      have h1 : less x.n l[placeL l x.n].n = true := by
        cases e : less x.n l[placeL l x.n].n with
        | true => rfl
        | false => exact absurd (less_total h0 e) (there_no h2 hl)
      by_cases ht0 : t = 0
      · subst ht0
        exact h1
      · exact less_trans h1 (h.le hl (by omega) (by omega))
    refine List.pairwise_append.2 ⟨h.rise.sublist (List.take_sublist _ _), List.pairwise_cons.2 ⟨hhigh, h.rise.sublist (List.drop_sublist _ _)⟩, fun a ha b hb => ?_⟩
    rcases List.mem_cons.1 hb with rfl | hb
    · exact hlow a ha
    · exact less_trans (hlow a ha) (hhigh b hb)
/-- What is set is a lock again. -/
theorem Lock.put {l : List Wt} (h : Lock l) {x : Wt} (h0 : (setL l x).2.1 = 0) : (setL l x).1 = putL l x ∧ wantCode x = 0 ∧ Lock (putL l x) := by
  have hz := lock_iff.2 h
  by_cases hx : wantCode x = 0
  · cases ht : thereL l x.n with
    | true =>
      obtain ⟨hl, hn⟩ := there_yes ht
      refine ⟨?_, hx, ?_⟩
      · rw [setL_there hz hx ht]; unfold putL; rw [if_pos ht]
      · unfold putL; rw [if_pos ht]; exact h.set hx hl hn
    | false =>
      by_cases h3 : l.length = 20
      · rw [setL_full hz hx ht h3] at h0; cases h0
      · refine ⟨?_, hx, ?_⟩
        · rw [setL_new hz hx ht h3]; unfold putL; rw [if_neg (by simp [ht])]
        · unfold putL; rw [if_neg (by simp [ht])]; exact h.insert hx ht h3
  · obtain ⟨k, hk⟩ : ∃ k, wantCode x = k + 1 := ⟨wantCode x - 1, by omega⟩
    rw [setL_want hz hk] at h0
    cases h0
theorem putL_mem {l : List Wt} {x y : Wt} (h : y ∈ putL l x) : y = x ∨ y ∈ l := by
  unfold putL at h
  split at h
  · exact (List.mem_or_eq_of_mem_set h).symm
  · rcases List.mem_append.1 h with h | h
    · exact .inr (List.mem_of_mem_take h)
    · rcases List.mem_cons.1 h with h | h
      · exact .inl h
      · exact .inr (List.mem_of_mem_drop h)
theorem putL_length {l : List Wt} {x : Wt} : (putL l x).length ≤ l.length + 1 := by
  have := place_le l x.n
  unfold putL
  split
  · simp
  · simp; omega
end Go.Proofs.YtmeipangcgdinaaGreatDoor
