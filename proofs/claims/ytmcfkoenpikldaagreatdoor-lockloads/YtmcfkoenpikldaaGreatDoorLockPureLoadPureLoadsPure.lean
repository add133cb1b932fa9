/-
  Own texts of the proof, joined by program: LockPure, LoadPure, LoadsPure.
-/
import Derived.Test.YtmcfkoenpikldaaGreatDoorPackPurePackFactsWantPure
import Derived.Test.YtmcfkoenpikldaaGreatDoorTreePureTreeSortTreeFactsTreeInsertTreeAt
import Derived.Test.YtmcfkoenpikldaaGreatDoorSumTreeHeldPureHeldFacts
/-
  Locks, plainly: checked, searched, set: no machine.
-/
namespace Go.Proofs.YtmcfkoenpikldaaGreatDoor

/-- The number of the error of a want behind those ahead of it (0: none). -/
def nextCode (pre : List Wt) (x : Wt) : Nat :=
  if wantCode x ≠ 0 then wantCode x else if pre ≠ [] ∧ less ((pre.getLast?.map (·.n)).getD []) x.n = false then 9 else 0
def firstBadW : List Wt → List Wt → Option (Nat × Nat)
  | _, [] => none
  | pre, x :: r => if nextCode pre x ≠ 0 then some (nextCode pre x, pre.length) else firstBadW (pre ++ [x]) r
/-- A lock's fault: an error's number (0: none), and where (-1: nowhere). -/
def lockFault (l : List Wt) : Nat × Int :=
  if 20 < l.length then (8, -1) else match firstBadW [] l with
    | some (c, i) => (c, i)
    | none => (0, -1)

theorem firstBadW_some {l : List Wt} : ∀ {k : Nat} {pre : List Wt} {r : List Wt}, l = pre ++ r → (∀ i (h : i < r.length), i < k → nextCode (pre ++ r.take i) r[i] = 0) → (hk : k < r.length) → nextCode (pre ++ r.take k) r[k] ≠ 0 →
    firstBadW pre r = some (nextCode (pre ++ r.take k) r[k], pre.length + k)
  | k, pre, [], _, _, hk, _ => by simp at hk
  | 0, pre, f :: r, _, _, _, h => by
    simp at h
    simp [firstBadW, h]
  | k + 1, pre, f :: r, e, h0, hk, h => by
    have z := h0 0 (by simp) (by omega)
    simp at z
    have ih := firstBadW_some (l := l) (k := k) (pre := pre ++ [f]) (r := r) (by simp [e]) (fun i hi hik => by
      have := h0 (i + 1) (by simp; omega) (by omega)
      simpa using this) (by simpa using hk) (by simpa using h)
    simp [firstBadW, z, ih]
    omega
theorem firstBadW_none {l : List Wt} : ∀ {pre r : List Wt}, l = pre ++ r → (∀ i (h : i < r.length), nextCode (pre ++ r.take i) r[i] = 0) → firstBadW pre r = none
  | _, [], _, _ => rfl
  | pre, f :: r, e, h => by
    have z := h 0 (by simp)
    simp at z
    have ih := firstBadW_none (l := l) (pre := pre ++ [f]) (r := r) (by simp [e]) (fun i hi => by
      have := h (i + 1) (by simp; omega)
      simpa using this)
    simp [firstBadW, z, ih]
theorem lockFault_long {l : List Wt} (h : 20 < l.length) : lockFault l = (8, -1) := by simp [lockFault, h]
theorem lockFault_at {l : List Wt} {k : Nat} (hl : l.length ≤ 20) (hk : k < l.length) (h0 : ∀ i (h : i < l.length), i < k → nextCode (l.take i) l[i] = 0) (h : nextCode (l.take k) l[k] ≠ 0) :
    lockFault l = (nextCode (l.take k) l[k], (k : Int)) := by
  have := firstBadW_some (l := l) (pre := []) (r := l) rfl (by simpa using h0) hk (by simpa using h)
  simp [lockFault, Nat.not_lt.2 hl, this]
theorem lockFault_end {l : List Wt} (hl : l.length ≤ 20) (h0 : ∀ i (h : i < l.length), nextCode (l.take i) l[i] = 0) : lockFault l = (0, -1) := by
  have := firstBadW_none (l := l) (pre := []) (r := l) rfl (by simpa using h0)
  simp [lockFault, Nat.not_lt.2 hl, this]
theorem firstBadW_zero : ∀ {pre r : List Wt}, firstBadW pre r = none → ∀ i (h : i < r.length), nextCode (pre ++ r.take i) r[i] = 0
  | _, [], _, _, h => by simp at h
  | pre, f :: r, e, i, h => by
    by_cases z : nextCode pre f = 0
    · simp [firstBadW, z] at e
      have ih := firstBadW_zero e
      cases i with
      | zero => simpa using z
      | succ i => have := ih i (by simpa using h); simpa using this
    · simp [firstBadW, z] at e
theorem firstBadW_code : ∀ {pre r : List Wt} {c i : Nat}, firstBadW pre r = some (c, i) → c ≠ 0
  | _, [], _, _, h => by simp [firstBadW] at h
  | pre, f :: r, c, i, h => by
    by_cases z : nextCode pre f = 0
    · simp [firstBadW, z] at h
      exact firstBadW_code h
    · simp [firstBadW, z] at h
      omega
theorem next_le (pre : List Wt) (x : Wt) : nextCode pre x ≤ 9 := by
  have := want_le x
  unfold nextCode
  split
  · omega
  · split <;> omega
theorem next_want {pre : List Wt} {x : Wt} {k : Nat} (h : wantCode x = k + 1) : nextCode pre x = k + 1 := by unfold nextCode; rw [if_pos (by omega), h]
theorem next_first {x : Wt} (h : wantCode x = 0) : nextCode [] x = 0 := by unfold nextCode; rw [if_neg (by omega), if_neg (by simp)]
theorem next_order {pre : List Wt} {x : Wt} (h : wantCode x = 0) (h0 : 0 < pre.length) (hl : less (pre[pre.length - 1]'(by omega)).n x.n = false) : nextCode pre x = 9 := by
  have hlast : (pre.getLast?.map (·.n)).getD [] = (pre[pre.length - 1]'(by omega)).n := by
    rw [List.getLast?_eq_getElem?, List.getElem?_eq_getElem (by omega)]; rfl
  unfold nextCode
  rw [if_neg (by omega), hlast, if_pos ⟨List.length_pos_iff.1 h0, hl⟩]
theorem next_good {pre : List Wt} {x : Wt} (h : wantCode x = 0) (h0 : 0 < pre.length) (hl : less (pre[pre.length - 1]'(by omega)).n x.n = true) : nextCode pre x = 0 := by
  have hlast : (pre.getLast?.map (·.n)).getD [] = (pre[pre.length - 1]'(by omega)).n := by
    rw [List.getLast?_eq_getElem?, List.getElem?_eq_getElem (by omega)]; rfl
  unfold nextCode
  rw [if_neg (by omega), hlast, if_neg (by simp [hl])]

/-- A right lock. -/
structure Lock (l : List Wt) : Prop where
  few : l.length ≤ 20
  right : ∀ x ∈ l, wantCode x = 0
  rise : l.Pairwise fun x y => less x.n y.n = true
theorem Lock.nil : Lock [] := ⟨by simp, fun x h => by simp at h, .nil⟩
theorem rise_of_next {l : List Wt} (h : ∀ i (h : i + 1 < l.length), less l[i].n l[i + 1].n = true) : l.Pairwise fun x y => less x.n y.n = true := by
  rw [List.pairwise_iff_getElem]
  intro i j hi hj hij
  obtain ⟨d, rfl⟩ : ∃ d, j = i + 1 + d := ⟨j - i - 1, by omega⟩
  clear hij
  induction d with
  | zero => exact h i hj
  | succ d ih => exact less_trans (ih (by omega)) (h (i + 1 + d) (by omega))
theorem lock_iff {l : List Wt} : (lockFault l).1 = 0 ↔ Lock l := by
  constructor
  · intro h
    by_cases hl : 20 < l.length
    · rw [lockFault_long hl] at h; cases h
    · have hn : firstBadW [] l = none := by
        cases e : firstBadW [] l with
        | none => rfl
        | some r => obtain ⟨c, i⟩ := r; rw [lockFault, if_neg hl, e] at h; exact absurd h (firstBadW_code e)
      have hz := fun i hi => by simpa using firstBadW_zero hn i hi
      have hw : ∀ i (hi : i < l.length), wantCode l[i] = 0 := fun i hi => by
        have := hz i hi
        unfold nextCode at this
        split at this
        · omega
        · omega
      refine ⟨by omega, fun x hx => ?_, rise_of_next fun i hi => ?_⟩
      · obtain ⟨i, hi, rfl⟩ := List.mem_iff_getElem.1 hx
        exact hw i hi
      · have := hz (i + 1) hi
        cases e : less l[i].n l[i + 1].n with
        | true => rfl
        | false =>
          have hp : 0 < (l.take (i + 1)).length := by rw [List.length_take]; omega
          have hg : ((l.take (i + 1))[(l.take (i + 1)).length - 1]'(by omega)) = l[i] := by
            rw [List.getElem_take]
            congr 1
            rw [List.length_take]
            omega
          rw [next_order (hw _ hi) hp (by rw [hg]; exact e)] at this
          cases this
  · intro h
    rw [lockFault_end h.few fun i hi => ?_]
    have hw := h.right _ (List.getElem_mem hi)
    by_cases h0 : i = 0
    · subst h0
      simpa using next_first hw
    · have hp : 0 < (l.take i).length := by rw [List.length_take]; omega
      have hg : ((l.take i)[(l.take i).length - 1]'(by omega)) = l[i - 1] := by
        rw [List.getElem_take]
        congr 1
        rw [List.length_take]
        omega
      refine next_good hw hp ?_
      rw [hg]
      exact (List.pairwise_iff_getElem.1 h.rise) (i - 1) i (by omega) hi (by omega)
theorem lock_zero {l : List Wt} (h : Lock l) : lockFault l = (0, -1) := by
  have h0 := lock_iff.2 h
  unfold lockFault at h0 ⊢
  rw [if_neg (by have := h.few; omega)] at h0 ⊢
  cases e : firstBadW [] l with
  | none => rfl
  | some r => obtain ⟨c, i⟩ := r; rw [e] at h0; exact absurd h0 (firstBadW_code e)

/-- Where a name stands, or would stand. -/
def placeL (l : List Wt) (n : List UInt8) : Nat := (l.takeWhile fun y => less y.n n).length
theorem place_le (l : List Wt) (n : List UInt8) : placeL l n ≤ l.length := (List.takeWhile_prefix _).length_le
theorem place_is {l : List Wt} {n : List UInt8} {i : Nat} (hi : i ≤ l.length) (h0 : ∀ t (h : t < l.length), t < i → less l[t].n n = true) (h1 : ∀ h : i < l.length, less l[i].n n = false) : placeL l n = i := by
  induction l generalizing i with
  | nil => simp at hi; subst hi; rfl
  | cons x r ih =>
    unfold placeL
    cases i with
    | zero =>
      have := h1 (by simp)
      simp at this
      simp [this]
    | succ i =>
      have hx := h0 0 (by simp) (by omega)
      simp at hx
      have := ih (i := i) (by simpa using hi) (fun t ht hti => by have := h0 (t + 1) (by simp; omega) (by omega); simpa using this) (fun h => by have := h1 (by simp; omega); simpa using this)
      unfold placeL at this
      simp [hx, this]
theorem place_below {l : List Wt} {n : List UInt8} {t : Nat} (h : t < placeL l n) : ∃ ht : t < l.length, less l[t].n n = true := by
  have hl : t < l.length := Nat.lt_of_lt_of_le h (place_le l n)
  refine ⟨hl, ?_⟩
  have hm : (l.takeWhile fun y => less y.n n)[t]'h ∈ l.takeWhile fun y => less y.n n := List.getElem_mem _
  have := (List.all_eq_true.1 (List.all_takeWhile (p := fun y : Wt => less y.n n) (l := l))) _ hm
  have e : (l.takeWhile fun y => less y.n n)[t]'h = l[t] := (List.takeWhile_prefix _).getElem h
  rw [e] at this
  exact this
theorem place_at {l : List Wt} {n : List UInt8} (h : placeL l n < l.length) : less l[placeL l n].n n = false := by
  induction l with
  | nil => simp at h
  | cons x r ih =>
    unfold placeL at h ⊢
    cases hx : less x.n n with
    | false => simp [hx]
    | true =>
      simp [hx] at h ⊢
      exact ih h
/-- Is it there? -/
def thereL (l : List Wt) (n : List UInt8) : Bool := match l[placeL l n]? with | some y => y.n == n | none => false
/-- One want set. -/
def putL (l : List Wt) (x : Wt) : List Wt := if thereL l x.n then l.set (placeL l x.n) x else l.take (placeL l x.n) ++ x :: l.drop (placeL l x.n)
def setL (l : List Wt) (x : Wt) : List Wt × Nat × Int :=
  if (lockFault l).1 ≠ 0 then ([], lockFault l) else if wantCode x ≠ 0 then ([], wantCode x, -1)
  else if thereL l x.n = false ∧ l.length = 20 then ([], 8, -1) else (putL l x, 0, -1)
theorem setL_bad {l : List Wt} {x : Wt} (h : (lockFault l).1 ≠ 0) : setL l x = ([], lockFault l) := by unfold setL; rw [if_pos h]
theorem setL_want {l : List Wt} {x : Wt} {k : Nat} (h : (lockFault l).1 = 0) (h1 : wantCode x = k + 1) : setL l x = ([], k + 1, -1) := by unfold setL; rw [if_neg (by omega), if_pos (by omega), h1]
theorem setL_full {l : List Wt} {x : Wt} (h : (lockFault l).1 = 0) (h1 : wantCode x = 0) (h2 : thereL l x.n = false) (h3 : l.length = 20) : setL l x = ([], 8, -1) := by unfold setL; rw [if_neg (by omega), if_neg (by omega), if_pos ⟨h2, h3⟩]
theorem setL_there {l : List Wt} {x : Wt} (h : (lockFault l).1 = 0) (h1 : wantCode x = 0) (h2 : thereL l x.n = true) : setL l x = (l.set (placeL l x.n) x, 0, -1) := by unfold setL putL; rw [if_neg (by omega), if_neg (by omega), if_neg (by simp [h2]), if_pos h2]
theorem setL_new {l : List Wt} {x : Wt} (h : (lockFault l).1 = 0) (h1 : wantCode x = 0) (h2 : thereL l x.n = false) (h3 : l.length ≠ 20) : setL l x = (l.take (placeL l x.n) ++ x :: l.drop (placeL l x.n), 0, -1) := by unfold setL putL; rw [if_neg (by omega), if_neg (by omega), if_neg (by simp [h3]), if_neg (by simp [h2])]
theorem there_yes {l : List Wt} {n : List UInt8} (h : thereL l n = true) : ∃ h : placeL l n < l.length, l[placeL l n].n = n := by
  unfold thereL at h
  cases e : l[placeL l n]? with
  | none => rw [e] at h; cases h
  | some y =>
    rw [e] at h
    obtain ⟨hl, hy⟩ := List.getElem?_eq_some_iff.1 e
    exact ⟨hl, by rw [hy]; simpa using h⟩
theorem there_no {l : List Wt} {n : List UInt8} (h : thereL l n = false) (hl : placeL l n < l.length) : l[placeL l n].n ≠ n := by
  unfold thereL at h
  rw [List.getElem?_eq_getElem hl] at h
  simpa using h
theorem Lock.le {l : List Wt} (h : Lock l) {i j : Nat} (hi : i < l.length) (hj : j < l.length) (hij : i < j) : less l[i].n l[j].n = true := (List.pairwise_iff_getElem.1 h.rise) i j hi hj hij
theorem Lock.set {l : List Wt} (h : Lock l) {x : Wt} (hx : wantCode x = 0) {i : Nat} (hi : i < l.length) (hn : l[i].n = x.n) : Lock (l.set i x) := by
  refine ⟨by rw [List.length_set]; exact h.few, fun y hy => ?_, ?_⟩
  · rcases List.mem_or_eq_of_mem_set hy with hy | rfl
    · exact h.right y hy
    · exact hx
  · rw [List.pairwise_iff_getElem]
    intro a b ha hb hab
    simp only [List.length_set] at ha hb
    have := h.le ha hb hab
    rw [List.getElem_set, List.getElem_set]
    by_cases e1 : i = a
    · subst e1
      rw [if_pos rfl, if_neg (by omega), ← hn]
      exact this
    · rw [if_neg e1]
      by_cases e2 : i = b
      · subst e2
        rw [if_pos rfl, ← hn]
        exact this
      · rw [if_neg e2]
        exact this
theorem Lock.insert {l : List Wt} (h : Lock l) {x : Wt} (hx : wantCode x = 0) (h2 : thereL l x.n = false) (h3 : l.length ≠ 20) : Lock (l.take (placeL l x.n) ++ x :: l.drop (placeL l x.n)) := by
  have hp := place_le l x.n
  have hfew := h.few
  refine ⟨by simp; omega, fun y hy => ?_, ?_⟩
  · rcases List.mem_append.1 hy with hy | hy
    · exact h.right y (List.mem_of_mem_take hy)
    · rcases List.mem_cons.1 hy with rfl | hy
      · exact hx
      · exact h.right y (List.mem_of_mem_drop hy)
  · have hlow : ∀ y ∈ l.take (placeL l x.n), less y.n x.n = true := fun y hy => by
      obtain ⟨t, ht, rfl⟩ := List.mem_iff_getElem.1 hy
      rw [List.getElem_take]
      exact (place_below (by rw [List.length_take] at ht; omega)).2
    have hhigh : ∀ y ∈ l.drop (placeL l x.n), less x.n y.n = true := fun y hy => by
      obtain ⟨t, ht, rfl⟩ := List.mem_iff_getElem.1 hy
      rw [List.length_drop] at ht
      rw [List.getElem_drop]
      have hl : placeL l x.n < l.length := by omega
      have h0 := place_at hl
      have h1 : less x.n l[placeL l x.n].n = true := by
        cases e : less x.n l[placeL l x.n].n with
        | true => rfl
        | false => exact absurd (less_total h0 e) (there_no h2 hl)
      by_cases ht0 : t = 0
      · subst ht0
        exact h1
      · exact less_trans h1 (h.le hl (by omega) (by omega))
    refine List.pairwise_append.2 ⟨h.rise.sublist (List.take_sublist _ _), List.pairwise_cons.2 ⟨hhigh, h.rise.sublist (List.drop_sublist _ _)⟩, fun a ha b hb => ?_⟩
    rcases List.mem_cons.1 hb with rfl | hb
    · exact hlow a ha
    · exact less_trans (hlow a ha) (hhigh b hb)
/-- What is set is a lock again. -/
theorem Lock.put {l : List Wt} (h : Lock l) {x : Wt} (h0 : (setL l x).2.1 = 0) : (setL l x).1 = putL l x ∧ wantCode x = 0 ∧ Lock (putL l x) := by
  have hz := lock_iff.2 h
  by_cases hx : wantCode x = 0
  · cases ht : thereL l x.n with
    | true =>
      obtain ⟨hl, hn⟩ := there_yes ht
      refine ⟨?_, hx, ?_⟩
      · rw [setL_there hz hx ht]; unfold putL; rw [if_pos ht]
      · unfold putL; rw [if_pos ht]; exact h.set hx hl hn
    | false =>
      by_cases h3 : l.length = 20
      · rw [setL_full hz hx ht h3] at h0; cases h0
      · refine ⟨?_, hx, ?_⟩
        · rw [setL_new hz hx ht h3]; unfold putL; rw [if_neg (by simp [ht])]
        · unfold putL; rw [if_neg (by simp [ht])]; exact h.insert hx ht h3
  · obtain ⟨k, hk⟩ : ∃ k, wantCode x = k + 1 := ⟨wantCode x - 1, by omega⟩
    rw [setL_want hz hk] at h0
    cases h0
theorem putL_mem {l : List Wt} {x y : Wt} (h : y ∈ putL l x) : y = x ∨ y ∈ l := by
  unfold putL at h
  split at h
  · exact (List.mem_or_eq_of_mem_set h).symm
  · rcases List.mem_append.1 h with h | h
    · exact .inr (List.mem_of_mem_take h)
    · rcases List.mem_cons.1 h with h | h
      · exact .inl h
      · exact .inr (List.mem_of_mem_drop h)
theorem putL_length {l : List Wt} {x : Wt} : (putL l x).length ≤ l.length + 1 := by
  have := place_le l x.n
  unfold putL
  split
  · simp
  · simp; omega
end Go.Proofs.YtmcfkoenpikldaaGreatDoor
/-
  What is bundled, and loaded, plainly: no machine.
-/
namespace Go.Proofs.YtmcfkoenpikldaaGreatDoor

/-- Trees grafted one behind the other, each below its name; an error's number. -/
def graftAll : List F → List (List UInt8 × List F) → List F × Nat
  | out, [] => (out, 0)
  | out, x :: r => if (graftT out x.1 x.2).2.1 ≠ 0 then ([], (graftT out x.1 x.2).2.1) else graftAll (graftT out x.1 x.2).1 r
theorem graftAll_snoc : ∀ {zs : List (List UInt8 × List F)} {out m : List F} (x : List UInt8 × List F), graftAll out zs = (m, 0) → graftAll out (zs ++ [x]) = if (graftT m x.1 x.2).2.1 ≠ 0 then ([], (graftT m x.1 x.2).2.1) else ((graftT m x.1 x.2).1, 0)
  | [], out, m, x, h => by
    simp only [graftAll, Prod.mk.injEq] at h
    obtain ⟨rfl, _⟩ := h
    rfl
  | z :: r, out, m, x, h => by
    unfold graftAll at h
    split at h
    · rename_i hz
      simp only [Prod.mk.injEq] at h
      exact absurd h.2 hz
    · rename_i hz
      show graftAll out (z :: (r ++ [x])) = _
      unfold graftAll
      rw [if_neg hz]
      exact graftAll_snoc x h
theorem graftAll_bad : ∀ {zs : List (List UInt8 × List F)} {out : List F} (ys : List (List UInt8 × List F)), (graftAll out zs).2 ≠ 0 → graftAll out (zs ++ ys) = graftAll out zs
  | [], out, ys, h => by simp [graftAll] at h
  | z :: r, out, ys, h => by
    show graftAll out (z :: (r ++ ys)) = _
    unfold graftAll at h ⊢
    split
    · rfl
    · rename_i hz
      rw [if_neg hz] at h
      exact graftAll_bad ys h
/-- Two parts, neither in the other. -/
theorem part_off {a b : List UInt8} (ha : isPart a = true) (hb : isPart b = true) : isIn a b = false := by
  cases h : isIn a b with
  | false => rfl
  | true =>
    simp only [isIn, Bool.and_eq_true, Bool.or_eq_true] at h
    rcases h.2 with h | h
    · exact absurd (List.isEmpty_iff.1 h) (path_ne (part_path.1 hb).1)
    · have p1 : b ++ [47] <+: a := by simpa [Lib.hasPrefix] using h
      exact absurd (p1.subset (by simp)) (part_noSlash ha)
theorem Grafted.other {l m t : List F} {a b : List UInt8} (G : Grafted l b m t) (hl : Rise l) (ha : isPart a = true) (hb : isPart b = true) (hne : a ≠ b) : underL t a = underL l a := by
  have hp := G.perm.filter (fun f => isIn f.p a)
  rw [List.filter_append, filter_off (part_path.1 ha).1 G.dir hne (part_off ha hb) (part_off hb ha), List.append_nil] at hp
  have := eq_of_rise hp (G.rise.filter _) (hl.filter _)
  unfold underL
  rw [this]
theorem rise_of_tree {l : List F} (h : (treeFault l).1 = 0) : Rise l := (tree_good.1 h).1.rise
theorem graftAll_other : ∀ {zs : List (List UInt8 × List F)} {out m : List F} {a : List UInt8}, (treeFault out).1 = 0 → graftAll out zs = (m, 0) → (∀ z ∈ zs, isPart z.1 = true ∧ z.1 ≠ a) → isPart a = true → underL m a = underL out a ∧ (treeFault m).1 = 0
  | [], out, m, a, ho, h, _, _ => by
    simp only [graftAll, Prod.mk.injEq] at h
    obtain ⟨rfl, _⟩ := h
    exact ⟨rfl, ho⟩
  | z :: r, out, m, a, ho, h, hz, ha => by
    unfold graftAll at h
    split at h
    · rename_i hc
      simp only [Prod.mk.injEq] at h
      exact absurd h.2 hc
    · rename_i hc
      obtain ⟨_, _, G⟩ := graft_zero (by omega : (graftT out z.1 z.2).2.1 = 0)
      obtain ⟨h1, h2⟩ := hz z List.mem_cons_self
      have ih := graftAll_other G.tree h (fun y hy => hz y (List.mem_cons_of_mem _ hy)) ha
      exact ⟨ih.1.trans (G.other (rise_of_tree ho) ha h1 (Ne.symm h2)), ih.2⟩
theorem graftAll_tree : ∀ {zs : List (List UInt8 × List F)} {out m : List F}, (treeFault out).1 = 0 → graftAll out zs = (m, 0) → (treeFault m).1 = 0
  | [], out, m, ho, h => by
    simp only [graftAll, Prod.mk.injEq] at h
    obtain ⟨rfl, _⟩ := h
    exact ho
  | z :: r, out, m, ho, h => by
    unfold graftAll at h
    split at h
    · rename_i hc
      simp only [Prod.mk.injEq] at h
      exact absurd h.2 hc
    · rename_i hc
      exact graftAll_tree (graft_zero (by omega : (graftT out z.1 z.2).2.1 = 0)).2.2.tree h
/-- Each tree is below its name. -/
theorem graftAll_under : ∀ {zs : List (List UInt8 × List F)} {out m : List F}, (treeFault out).1 = 0 → graftAll out zs = (m, 0) → (∀ z ∈ zs, isPart z.1 = true) → (zs.map (·.1)).Nodup → (∀ z ∈ zs, underL out z.1 = []) → ∀ z ∈ zs, underL m z.1 = z.2
  | [], _, _, _, _, _, _, _, z, hz => by simp at hz
  | x :: r, out, m, ho, h, hp, hn, hu, z, hz => by
    unfold graftAll at h
    split at h
    · rename_i hc
      simp only [Prod.mk.injEq] at h
      exact absurd h.2 hc
    · rename_i hc
      obtain ⟨_, hm, G⟩ := graft_zero (by omega : (graftT out x.1 x.2).2.1 = 0)
      rw [List.map_cons, List.nodup_cons] at hn
      have hx := hp x List.mem_cons_self
      have hne : ∀ y ∈ r, y.1 ≠ x.1 := fun y hy e => hn.1 (by rw [← e]; exact List.mem_map_of_mem hy)
      rcases List.mem_cons.1 hz with rfl | hz
      · rw [(graftAll_other G.tree h (fun y hy => ⟨hp y (List.mem_cons_of_mem _ hy), hne y hy⟩) hx).1]
        exact G.here (rise_of_tree hm) (hu z List.mem_cons_self)
      · refine graftAll_under G.tree h (fun y hy => hp y (List.mem_cons_of_mem _ hy)) hn.2 (fun y hy => ?_) z hz
        rw [G.other (rise_of_tree ho) (hp y (List.mem_cons_of_mem _ hy)) hx (hne y hy)]
        exact hu y (List.mem_cons_of_mem _ hy)

/-- The trees of a lock, each with its name. -/
def treesL (h : Hs) (l : List Wt) : List (List UInt8 × List F) := l.map fun x => (x.n, (getH h x.m).1)
/-- The first that is not held. -/
def goneL (h : Hs) (l : List Wt) : Option Nat := l.findIdx? fun x => (getH h x.m).2 != 0
def bundleL (h : Hs) (l : List Wt) : List UInt8 × Nat × Int :=
  if (lockFault l).1 ≠ 0 then ([], lockFault l) else match goneL h l with
    | some i => ([], 6, (i : Int))
    | none => if (graftAll [] (treesL h l)).2 ≠ 0 then ([], (graftAll [] (treesL h l)).2, -1) else (packL (graftAll [] (treesL h l)).1, 0, -1)
/-- One want of a bundle: an error's number. -/
def loadOne (h : Hs) (all : List F) (x : Wt) : Hs × Nat :=
  if (treeFault (underL all x.n)).1 ≠ 0 then (h, (treeFault (underL all x.n)).1) else if ((sumT (underL all x.n) : Nat) : Int) ≠ x.m then (h, 12) else ((putH h (underL all x.n)).1, (putH h (underL all x.n)).2.2.1)
def loadAll : Hs → List F → List Wt → Nat → Hs × Nat × Int
  | h, _, [], _ => (h, 0, -1)
  | h, all, x :: r, i => if (loadOne h all x).2 ≠ 0 then (h, (loadOne h all x).2, (i : Int)) else loadAll (loadOne h all x).1 all r (i + 1)
def loadL (h : Hs) (l : List Wt) (s : List UInt8) : Hs × Nat × Int :=
  if (lockFault l).1 ≠ 0 then (h, lockFault l) else if (readP s).2.1 ≠ 0 then (h, (readP s).2)
  else if (loadAll h (readP s).1 l 0).2.1 ≠ 0 then (h, (loadAll h (readP s).1 l 0).2) else loadAll h (readP s).1 l 0
end Go.Proofs.YtmcfkoenpikldaaGreatDoor
/-
  What is bundled, and loaded elsewhere, is held there; bundled there it is the same: no machine.
-/
namespace Go.Proofs.YtmcfkoenpikldaaGreatDoor

theorem gone_none {h : Hs} {l : List Wt} (hg : goneL h l = none) : ∀ x ∈ l, (getH h x.m).2 = 0 := fun x hx => by
  have := List.findIdx?_eq_none_iff.1 hg x hx
  simpa using this
theorem gone_of {h : Hs} {l : List Wt} (hg : ∀ x ∈ l, (getH h x.m).2 = 0) : goneL h l = none := List.findIdx?_eq_none_iff.2 fun x hx => by simp [hg x hx]
theorem names_once {l : List Wt} (h : Lock l) : (l.map Wt.n).Nodup := by
  rw [List.nodup_iff_pairwise_ne]
  exact List.pairwise_map.2 (h.rise.imp fun e => less_ne e)
/-- What was loaded: right, and only what the other holds. -/
structure Load (h o : Hs) (k : Nat) : Prop where
  most : o.most = 40
  ok : OkH o
  few : o.l.length ≤ k
  same : ∀ y ∈ o.l, getH h (y.n : Int) = (y.l, 0)
theorem Load.get {h o : Hs} {k : Nat} (L : Load h o k) {n : Int} (hn : spotH o.l n ≠ none) : getH o n = getH h n := by
  cases hs : spotH o.l n with
  | none => exact absurd hs hn
  | some j =>
    obtain ⟨hj, e⟩ := spotH_some hs
    rw [getH_some hs hj]
    have := L.same _ (List.getElem_mem hj)
    rw [← e, this]
theorem Load.put {h o : Hs} {k : Nat} (L : Load h o k) (hh : OkH h) (hk : k < 40) {n : Int} (hg : (getH h n).2 = 0) :
    (putH o (getH h n).1).2.2.1 = 0 ∧ Load h (putH o (getH h n).1).1 (k + 1) ∧ spotH (putH o (getH h n).1).1.l n ≠ none ∧ ∀ m, spotH o.l m ≠ none → spotH (putH o (getH h n).1).1.l m ≠ none := by
  obtain ⟨ht, hs⟩ := hh.get hg
  have hm : o.most ≠ 0 := by rw [L.most]; omega
  have hf := L.few
  cases hsp : spotH o.l (sumT (getH h n).1) with
  | some j =>
    rw [putH_there ht hm hsp]
    exact ⟨rfl, ⟨L.most, L.ok, (by show o.l.length ≤ k + 1; omega), L.same⟩, by rw [← hs, hsp]; simp, fun m hm => hm⟩
  | none =>
    have hlt : ¬ o.most ≤ o.l.length := by rw [L.most]; omega
    have hok := L.ok.put (getH h n).1
    rw [putH_comes ht hm hsp hlt] at hok ⊢
    refine ⟨rfl, ⟨L.most, hok, by simp; omega, fun y hy => ?_⟩, ?_, fun m hm2 => ?_⟩
    · rcases List.mem_append.1 hy with hy | hy
      · exact L.same y hy
      · simp at hy
        subst hy
        show getH h ((sumT (getH h n).1 : Nat) : Int) = ((getH h n).1, 0)
        rw [hs, ← hg]
    · intro e
      have := spotH_absent e ⟨sumT (getH h n).1, (getH h n).1⟩ (by simp)
      exact this hs
    · intro e
      cases hx : spotH o.l m with
      | none => exact hm2 hx
      | some j =>
        obtain ⟨hj, ej⟩ := spotH_some hx
        exact spotH_absent e _ (List.mem_append_left _ (List.getElem_mem hj)) ej
theorem loadAll_fine {h : Hs} {all : List F} (hh : OkH h) : ∀ (r : List Wt) (o : Hs) (i k : Nat), Load h o k → k + r.length ≤ 40 → (∀ x ∈ r, (getH h x.m).2 = 0 ∧ underL all x.n = (getH h x.m).1) →
    ∃ o', loadAll o all r i = (o', 0, -1) ∧ Load h o' (k + r.length) ∧ (∀ m, spotH o.l m ≠ none → spotH o'.l m ≠ none) ∧ ∀ x ∈ r, spotH o'.l x.m ≠ none
  | [], o, i, k, L, _, _ => ⟨o, rfl, L, fun _ h => h, fun x hx => by simp at hx⟩
  | x :: r, o, i, k, L, hk, hx => by
    simp only [List.length_cons] at hk
    obtain ⟨hg, hu⟩ := hx x List.mem_cons_self
    obtain ⟨h1, h2, h3, h4⟩ := L.put hh (by omega) hg
    obtain ⟨ht, hs⟩ := hh.get hg
    have e : loadOne o all x = ((putH o (getH h x.m).1).1, 0) := by
      unfold loadOne
      rw [hu, if_neg (by omega), if_neg (by simp [hs]), h1]
    obtain ⟨o', e1, L', m1, m2⟩ := loadAll_fine hh r _ (i + 1) (k + 1) h2 (by omega) (fun y hy => hx y (List.mem_cons_of_mem _ hy))
    refine ⟨o', ?_, by rw [List.length_cons, show k + (r.length + 1) = k + 1 + r.length by omega]; exact L', fun m hm => m1 m (h4 m hm), fun y hy => ?_⟩
    · unfold loadAll
      rw [e]
      simpa using e1
    · rcases List.mem_cons.1 hy with rfl | hy
      · exact m1 _ h3
      · exact m2 y hy
theorem Load.zero (h : Hs) : Load h (Hs.none 40) 0 := ⟨rfl, OkH.zero 40, by simp [Hs.none], fun y hy => by simp [Hs.none] at hy⟩
/-- What is bundled, with all that is asked of it. -/
theorem bundle_fine {h : Hs} {l : List Wt} (hl : Lock l) (hb : (bundleL h l).2.1 = 0) : goneL h l = none ∧ ∃ m, graftAll [] (treesL h l) = (m, 0) ∧ bundleL h l = (packL m, 0, -1) := by
  have hz := lock_zero hl
  unfold bundleL at hb ⊢
  rw [if_neg (by rw [hz]; simp)] at hb ⊢
  cases hg : goneL h l with
  | some i => rw [hg] at hb; cases hb
  | none =>
    rw [hg] at hb
    refine ⟨rfl, ?_⟩
    dsimp only at hb ⊢
    by_cases hc : (graftAll [] (treesL h l)).2 = 0
    · rw [if_neg (by omega)]
      exact ⟨_, Prod.ext rfl hc, rfl⟩
    · rw [if_pos hc] at hb
      exact absurd hb hc
theorem tree_nil : (treeFault []).1 = 0 := by simp [treeFault, firstBad, total]
/-- Loaded elsewhere it is held there, and bundled there it is the same. -/
theorem load_fine {h : Hs} {l : List Wt} (hh : OkH h) (hl : Lock l) (hb : (bundleL h l).2.1 = 0) : ∃ o, loadL (Hs.none 40) l (bundleL h l).1 = (o, 0, -1) ∧ OkH o ∧ o.l.length ≤ l.length ∧ (∀ x ∈ l, getH o x.m = getH h x.m) ∧ (∀ x ∈ l, (getH h x.m).2 = 0) ∧ bundleL o l = bundleL h l := by
  obtain ⟨hg, m, hm, he⟩ := bundle_fine hl hb
  have hz := lock_zero hl
  have hgo := gone_none hg
  have hpart : ∀ x ∈ l, isPart x.n = true := fun x hx => (want_zero (hl.right x hx)).1
  have hz1 : ∀ z ∈ treesL h l, isPart z.1 = true := fun z hz => by
    obtain ⟨x, hx, rfl⟩ := List.mem_map.1 hz
    exact hpart x hx
  have hnd : ((treesL h l).map (·.1)).Nodup := by
    have : (treesL h l).map (·.1) = l.map Wt.n := by unfold treesL; rw [List.map_map]; rfl
    rw [this]
    exact names_once hl
  have hun := graftAll_under tree_nil hm hz1 hnd (fun z _ => by simp [underL])
  have htm : (treeFault m).1 = 0 := graftAll_tree tree_nil hm
  have hrd := readP_pack htm
  have hu2 : ∀ x ∈ l, (getH h x.m).2 = 0 ∧ underL m x.n = (getH h x.m).1 := fun x hx => ⟨hgo x hx, hun (x.n, (getH h x.m).1) (List.mem_map_of_mem hx)⟩
  obtain ⟨o, e1, L, _, h2⟩ := loadAll_fine hh l (Hs.none 40) 0 0 (Load.zero h) (by have := hl.few; omega) hu2
  have hget : ∀ x ∈ l, getH o x.m = getH h x.m := fun x hx => L.get (h2 x hx)
  refine ⟨o, ?_, L.ok, by simpa using L.few, hget, hgo, ?_⟩
  · rw [he]
    unfold loadL
    rw [if_neg (by rw [hz]; simp), hrd, if_neg (by simp), e1]
    simp
  · have ht : treesL o l = treesL h l := by
      unfold treesL
      exact List.map_congr_left fun x hx => by rw [hget x hx]
    have hgo2 : goneL o l = none := gone_of fun x hx => by rw [hget x hx]; exact hgo x hx
    rw [he]
    unfold bundleL
    rw [if_neg (by rw [hz]; simp), hgo2, ht, hm]
    simp
end Go.Proofs.YtmcfkoenpikldaaGreatDoor
