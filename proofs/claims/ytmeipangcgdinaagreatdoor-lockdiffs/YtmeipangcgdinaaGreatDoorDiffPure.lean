/-
  Differences of two locks, plainly: each name's line, turned around, done line by line: no machine.
-/
import Derived.Test.YtmeipangcgdinaaGreatDoorPkLockNamesPkLockSort
import Derived.Test.YtmeipangcgdinaaGreatDoorPkLockFindPkLockDrop
namespace Go.Proofs.YtmeipangcgdinaaGreatDoor

theorem want_part {x : Wt} (h : wantCode x = 0) : isPart x.n = true := (want_zero h).1
theorem part_none : isPart [] = false := rfl
/-- What rises in both, and is in one only where it is in the other one, is a part of it. -/
theorem sub_of {α : Type} (key : α → List UInt8) : ∀ {l m : List α}, (l.Pairwise fun x y => less (key x) (key y) = true) → (m.Pairwise fun x y => less (key x) (key y) = true) → (∀ x ∈ l, x ∈ m) → l.Sublist m
  | [], m, _, _, _ => List.nil_sublist m
  | x :: l, [], _, _, h => absurd (h x List.mem_cons_self) (by simp)
  | x :: l, y :: m, h1, h2, h => by
    obtain ⟨a1, b1⟩ := List.pairwise_cons.1 h1
    obtain ⟨a2, b2⟩ := List.pairwise_cons.1 h2
    by_cases e : x = y
    · subst e
      refine (sub_of key b1 b2 fun z hz => ?_).cons_cons x
      rcases List.mem_cons.1 (h z (List.mem_cons_of_mem _ hz)) with rfl | hm
      · have := a1 _ hz
        rw [less_irrefl] at this
        cases this
      · exact hm
    · have hx : x ∈ m := (List.mem_cons.1 (h x List.mem_cons_self)).resolve_left e
      have hyx := a2 x hx
      refine List.Sublist.cons y (sub_of key h1 b2 fun z hz => ?_)
      rcases List.mem_cons.1 hz with rfl | hz
      · exact hx
      · rcases List.mem_cons.1 (h z (List.mem_cons_of_mem _ hz)) with rfl | hm
        · have := less_trans hyx (a1 _ hz)
          rw [less_irrefl] at this
          cases this
        · exact hm
theorem same_of {α : Type} (key : α → List UInt8) {l m : List α} (h1 : l.Pairwise fun x y => less (key x) (key y) = true) (h2 : m.Pairwise fun x y => less (key x) (key y) = true) (h : ∀ x, x ∈ l ↔ x ∈ m) : l = m :=
  (sub_of key h1 h2 fun x hx => (h x).1 hx).eq_of_length_le (sub_of key h2 h1 fun x hx => (h x).2 hx).length_le

theorem atW_some {l : List Wt} {t : List UInt8} {x : Wt} (h : atW l t = some x) : x ∈ l ∧ x.n = t := ⟨List.mem_of_find?_eq_some h, by simpa using List.find?_some h⟩
theorem Lock.one {l : List Wt} (h : Lock l) {x y : Wt} (hx : x ∈ l) (hy : y ∈ l) (e : x.n = y.n) : x = y := by
  obtain ⟨i, hi, rfl⟩ := List.getElem_of_mem hx
  obtain ⟨j, hj, rfl⟩ := List.getElem_of_mem hy
  by_cases h1 : i < j
  · have := h.le hi hj h1
    rw [e, less_irrefl] at this
    cases this
  · by_cases h2 : j < i
    · have := h.le hj hi h2
      rw [e, less_irrefl] at this
      cases this
    · have : i = j := by omega
      subst this
      rfl
theorem Lock.at_iff {l : List Wt} (h : Lock l) {t : List UInt8} {x : Wt} : atW l t = some x ↔ x ∈ l ∧ x.n = t := by
  refine ⟨atW_some, fun ⟨hx, e⟩ => ?_⟩
  cases hf : atW l t with
  | none =>
    unfold atW at hf
    rw [List.find?_eq_none] at hf
    exact absurd (by simpa using e) (hf x hx)
  | some y =>
    obtain ⟨hy, e2⟩ := atW_some hf
    rw [h.one hx hy (e.trans e2.symm)]
theorem Lock.mem_at {l : List Wt} (h : Lock l) {x : Wt} (hx : x ∈ l) : atW l x.n = some x := h.at_iff.2 ⟨hx, rfl⟩
/-- Two locks that have the same by each name are the same. -/
theorem Lock.ext {l m : List Wt} (h1 : Lock l) (h2 : Lock m) (h : ∀ t, atW l t = atW m t) : l = m := by
  refine same_of (fun x : Wt => x.n) h1.rise h2.rise fun x => ⟨fun hx => ?_, fun hx => ?_⟩
  · have := h1.mem_at hx
    rw [h] at this
    exact (atW_some this).1
  · have := h2.mem_at hx
    rw [← h] at this
    exact (atW_some this).1
theorem Lock.notNo {l : List Wt} (h : Lock l) {x : Wt} (hx : x ∈ l) : sameW x noW = false := by
  cases e : sameW x noW with
  | false => rfl
  | true =>
    have e := sameW_iff.1 e
    have := want_part (h.right x hx)
    rw [e, show noW.n = [] from rfl, part_none] at this
    cases this

/-- The line of a name. -/
def lineW (a b : List Wt) (t : List UInt8) : List UInt8 := markL ((atW a t).getD noW) ((atW b t).getD noW)
theorem sameW_self (x : Wt) : sameW x x = true := sameW_iff.2 rfl
theorem sameW_comm (x y : Wt) : sameW x y = sameW y x := by rw [Bool.eq_iff_iff, sameW_iff, sameW_iff]; exact ⟨Eq.symm, Eq.symm⟩
theorem line_cases {a b : List Wt} (ha : Lock a) (hb : Lock b) (t : List UInt8) :
    (atW a t = atW b t ∧ lineW a b t = [] ∧ lineW b a t = []) ∨ ((∃ x, atW a t = some x) ∧ atW b t = none ∧ lineW a b t = [45, 32] ∧ lineW b a t = [43, 32]) ∨
    (atW a t = none ∧ (∃ x, atW b t = some x) ∧ lineW a b t = [43, 32] ∧ lineW b a t = [45, 32]) ∨ ((∃ x, atW a t = some x) ∧ (∃ x, atW b t = some x) ∧ lineW a b t = [42, 32] ∧ lineW b a t = [42, 32]) := by
  unfold lineW markL
  cases e1 : atW a t with
  | none =>
    cases e2 : atW b t with
    | none => exact .inl ⟨rfl, by simp [sameW_self], by simp [sameW_self]⟩
    | some y =>
      have n2 := hb.notNo (atW_some e2).1
      have n3 := n2
      rw [sameW_comm] at n3
      exact .inr (.inr (.inl ⟨rfl, ⟨y, rfl⟩, by simp [n2, n3, sameW_self], by simp [n2, sameW_self]⟩))
  | some x =>
    have n1 := ha.notNo (atW_some e1).1
    have n4 := n1
    rw [sameW_comm] at n4
    cases e2 : atW b t with
    | none => exact .inr (.inl ⟨⟨x, rfl⟩, rfl, by simp [n1, sameW_self], by simp [n1, n4, sameW_self]⟩)
    | some y =>
      have n2 := hb.notNo (atW_some e2).1
      cases e : sameW x y with
      | true =>
        have := sameW_iff.1 e
        subst this
        exact .inl ⟨rfl, by simp [sameW_self], by simp [sameW_self]⟩
      | false =>
        have e' := e
        rw [sameW_comm] at e'
        exact .inr (.inr (.inr ⟨⟨x, rfl⟩, ⟨y, rfl⟩, by simp [n1, n2, e], by simp [n1, n2, e']⟩))

/-- The lines of a difference: in the order of their names, of each name that has one. -/
structure IsDiff (a b : List Wt) (s : List (List UInt8)) : Prop where
  rise : s.Pairwise fun x y => less (x.drop 2) (y.drop 2) = true
  mem : ∀ x, x ∈ s ↔ ∃ t, lineW a b t ≠ [] ∧ x = lineW a b t ++ t
theorem IsDiff.self {a : List Wt} {s : List (List UInt8)} (ha : Lock a) (h : IsDiff a a s) : s = [] := by
  cases s with
  | nil => rfl
  | cons x s =>
    obtain ⟨t, h1, h2⟩ := (h.mem x).1 List.mem_cons_self
    rcases line_cases ha ha t with h3 | ⟨⟨x, h3⟩, h4, _⟩ | ⟨h3, ⟨x, h4⟩, _⟩ | ⟨_, _, h3, _⟩
    · exact absurd h3.2.1 h1
    · rw [h3] at h4; cases h4
    · rw [h3] at h4; cases h4
    · unfold lineW markL at h3
      rw [sameW_self] at h3
      cases h3
theorem line_drop {a b : List Wt} (ha : Lock a) (hb : Lock b) {t : List UInt8} (h : lineW a b t ≠ []) : (lineW a b t ++ t).drop 2 = t := by
  rcases line_cases ha hb t with h3 | ⟨_, _, h3, _⟩ | ⟨_, _, h3, _⟩ | ⟨_, _, h3, _⟩
  · exact absurd h3.2.1 h
  all_goals rw [h3]; rfl
/-- A line turned around. -/
def turnL : List UInt8 → List UInt8
  | [] => []
  | c :: r => (if c = 43 then 45 else if c = 45 then 43 else c) :: r
theorem turn_line {a b : List Wt} (ha : Lock a) (hb : Lock b) (t : List UInt8) : (lineW a b t ≠ [] → turnL (lineW a b t ++ t) = lineW b a t ++ t) ∧ (lineW a b t ≠ [] ↔ lineW b a t ≠ []) := by
  rcases line_cases ha hb t with ⟨_, h1, h2⟩ | ⟨_, _, h1, h2⟩ | ⟨_, _, h1, h2⟩ | ⟨_, _, h1, h2⟩
  all_goals rw [h1, h2]
  all_goals simp [turnL]
theorem IsDiff.turned {a b : List Wt} {s r : List (List UInt8)} (ha : Lock a) (hb : Lock b) (h : IsDiff a b s) (h' : IsDiff b a r) : r = s.map turnL := by
  have hd : ∀ x ∈ s, (turnL x).drop 2 = x.drop 2 := fun x _ => by cases x <;> rfl
  refine same_of (fun x : List UInt8 => x.drop 2) h'.rise ?_ fun x => ?_
  · rw [List.pairwise_map]
    exact h.rise.imp_of_mem fun hx hy hxy => by rw [hd _ hx, hd _ hy]; exact hxy
  · rw [h'.mem, List.mem_map]
    constructor
    · rintro ⟨t, h1, rfl⟩
      have h2 := (turn_line ha hb t).2.2 h1
      exact ⟨lineW a b t ++ t, (h.mem _).2 ⟨t, h2, rfl⟩, (turn_line ha hb t).1 h2⟩
    · rintro ⟨y, hy, rfl⟩
      obtain ⟨t, h1, rfl⟩ := (h.mem y).1 hy
      exact ⟨t, (turn_line ha hb t).2.1 h1, (turn_line ha hb t).1 h1⟩

/-- A name dropped. -/
theorem dropW_at {l : List Wt} (h : Lock l) {t : List UInt8} {x : Wt} (hx : atW l t = some x) : ∃ m, dropL l t = (m, 0, -1) ∧ Lock m ∧ ∀ u, atW m u = if u = t then none else atW l u := by
  obtain ⟨hm, e⟩ := atW_some hx
  have hz := lock_iff.2 h
  obtain ⟨j, hj⟩ : ∃ j, l.findIdx? (fun y => y.n == t) = some j := by
    cases hf : l.findIdx? (fun y => y.n == t) with
    | some j => exact ⟨j, rfl⟩
    | none =>
      rw [List.findIdx?_eq_none_iff] at hf
      have := hf x hm
      simp [e] at this
  obtain ⟨hjl, hjt, _⟩ := List.findIdx?_eq_some_iff_getElem.1 hj
  have hjt : l[j].n = t := by simpa using hjt
  have hsub : (l.take j ++ l.drop (j + 1)).Sublist l := by
    have h1 : (l.take j ++ l.drop (j + 1)).Sublist (l.take j ++ l.drop j) := (List.Sublist.refl _).append (by rw [← List.drop_drop]; exact List.drop_sublist _ _)
    rw [List.take_append_drop] at h1
    exact h1
  have hL : Lock (l.take j ++ l.drop (j + 1)) := ⟨Nat.le_trans hsub.length_le h.few, fun y hy => h.right y (hsub.mem hy), h.rise.sublist hsub⟩
  refine ⟨l.take j ++ l.drop (j + 1), by unfold dropL; rw [if_neg (by omega), hj], hL, fun u => ?_⟩
  have hmem : ∀ y, y ∈ l.take j ++ l.drop (j + 1) ↔ y ∈ l ∧ y.n ≠ t := fun y => by
    constructor
    · intro hy
      refine ⟨hsub.mem hy, fun e2 => ?_⟩
      rcases List.mem_append.1 hy with hy | hy
      · obtain ⟨i, hi, rfl⟩ := List.getElem_of_mem hy
        rw [List.length_take] at hi
        rw [List.getElem_take] at e2
        have := h.le (i := i) (by omega) hjl (by omega)
        rw [e2, hjt, less_irrefl] at this
        cases this
      · obtain ⟨i, hi, rfl⟩ := List.getElem_of_mem hy
        rw [List.length_drop] at hi
        rw [List.getElem_drop] at e2
        have := h.le (i := j) (j := j + 1 + i) hjl (by omega) (by omega)
        rw [e2, hjt, less_irrefl] at this
        cases this
    · rintro ⟨hy, hne⟩
      obtain ⟨i, hi, rfl⟩ := List.getElem_of_mem hy
      by_cases h1 : i < j
      · refine List.mem_append_left _ (List.mem_iff_getElem.2 ⟨i, by rw [List.length_take]; omega, by rw [List.getElem_take]⟩)
      · by_cases h2 : i = j
        · subst h2
          exact absurd hjt hne
        · exact List.mem_append_right _ (List.mem_iff_getElem.2 ⟨i - (j + 1), by rw [List.length_drop]; omega, by rw [List.getElem_drop]; congr 1; omega⟩)
  by_cases hu : u = t
  · rw [if_pos hu]
    cases hf : atW (l.take j ++ l.drop (j + 1)) u with
    | none => rfl
    | some y =>
      obtain ⟨h1, h2⟩ := atW_some hf
      exact absurd (h2.trans hu) ((hmem y).1 h1).2
  · rw [if_neg hu]
    cases hf : atW l u with
    | none =>
      cases hf2 : atW (l.take j ++ l.drop (j + 1)) u with
      | none => rfl
      | some y =>
        obtain ⟨h1, h2⟩ := atW_some hf2
        have := h.at_iff.2 ⟨((hmem y).1 h1).1, h2⟩
        rw [hf] at this
        cases this
    | some y =>
      obtain ⟨h1, h2⟩ := atW_some hf
      exact hL.at_iff.2 ⟨(hmem y).2 ⟨h1, by rw [h2]; exact hu⟩, h2⟩
theorem thereW_iff {l : List Wt} (h : Lock l) {t : List UInt8} : thereL l t = true ↔ ∃ x, atW l t = some x := by
  constructor
  · intro ht
    obtain ⟨hl, hn⟩ := there_yes ht
    exact ⟨_, h.at_iff.2 ⟨List.getElem_mem hl, hn⟩⟩
  · rintro ⟨x, hx⟩
    obtain ⟨hm, e⟩ := atW_some hx
    obtain ⟨i, hi, rfl⟩ := List.getElem_of_mem hm
    cases ht : thereL l t with
    | true => rfl
    | false =>
      exfalso
      have hp : placeL l t ≤ i := by
        refine Nat.not_lt.1 fun hlt => ?_
        obtain ⟨_, h2⟩ := place_below hlt
        rw [e, less_irrefl] at h2
        cases h2
      have hpl : placeL l t < l.length := by omega
      have hne := there_no ht hpl
      by_cases h1 : placeL l t = i
      · have e3 : l[placeL l t]'hpl = l[i] := by congr 1
        exact hne (by rw [e3]; exact e)
      · have := h.le hpl hi (by omega)
        have h2 := place_at hpl
        rw [e] at this
        rw [this] at h2
        cases h2
theorem putW_mem {l : List Wt} (h : Lock l) {x : Wt} (y : Wt) : y ∈ putL l x ↔ y = x ∨ (y ∈ l ∧ y.n ≠ x.n) := by
  unfold putL
  cases ht : thereL l x.n with
  | true =>
    obtain ⟨hl, hn⟩ := there_yes ht
    rw [if_pos rfl]
    constructor
    · intro hy
      obtain ⟨i, hi, rfl⟩ := List.getElem_of_mem hy
      rw [List.getElem_set]
      by_cases e : placeL l x.n = i
      · rw [if_pos e]; exact .inl rfl
      · rw [if_neg e]
        rw [List.length_set] at hi
        refine .inr ⟨List.getElem_mem hi, fun e2 => ?_⟩
        have := h.one (List.getElem_mem hi) (List.getElem_mem hl) (e2.trans hn.symm)
        by_cases h1 : placeL l x.n < i
        · have h2 := h.le hl hi h1
          rw [this, less_irrefl] at h2
          cases h2
        · have h2 := h.le hi hl (by omega)
          rw [this, less_irrefl] at h2
          cases h2
    · rintro (rfl | ⟨hy, hne⟩)
      · exact List.mem_iff_getElem.2 ⟨placeL l y.n, by rw [List.length_set]; exact hl, by rw [List.getElem_set, if_pos rfl]⟩
      · obtain ⟨i, hi, rfl⟩ := List.getElem_of_mem hy
        refine List.mem_iff_getElem.2 ⟨i, by rw [List.length_set]; exact hi, ?_⟩
        rw [List.getElem_set, if_neg]
        rintro rfl
        exact hne hn
  | false =>
    rw [if_neg (by simp)]
    have hno : ∀ y ∈ l, y.n ≠ x.n := fun y hy e => by
      have := (thereW_iff h).2 ⟨y, h.at_iff.2 ⟨hy, e⟩⟩
      rw [ht] at this
      cases this
    rw [List.mem_append, List.mem_cons]
    constructor
    · rintro (hy | rfl | hy)
      · exact .inr ⟨List.mem_of_mem_take hy, hno _ (List.mem_of_mem_take hy)⟩
      · exact .inl rfl
      · exact .inr ⟨List.mem_of_mem_drop hy, hno _ (List.mem_of_mem_drop hy)⟩
    · rintro (rfl | ⟨hy, _⟩)
      · exact .inr (.inl rfl)
      · rw [← List.take_append_drop (placeL l x.n) l, List.mem_append] at hy
        rcases hy with hy | hy
        · exact .inl hy
        · exact .inr (.inr hy)
/-- A want set, all of whose names another lock has: it has room. -/
theorem putW_at {l b : List Wt} (h : Lock l) (hb : Lock b) {x : Wt} (hx : x ∈ b) (hn : ∀ y ∈ l, ∃ z ∈ b, z.n = y.n) : setL l x = (putL l x, 0, -1) ∧ Lock (putL l x) ∧ ∀ u, atW (putL l x) u = if u = x.n then some x else atW l u := by
  have hz := lock_iff.2 h
  have hw := hb.right x hx
  have hroom : ¬ (thereL l x.n = false ∧ l.length = 20) := by
    rintro ⟨ht, h20⟩
    have hs : (l.map fun y => y.n).Sublist (b.map fun y => y.n) := by
      refine sub_of (fun t => t) ?_ ?_ fun t ht => ?_
      · rw [List.pairwise_map]; exact h.rise
      · rw [List.pairwise_map]; exact hb.rise
      · obtain ⟨y, hy, rfl⟩ := List.mem_map.1 ht
        obtain ⟨z, hz, e⟩ := hn y hy
        exact List.mem_map.2 ⟨z, hz, e⟩
    have hbf := hb.few
    have := hs.eq_of_length_le (by rw [List.length_map, List.length_map]; omega)
    have hm : x.n ∈ l.map fun y => y.n := by rw [this]; exact List.mem_map.2 ⟨x, hx, rfl⟩
    obtain ⟨y, hy, e⟩ := List.mem_map.1 hm
    have := (thereW_iff h).2 ⟨y, h.at_iff.2 ⟨hy, e⟩⟩
    rw [ht] at this
    cases this
  have hL : Lock (putL l x) := by
    unfold putL
    cases ht : thereL l x.n with
    | true =>
      obtain ⟨hl, hn⟩ := there_yes ht
      rw [if_pos rfl]
      exact h.set hw hl hn
    | false =>
      rw [if_neg (by simp)]
      exact h.insert hw ht fun e => hroom ⟨ht, e⟩
  refine ⟨by unfold setL; rw [if_neg (by omega), if_neg (by omega), if_neg hroom], hL, fun u => ?_⟩
  by_cases hu : u = x.n
  · rw [if_pos hu]
    exact hL.at_iff.2 ⟨(putW_mem h x).2 (.inl rfl), hu.symm⟩
  · rw [if_neg hu]
    cases hf : atW l u with
    | none =>
      cases hf2 : atW (putL l x) u with
      | none => rfl
      | some y =>
        obtain ⟨h1, h2⟩ := atW_some hf2
        rcases (putW_mem h y).1 h1 with rfl | ⟨h3, _⟩
        · exact absurd h2.symm hu
        · have := h.at_iff.2 ⟨h3, h2⟩
          rw [hf] at this
          cases this
    | some y =>
      obtain ⟨h1, h2⟩ := atW_some hf
      exact hL.at_iff.2 ⟨(putW_mem h y).2 (.inr ⟨h1, by rw [h2]; exact hu⟩), h2⟩

/-- What one line of a difference is. -/
theorem IsDiff.line {a b : List Wt} {d : List (List UInt8)} (ha : Lock a) (hb : Lock b) (h : IsDiff a b d) {i : Nat} (hi : i < d.length) : ∃ c t, d[i] = [c, 32] ++ t ∧
    ((c = 45 ∧ (∃ x, atW a t = some x) ∧ atW b t = none) ∨ (c = 43 ∧ atW a t = none ∧ ∃ x, atW b t = some x) ∨ (c = 42 ∧ (∃ x, atW a t = some x) ∧ ∃ x, atW b t = some x)) := by
  obtain ⟨t, h1, h2⟩ := (h.mem d[i]).1 (List.getElem_mem hi)
  rw [h2]
  rcases line_cases ha hb t with ⟨_, h3, _⟩ | ⟨h3, h4, h5, _⟩ | ⟨h3, h4, h5, _⟩ | ⟨h3, h4, h5, _⟩
  · exact absurd h3 h1
  · exact ⟨45, t, by rw [h5], .inl ⟨rfl, h3, h4⟩⟩
  · exact ⟨43, t, by rw [h5], .inr (.inl ⟨rfl, h3, h4⟩)⟩
  · exact ⟨42, t, by rw [h5], .inr (.inr ⟨rfl, h3, h4⟩)⟩
theorem IsDiff.names {a b : List Wt} {d : List (List UInt8)} (h : IsDiff a b d) {i j : Nat} (hi : i < d.length) (hj : j < d.length) (e : d[i].drop 2 = d[j].drop 2) : i = j := by
  have hp := List.pairwise_iff_getElem.1 h.rise
  by_cases h1 : i < j
  · have := hp i j hi hj h1
    rw [e, less_irrefl] at this
    cases this
  · by_cases h2 : j < i
    · have := hp j i hj hi h2
      rw [e, less_irrefl] at this
      cases this
    · omega
/-- What is left behind so many lines, of which those that go are done. -/
structure Dropped (a : List Wt) (d : List (List UInt8)) (i : Nat) (now : List Wt) : Prop where
  lock : Lock now
  gone : ∀ u, [45, 32] ++ u ∈ d.take i → atW now u = none
  kept : ∀ u, [45, 32] ++ u ∉ d.take i → atW now u = atW a u
theorem Dropped.start {a : List Wt} (ha : Lock a) (d : List (List UInt8)) : Dropped a d 0 a := ⟨ha, fun u h => by simp at h, fun u _ => rfl⟩
theorem mem_take_succ {α : Type} {d : List α} {i : Nat} (hi : i < d.length) (x : α) : x ∈ d.take (i + 1) ↔ x ∈ d.take i ∨ x = d[i] := by
  rw [List.take_succ_eq_append_getElem hi, List.mem_append, List.mem_singleton]
theorem Dropped.pass {a now : List Wt} {d : List (List UInt8)} {i : Nat} (h : Dropped a d i now) (hi : i < d.length) {c : UInt8} {t : List UInt8} (e : d[i] = [c, 32] ++ t) (hc : c ≠ 45) : Dropped a d (i + 1) now := by
  have hm : ∀ u, [45, 32] ++ u ∈ d.take (i + 1) ↔ [45, 32] ++ u ∈ d.take i := fun u => by
    rw [mem_take_succ hi]
    refine ⟨fun h => h.resolve_right fun e2 => ?_, .inl⟩
    rw [e] at e2
    exact hc (List.cons.inj e2).1.symm
  exact ⟨h.lock, fun u hu => h.gone u ((hm u).1 hu), fun u hu => h.kept u fun hu' => hu ((hm u).2 hu')⟩
theorem Dropped.next {a b now : List Wt} {d : List (List UInt8)} (hD : IsDiff a b d) {i : Nat} (h : Dropped a d i now) (hi : i < d.length) {t : List UInt8} (e : d[i] = [45, 32] ++ t) (ht : ∃ x, atW a t = some x) :
    ∃ m, dropL now t = (m, 0, -1) ∧ Dropped a d (i + 1) m := by
  have hnot : [45, 32] ++ t ∉ d.take i := fun hm => by
    obtain ⟨j, hj, e2⟩ := List.getElem_of_mem hm
    rw [List.length_take] at hj
    rw [List.getElem_take, ← e] at e2
    have := hD.names (i := j) (j := i) (by omega) hi (by rw [e2])
    omega
  obtain ⟨x, hx⟩ := ht
  rw [← h.kept t hnot] at hx
  obtain ⟨m, h1, h2, h3⟩ := dropW_at h.lock hx
  refine ⟨m, h1, h2, fun u hu => ?_, fun u hu => ?_⟩
  · rw [h3]
    by_cases hut : u = t
    · rw [if_pos hut]
    · rw [if_neg hut]
      refine h.gone u (((mem_take_succ hi _).1 hu).resolve_right fun e2 => hut ?_)
      rw [e] at e2
      exact List.append_cancel_left e2
  · rw [h3, if_neg, h.kept u fun hu' => hu ((mem_take_succ hi _).2 (.inl hu'))]
    rintro rfl
    exact hu ((mem_take_succ hi _).2 (.inr e.symm))
/-- What is made behind so many lines, of which those that come, or are otherwise, are done. -/
structure Made (a b : List Wt) (d : List (List UInt8)) (i : Nat) (now : List Wt) : Prop where
  lock : Lock now
  done : ∀ u c, c ≠ 45 → [c, 32] ++ u ∈ d.take i → atW now u = atW b u
  gone : ∀ u, [45, 32] ++ u ∈ d → atW now u = none
  kept : ∀ u, (∀ c, c ≠ 45 → [c, 32] ++ u ∉ d.take i) → [45, 32] ++ u ∉ d → atW now u = atW a u
theorem Made.start {a b now : List Wt} {d : List (List UInt8)} (h : Dropped a d d.length now) : Made a b d 0 now := by
  obtain ⟨h1, h2, h3⟩ := h
  rw [List.take_length] at h2 h3
  exact ⟨h1, fun u c _ h => by simp at h, h2, fun u _ hu => h3 u hu⟩
theorem Made.pass {a b now : List Wt} {d : List (List UInt8)} {i : Nat} (h : Made a b d i now) (hi : i < d.length) {t : List UInt8} (e : d[i] = [45, 32] ++ t) : Made a b d (i + 1) now := by
  have hm : ∀ u c, c ≠ 45 → [c, 32] ++ u ∈ d.take (i + 1) → [c, 32] ++ u ∈ d.take i := fun u c hc h => by
    refine ((mem_take_succ hi _).1 h).resolve_right fun e2 => ?_
    rw [e] at e2
    exact hc (List.cons.inj e2).1
  exact ⟨h.lock, fun u c hc hu => h.done u c hc (hm u c hc hu), h.gone, fun u hu hg => h.kept u (fun c hc hu' => hu c hc ((mem_take_succ hi _).2 (.inl hu'))) hg⟩
theorem Made.within {a b now : List Wt} {d : List (List UInt8)} (ha : Lock a) (hb : Lock b) (hD : IsDiff a b d) {i : Nat} (h : Made a b d i now) : ∀ y ∈ now, ∃ z ∈ b, z.n = y.n := fun y hy => by
  have hat := h.lock.mem_at hy
  have hin : ∀ {o : Option Wt}, o = atW b y.n → atW now y.n = o → ∃ z ∈ b, z.n = y.n := fun {o} e1 e2 => by
    rw [hat] at e2
    rw [← e2] at e1
    obtain ⟨h1, h2⟩ := atW_some e1.symm
    exact ⟨y, h1, rfl⟩
  rcases line_cases ha hb y.n with ⟨h1, h2, _⟩ | ⟨_, h2, h3, _⟩ | ⟨_, ⟨z, h2⟩, _, _⟩ | ⟨_, ⟨z, h2⟩, _, _⟩
  · refine hin h1 (h.kept _ (fun c hc hm => ?_) fun hm => ?_)
    · obtain ⟨t, g1, g2⟩ := (hD.mem _).1 (List.mem_of_mem_take hm)
      have := congrArg (List.drop 2) g2
      rw [line_drop ha hb g1] at this
      obtain rfl : y.n = t := this
      exact g1 h2
    · obtain ⟨t, g1, g2⟩ := (hD.mem _).1 hm
      have := congrArg (List.drop 2) g2
      rw [line_drop ha hb g1] at this
      obtain rfl : y.n = t := this
      exact g1 h2
  · have := h.gone y.n ((hD.mem _).2 ⟨y.n, by rw [h3]; simp, by rw [h3]⟩)
    rw [hat] at this
    cases this
  · obtain ⟨g1, g2⟩ := atW_some h2
    exact ⟨z, g1, g2⟩
  · obtain ⟨g1, g2⟩ := atW_some h2
    exact ⟨z, g1, g2⟩
theorem Made.next {a b now : List Wt} {d : List (List UInt8)} (ha : Lock a) (hb : Lock b) (hD : IsDiff a b d) {i : Nat} (h : Made a b d i now) (hi : i < d.length) {c : UInt8} {t : List UInt8} (e : d[i] = [c, 32] ++ t) (hc : c ≠ 45) (ht : ∃ x, atW b t = some x) :
    ∃ k, ∃ hk : k < b.length, b[k].n = t ∧ findL b t = (k : Int) ∧ setL now b[k] = (putL now b[k], 0, -1) ∧ Made a b d (i + 1) (putL now b[k]) := by
  obtain ⟨x, hx⟩ := ht
  obtain ⟨hm, e1⟩ := atW_some hx
  obtain ⟨k, hk, rfl⟩ := List.getElem_of_mem hm
  obtain ⟨h1, h2, h3⟩ := putW_at h.lock hb hm (h.within ha hb hD)
  refine ⟨k, hk, e1, by rw [← e1]; exact find_there hb hk, h1, h2, fun u c' hc' hu => ?_, fun u hu => ?_, fun u hu hg => ?_⟩
  · rw [h3, e1]
    by_cases hut : u = t
    · rw [if_pos hut, hut, hx]
    · rw [if_neg hut]
      refine h.done u c' hc' (((mem_take_succ hi _).1 hu).resolve_right fun e2 => hut ?_)
      rw [e] at e2
      exact (List.cons.inj (List.cons.inj e2).2).2
  · rw [h3, e1, if_neg, h.gone u hu]
    rintro rfl
    obtain ⟨j, hj, e2⟩ := List.getElem_of_mem hu
    have := hD.names hj hi (by rw [e2, e]; rfl)
    subst this
    rw [e] at e2
    exact hc (List.cons.inj e2).1
  · rw [h3, e1, if_neg, h.kept u (fun c' hc' hu' => hu c' hc' ((mem_take_succ hi _).2 (.inl hu'))) hg]
    rintro rfl
    exact hu c hc ((mem_take_succ hi _).2 (.inr e.symm))
theorem Made.all {a b now : List Wt} {d : List (List UInt8)} (ha : Lock a) (hb : Lock b) (hD : IsDiff a b d) (h : Made a b d d.length now) : now = b := by
  refine Lock.ext h.lock hb fun u => ?_
  obtain ⟨_, h1, h2, h3⟩ := h
  rw [List.take_length] at h1 h3
  rcases line_cases ha hb u with ⟨g1, g2, _⟩ | ⟨_, g2, g3, _⟩ | ⟨_, _, g3, _⟩ | ⟨_, _, g3, _⟩
  · rw [← g1]
    refine h3 u (fun c hc hm => ?_) fun hm => ?_
    · obtain ⟨t, f1, f2⟩ := (hD.mem _).1 hm
      have := congrArg (List.drop 2) f2
      rw [line_drop ha hb f1] at this
      obtain rfl : u = t := this
      exact f1 g2
    · obtain ⟨t, f1, f2⟩ := (hD.mem _).1 hm
      have := congrArg (List.drop 2) f2
      rw [line_drop ha hb f1] at this
      obtain rfl : u = t := this
      exact f1 g2
  · rw [h2 u ((hD.mem _).2 ⟨u, by rw [g3]; simp, by rw [g3]⟩), g2]
  · exact h1 u 43 (by decide) ((hD.mem _).2 ⟨u, by rw [g3]; simp, by rw [g3]⟩)
  · exact h1 u 42 (by decide) ((hD.mem _).2 ⟨u, by rw [g3]; simp, by rw [g3]⟩)

/-- The lines of the names that have come, in whatever order. -/
structure RawLines (a b : List Wt) (lt : List UInt8 → Bool) (raw : List (List UInt8)) : Prop where
  once : raw.Pairwise fun x y => x.drop 2 ≠ y.drop 2
  mem : ∀ x, x ∈ raw ↔ ∃ t, lt t = false ∧ lineW a b t ≠ [] ∧ x = lineW a b t ++ t
theorem pair_none {a b : List Wt} {t : List UInt8} (h : (pairF a b t).isSome = false) : atW a t = none ∧ atW b t = none := by
  unfold pairF at h
  cases e1 : atW a t with
  | none =>
    cases e2 : atW b t with
    | none => exact ⟨rfl, rfl⟩
    | some y => rw [e1, e2] at h; cases h
  | some x => rw [e1] at h; cases h
theorem pair_some {a b : List Wt} {t : List UInt8} {v : Value} (h : pairF a b t = some v) : v = pv ((atW a t).getD noW) ((atW b t).getD noW) ∧ ∃ x, (x ∈ a ∨ x ∈ b) ∧ x.n = t := by
  unfold pairF at h
  cases e1 : atW a t with
  | none =>
    cases e2 : atW b t with
    | none => rw [e1, e2] at h; cases h
    | some y =>
      rw [e1, e2] at h
      cases h
      exact ⟨rfl, y, .inr (atW_some e2).1, (atW_some e2).2⟩
  | some x =>
    rw [e1] at h
    cases h
    exact ⟨rfl, x, .inl (atW_some e1).1, (atW_some e1).2⟩
theorem RawLines.start (a b : List Wt) : RawLines a b (fun u => (pairF a b u).isSome) [] := by
  refine ⟨.nil, fun x => ⟨fun h => by simp at h, ?_⟩⟩
  rintro ⟨t, h1, h2, _⟩
  obtain ⟨e1, e2⟩ := pair_none h1
  unfold lineW markL at h2
  rw [e1, e2] at h2
  exact absurd (by simp [sameW_self]) h2
theorem left_next {lt : List UInt8 → Bool} {u t : List UInt8} : (lt t && !(t == u)) = false ↔ lt t = false ∨ t = u := by
  cases lt t <;> simp
theorem RawLines.pass {a b : List Wt} {lt : List UInt8 → Bool} {raw : List (List UInt8)} (h : RawLines a b lt raw) {u : List UInt8} (hu : lineW a b u = []) : RawLines a b (fun q => lt q && !(q == u)) raw := by
  refine ⟨h.once, fun x => (h.mem x).trans ⟨?_, ?_⟩⟩
  · rintro ⟨t, h1, h2, h3⟩
    exact ⟨t, left_next.2 (.inl h1), h2, h3⟩
  · rintro ⟨t, h1, h2, h3⟩
    rcases left_next.1 h1 with h1 | rfl
    · exact ⟨t, h1, h2, h3⟩
    · exact absurd hu h2
theorem RawLines.next {a b : List Wt} (ha : Lock a) (hb : Lock b) {lt : List UInt8 → Bool} {raw : List (List UInt8)} (h : RawLines a b lt raw) {u : List UInt8} (hl : lt u = true) (hu : lineW a b u ≠ []) :
    RawLines a b (fun q => lt q && !(q == u)) (raw ++ [lineW a b u ++ u]) := by
  refine ⟨List.pairwise_append.2 ⟨h.once, List.pairwise_singleton _ _, fun x hx y hy => ?_⟩, fun x => ?_⟩
  · obtain rfl := List.mem_singleton.1 hy
    obtain ⟨t, h1, h2, rfl⟩ := (h.mem x).1 hx
    rw [line_drop ha hb h2, line_drop ha hb hu]
    rintro rfl
    rw [hl] at h1
    cases h1
  · rw [List.mem_append, List.mem_singleton, h.mem]
    constructor
    · rintro (⟨t, h1, h2, h3⟩ | rfl)
      · exact ⟨t, left_next.2 (.inl h1), h2, h3⟩
      · exact ⟨u, left_next.2 (.inr rfl), hu, rfl⟩
    · rintro ⟨t, h1, h2, h3⟩
      rcases left_next.1 h1 with h1 | rfl
      · exact .inl ⟨t, h1, h2, h3⟩
      · exact .inr h3
theorem RawLines.sorted {a b : List Wt} {lt : List UInt8 → Bool} {raw s : List (List UInt8)} (h : RawLines a b lt raw) (hlt : ∀ u, lt u = false) (hp : s.Perm raw) (hi : s.Pairwise fun x y => less (y.drop 2) (x.drop 2) = false) : IsDiff a b s := by
  have hd : s.Pairwise fun x y => x.drop 2 ≠ y.drop 2 := (hp.pairwise_iff fun {x y} h => h.symm).2 h.once
  refine ⟨?_, fun x => hp.mem_iff.trans ((h.mem x).trans ⟨fun ⟨t, _, h2⟩ => ⟨t, h2⟩, fun ⟨t, h2⟩ => ⟨t, hlt t, h2⟩⟩)⟩
  refine (hd.and hi).imp fun {x y} h => ?_
  cases e : less (x.drop 2) (y.drop 2) with
  | true => rfl
  | false => exact absurd (less_total e h.2) h.1
theorem line_name {a b : List Wt} {t : List UInt8} (h : lineW a b t ≠ []) : ∃ x, (x ∈ a ∨ x ∈ b) ∧ x.n = t := by
  cases e1 : atW a t with
  | some x => exact ⟨x, .inl (atW_some e1).1, (atW_some e1).2⟩
  | none =>
    cases e2 : atW b t with
    | some y => exact ⟨y, .inr (atW_some e2).1, (atW_some e2).2⟩
    | none =>
      unfold lineW markL at h
      rw [e1, e2] at h
      exact absurd (by simp [sameW_self]) h
theorem line_length (a b : List Wt) (t : List UInt8) : (lineW a b t).length ≤ 2 := by
  unfold lineW markL
  split
  · simp
  · split
    · simp
    · split <;> simp
theorem line_two {a b : List Wt} {t : List UInt8} (h : lineW a b t ≠ []) : (lineW a b t).length = 2 := by
  unfold lineW markL at h ⊢
  split
  · rename_i e; rw [if_pos e] at h; exact absurd rfl h
  · split
    · rfl
    · split <;> rfl
end Go.Proofs.YtmeipangcgdinaaGreatDoor
