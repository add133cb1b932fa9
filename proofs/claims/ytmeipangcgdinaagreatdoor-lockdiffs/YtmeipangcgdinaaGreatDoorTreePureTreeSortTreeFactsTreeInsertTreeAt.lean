/-
  Own texts of the proof, joined by program: TreePure, TreeSort, TreeFacts, TreeInsert, TreeAt.
-/
import Derived.Test.YtmeipangcgdinaaGreatDoorCutCheckCleanPaths
import Derived.Test.YtmeipangcgdinaaGreatDoorPureFacts
/-
  Trees as lists of files: the order of texts, what a tree's fault is, and what putting, dropping, grafting, stripping and sorting answer. No Go text is spoken of here.
-/
namespace Go.Proofs.YtmeipangcgdinaaGreatDoor

abbrev less := Op.bytesLess

theorem less_irrefl : ∀ a : List UInt8, less a a = false
  | [] => rfl
  | c :: r => by
    have h := less_irrefl r
    simp only [less] at h
    simp [less, Op.bytesLess, h]

theorem less_trans : ∀ {a b c : List UInt8}, less a b = true → less b c = true → less a c = true
  | _, [], _, h, _ => by simp [less, Op.bytesLess] at h
  | _, _ :: _, [], _, h => by simp [less, Op.bytesLess] at h
  | [], _ :: _, _ :: _, _, _ => by simp [less, Op.bytesLess]
  | x :: a, y :: b, z :: c, h1, h2 => by
    simp only [less, Op.bytesLess, Bool.or_eq_true, Bool.and_eq_true, decide_eq_true_eq, beq_iff_eq] at h1 h2 ⊢
    rcases h1 with h1 | ⟨rfl, h1⟩ <;> rcases h2 with h2 | ⟨rfl, h2⟩
    · exact .inl (UInt8.lt_trans h1 h2)
    · exact .inl h1
    · exact .inl h2
    · exact .inr ⟨rfl, less_trans (a := a) (b := b) (c := c) h1 h2⟩

theorem less_total : ∀ {a b : List UInt8}, less a b = false → less b a = false → a = b
  | [], [], _, _ => rfl
  | [], _ :: _, h, _ => by simp [less, Op.bytesLess] at h
  | _ :: _, [], _, h => by simp [less, Op.bytesLess] at h
  | x :: a, y :: b, h1, h2 => by
    simp only [less, Op.bytesLess, Bool.or_eq_false_iff, Bool.and_eq_false_iff, decide_eq_false_iff_not, beq_eq_false_iff_ne] at h1 h2
    have e : x = y := UInt8.le_antisymm (UInt8.not_lt.1 h2.1) (UInt8.not_lt.1 h1.1)
    subst e
    have := less_total (a := a) (b := b) (by rcases h1.2 with h | h <;> simp_all) (by rcases h2.2 with h | h <;> simp_all)
    rw [this]

theorem less_asymm {a b : List UInt8} (h : less a b = true) : less b a = false := by
  cases h' : less b a with
  | false => rfl
  | true => have := less_trans h h'; rw [less_irrefl] at this; cases this

theorem less_ne {a b : List UInt8} (h : less a b = true) : a ≠ b := by
  rintro rfl
  rw [less_irrefl] at h; cases h

/-- The order below one place. -/
theorem less_below : ∀ (d a b : List UInt8), less (d ++ a) (d ++ b) = less a b
  | [], _, _ => rfl
  | x :: d, a, b => by
    have := less_below d a b
    simp only [less] at this
    simp [less, Op.bytesLess, this]

structure F where
  p : List UInt8
  r : Bool
  t : List UInt8

/-- The number of the error of a file behind those ahead of it (0: none). -/
def fileCode (pre : List F) (f : F) : Nat :=
  if checkCode f.p ≠ 0 then checkCode f.p
  else if 4000 < f.t.length then 2
  else if pre ≠ [] ∧ less ((pre.getLast?.map (·.p)).getD []) f.p = false then 9
  else if pre.any (fun g => isIn f.p g.p) then 11
  else 0

def firstBad : List F → List F → Option (Nat × Nat)
  | _, [] => none
  | pre, f :: r => if fileCode pre f ≠ 0 then some (fileCode pre f, pre.length) else firstBad (pre ++ [f]) r

def total (l : List F) : Nat := (l.map fun f => f.t.length).sum

/-- A tree's fault: an error's number (0: none), and where (-1: nowhere). -/
def treeFault (l : List F) : Nat × Int :=
  if 30 < l.length then (8, -1)
  else match firstBad [] l with
    | some (c, i) => (c, i)
    | none => if 12000 < total l then (2, -1) else (0, -1)

theorem firstBad_some {l : List F} : ∀ {k : Nat} {pre : List F} {r : List F}, l = pre ++ r → (∀ i (h : i < r.length), i < k → fileCode (pre ++ r.take i) r[i] = 0) → (hk : k < r.length) → fileCode (pre ++ r.take k) r[k] ≠ 0 →
    firstBad pre r = some (fileCode (pre ++ r.take k) r[k], pre.length + k)
  | k, pre, [], _, _, hk, _ => by simp at hk
  | 0, pre, f :: r, _, _, _, h => by
    simp at h
    simp [firstBad, h]
  | k + 1, pre, f :: r, e, h0, hk, h => by
    have z := h0 0 (by simp) (by omega)
    simp at z
    have ih := firstBad_some (l := l) (k := k) (pre := pre ++ [f]) (r := r) (by simp [e]) (fun i hi hik => by
      have := h0 (i + 1) (by simp; omega) (by omega)
      simpa using this) (by simpa using hk) (by simpa using h)
    simp [firstBad, z, ih]
    omega

theorem firstBad_none {l : List F} : ∀ {pre r : List F}, l = pre ++ r → (∀ i (h : i < r.length), fileCode (pre ++ r.take i) r[i] = 0) → firstBad pre r = none
  | _, [], _, _ => rfl
  | pre, f :: r, e, h => by
    have z := h 0 (by simp)
    simp at z
    have ih := firstBad_none (l := l) (pre := pre ++ [f]) (r := r) (by simp [e]) (fun i hi => by
      have := h (i + 1) (by simp; omega)
      simpa using this)
    simp [firstBad, z, ih]

theorem treeFault_long {l : List F} (h : 30 < l.length) : treeFault l = (8, -1) := by simp [treeFault, h]
theorem treeFault_at {l : List F} {k : Nat} (hl : l.length ≤ 30) (hk : k < l.length) (h0 : ∀ i (h : i < l.length), i < k → fileCode (l.take i) l[i] = 0) (h : fileCode (l.take k) l[k] ≠ 0) :
    treeFault l = (fileCode (l.take k) l[k], (k : Int)) := by
  have := firstBad_some (l := l) (pre := []) (r := l) rfl (by simpa using h0) hk (by simpa using h)
  simp [treeFault, Nat.not_lt.2 hl, this]
theorem treeFault_end {l : List F} (hl : l.length ≤ 30) (h0 : ∀ i (h : i < l.length), fileCode (l.take i) l[i] = 0) :
    treeFault l = if 12000 < total l then (2, -1) else (0, -1) := by
  have := firstBad_none (l := l) (pre := []) (r := l) rfl (by simpa using h0)
  simp [treeFault, Nat.not_lt.2 hl, this]

theorem firstBad_zero : ∀ {pre r : List F}, firstBad pre r = none → ∀ i (h : i < r.length), fileCode (pre ++ r.take i) r[i] = 0
  | _, [], _, _, h => by simp at h
  | pre, f :: r, e, i, h => by
    by_cases z : fileCode pre f = 0
    · simp [firstBad, z] at e
      have ih := firstBad_zero e
      cases i with
      | zero => simpa using z
      | succ i => have := ih i (by simpa using h); simpa using this
    · simp [firstBad, z] at e

/-- A right tree. -/
structure Tree (l : List F) : Prop where
  few : l.length ≤ 30
  each : ∀ i (h : i < l.length), fileCode (l.take i) l[i] = 0
  small : total l ≤ 12000

theorem firstBad_code : ∀ {pre r : List F} {c i : Nat}, firstBad pre r = some (c, i) → c ≠ 0
  | _, [], _, _, h => by simp [firstBad] at h
  | pre, f :: r, c, i, h => by
    by_cases z : fileCode pre f = 0
    · simp [firstBad, z] at h
      exact firstBad_code h
    · simp [firstBad, z] at h
      rw [← h.1]; exact z

theorem tree_iff {l : List F} : (treeFault l).1 = 0 ↔ Tree l := by
  constructor
  · intro h
    by_cases hl : 30 < l.length
    · simp [treeFault, hl] at h
    · unfold treeFault at h
      rw [if_neg hl] at h
      cases hb : firstBad [] l with
      | some x => rw [hb] at h; exact absurd h (firstBad_code (c := x.1) (i := x.2) hb)
      | none =>
        rw [hb] at h
        refine ⟨Nat.not_lt.1 hl, fun i hi => by simpa using firstBad_zero hb i hi, ?_⟩
        by_cases ht : 12000 < total l
        · simp [ht] at h
        · omega
  · intro h
    rw [treeFault_end h.few h.each, if_neg (Nat.not_lt.2 h.small)]

theorem treeFault_zero {l : List F} (h : (treeFault l).1 = 0) : treeFault l = (0, -1) := by
  have t := tree_iff.1 h
  rw [treeFault_end t.few t.each, if_neg (Nat.not_lt.2 t.small)]

end Go.Proofs.YtmeipangcgdinaaGreatDoor
/-
  Trees as lists of files: a right tree is one whose files are right and rise, none in another; sorted lists; what putting, dropping, grafting and stripping answer. No Go text is spoken of here.
-/
namespace Go.Proofs.YtmeipangcgdinaaGreatDoor

def Rise (l : List F) : Prop := l.Pairwise fun a b => less a.p b.p = true
def Apart (l : List F) : Prop := l.Pairwise fun a b => isIn b.p a.p = false
def Right (f : F) : Prop := checkCode f.p = 0 ∧ f.t.length ≤ 4000

theorem fileCode_zero {pre : List F} {f : F} : fileCode pre f = 0 ↔ Right f ∧ (pre = [] ∨ less ((pre.getLast?.map (·.p)).getD []) f.p = true) ∧ ∀ g ∈ pre, isIn f.p g.p = false := by
  unfold fileCode Right
  by_cases h1 : checkCode f.p = 0
  · by_cases h2 : 4000 < f.t.length
    · simp [h1, h2]; omega
    · by_cases h3 : pre ≠ [] ∧ less ((pre.getLast?.map (·.p)).getD []) f.p = false
      · obtain ⟨a, b⟩ := h3
        simp [h1, h2, a, b]
      · have h3' : pre = [] ∨ less ((pre.getLast?.map (·.p)).getD []) f.p = true := by
          by_cases hp : pre = []
          · exact .inl hp
          · right
            cases hl : less ((pre.getLast?.map (·.p)).getD []) f.p with
            | true => rfl
            | false => exact absurd ⟨hp, hl⟩ h3
        rw [if_neg (by simp [h1]), if_neg h2, if_neg h3]
        by_cases h4 : (pre.any fun g => isIn f.p g.p) = true
        · rw [if_pos h4]
          simp only [List.any_eq_true] at h4
          obtain ⟨g, hg, hi⟩ := h4
          constructor
          · intro h; cases h
          · rintro ⟨_, _, h⟩
            rw [h g hg] at hi; cases hi
        · rw [if_neg h4]
          refine ⟨fun _ => ⟨⟨h1, by omega⟩, h3', fun g hg => ?_⟩, fun _ => rfl⟩
          cases hi : isIn f.p g.p with
          | false => rfl
          | true => exact absurd (List.any_eq_true.2 ⟨g, hg, hi⟩) h4
  · simp [h1]

structure Good (l : List F) : Prop where
  right : ∀ f ∈ l, Right f
  rise : Rise l
  apart : Apart l

theorem good_snoc {pre : List F} {f : F} (h : Good pre) (hf : fileCode pre f = 0) : Good (pre ++ [f]) := by
  obtain ⟨hr, hl, ha⟩ := fileCode_zero.1 hf
  refine ⟨fun g hg => ?_, ?_, ?_⟩
  · rcases List.mem_append.1 hg with hg | hg
    · exact h.right g hg
    · rw [List.mem_singleton.1 hg]; exact hr
  · refine List.pairwise_append.2 ⟨h.rise, by simp, fun a hm b hb => ?_⟩
    rw [List.mem_singleton.1 hb]
    rcases List.eq_nil_or_concat pre with rfl | ⟨q, z, rfl⟩
    · simp at hm
    · rw [List.concat_eq_append] at hm hl h
      have hz : less z.p f.p = true := by simpa using hl
      rcases List.mem_append.1 hm with hm | hm
      · exact less_trans ((List.pairwise_append.1 h.rise).2.2 a hm z (by simp)) hz
      · rw [List.mem_singleton.1 hm]; exact hz
  · refine List.pairwise_append.2 ⟨h.apart, by simp, fun a hm b hb => ?_⟩
    rw [List.mem_singleton.1 hb]
    exact ha a hm

theorem good_of : ∀ {r pre : List F}, Good pre → (∀ i (h : i < r.length), fileCode (pre ++ r.take i) r[i] = 0) → Good (pre ++ r)
  | [], pre, h, _ => by simpa using h
  | f :: r, pre, h, h0 => by
    have z := h0 0 (by simp)
    have := good_of (r := r) (pre := pre ++ [f]) (good_snoc h (by simpa using z)) (fun i hi => by
      have := h0 (i + 1) (by simp; omega)
      simpa using this)
    simpa using this

theorem good_nil : Good [] := ⟨by simp, by simp [Rise], by simp [Apart]⟩

theorem good_iff {l : List F} : (∀ i (h : i < l.length), fileCode (l.take i) l[i] = 0) ↔ Good l := by
  constructor
  · intro h
    have := good_of (r := l) good_nil (by simpa using h)
    simpa using this
  · intro h i hi
    refine fileCode_zero.2 ⟨h.right _ (List.getElem_mem hi), ?_, fun g hg => ?_⟩
    · by_cases hz : i = 0
      · left; simp [hz]
      · right
        have : (l.take i).getLast? = some l[i - 1] := by
          rw [List.getLast?_eq_getElem?, List.length_take, Nat.min_eq_left (by omega), List.getElem?_take_of_lt (by omega)]
          exact List.getElem?_eq_getElem (by omega)
        rw [this]
        exact List.pairwise_iff_getElem.1 h.rise (i - 1) i (by omega) hi (by omega)
    · obtain ⟨k, hk, rfl⟩ := List.getElem_of_mem hg
      rw [List.getElem_take]
      rw [List.length_take] at hk
      exact List.pairwise_iff_getElem.1 h.apart k i (by omega) hi (by omega)

theorem tree_good {l : List F} : (treeFault l).1 = 0 ↔ Good l ∧ l.length ≤ 30 ∧ total l ≤ 12000 := by
  rw [tree_iff]
  exact ⟨fun h => ⟨good_iff.1 h.each, h.few, h.small⟩, fun h => ⟨h.2.1, good_iff.2 h.1, h.2.2⟩⟩

theorem total_sub {a b : List F} (h : a.Sublist b) : total a ≤ total b := by
  induction h with
  | slnil => exact Nat.le_refl _
  | cons f h ih => simp [total] at ih ⊢; omega
  | cons_cons f h ih => simp [total] at ih ⊢; omega

/-- A part of a right tree is one. -/
theorem tree_sub {a b : List F} (h : a.Sublist b) (hb : (treeFault b).1 = 0) : (treeFault a).1 = 0 := by
  obtain ⟨g, hl, ht⟩ := tree_good.1 hb
  exact tree_good.2 ⟨⟨fun f hf => g.right f (h.subset hf), g.rise.sublist h, g.apart.sublist h⟩, Nat.le_trans h.length_le hl, Nat.le_trans (total_sub h) ht⟩

/-- Sorted, if not strictly. -/
def Weak (l : List F) : Prop := l.Pairwise fun a b => less b.p a.p = false
theorem Rise.weak {l : List F} (h : Rise l) : Weak l := h.imp less_asymm

def leF (a b : F) : Bool := !less b.p a.p
def sortF (l : List F) : List F := l.mergeSort leF

theorem less_weak {a b c : List UInt8} (h1 : less b a = false) (h2 : less c b = false) : less c a = false := by
  cases h : less c a with
  | false => rfl
  | true =>
    cases hab : less a b with
    | true => rw [less_trans h hab] at h2; cases h2
    | false => rw [less_total hab h1] at h; rw [h] at h2; cases h2

theorem sortF_weak (l : List F) : Weak (sortF l) := by
  have := List.pairwise_mergeSort (le := leF) (fun a b c h1 h2 => by simp [leF] at h1 h2 ⊢; exact less_weak h1 h2) (fun a b => by
    simp only [leF]
    cases h : less b.p a.p with
    | false => simp
    | true => simp [less_asymm h]) l
  exact this.imp fun h => by simpa [leF] using h
theorem sortF_perm (l : List F) : (sortF l).Perm l := List.mergeSort_perm l leF

theorem inj_of_nodup {l : List F} (h : (l.map (·.p)).Nodup) {a b : F} (ha : a ∈ l) (hb : b ∈ l) (e : a.p = b.p) : a = b := by
  have h' := List.pairwise_map.1 (List.nodup_iff_pairwise_ne.1 h)
  obtain ⟨i, hi, rfl⟩ := List.getElem_of_mem ha
  obtain ⟨j, hj, rfl⟩ := List.getElem_of_mem hb
  have := List.pairwise_iff_getElem.1 h'
  rcases Nat.lt_trichotomy i j with hij | rfl | hij
  · exact absurd e (this i j hi hj hij)
  · rfl
  · exact absurd e.symm (this j i hj hi hij)

theorem sort_unique {s t l : List F} (hs : s.Perm l) (ht : t.Perm l) (ws : Weak s) (wt : Weak t) (hn : (l.map (·.p)).Nodup) : s = t :=
  List.Perm.eq_of_pairwise (fun _ _ ha hb h1 h2 => inj_of_nodup hn (hs.subset ha) (ht.subset hb) (less_total h2 h1)) ws wt (hs.trans ht.symm)

theorem sortF_of {s l : List F} (hs : s.Perm l) (ws : Weak s) (hn : (l.map (·.p)).Nodup) : s = sortF l := sort_unique hs (sortF_perm l) ws (sortF_weak l) hn

theorem rise_nodup {l : List F} (h : Rise l) : (l.map (·.p)).Nodup := List.nodup_iff_pairwise_ne.2 (List.pairwise_map.2 (h.imp less_ne))

theorem rise_of {l : List F} (h : Weak l) (hn : (l.map (·.p)).Nodup) : Rise l := by
  have hn' := List.pairwise_map.1 (List.nodup_iff_pairwise_ne.1 hn)
  refine List.pairwise_iff_getElem.2 fun i j hi hj hij => ?_
  have h1 := List.pairwise_iff_getElem.1 h i j hi hj hij
  have h2 := List.pairwise_iff_getElem.1 hn' i j hi hj hij
  cases hl : less l[i].p l[j].p with
  | true => rfl
  | false => exact absurd (less_total hl h1) h2

/-- Two neighbours of one path: two of one path; none such: all paths are two by two other ones. -/
theorem nodup_of_step {l : List F} (h : Weak l) (hs : ∀ i (hi : i + 1 < l.length), l[i + 1].p ≠ l[i].p) : (l.map (·.p)).Nodup := by
  refine rise_nodup (List.pairwise_iff_getElem.2 ?_)
  have step : ∀ i (hi : i + 1 < l.length), less l[i].p l[i + 1].p = true := fun i hi => by
    cases hl : less l[i].p l[i + 1].p with
    | true => rfl
    | false => exact absurd (less_total hl (List.pairwise_iff_getElem.1 h i (i + 1) (by omega) hi (by omega))).symm (hs i hi)
  intro i j hi hj hij
  obtain ⟨d, rfl⟩ : ∃ d, j = i + 1 + d := ⟨j - i - 1, by omega⟩
  induction d with
  | zero => exact step i hj
  | succ d ih => exact less_trans (ih (by omega) (by omega)) (step (i + 1 + d) hj)

theorem not_nodup_of_step {l : List F} {i : Nat} (hi : i + 1 < l.length) (e : l[i + 1].p = l[i].p) : ¬ (l.map (·.p)).Nodup := fun h => by
  have h' := List.pairwise_map.1 (List.nodup_iff_pairwise_ne.1 h)
  exact List.pairwise_iff_getElem.1 h' i (i + 1) (by omega) hi (by omega) e.symm

/-- What sorting answers: the files, an error's number, and where. -/
def sortT (l : List F) : List F × Nat × Int :=
  if (l.map (·.p)).Nodup then (if (treeFault (sortF l)).1 = 0 then (sortF l, 0, -1) else ([], treeFault (sortF l))) else ([], 7, -1)

theorem sortT_twice {s l : List F} (hs : s.Perm l) (h : ¬ (s.map (·.p)).Nodup) : sortT l = ([], 7, -1) := by
  rw [(hs.map _).nodup_iff] at h
  simp [sortT, h]
theorem sortT_bad {s l : List F} (hs : s.Perm l) (ws : Weak s) (hn : (s.map (·.p)).Nodup) (h : (treeFault s).1 ≠ 0) : sortT l = ([], treeFault s) := by
  rw [(hs.map _).nodup_iff] at hn
  have := sortF_of hs ws hn
  subst this
  simp [sortT, hn, h]
theorem sortT_ok {s l : List F} (hs : s.Perm l) (ws : Weak s) (hn : (s.map (·.p)).Nodup) (h : (treeFault s).1 = 0) : sortT l = (s, 0, -1) := by
  rw [(hs.map _).nodup_iff] at hn
  have := sortF_of hs ws hn
  subst this
  simp [sortT, hn, h]

def behind (q : List UInt8) : List F → List F
  | [] => []
  | g :: r => if g.p = q then r else g :: r
/-- With a file, in the place of what has its path. -/
def withF (l : List F) (x : F) : List F := l.takeWhile (fun f => less f.p x.p) ++ x :: behind x.p (l.dropWhile (fun f => less f.p x.p))
def putT (l : List F) (x : F) : List F × Nat × Int :=
  if (treeFault l).1 ≠ 0 then ([], treeFault l) else if (treeFault (withF l x)).1 ≠ 0 then ([], (treeFault (withF l x)).1, -1) else (withF l x, 0, -1)
def without (l : List F) (q : List UInt8) : List F := l.filter fun f => !(f.p == q)
def dropT (l : List F) (q : List UInt8) : List F × Nat × Int :=
  if (treeFault l).1 ≠ 0 then ([], treeFault l) else if (without l q).length = l.length then ([], 6, -1) else (without l q, 0, -1)
def cutF (dir : List UInt8) (f : F) : F := if dir = [] then f else { f with p := f.p.drop (dir.length + 1) }
def underL (l : List F) (dir : List UInt8) : List F := (l.filter fun f => isIn f.p dir).map (cutF dir)
def underT (l : List F) (dir : List UInt8) : List F × Nat × Int := if (treeFault l).1 ≠ 0 then ([], treeFault l) else (underL l dir, 0, -1)
/-- Paths changed one by one, up to the first error: the files, the error's number, and where. -/
def mapPaths (g : List UInt8 → List UInt8 × Nat) : Nat → List F → List F × Nat × Nat
  | _, [] => ([], 0, 0)
  | i, f :: r => if (g f.p).2 ≠ 0 then ([], (g f.p).2, i) else if (mapPaths g (i + 1) r).2.1 ≠ 0 then ([], (mapPaths g (i + 1) r).2) else ({ f with p := (g f.p).1 } :: (mapPaths g (i + 1) r).1, 0, 0)
def joinAll (dir : List UInt8) (m : List F) : List F × Nat × Nat := mapPaths (fun s => cleanL (joinTo dir s)) 0 m
def graftT (l : List F) (dir : List UInt8) (m : List F) : List F × Nat × Int :=
  if (treeFault l).1 ≠ 0 then ([], treeFault l) else if (treeFault m).1 ≠ 0 then ([], treeFault m) else if checkCode dir ≠ 0 then ([], checkCode dir, -1)
  else if (joinAll dir m).2.1 ≠ 0 then ([], (joinAll dir m).2.1, -1) else ((sortT (l ++ (joinAll dir m).1)).1, (sortT (l ++ (joinAll dir m).1)).2.1, -1)
def stripAll (n : Int) (l : List F) : List F × Nat × Nat := mapPaths (fun s => stripL s n) 0 l
def stripT (l : List F) (n : Int) : List F × Nat × Int :=
  if (treeFault l).1 ≠ 0 then ([], treeFault l) else if (stripAll n l).2.1 ≠ 0 then ([], (stripAll n l).2.1, ((stripAll n l).2.2 : Int)) else sortT (stripAll n l).1

theorem mapPaths_at (g : List UInt8 → List UInt8 × Nat) : ∀ (l : List F) (k i : Nat) (hk : k < l.length), (∀ j (h : j < l.length), j < k → (g l[j].p).2 = 0) → (g l[k].p).2 ≠ 0 → mapPaths g i l = ([], (g l[k].p).2, i + k)
  | [], _, _, hk, _, _ => by simp at hk
  | f :: r, 0, i, _, _, h => by
    have h' : (g f.p).2 ≠ 0 := h
    simp [mapPaths, h']
  | f :: r, k + 1, i, hk, h0, h => by
    have z : (g f.p).2 = 0 := h0 0 (by simp) (by omega)
    have h' : (g (r[k]'(by simpa using hk)).p).2 ≠ 0 := by simpa using h
    have ih := mapPaths_at g r k (i + 1) (by simpa using hk) (fun j hj hjk => by have := h0 (j + 1) (by simp; omega) (by omega); simpa using this) h'
    rw [mapPaths, if_neg (by simp [z]), ih, if_pos (by simpa using h')]
    simp
    omega

theorem mapPaths_all (g : List UInt8 → List UInt8 × Nat) : ∀ (l : List F) (i : Nat), (∀ f ∈ l, (g f.p).2 = 0) → mapPaths g i l = (l.map fun f => { f with p := (g f.p).1 }, 0, 0)
  | [], _, _ => rfl
  | f :: r, i, h => by
    have z := h f (by simp)
    have ih := mapPaths_all g r (i + 1) (fun x hx => h x (by simp [hx]))
    rw [mapPaths, if_neg (by simp [z]), ih]
    simp

theorem mapPaths_zero (g : List UInt8 → List UInt8 × Nat) : ∀ (l : List F) (i : Nat), (mapPaths g i l).2.1 = 0 → ∀ f ∈ l, (g f.p).2 = 0
  | [], _, _ => by simp
  | f :: r, i, h => by
    by_cases z : (g f.p).2 = 0
    · rw [mapPaths, if_neg (by simp [z])] at h
      by_cases z' : (mapPaths g (i + 1) r).2.1 = 0
      · have ih := mapPaths_zero g r (i + 1) z'
        intro x hx
        rcases List.mem_cons.1 hx with rfl | hx
        · exact z
        · exact ih x hx
      · rw [if_pos z'] at h
        exact absurd h z'
    · rw [mapPaths, if_pos z] at h
      exact absurd h z

end Go.Proofs.YtmeipangcgdinaaGreatDoor
/-
  What is grafted is under its place, and all else as it was; what is put is there once; what is dropped is not; a tree below a place, stripped by as much, is the tree: facts on lists of files. No Go text is spoken of here.
-/
namespace Go.Proofs.YtmeipangcgdinaaGreatDoor

theorem clean_self {s : List UInt8} (h : checkCode s = 0) : Clean s s (pieces s) := by
  obtain ⟨hp, hl⟩ := checkCode_zero.1 h
  refine ⟨?_, cleanF_keep hp, hp, hl, (join_pieces s).symm⟩
  have := head_join hp
  rwa [join_pieces] at this

theorem join_zero {d s : List UInt8} (hd : checkCode d = 0) (hs : checkCode s = 0) (h : (cleanL (joinTo d s)).2 = 0) : (cleanL (joinTo d s)).1 = d ++ 47 :: s ∧ checkCode (d ++ 47 :: s) = 0 := by
  have hj : joinTo d s = d ++ 47 :: s := by simp [joinTo, path_ne hd]
  have hb := join_below hd (clean_self hs) (path_ne hs)
  rw [hj] at h ⊢
  by_cases hl : 6 < (pieces d).length + (pieces s).length
  · rw [if_pos hl] at hb
    rw [hb] at h
    cases h
  · rw [if_neg hl] at hb
    rw [hb]
    exact ⟨rfl, joined_path hd (clean_self hs) (path_ne hs) (by omega)⟩

def below (d : List UInt8) (f : F) : F := { f with p := d ++ 47 :: f.p }

theorem isIn_below {d s : List UInt8} (h : checkCode (d ++ 47 :: s) = 0) : isIn (d ++ 47 :: s) d = true := by
  have : d ++ 47 :: s = (d ++ [47]) ++ s := by simp
  simp only [isIn, h, decide_true, Bool.true_and, Bool.or_eq_true]
  right
  rw [this]
  exact hasPrefix_app _ _

theorem cutF_below {d : List UInt8} (f : F) (hd : d ≠ []) : cutF d (below d f) = f := by
  have : (d ++ 47 :: f.p).drop (d.length + 1) = f.p := by
    rw [List.drop_append]
    simp [Nat.add_sub_cancel_left]
  simp [cutF, below, hd, this]

theorem below_rise {l : List F} (d : List UInt8) (h : Rise l) : Rise (l.map (below d)) := by
  refine List.pairwise_map.2 (h.imp fun h => ?_)
  show less (d ++ 47 :: _) (d ++ 47 :: _) = true
  rw [less_below, ← h]
  simp [less, Op.bytesLess]

theorem eq_of_rise {s t : List F} (hp : s.Perm t) (hs : Rise s) (ht : Rise t) : s = t :=
  sort_unique (l := t) hp (List.Perm.refl _) hs.weak ht.weak (rise_nodup ht)

structure Grafted (l : List F) (d : List UInt8) (m t : List F) : Prop where
  dir : checkCode d = 0
  perm : t.Perm (l ++ m.map (below d))
  rise : Rise t
  tree : (treeFault t).1 = 0
  paths : ∀ f ∈ m, checkCode (d ++ 47 :: f.p) = 0

theorem joinAll_zero {d : List UInt8} {m : List F} (hd : checkCode d = 0) (hm : ∀ f ∈ m, Right f) (h : (joinAll d m).2.1 = 0) : (joinAll d m).1 = m.map (below d) ∧ ∀ f ∈ m, checkCode (d ++ 47 :: f.p) = 0 := by
  have hz := mapPaths_zero _ m 0 h
  have ha := mapPaths_all (fun s => cleanL (joinTo d s)) m 0 hz
  have hj : ∀ f ∈ m, (cleanL (joinTo d f.p)).1 = d ++ 47 :: f.p ∧ checkCode (d ++ 47 :: f.p) = 0 := fun f hf => join_zero hd (hm f hf).1 (hz f hf)
  refine ⟨?_, fun f hf => (hj f hf).2⟩
  unfold joinAll
  rw [ha]
  exact List.map_congr_left fun f hf => by simp only [below, (hj f hf).1]

theorem sortT_zero {l : List F} (h : (sortT l).2.1 = 0) : (sortT l).1 = sortF l ∧ (l.map (·.p)).Nodup ∧ (treeFault (sortF l)).1 = 0 := by
  unfold sortT at h ⊢
  by_cases hn : (l.map (·.p)).Nodup
  · rw [if_pos hn] at h ⊢
    by_cases ht : (treeFault (sortF l)).1 = 0
    · rw [if_pos ht] at h ⊢
      exact ⟨rfl, hn, ht⟩
    · rw [if_neg ht] at h
      exact absurd h ht
  · rw [if_neg hn] at h
    cases h

theorem graft_zero {l m : List F} {d : List UInt8} (h : (graftT l d m).2.1 = 0) : (treeFault l).1 = 0 ∧ (treeFault m).1 = 0 ∧ Grafted l d m (graftT l d m).1 := by
  unfold graftT at h ⊢
  by_cases h1 : (treeFault l).1 = 0
  · by_cases h2 : (treeFault m).1 = 0
    · by_cases h3 : checkCode d = 0
      · by_cases h4 : (joinAll d m).2.1 = 0
        · rw [if_neg (by simp [h1]), if_neg (by simp [h2]), if_neg (by simp [h3]), if_neg (by simp [h4])] at h ⊢
          obtain ⟨e, hn, ht⟩ := sortT_zero h
          have hg := (tree_good.1 h2).1
          obtain ⟨hj, hpp⟩ := joinAll_zero h3 hg.right h4
          refine ⟨h1, h2, h3, ?_, ?_, ?_, hpp⟩
          · show (sortT _).1.Perm _
            rw [e, ← hj]
            exact sortF_perm _
          · show Rise (sortT _).1
            rw [e]
            exact (tree_good.1 ht).1.rise
          · show (treeFault (sortT _).1).1 = 0
            rw [e]
            exact ht
        · rw [if_neg (by simp [h1]), if_neg (by simp [h2]), if_neg (by simp [h3]), if_pos h4] at h
          exact absurd h h4
      · rw [if_neg (by simp [h1]), if_neg (by simp [h2]), if_pos h3] at h
        exact absurd h h3
    · rw [if_neg (by simp [h1]), if_pos h2] at h
      exact absurd h h2
  · rw [if_pos h1] at h
    exact absurd h h1

theorem graft_bad {l m : List F} {d : List UInt8} (h : (graftT l d m).2.1 ≠ 0) : (graftT l d m).1 = [] := by
  unfold graftT at h ⊢
  split
  · rfl
  · split
    · rfl
    · split
      · rfl
      · split
        · rfl
        · rename_i h1 h2 h3 h4
          rw [if_neg h1, if_neg h2, if_neg h3, if_neg h4] at h
          unfold sortT at h ⊢
          dsimp only at h ⊢
          split
          · split
            · rename_i h5 h6
              rw [if_pos h5, if_pos h6] at h
              exact absurd rfl h
            · rfl
          · rfl

theorem filter_below {d : List UInt8} {m : List F} (h : ∀ f ∈ m, checkCode (d ++ 47 :: f.p) = 0) : (m.map (below d)).filter (fun f => isIn f.p d) = m.map (below d) := by
  rw [List.filter_eq_self]
  intro g hg
  obtain ⟨f, hf, rfl⟩ := List.mem_map.1 hg
  exact isIn_below (h f hf)

theorem Grafted.length {l m t : List F} {d : List UInt8} (G : Grafted l d m t) : t.length = l.length + m.length := by
  have := G.perm.length_eq
  simpa using this

theorem Grafted.under {l m t : List F} {d : List UInt8} (G : Grafted l d m t) : (underL t d).length = (underL l d).length + m.length := by
  have := (G.perm.filter (fun f => isIn f.p d)).length_eq
  rw [List.filter_append, filter_below G.paths] at this
  simpa [underL] using this

theorem map_cut {d : List UInt8} (m : List F) (hd : d ≠ []) : (m.map (below d)).map (cutF d) = m := by
  rw [List.map_map]
  have : (cutF d ∘ below d) = id := by
    funext f
    exact cutF_below f hd
  rw [this, List.map_id]

/-- What is grafted is under its place. -/
theorem Grafted.here {l m t : List F} {d : List UInt8} (G : Grafted l d m t) (hm : Rise m) (hl : underL l d = []) : underL t d = m := by
  have h0 : l.filter (fun f => isIn f.p d) = [] := by simpa [underL] using hl
  have hp := G.perm.filter (fun f => isIn f.p d)
  rw [List.filter_append, filter_below G.paths, h0, List.nil_append] at hp
  have := eq_of_rise hp (G.rise.filter _) (below_rise d hm)
  unfold underL
  rw [this, map_cut m (path_ne G.dir)]

theorem without_with (l : List F) (x : F) : without (withF l x) x.p = without l x.p := by
  have e : l = l.takeWhile (fun f => less f.p x.p) ++ l.dropWhile (fun f => less f.p x.p) := List.takeWhile_append_dropWhile.symm
  have hb : ∀ D : List F, without (behind x.p D) x.p = without D x.p := fun D => by
    cases D with
    | nil => rfl
    | cons g r =>
      by_cases hg : g.p = x.p
      · simp [behind, hg, without]
      · simp [behind, hg]
  conv => rhs; rw [e]
  have := hb (l.dropWhile (fun f => less f.p x.p))
  simp only [without] at this ⊢
  simp only [withF, List.filter_append, List.filter_cons, beq_self_eq_true, Bool.not_true, Bool.false_eq_true, if_false, this]

theorem mem_with (l : List F) (x : F) : x ∈ withF l x := by simp [withF]

theorem length_without : ∀ {l : List F} {x : F}, (l.map (·.p)).Nodup → x ∈ l → (without l x.p).length + 1 = l.length
  | [], _, _, h => by simp at h
  | g :: r, x, hn, h => by
    simp only [List.map_cons, List.nodup_cons] at hn
    rcases List.mem_cons.1 h with rfl | h
    · have : without r x.p = r := by
        simp only [without, List.filter_eq_self, Bool.not_eq_true', beq_eq_false_iff_ne]
        intro f hf e
        exact hn.1 (by rw [← e]; exact List.mem_map_of_mem hf)
      simp only [without] at this
      simp [without, this]
    · have hne : ¬ g.p = x.p := fun e => hn.1 (by rw [e]; exact List.mem_map_of_mem h)
      have ih := length_without hn.2 h
      simp only [without] at ih
      simp [without, hne, ih]

theorem without_twice (l : List F) (q : List UInt8) : without (without l q) q = without l q := by simp [without]

theorem without_all {l : List F} {q : List UInt8} (h : (without l q).length = l.length) : without l q = l :=
  List.filter_sublist.eq_of_length h

theorem put_zero {l : List F} {x : F} (h : (putT l x).2.1 = 0) : (treeFault l).1 = 0 ∧ (putT l x).1 = withF l x ∧ (treeFault (withF l x)).1 = 0 := by
  unfold putT at h ⊢
  by_cases h1 : (treeFault l).1 = 0
  · rw [if_neg (by simp [h1])] at h ⊢
    by_cases h2 : (treeFault (withF l x)).1 = 0
    · rw [if_neg (by simp [h2])]
      exact ⟨h1, rfl, h2⟩
    · rw [if_pos h2] at h
      exact absurd h h2
  · rw [if_pos h1] at h
    exact absurd h h1

theorem put_bad {l : List F} {x : F} (h : (putT l x).2.1 ≠ 0) : (putT l x).1 = [] := by
  unfold putT at h ⊢
  split
  · rfl
  · rename_i h1
    rw [if_neg h1] at h
    split
    · rfl
    · rename_i h2
      rw [if_neg h2] at h
      exact absurd rfl h

/-- A path taken off again. -/
theorem strip_below {a s : List UInt8} (h : checkCode (a ++ 47 :: s) = 0) : stripL (a ++ 47 :: s) ((pieces a).length : Nat) = (s, 0) := by
  unfold stripL
  rw [if_neg (by simp [h]), if_neg (by omega), pieces_app, List.length_append]
  have := List.length_pos_iff.2 (pieces_ne s)
  rw [if_neg (by omega), Int.toNat_natCast, List.drop_left, join_pieces]

theorem stripAll_below {a : List UInt8} {m : List F} (h : ∀ f ∈ m, checkCode (a ++ 47 :: f.p) = 0) : stripAll ((pieces a).length : Nat) (m.map (below a)) = (m, 0, 0) := by
  have hz : ∀ f ∈ m.map (below a), (stripL f.p ((pieces a).length : Nat)).2 = 0 := fun g hg => by
    obtain ⟨f, hf, rfl⟩ := List.mem_map.1 hg
    show (stripL (a ++ 47 :: f.p) _).2 = 0
    rw [strip_below (h f hf)]
  unfold stripAll
  rw [mapPaths_all _ _ 0 hz, List.map_map]
  have : ∀ f ∈ m, ((fun f : F => ({ f with p := (stripL f.p ((pieces a).length : Nat)).1 } : F)) ∘ below a) f = id f := fun f hf => by
    show ({ p := (stripL (a ++ 47 :: f.p) _).1, r := f.r, t := f.t } : F) = f
    rw [strip_below (h f hf)]
  rw [List.map_congr_left this, List.map_id]

theorem sortT_tree {l : List F} (h : (treeFault l).1 = 0) : sortT l = (l, 0, -1) := by
  have g := (tree_good.1 h).1.rise
  exact sortT_ok (List.Perm.refl _) g.weak (rise_nodup g) h

/-- A tree below a place alone. -/
theorem Grafted.alone {m t : List F} {d : List UInt8} (G : Grafted [] d m t) (hm : Rise m) : t = m.map (below d) :=
  eq_of_rise (by simpa using G.perm) G.rise (below_rise d hm)

theorem strip_grafted {a : List UInt8} {m t : List F} (G : Grafted [] a m t) (hm : (treeFault m).1 = 0) : stripT t ((pieces a).length : Nat) = (m, 0, -1) := by
  have e := G.alone (tree_good.1 hm).1.rise
  have ht := G.tree
  have hs := stripAll_below G.paths
  unfold stripT
  rw [if_neg (by simp [ht]), e, hs, if_neg (by simp), sortT_tree hm]

theorem prefix_in {a b : List UInt8} (hb : checkCode b = 0) (h : a ++ [47] <+: b) : isIn b a = true := by
  simp only [isIn, hb, decide_true, Bool.true_and, Bool.or_eq_true]
  right
  simpa [Lib.hasPrefix] using h

/-- Two places, neither in the other. -/
theorem not_in {a b s : List UInt8} (ha : checkCode a = 0) (hb : checkCode b = 0) (hne : a ≠ b) (h1 : isIn a b = false) (h2 : isIn b a = false) : isIn (b ++ 47 :: s) a = false := by
  cases h : isIn (b ++ 47 :: s) a with
  | false => rfl
  | true =>
    simp only [isIn, Bool.and_eq_true, Bool.or_eq_true] at h
    rcases h.2 with h | h
    · exact absurd (List.isEmpty_iff.1 h) (path_ne ha)
    · have p1 : a ++ [47] <+: b ++ 47 :: s := by simpa [Lib.hasPrefix] using h
      have p2 : b ++ [47] <+: b ++ 47 :: s := ⟨s, by simp⟩
      rcases List.prefix_or_prefix_of_prefix p1 p2 with p | p
      · rcases List.prefix_concat_iff.1 p with e | p
        · exact absurd (List.append_cancel_right e) hne
        · rw [prefix_in hb p] at h2; cases h2
      · rcases List.prefix_concat_iff.1 p with e | p
        · exact absurd (List.append_cancel_right e).symm hne
        · rw [prefix_in ha p] at h1; cases h1

theorem filter_off {a b : List UInt8} {m : List F} (ha : checkCode a = 0) (hb : checkCode b = 0) (hne : a ≠ b) (h1 : isIn a b = false) (h2 : isIn b a = false) : (m.map (below b)).filter (fun f => isIn f.p a) = [] := by
  rw [List.filter_eq_nil_iff]
  intro g hg
  obtain ⟨f, hf, rfl⟩ := List.mem_map.1 hg
  have := not_in (s := f.p) ha hb hne h1 h2
  simp [below, this]

/-- Two trees at two places are each under its own. -/
theorem two_places {a b : List UInt8} {l m x z : List F} (G : Grafted [] a l x) (H : Grafted x b m z) (hl : Rise l) (hm : Rise m) (hne : a ≠ b) (h1 : isIn a b = false) (h2 : isIn b a = false) :
    underL z a = l ∧ underL z b = m := by
  have e := G.alone hl
  subst e
  constructor
  · have hp := H.perm.filter (fun f => isIn f.p a)
    rw [List.filter_append, filter_below G.paths, filter_off G.dir H.dir hne h1 h2, List.append_nil] at hp
    have := eq_of_rise hp (H.rise.filter _) (below_rise a hl)
    unfold underL
    rw [this, map_cut l (path_ne G.dir)]
  · refine H.here hm ?_
    have : (l.map (below a)).filter (fun f => isIn f.p b) = [] := filter_off H.dir G.dir (Ne.symm hne) h2 h1
    simp [underL, this]

end Go.Proofs.YtmeipangcgdinaaGreatDoor
/-
  A file put into a sorted list; where a file is put: facts on lists. No Go text is spoken of here.
-/
namespace Go.Proofs.YtmeipangcgdinaaGreatDoor

theorem insert_perm (s : List F) (x : F) (j : Nat) : (s.take j ++ x :: s.drop j).Perm (s ++ [x]) := by
  have h1 : (s.take j ++ x :: s.drop j).Perm (x :: (s.take j ++ s.drop j)) := List.perm_middle
  rw [List.take_append_drop] at h1
  exact h1.trans (List.perm_append_comm (l₁ := [x]) (l₂ := s))

theorem insert_weak {s : List F} {x : F} {j : Nat} (hs : Weak s) (hj : j ≤ s.length) (hlow : ∀ h : 0 < j, less x.p (s[j - 1]'(by omega)).p = false) (hup : ∀ m (h : m < s.length), j ≤ m → less x.p s[m].p = true) :
    Weak (s.take j ++ x :: s.drop j) := by
  have hp := List.pairwise_iff_getElem.1 hs
  have hbefore : ∀ a ∈ s.take j, less x.p a.p = false := fun a ha => by
    obtain ⟨i, hi, rfl⟩ := List.getElem_of_mem ha
    rw [List.length_take] at hi
    rw [List.getElem_take]
    have hj0 : 0 < j := by omega
    by_cases e : i = j - 1
    · subst e; exact hlow hj0
    · exact less_weak (hp i (j - 1) (by omega) (by omega) (by omega)) (hlow hj0)
  have hbehind : ∀ b ∈ s.drop j, less b.p x.p = false := fun b hb => by
    obtain ⟨i, hi, rfl⟩ := List.getElem_of_mem hb
    rw [List.length_drop] at hi
    rw [List.getElem_drop]
    exact less_asymm (hup (j + i) (by omega) (by omega))
  refine List.pairwise_append.2 ⟨hs.sublist (List.take_sublist _ _), List.pairwise_cons.2 ⟨hbehind, hs.sublist (List.drop_sublist _ _)⟩, fun a ha b hb => ?_⟩
  rcases List.mem_cons.1 hb with rfl | hb
  · exact hbefore a ha
  · exact less_weak (hbefore a ha) (hbehind b hb)

/-- Where the first file stands that is not below a path. -/
theorem while_at {l : List F} {q : List UInt8} : ∀ {j : Nat}, j ≤ l.length → (∀ i (h : i < l.length), i < j → less l[i].p q = true) → (∀ h : j < l.length, less l[j].p q = false) →
    l.takeWhile (fun f => less f.p q) = l.take j ∧ l.dropWhile (fun f => less f.p q) = l.drop j := by
  induction l with
  | nil => intro j _ _ _; simp
  | cons f l ih =>
    intro j hj hb he
    cases j with
    | zero =>
      have h := he (by simp)
      simp only [List.getElem_cons_zero] at h
      simp [h]
    | succ j =>
      have h := hb 0 (by simp) (by omega)
      simp only [List.getElem_cons_zero] at h
      have := ih (j := j) (by simpa using hj) (fun i hi hij => by have := hb (i + 1) (by simp; omega) (by omega); simpa using this) (fun hi => by have := he (by simp; omega); simpa using this)
      simp [h, this]

theorem with_at {l : List F} {x : F} {j : Nat} (hj : j ≤ l.length) (hb : ∀ i (h : i < l.length), i < j → less l[i].p x.p = true) (he : ∀ h : j < l.length, less l[j].p x.p = false) :
    withF l x = l.take j ++ x :: behind x.p (l.drop j) := by
  obtain ⟨h1, h2⟩ := while_at hj hb he
  unfold withF
  rw [h1, h2]

theorem behind_same {l : List F} {q : List UInt8} {j : Nat} (h : j < l.length) (e : l[j].p = q) : behind q (l.drop j) = l.drop (j + 1) := by
  rw [List.drop_eq_getElem_cons h]
  simp [behind, e]
theorem behind_other {l : List F} {q : List UInt8} {j : Nat} (h : ∀ h : j < l.length, l[j].p ≠ q) : behind q (l.drop j) = l.drop j := by
  by_cases hj : j < l.length
  · rw [List.drop_eq_getElem_cons hj]
    simp [behind, h hj]
  · rw [List.drop_of_length_le (by omega)]
    rfl

end Go.Proofs.YtmeipangcgdinaaGreatDoor
/-
  Where a path stands in a rising list: facts on lists of files. No Go text is spoken of here.
-/
namespace Go.Proofs.YtmeipangcgdinaaGreatDoor

theorem rise_at {l : List F} (h : Rise l) {i j : Nat} (hij : i < j) (hj : j < l.length) : less (l[i]'(by omega)).p l[j].p = true :=
  List.pairwise_iff_getElem.1 h i j (by omega) hj hij

theorem less_before {l : List F} (h : Rise l) {q : List UInt8} {i j : Nat} (hij : i ≤ j) (hj : j < l.length) (hq : less l[j].p q = true) : less (l[i]'(by omega)).p q = true := by
  by_cases e : i = j
  · subst e; exact hq
  · exact less_trans (rise_at h (by omega) hj) hq

theorem less_behind {l : List F} (h : Rise l) {q : List UInt8} {i j : Nat} (hij : i ≤ j) (hj : j < l.length) (hq : less (l[i]'(by omega)).p q = false) : less l[j].p q = false := by
  cases e : less l[j].p q with
  | false => rfl
  | true => rw [less_before h hij hj e] at hq; cases hq

/-- Where a path is, or would be. -/
structure Place (l : List F) (q : List UInt8) (j : Nat) : Prop where
  le : j ≤ l.length
  low : ∀ i (h : i < l.length), i < j → less l[i].p q = true
  high : ∀ h : j < l.length, less l[j].p q = false

/-- Is it there? -/
def there (l : List F) (q : List UInt8) (j : Nat) : Bool := match l[j]? with | some f => f.p == q | none => false

theorem there_true {l : List F} {q : List UInt8} {j : Nat} (h : there l q j = true) : ∃ h : j < l.length, l[j].p = q := by
  unfold there at h
  split at h
  · rename_i f e
    obtain ⟨hj, e'⟩ := List.getElem?_eq_some_iff.1 e
    exact ⟨hj, by rw [e']; simpa using h⟩
  · cases h
theorem there_false {l : List F} {q : List UInt8} {j : Nat} (h : there l q j = false) (hj : j < l.length) : l[j].p ≠ q := by
  unfold there at h
  rw [List.getElem?_eq_getElem hj] at h
  simpa using h
theorem there_at {l : List F} {q : List UInt8} {j : Nat} (hj : j < l.length) : there l q j = (l[j].p == q) := by
  unfold there
  rw [List.getElem?_eq_getElem hj]
theorem there_end {l : List F} {q : List UInt8} {j : Nat} (hj : ¬ j < l.length) : there l q j = false := by
  unfold there
  rw [List.getElem?_eq_none (by omega)]

theorem without_there {l : List F} {q : List UInt8} {j : Nat} (h : Rise l) (P : Place l q j) (ht : there l q j = true) : without l q = l.take j ++ l.drop (j + 1) := by
  obtain ⟨hj, e⟩ := there_true ht
  have hl : l = l.take j ++ l[j] :: l.drop (j + 1) := by rw [← List.drop_eq_getElem_cons hj, List.take_append_drop]
  have h1 : (l.take j).filter (fun f => !(f.p == q)) = l.take j := List.filter_eq_self.2 fun f hf => by
    obtain ⟨i, hi, rfl⟩ := List.getElem_of_mem hf
    rw [List.length_take] at hi
    rw [List.getElem_take]
    simp [less_ne (P.low i (by omega) (by omega))]
  have h2 : (l.drop (j + 1)).filter (fun f => !(f.p == q)) = l.drop (j + 1) := List.filter_eq_self.2 fun f hf => by
    obtain ⟨i, hi, rfl⟩ := List.getElem_of_mem hf
    rw [List.length_drop] at hi
    rw [List.getElem_drop]
    have := less_ne (rise_at h (i := j) (j := j + 1 + i) (by omega) (by omega))
    rw [e] at this
    simp [Ne.symm this]
  have h3 : (l[j] :: l.drop (j + 1)).filter (fun f => !(f.p == q)) = l.drop (j + 1) := by
    rw [List.filter_cons, if_neg (by simp [e]), h2]
  have : without l q = (l.take j ++ l[j] :: l.drop (j + 1)).filter (fun f => !(f.p == q)) := by rw [← hl]; rfl
  rw [this, List.filter_append, h1, h3]

theorem none_there {l : List F} {q : List UInt8} {j : Nat} (h : Rise l) (P : Place l q j) (ht : there l q j = false) : ∀ f ∈ l, f.p ≠ q := fun f hf => by
  obtain ⟨i, hi, rfl⟩ := List.getElem_of_mem hf
  by_cases hij : i < j
  · exact less_ne (P.low i hi hij)
  · have hj : j < l.length := by omega
    have hn := there_false ht hj
    have hq : less q l[j].p = true := by
      cases e : less q l[j].p with
      | true => rfl
      | false => exact absurd (less_total (P.high hj) e) hn
    by_cases e : i = j
    · subst e; exact hn
    · exact (less_ne (less_trans hq (rise_at h (i := j) (j := i) (by omega) hi))).symm

theorem without_absent {l : List F} {q : List UInt8} {j : Nat} (h : Rise l) (P : Place l q j) (ht : there l q j = false) : without l q = l :=
  List.filter_eq_self.2 fun f hf => by simp [none_there h P ht f hf]

theorem drop_there {l : List F} {q : List UInt8} {j : Nat} (hz : (treeFault l).1 = 0) (h : Rise l) (P : Place l q j) (ht : there l q j = true) : dropT l q = (l.take j ++ l.drop (j + 1), 0, -1) := by
  obtain ⟨hj, _⟩ := there_true ht
  have e := without_there h P ht
  have hl : ¬ (without l q).length = l.length := by
    rw [e, List.length_append, List.length_take, List.length_drop]
    omega
  unfold dropT
  rw [if_neg (by simp [hz]), if_neg hl, e]
theorem drop_absent {l : List F} {q : List UInt8} {j : Nat} (hz : (treeFault l).1 = 0) (h : Rise l) (P : Place l q j) (ht : there l q j = false) : dropT l q = ([], 6, -1) := by
  unfold dropT
  rw [if_neg (by simp [hz]), if_pos (by rw [without_absent h P ht])]

theorem with_there {l : List F} {x : F} {j : Nat} (P : Place l x.p j) (ht : there l x.p j = true) : withF l x = l.take j ++ x :: l.drop (j + 1) := by
  obtain ⟨hj, e⟩ := there_true ht
  rw [with_at P.le P.low P.high, behind_same hj e]
theorem with_absent {l : List F} {x : F} {j : Nat} (P : Place l x.p j) (ht : there l x.p j = false) : withF l x = l.take j ++ x :: l.drop j := by
  rw [with_at P.le P.low P.high, behind_other fun h => there_false ht h]

theorem tree_rise {l : List F} (h : (treeFault l).1 = 0) : Rise l := (tree_good.1 h).1.rise
theorem checkCode_le (s : List UInt8) : checkCode s ≤ 13 := by
  unfold checkCode
  repeat' split
  all_goals omega
theorem fileCode_le (pre : List F) (f : F) : fileCode pre f ≤ 13 := by
  have := checkCode_le f.p
  unfold fileCode
  repeat' split
  all_goals omega
theorem firstBad_le : ∀ {pre r : List F} {c i : Nat}, firstBad pre r = some (c, i) → c ≤ 13
  | _, [], _, _, h => by simp [firstBad] at h
  | pre, f :: r, c, i, h => by
    unfold firstBad at h
    split at h
    · simp only [Option.some.injEq, Prod.mk.injEq] at h
      rw [← h.1]
      exact fileCode_le _ _
    · exact firstBad_le h
theorem treeFault_le (l : List F) : (treeFault l).1 ≤ 13 := by
  unfold treeFault
  split
  · show (8 : Nat) ≤ 13; omega
  · split
    · rename_i c i h
      exact firstBad_le h
    · split <;> simp
end Go.Proofs.YtmeipangcgdinaaGreatDoor
