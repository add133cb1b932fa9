/-
  Trees as lists of files: a right tree is one whose files are right and rise, none in another; sorted lists; what putting, dropping, grafting and stripping answer. No Go text is spoken of here.
-/
import Derived.Test.YtkcjgncpcidfoaaDoorTreePure
namespace Go.Proofs.YtkcjgncpcidfoaaDoor

def Rise (l : List F) : Prop := l.Pairwise fun a b => less a.p b.p = true
def Apart (l : List F) : Prop := l.Pairwise fun a b => isIn b.p a.p = false
def Right (f : F) : Prop := checkCode f.p = 0 ∧ f.t.length ≤ 4000

theorem fileCode_zero {pre : List F} {f : F} : fileCode pre f = 0 ↔ Right f ∧ (pre = [] ∨ less ((pre.getLast?.map (·.p)).getD []) f.p = true) ∧ ∀ g ∈ pre, isIn f.p g.p = false := by
  unfold fileCode Right
  by_cases h1 : checkCode f.p = 0
  · by_cases h2 : 4000 < f.t.length
    · simp [h1, h2]; omega
    · by_cases h3 : pre ≠ [] ∧ less ((pre.getLast?.map (·.p)).getD []) f.p = false
      · obtain ⟨a, b⟩ := h3
        simp [h1, h2, a, b]
      · have h3' : pre = [] ∨ less ((pre.getLast?.map (·.p)).getD []) f.p = true := by
          by_cases hp : pre = []
          · exact .inl hp
          · right
            cases hl : less ((pre.getLast?.map (·.p)).getD []) f.p with
            | true => rfl
            | false => exact absurd ⟨hp, hl⟩ h3
        rw [if_neg (by simp [h1]), if_neg h2, if_neg h3]
        by_cases h4 : (pre.any fun g => isIn f.p g.p) = true
        · rw [if_pos h4]
          simp only [List.any_eq_true] at h4
          obtain ⟨g, hg, hi⟩ := h4
          constructor
          · intro h; cases h
          · rintro ⟨_, _, h⟩
            rw [h g hg] at hi; cases hi
        · rw [if_neg h4]
          refine ⟨fun _ => ⟨⟨h1, by omega⟩, h3', fun g hg => ?_⟩, fun _ => rfl⟩
          cases hi : isIn f.p g.p with
          | false => rfl
          | true => exact absurd (List.any_eq_true.2 ⟨g, hg, hi⟩) h4
  · simp [h1]

structure Good (l : List F) : Prop where
  right : ∀ f ∈ l, Right f
  rise : Rise l
  apart : Apart l

theorem good_snoc {pre : List F} {f : F} (h : Good pre) (hf : fileCode pre f = 0) : Good (pre ++ [f]) := by
  obtain ⟨hr, hl, ha⟩ := fileCode_zero.1 hf
  refine ⟨fun g hg => ?_, ?_, ?_⟩
  · rcases List.mem_append.1 hg with hg | hg
    · exact h.right g hg
    · rw [List.mem_singleton.1 hg]; exact hr
  · refine List.pairwise_append.2 ⟨h.rise, by simp, fun a hm b hb => ?_⟩
    rw [List.mem_singleton.1 hb]
    rcases List.eq_nil_or_concat pre with rfl | ⟨q, z, rfl⟩
    · simp at hm
    · rw [List.concat_eq_append] at hm hl h
      have hz : less z.p f.p = true := by simpa using hl
      rcases List.mem_append.1 hm with hm | hm
      · exact less_trans ((List.pairwise_append.1 h.rise).2.2 a hm z (by simp)) hz
      · rw [List.mem_singleton.1 hm]; exact hz
  · refine List.pairwise_append.2 ⟨h.apart, by simp, fun a hm b hb => ?_⟩
    rw [List.mem_singleton.1 hb]
    exact ha a hm

theorem good_of : ∀ {r pre : List F}, Good pre → (∀ i (h : i < r.length), fileCode (pre ++ r.take i) r[i] = 0) → Good (pre ++ r)
  | [], pre, h, _ => by simpa using h
  | f :: r, pre, h, h0 => by
    have z := h0 0 (by simp)
    have := good_of (r := r) (pre := pre ++ [f]) (good_snoc h (by simpa using z)) (fun i hi => by
      have := h0 (i + 1) (by simp; omega)
      simpa using this)
    simpa using this

theorem good_nil : Good [] := ⟨by simp, by simp [Rise], by simp [Apart]⟩

theorem good_iff {l : List F} : (∀ i (h : i < l.length), fileCode (l.take i) l[i] = 0) ↔ Good l := by
  constructor
  · intro h
    have := good_of (r := l) good_nil (by simpa using h)
    simpa using this
  · intro h i hi
    refine fileCode_zero.2 ⟨h.right _ (List.getElem_mem hi), ?_, fun g hg => ?_⟩
    · by_cases hz : i = 0
      · left; simp [hz]
      · right
        have : (l.take i).getLast? = some l[i - 1] := by
          rw [List.getLast?_eq_getElem?, List.length_take, Nat.min_eq_left (by omega), List.getElem?_take_of_lt (by omega)]
          exact List.getElem?_eq_getElem (by omega)
        rw [this]
        exact List.pairwise_iff_getElem.1 h.rise (i - 1) i (by omega) hi (by omega)
    · obtain ⟨k, hk, rfl⟩ := List.getElem_of_mem hg
      rw [List.getElem_take]
      rw [List.length_take] at hk
      exact List.pairwise_iff_getElem.1 h.apart k i (by omega) hi (by omega)

theorem tree_good {l : List F} : (treeFault l).1 = 0 ↔ Good l ∧ l.length ≤ 30 ∧ total l ≤ 12000 := by
  rw [tree_iff]
  exact ⟨fun h => ⟨good_iff.1 h.each, h.few, h.small⟩, fun h => ⟨h.2.1, good_iff.2 h.1, h.2.2⟩⟩

theorem total_sub {a b : List F} (h : a.Sublist b) : total a ≤ total b := by
  induction h with
  | slnil => exact Nat.le_refl _
  | cons f h ih => simp [total] at ih ⊢; omega
  | cons_cons f h ih => simp [total] at ih ⊢; omega

/-- A part of a right tree is one. -/
theorem tree_sub {a b : List F} (h : a.Sublist b) (hb : (treeFault b).1 = 0) : (treeFault a).1 = 0 := by
  obtain ⟨g, hl, ht⟩ := tree_good.1 hb
  exact tree_good.2 ⟨⟨fun f hf => g.right f (h.subset hf), g.rise.sublist h, g.apart.sublist h⟩, Nat.le_trans h.length_le hl, Nat.le_trans (total_sub h) ht⟩

/-- Sorted, if not strictly. -/
def Weak (l : List F) : Prop := l.Pairwise fun a b => less b.p a.p = false
theorem Rise.weak {l : List F} (h : Rise l) : Weak l := h.imp less_asymm

def leF (a b : F) : Bool := !less b.p a.p
def sortF (l : List F) : List F := l.mergeSort leF

theorem less_weak {a b c : List UInt8} (h1 : less b a = false) (h2 : less c b = false) : less c a = false := by
  cases h : less c a with
  | false => rfl
  | true =>
    cases hab : less a b with
    | true => rw [less_trans h hab] at h2; cases h2
    | false => rw [less_total hab h1] at h; rw [h] at h2; cases h2

theorem sortF_weak (l : List F) : Weak (sortF l) := by
  have := List.pairwise_mergeSort (le := leF) (fun a b c h1 h2 => by simp [leF] at h1 h2 ⊢; exact less_weak h1 h2) (fun a b => by
    simp only [leF]
    cases h : less b.p a.p with
    | false => simp
    | true => simp [less_asymm h]) l
  exact this.imp fun h => by simpa [leF] using h
theorem sortF_perm (l : List F) : (sortF l).Perm l := List.mergeSort_perm l leF

theorem inj_of_nodup {l : List F} (h : (l.map (·.p)).Nodup) {a b : F} (ha : a ∈ l) (hb : b ∈ l) (e : a.p = b.p) : a = b := by
  have h' := List.pairwise_map.1 (List.nodup_iff_pairwise_ne.1 h)
  obtain ⟨i, hi, rfl⟩ := List.getElem_of_mem ha
  obtain ⟨j, hj, rfl⟩ := List.getElem_of_mem hb
  have := List.pairwise_iff_getElem.1 h'
  rcases Nat.lt_trichotomy i j with hij | rfl | hij
  · exact absurd e (this i j hi hj hij)
  · rfl
  · exact absurd e.symm (this j i hj hi hij)

theorem sort_unique {s t l : List F} (hs : s.Perm l) (ht : t.Perm l) (ws : Weak s) (wt : Weak t) (hn : (l.map (·.p)).Nodup) : s = t :=
  List.Perm.eq_of_pairwise (fun _ _ ha hb h1 h2 => inj_of_nodup hn (hs.subset ha) (ht.subset hb) (less_total h2 h1)) ws wt (hs.trans ht.symm)

theorem sortF_of {s l : List F} (hs : s.Perm l) (ws : Weak s) (hn : (l.map (·.p)).Nodup) : s = sortF l := sort_unique hs (sortF_perm l) ws (sortF_weak l) hn

theorem rise_nodup {l : List F} (h : Rise l) : (l.map (·.p)).Nodup := List.nodup_iff_pairwise_ne.2 (List.pairwise_map.2 (h.imp less_ne))

theorem rise_of {l : List F} (h : Weak l) (hn : (l.map (·.p)).Nodup) : Rise l := by
  have hn' := List.pairwise_map.1 (List.nodup_iff_pairwise_ne.1 hn)
  refine List.pairwise_iff_getElem.2 fun i j hi hj hij => ?_
  have h1 := List.pairwise_iff_getElem.1 h i j hi hj hij
  have h2 := List.pairwise_iff_getElem.1 hn' i j hi hj hij
  cases hl : less l[i].p l[j].p with
  | true => rfl
  | false => exact absurd (less_total hl h1) h2

/-- Two neighbours of one path: two of one path; none such: all paths are two by two other ones. -/
theorem nodup_of_step {l : List F} (h : Weak l) (hs : ∀ i (hi : i + 1 < l.length), l[i + 1].p ≠ l[i].p) : (l.map (·.p)).Nodup := by
  refine rise_nodup (List.pairwise_iff_getElem.2 ?_)
  have step : ∀ i (hi : i + 1 < l.length), less l[i].p l[i + 1].p = true := fun i hi => by
    cases hl : less l[i].p l[i + 1].p with
    | true => rfl
    | false => exact absurd (less_total hl (List.pairwise_iff_getElem.1 h i (i + 1) (by omega) hi (by omega))).symm (hs i hi)
  intro i j hi hj hij
  obtain ⟨d, rfl⟩ : ∃ d, j = i + 1 + d := ⟨j - i - 1, by omega⟩
  induction d with
  | zero => exact step i hj
  | succ d ih => exact less_trans (ih (by omega) (by omega)) (step (i + 1 + d) hj)

theorem not_nodup_of_step {l : List F} {i : Nat} (hi : i + 1 < l.length) (e : l[i + 1].p = l[i].p) : ¬ (l.map (·.p)).Nodup := fun h => by
  have h' := List.pairwise_map.1 (List.nodup_iff_pairwise_ne.1 h)
  exact List.pairwise_iff_getElem.1 h' i (i + 1) (by omega) hi (by omega) e.symm

/-- What sorting answers: the files, an error's number, and where. -/
def sortT (l : List F) : List F × Nat × Int :=
  if (l.map (·.p)).Nodup then (if (treeFault (sortF l)).1 = 0 then (sortF l, 0, -1) else ([], treeFault (sortF l))) else ([], 7, -1)

theorem sortT_twice {s l : List F} (hs : s.Perm l) (h : ¬ (s.map (·.p)).Nodup) : sortT l = ([], 7, -1) := by
  rw [(hs.map _).nodup_iff] at h
  simp [sortT, h]
theorem sortT_bad {s l : List F} (hs : s.Perm l) (ws : Weak s) (hn : (s.map (·.p)).Nodup) (h : (treeFault s).1 ≠ 0) : sortT l = ([], treeFault s) := by
  rw [(hs.map _).nodup_iff] at hn
  have := sortF_of hs ws hn
  subst this
  simp [sortT, hn, h]
theorem sortT_ok {s l : List F} (hs : s.Perm l) (ws : Weak s) (hn : (s.map (·.p)).Nodup) (h : (treeFault s).1 = 0) : sortT l = (s, 0, -1) := by
  rw [(hs.map _).nodup_iff] at hn
  have := sortF_of hs ws hn
  subst this
  simp [sortT, hn, h]

def behind (q : List UInt8) : List F → List F
  | [] => []
  | g :: r => if g.p = q then r else g :: r
/-- With a file, in the place of what has its path. -/
def withF (l : List F) (x : F) : List F := l.takeWhile (fun f => less f.p x.p) ++ x :: behind x.p (l.dropWhile (fun f => less f.p x.p))
def putT (l : List F) (x : F) : List F × Nat × Int :=
  if (treeFault l).1 ≠ 0 then ([], treeFault l) else if (treeFault (withF l x)).1 ≠ 0 then ([], (treeFault (withF l x)).1, -1) else (withF l x, 0, -1)
def without (l : List F) (q : List UInt8) : List F := l.filter fun f => !(f.p == q)
def dropT (l : List F) (q : List UInt8) : List F × Nat × Int :=
  if (treeFault l).1 ≠ 0 then ([], treeFault l) else if (without l q).length = l.length then ([], 6, -1) else (without l q, 0, -1)
def cutF (dir : List UInt8) (f : F) : F := if dir = [] then f else { f with p := f.p.drop (dir.length + 1) }
def underL (l : List F) (dir : List UInt8) : List F := (l.filter fun f => isIn f.p dir).map (cutF dir)
def underT (l : List F) (dir : List UInt8) : List F × Nat × Int := if (treeFault l).1 ≠ 0 then ([], treeFault l) else (underL l dir, 0, -1)
/-- Paths changed one by one, up to the first error: the files, the error's number, and where. -/
def mapPaths (g : List UInt8 → List UInt8 × Nat) : Nat → List F → List F × Nat × Nat
  | _, [] => ([], 0, 0)
  | i, f :: r => if (g f.p).2 ≠ 0 then ([], (g f.p).2, i) else if (mapPaths g (i + 1) r).2.1 ≠ 0 then ([], (mapPaths g (i + 1) r).2) else ({ f with p := (g f.p).1 } :: (mapPaths g (i + 1) r).1, 0, 0)
def joinAll (dir : List UInt8) (m : List F) : List F × Nat × Nat := mapPaths (fun s => cleanL (joinTo dir s)) 0 m
def graftT (l : List F) (dir : List UInt8) (m : List F) : List F × Nat × Int :=
  if (treeFault l).1 ≠ 0 then ([], treeFault l) else if (treeFault m).1 ≠ 0 then ([], treeFault m) else if checkCode dir ≠ 0 then ([], checkCode dir, -1)
  else if (joinAll dir m).2.1 ≠ 0 then ([], (joinAll dir m).2.1, -1) else ((sortT (l ++ (joinAll dir m).1)).1, (sortT (l ++ (joinAll dir m).1)).2.1, -1)
def stripAll (n : Int) (l : List F) : List F × Nat × Nat := mapPaths (fun s => stripL s n) 0 l
def stripT (l : List F) (n : Int) : List F × Nat × Int :=
  if (treeFault l).1 ≠ 0 then ([], treeFault l) else if (stripAll n l).2.1 ≠ 0 then ([], (stripAll n l).2.1, ((stripAll n l).2.2 : Int)) else sortT (stripAll n l).1

theorem mapPaths_at (g : List UInt8 → List UInt8 × Nat) : ∀ (l : List F) (k i : Nat) (hk : k < l.length), (∀ j (h : j < l.length), j < k → (g l[j].p).2 = 0) → (g l[k].p).2 ≠ 0 → mapPaths g i l = ([], (g l[k].p).2, i + k)
  | [], _, _, hk, _, _ => by simp at hk
  | f :: r, 0, i, _, _, h => by
    have h' : (g f.p).2 ≠ 0 := h
    simp [mapPaths, h']
  | f :: r, k + 1, i, hk, h0, h => by
    have z : (g f.p).2 = 0 := h0 0 (by simp) (by omega)
    have h' : (g (r[k]'(by simpa using hk)).p).2 ≠ 0 := by simpa using h
    have ih := mapPaths_at g r k (i + 1) (by simpa using hk) (fun j hj hjk => by have := h0 (j + 1) (by simp; omega) (by omega); simpa using this) h'
    rw [mapPaths, if_neg (by simp [z]), ih, if_pos (by simpa using h')]
    simp
    omega

theorem mapPaths_all (g : List UInt8 → List UInt8 × Nat) : ∀ (l : List F) (i : Nat), (∀ f ∈ l, (g f.p).2 = 0) → mapPaths g i l = (l.map fun f => { f with p := (g f.p).1 }, 0, 0)
  | [], _, _ => rfl
  | f :: r, i, h => by
    have z := h f (by simp)
    have ih := mapPaths_all g r (i + 1) (fun x hx => h x (by simp [hx]))
    rw [mapPaths, if_neg (by simp [z]), ih]
    simp

theorem mapPaths_zero (g : List UInt8 → List UInt8 × Nat) : ∀ (l : List F) (i : Nat), (mapPaths g i l).2.1 = 0 → ∀ f ∈ l, (g f.p).2 = 0
  | [], _, _ => by simp
  | f :: r, i, h => by
    by_cases z : (g f.p).2 = 0
    · rw [mapPaths, if_neg (by simp [z])] at h
      by_cases z' : (mapPaths g (i + 1) r).2.1 = 0
      · have ih := mapPaths_zero g r (i + 1) z'
        intro x hx
        rcases List.mem_cons.1 hx with rfl | hx
        · exact z
        · exact ih x hx
      · rw [if_pos z'] at h
        exact absurd h z'
    · rw [mapPaths, if_pos z] at h
      exact absurd h z

end Go.Proofs.YtkcjgncpcidfoaaDoor
