/-
  Trees as lists of files: the order of texts, what a tree's fault is, and what putting, dropping, grafting, stripping and sorting answer. No Go text is spoken of here.
-/
import Derived.Test.YtkcjgncpcidfoaaDoorPaths
import Derived.Test.YtkcjgncpcidfoaaDoorFacts
namespace Go.Proofs.YtkcjgncpcidfoaaDoor

abbrev less := Op.bytesLess

theorem less_irrefl : ∀ a : List UInt8, less a a = false
  | [] => rfl
  | c :: r => by
    have h := less_irrefl r
    simp only [less] at h
    simp [less, Op.bytesLess, h]

theorem less_trans : ∀ {a b c : List UInt8}, less a b = true → less b c = true → less a c = true
  | _, [], _, h, _ => by simp [less, Op.bytesLess] at h
  | _, _ :: _, [], _, h => by simp [less, Op.bytesLess] at h
  | [], _ :: _, _ :: _, _, _ => by simp [less, Op.bytesLess]
  | x :: a, y :: b, z :: c, h1, h2 => by
    simp only [less, Op.bytesLess, Bool.or_eq_true, Bool.and_eq_true, decide_eq_true_eq, beq_iff_eq] at h1 h2 ⊢
    rcases h1 with h1 | ⟨rfl, h1⟩ <;> rcases h2 with h2 | ⟨rfl, h2⟩
    · exact .inl (UInt8.lt_trans h1 h2)
    · exact .inl h1
    · exact .inl h2
    · exact .inr ⟨rfl, less_trans (a := a) (b := b) (c := c) h1 h2⟩

theorem less_total : ∀ {a b : List UInt8}, less a b = false → less b a = false → a = b
  | [], [], _, _ => rfl
  | [], _ :: _, h, _ => by simp [less, Op.bytesLess] at h
  | _ :: _, [], _, h => by simp [less, Op.bytesLess] at h
  | x :: a, y :: b, h1, h2 => by
    simp only [less, Op.bytesLess, Bool.or_eq_false_iff, Bool.and_eq_false_iff, decide_eq_false_iff_not, beq_eq_false_iff_ne] at h1 h2
    have e : x = y := UInt8.le_antisymm (UInt8.not_lt.1 h2.1) (UInt8.not_lt.1 h1.1)
    subst e
    have := less_total (a := a) (b := b) (by rcases h1.2 with h | h <;> simp_all) (by rcases h2.2 with h | h <;> simp_all)
    rw [this]

theorem less_asymm {a b : List UInt8} (h : less a b = true) : less b a = false := by
  cases h' : less b a with
  | false => rfl
  | true => have := less_trans h h'; rw [less_irrefl] at this; cases this

theorem less_ne {a b : List UInt8} (h : less a b = true) : a ≠ b := by
  rintro rfl
  rw [less_irrefl] at h; cases h

/-- The order below one place. -/
theorem less_below : ∀ (d a b : List UInt8), less (d ++ a) (d ++ b) = less a b
  | [], _, _ => rfl
  | x :: d, a, b => by
    have := less_below d a b
    simp only [less] at this
    simp [less, Op.bytesLess, this]

structure F where
  p : List UInt8
  r : Bool
  t : List UInt8

/-- The number of the error of a file behind those ahead of it (0: none). -/
def fileCode (pre : List F) (f : F) : Nat :=
  if checkCode f.p ≠ 0 then checkCode f.p
  else if 4000 < f.t.length then 2
  else if pre ≠ [] ∧ less ((pre.getLast?.map (·.p)).getD []) f.p = false then 9
  else if pre.any (fun g => isIn f.p g.p) then 11
  else 0

def firstBad : List F → List F → Option (Nat × Nat)
  | _, [] => none
  | pre, f :: r => if fileCode pre f ≠ 0 then some (fileCode pre f, pre.length) else firstBad (pre ++ [f]) r

def total (l : List F) : Nat := (l.map fun f => f.t.length).sum

/-- A tree's fault: an error's number (0: none), and where (-1: nowhere). -/
def treeFault (l : List F) : Nat × Int :=
  if 30 < l.length then (8, -1)
  else match firstBad [] l with
    | some (c, i) => (c, i)
    | none => if 12000 < total l then (2, -1) else (0, -1)

theorem firstBad_some {l : List F} : ∀ {k : Nat} {pre : List F} {r : List F}, l = pre ++ r → (∀ i (h : i < r.length), i < k → fileCode (pre ++ r.take i) r[i] = 0) → (hk : k < r.length) → fileCode (pre ++ r.take k) r[k] ≠ 0 →
    firstBad pre r = some (fileCode (pre ++ r.take k) r[k], pre.length + k)
  | k, pre, [], _, _, hk, _ => by simp at hk
  | 0, pre, f :: r, _, _, _, h => by
    simp at h
    simp [firstBad, h]
  | k + 1, pre, f :: r, e, h0, hk, h => by
    have z := h0 0 (by simp) (by omega)
    simp at z
    have ih := firstBad_some (l := l) (k := k) (pre := pre ++ [f]) (r := r) (by simp [e]) (fun i hi hik => by
      have := h0 (i + 1) (by simp; omega) (by omega)
      simpa using this) (by simpa using hk) (by simpa using h)
    simp [firstBad, z, ih]
    omega

theorem firstBad_none {l : List F} : ∀ {pre r : List F}, l = pre ++ r → (∀ i (h : i < r.length), fileCode (pre ++ r.take i) r[i] = 0) → firstBad pre r = none
  | _, [], _, _ => rfl
  | pre, f :: r, e, h => by
    have z := h 0 (by simp)
    simp at z
    have ih := firstBad_none (l := l) (pre := pre ++ [f]) (r := r) (by simp [e]) (fun i hi => by
      have := h (i + 1) (by simp; omega)
      simpa using this)
    simp [firstBad, z, ih]

theorem treeFault_long {l : List F} (h : 30 < l.length) : treeFault l = (8, -1) := by simp [treeFault, h]
theorem treeFault_at {l : List F} {k : Nat} (hl : l.length ≤ 30) (hk : k < l.length) (h0 : ∀ i (h : i < l.length), i < k → fileCode (l.take i) l[i] = 0) (h : fileCode (l.take k) l[k] ≠ 0) :
    treeFault l = (fileCode (l.take k) l[k], (k : Int)) := by
  have := firstBad_some (l := l) (pre := []) (r := l) rfl (by simpa using h0) hk (by simpa using h)
  simp [treeFault, Nat.not_lt.2 hl, this]
theorem treeFault_end {l : List F} (hl : l.length ≤ 30) (h0 : ∀ i (h : i < l.length), fileCode (l.take i) l[i] = 0) :
    treeFault l = if 12000 < total l then (2, -1) else (0, -1) := by
  have := firstBad_none (l := l) (pre := []) (r := l) rfl (by simpa using h0)
  simp [treeFault, Nat.not_lt.2 hl, this]

theorem firstBad_zero : ∀ {pre r : List F}, firstBad pre r = none → ∀ i (h : i < r.length), fileCode (pre ++ r.take i) r[i] = 0
  | _, [], _, _, h => by simp at h
  | pre, f :: r, e, i, h => by
    by_cases z : fileCode pre f = 0
    · simp [firstBad, z] at e
      have ih := firstBad_zero e
      cases i with
      | zero => simpa using z
      | succ i => have := ih i (by simpa using h); simpa using this
    · simp [firstBad, z] at e

/-- A right tree. -/
structure Tree (l : List F) : Prop where
  few : l.length ≤ 30
  each : ∀ i (h : i < l.length), fileCode (l.take i) l[i] = 0
  small : total l ≤ 12000

theorem firstBad_code : ∀ {pre r : List F} {c i : Nat}, firstBad pre r = some (c, i) → c ≠ 0
  | _, [], _, _, h => by simp [firstBad] at h
  | pre, f :: r, c, i, h => by
    by_cases z : fileCode pre f = 0
    · simp [firstBad, z] at h
      exact firstBad_code h
    · simp [firstBad, z] at h
      rw [← h.1]; exact z

theorem tree_iff {l : List F} : (treeFault l).1 = 0 ↔ Tree l := by
  constructor
  · intro h
    by_cases hl : 30 < l.length
    · simp [treeFault, hl] at h
    · unfold treeFault at h
      rw [if_neg hl] at h
      cases hb : firstBad [] l with
      | some x => rw [hb] at h; exact absurd h (firstBad_code (c := x.1) (i := x.2) hb)
      | none =>
        rw [hb] at h
        refine ⟨Nat.not_lt.1 hl, fun i hi => by simpa using firstBad_zero hb i hi, ?_⟩
        by_cases ht : 12000 < total l
        · simp [ht] at h
        · omega
  · intro h
    rw [treeFault_end h.few h.each, if_neg (Nat.not_lt.2 h.small)]

theorem treeFault_zero {l : List F} (h : (treeFault l).1 = 0) : treeFault l = (0, -1) := by
  have t := tree_iff.1 h
  rw [treeFault_end t.few t.each, if_neg (Nat.not_lt.2 t.small)]

end Go.Proofs.YtkcjgncpcidfoaaDoor
