/-
  Own texts of the proof, gathered by program in their build order: Digits, PressPure, Errs, As, Code, Coded, Slots, Faulted, ErrV, CodedV, ErrAt, Pure, RefDigits, PkTimes, Shelf, PkEach.
-/
import Derived.Test.YtjdbpabniaclaaaDoorProg
import Derived.WalkKit
import Derived.LaidEql
import Derived.Stop.Asserts
import Derived.RowKitTokens
import Derived.Deep.QuietTactic
import Derived.BigQuiet
import Derived.WalkSmall
import Derived.WalkLawsBesides
import Derived.Test.YtjdbpabniaclaaaDoorChecked
import Derived.Lib.Strings
import Derived.Lib.Bytealg
import Derived.Lib.Join
import Derived.WalkSpells
import Derived.Below
import Derived.Laws.IdiomStrings
import Derived.Lib.Hide
import Derived.Shelf.Strings.Builder1
import Derived.Shelf.Strings.Builder2
import Derived.Shelf.Strings.BuilderF
import Derived.Shelf.Strings.BuilderK
import Derived.Shelf.Strconv.Itoa0
import Derived.Shelf.Strconv.Itoa1
import Derived.Shelf.LaysM
import Derived.Shelf.Strconv.Itoa2
import Derived.Shelf.Strconv.Itoa3
import Derived.Shelf.Strings.Prefix
/-
  Digits of numbers as lists of bytes: no machine: for whatever seat.
-/
namespace Go.Proofs.YtjdbpabniaclaaaDoor
/-- The digits of a number. -/
def digitsF : Nat → Nat → List UInt8
  | 0, n => [UInt8.ofNat (48 + n)]
  | f + 1, n => if n < 10 then [UInt8.ofNat (48 + n)] else digitsF f (n / 10) ++ [UInt8.ofNat (48 + n % 10)]
def digitsL (n : Nat) : List UInt8 := digitsF n n
theorem digitsF_fuel : ∀ (f g n : Nat), n ≤ f → n ≤ g → digitsF f n = digitsF g n
  | 0, 0, _, _, _ => rfl
  | 0, g + 1, n, hf, _ => by rw [digitsF, digitsF, if_pos (by omega)]
  | f + 1, 0, n, _, hg => by rw [digitsF, digitsF, if_pos (by omega)]
  | f + 1, g + 1, n, hf, hg => by
    by_cases h : n < 10
    · rw [digitsF, digitsF, if_pos h, if_pos h]
    · rw [digitsF, digitsF, if_neg h, if_neg h, digitsF_fuel f g (n / 10) (by omega) (by omega)]
def isDigit (b : UInt8) : Bool := decide (48 ≤ b.toNat) && decide (b.toNat ≤ 57)
/-- The value of digits, from one on. -/
def valueFrom (h : Nat) (s : List UInt8) : Nat := s.foldl (fun h b => 10 * h + (b.toNat - 48)) h
/-- A number out of its digits, so many at most, without needless zeros (-1: it is none). -/
def numberL (s : List UInt8) (most : Nat) : Int :=
  if s.length < 1 ∨ most < s.length ∨ (1 < s.length ∧ s.head? = some 48) then -1 else if s.all isDigit then (valueFrom 0 s : Nat) else -1

theorem digit_toNat {n : Nat} (h : n < 10) : (UInt8.ofNat (48 + n)).toNat = 48 + n := by
  rw [UInt8.toNat_ofNat']
  omega
theorem digits_small {n : Nat} (h : n < 10) : digitsL n = [UInt8.ofNat (48 + n)] := by
  show digitsF n n = _
  cases n with
  | zero => rfl
  | succ k => rw [digitsF, if_pos h]
theorem digits_great {n : Nat} (h : 10 ≤ n) : digitsL n = digitsL (n / 10) ++ [UInt8.ofNat (48 + n % 10)] := by
  show digitsF n n = digitsF (n / 10) (n / 10) ++ _
  obtain ⟨k, rfl⟩ : ∃ k, n = k + 1 := ⟨n - 1, by omega⟩
  rw [digitsF, if_neg (by omega), digitsF_fuel k ((k + 1) / 10) ((k + 1) / 10) (by omega) (Nat.le_refl _)]
theorem digits_digit (n : Nat) : (digitsL n).all isDigit = true := by
  induction n using Nat.strongRecOn with
  | ind n ih =>
    by_cases h : n < 10
    · rw [digits_small h]
      simp [isDigit]
      omega
    · rw [digits_great (by omega), List.all_append, ih (n / 10) (by omega)]
      have h' : n % 10 < 10 := Nat.mod_lt _ (by decide)
      simp [isDigit]
      omega
theorem digits_value (n : Nat) : valueFrom 0 (digitsL n) = n := by
  induction n using Nat.strongRecOn with
  | ind n ih =>
    by_cases h : n < 10
    · rw [digits_small h]
      simp [valueFrom]
      omega
    · have h' : n % 10 < 10 := Nat.mod_lt _ (by decide)
      have e := ih (n / 10) (by omega)
      rw [digits_great (by omega)]
      unfold valueFrom at e ⊢
      rw [List.foldl_append, e]
      simp
      omega
theorem digits_pos (n : Nat) : 0 < (digitsL n).length := by
  by_cases h : n < 10
  · rw [digits_small h]; simp
  · rw [digits_great (by omega)]; simp
theorem digits_head (n : Nat) : (digitsL n).head? = some 48 → n = 0 := by
  induction n using Nat.strongRecOn with
  | ind n ih =>
    by_cases h : n < 10
    · rw [digits_small h]
      intro e
      have e' := congrArg UInt8.toNat (Option.some.inj e)
      rw [digit_toNat h] at e'
      have : (48 : UInt8).toNat = 48 := rfl
      omega
    · rw [digits_great (by omega)]
      intro e
      have hp := digits_pos (n / 10)
      have : (digitsL (n / 10)).head? = some 48 := by
        cases hd : digitsL (n / 10) with
        | nil => rw [hd] at hp; simp at hp
        | cons a r => rw [hd] at e; simpa using e
      have := ih (n / 10) (by omega) this
      omega
theorem digits_length : ∀ (k n : Nat), n < 10 ^ (k + 1) → (digitsL n).length ≤ k + 1
  | 0, n, h => by rw [digits_small (by omega)]; simp
  | k + 1, n, h => by
    by_cases h0 : n < 10
    · rw [digits_small h0]; simp
    · rw [digits_great (by omega), List.length_append]
      have := digits_length k (n / 10) (by rw [Nat.pow_succ] at h; omega)
      simp
      omega
/-- It is read as it was written. -/
theorem number_digits {k n : Nat} (h : n < 10 ^ (k + 1)) : numberL (digitsL n) (k + 1) = n := by
  unfold numberL
  have h1 := digits_pos n
  have h2 := digits_length k n h
  rw [if_neg, digits_digit, if_pos rfl, digits_value]
  rintro (h3 | h3 | ⟨h3, h4⟩)
  · omega
  · omega
  · have := digits_head n h4
    subst this
    rw [digits_small (by omega)] at h3
    simp at h3
end Go.Proofs.YtjdbpabniaclaaaDoor
/-
  Pressed texts as lists of bytes: runs, how they are written, and how they are read: no machine.
-/
namespace Go.Proofs.YtjdbpabniaclaaaDoor

/-- A run as it is written: how often, a colon, the byte. -/
def runL (r : Nat × UInt8) : List UInt8 := digitsL r.1 ++ [58, r.2]
def writeL (l : List (Nat × UInt8)) : List UInt8 := l.flatMap runL
/-- Runs, opened. -/
def openL (l : List (Nat × UInt8)) : List UInt8 := l.flatMap fun r => List.replicate r.1 r.2
def sizeL (l : List (Nat × UInt8)) : Nat := (l.map (·.1)).sum
/-- A byte ahead of runs. -/
def putRun (b : UInt8) : List (Nat × UInt8) → List (Nat × UInt8)
  | [] => [(1, b)]
  | (n, c) :: l => if c = b then (n + 1, c) :: l else (1, b) :: (n, c) :: l
/-- The runs of a text. -/
def runs : List UInt8 → List (Nat × UInt8)
  | [] => []
  | b :: r => putRun b (runs r)
def pressL (s : List UInt8) : List UInt8 := writeL (runs s)

theorem writeL_nil : writeL [] = [] := rfl
theorem writeL_snoc (l : List (Nat × UInt8)) (r : Nat × UInt8) : writeL (l ++ [r]) = writeL l ++ runL r := by simp [writeL]
theorem writeL_cons (l : List (Nat × UInt8)) (r : Nat × UInt8) : writeL (r :: l) = runL r ++ writeL l := by simp [writeL]
theorem writeL_app (l m : List (Nat × UInt8)) : writeL (l ++ m) = writeL l ++ writeL m := by simp [writeL]
theorem openL_snoc (l : List (Nat × UInt8)) (r : Nat × UInt8) : openL (l ++ [r]) = openL l ++ List.replicate r.1 r.2 := by simp [openL]
theorem openL_app (l m : List (Nat × UInt8)) : openL (l ++ m) = openL l ++ openL m := by simp [openL]
theorem sizeL_snoc (l : List (Nat × UInt8)) (r : Nat × UInt8) : sizeL (l ++ [r]) = sizeL l + r.1 := by simp [sizeL]
theorem sizeL_app (l m : List (Nat × UInt8)) : sizeL (l ++ m) = sizeL l + sizeL m := by simp [sizeL]
theorem openL_length (l : List (Nat × UInt8)) : (openL l).length = sizeL l := by
  induction l with
  | nil => rfl
  | cons r l ih =>
    show (List.replicate r.1 r.2 ++ openL l).length = r.1 + sizeL l
    rw [List.length_append, List.length_replicate, ih]

theorem runs_head (b : UInt8) (r : List UInt8) : ∃ n l, runs (b :: r) = (n + 1, b) :: l := by
  show ∃ n l, putRun b (runs r) = _
  cases h : runs r with
  | nil => exact ⟨0, [], rfl⟩
  | cons x l =>
    obtain ⟨n, c⟩ := x
    unfold putRun
    by_cases hc : c = b
    · subst hc
      exact ⟨n, l, by simp⟩
    · exact ⟨0, (n, c) :: l, by simp [hc]⟩
theorem runs_rep : ∀ (k : Nat) (b : UInt8) (l : List UInt8), l.head? ≠ some b → runs (List.replicate (k + 1) b ++ l) = (k + 1, b) :: runs l
  | 0, b, l, h => by
    show putRun b (runs l) = _
    cases l with
    | nil => rfl
    | cons c l =>
      obtain ⟨n, m, e⟩ := runs_head c l
      rw [e]
      have hc : c ≠ b := fun e => h (by simp [e])
      simp [putRun, hc]
  | k + 1, b, l, h => by
    show putRun b (runs (List.replicate (k + 1) b ++ l)) = _
    rw [runs_rep k b l h]
    simp [putRun]
theorem open_put (b : UInt8) (l : List (Nat × UInt8)) : openL (putRun b l) = b :: openL l := by
  cases l with
  | nil => rfl
  | cons x l =>
    obtain ⟨n, c⟩ := x
    by_cases hc : c = b
    · subst hc
      simp [openL, putRun, List.replicate_succ]
    · simp [openL, putRun, hc]
theorem open_runs (s : List UInt8) : openL (runs s) = s := by
  induction s with
  | nil => rfl
  | cons b r ih =>
    show openL (putRun b (runs r)) = _
    rw [open_put, ih]
theorem size_runs (s : List UInt8) : sizeL (runs s) = s.length := by rw [← openL_length, open_runs]
theorem put_mem {b : UInt8} {l : List (Nat × UInt8)} {r : Nat × UInt8} {k : Nat} (h : r ∈ putRun b l) (hl : ∀ r ∈ l, 1 ≤ r.1 ∧ r.1 ≤ k) : 1 ≤ r.1 ∧ r.1 ≤ k + 1 := by
  cases l with
  | nil =>
    have e : r = (1, b) := List.mem_singleton.1 h
    subst e
    simp
  | cons x l =>
    obtain ⟨n, c⟩ := x
    have h0 := hl (n, c) (by simp)
    simp only at h0
    by_cases hc : c = b
    · rw [putRun, if_pos hc] at h
      rcases List.mem_cons.1 h with rfl | h''
      · simp only; omega
      · have := hl r (by simp [h'']); omega
    · rw [putRun, if_neg hc] at h
      rcases List.mem_cons.1 h with rfl | h''
      · simp only; omega
      · have := hl r h''; omega
theorem runs_mem {s : List UInt8} : ∀ {r : Nat × UInt8}, r ∈ runs s → 1 ≤ r.1 ∧ r.1 ≤ s.length := by
  induction s with
  | nil => intro r h; cases h
  | cons b t ih =>
    intro r h
    rw [List.length_cons]
    exact put_mem (l := runs t) h fun r hr => ih hr

/-- Digits from a place on, nine at most, without a zero ahead: their value, and how many. -/
def scan : Nat → Nat → List UInt8 → Nat × Nat
  | k, n, [] => (n, k)
  | k, n, b :: r => if k < 9 ∧ isDigit b = true ∧ ¬ (k = 0 ∧ b = 48) then scan (k + 1) (10 * n + (b.toNat - 48)) r else (n, k)
theorem scan_nil (k n : Nat) : scan k n [] = (n, k) := rfl
theorem scan_go {k n : Nat} {b : UInt8} {r : List UInt8} (h : k < 9 ∧ isDigit b = true ∧ ¬ (k = 0 ∧ b = 48)) : scan k n (b :: r) = scan (k + 1) (10 * n + (b.toNat - 48)) r := by rw [scan, if_pos h]
theorem scan_end {k n : Nat} {b : UInt8} {r : List UInt8} (h : ¬ (k < 9 ∧ isDigit b = true ∧ ¬ (k = 0 ∧ b = 48))) : scan k n (b :: r) = (n, k) := by rw [scan, if_neg h]
theorem scan_le : ∀ (l : List UInt8) (k n : Nat), k ≤ 9 → (scan k n l).2 ≤ k + l.length ∧ (scan k n l).2 ≤ 9 ∧ k ≤ (scan k n l).2
  | [], k, n, h => by simp [scan]; exact h
  | b :: r, k, n, h => by
    by_cases hc : k < 9 ∧ isDigit b = true ∧ ¬ (k = 0 ∧ b = 48)
    · rw [scan_go hc]
      have := scan_le r (k + 1) (10 * n + (b.toNat - 48)) (by omega)
      rw [List.length_cons]
      omega
    · rw [scan_end hc]
      simp
      exact h
theorem digit_le {b : UInt8} (h : isDigit b = true) : 48 ≤ b.toNat ∧ b.toNat ≤ 57 := by simpa [isDigit] using h
/-- Numbers of so many digits. -/
def Digs (k n : Nat) : Prop := n < 10 ^ k ∧ (n = 0 ↔ k = 0)
theorem digs_zero : Digs 0 0 := ⟨by decide, by decide⟩
theorem digs_go {k n : Nat} {b : UInt8} (h : Digs k n) (hd : isDigit b = true) (hz : ¬ (k = 0 ∧ b = 48)) : Digs (k + 1) (10 * n + (b.toNat - 48)) := by
  have hb := digit_le hd
  have h1 := h.1
  have h2 := h.2
  refine ⟨by rw [Nat.pow_succ]; omega, ?_⟩
  constructor
  · intro e
    exfalso
    have hn : n = 0 := by omega
    have hk := h2.1 hn
    exact hz ⟨hk, UInt8.toNat_inj.1 (by show b.toNat = 48; omega)⟩
  · intro e
    omega
theorem scan_digs : ∀ (l : List UInt8) (k n : Nat), Digs k n → Digs (scan k n l).2 (scan k n l).1
  | [], k, n, h => h
  | b :: r, k, n, h => by
    by_cases hc : k < 9 ∧ isDigit b = true ∧ ¬ (k = 0 ∧ b = 48)
    · rw [scan_go hc]
      exact scan_digs r (k + 1) _ (digs_go h hc.2.1 hc.2.2)
    · rw [scan_end hc]
      exact h
theorem digs_bound {k n : Nat} (h : Digs k n) (hk : k ≤ 9) : n ≤ 999999999 := by
  have h1 := h.1
  have : 10 ^ k ≤ 10 ^ 9 := Nat.pow_le_pow_right (by decide) hk
  omega
theorem scan_digits : ∀ (ds : List UInt8) (k v : Nat) (c : UInt8) (r : List UInt8), ds.all isDigit = true → k + ds.length ≤ 9 → (k = 0 → ds.head? ≠ some 48) → isDigit c = false →
    scan k v (ds ++ c :: r) = (valueFrom v ds, k + ds.length)
  | [], k, v, c, r, _, _, _, hc => by
    show scan k v (c :: r) = _
    rw [scan_end (by rw [hc]; simp)]
    rfl
  | b :: ds, k, v, c, r, hd, hl, hh, hc => by
    rw [List.all_cons, Bool.and_eq_true] at hd
    rw [List.length_cons] at hl
    have hg : k < 9 ∧ isDigit b = true ∧ ¬ (k = 0 ∧ b = 48) := ⟨by omega, hd.1, fun ⟨e, e'⟩ => hh e (by simp [e'])⟩
    show scan k v (b :: (ds ++ c :: r)) = _
    rw [scan_go hg, scan_digits ds (k + 1) _ c r hd.2 (by omega) (by omega) hc, List.length_cons]
    show (valueFrom (10 * v + (b.toNat - 48)) ds, _) = (valueFrom (10 * v + (b.toNat - 48)) ds, _)
    congr 1
    omega
theorem scan_number {n : Nat} (h1 : 1 ≤ n) (h2 : n ≤ 999999999) (r : List UInt8) : scan 0 0 (digitsL n ++ 58 :: r) = (n, (digitsL n).length) := by
  rw [scan_digits (digitsL n) 0 0 58 r (digits_digit n) (by have := digits_length 8 n (by omega); omega) (fun _ e => by have := digits_head n e; omega) (by decide), digits_value]
  simp

/-- A pressed text read: its runs up to what is none, and where that is. -/
def readF : Nat → List UInt8 → List (Nat × UInt8) × Option Nat
  | 0, _ => ([], none)
  | f + 1, l =>
    if l = [] then ([], none)
    else if (scan 0 0 l).2 = 0 ∨ (l.drop (scan 0 0 l).2).head? ≠ some 58 then ([], some (scan 0 0 l).2)
    else if l.length = (scan 0 0 l).2 + 1 then ([], some ((scan 0 0 l).2 + 1))
    else (((scan 0 0 l).1, l.getD ((scan 0 0 l).2 + 1) 0) :: (readF f (l.drop ((scan 0 0 l).2 + 2))).1, (readF f (l.drop ((scan 0 0 l).2 + 2))).2.map (· + ((scan 0 0 l).2 + 2)))
def readL (l : List UInt8) : List (Nat × UInt8) × Option Nat := readF l.length l

theorem readF_fuel : ∀ (f g : Nat) (l : List UInt8), l.length ≤ f → l.length ≤ g → readF f l = readF g l
  | 0, g, l, hf, _ => by
    have e : l = [] := List.length_eq_zero_iff.1 (by omega)
    subst e
    cases g <;> simp [readF]
  | f + 1, 0, l, _, hg => by
    have e : l = [] := List.length_eq_zero_iff.1 (by omega)
    subst e
    simp [readF]
  | f + 1, g + 1, l, hf, hg => by
    have e : readF f (l.drop ((scan 0 0 l).2 + 2)) = readF g (l.drop ((scan 0 0 l).2 + 2)) := readF_fuel f g _ (by rw [List.length_drop]; omega) (by rw [List.length_drop]; omega)
    simp only [readF, e]
theorem readL_nil : readL [] = ([], none) := rfl
theorem readL_step {l : List UInt8} (h : l ≠ []) : readL l = if (scan 0 0 l).2 = 0 ∨ (l.drop (scan 0 0 l).2).head? ≠ some 58 then ([], some (scan 0 0 l).2)
    else if l.length = (scan 0 0 l).2 + 1 then ([], some ((scan 0 0 l).2 + 1))
    else (((scan 0 0 l).1, l.getD ((scan 0 0 l).2 + 1) 0) :: (readL (l.drop ((scan 0 0 l).2 + 2))).1, (readL (l.drop ((scan 0 0 l).2 + 2))).2.map (· + ((scan 0 0 l).2 + 2))) := by
  have hl : 0 < l.length := List.length_pos_iff.2 h
  obtain ⟨f, hf⟩ : ∃ f, l.length = f + 1 := ⟨l.length - 1, by omega⟩
  have e : readF f (l.drop ((scan 0 0 l).2 + 2)) = readL (l.drop ((scan 0 0 l).2 + 2)) := readF_fuel f _ _ (by rw [List.length_drop]; omega) (Nat.le_refl _)
  conv => lhs; unfold readL; rw [hf, readF, if_neg h, e]
theorem readL_bad {l : List UInt8} (h : l ≠ []) (hb : (scan 0 0 l).2 = 0 ∨ (l.drop (scan 0 0 l).2).head? ≠ some 58) : readL l = ([], some (scan 0 0 l).2) := by rw [readL_step h, if_pos hb]
theorem readL_short {l : List UInt8} (h : l ≠ []) (h0 : (scan 0 0 l).2 ≠ 0) (hc : (l.drop (scan 0 0 l).2).head? = some 58) (hl : l.length = (scan 0 0 l).2 + 1) : readL l = ([], some ((scan 0 0 l).2 + 1)) := by
  rw [readL_step h, if_neg (fun e => e.elim h0 fun e => e hc), if_pos hl]
theorem readL_more {l : List UInt8} (h : l ≠ []) (h0 : (scan 0 0 l).2 ≠ 0) (hc : (l.drop (scan 0 0 l).2).head? = some 58) (hl : l.length ≠ (scan 0 0 l).2 + 1) :
    readL l = (((scan 0 0 l).1, l.getD ((scan 0 0 l).2 + 1) 0) :: (readL (l.drop ((scan 0 0 l).2 + 2))).1, (readL (l.drop ((scan 0 0 l).2 + 2))).2.map (· + ((scan 0 0 l).2 + 2))) := by
  rw [readL_step h, if_neg (fun e => e.elim h0 fun e => e hc), if_neg hl]

theorem read_run {n : Nat} (h1 : 1 ≤ n) (h2 : n ≤ 999999999) (b : UInt8) (t : List UInt8) : readL (runL (n, b) ++ t) = ((n, b) :: (readL t).1, (readL t).2.map (· + (runL (n, b)).length)) := by
  have e : runL (n, b) ++ t = digitsL n ++ 58 :: b :: t := by simp [runL]
  have hp := digits_pos n
  have hs : scan 0 0 (runL (n, b) ++ t) = (n, (digitsL n).length) := by rw [e]; exact scan_number h1 h2 _
  have hd : (runL (n, b) ++ t).drop (digitsL n).length = 58 :: b :: t := by rw [e, List.drop_left]
  have hd2 : (runL (n, b) ++ t).drop ((digitsL n).length + 2) = t := by rw [← List.drop_drop, hd]; rfl
  have hg : (runL (n, b) ++ t).getD ((digitsL n).length + 1) 0 = b := by
    rw [e, List.getD_eq_getElem?_getD, List.getElem?_append_right (by omega)]
    simp
  have hl : (runL (n, b)).length = (digitsL n).length + 2 := by simp [runL]
  rw [readL_more (by rw [e]; simp) (by rw [hs]; simp only; omega) (by rw [hs]; simp only; rw [hd]; rfl) (by rw [hs, List.length_append, hl]; simp only; omega), hs]
  simp only
  rw [hd2, hg, hl]
/-- What is written is read. -/
theorem read_write : ∀ (l : List (Nat × UInt8)) (t : List UInt8), (∀ r ∈ l, 1 ≤ r.1 ∧ r.1 ≤ 999999999) → readL (writeL l ++ t) = (l ++ (readL t).1, (readL t).2.map (· + (writeL l).length))
  | [], t, _ => by
    show readL t = ((readL t).1, (readL t).2.map fun x => x)
    simp
  | (n, b) :: l, t, h => by
    have h0 := h (n, b) (by simp)
    have ih := read_write l t (fun r hr => h r (by simp [hr]))
    rw [writeL_cons, List.append_assoc, read_run h0.1 h0.2, ih]
    simp only [Option.map_map, List.cons_append, List.length_append]
    congr 2
    funext x
    simp only [Function.comp]
    omega
theorem read_press (s t : List UInt8) (h : s.length ≤ 999999999) : readL (pressL s ++ t) = (runs s ++ (readL t).1, (readL t).2.map (· + (pressL s).length)) :=
  read_write (runs s) t fun r hr => by have := runs_mem hr; omega
theorem read_one (s : List UInt8) (h : s.length ≤ 999999999) : readL (pressL s) = (runs s, none) := by
  have := read_press s [] h
  rw [List.append_nil, readL_nil] at this
  simpa using this
theorem read_two (s t : List UInt8) (hs : s.length ≤ 999999999) (ht : t.length ≤ 999999999) : readL (pressL s ++ pressL t) = (runs s ++ runs t, none) := by
  rw [read_press s _ hs, read_one t ht]
  rfl

/-- What is read of any text: few runs, and none too long. -/
theorem read_few : ∀ (f : Nat) (l : List UInt8), l.length ≤ f → (readL l).1.length * 3 ≤ l.length ∧ ∀ r ∈ (readL l).1, 1 ≤ r.1 ∧ r.1 ≤ 999999999
  | 0, l, h => by
    have e : l = [] := List.length_eq_zero_iff.1 (by omega)
    subst e
    simp [readL_nil]
  | f + 1, l, h => by
    by_cases h0 : l = []
    · subst h0
      simp [readL_nil]
    · by_cases h1 : (scan 0 0 l).2 = 0 ∨ (l.drop (scan 0 0 l).2).head? ≠ some 58
      · rw [readL_bad h0 h1]
        simp
      · have h2 : (scan 0 0 l).2 ≠ 0 := fun e => h1 (Or.inl e)
        have h3 : (l.drop (scan 0 0 l).2).head? = some 58 := by
          rcases Decidable.em ((l.drop (scan 0 0 l).2).head? = some 58) with h | h
          · exact h
          · exact absurd (Or.inr h) h1
        by_cases h4 : l.length = (scan 0 0 l).2 + 1
        · rw [readL_short h0 h2 h3 h4]
          simp
        · rw [readL_more h0 h2 h3 h4]
          have hlen : (scan 0 0 l).2 < l.length := by
            rcases Nat.lt_or_ge (scan 0 0 l).2 l.length with h | h
            · exact h
            · rw [List.drop_eq_nil_of_le h] at h3; cases h3
          have ih := read_few f (l.drop ((scan 0 0 l).2 + 2)) (by rw [List.length_drop]; omega)
          rw [List.length_drop] at ih
          have ht := scan_digs l 0 0 digs_zero
          have hb := digs_bound ht (scan_le l 0 0 (by decide)).2.1
          have hn : (scan 0 0 l).1 ≠ 0 := fun e => h2 (ht.2.1 e)
          refine ⟨by simp only [List.length_cons]; omega, fun r hr => ?_⟩
          rcases List.mem_cons.1 hr with rfl | hr
          · simp only; omega
          · exact ih.2 r hr
theorem size_bound {l : List (Nat × UInt8)} (h : ∀ r ∈ l, 1 ≤ r.1 ∧ r.1 ≤ 999999999) : sizeL l ≤ 999999999 * l.length := by
  induction l with
  | nil => simp [sizeL]
  | cons r l ih =>
    have := ih fun x hx => h x (by simp [hx])
    have := (h r (by simp)).2
    show r.1 + sizeL l ≤ _
    rw [List.length_cons]
    omega
theorem read_bound (l : List UInt8) : 3 * sizeL (readL l).1 ≤ 999999999 * l.length := by
  have h := read_few l.length l (Nat.le_refl _)
  have := size_bound h.2
  omega

/-- An error's number and place by where something is none. -/
def placeE : Option Nat → Nat × Int
  | none => (0, -1)
  | some k => (1, k)
/-- The runs of a text, none where something in it is none. -/
def runsS (s : List UInt8) : List (Nat × UInt8) := if (readL s).2 = none then (readL s).1 else []
/-- What a text is opened to, an error's number and place. -/
def openS (s : List UInt8) (most : Int) : List UInt8 × Nat × Int :=
  if (readL s).2 ≠ none then ([], placeE (readL s).2) else if most < sizeL (readL s).1 then ([], 8, -1) else (openL (readL s).1, 0, -1)
theorem runsS_some {s : List UInt8} {k : Nat} (h : (readL s).2 = some k) : runsS s = [] := by unfold runsS; rw [h, if_neg (by simp)]
theorem runsS_none {s : List UInt8} (h : (readL s).2 = none) : runsS s = (readL s).1 := by unfold runsS; rw [h, if_pos rfl]
theorem openS_some {s : List UInt8} {k : Nat} (most : Int) (h : (readL s).2 = some k) : openS s most = ([], 1, (k : Int)) := by unfold openS; rw [h, if_pos (by simp)]; rfl
theorem openS_full {s : List UInt8} {most : Int} (h : (readL s).2 = none) (hm : most < sizeL (readL s).1) : openS s most = ([], 8, -1) := by unfold openS; rw [h, if_neg (by simp), if_pos hm]
theorem openS_fine {s : List UInt8} {most : Int} (h : (readL s).2 = none) (hm : ¬ most < sizeL (readL s).1) : openS s most = (openL (readL s).1, 0, -1) := by unfold openS; rw [h, if_neg (by simp), if_neg hm]
theorem size_runsS (s : List UInt8) : 3 * sizeL (runsS s) ≤ 999999999 * s.length := by
  unfold runsS
  split
  · exact read_bound s
  · simp [sizeL]
end Go.Proofs.YtjdbpabniaclaaaDoor
/-
  errors.Is and errors.As answer, at the errors of package api and at a *api.Fault, as their text says: contracts of the two calls, over this seat's translation.
  Conditions: the variable errors.errorType holds the handle of type error; two errors that differ lie in two unmarked blocks.
-/
namespace Go.Proofs.YtjdbpabniaclaaaDoor
open Go.RowKit Go.Extern.Stop Go.Stop Go.Extern

/-! ### errors.Is -/
theorem Tryd.isTypeOf (v : Value) (w : World) : (Extern.ReflectliteType.typeOf #[.iface 122 v]).run Tryd.prog w = .ok (.iface 97 (.agg #[.pointer (some ⟨18, 122, none⟩)])) w := by kernel_rfl
def comparableFn : Array Value → Sem Value := Extern.ReflectliteType.method fun t => do Extern.Rtype.noPackHeld "Comparable" t; pure (.bool (← typeInfo t).comparable)
theorem Tryd.isComparable (w : World) : (comparableFn #[.agg #[.pointer (some ⟨18, 122, none⟩)]]).run Tryd.prog w = .ok (.bool true) w := by kernel_rfl
theorem Tryd.isMethodComparable (v : Value) (w : World) : (Go.method 253 97 v "Comparable").run Tryd.prog w = .ok (91, v) w := by kernel_rfl
theorem Tryd.isComp : (Tryd.prog.info? 122).map (·.comparable) = some true := by kernel_rfl
theorem Tryd.isSize : (Tryd.prog.info? 141).map (·.size) = some 1 := by kernel_rfl

theorem Tryd.noIsE (v : Value) (xT : TypeId) (w : World) : (Instr.typeAssert (.iface 122 v) xT 108 true).run Tryd.prog w = .ok (.tuple #[.nilIface, .bool false]) w := run_typeAssert_lacksB Tryd.underlying108 (by kernel_rfl) (by kernel_rfl) v xT w
theorem Tryd.noAsE (v : Value) (xT : TypeId) (w : World) : (Instr.typeAssert (.iface 122 v) xT 101 true).run Tryd.prog w = .ok (.tuple #[.nilIface, .bool false]) w := run_typeAssert_lacksB Tryd.underlying101 (by kernel_rfl) (by kernel_rfl) v xT w
theorem Tryd.noUnwrapE (v : Value) (xT : TypeId) (w : World) : (Instr.typeAssert (.iface 122 v) xT 104 true).run Tryd.prog w = .ok (.tuple #[.nilIface, .bool false]) w := run_typeAssert_lacksB Tryd.underlying104 (by kernel_rfl) (by kernel_rfl) v xT w
theorem Tryd.noUnwrapsE (v : Value) (xT : TypeId) (w : World) : (Instr.typeAssert (.iface 122 v) xT 106 true).run Tryd.prog w = .ok (.tuple #[.nilIface, .bool false]) w := run_typeAssert_lacksB Tryd.underlying106 (by kernel_rfl) (by kernel_rfl) v xT w
theorem Tryd.noIsF (v : Value) (xT : TypeId) (w : World) : (Instr.typeAssert (.iface 65 v) xT 108 true).run Tryd.prog w = .ok (.tuple #[.nilIface, .bool false]) w := run_typeAssert_lacksB Tryd.underlying108 (by kernel_rfl) (by kernel_rfl) v xT w
theorem Tryd.hasUnwrapF (v : Value) (xT : TypeId) (w : World) : (Instr.typeAssert (.iface 65 v) xT 104 true).run Tryd.prog w = .ok (.tuple #[.iface 65 v, .bool true]) w := run_typeAssert_hasB Tryd.underlying104 (by kernel_rfl) v xT w
theorem Tryd.methodUnwrap (v : Value) (w : World) : (Go.method 253 65 v "Unwrap").run Tryd.prog w = .ok (85, v) w := by kernel_rfl

/-- errors.Is(x, x), x of errors.New's make. -/
theorem is_same (a : Addr) (w : World) :
    Calls Tryd.prog 38 #[.iface 122 (.pointer (some a)), .iface 122 (.pointer (some a))] w fun e w' => e = .returned (.bool true) ∧ w' = w := by
  obtain ⟨i, hi, hcmp⟩ := Option.map_eq_some_iff.1 Tryd.isComp
  obtain ⟨j, hj, hjs⟩ := Option.map_eq_some_iff.1 Tryd.isSize
  have h40 := @run_callFunc_extern Tryd.prog 49 _ Extern.ReflectliteType.typeOf Tryd.func49 (by kernel_rfl) (by kernel_rfl) (by kernel_rfl) (by kernel_rfl)
  have h90 := @run_callFunc_extern Tryd.prog 91 _ comparableFn Tryd.func91 (by kernel_rfl) (by kernel_rfl) (by kernel_rfl) (by kernel_rfl)
  have tT := Tryd.isTypeOf
  have cT := Tryd.isComparable
  have mR := Tryd.isMethodComparable
  have heq := run_eql_iface_ptr_same (P := Tryd.prog) w a Tryd.underlying25 Tryd.underlying122 hi hcmp hj
  go_enter Tryd.func38, Tryd.ntmps38
  go_wp2
  refine wp_loop_rounds 1 ?_
  rw [rounds_succ]
  go_wp2
  go_ret
  exact ⟨rfl, rfl⟩

/-- errors.Is(x, y), two different ones of errors.New's make. -/
theorem is_other (a b : Addr) (ca cb : Array Value) (ta tb : TypeId) (w : World) (hne : a ≠ b) (ha : w.heap[a.block]? = some (.cells ca ta (0, 0))) (hb : w.heap[b.block]? = some (.cells cb tb (0, 0))) :
    Calls Tryd.prog 38 #[.iface 122 (.pointer (some a)), .iface 122 (.pointer (some b))] w fun e w' => e = .returned (.bool false) ∧ w' = w := by
  obtain ⟨i, hi, hcmp⟩ := Option.map_eq_some_iff.1 Tryd.isComp
  obtain ⟨j, hj, hjs⟩ := Option.map_eq_some_iff.1 Tryd.isSize
  have h40 := @run_callFunc_extern Tryd.prog 49 _ Extern.ReflectliteType.typeOf Tryd.func49 (by kernel_rfl) (by kernel_rfl) (by kernel_rfl) (by kernel_rfl)
  have h90 := @run_callFunc_extern Tryd.prog 91 _ comparableFn Tryd.func91 (by kernel_rfl) (by kernel_rfl) (by kernel_rfl) (by kernel_rfl)
  have tT := Tryd.isTypeOf
  have cT := Tryd.isComparable
  have mR := Tryd.isMethodComparable
  have nE := Tryd.noIsE
  have uE := Tryd.noUnwrapE
  have vE := Tryd.noUnwrapsE
  have heq := run_eql_iface_ptr_other (P := Tryd.prog) w Tryd.underlying25 Tryd.underlying122 hi hcmp hj (by rw [hjs]; decide) hne ha hb
  go_enter Tryd.func38, Tryd.ntmps38
  go_wp2
  refine wp_loop_rounds 1 ?_
  rw [rounds_succ]
  go_wp2
  go_ret
  exact ⟨rfl, rfl⟩

/-- errors.Is(f, x), f a *api.Fault that bears x itself. -/
theorem is_fault_same (pb po : Nat) (b : Addr) (w : World) (h1 : w.cell? ⟨pb, po + 1, none⟩ = some (.iface 122 (.pointer (some b)))) :
    Calls Tryd.prog 38 #[.iface 65 (.pointer (some ⟨pb, po, none⟩)), .iface 122 (.pointer (some b))] w fun e w' => e = .returned (.bool true) ∧ w' = w := by
  obtain ⟨i, hi, hcmp⟩ := Option.map_eq_some_iff.1 Tryd.isComp
  obtain ⟨j, hj, hjs⟩ := Option.map_eq_some_iff.1 Tryd.isSize
  have h40 := @run_callFunc_extern Tryd.prog 49 _ Extern.ReflectliteType.typeOf Tryd.func49 (by kernel_rfl) (by kernel_rfl) (by kernel_rfl) (by kernel_rfl)
  have h90 := @run_callFunc_extern Tryd.prog 91 _ comparableFn Tryd.func91 (by kernel_rfl) (by kernel_rfl) (by kernel_rfl) (by kernel_rfl)
  have tT := Tryd.isTypeOf
  have cT := Tryd.isComparable
  have mR := Tryd.isMethodComparable
  have nW := Tryd.noIsF
  have uW := Tryd.hasUnwrapF
  have mU := Tryd.methodUnwrap
  have heq := run_eql_iface_ptr_same (P := Tryd.prog) w b Tryd.underlying25 Tryd.underlying122 hi hcmp hj
  have hty := run_eql_iface_types (P := Tryd.prog) 65 122 (.pointer (some ⟨pb, po, none⟩)) (.pointer (some b)) Tryd.underlying25 (by decide) w
  go_enter Tryd.func38, Tryd.ntmps38
  go_wp2
  refine wp_loop_rounds 2 ?_
  rw [rounds_succ]
  go_wp2
  rw [rounds_succ]
  go_wp2
  go_ret
  exact ⟨rfl, rfl⟩

/-- errors.Is(f, x), f a *api.Fault that bears another one. -/
theorem is_fault_other (pb po : Nat) (b a : Addr) (ca cb : Array Value) (ta tb : TypeId) (w : World) (h1 : w.cell? ⟨pb, po + 1, none⟩ = some (.iface 122 (.pointer (some a)))) (hne : a ≠ b) (ha : w.heap[a.block]? = some (.cells ca ta (0, 0))) (hb : w.heap[b.block]? = some (.cells cb tb (0, 0))) :
    Calls Tryd.prog 38 #[.iface 65 (.pointer (some ⟨pb, po, none⟩)), .iface 122 (.pointer (some b))] w fun e w' => e = .returned (.bool false) ∧ w' = w := by
  obtain ⟨i, hi, hcmp⟩ := Option.map_eq_some_iff.1 Tryd.isComp
  obtain ⟨j, hj, hjs⟩ := Option.map_eq_some_iff.1 Tryd.isSize
  have h40 := @run_callFunc_extern Tryd.prog 49 _ Extern.ReflectliteType.typeOf Tryd.func49 (by kernel_rfl) (by kernel_rfl) (by kernel_rfl) (by kernel_rfl)
  have h90 := @run_callFunc_extern Tryd.prog 91 _ comparableFn Tryd.func91 (by kernel_rfl) (by kernel_rfl) (by kernel_rfl) (by kernel_rfl)
  have tT := Tryd.isTypeOf
  have cT := Tryd.isComparable
  have mR := Tryd.isMethodComparable
  have nE := Tryd.noIsE
  have uE := Tryd.noUnwrapE
  have vE := Tryd.noUnwrapsE
  have nW := Tryd.noIsF
  have uW := Tryd.hasUnwrapF
  have mU := Tryd.methodUnwrap
  have heq := run_eql_iface_ptr_other (P := Tryd.prog) w Tryd.underlying25 Tryd.underlying122 hi hcmp hj (by rw [hjs]; decide) hne ha hb
  have hty := run_eql_iface_types (P := Tryd.prog) 65 122 (.pointer (some ⟨pb, po, none⟩)) (.pointer (some b)) Tryd.underlying25 (by decide) w
  go_enter Tryd.func38, Tryd.ntmps38
  go_wp2
  refine wp_loop_rounds 2 ?_
  rw [rounds_succ]
  go_wp2
  rw [rounds_succ]
  go_wp2
  go_ret
  exact ⟨rfl, rfl⟩
end Go.Proofs.YtjdbpabniaclaaaDoor
/-
  errors.As with a **api.Fault as its target answers false at an error of errors.New's make and at nil, and true at a *api.Fault, which it then stores: contracts of that call, over this seat's translation.
  Conditions: the variable errors.errorType holds the handle of type error; the target's cell is there and may be written.
-/
namespace Go.Proofs.YtjdbpabniaclaaaDoor
open Go.RowKit Go.Extern.Stop Go.Stop Go.Extern

theorem Tryd.valueOf54 (t : Addr) (w : World) : (ReflectliteValue.unpack (.iface 67 (.pointer (some t)))).run Tryd.prog w
    = .ok (.agg #[.pointer (some ⟨18, 67, none⟩), .pointer (some ⟨w.heap.size, 0, none⟩), .int .u64 150]) (w.alloc (.cells #[.pointer (some t)] 67)) := by kernel_rfl
theorem Tryd.type54 (a : Addr) (w : World) : (ReflectliteValue.methodAny (ReflectliteValue.valueError "reflectlite.Value.Type" 0) (fun t _ _ _ => ReflectliteType.toType t) #[.agg #[.pointer (some ⟨18, 67, none⟩), .pointer (some a), .int .u64 150]]).run Tryd.prog w
    = .ok (.iface 97 (.agg #[.pointer (some ⟨18, 67, none⟩)])) w := by kernel_rfl
theorem Tryd.methodKind (h : Value) (w : World) : (Go.method 253 97 (.agg #[h]) "Kind").run Tryd.prog w = .ok (80, h) w := by kernel_rfl
theorem Tryd.kind54 (w : World) : ((ReflectliteType.abiMethod fun t => (fun a : Nat => Value.int IntKind.u8 (a : Int)) <$> Rtype.kind t) #[.pointer (some ⟨18, 67, none⟩)]).run Tryd.prog w = .ok (.int .u8 22) w := by kernel_rfl
theorem Tryd.kind29 (w : World) : ((ReflectliteType.abiMethod fun t => (fun a : Nat => Value.int IntKind.u8 (a : Int)) <$> Rtype.kind t) #[.pointer (some ⟨18, 65, none⟩)]).run Tryd.prog w = .ok (.int .u8 22) w := by kernel_rfl

theorem Tryd.parts54 (a : Addr) (w : World) : (ReflectliteValue.parts (.agg #[.pointer (some ⟨18, 67, none⟩), .pointer (some a), .int .u64 150])).run Tryd.prog w = .ok (some (67, a, 150)) w := by kernel_rfl
theorem Tryd.isNil54 (a p : Addr) (W : World) (ha : W.cell? a = some (.pointer (some p))) :
    (ReflectliteValue.method (ReflectliteValue.valueError "reflectlite.Value.IsNil" 0) ReflectliteValue.isNil #[.agg #[.pointer (some ⟨18, 67, none⟩), .pointer (some a), .int .u64 150]]).run Tryd.prog W = .ok (.bool false) W := by
  rw [show ∀ (z : Sem Value) (f : TypeId → Addr → Nat → Nat → Sem Value) (v : Value), ReflectliteValue.method z f #[v] = (ReflectliteValue.parts v >>= _) from fun _ _ _ => rfl]
  simp only [Sem.run_bind, Tryd.parts54, Result.andThen]
  simp [ReflectliteValue.isNil, loadVar, isAgg, underlying, Tryd.underlying67, ha, Result.andThen]

theorem Tryd.methodElem (h : Value) (w : World) : (Go.method 253 97 (.agg #[h]) "Elem").run Tryd.prog w = .ok (92, .agg #[h]) w := by kernel_rfl
theorem Tryd.methodImplements (h : Value) (w : World) : (Go.method 253 97 (.agg #[h]) "Implements").run Tryd.prog w = .ok (93, .agg #[h]) w := by kernel_rfl
theorem Tryd.methodAssignableTo (h : Value) (w : World) : (Go.method 253 97 (.agg #[h]) "AssignableTo").run Tryd.prog w = .ok (90, .agg #[h]) w := by kernel_rfl
theorem Tryd.elem54 (w : World) : (ReflectliteType.method ReflectliteType.elem #[.agg #[.pointer (some ⟨18, 67, none⟩)]]).run Tryd.prog w = .ok (.iface 97 (.agg #[.pointer (some ⟨18, 65, none⟩)])) w := by kernel_rfl
theorem Tryd.implements29 (w : World) : (ReflectliteType.relation "Implements" ReflectliteType.implements_ #[.agg #[.pointer (some ⟨18, 65, none⟩)], .iface 97 (.agg #[.pointer (some ⟨18, 25, none⟩)])]).run Tryd.prog w = .ok (.bool true) w := by kernel_rfl
theorem Tryd.typeOf29 (v : Value) (w : World) : (ReflectliteType.typeOf #[.iface 65 v]).run Tryd.prog w = .ok (.iface 97 (.agg #[.pointer (some ⟨18, 65, none⟩)])) w := by kernel_rfl
theorem Tryd.assignable29 (w : World) : (ReflectliteType.relation "AssignableTo" ReflectliteType.assignableTo #[.agg #[.pointer (some ⟨18, 65, none⟩)], .iface 97 (.agg #[.pointer (some ⟨18, 65, none⟩)])]).run Tryd.prog w = .ok (.bool true) w := by kernel_rfl
theorem Tryd.assignable56 (w : World) : (ReflectliteType.relation "AssignableTo" ReflectliteType.assignableTo #[.agg #[.pointer (some ⟨18, 122, none⟩)], .iface 97 (.agg #[.pointer (some ⟨18, 65, none⟩)])]).run Tryd.prog w = .ok (.bool false) w := by kernel_rfl
theorem Tryd.valueOf29 (e : Addr) (w : World) : (ReflectliteValue.unpack (.iface 65 (.pointer (some e)))).run Tryd.prog w
    = .ok (.agg #[.pointer (some ⟨18, 65, none⟩), .pointer (some ⟨w.heap.size, 0, none⟩), .int .u64 150]) (w.alloc (.cells #[.pointer (some e)] 65)) := by kernel_rfl

theorem Tryd.elemOf54 (w : World) : (Rtype.elem? 67).run Tryd.prog w = .ok (some 65) w := by kernel_rfl
theorem Tryd.mk29 (p : Addr) (w : World) : (ReflectliteValue.mk 65 p ReflectliteValue.flagAddr).run Tryd.prog w = .ok (.agg #[.pointer (some ⟨18, 65, none⟩), .pointer (some p), .int .u64 406]) w := by kernel_rfl
theorem Tryd.elemV54 (a p : Addr) (W : World) (ha : W.cell? a = some (.pointer (some p))) :
    (ReflectliteValue.method (ReflectliteValue.valueError "reflectlite.Value.Elem" 0) ReflectliteValue.elem #[.agg #[.pointer (some ⟨18, 67, none⟩), .pointer (some a), .int .u64 150]]).run Tryd.prog W
      = .ok (.agg #[.pointer (some ⟨18, 65, none⟩), .pointer (some p), .int .u64 406]) W := by
  rw [show ∀ (z : Sem Value) (f : TypeId → Addr → Nat → Nat → Sem Value) (v : Value), ReflectliteValue.method z f #[v] = (ReflectliteValue.parts v >>= _) from fun _ _ _ => rfl]
  simp only [Sem.run_bind, Tryd.parts54, Result.andThen]
  simp [ReflectliteValue.elem, loadVar, isAgg, underlying, Tryd.underlying67, ha, Result.andThen, Tryd.elemOf54, Tryd.mk29]
theorem Tryd.parts29a (a : Addr) (w : World) : (ReflectliteValue.parts (.agg #[.pointer (some ⟨18, 65, none⟩), .pointer (some a), .int .u64 406])).run Tryd.prog w = .ok (some (65, a, 406)) w := by kernel_rfl
theorem Tryd.parts29 (a : Addr) (w : World) : (ReflectliteValue.parts (.agg #[.pointer (some ⟨18, 65, none⟩), .pointer (some a), .int .u64 150])).run Tryd.prog w = .ok (some (65, a, 150)) w := by kernel_rfl
theorem Tryd.direct29 (w : World) : (Rtype.directlyAssignable 65 65).run Tryd.prog w = .ok true w := by kernel_rfl
theorem Tryd.set29 (ta b e : Addr) (old : Value) (W : World) (hb : W.cell? b = some (.pointer (some e))) (ht : W.cell? ta = some old) (hf : W.frozen? ta = false) :
    (ReflectliteValue.set #[.agg #[.pointer (some ⟨18, 65, none⟩), .pointer (some ta), .int .u64 406], .agg #[.pointer (some ⟨18, 65, none⟩), .pointer (some b), .int .u64 150]]).run Tryd.prog W
      = .ok (.tuple #[]) (W.setCell ta (.pointer (some e))) := by
  rw [show ∀ v x : Value, ReflectliteValue.set #[v, x] = (ReflectliteValue.parts v >>= fun p => ReflectliteValue.parts x >>= fun q => _) from fun _ _ => rfl]
  simp only [Sem.run_bind, Tryd.parts29a, Tryd.parts29, Result.andThen]
  simp [ReflectliteValue.flagAddr, loadVar, isAgg, underlying, Tryd.underlying65, hb, Result.andThen, Tryd.direct29, storeVar, Value.cells, storeCells, Addr.add]
  rw [run_store Tryd.prog W ta _ _ (by rfl)]
  simp [ht, hf]

/-- errors.As(x, target), x of errors.New's make, target a **api.Fault: false; nothing that was there has turned. -/
theorem as_miss (e t : Addr) (w : World) (hg : w.cell? ⟨13, 0, none⟩ = some (.iface 97 (.agg #[.pointer (some ⟨18, 25, none⟩)]))) :
    Calls Tryd.prog 37 #[.iface 122 (.pointer (some e)), .iface 67 (.pointer (some t))] w fun ev w' => ev = .returned (.bool false) ∧ Below w.heap.size w w' := by
  have h36 := @run_callFunc_extern Tryd.prog 45 _ (fun args => ReflectliteValue.unpack (args.getD 0 (.tuple #[]))) Tryd.func45 (by kernel_rfl) (by kernel_rfl) (by kernel_rfl) (by kernel_rfl)
  have h37 := @run_callFunc_extern Tryd.prog 46 _ (ReflectliteValue.methodAny (ReflectliteValue.valueError "reflectlite.Value.Type" 0) (fun t _ _ _ => ReflectliteType.toType t)) Tryd.func46 (by kernel_rfl) (by kernel_rfl) (by kernel_rfl) (by kernel_rfl)
  have h38 := @run_callFunc_extern Tryd.prog 47 _ (ReflectliteValue.method (ReflectliteValue.valueError "reflectlite.Value.IsNil" 0) ReflectliteValue.isNil) Tryd.func47 (by kernel_rfl) (by kernel_rfl) (by kernel_rfl) (by kernel_rfl)
  have h78 := @run_callFunc_extern Tryd.prog 80 _ (ReflectliteType.abiMethod fun t => do pure (.int .u8 (← Rtype.kind t))) Tryd.func80 (by kernel_rfl) (by kernel_rfl) (by kernel_rfl) (by kernel_rfl)
  have h91 := @run_callFunc_extern Tryd.prog 92 _ (ReflectliteType.method ReflectliteType.elem) Tryd.func92 (by kernel_rfl) (by kernel_rfl) (by kernel_rfl) (by kernel_rfl)
  have h92 := @run_callFunc_extern Tryd.prog 93 _ (ReflectliteType.relation "Implements" ReflectliteType.implements_) Tryd.func93 (by kernel_rfl) (by kernel_rfl) (by kernel_rfl) (by kernel_rfl)
  have h40 := @run_callFunc_extern Tryd.prog 49 _ ReflectliteType.typeOf Tryd.func49 (by kernel_rfl) (by kernel_rfl) (by kernel_rfl) (by kernel_rfl)
  have h89 := @run_callFunc_extern Tryd.prog 90 _ (ReflectliteType.relation "AssignableTo" ReflectliteType.assignableTo) Tryd.func90 (by kernel_rfl) (by kernel_rfl) (by kernel_rfl) (by kernel_rfl)
  have tO := Tryd.isTypeOf
  have mA := Tryd.methodAssignableTo
  have a56 := Tryd.assignable56
  have f6 := Tryd.valueOf54
  have f7 := Tryd.type54
  have mK := Tryd.methodKind
  have mE := Tryd.methodElem
  have mI := Tryd.methodImplements
  have k54 := Tryd.kind54
  have k29 := Tryd.kind29
  have e54 := Tryd.elem54
  have i29 := Tryd.implements29
  have nE := Tryd.noAsE
  have uE := Tryd.noUnwrapE
  have vE := Tryd.noUnwrapsE
  have n8 := Tryd.isNil54 ⟨w.heap.size, 0, none⟩ t ((w.alloc (.cells #[.pointer (some t)] 67)).alloc (.cells #[.pointer (some ⟨18, 67, none⟩), .pointer (some ⟨w.heap.size, 0, none⟩), .int .u64 150] 78)) (by simp)
  have hlt : 13 < w.heap.size := by
    rcases Nat.lt_or_ge 13 w.heap.size with h | h
    · exact h
    · simp [World.cell?, Array.getElem?_eq_none h] at hg
  have hg2 : ((w.alloc (.cells #[.pointer (some t)] 67)).alloc (.cells #[.pointer (some ⟨18, 67, none⟩), .pointer (some ⟨w.heap.size, 0, none⟩), .int .u64 150] 78)).cell? ⟨13, 0, none⟩ = some (.iface 97 (.agg #[.pointer (some ⟨18, 25, none⟩)])) := by
    rw [World.cell?_alloc_lt _ _ ⟨13, 0, none⟩ (by simp; omega), World.cell?_alloc_lt _ _ ⟨13, 0, none⟩ hlt]; exact hg
  go_enter Tryd.func37, Tryd.ntmps37
  go_wp2
  refine wp_loop_rounds 1 ?_
  rw [rounds_succ]
  go_wp2
  go_ret
  exact ⟨rfl, (((Below.refl _ _).alloc (Nat.le_refl _) _).alloc (by simp) _).alloc (by simp; omega) _⟩

set_option maxHeartbeats 4000000 in
/-- errors.As(f, target), f a *api.Fault, target a **api.Fault: true; the target holds f; nothing else that was there has turned. -/
theorem as_hit (e t : Addr) (old : Value) (w : World) (hg : w.cell? ⟨13, 0, none⟩ = some (.iface 97 (.agg #[.pointer (some ⟨18, 25, none⟩)]))) (ht0 : w.cell? t = some old) (hf0 : w.frozen? t = false) :
    Calls Tryd.prog 37 #[.iface 65 (.pointer (some e)), .iface 67 (.pointer (some t))] w fun ev w' => ev = .returned (.bool true) ∧ w' = ((((w.alloc (.cells #[.pointer (some t)] 67)).alloc (.cells #[.pointer (some ⟨18, 67, none⟩), .pointer (some ⟨w.heap.size, 0, none⟩), .int .u64 150] 78)).alloc (.cells #[.pointer (some ⟨18, 67, none⟩), .pointer (some ⟨w.heap.size, 0, none⟩), .int .u64 150] 78)).alloc (.cells #[.pointer (some e)] 65)).setCell t (.pointer (some e)) := by
  have h36 := @run_callFunc_extern Tryd.prog 45 _ (fun args => ReflectliteValue.unpack (args.getD 0 (.tuple #[]))) Tryd.func45 (by kernel_rfl) (by kernel_rfl) (by kernel_rfl) (by kernel_rfl)
  have h37 := @run_callFunc_extern Tryd.prog 46 _ (ReflectliteValue.methodAny (ReflectliteValue.valueError "reflectlite.Value.Type" 0) (fun t _ _ _ => ReflectliteType.toType t)) Tryd.func46 (by kernel_rfl) (by kernel_rfl) (by kernel_rfl) (by kernel_rfl)
  have h38 := @run_callFunc_extern Tryd.prog 47 _ (ReflectliteValue.method (ReflectliteValue.valueError "reflectlite.Value.IsNil" 0) ReflectliteValue.isNil) Tryd.func47 (by kernel_rfl) (by kernel_rfl) (by kernel_rfl) (by kernel_rfl)
  have h78 := @run_callFunc_extern Tryd.prog 80 _ (ReflectliteType.abiMethod fun t => do pure (.int .u8 (← Rtype.kind t))) Tryd.func80 (by kernel_rfl) (by kernel_rfl) (by kernel_rfl) (by kernel_rfl)
  have h91 := @run_callFunc_extern Tryd.prog 92 _ (ReflectliteType.method ReflectliteType.elem) Tryd.func92 (by kernel_rfl) (by kernel_rfl) (by kernel_rfl) (by kernel_rfl)
  have h92 := @run_callFunc_extern Tryd.prog 93 _ (ReflectliteType.relation "Implements" ReflectliteType.implements_) Tryd.func93 (by kernel_rfl) (by kernel_rfl) (by kernel_rfl) (by kernel_rfl)
  have h40 := @run_callFunc_extern Tryd.prog 49 _ ReflectliteType.typeOf Tryd.func49 (by kernel_rfl) (by kernel_rfl) (by kernel_rfl) (by kernel_rfl)
  have h89 := @run_callFunc_extern Tryd.prog 90 _ (ReflectliteType.relation "AssignableTo" ReflectliteType.assignableTo) Tryd.func90 (by kernel_rfl) (by kernel_rfl) (by kernel_rfl) (by kernel_rfl)
  have h50 := @run_callFunc_extern Tryd.prog 57 _ (ReflectliteValue.method (ReflectliteValue.valueError "reflectlite.Value.Elem" 0) ReflectliteValue.elem) Tryd.func57 (by kernel_rfl) (by kernel_rfl) (by kernel_rfl) (by kernel_rfl)
  have h51 := @run_callFunc_extern Tryd.prog 58 _ ReflectliteValue.set Tryd.func58 (by kernel_rfl) (by kernel_rfl) (by kernel_rfl) (by kernel_rfl)
  have tO := Tryd.typeOf29
  have mA := Tryd.methodAssignableTo
  have a29 := Tryd.assignable29
  have v29 := Tryd.valueOf29
  have f6 := Tryd.valueOf54
  have f7 := Tryd.type54
  have mK := Tryd.methodKind
  have mE := Tryd.methodElem
  have mI := Tryd.methodImplements
  have k54 := Tryd.kind54
  have k29 := Tryd.kind29
  have e54 := Tryd.elem54
  have i29 := Tryd.implements29
  have n8 := Tryd.isNil54 ⟨w.heap.size, 0, none⟩ t ((w.alloc (.cells #[.pointer (some t)] 67)).alloc (.cells #[.pointer (some ⟨18, 67, none⟩), .pointer (some ⟨w.heap.size, 0, none⟩), .int .u64 150] 78)) (by simp)
  have hlt : 13 < w.heap.size := by
    rcases Nat.lt_or_ge 13 w.heap.size with h | h
    · exact h
    · simp [World.cell?, Array.getElem?_eq_none h] at hg
  have hg2 : ((w.alloc (.cells #[.pointer (some t)] 67)).alloc (.cells #[.pointer (some ⟨18, 67, none⟩), .pointer (some ⟨w.heap.size, 0, none⟩), .int .u64 150] 78)).cell? ⟨13, 0, none⟩ = some (.iface 97 (.agg #[.pointer (some ⟨18, 25, none⟩)])) := by
    rw [World.cell?_alloc_lt _ _ ⟨13, 0, none⟩ (by simp; omega), World.cell?_alloc_lt _ _ ⟨13, 0, none⟩ hlt]; exact hg
  have htl : t.block < w.heap.size := by
    rcases Nat.lt_or_ge t.block w.heap.size with h | h
    · exact h
    · simp [World.cell?, Array.getElem?_eq_none h] at ht0
  have el := Tryd.elemV54 ⟨w.heap.size, 0, none⟩ t (((w.alloc (.cells #[.pointer (some t)] 67)).alloc (.cells #[.pointer (some ⟨18, 67, none⟩), .pointer (some ⟨w.heap.size, 0, none⟩), .int .u64 150] 78)).alloc (.cells #[.pointer (some ⟨18, 67, none⟩), .pointer (some ⟨w.heap.size, 0, none⟩), .int .u64 150] 78)) (by rw [World.cell?_alloc_lt _ _ ⟨w.heap.size, 0, none⟩ (by simp; omega)]; simp)
  have st := Tryd.set29 t ⟨w.heap.size + 1 + 1 + 1, 0, none⟩ e old ((((w.alloc (.cells #[.pointer (some t)] 67)).alloc (.cells #[.pointer (some ⟨18, 67, none⟩), .pointer (some ⟨w.heap.size, 0, none⟩), .int .u64 150] 78)).alloc (.cells #[.pointer (some ⟨18, 67, none⟩), .pointer (some ⟨w.heap.size, 0, none⟩), .int .u64 150] 78)).alloc (.cells #[.pointer (some e)] 65))
    (by rw [World.cell?_alloc_at _ _ _ _ (by simp)]; rfl)
    (by rw [World.cell?_alloc_lt _ _ t (by simp; omega), World.cell?_alloc_lt _ _ t (by simp; omega), World.cell?_alloc_lt _ _ t (by simp; omega), World.cell?_alloc_lt _ _ t htl]; exact ht0)
    (by rw [World.frozen?_alloc_old _ _ t (by simp; omega), World.frozen?_alloc_old _ _ t (by simp; omega), World.frozen?_alloc_old _ _ t (by simp; omega), World.frozen?_alloc_old _ _ t (Nat.ne_of_lt htl)]; exact hf0)
  go_enter Tryd.func37, Tryd.ntmps37
  go_wp2
  refine wp_loop_rounds 1 ?_
  rw [rounds_succ]
  go_wp2
  go_ret
  exact ⟨rfl, rfl⟩
end Go.Proofs.YtjdbpabniaclaaaDoor
/-
  plain.Code tells each error of package api by its number, with the place of a *api.Fault that bears it; nil is 0 and any other error of errors.New's make is -1: contracts of that call, over this seat's translation.
  Conditions: the variables hold what the rows list (Env).
-/
namespace Go.Proofs.YtjdbpabniaclaaaDoor
open Go.RowKit Go.Extern.Stop Go.Stop Go.Extern

/-- What a walk wants of the listed variables: the thirteen errors at thirteen addresses, unmarked, and the handle of type error. -/
structure Env (p : Nat → Addr) (w : World) : Prop where
  s0 : w.cell? ⟨1, 0, none⟩ = some (.iface 122 (.pointer (some (p 0))))
  s1 : w.cell? ⟨2, 0, none⟩ = some (.iface 122 (.pointer (some (p 1))))
  s2 : w.cell? ⟨3, 0, none⟩ = some (.iface 122 (.pointer (some (p 2))))
  s3 : w.cell? ⟨4, 0, none⟩ = some (.iface 122 (.pointer (some (p 3))))
  s4 : w.cell? ⟨5, 0, none⟩ = some (.iface 122 (.pointer (some (p 4))))
  s5 : w.cell? ⟨6, 0, none⟩ = some (.iface 122 (.pointer (some (p 5))))
  s6 : w.cell? ⟨7, 0, none⟩ = some (.iface 122 (.pointer (some (p 6))))
  s7 : w.cell? ⟨0, 0, none⟩ = some (.iface 122 (.pointer (some (p 7))))
  s8 : w.cell? ⟨8, 0, none⟩ = some (.iface 122 (.pointer (some (p 8))))
  s9 : w.cell? ⟨9, 0, none⟩ = some (.iface 122 (.pointer (some (p 9))))
  s10 : w.cell? ⟨10, 0, none⟩ = some (.iface 122 (.pointer (some (p 10))))
  s11 : w.cell? ⟨11, 0, none⟩ = some (.iface 122 (.pointer (some (p 11))))
  s12 : w.cell? ⟨12, 0, none⟩ = some (.iface 122 (.pointer (some (p 12))))
  handle : w.cell? ⟨13, 0, none⟩ = some (.iface 97 (.agg #[.pointer (some ⟨18, 25, none⟩)]))
  rows : ∀ k, k < 13 → ∃ c t, w.heap[(p k).block]? = some (.cells c t (0, 0))
  inj : ∀ k l, k < 13 → l < 13 → p k = p l → k = l

theorem block_lt_of_cell {w : World} {a : Addr} {v : Value} (h : w.cell? a = some v) : a.block < w.heap.size := by
  rcases Nat.lt_or_ge a.block w.heap.size with h' | h'
  · exact h'
  · simp [World.cell?, Array.getElem?_eq_none h'] at h

theorem Env.below {p : Nat → Addr} {w w' : World} (E : Env p w) (hb : Below w.heap.size w w') : Env p w' where
  s0 := (hb.cell (p := ⟨1, 0, none⟩) (block_lt_of_cell E.s0)).trans E.s0
  s1 := (hb.cell (p := ⟨2, 0, none⟩) (block_lt_of_cell E.s1)).trans E.s1
  s2 := (hb.cell (p := ⟨3, 0, none⟩) (block_lt_of_cell E.s2)).trans E.s2
  s3 := (hb.cell (p := ⟨4, 0, none⟩) (block_lt_of_cell E.s3)).trans E.s3
  s4 := (hb.cell (p := ⟨5, 0, none⟩) (block_lt_of_cell E.s4)).trans E.s4
  s5 := (hb.cell (p := ⟨6, 0, none⟩) (block_lt_of_cell E.s5)).trans E.s5
  s6 := (hb.cell (p := ⟨7, 0, none⟩) (block_lt_of_cell E.s6)).trans E.s6
  s7 := (hb.cell (p := ⟨0, 0, none⟩) (block_lt_of_cell E.s7)).trans E.s7
  s8 := (hb.cell (p := ⟨8, 0, none⟩) (block_lt_of_cell E.s8)).trans E.s8
  s9 := (hb.cell (p := ⟨9, 0, none⟩) (block_lt_of_cell E.s9)).trans E.s9
  s10 := (hb.cell (p := ⟨10, 0, none⟩) (block_lt_of_cell E.s10)).trans E.s10
  s11 := (hb.cell (p := ⟨11, 0, none⟩) (block_lt_of_cell E.s11)).trans E.s11
  s12 := (hb.cell (p := ⟨12, 0, none⟩) (block_lt_of_cell E.s12)).trans E.s12
  handle := (hb.cell (p := ⟨13, 0, none⟩) (block_lt_of_cell E.handle)).trans E.handle
  rows k hk := by
    obtain ⟨c, t, h⟩ := E.rows k hk
    exact ⟨c, t, (hb.block _ (Array.getElem?_eq_some_iff.1 h).1).trans h⟩
  inj := E.inj

/-- The number of the error at place j (13: none of them). -/
def codeOf (j : Nat) : Int := if j < 13 then (j : Int) + 1 else -1

theorem codeOf_lt {j : Nat} (h : j < 13) : (j : Int) + 1 = codeOf j := by simp [codeOf, h]

theorem code_nil (w : World) : Calls Tryd.prog 26 #[.nilIface] w fun e w' => e = .returned (.tuple #[.int .i64 0, .int .i64 (-1)]) ∧ w' = w := by
  go_enter Tryd.func26, Tryd.ntmps26
  go_wp2
  go_ret2
  exact ⟨rfl, rfl⟩

theorem sent_cells (p : Nat → Addr) (w : World) (k : Nat) (h : k < 13) : (w.alloc (.cells #[.iface 122 (.pointer (some (p 0))), .iface 122 (.pointer (some (p 1))), .iface 122 (.pointer (some (p 2))), .iface 122 (.pointer (some (p 3))), .iface 122 (.pointer (some (p 4))), .iface 122 (.pointer (some (p 5))), .iface 122 (.pointer (some (p 6))), .iface 122 (.pointer (some (p 7))), .iface 122 (.pointer (some (p 8))), .iface 122 (.pointer (some (p 9))), .iface 122 (.pointer (some (p 10))), .iface 122 (.pointer (some (p 11))), .iface 122 (.pointer (some (p 12)))] 25)).cell? ⟨w.heap.size, k, none⟩ = some (.iface 122 (.pointer (some (p k)))) := by
  rw [World.cell?_alloc_at _ _ _ _ rfl]
  have h' : k = 0 ∨ k = 1 ∨ k = 2 ∨ k = 3 ∨ k = 4 ∨ k = 5 ∨ k = 6 ∨ k = 7 ∨ k = 8 ∨ k = 9 ∨ k = 10 ∨ k = 11 ∨ k = 12 := by omega
  rcases h' with rfl | rfl | rfl | rfl | rfl | rfl | rfl | rfl | rfl | rfl | rfl | rfl | rfl <;> rfl

set_option maxHeartbeats 1000000 in
/-- Code of an error of errors.New's make. -/
theorem code_str (p : Nat → Addr) (j : Nat) (a : Addr) (ca : Array Value) (ta : TypeId) (w : World) (E : Env p w) (ha : w.heap[a.block]? = some (.cells ca ta (0, 0))) (hj : j ≤ 13) (hp : ∀ k, k < 13 → (a = p k ↔ k = j)) :
    Calls Tryd.prog 26 #[.iface 122 (.pointer (some a))] w fun e w' => e = .returned (.tuple #[.int .i64 (codeOf j), .int .i64 (-1)]) ∧ Below w.heap.size w w' := by
  have hal : a.block < w.heap.size := (Array.getElem?_eq_some_iff.1 ha).1
  have E0 : Env p (w.alloc (.cells #[.pointer none] 65)) := E.below ((Below.refl _ _).alloc (Nat.le_refl _) _)
  have HE : Hid (Env p w) := E
  have HE0 : Hid (Env p (w.alloc (.cells #[.pointer none] 65))) := E0
  have HP : Hid (∀ k, k < 13 → (a = p k ↔ k = j)) := hp
  have HA : Hid (w.heap[a.block]? = some (.cells ca ta (0, 0))) := ha
  clear E E0 hp ha
  go_enter Tryd.func26, Tryd.ntmps26
  go_wp2_with fail
  refine (as_miss _ _ _ HE0.out.handle).mono ?_
  rintro e w1 ⟨rfl, hb1⟩
  have E1 := HE0.out.below hb1
  have g0 := E1.s0
  have g1 := E1.s1
  have g2 := E1.s2
  have g3 := E1.s3
  have g4 := E1.s4
  have g5 := E1.s5
  have g6 := E1.s6
  have g7 := E1.s7
  have g8 := E1.s8
  have g9 := E1.s9
  have g10 := E1.s10
  have g11 := E1.s11
  have g12 := E1.s12
  have HE1 : Hid (Env p w1) := E1
  have HB1 : Hid (Below (w.alloc (.cells #[.pointer none] 65)).heap.size (w.alloc (.cells #[.pointer none] 65)) w1) := hb1
  clear E1 hb1
  go_wp2_with fail
  clear g0 g1 g2 g3 g4 g5 g6 g7 g8 g9 g10 g11 g12
  have hc := sent_cells p w1
  have hB2 : Below w1.heap.size w1 (w1.alloc (.cells #[.iface 122 (.pointer (some (p 0))), .iface 122 (.pointer (some (p 1))), .iface 122 (.pointer (some (p 2))), .iface 122 (.pointer (some (p 3))), .iface 122 (.pointer (some (p 4))), .iface 122 (.pointer (some (p 5))), .iface 122 (.pointer (some (p 6))), .iface 122 (.pointer (some (p 7))), .iface 122 (.pointer (some (p 8))), .iface 122 (.pointer (some (p 9))), .iface 122 (.pointer (some (p 10))), .iface 122 (.pointer (some (p 11))), .iface 122 (.pointer (some (p 12)))] 25)) := (Below.refl _ _).alloc (Nat.le_refl _) _
  generalize w1.alloc (.cells #[.iface 122 (.pointer (some (p 0))), .iface 122 (.pointer (some (p 1))), .iface 122 (.pointer (some (p 2))), .iface 122 (.pointer (some (p 3))), .iface 122 (.pointer (some (p 4))), .iface 122 (.pointer (some (p 5))), .iface 122 (.pointer (some (p 6))), .iface 122 (.pointer (some (p 7))), .iface 122 (.pointer (some (p 8))), .iface 122 (.pointer (some (p 9))), .iface 122 (.pointer (some (p 10))), .iface 122 (.pointer (some (p 11))), .iface 122 (.pointer (some (p 12)))] 25) = W2 at hc hB2 ⊢
  have hsz : w.heap.size + 1 ≤ w1.heap.size := by have := HB1.out.size; simpa using this
  have hBw : Below w.heap.size w W2 := (((Below.refl _ w).alloc (Nat.le_refl _) (.cells #[.pointer none] 65)).trans (HB1.out.mono (by simp))).trans (hB2.mono (by omega))
  have HBW : Hid (Below w.heap.size w W2) := hBw
  have HC : Hid (∀ k, k < 13 → W2.cell? ⟨w1.heap.size, k, none⟩ = some (.iface 122 (.pointer (some (p k))))) := hc
  have HE2 : Hid (Env p W2) := HE.out.below hBw
  have HA2 : Hid (W2.heap[a.block]? = some (.cells ca ta (0, 0))) := (hBw.block _ hal).trans HA.out
  clear hc hB2 hBw HB1 HE1 HE0 HE HA
  go_loop [3, 31] (fun t i => ∃ k : Nat, k ≤ 13 ∧ k ≤ j ∧ t = .int .i64 (-1) ∧ i = .int .i64 k) (fun _ i => 13 - (intOf i).toNat)
  case atStart => exact ⟨0, by omega, by omega, rfl, rfl⟩
  case round =>
    obtain ⟨k, hk, hkj, rfl, rfl⟩ := hrel
    by_cases hlt : k < 13
    · have hck := HC.out k hlt
      obtain ⟨cb, tb, hrow⟩ := HE2.out.rows k hlt
      have HR : Hid (W2.heap[(p k).block]? = some (.cells cb tb (0, 0))) := hrow
      clear hrow
      by_cases hkj2 : k = j
      · subst hkj2
        have hpa : a = p k := (HP.out k hlt).2 rfl
        subst hpa
        go_wp2_with fail
        refine (is_same _ _).mono ?_
        rintro e w' ⟨rfl, rfl⟩
        go_wp2
        go_ret2
        exact ⟨by rw [codeOf_lt hlt]; rfl, HBW.out⟩
      · have hpa : a ≠ p k := fun h => hkj2 ((HP.out k hlt).1 h)
        have HN : Hid (a ≠ p k) := hpa
        clear hpa
        go_wp2_with fail
        refine (is_other _ _ _ _ _ _ _ HN.out HA2.out HR.out).mono ?_
        rintro e w' ⟨rfl, rfl⟩
        go_wp2
        go_round
        case rel => exact ⟨k + 1, by omega, by omega, rfl, by go_num⟩
        case measure => simp [intOf]; omega
    · go_wp2
      go_ret2
      have hj13 : ¬ j < 13 := by omega
      exact ⟨by simp [codeOf, hj13], HBW.out⟩

set_option maxHeartbeats 1000000 in
/-- Code of a *api.Fault that bears one of the thirteen. -/
theorem code_fault (p : Nat → Addr) (j : Nat) (pb po : Nat) (n : Int) (w : World) (E : Env p w) (hj : j < 13) (h0 : w.cell? ⟨pb, po, none⟩ = some (.int .i64 n)) (h1 : w.cell? ⟨pb, po + 1, none⟩ = some (.iface 122 (.pointer (some (p j))))) :
    Calls Tryd.prog 26 #[.iface 65 (.pointer (some ⟨pb, po, none⟩))] w fun e w' => e = .returned (.tuple #[.int .i64 (codeOf j), .int .i64 n]) ∧ Below w.heap.size w w' := by
  have hpb : pb < w.heap.size := block_lt_of_cell h0
  have E0 : Env p (w.alloc (.cells #[.pointer none] 65)) := E.below ((Below.refl _ _).alloc (Nat.le_refl _) _)
  have HE : Hid (Env p w) := E
  have HE0 : Hid (Env p (w.alloc (.cells #[.pointer none] 65))) := E0
  have HX0 : Hid (w.cell? ⟨pb, po, none⟩ = some (.int .i64 n)) := h0
  have HX1 : Hid (w.cell? ⟨pb, po + 1, none⟩ = some (.iface 122 (.pointer (some (p j))))) := h1
  clear E E0 h0 h1
  go_enter Tryd.func26, Tryd.ntmps26
  go_wp2_with fail
  refine (as_hit ⟨pb, po, none⟩ ⟨w.heap.size, 0, none⟩ (.pointer none) (w.alloc (.cells #[.pointer none] 65)) HE0.out.handle (by simp) (by simp)).mono ?_
  rintro e w1 ⟨rfl, hw1⟩
  have hcf : w1.cell? ⟨w.heap.size, 0, none⟩ = some (.pointer (some ⟨pb, po, none⟩)) := by
    rw [hw1, World.cell?_setCell_same']
    rw [World.cell?_alloc_lt _ _ _ (by simp; omega), World.cell?_alloc_lt _ _ _ (by simp; omega), World.cell?_alloc_lt _ _ _ (by simp; omega), World.cell?_alloc_lt _ _ _ (by simp)]
    simp
  have hb1 : Below w.heap.size w w1 := by
    rw [hw1]
    exact ((((((Below.refl _ _).alloc (Nat.le_refl _) _).alloc (by simp) _).alloc (by simp; omega) _).alloc (by simp; omega) _).alloc (by simp; omega) _).setCell (Nat.le_refl _) _
  clear hw1
  have E1 := HE.out.below hb1
  have g0 := E1.s0
  have g1 := E1.s1
  have g2 := E1.s2
  have g3 := E1.s3
  have g4 := E1.s4
  have g5 := E1.s5
  have g6 := E1.s6
  have g7 := E1.s7
  have g8 := E1.s8
  have g9 := E1.s9
  have g10 := E1.s10
  have g11 := E1.s11
  have g12 := E1.s12
  have hx0 : w1.cell? ⟨pb, po, none⟩ = some (.int .i64 n) := (hb1.cell (p := ⟨pb, po, none⟩) hpb).trans HX0.out
  have HE1 : Hid (Env p w1) := E1
  have HB1 : Hid (Below w.heap.size w w1) := hb1
  clear E1 hb1
  go_wp2_with fail
  clear g0 g1 g2 g3 g4 g5 g6 g7 g8 g9 g10 g11 g12
  have hc := sent_cells p w1
  have hB2 : Below w1.heap.size w1 (w1.alloc (.cells #[.iface 122 (.pointer (some (p 0))), .iface 122 (.pointer (some (p 1))), .iface 122 (.pointer (some (p 2))), .iface 122 (.pointer (some (p 3))), .iface 122 (.pointer (some (p 4))), .iface 122 (.pointer (some (p 5))), .iface 122 (.pointer (some (p 6))), .iface 122 (.pointer (some (p 7))), .iface 122 (.pointer (some (p 8))), .iface 122 (.pointer (some (p 9))), .iface 122 (.pointer (some (p 10))), .iface 122 (.pointer (some (p 11))), .iface 122 (.pointer (some (p 12)))] 25)) := (Below.refl _ _).alloc (Nat.le_refl _) _
  generalize w1.alloc (.cells #[.iface 122 (.pointer (some (p 0))), .iface 122 (.pointer (some (p 1))), .iface 122 (.pointer (some (p 2))), .iface 122 (.pointer (some (p 3))), .iface 122 (.pointer (some (p 4))), .iface 122 (.pointer (some (p 5))), .iface 122 (.pointer (some (p 6))), .iface 122 (.pointer (some (p 7))), .iface 122 (.pointer (some (p 8))), .iface 122 (.pointer (some (p 9))), .iface 122 (.pointer (some (p 10))), .iface 122 (.pointer (some (p 11))), .iface 122 (.pointer (some (p 12)))] 25) = W2 at hc hB2 ⊢
  have hsz : w.heap.size ≤ w1.heap.size := HB1.out.size
  have hBw : Below w.heap.size w W2 := HB1.out.trans (hB2.mono hsz)
  have HBW : Hid (Below w.heap.size w W2) := hBw
  have HC : Hid (∀ k, k < 13 → W2.cell? ⟨w1.heap.size, k, none⟩ = some (.iface 122 (.pointer (some (p k))))) := hc
  have HE2 : Hid (Env p W2) := HE.out.below hBw
  have HX2 : Hid (W2.cell? ⟨pb, po + 1, none⟩ = some (.iface 122 (.pointer (some (p j))))) := (hBw.cell (p := ⟨pb, po + 1, none⟩) hpb).trans HX1.out
  clear hc hB2 hBw HB1 HE1 HE0 HE HX0 HX1 hx0 hcf
  go_loop [3, 31] (fun t i => ∃ k : Nat, k ≤ j ∧ t = .int .i64 n ∧ i = .int .i64 k) (fun _ i => 13 - (intOf i).toNat)
  case atStart => exact ⟨0, by omega, rfl, rfl⟩
  case round =>
    obtain ⟨k, hkj, rfl, rfl⟩ := hrel
    have hlt : k < 13 := by omega
    have hck := HC.out k hlt
    obtain ⟨cb, tb, hrow⟩ := HE2.out.rows k hlt
    have HR : Hid (W2.heap[(p k).block]? = some (.cells cb tb (0, 0))) := hrow
    obtain ⟨ca, ta, hrowj⟩ := HE2.out.rows j hj
    have HJ : Hid (W2.heap[(p j).block]? = some (.cells ca ta (0, 0))) := hrowj
    clear hrow hrowj
    by_cases hkj2 : k = j
    · subst hkj2
      go_wp2_with fail
      refine (is_fault_same _ _ _ _ HX2.out).mono ?_
      rintro e w' ⟨rfl, rfl⟩
      go_wp2
      go_ret2
      exact ⟨by rw [codeOf_lt hlt]; rfl, HBW.out⟩
    · have HN : Hid (p j ≠ p k) := fun h => hkj2 (HE2.out.inj j k hj hlt h).symm
      have hlj : k < j := by omega
      clear hkj2
      go_wp2_with fail
      refine (is_fault_other _ _ _ _ _ _ _ _ _ HX2.out HN.out HJ.out HR.out).mono ?_
      rintro e w' ⟨rfl, rfl⟩
      go_wp2
      go_round
      case rel => exact ⟨k + 1, by omega, rfl, by go_num⟩
      case measure => simp [intOf]; omega
end Go.Proofs.YtjdbpabniaclaaaDoor
/-
  The law package's coded, told of any error of plain.Code, over this seat's translation.
-/
namespace Go.Proofs.YtjdbpabniaclaaaDoor
open Go.RowKit Go.Extern.Stop Go.Stop Go.Extern

theorem code_sent (p : Nat → Addr) (j : Nat) (w : World) (E : Env p w) (hj : j < 13) :
    Calls Tryd.prog 26 #[.iface 122 (.pointer (some (p j)))] w fun e w' => e = .returned (.tuple #[.int .i64 ((j : Int) + 1), .int .i64 (-1)]) ∧ Below w.heap.size w w' := by
  obtain ⟨c, t, h⟩ := E.rows j hj
  have := code_str p j (p j) c t w E h (Nat.le_of_lt hj) (fun k hk => ⟨fun e => (E.inj j k hj hk e).symm, fun e => by rw [e]⟩)
  rwa [← codeOf_lt hj] at this

theorem code_flaw (p : Nat → Addr) (j : Nat) (pb po : Nat) (n : Int) (w : World) (E : Env p w) (hj : j < 13) (h0 : w.cell? ⟨pb, po, none⟩ = some (.int .i64 n)) (h1 : w.cell? ⟨pb, po + 1, none⟩ = some (.iface 122 (.pointer (some (p j))))) :
    Calls Tryd.prog 26 #[.iface 65 (.pointer (some ⟨pb, po, none⟩))] w fun e w' => e = .returned (.tuple #[.int .i64 ((j : Int) + 1), .int .i64 n]) ∧ Below w.heap.size w w' := by
  have := code_fault p j pb po n w E hj h0 h1
  rwa [← codeOf_lt hj] at this

theorem code_another (p : Nat → Addr) (a : Addr) (ca : Array Value) (ta : TypeId) (w : World) (E : Env p w) (ha : w.heap[a.block]? = some (.cells ca ta (0, 0))) (hp : ∀ k, k < 13 → a ≠ p k) :
    Calls Tryd.prog 26 #[.iface 122 (.pointer (some a))] w fun e w' => e = .returned (.tuple #[.int .i64 (-1), .int .i64 (-1)]) ∧ Below w.heap.size w w' :=
  code_str p 13 a ca ta w E ha (Nat.le_refl _) (fun k hk => ⟨fun e => absurd e (hp k hk), fun e => by omega⟩)

/-- coded(err, code), where Code tells this number and no place. -/
theorem coded_yes (e : Value) (c : Int) (w : World) (h : Calls Tryd.prog 26 #[e] w fun e w' => e = .returned (.tuple #[.int .i64 c, .int .i64 (-1)]) ∧ Below w.heap.size w w') :
    Calls Tryd.prog 9 #[e, .int .i64 c] w fun e w' => e = .returned (.bool true) ∧ Below w.heap.size w w' := by
  have H : Hid (Calls Tryd.prog 26 #[e] w fun e w' => e = .returned (.tuple #[.int .i64 c, .int .i64 (-1)]) ∧ Below w.heap.size w w') := h
  clear h
  go_enter Tryd.func9, Tryd.ntmps9
  go_wp2_with fail
  refine H.out.mono ?_
  rintro e w1 ⟨rfl, hb⟩
  have HB : Hid (Below w.heap.size w w1) := hb
  clear hb
  go_wp2
  go_ret
  exact ⟨rfl, HB.out⟩

/-- coded(err, code), where Code tells another number. -/
theorem coded_no (e : Value) (c d : Int) (n : Int) (w : World) (hne : c ≠ d) (h : Calls Tryd.prog 26 #[e] w fun e w' => e = .returned (.tuple #[.int .i64 c, .int .i64 n]) ∧ Below w.heap.size w w') :
    Calls Tryd.prog 9 #[e, .int .i64 d] w fun e w' => e = .returned (.bool false) ∧ Below w.heap.size w w' := by
  have H : Hid (Calls Tryd.prog 26 #[e] w fun e w' => e = .returned (.tuple #[.int .i64 c, .int .i64 n]) ∧ Below w.heap.size w w') := h
  have hcd : (c == d) = false := by simpa using hne
  clear h hne
  go_enter Tryd.func9, Tryd.ntmps9
  go_wp2_with fail
  refine H.out.mono ?_
  rintro e w1 ⟨rfl, hb⟩
  have HB : Hid (Below w.heap.size w w1) := hb
  clear hb
  go_wp2
  go_ret
  exact ⟨rfl, HB.out⟩

theorem coded_nil (w : World) : Calls Tryd.prog 9 #[.nilIface, .int .i64 0] w fun e w' => e = .returned (.bool true) ∧ Below w.heap.size w w' :=
  coded_yes .nilIface 0 w ((code_nil w).mono fun _ _ ⟨h, h'⟩ => ⟨h, by rw [h']; exact Below.refl _ _⟩)
end Go.Proofs.YtjdbpabniaclaaaDoor
/-
  A struct result's two cells: over this seat's translation.
-/
namespace Go.Proofs.YtjdbpabniaclaaaDoor
open Go.RowKit

theorem heap_new (w : World) (o : Obj) : (w.alloc o).heap[w.heap.size]? = some o := by
  show (w.heap.push o)[w.heap.size]? = _
  simp

/-- A result's own two cells, still as they were laid. -/
theorem slot_two {w wr : World} {u v : Value} {T : TypeId} (h : Below (w.heap.size + 1) (w.alloc (.cells #[u, v] T)) wr) :
    wr.cell? ⟨w.heap.size, 0, none⟩ = some u ∧ wr.cell? ⟨w.heap.size, 1, none⟩ = some v ∧ wr.frozen? ⟨w.heap.size, 0, none⟩ = false ∧ wr.frozen? ⟨w.heap.size, 1, none⟩ = false ∧ Below w.heap.size w wr := by
  have e := h.block w.heap.size (Nat.lt_succ_self _)
  have e' : (w.alloc (.cells #[u, v] T)).heap[w.heap.size]? = some (.cells #[u, v] T) := heap_new w _
  rw [e'] at e
  refine ⟨by simp [World.cell?, e], by simp [World.cell?, e], by simp [World.frozen?, e], by simp [World.frozen?, e], ?_⟩
  exact ((Below.refl _ _).alloc (Nat.le_refl _) _).trans (h.mono (by omega))

theorem slot_set {w wr : World} {b : Nat} {u v : Value} (x y : Value) (h0 : wr.cell? ⟨b, 0, none⟩ = some u) (h1 : wr.cell? ⟨b, 1, none⟩ = some v) (hb : Below b w wr) :
    (wr.setCell ⟨b, 0, none⟩ x).cell? ⟨b, 0, none⟩ = some x ∧ ((wr.setCell ⟨b, 0, none⟩ x).setCell ⟨b, 1, none⟩ y).cell? ⟨b, 1, none⟩ = some y ∧ Below b w ((wr.setCell ⟨b, 0, none⟩ x).setCell ⟨b, 1, none⟩ y) := by
  refine ⟨World.cell?_setCell_same' _ _ _ (by rw [h0]; rfl), World.cell?_setCell_same' _ _ _ ?_, (hb.setCell (p := ⟨b, 0, none⟩) (Nat.le_refl _) _).setCell (p := ⟨b, 1, none⟩) (Nat.le_refl _) _⟩
  rw [World.cell?_setCell_other (h := by simp), h1]
  rfl

theorem slot_setN {w wr : World} {b : Nat} {u v : Value} (x y : Value) (h0 : wr.cell? ⟨b, 0, none⟩ = some u) (h1 : wr.cell? ⟨b, 1, none⟩ = some v) (hb : Below b w wr) (n : Nat) :
    ((wr.drewN n).setCell ⟨b, 0, none⟩ x).cell? ⟨b, 0, none⟩ = some x ∧ (((wr.drewN n).setCell ⟨b, 0, none⟩ x).setCell ⟨b, 1, none⟩ y).cell? ⟨b, 1, none⟩ = some y ∧ Below b w (((wr.drewN n).setCell ⟨b, 0, none⟩ x).setCell ⟨b, 1, none⟩ y) :=
  slot_set (wr := wr.drewN n) x y h0 h1 (below_drewN hb n)
end Go.Proofs.YtjdbpabniaclaaaDoor
/-
  The law package's faulted: over this seat's translation.
-/
namespace Go.Proofs.YtjdbpabniaclaaaDoor
open Go.RowKit

set_option maxRecDepth 100000 in
theorem faulted_yes (e : Value) (c n : Int) (w : World) (h : ∀ w1, Below w.heap.size w w1 → Calls Tryd.prog 26 #[e] w1 fun e w' => e = .returned (.tuple #[.int .i64 c, .int .i64 n]) ∧ Below w1.heap.size w1 w') :
    Calls Tryd.prog 12 #[e, .agg #[.int .i64 c, .int .i64 n]] w fun e w' => e = .returned (.bool true) ∧ Below w.heap.size w w' := by
  have H : Hid (∀ w1, Below w.heap.size w w1 → Calls Tryd.prog 26 #[e] w1 fun e w' => e = .returned (.tuple #[.int .i64 c, .int .i64 n]) ∧ Below w1.heap.size w1 w') := h
  clear h
  by_cases hc : c = 0
  · subst hc
    go_enter Tryd.func12, Tryd.ntmps12
    go_wp2_with fail
    refine (H.out _ ((Below.refl _ _).alloc (Nat.le_refl _) _)).mono ?_
    rintro e1 w1 ⟨rfl, hb1⟩
    obtain ⟨s0, s1, s2, s3, s4⟩ := slot_two (w := w) (hb1.mono (by simp))
    have HB : Hid (Below w.heap.size w w1) := s4
    clear hb1 s4
    go_wp2
    go_ret
    exact ⟨rfl, HB.out⟩
  · have hc' : (c == 0) = false := by simpa using hc
    go_enter Tryd.func12, Tryd.ntmps12
    go_wp2_with fail
    refine (H.out _ ((Below.refl _ _).alloc (Nat.le_refl _) _)).mono ?_
    rintro e1 w1 ⟨rfl, hb1⟩
    obtain ⟨s0, s1, s2, s3, s4⟩ := slot_two (w := w) (hb1.mono (by simp))
    have HB : Hid (Below w.heap.size w w1) := s4
    clear hb1 s4
    go_wp2
    go_ret
    exact ⟨rfl, HB.out⟩
end Go.Proofs.YtjdbpabniaclaaaDoor
/-
  The value of an error by its number: over this seat's translation.
-/
namespace Go.Proofs.YtjdbpabniaclaaaDoor

/-- The error of a number. -/
def errV (p : Nat → Addr) (c : Nat) : Value := if c = 0 then .nilIface else .iface 122 (.pointer (some (p (c - 1))))
theorem errV_zero (p : Nat → Addr) : errV p 0 = .nilIface := rfl
theorem errV_some (p : Nat → Addr) {k : Nat} (h : k ≠ 0) : errV p k = .iface 122 (.pointer (some (p (k - 1)))) := by simp [errV, h]
end Go.Proofs.YtjdbpabniaclaaaDoor
/-
  The law package's coded, told of an error by its number, over this seat's translation.
-/
namespace Go.Proofs.YtjdbpabniaclaaaDoor
open Go.RowKit

/-- coded(err, code) of one of the thirteen. -/
theorem coded_sent (p : Nat → Addr) (j : Nat) (c : Int) (w : World) (hE : Env p w) (hj : j < 13) (hc : (j : Int) + 1 = c) :
    Calls Tryd.prog 9 #[.iface 122 (.pointer (some (p j))), .int .i64 c] w fun e w' => e = .returned (.bool true) ∧ Below w.heap.size w w' := by
  subst hc
  exact coded_yes _ _ _ (code_sent p j w hE hj)

theorem coded_errV (p : Nat → Addr) (c : Nat) (w : World) (hE : Env p w) (hc : c ≤ 13) :
    Calls Tryd.prog 9 #[errV p c, .int .i64 c] w fun e w' => e = .returned (.bool true) ∧ Below w.heap.size w w' := by
  cases c with
  | zero => exact coded_nil w
  | succ k => exact coded_sent p k ((k + 1 : Nat) : Int) w hE (by omega) (by omega)
end Go.Proofs.YtjdbpabniaclaaaDoor
/-
  What an error tells: its number and its place: over this seat's translation.
-/
namespace Go.Proofs.YtjdbpabniaclaaaDoor
open Go.RowKit

/-- An error that tells this number (0: none) and this place (-1: none). -/
def ErrAt (p : Nat → Addr) (w : World) (v : Value) (c : Nat) (i : Int) : Prop :=
  (c = 0 ∧ i = -1 ∧ v = .nilIface) ∨ (∃ j, c = j + 1 ∧ j < 13 ∧ i = -1 ∧ v = .iface 122 (.pointer (some (p j)))) ∨
    ∃ j b o, c = j + 1 ∧ j < 13 ∧ v = .iface 65 (.pointer (some ⟨b, o, none⟩)) ∧ w.cell? ⟨b, o, none⟩ = some (.int .i64 i) ∧ w.cell? ⟨b, o + 1, none⟩ = some (.iface 122 (.pointer (some (p j))))

theorem ErrAt.below {p : Nat → Addr} {w w' : World} {v : Value} {c : Nat} {i : Int} (h : ErrAt p w v c i) (hb : Below w.heap.size w w') : ErrAt p w' v c i := by
  rcases h with h | h | ⟨j, b, o, h0, h1, h2, h3, h4⟩
  · exact .inl h
  · exact .inr (.inl h)
  · exact .inr (.inr ⟨j, b, o, h0, h1, h2, (hb.cell (p := ⟨b, o, none⟩) (block_lt_of_cell h3)).trans h3, (hb.cell (p := ⟨b, o + 1, none⟩) (block_lt_of_cell h4)).trans h4⟩)

theorem ErrAt.fine (p : Nat → Addr) (w : World) : ErrAt p w .nilIface 0 (-1) := .inl ⟨rfl, rfl, rfl⟩
theorem ErrAt.bare {p : Nat → Addr} {w : World} {c : Nat} (h : c ≤ 13) : ErrAt p w (errV p c) c (-1) := by
  rcases c with _ | c
  · exact .inl ⟨rfl, rfl, rfl⟩
  · exact .inr (.inl ⟨c, rfl, by omega, rfl, rfl⟩)

/-- nil or not. -/
theorem ErrAt.isNil {p : Nat → Addr} {w : World} {v : Value} {i : Int} (h : ErrAt p w v 0 i) : v = .nilIface := by
  rcases h with h | ⟨j, h, _⟩ | ⟨j, b, o, h, _⟩
  · exact h.2.2
  · omega
  · omega
theorem ErrAt.some {p : Nat → Addr} {w : World} {v : Value} {c : Nat} {i : Int} (h : ErrAt p w v c i) (hc : c ≠ 0) : ∃ T u, v = .iface T u := by
  rcases h with h | ⟨j, _, _, _, h⟩ | ⟨j, b, o, _, _, h, _⟩
  · exact absurd h.1 hc
  · exact ⟨_, _, h⟩
  · exact ⟨_, _, h⟩

theorem code_err {p : Nat → Addr} {w : World} {v : Value} {c : Nat} {i : Int} (h : ErrAt p w v c i) (hE : Env p w) :
    Calls Tryd.prog 26 #[v] w fun e w' => e = .returned (.tuple #[.int .i64 c, .int .i64 i]) ∧ Below w.heap.size w w' := by
  rcases h with ⟨rfl, rfl, rfl⟩ | ⟨j, rfl, hj, rfl, rfl⟩ | ⟨j, b, o, rfl, hj, rfl, h0, h1⟩
  · exact (code_nil w).mono fun _ _ ⟨h, h'⟩ => ⟨h, by rw [h']; exact Below.refl _ _⟩
  · exact code_sent p j w hE hj
  · exact code_flaw p j b o i w hE hj h0 h1

theorem faulted_err {p : Nat → Addr} {w : World} {v : Value} {c : Nat} {i : Int} (h : ErrAt p w v c i) (hE : Env p w) :
    Calls Tryd.prog 12 #[v, .agg #[.int .i64 c, .int .i64 i]] w fun e w' => e = .returned (.bool true) ∧ Below w.heap.size w w' :=
  faulted_yes v c i w fun _ hb => code_err (h.below hb) (hE.below hb)
end Go.Proofs.YtjdbpabniaclaaaDoor
/-
  Paths as lists of bytes: what a part is, how a text is cut at slashes, checked, cleaned, joined and stripped: plain functions and what holds of them. No Go text is spoken of here.
-/
namespace Go.Proofs.YtjdbpabniaclaaaDoor

/-- May this byte stand in a part? -/
def partByte (b : UInt8) : Bool := (97 ≤ b && b ≤ 122) || (48 ≤ b && b ≤ 57) || b == 46 || b == 95 || b == 45
def partInt (b : Int) : Bool := (decide (97 ≤ b) && decide (b ≤ 122)) || (decide (48 ≤ b) && decide (b ≤ 57)) || decide (b = 46) || decide (b = 95) || decide (b = 45)

theorem partInt_byte (b : UInt8) : partInt (b.toNat : Int) = partByte b := by
  have h : ∀ k : UInt8, (decide ((b.toNat : Int) = (k.toNat : Int))) = (b == k) := fun k => by
    rw [Bool.eq_iff_iff]; simp [← UInt8.toNat_inj]; omega
  have h1 : ∀ k : UInt8, (decide ((k.toNat : Int) ≤ (b.toNat : Int))) = decide (k ≤ b) := fun k => by
    rw [Bool.eq_iff_iff]; simp [UInt8.le_iff_toNat_le]
  have h2 : ∀ k : UInt8, (decide ((b.toNat : Int) ≤ (k.toNat : Int))) = decide (b ≤ k) := fun k => by
    rw [Bool.eq_iff_iff]; simp [UInt8.le_iff_toNat_le]
  have e1 := h1 97; have e2 := h2 122; have e3 := h1 48; have e4 := h2 57; have e5 := h 46; have e6 := h 95; have e7 := h 45
  simp only [UInt8.reduceToNat, Int.cast_ofNat_Int] at e1 e2 e3 e4 e5 e6 e7
  unfold partInt partByte
  rw [e1, e2, e3, e4, e5, e6, e7]

/-- Is this a part of a path? -/
def isPart (l : List UInt8) : Bool := !l.isEmpty && decide (l.length ≤ 12) && !(l == [46]) && !(l == [46, 46]) && l.all partByte

/-- What stands between slashes. -/
def pieces : List UInt8 → List (List UInt8)
  | [] => [[]]
  | c :: r => if c = 47 then [] :: pieces r else match pieces r with | [] => [[c]] | p :: ps => (c :: p) :: ps

theorem pieces_ne (l : List UInt8) : pieces l ≠ [] := by
  cases l with
  | nil => simp [pieces]
  | cons c r =>
    unfold pieces
    split
    · simp
    · split <;> simp

/-- What stands ahead of the first slash, and behind it. -/
def cutL : List UInt8 → Option (List UInt8 × List UInt8)
  | [] => none
  | c :: r => if c = 47 then some ([], r) else match cutL r with | none => none | some (a, b) => some (c :: a, b)

theorem cutL_some : ∀ {l a b : List UInt8}, cutL l = some (a, b) → l = a ++ 47 :: b
  | [], a, b, h => by simp [cutL] at h
  | c :: r, a, b, h => by
    unfold cutL at h
    split at h
    · rename_i hc
      simp at h
      obtain ⟨rfl, rfl⟩ := h
      simp [hc]
    · split at h
      · cases h
      · rename_i a' b' h'
        simp at h
        obtain ⟨rfl, rfl⟩ := h
        simp [cutL_some h']

theorem index_none : ∀ {l : List UInt8}, cutL l = none → Lib.indexByte l 47 = -1
  | [], _ => rfl
  | c :: r, h => by
    unfold cutL at h
    split at h
    · cases h
    · rename_i hc
      split at h
      · rename_i h'
        unfold Lib.indexByte
        rw [index_none h']
        simp [hc]
      · cases h

theorem index_some : ∀ {l a b : List UInt8}, cutL l = some (a, b) → Lib.indexByte l 47 = a.length
  | [], a, b, h => by simp [cutL] at h
  | c :: r, a, b, h => by
    unfold cutL at h
    split at h
    · rename_i hc
      simp at h
      obtain ⟨rfl, rfl⟩ := h
      simp [Lib.indexByte, hc]
    · rename_i hc
      split at h
      · cases h
      · rename_i a' b' h'
        simp at h
        obtain ⟨rfl, rfl⟩ := h
        unfold Lib.indexByte
        rw [index_some h']
        have : ((a'.length : Int) == -1) = false := by simp
        simp [hc, this]

theorem pieces_none : ∀ {l : List UInt8}, cutL l = none → pieces l = [l]
  | [], _ => rfl
  | c :: r, h => by
    unfold cutL at h
    split at h
    · cases h
    · rename_i hc
      split at h
      · rename_i h'
        simp [pieces, hc, pieces_none h']
      · cases h

theorem pieces_some : ∀ {l a b : List UInt8}, cutL l = some (a, b) → pieces l = a :: pieces b
  | [], a, b, h => by simp [cutL] at h
  | c :: r, a, b, h => by
    unfold cutL at h
    split at h
    · rename_i hc
      simp at h
      obtain ⟨rfl, rfl⟩ := h
      simp [pieces, hc]
    · rename_i hc
      split at h
      · cases h
      · rename_i a' b' h'
        simp at h
        obtain ⟨rfl, rfl⟩ := h
        simp [pieces, hc, pieces_some h']

theorem cutL_no : ∀ {a : List UInt8}, 47 ∉ a → cutL a = none
  | [], _ => rfl
  | c :: r, h => by
    have hc : c ≠ 47 := fun e => h (by rw [e]; exact List.mem_cons_self)
    have hr := cutL_no (a := r) (fun e => h (List.mem_cons_of_mem _ e))
    simp [cutL, hc, hr]

theorem cutL_of : ∀ {a : List UInt8} (b : List UInt8), 47 ∉ a → cutL (a ++ 47 :: b) = some (a, b)
  | [], b, _ => by simp [cutL]
  | c :: r, b, h => by
    have hc : c ≠ 47 := fun e => h (by rw [e]; exact List.mem_cons_self)
    have hr := cutL_of (a := r) b (fun e => h (List.mem_cons_of_mem _ e))
    simp [cutL, hc, hr]

theorem drop_cut {l : List UInt8} {f k : Nat} (hfk : f ≤ k) (hk : k < l.length) (h47 : l[k] = 47) : l.drop f = (l.drop f).take (k - f) ++ 47 :: l.drop (k + 1) := by
  have e1 : l.drop k = 47 :: l.drop (k + 1) := by rw [List.drop_eq_getElem_cons hk, h47]
  have e2 : (l.drop f).drop (k - f) = l.drop k := by rw [List.drop_drop]; congr 1; omega
  rw [← e1, ← e2]
  exact (List.take_append_drop _ _).symm

theorem take_more {l : List UInt8} {f k : Nat} (hfk : f ≤ k) (hk : k < l.length) : (l.drop f).take (k + 1 - f) = (l.drop f).take (k - f) ++ [l[k]] := by
  have e : k + 1 - f = (k - f) + 1 := by omega
  have hl : k - f < (l.drop f).length := by rw [List.length_drop]; omega
  rw [e, List.take_succ_eq_append_getElem hl]
  congr 2
  rw [List.getElem_drop]
  congr 1
  omega

/-- The number of the error that checking a text tells (0: none). -/
def checkCode (l : List UInt8) : Nat := if (pieces l).all isPart then (if 6 < (pieces l).length then 8 else 0) else 5

theorem pieces_length : ∀ l : List UInt8, (pieces l).length ≤ l.length + 1
  | [] => by simp [pieces]
  | c :: r => by
    have ih := pieces_length r
    unfold pieces
    split
    · simp; omega
    · split
      · simp
      · rename_i p ps h
        rw [h] at ih
        simp at ih ⊢
        omega

/-- One piece more, when a text is cleaned: the pieces kept so far, and the number of an error (0: none). -/
def cleanStep (st : List (List UInt8) × Nat) (x : List UInt8) : List (List UInt8) × Nat :=
  if st.2 ≠ 0 then st
  else if x = [] ∨ x = [46] then st
  else if x = [46, 46] then (if st.1 = [] then (st.1, 10) else (st.1.dropLast, 0))
  else if isPart x then (st.1 ++ [x], 0) else (st.1, 5)

def cleanF (xs : List (List UInt8)) : List (List UInt8) × Nat := xs.foldl cleanStep ([], 0)

theorem cleanF_snoc (pre : List (List UInt8)) (x : List UInt8) : cleanF (pre ++ [x]) = cleanStep (cleanF pre) x := by simp [cleanF]

theorem cleanStep_stuck (st : List (List UInt8) × Nat) (h : st.2 ≠ 0) : ∀ xs : List (List UInt8), xs.foldl cleanStep st = st
  | [] => rfl
  | x :: xs => by
    have : cleanStep st x = st := by simp [cleanStep, h]
    rw [List.foldl_cons, this, cleanStep_stuck st h xs]

theorem cleanF_prefix {pre xs : List (List UInt8)} (hp : pre <+: xs) (h : (cleanF pre).2 ≠ 0) : cleanF xs = cleanF pre := by
  obtain ⟨r, rfl⟩ := hp
  show (pre ++ r).foldl cleanStep ([], 0) = _
  rw [List.foldl_append]
  exact cleanStep_stuck _ h r

theorem cleanStep_dot {st : List (List UInt8) × Nat} {x : List UInt8} (h : st.2 = 0) (hx : x = [] ∨ x = [46]) : cleanStep st x = st := by simp [cleanStep, h, hx]
theorem cleanStep_up {st : List (List UInt8) × Nat} (h : st.2 = 0) (hk : st.1 ≠ []) : cleanStep st [46, 46] = (st.1.dropLast, 0) := by simp [cleanStep, h, hk]
theorem cleanStep_out {st : List (List UInt8) × Nat} (h : st.2 = 0) (hk : st.1 = []) : cleanStep st [46, 46] = ([], 10) := by simp [cleanStep, h, hk]
theorem cleanStep_part {st : List (List UInt8) × Nat} {x : List UInt8} (h : st.2 = 0) (h0 : x ≠ []) (h1 : x ≠ [46]) (h2 : x ≠ [46, 46]) (hx : isPart x = true) : cleanStep st x = (st.1 ++ [x], 0) := by simp [cleanStep, h, h0, h1, h2, hx]
theorem cleanStep_none {st : List (List UInt8) × Nat} {x : List UInt8} (h : st.2 = 0) (h0 : x ≠ []) (h1 : x ≠ [46]) (h2 : x ≠ [46, 46]) (hx : isPart x = false) : cleanStep st x = (st.1, 5) := by simp [cleanStep, h, h0, h1, h2, hx]

theorem cleanF_length : ∀ pre : List (List UInt8), (cleanF pre).1.length ≤ pre.length := by
  intro pre
  have h : ∀ (xs : List (List UInt8)) (st : List (List UInt8) × Nat), (xs.foldl cleanStep st).1.length ≤ st.1.length + xs.length := by
    intro xs
    induction xs with
    | nil => intro st; simp
    | cons x xs ih =>
      intro st
      have h1 : (cleanStep st x).1.length ≤ st.1.length + 1 := by
        unfold cleanStep
        split
        · omega
        · split
          · omega
          · split
            · split <;> simp <;> omega
            · split <;> simp
      have := ih (cleanStep st x)
      simp only [List.foldl_cons, List.length_cons]
      omega
  have := h pre ([], 0)
  simpa [cleanF] using this

theorem isPart_length {x : List UInt8} (h : isPart x = true) : x.length ≤ 12 := by
  simp [isPart] at h
  exact h.1.1.1.2

theorem cleanStep_parts {st : List (List UInt8) × Nat} (h : ∀ x ∈ st.1, isPart x = true) (y : List UInt8) : ∀ x ∈ (cleanStep st y).1, isPart x = true := by
  unfold cleanStep
  split
  · exact h
  · split
    · exact h
    · split
      · split
        · exact h
        · intro x hx
          exact h x ((List.dropLast_sublist _).subset hx)
      · split
        · rename_i hy
          intro x hx
          rcases List.mem_append.1 hx with hx | hx
          · exact h x hx
          · simp at hx; subst hx; exact hy
        · exact h

theorem cleanF_parts (xs : List (List UInt8)) : ∀ x ∈ (cleanF xs).1, isPart x = true := by
  have h : ∀ (xs : List (List UInt8)) (st : List (List UInt8) × Nat), (∀ x ∈ st.1, isPart x = true) → ∀ x ∈ (xs.foldl cleanStep st).1, isPart x = true := by
    intro xs
    induction xs with
    | nil => intro st h; exact h
    | cons y ys ih => intro st h; exact ih _ (cleanStep_parts h y)
  exact h xs ([], 0) (by simp)

theorem joinTail_length {M : Nat} : ∀ {k : List (List UInt8)}, (∀ x ∈ k, x.length ≤ M) → (Lib.joinTail [47] k).length ≤ (M + 1) * k.length
  | [], _ => by simp [Lib.joinTail]
  | x :: k, h => by
    have h1 := h x List.mem_cons_self
    have h2 := joinTail_length (k := k) (fun y hy => h y (List.mem_cons_of_mem _ hy))
    have e : Lib.joinTail [47] (x :: k) = 47 :: x ++ Lib.joinTail [47] k := by simp [Lib.joinTail]
    rw [e, List.length_append, List.length_cons, List.length_cons, Nat.mul_add]
    omega

theorem join_length {M : Nat} {k : List (List UInt8)} (h : ∀ x ∈ k, x.length ≤ M) : (Lib.join k [47]).length ≤ (M + 1) * k.length := by
  cases k with
  | nil => simp [Lib.join_nil]
  | cons x k =>
    have h1 := h x List.mem_cons_self
    have h2 := joinTail_length (k := k) (fun y hy => h y (List.mem_cons_of_mem _ hy))
    rw [Lib.join_cons, List.length_append, List.length_cons, Nat.mul_add]
    omega

/-- What cleaning a text tells: the text, and the number of an error (0: none). -/
def cleanL (l : List UInt8) : List UInt8 × Nat :=
  if l.head? = some 47 then ([], 3)
  else if (cleanF (pieces l)).2 ≠ 0 then ([], (cleanF (pieces l)).2)
  else if 6 < (cleanF (pieces l)).1.length then ([], 8)
  else (Lib.join (cleanF (pieces l)).1 [47], 0)

/-- What stripping the first parts of a text tells: the text, and the number of an error (0: none). -/
def stripL (s : List UInt8) (n : Int) : List UInt8 × Nat :=
  if checkCode s ≠ 0 then ([], checkCode s)
  else if n < 0 then ([], 2)
  else if ((pieces s).length : Int) ≤ n then ([], 3)
  else (Lib.join ((pieces s).drop n.toNat) [47], 0)

end Go.Proofs.YtjdbpabniaclaaaDoor
/-
  The document's answer for digits: Byte, below, Decimal: over this seat's translation.
-/
namespace Go.Proofs.YtjdbpabniaclaaaDoor
open Go.RowKit

set_option maxRecDepth 100000 in
theorem byte_any (k : Nat) (w : World) (hk : k < 256) : Calls Tryd.prog 51 #[.int .i64 k] w fun e w' => e = .returned (.string ⟨#[UInt8.ofNat k]⟩) ∧ Below w.heap.size w w' := by
  have hn : (UInt8.ofNat k).toNat = k := by rw [UInt8.toNat_ofNat']; omega
  have HC : (convert 42 9 (.slice (some ⟨w.heap.size, 0, none⟩) 1 1)).run Tryd.prog (w.alloc (.cells #[.int .u8 k] 5)) = .ok (.string ⟨#[UInt8.ofNat k]⟩) (w.alloc (.cells #[.int .u8 k] 5)) :=
    run_convert_bytes_back (P := Tryd.prog) (w.alloc (.cells #[.int .u8 k] 5)) 42 9 5 ⟨w.heap.size, 0, none⟩ 1 [UInt8.ofNat k] Tryd.underlying42 Tryd.underlying5 Tryd.underlying9 (fun j hj => by
      match j, hj with
      | 0, _ => simp [Addr.add, hn])
  clear hn
  go_enter Tryd.func51, Tryd.ntmps51
  go_wp2
  go_ret
  exact ⟨rfl, (Below.refl _ _).alloc (Nat.le_refl _) _⟩

theorem bytes_snoc (a : List UInt8) (b : UInt8) : (⟨a.toArray⟩ : ByteArray) ++ ⟨#[b]⟩ = ⟨(a ++ [b]).toArray⟩ := by
  apply ByteArray.ext
  simp
theorem byte_is (z : Int) (k : Nat) (b : UInt8) (w : World) (hz : z = k) (hk : k < 256) (hb : UInt8.ofNat k = b) : Calls Tryd.prog 51 #[.int .i64 z] w fun e w' => e = .returned (.string ⟨#[b]⟩) ∧ Below w.heap.size w w' := by
  subst hz hb
  exact byte_any k w hk

set_option maxRecDepth 100000 in
set_option maxHeartbeats 1000000 in
theorem below_any (n : Nat) : ∀ (w : World), n ≤ 1000000000000000000 → Calls Tryd.prog 39 #[.int .i64 (-(n : Int))] w fun e w' => e = .returned (.string ⟨(digitsL n).toArray⟩) ∧ Below w.heap.size w w' := by
  induction n using Nat.strongRecOn with
  | ind n ih =>
    intro w hn
    by_cases h0 : n < 10
    · obtain ⟨bt, hbt⟩ : ∃ bt, UInt8.ofNat (48 + n) = bt := ⟨_, rfl⟩
      have HBT : Hid (UInt8.ofNat (48 + n) = bt) := hbt
      have HD : Hid (digitsL n = [bt]) := by show digitsL n = _; rw [digits_small h0, hbt]
      clear ih hbt
      go_enter Tryd.func39, Tryd.ntmps39
      go_wp2_with fail
      refine (byte_is _ (48 + n) bt _ (by omega) (by omega) HBT.out).mono ?_
      rintro e w' ⟨rfl, hb⟩
      have HB : Hid (Below w.heap.size w w') := hb
      clear hb
      go_wp2
      go_ret
      exact ⟨by rw [HD.out]; rfl, HB.out⟩
    · obtain ⟨bt, hbt⟩ : ∃ bt, UInt8.ofNat (48 + n % 10) = bt := ⟨_, rfl⟩
      have HBT : Hid (UInt8.ofNat (48 + n % 10) = bt) := hbt
      have HD : Hid (digitsL n = digitsL (n / 10) ++ [bt]) := by show digitsL n = _; rw [digits_great (by omega), hbt]
      have hdl : (digitsL (n / 10)).length ≤ 19 := digits_length 18 (n / 10) (by omega)
      clear hbt
      have IH : Hid (∀ (w : World), Calls Tryd.prog 39 #[.int .i64 (-((n / 10 : Nat) : Int))] w fun e w' => e = .returned (.string ⟨(digitsL (n / 10)).toArray⟩) ∧ Below w.heap.size w w') := fun w => ih (n / 10) (by omega) w (by omega)
      clear ih
      have hd : (-(n : Int)).tdiv 10 = -((n / 10 : Nat) : Int) := by rw [Int.neg_tdiv, Int.tdiv_eq_ediv_of_nonneg (by omega)]; rfl
      have hm : (-(n : Int)).tmod 10 = -((n % 10 : Nat) : Int) := by rw [Int.neg_tmod, Int.tmod_eq_emod_of_nonneg (by omega)]; rfl
      go_enter Tryd.func39, Tryd.ntmps39
      go_wp2_with fail
      refine (IH.out _).mono ?_
      rintro e w1 ⟨rfl, hb1⟩
      clear IH
      generalize digitsL (n / 10) = ds at HD hdl
      have HB1 : Hid (Below w.heap.size w w1) := hb1
      clear hb1
      go_wp2_with fail
      refine (byte_is _ (48 + n % 10) bt _ (by omega) (by omega) HBT.out).mono ?_
      rintro e w2 ⟨rfl, hb2⟩
      have HB2 : Hid (Below w.heap.size w w2) := HB1.out.trans (hb2.mono HB1.out.size)
      clear hb2 HB1
      go_wp2
      go_ret
      exact ⟨by rw [HD.out, ← bytes_snoc]; rfl, HB2.out⟩

set_option maxRecDepth 100000 in
theorem decimal_any (n : Nat) (w : World) (hn : n ≤ 1000000000000000000) : Calls Tryd.prog 27 #[.int .i64 n] w fun e w' => e = .returned (.string ⟨(digitsL n).toArray⟩) ∧ Below w.heap.size w w' := by
  go_enter Tryd.func27, Tryd.ntmps27
  go_wp2_with fail
  refine (below_any n _ hn).mono ?_
  rintro e w1 ⟨rfl, hb1⟩
  have HB1 : Hid (Below w.heap.size w w1) := hb1
  clear hb1
  go_wp2
  go_ret
  exact ⟨rfl, HB1.out⟩

/-- Digits read from one place on. -/
theorem value_snoc (s : List UInt8) (b : UInt8) : valueFrom 0 (s ++ [b]) = 10 * valueFrom 0 s + (b.toNat - 48) := by simp [valueFrom]
theorem value_from : ∀ (s : List UInt8) (h : Nat), s.all isDigit = true → valueFrom h s < (h + 1) * 10 ^ s.length
  | [], h, _ => by simp [valueFrom]
  | b :: r, h, hd => by
    rw [List.all_cons, Bool.and_eq_true] at hd
    have h2 := hd.1
    simp [isDigit] at h2
    have ih := value_from r (10 * h + (b.toNat - 48)) hd.2
    show valueFrom (10 * h + (b.toNat - 48)) r < _
    have : (10 * h + (b.toNat - 48) + 1) * 10 ^ r.length ≤ ((h + 1) * 10) * 10 ^ r.length := Nat.mul_le_mul_right _ (by omega)
    rw [List.length_cons, Nat.pow_succ, Nat.mul_comm (10 ^ r.length) 10, ← Nat.mul_assoc]
    omega
theorem value_lt {s : List UInt8} (h : s.all isDigit = true) (hl : s.length ≤ 18) : valueFrom 0 s < 1000000000000000000 := by
  have h1 := value_from s 0 h
  have h2 : 10 ^ s.length ≤ 10 ^ 18 := Nat.pow_le_pow_right (by decide) hl
  omega
end Go.Proofs.YtjdbpabniaclaaaDoor
/-
  Package press: isDigit, readTimes, wrongAt, add: contracts, over this seat's translation.
-/
namespace Go.Proofs.YtjdbpabniaclaaaDoor
open Go.RowKit

theorem pressDigit_any (b : UInt8) (w : World) : Calls Tryd.prog 42 #[.int .u8 b.toNat] w fun e w' => e = .returned (.bool (isDigit b)) ∧ w' = w := by
  by_cases h1 : 48 ≤ b.toNat
  · by_cases h2 : b.toNat ≤ 57
    · have HD : Hid (isDigit b = true) := by show isDigit b = true; simp [isDigit, h1, h2]
      have h1' : (48 : Int) ≤ (b.toNat : Int) := by omega
      have h2' : (b.toNat : Int) ≤ 57 := by omega
      go_enter Tryd.func42, Tryd.ntmps42
      go_wp2
      go_ret
      exact ⟨by rw [HD.out]; rfl, rfl⟩
    · have HD : Hid (isDigit b = false) := by show isDigit b = false; simp [isDigit]; omega
      have h1' : (48 : Int) ≤ (b.toNat : Int) := by omega
      have h2' : ¬ (b.toNat : Int) ≤ 57 := by omega
      go_enter Tryd.func42, Tryd.ntmps42
      go_wp2
      go_ret
      exact ⟨by rw [HD.out]; rfl, rfl⟩
  · have HD : Hid (isDigit b = false) := by show isDigit b = false; simp [isDigit]; omega
    have h1' : ¬ (48 : Int) ≤ (b.toNat : Int) := by omega
    go_enter Tryd.func42, Tryd.ntmps42
    go_wp2
    go_ret
    exact ⟨by rw [HD.out]; rfl, rfl⟩

theorem pressDigit_is (z : Int) (b : UInt8) (w : World) (hz : z = b.toNat) : Calls Tryd.prog 42 #[.int .u8 z] w fun e w' => e = .returned (.bool (isDigit b)) ∧ w' = w := by
  subst hz
  exact pressDigit_any b w

theorem drop_at {l : List UInt8} {j : Nat} (h : j < l.length) : l.drop j = l[j] :: l.drop (j + 1) := List.drop_eq_getElem_cons h

/-- A byte of a digit, less the sign of zero. -/
theorem sub_digit {b : UInt8} (h : isDigit b = true) : IntKind.u8.wrap ((b.toNat : Int) - 48) = ((b.toNat - 48 : Nat) : Int) := by
  have := digit_le h
  rw [IntKind.wrap_u8]
  omega

set_option maxRecDepth 100000 in
set_option maxHeartbeats 2000000 in
theorem readTimes_any (s : List UInt8) (i : Nat) (w : World) (hs : s.length ≤ 1000000000) (hi : i ≤ s.length) :
    Calls Tryd.prog 32 #[.string ⟨s.toArray⟩, .int .i64 i] w fun e w' => e = .returned (.tuple #[.int .i64 (scan 0 0 (s.drop i)).1, .int .i64 ((i + (scan 0 0 (s.drop i)).2 : Nat) : Int)]) ∧ w' = w := by
  go_enter Tryd.func32, Tryd.ntmps32
  go_wp2_with fail
  go_loopw [4, 5] (fun nv ev wr => ∃ k n j : Nat, j = i + k ∧ k ≤ 9 ∧ j ≤ s.length ∧ scan k n (s.drop j) = scan 0 0 (s.drop i) ∧ Digs k n ∧ nv = .int .i64 n ∧ ev = .int .i64 (j : Int) ∧ wr = w) (fun _ ev _ => s.length - (intOf ev).toNat)
  case atStart => exact ⟨0, 0, i, rfl, by omega, by omega, rfl, digs_zero, rfl, rfl, rfl⟩
  case round =>
    obtain ⟨k, n, j, hj, hk, hik, hsc, hdg, rfl, rfl, hb⟩ := hrel
    subst hb
    have HJ := Lib.hid hj
    have HJ2 : Hid ((i : Int) + (k : Int) = (j : Int)) := by show _ = _; omega
    have hj0 : (i : Int) ≤ (j : Int) := by omega
    have hjk := hj
    clear hj
    have hn := digs_bound hdg hk
    have HG := Lib.hid hdg
    by_cases hlt : j < s.length
    · have HD := Lib.hid (drop_at hlt)
      have hjs : j < ({ data := s.toArray } : ByteArray).size := by simp [ByteArray.size]; omega
      obtain ⟨b, hb⟩ : ∃ b, s[j] = b := ⟨_, rfl⟩
      have hbj : ({ data := s.toArray } : ByteArray)[j]'hjs = b := hb
      rw [hb] at HD
      have HS := Lib.hid hsc
      clear hb hsc hdg
      by_cases hk9 : k < 9
      · have hk9' : (j : Int) - (i : Int) < 9 := by omega
        clear hjk
        by_cases hd : isDigit b = true
        · by_cases hz : k = 0 ∧ b = 48
          · obtain ⟨rfl, rfl⟩ := hz
            obtain rfl : n = 0 := HG.out.2.2 rfl
            have HR : Hid (scan 0 0 (s.drop i) = (0, 0)) := by
              show scan 0 0 (s.drop i) = _
              rw [← HS.out, HD.out, scan_end (by simp)]
            clear HS HG
            go_wp2_with fail
            refine (pressDigit_is _ 48 _ (by first | rfl | simp)).mono ?_
            rintro e w' ⟨rfl, rfl⟩
            rw [hd]
            go_wp2
            go_ret2
            exact ⟨by first | (rw [HR.out, ← HJ.out]; rfl) | (rw [HR.out]; show Ending.returned (.tuple #[.int .i64 n, .int .i64 j]) = .returned (.tuple #[.int .i64 n, .int .i64 ((i : Int) + (k : Int))]); rw [HJ2.out]), rfl⟩
          · have HN : Hid (scan (k + 1) (10 * n + (b.toNat - 48)) (s.drop (j + 1)) = scan 0 0 (s.drop i)) := by
              show _ = _
              rw [← HS.out, HD.out, scan_go ⟨hk9, hd, hz⟩]
            have HG2 := Lib.hid (digs_go HG.out hd hz)
            have hsub := sub_digit hd
            have hbd := digit_le hd
            have hnz : (n = 0 ∧ (b.toNat : Int) ≠ 48) ∨ n ≠ 0 := by
              by_cases hn0 : n = 0
              · refine Or.inl ⟨hn0, fun e => hz ⟨HG.out.2.1 hn0, UInt8.toNat_inj.1 (by show b.toNat = 48; omega)⟩⟩
              · exact Or.inr hn0
            clear HS HG hz
            rcases hnz with ⟨rfl, h48⟩ | hn0
            · have h48' : ((b.toNat : Int) == 48) = false := by simpa using h48
              go_wp2_with fail
              refine (pressDigit_any b _).mono ?_
              rintro e w' ⟨rfl, rfl⟩
              rw [hd]
              go_wp2
              go_roundw
              case rel => exact ⟨k + 1, 10 * 0 + (b.toNat - 48), j + 1, by rw [HJ.out]; omega, by omega, by omega, HN.out, HG2.out, by go_num, by go_num, trivial⟩
              case measure => simp [intOf]; omega
            · have hn0' : ((n : Int) == 0) = false := by simp; omega
              go_wp2_with fail
              refine (pressDigit_any b _).mono ?_
              rintro e w' ⟨rfl, rfl⟩
              rw [hd]
              go_wp2
              go_roundw
              case rel => exact ⟨k + 1, 10 * n + (b.toNat - 48), j + 1, by rw [HJ.out]; omega, by omega, by omega, HN.out, HG2.out, by go_num, by go_num, trivial⟩
              case measure => simp [intOf]; omega
        · have hd' : isDigit b = false := Bool.eq_false_iff.2 hd
          have HR : Hid (scan 0 0 (s.drop i) = (n, k)) := by
            show scan 0 0 (s.drop i) = _
            rw [← HS.out, HD.out, scan_end (by rw [hd']; simp)]
          clear HS HG
          go_wp2_with fail
          refine (pressDigit_any b _).mono ?_
          rintro e w' ⟨rfl, rfl⟩
          rw [hd']
          go_wp2
          go_ret2
          exact ⟨by first | (rw [HR.out, ← HJ.out]; rfl) | (rw [HR.out]; show Ending.returned (.tuple #[.int .i64 n, .int .i64 j]) = .returned (.tuple #[.int .i64 n, .int .i64 ((i : Int) + (k : Int))]); rw [HJ2.out]), rfl⟩
      · have hk9' : ¬ (j : Int) - (i : Int) < 9 := by omega
        have HR : Hid (scan 0 0 (s.drop i) = (n, k)) := by
          show scan 0 0 (s.drop i) = _
          rw [← HS.out, HD.out, scan_end (fun h => hk9 h.1)]
        clear HS HG hjk
        go_wp2
        go_ret2
        exact ⟨by first | (rw [HR.out, ← HJ.out]; rfl) | (rw [HR.out]; show Ending.returned (.tuple #[.int .i64 n, .int .i64 j]) = .returned (.tuple #[.int .i64 n, .int .i64 ((i : Int) + (k : Int))]); rw [HJ2.out]), rfl⟩
    · have HR : Hid (scan 0 0 (s.drop i) = (n, k)) := by
        show scan 0 0 (s.drop i) = _
        rw [← hsc, List.drop_eq_nil_of_le (by omega)]
        rfl
      clear hsc HG hdg hjk
      go_wp2
      go_ret2
      exact ⟨by first | (rw [HR.out, ← HJ.out]; rfl) | (rw [HR.out]; show Ending.returned (.tuple #[.int .i64 n, .int .i64 j]) = .returned (.tuple #[.int .i64 n, .int .i64 ((i : Int) + (k : Int))]); rw [HJ2.out]), rfl⟩

/-- An error with its place. -/
theorem wrongAt_any (p : Nat → Addr) (i : Nat) (w : World) (hE : Env p w) : Calls Tryd.prog 34 #[.int .i64 i] w fun e w' => ∃ v, e = .returned v ∧ ErrAt p w' v 1 i ∧ Below w.heap.size w w' := by
  have hg := hE.s0
  clear hE
  go_enter Tryd.func34, Tryd.ntmps34
  go_wp2
  go_ret
  exact ⟨_, rfl, .inr (.inr ⟨0, w.heap.size, 0, rfl, by decide, rfl, by simp, by simp⟩), (Below.refl _ _).alloc (Nat.le_refl _) _⟩

theorem pressAdd_any (n k : Nat) (w : World) (hn : n ≤ 1000000000000000000) (hk : k ≤ 999999999) : Calls Tryd.prog 23 #[.int .i64 n, .int .i64 k] w fun e w' => e = .returned (.int .i64 ((n + k : Nat) : Int)) ∧ w' = w := by
  go_enter Tryd.func23, Tryd.ntmps23
  go_wp2
  go_ret
  exact ⟨by rw [Int.natCast_add]; rfl, rfl⟩
end Go.Proofs.YtjdbpabniaclaaaDoor
/-
  Contracts of library functions that the library proves once, laid at this seat's translation (made by program).
-/
namespace Go.Proofs
open Go.Shelf
def Tryd.lays169_ren : Go.Shelf.Ren := ⟨fun | 169 => 20 | n => n, fun | 70 => 41 | 9 => 9 | 0 => 0 | 72 => 44 | 37 => 42 | 127 => 60 | 3 => 3 | 5 => 5 | n => n, fun | n => n⟩
theorem Tryd.lays169 : Go.Proofs.Lays.n169 Tryd.prog Tryd.lays169_ren := {
  mixed := by kernel_rfl
  f169 := Tryd.func20.trans (congrArg some (by kernel_rfl))
  t0 := Tryd.underlying0
  a0 := Tryd.isAgg0
  z0 := Tryd.sizeOf0
  v0 := Tryd.zeroValue0
  t3 := Tryd.underlying3
  a3 := Tryd.isAgg3
  z3 := Tryd.sizeOf3
  v3 := Tryd.zeroValue3
  t9 := Tryd.underlying9
  a9 := Tryd.isAgg9
  z9 := Tryd.sizeOf9
  v9 := Tryd.zeroValue9
  t37 := Tryd.underlying42
  a37 := Tryd.isAgg42
  z37 := Tryd.sizeOf42
  v37 := Tryd.zeroValue42
  t70 := Tryd.underlying41
  a70 := Tryd.isAgg41
  z70 := Tryd.sizeOf41
  v70 := Tryd.zeroValue41
  t72 := Tryd.underlying44
  a72 := Tryd.isAgg44
  z72 := Tryd.sizeOf44
  v72 := Tryd.zeroValue44
  t127 := Tryd.underlying60
  a127 := Tryd.isAgg60
  z127 := Tryd.sizeOf60
  v127 := Tryd.zeroValue60 }
theorem Tryd.Builder_Extra_169 : Builder.Extra Tryd.prog Tryd.lays169_ren := {
  sizeBuilder := by kernel_rfl
  liesBuilder := by kernel_rfl
  t5 := Tryd.underlying5
  a5 := Tryd.isAgg5
  z5 := Tryd.sizeOf5
  v5 := Tryd.zeroValue5
  infoByte := by kernel_rfl
  cellsByte := by kernel_rfl
  sizeByte := by kernel_rfl
  neB5 := by decide }
open Go.RowKit in
theorem Tryd.Builder_String_any (B b : Nat) (l : List UInt8) (w : World) (h : Lib.IsBuilder 44 5 B b (Lib.byteCells l) w) (hBw : B ≤ w.heap.size) :
    Calls Tryd.prog 20 #[.pointer (some ⟨b, 0, none⟩)] w fun e w' => e = .returned (.string ⟨l.toArray⟩) ∧ Below B w w' := Any.Builder_String_any Tryd.lays169 Tryd.Builder_Extra_169 B b l w h hBw
def Tryd.lays165_ren : Go.Shelf.Ren := ⟨fun | 165 => 36 | 240 => 30 | 241 => 44 | 276 => 40 | 277 => 56 | n => n, fun | 70 => 41 | 3 => 3 | 0 => 0 | 4 => 4 | 9 => 9 | 20 => 20 | 72 => 44 | 37 => 42 | 164 => 72 | 5 => 5 | n => n, fun | n => n⟩
theorem Tryd.lays165 : Go.Proofs.Lays.n165 Tryd.prog Tryd.lays165_ren := {
  mixed := by kernel_rfl
  f165 := Tryd.func36.trans (congrArg some (by kernel_rfl))
  f240 := Tryd.func30.trans (congrArg some (by kernel_rfl))
  f241 := Tryd.func44.trans (congrArg some (by kernel_rfl))
  f276 := Tryd.func40.trans (congrArg some (by kernel_rfl))
  f277 := Tryd.func56.trans (congrArg some (by kernel_rfl))
  t0 := Tryd.underlying0
  a0 := Tryd.isAgg0
  z0 := Tryd.sizeOf0
  v0 := Tryd.zeroValue0
  t3 := Tryd.underlying3
  a3 := Tryd.isAgg3
  z3 := Tryd.sizeOf3
  v3 := Tryd.zeroValue3
  t4 := Tryd.underlying4
  a4 := Tryd.isAgg4
  z4 := Tryd.sizeOf4
  v4 := Tryd.zeroValue4
  t9 := Tryd.underlying9
  a9 := Tryd.isAgg9
  z9 := Tryd.sizeOf9
  v9 := Tryd.zeroValue9
  t20 := Tryd.underlying20
  a20 := Tryd.isAgg20
  z20 := Tryd.sizeOf20
  v20 := Tryd.zeroValue20
  t37 := Tryd.underlying42
  a37 := Tryd.isAgg42
  z37 := Tryd.sizeOf42
  v37 := Tryd.zeroValue42
  t70 := Tryd.underlying41
  a70 := Tryd.isAgg41
  z70 := Tryd.sizeOf41
  v70 := Tryd.zeroValue41
  t72 := Tryd.underlying44
  a72 := Tryd.isAgg44
  z72 := Tryd.sizeOf44
  v72 := Tryd.zeroValue44
  t164 := Tryd.underlying72
  a164 := Tryd.isAgg72
  z164 := Tryd.sizeOf72
  v164 := Tryd.zeroValue72 }
theorem Tryd.Builder_Extra_165 : Builder.Extra Tryd.prog Tryd.lays165_ren := {
  sizeBuilder := by kernel_rfl
  liesBuilder := by kernel_rfl
  t5 := Tryd.underlying5
  a5 := Tryd.isAgg5
  z5 := Tryd.sizeOf5
  v5 := Tryd.zeroValue5
  infoByte := by kernel_rfl
  cellsByte := by kernel_rfl
  sizeByte := by kernel_rfl
  neB5 := by decide }
open Go.RowKit in
theorem Tryd.Builder_Grow_fresh (B b n : Nat) (w : World) (hB : B ≤ b) (hbk : w.heap[b]? = some (.cells #[.pointer none, .slice none 0 0] 44 (0, 0))) (hBw : B ≤ w.heap.size) (hn : n ≤ 281474976710656) :
    Calls Tryd.prog 36 #[.pointer (some ⟨b, 0, none⟩), .int .i64 n] w fun e w' => e = .returned (.tuple #[]) ∧ (Lib.BuilderAt 44 5 B b (.pointer (some ⟨b, 0, none⟩)) [] w' ∧ Below B w w') := Any.Builder_Grow_fresh Tryd.lays165 Tryd.Builder_Extra_165 B b n w hB hbk hBw hn
def Tryd.laysM171_ren : Go.Shelf.Ren := ⟨fun | 171 => 18 | 243 => 31 | 246 => 41 | 283 => 52 | 284 => 53 | 285 => 54 | 286 => 55 | 129 => 60 | 317 => 59 | 318 => 61 | 319 => 62 | 320 => 63 | 337 => 64 | 338 => 65 | n => n, fun | 3 => 3 | 9 => 9 | 2 => 2 | 4 => 4 | 171 => 89 | 0 => 0 | 53 => 90 | 37 => 42 | 5 => 5 | 173 => 93 | 212 => 113 | 51 => 114 | 20 => 20 | 213 => 115 | 46 => 117 | 232 => 120 | 233 => 121 | n => n, fun | 17 => 14 | 18 => 16 | 19 => 17 | n => n⟩
theorem Tryd.laysM171 : Go.Proofs.LaysM.n171 Tryd.prog Tryd.laysM171_ren := {
  mixed := by kernel_rfl
  f129 := Tryd.func60.trans (congrArg some (by kernel_rfl))
  f171 := Tryd.func18.trans (congrArg some (by kernel_rfl))
  f243 := Tryd.func31.trans (congrArg some (by kernel_rfl))
  f246 := Tryd.func41.trans (congrArg some (by kernel_rfl))
  f283 := Tryd.func52.trans (congrArg some (by kernel_rfl))
  f284 := Tryd.func53.trans (congrArg some (by kernel_rfl))
  f285 := Tryd.func54.trans (congrArg some (by kernel_rfl))
  f286 := Tryd.func55.trans (congrArg some (by kernel_rfl))
  f317 := Tryd.func59.trans (congrArg some (by kernel_rfl))
  f318 := Tryd.func61.trans (congrArg some (by kernel_rfl))
  f319 := Tryd.func62.trans (congrArg some (by kernel_rfl))
  f320 := Tryd.func63.trans (congrArg some (by kernel_rfl))
  f337 := Tryd.func64.trans (congrArg some (by kernel_rfl))
  f338 := Tryd.func65.trans (congrArg some (by kernel_rfl))
  t0 := Tryd.underlying0
  a0 := Tryd.isAgg0
  z0 := Tryd.sizeOf0
  v0 := Tryd.zeroValue0
  t2 := Tryd.underlying2
  a2 := Tryd.isAgg2
  z2 := Tryd.sizeOf2
  v2 := Tryd.zeroValue2
  t3 := Tryd.underlying3
  a3 := Tryd.isAgg3
  z3 := Tryd.sizeOf3
  v3 := Tryd.zeroValue3
  t4 := Tryd.underlying4
  a4 := Tryd.isAgg4
  z4 := Tryd.sizeOf4
  v4 := Tryd.zeroValue4
  t5 := Tryd.underlying5
  a5 := Tryd.isAgg5
  z5 := Tryd.sizeOf5
  v5 := Tryd.zeroValue5
  t9 := Tryd.underlying9
  a9 := Tryd.isAgg9
  z9 := Tryd.sizeOf9
  v9 := Tryd.zeroValue9
  t20 := Tryd.underlying20
  a20 := Tryd.isAgg20
  z20 := Tryd.sizeOf20
  v20 := Tryd.zeroValue20
  t37 := Tryd.underlying42
  a37 := Tryd.isAgg42
  z37 := Tryd.sizeOf42
  v37 := Tryd.zeroValue42
  t46 := Tryd.underlying117
  a46 := Tryd.isAgg117
  z46 := Tryd.sizeOf117
  v46 := Tryd.zeroValue117
  t51 := Tryd.underlying114
  a51 := Tryd.isAgg114
  z51 := Tryd.sizeOf114
  v51 := Tryd.zeroValue114
  t53 := Tryd.underlying90
  a53 := Tryd.isAgg90
  z53 := Tryd.sizeOf90
  v53 := Tryd.zeroValue90
  t171 := Tryd.underlying89
  a171 := Tryd.isAgg89
  z171 := Tryd.sizeOf89
  v171 := Tryd.zeroValue89
  t173 := Tryd.underlying93
  a173 := Tryd.isAgg93
  z173 := Tryd.sizeOf93
  v173 := Tryd.zeroValue93
  t212 := Tryd.underlying113
  a212 := Tryd.isAgg113
  z212 := Tryd.sizeOf113
  v212 := Tryd.zeroValue113
  t213 := Tryd.underlying115
  a213 := Tryd.isAgg115
  z213 := Tryd.sizeOf115
  t232 := Tryd.underlying120
  a232 := Tryd.isAgg120
  z232 := Tryd.sizeOf120
  v232 := Tryd.zeroValue120
  t233 := Tryd.underlying121
  a233 := Tryd.isAgg121
  z233 := Tryd.sizeOf121
  v233 := Tryd.zeroValue121
  g17 := by kernel_rfl
  g18 := by kernel_rfl
  g19 := by kernel_rfl
  i0 := by kernel_rfl
  i2 := by kernel_rfl
  i3 := by kernel_rfl
  i4 := by kernel_rfl
  i5 := by kernel_rfl
  i9 := by kernel_rfl
  i20 := by kernel_rfl
  i37 := by kernel_rfl
  i46 := by kernel_rfl
  i51 := by kernel_rfl
  i53 := by kernel_rfl
  i171 := by kernel_rfl
  i173 := by kernel_rfl
  i212 := by kernel_rfl
  i232 := by kernel_rfl
  i233 := by kernel_rfl
  m17 := by kernel_rfl
  m18 := by kernel_rfl
  m19 := by kernel_rfl }
open Go.RowKit Go.Sort Go.Lib in
theorem Tryd.strconv_Itoa (n : Int) (h0 : -9223372036854775808 ≤ n) (h1 : n ≤ 9223372036854775807) (w : World) (htab : Lib.TabIs Tryd.prog w "internal/strconv.uint64pow10" .u64 Lib.pow10Tab) :
    Calls Tryd.prog 18 #[.int .i64 n] w fun e w' => e = .returned (.string ⟨(Lib.itoa n).toArray⟩) ∧ ∃ k os, w' = grow (w.drewN k) os := Any.strconv_Itoa Tryd.laysM171 n h0 h1 w htab
def Tryd.lays99_ren : Go.Shelf.Ren := ⟨fun | 99 => 33 | 206 => 43 | n => n, fun | 9 => 9 | 4 => 4 | 3 => 3 | n => n, fun | n => n⟩
theorem Tryd.lays99 : Go.Proofs.Lays.n99 Tryd.prog Tryd.lays99_ren := {
  mixed := by kernel_rfl
  f99 := Tryd.func33.trans (congrArg some (by kernel_rfl))
  f206 := Tryd.func43.trans (congrArg some (by kernel_rfl))
  t3 := Tryd.underlying3
  a3 := Tryd.isAgg3
  z3 := Tryd.sizeOf3
  v3 := Tryd.zeroValue3
  t4 := Tryd.underlying4
  a4 := Tryd.isAgg4
  z4 := Tryd.sizeOf4
  v4 := Tryd.zeroValue4
  t9 := Tryd.underlying9
  a9 := Tryd.isAgg9
  z9 := Tryd.sizeOf9
  v9 := Tryd.zeroValue9 }
open Go.RowKit Go.Lib in
theorem Tryd.strings_HasPrefix (s p : ByteArray) (w : World) :
    Calls Tryd.prog 33 #[.string s, .string p] w fun e w' => e = .returned (.bool (Lib.hasPrefix s.data.toList p.data.toList)) ∧ w' = w := Any.strings_HasPrefix Tryd.lays99 s p w

end Go.Proofs
/-
  Package press: eachPressed, with whatever function it hands the runs to: a contract, over this seat's translation.
-/
namespace Go.Proofs.YtjdbpabniaclaaaDoor
open Go.RowKit Go.Shelf

theorem colon_head (l : List UInt8) : Lib.hasPrefix l [58] = decide (l.head? = some 58) := by
  cases l with
  | nil => rfl
  | cons b r =>
    by_cases h : b = 58
    · subst h
      simp [Lib.hasPrefix, List.isPrefixOf]
    · have h' : ¬ 58 = b := fun e => h e.symm
      simp [Lib.hasPrefix, List.isPrefixOf, h, h']
theorem extract_to (l : List UInt8) (i : Nat) : ({ data := l.toArray } : ByteArray).extract i l.length = ⟨(l.drop i).toArray⟩ := by
  apply ByteArray.ext
  simp [List.take_of_length_le]
theorem colon_is (x : ByteArray) (l : List UInt8) (r : Bool) (w : World) (hx : x = ⟨l.toArray⟩) (h : decide (l.head? = some 58) = r) : Calls Tryd.prog 33 #[.string x, .string ⟨#[58]⟩] w fun e w' => e = .returned (.bool r) ∧ w' = w := by
  subst hx
  refine (Tryd.strings_HasPrefix _ _ w).mono fun e w' ⟨h1, h2⟩ => ⟨?_, h2⟩
  rw [h1, ← h, ← colon_head]

/-- What was read, and what is left. -/
theorem read_on {s : List UInt8} {i k n : Nat} {d : List (Nat × UInt8)} {b : UInt8} (hr : readL s = (d ++ (readL (s.drop i)).1, (readL (s.drop i)).2.map (· + i))) (hl : readL (s.drop i) = ((n, b) :: (readL ((s.drop i).drop (k + 2))).1, (readL ((s.drop i).drop (k + 2))).2.map (· + (k + 2)))) :
    readL s = ((d ++ [(n, b)]) ++ (readL (s.drop (i + k + 2))).1, (readL (s.drop (i + k + 2))).2.map (· + (i + k + 2))) := by
  have e : (s.drop i).drop (k + 2) = s.drop (i + k + 2) := by rw [List.drop_drop]; congr 1
  rw [e] at hl
  rw [hr, hl]
  simp only [List.append_assoc, List.cons_append, List.nil_append, Option.map_map]
  congr 2
  funext x
  simp only [Function.comp]
  omega
theorem read_bad {s : List UInt8} {i k : Nat} {d : List (Nat × UInt8)} (hr : readL s = (d ++ (readL (s.drop i)).1, (readL (s.drop i)).2.map (· + i))) (hl : readL (s.drop i) = ([], some k)) : readL s = (d, some (i + k)) := by
  rw [hr, hl]
  simp only [List.append_nil, Option.map_some]
  rw [Nat.add_comm]

theorem wrongAt_is (p : Nat → Addr) (z : Int) (i : Nat) (w : World) (hz : z = i) (hE : Env p w) : Calls Tryd.prog 34 #[.int .i64 z] w fun e w' => ∃ v, e = .returned v ∧ ErrAt p w' v 1 i ∧ Below w.heap.size w w' := by
  subst hz
  exact wrongAt_any p i w hE

set_option maxRecDepth 100000 in
set_option maxHeartbeats 4000000 in
theorem eachPressed_any (p : Nat → Addr) (s : List UInt8) (g : Nat) (lb : Array Value) (eg : ∀ args w, (callFunc g args).run Tryd.prog w = .ok (.enter g args) w) (I : List (Nat × UInt8) → World → Prop) (w : World) (hs : s.length ≤ 1000000000)
    (hI : I [] w) (hE : ∀ d w, I d w → Env p w)
    (hh : ∀ d n b tl w, (readL s).1 = d ++ (n, b) :: tl → I d w → Calls Tryd.prog g (#[.int .i64 (n : Nat), .int .u8 (b : UInt8).toNat] ++ lb) w fun e w' => e = .returned (.tuple #[]) ∧ I (d ++ [(n, b)]) w') :
    Calls Tryd.prog 21 #[.string ⟨s.toArray⟩, .func (.func g) #[] lb] w fun e w' => ∃ v w1, e = .returned v ∧ I (readL s).1 w1 ∧ Below w1.heap.size w1 w' ∧ ErrAt p w' v (placeE (readL s).2).1 (placeE (readL s).2).2 := by
  have HI := Lib.hid hI
  have HE := Lib.hid hE
  have HH := Lib.hid hh
  clear hI hE hh
  go_enter Tryd.func21, Tryd.ntmps21
  go_wp2_with fail
  go_loopw [5] (fun av wr => ∃ (i : Nat) (d : List (Nat × UInt8)), i ≤ s.length ∧ av = .int .i64 (i : Int) ∧ I d wr ∧ readL s = (d ++ (readL (s.drop i)).1, (readL (s.drop i)).2.map (· + i))) (fun av _ => s.length - (intOf av).toNat)
  case atStart => exact ⟨0, [], by omega, rfl, HI.out, by simp⟩
  case round =>
    obtain ⟨i, d, hi, rfl, hid, hr⟩ := hrel
    have HD := Lib.hid hid
    have HR := Lib.hid hr
    clear hid hr HI
    by_cases hlt : i < s.length
    · have hne : s.drop i ≠ [] := fun e => by have := congrArg List.length e; simp at this; omega
      have hdl : (s.drop i).length = s.length - i := List.length_drop
      have hsl := scan_le (s.drop i) 0 0 (by decide)
      have hsg := scan_digs (s.drop i) 0 0 digs_zero
      have hbd := digs_bound hsg hsl.2.1
      have HNE := Lib.hid hne
      have HSG := Lib.hid hsg
      have HB1 := Lib.hid (fun h => readL_bad (l := s.drop i) hne h)
      have HB2 := Lib.hid (fun h0 hc hl => readL_short (l := s.drop i) hne h0 hc hl)
      have HB3 := Lib.hid (fun h0 hc hl => readL_more (l := s.drop i) hne h0 hc hl)
      clear hne hsg
      go_wp2_with fail
      refine (readTimes_any s i _ hs hi).mono ?_
      rintro e w' ⟨rfl, rfl⟩
      obtain ⟨q, hq⟩ : ∃ q, scan 0 0 (s.drop i) = q := ⟨_, rfl⟩
      rw [hq] at hsl hbd HSG HB1 HB2 HB3 ⊢
      clear hq
      obtain ⟨n, k⟩ := q
      simp only at hsl hbd HSG HB1 HB2 HB3 ⊢
      obtain ⟨j, hj⟩ : ∃ j, i + k = j := ⟨_, rfl⟩
      have hjl : j ≤ s.length := by omega
      have hdd : (s.drop i).drop k = s.drop j := by rw [List.drop_drop, hj]
      have HDD := Lib.hid hdd
      have HJ := Lib.hid hj
      rw [hj]
      clear hj hdd
      by_cases hk : k = 0
      · obtain rfl : n = 0 := HSG.out.2.2 hk
        have HBD := Lib.hid (read_bad HR.out (HB1.out (Or.inl hk)))
        clear HB1 HB2 HB3 hsl HSG hk
        go_wp2_with fail
        refine (wrongAt_any p j _ (HE.out _ _ HD.out)).mono ?_
        rintro e w1 ⟨v, rfl, hv, hb⟩
        go_wp2
        go_ret
        refine ⟨_, _, rfl, ?_, hb, ?_⟩
        · rw [HBD.out]; exact HD.out
        · rw [HBD.out, HJ.out]; exact hv
      · have hn0 : n ≠ 0 := fun e => hk (HSG.out.2.1 e)
        have hn0' : ((n : Int) == 0) = false := by simp; omega
        by_cases hc : (s.drop j).head? = some 58
        · have hjlt : j < s.length := by
            rcases Nat.lt_or_ge j s.length with h | h
            · exact h
            · rw [List.drop_eq_nil_of_le h] at hc; cases hc
          by_cases hend : j + 1 = s.length
          · have HBD := Lib.hid (read_bad HR.out (HB2.out hk (by rw [HDD.out]; exact hc) (by have := HJ.out; omega)))
            have hend' : (j : Int) + 1 = (s.length : Int) := by omega
            have HEND := Lib.hid hend
            clear HB1 HB2 HB3 hsl HSG hk hend
            go_wp2_with fail
            refine (colon_is _ (s.drop j) true _ (extract_to s j) (decide_eq_true hc)).mono ?_
            rintro e w1 ⟨rfl, rfl⟩
            go_wp2_with fail
            refine (wrongAt_is p _ (j + 1) _ (by omega) (HE.out _ _ HD.out)).mono ?_
            rintro e w1 ⟨v, rfl, hv, hb⟩
            go_wp2
            go_ret
            refine ⟨_, _, rfl, ?_, hb, ?_⟩
            · rw [HBD.out]; exact HD.out
            · rw [HBD.out, ← Nat.add_assoc, HJ.out]; exact hv
          · have HBD := Lib.hid (read_on HR.out (HB3.out hk (by rw [HDD.out]; exact hc) (by have := HJ.out; omega)))
            have hjs : j + 1 < s.length := by omega
            have hjs' : j + 1 < ({ data := s.toArray } : ByteArray).size := by simp [ByteArray.size]; omega
            have hend' : ((j : Int) + 1 == (s.length : Int)) = false := by simp; omega
            obtain ⟨b, hb⟩ : ∃ b, s[j + 1] = b := ⟨_, rfl⟩
            have hbj : ({ data := s.toArray } : ByteArray)[j + 1]'hjs' = b := hb
            have hgb : (s.drop i).getD (k + 1) 0 = b := by
              have : i + (k + 1) = j + 1 := by have := HJ.out; omega
              rw [List.getD_eq_getElem?_getD, List.getElem?_drop, this, List.getElem?_eq_getElem hjs, hb]
              rfl
            rw [hgb, HJ.out] at HBD
            have cS := HH.out d n b _ _ (congrArg Prod.fst (HBD.out.trans (by rw [List.append_assoc]))) HD.out
            clear HB1 HB2 HB3 hsl HSG hk hend hb hgb HH HR
            go_wp2_with fail
            refine (colon_is _ (s.drop j) true _ (extract_to s j) (decide_eq_true hc)).mono ?_
            rintro e w1 ⟨rfl, rfl⟩
            go_wp2_with (go_at_fn g; refine cS.mono ?_; rintro e w2 ⟨rfl, hI2⟩)
            go_roundw
            case rel => exact ⟨j + 2, d ++ [(n, b)], by omega, by go_num, hI2, HBD.out⟩
            case measure => have := HJ.out; simp [intOf]; omega
        · have HBD := Lib.hid (read_bad HR.out (HB1.out (Or.inr (by rw [HDD.out]; exact hc))))
          clear HB1 HB2 HB3 hsl HSG hk
          go_wp2_with fail
          refine (colon_is _ (s.drop j) false _ (extract_to s j) (decide_eq_false hc)).mono ?_
          rintro e w1 ⟨rfl, rfl⟩
          go_wp2_with fail
          refine (wrongAt_any p j _ (HE.out _ _ HD.out)).mono ?_
          rintro e w1 ⟨v, rfl, hv, hb⟩
          go_wp2
          go_ret
          refine ⟨_, _, rfl, ?_, hb, ?_⟩
          · rw [HBD.out]; exact HD.out
          · rw [HBD.out, HJ.out]; exact hv
    · obtain rfl : i = s.length := by omega
      have HN : Hid (readL s = (d, none)) := by
        show readL s = _
        rw [HR.out, List.drop_length, readL_nil]
        simp
      clear HR
      go_wp2
      go_ret
      refine ⟨_, _, rfl, ?_, Below.refl _ _, ?_⟩
      · rw [HN.out]; exact HD.out
      · rw [HN.out]; exact ErrAt.fine p _
end Go.Proofs.YtjdbpabniaclaaaDoor
