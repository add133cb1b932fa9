/-
  Own texts of the proof, joined by program: Digits, ReadPure, PressPure, SumPure.
-/
import Derived.Lib.AtoiAllCases
import Derived.Lib.ItoaMem
/-
  Digits of numbers as lists of bytes: no machine: for whatever seat.
-/
namespace Go.Proofs.YtmeipangcgdinaaGreatDoor
/-- The digits of a number. -/
def digitsF : Nat → Nat → List UInt8
  | 0, n => [UInt8.ofNat (48 + n)]
  | f + 1, n => if n < 10 then [UInt8.ofNat (48 + n)] else digitsF f (n / 10) ++ [UInt8.ofNat (48 + n % 10)]
def digitsL (n : Nat) : List UInt8 := digitsF n n
theorem digitsF_fuel : ∀ (f g n : Nat), n ≤ f → n ≤ g → digitsF f n = digitsF g n
  | 0, 0, _, _, _ => rfl
  | 0, g + 1, n, hf, _ => by rw [digitsF, digitsF, if_pos (by omega)]
  | f + 1, 0, n, _, hg => by rw [digitsF, digitsF, if_pos (by omega)]
  | f + 1, g + 1, n, hf, hg => by
    by_cases h : n < 10
    · rw [digitsF, digitsF, if_pos h, if_pos h]
    · rw [digitsF, digitsF, if_neg h, if_neg h, digitsF_fuel f g (n / 10) (by omega) (by omega)]
def isDigit (b : UInt8) : Bool := decide (48 ≤ b.toNat) && decide (b.toNat ≤ 57)
/-- The value of digits, from one on. -/
def valueFrom (h : Nat) (s : List UInt8) : Nat := s.foldl (fun h b => 10 * h + (b.toNat - 48)) h
/-- A number out of its digits, so many at most, without needless zeros (-1: it is none). -/
def numberL (s : List UInt8) (most : Nat) : Int :=
  if s.length < 1 ∨ most < s.length ∨ (1 < s.length ∧ s.head? = some 48) then -1 else if s.all isDigit then (valueFrom 0 s : Nat) else -1

theorem digit_toNat {n : Nat} (h : n < 10) : (UInt8.ofNat (48 + n)).toNat = 48 + n := by
  rw [UInt8.toNat_ofNat']
  omega
theorem digits_small {n : Nat} (h : n < 10) : digitsL n = [UInt8.ofNat (48 + n)] := by
  show digitsF n n = _
  cases n with
  | zero => rfl
  | succ k => rw [digitsF, if_pos h]
theorem digits_great {n : Nat} (h : 10 ≤ n) : digitsL n = digitsL (n / 10) ++ [UInt8.ofNat (48 + n % 10)] := by
  show digitsF n n = digitsF (n / 10) (n / 10) ++ _
  obtain ⟨k, rfl⟩ : ∃ k, n = k + 1 := ⟨n - 1, by omega⟩
  rw [digitsF, if_neg (by omega), digitsF_fuel k ((k + 1) / 10) ((k + 1) / 10) (by omega) (Nat.le_refl _)]
theorem digits_digit (n : Nat) : (digitsL n).all isDigit = true := by
  induction n using Nat.strongRecOn with
  | ind n ih =>
    by_cases h : n < 10
    · rw [digits_small h]
      simp [isDigit]
      omega
    · rw [digits_great (by omega), List.all_append, ih (n / 10) (by omega)]
      have h' : n % 10 < 10 := Nat.mod_lt _ (by decide)
      simp [isDigit]
      omega
theorem digits_value (n : Nat) : valueFrom 0 (digitsL n) = n := by
  induction n using Nat.strongRecOn with
  | ind n ih =>
    by_cases h : n < 10
    · rw [digits_small h]
      simp [valueFrom]
      omega
    · have h' : n % 10 < 10 := Nat.mod_lt _ (by decide)
      have e := ih (n / 10) (by omega)
      rw [digits_great (by omega)]
      unfold valueFrom at e ⊢
      rw [List.foldl_append, e]
      simp
      omega
theorem digits_pos (n : Nat) : 0 < (digitsL n).length := by
  by_cases h : n < 10
  · rw [digits_small h]; simp
  · rw [digits_great (by omega)]; simp
theorem digits_head (n : Nat) : (digitsL n).head? = some 48 → n = 0 := by
  induction n using Nat.strongRecOn with
  | ind n ih =>
    by_cases h : n < 10
    · rw [digits_small h]
      intro e
      have e' := congrArg UInt8.toNat (Option.some.inj e)
      rw [digit_toNat h] at e'
      have : (48 : UInt8).toNat = 48 := rfl
      omega
    · rw [digits_great (by omega)]
      intro e
      have hp := digits_pos (n / 10)
      have : (digitsL (n / 10)).head? = some 48 := by
        cases hd : digitsL (n / 10) with
        | nil => rw [hd] at hp; simp at hp
        | cons a r => rw [hd] at e; simpa using e
      have := ih (n / 10) (by omega) this
      omega
theorem digits_length : ∀ (k n : Nat), n < 10 ^ (k + 1) → (digitsL n).length ≤ k + 1
  | 0, n, h => by rw [digits_small (by omega)]; simp
  | k + 1, n, h => by
    by_cases h0 : n < 10
    · rw [digits_small h0]; simp
    · rw [digits_great (by omega), List.length_append]
      have := digits_length k (n / 10) (by rw [Nat.pow_succ] at h; omega)
      simp
      omega
/-- It is read as it was written. -/
theorem number_digits {k n : Nat} (h : n < 10 ^ (k + 1)) : numberL (digitsL n) (k + 1) = n := by
  unfold numberL
  have h1 := digits_pos n
  have h2 := digits_length k n h
  rw [if_neg, digits_digit, if_pos rfl, digits_value]
  rintro (h3 | h3 | ⟨h3, h4⟩)
  · omega
  · omega
  · have := digits_head n h4
    subst this
    rw [digits_small (by omega)] at h3
    simp at h3
end Go.Proofs.YtmeipangcgdinaaGreatDoor
/-
  How a sum is read: plain functions over lists of bytes, and that reading is the other way round of writing: no machine.
-/
namespace Go.Proofs.YtmeipangcgdinaaGreatDoor

/-- Is a number a sum? -/
def isS (n : Int) : Bool := decide (0 ≤ n ∧ n < 1000000007)
/-- The text of a sum (no sum: empty). -/
def textS (n : Int) : List UInt8 := if isS n = true then 115 :: digitsL n.toNat else []
/-- A sum out of its text, and an error's number. -/
def readS (s : List UInt8) : Int × Nat := if s.head? = some 115 ∧ isS (numberL s.tail 10) = true then (numberL s.tail 10, 0) else (0, 1)

theorem value_ge : ∀ (s : List UInt8) (h : Nat), h ≤ valueFrom h s
  | [], h => Nat.le_refl _
  | b :: s, h => by
    have := value_ge s (10 * h + (b.toNat - 48))
    show h ≤ valueFrom (10 * h + (b.toNat - 48)) s
    omega
theorem digit_byte {b : UInt8} (h : isDigit b = true) : UInt8.ofNat (48 + (b.toNat - 48)) = b := by
  simp [isDigit] at h
  apply UInt8.toNat_inj.1
  rw [UInt8.toNat_ofNat']
  have := b.toNat_lt
  omega
theorem digits_from : ∀ (s : List UInt8) (h : Nat), 1 ≤ h → s.all isDigit = true → digitsL (valueFrom h s) = digitsL h ++ s
  | [], h, _, _ => by simp [valueFrom]
  | b :: s, h, h1, hd => by
    rw [List.all_cons, Bool.and_eq_true] at hd
    have hb := hd.1
    simp [isDigit] at hb
    have e := digits_from s (10 * h + (b.toNat - 48)) (by omega) hd.2
    show digitsL (valueFrom (10 * h + (b.toNat - 48)) s) = _
    rw [e, digits_great (n := 10 * h + (b.toNat - 48)) (by omega)]
    have e1 : (10 * h + (b.toNat - 48)) / 10 = h := by omega
    have e2 : (10 * h + (b.toNat - 48)) % 10 = b.toNat - 48 := by omega
    rw [e1, e2, digit_byte hd.1]
    simp
/-- What is read as a number is its digits. -/
theorem digits_of_value {s : List UInt8} (h0 : s ≠ []) (hd : s.all isDigit = true) (hz : 1 < s.length → s.head? ≠ some 48) : digitsL (valueFrom 0 s) = s := by
  cases s with
  | nil => exact absurd rfl h0
  | cons b r =>
    rw [List.all_cons, Bool.and_eq_true] at hd
    have hb := hd.1
    simp [isDigit] at hb
    have e0 : valueFrom 0 (b :: r) = valueFrom (b.toNat - 48) r := by
      show valueFrom (10 * 0 + (b.toNat - 48)) r = _
      congr 1
      omega
    have es : digitsL (b.toNat - 48) = [b] := by rw [digits_small (by omega), digit_byte hd.1]
    rw [e0]
    cases r with
    | nil => exact es
    | cons c r =>
      have hne : b ≠ 48 := fun e => hz (by simp) (by simp [e])
      have : b.toNat ≠ 48 := fun e => hne (UInt8.toNat_inj.1 e)
      rw [digits_from (c :: r) (b.toNat - 48) (by omega) hd.2, es]
      rfl
theorem number_inv {s : List UInt8} {k : Nat} (h : 0 ≤ numberL s k) : s = digitsL (numberL s k).toNat := by
  unfold numberL at h ⊢
  split at h
  · omega
  · rename_i h1
    rw [if_neg h1]
    split at h
    · rename_i h2
      rw [if_pos h2, Int.toNat_natCast, digits_of_value (fun e => h1 (Or.inl (by simp [e]))) h2 (fun hl e => h1 (Or.inr (Or.inr ⟨hl, e⟩)))]
    · omega

theorem text_is {n : Int} (h : isS n = true) : textS n = 115 :: digitsL n.toNat := by unfold textS; rw [if_pos h]
theorem isS_bounds {n : Int} (h : isS n = true) : 0 ≤ n ∧ n < 1000000007 := of_decide_eq_true h
/-- It is read as it was written. -/
theorem read_text {n : Int} (h : isS n = true) : readS (textS n) = (n, 0) := by
  have hb := isS_bounds h
  have e : numberL (digitsL n.toNat) 10 = n := by
    have := number_digits (k := 9) (n := n.toNat) (by omega)
    rw [this]
    omega
  rw [text_is h]
  unfold readS
  rw [List.tail_cons, e, if_pos ⟨rfl, h⟩]
/-- What is read was written. -/
theorem text_read {s : List UInt8} (h : s.head? = some 115 ∧ isS (numberL s.tail 10) = true) : textS (numberL s.tail 10) = s := by
  have hb := isS_bounds h.2
  rw [text_is h.2, ← number_inv hb.1]
  cases s with
  | nil => cases h.1
  | cons b r =>
    have := h.1
    simp at this
    rw [this]
    rfl
theorem read_le (s : List UInt8) : (readS s).2 ≤ 1 := by unfold readS; split <;> simp

theorem parse_digits : ∀ (s : List UInt8) (acc : Nat), s.all isDigit = true → valueFrom acc s < 18446744073709551616 → Lib.parseUint10 acc s = .ok (valueFrom acc s)
  | [], acc, _, _ => rfl
  | b :: s, acc, hd, hv => by
    rw [List.all_cons, Bool.and_eq_true] at hd
    have hb := hd.1
    simp [isDigit] at hb
    have hv' : valueFrom (10 * acc + (b.toNat - 48)) s < 18446744073709551616 := hv
    have hg := value_ge s (10 * acc + (b.toNat - 48))
    have ec : acc * 10 + (b.toNat - 48) = 10 * acc + (b.toNat - 48) := by omega
    show Lib.parseUint10 acc (b :: s) = .ok (valueFrom (10 * acc + (b.toNat - 48)) s)
    unfold Lib.parseUint10
    rw [if_pos hb, if_neg (by omega), if_neg (by omega), ec]
    exact parse_digits s _ hd.2 hv'
/-- The library reads the digits of a number. -/
theorem atoi_digits {n : Nat} (h : n < 9223372036854775808) : Lib.atoiAll (digitsL n) = .ok (n : Int) := by
  have hp := digits_pos n
  have hd := digits_digit n
  have hv := digits_value n
  have hm : Lib.parseMag (digitsL n) = .ok n := by
    unfold Lib.parseMag
    rw [if_neg (fun e => by rw [e] at hp; simp at hp), parse_digits _ _ hd (by omega), hv]
  cases hs : digitsL n with
  | nil => rw [hs] at hp; simp at hp
  | cons c r =>
    rw [hs, List.all_cons, Bool.and_eq_true] at hd
    have hc := hd.1
    simp [isDigit] at hc
    rw [Lib.atoiAll_plain c r (by omega) (by omega), ← hs, hm]
    simp only [Lib.signless]
    rw [if_neg (by omega)]
theorem itoa_digits (n : Nat) : Lib.decDigits n = digitsL n := by
  induction n using Nat.strongRecOn with
  | ind n ih =>
    by_cases h : n < 10
    · rw [Lib.decDigits, dif_pos h, digits_small h]
    · rw [Lib.decDigits, dif_neg h, digits_great (by omega), ih (n / 10) (by omega)]
end Go.Proofs.YtmeipangcgdinaaGreatDoor
/-
  Pressed texts as lists of bytes: runs, how they are written, and how they are read: no machine.
-/
namespace Go.Proofs.YtmeipangcgdinaaGreatDoor

/-- A run as it is written: how often, a colon, the byte. -/
def runL (r : Nat × UInt8) : List UInt8 := digitsL r.1 ++ [58, r.2]
def writeL (l : List (Nat × UInt8)) : List UInt8 := l.flatMap runL
/-- Runs, opened. -/
def openL (l : List (Nat × UInt8)) : List UInt8 := l.flatMap fun r => List.replicate r.1 r.2
def sizeL (l : List (Nat × UInt8)) : Nat := (l.map (·.1)).sum
/-- A byte ahead of runs. -/
def putRun (b : UInt8) : List (Nat × UInt8) → List (Nat × UInt8)
  | [] => [(1, b)]
  | (n, c) :: l => if c = b then (n + 1, c) :: l else (1, b) :: (n, c) :: l
/-- The runs of a text. -/
def runs : List UInt8 → List (Nat × UInt8)
  | [] => []
  | b :: r => putRun b (runs r)
def pressL (s : List UInt8) : List UInt8 := writeL (runs s)

theorem writeL_nil : writeL [] = [] := rfl
theorem writeL_snoc (l : List (Nat × UInt8)) (r : Nat × UInt8) : writeL (l ++ [r]) = writeL l ++ runL r := by simp [writeL]
theorem writeL_cons (l : List (Nat × UInt8)) (r : Nat × UInt8) : writeL (r :: l) = runL r ++ writeL l := by simp [writeL]
theorem writeL_app (l m : List (Nat × UInt8)) : writeL (l ++ m) = writeL l ++ writeL m := by simp [writeL]
theorem openL_snoc (l : List (Nat × UInt8)) (r : Nat × UInt8) : openL (l ++ [r]) = openL l ++ List.replicate r.1 r.2 := by simp [openL]
theorem openL_app (l m : List (Nat × UInt8)) : openL (l ++ m) = openL l ++ openL m := by simp [openL]
theorem sizeL_snoc (l : List (Nat × UInt8)) (r : Nat × UInt8) : sizeL (l ++ [r]) = sizeL l + r.1 := by simp [sizeL]
theorem sizeL_app (l m : List (Nat × UInt8)) : sizeL (l ++ m) = sizeL l + sizeL m := by simp [sizeL]
theorem openL_length (l : List (Nat × UInt8)) : (openL l).length = sizeL l := by
  induction l with
  | nil => rfl
  | cons r l ih =>
    show (List.replicate r.1 r.2 ++ openL l).length = r.1 + sizeL l
    rw [List.length_append, List.length_replicate, ih]

theorem runs_head (b : UInt8) (r : List UInt8) : ∃ n l, runs (b :: r) = (n + 1, b) :: l := by
  show ∃ n l, putRun b (runs r) = _
  cases h : runs r with
  | nil => exact ⟨0, [], rfl⟩
  | cons x l =>
    obtain ⟨n, c⟩ := x
    unfold putRun
    by_cases hc : c = b
    · subst hc
      exact ⟨n, l, by simp⟩
    · exact ⟨0, (n, c) :: l, by simp [hc]⟩
theorem runs_rep : ∀ (k : Nat) (b : UInt8) (l : List UInt8), l.head? ≠ some b → runs (List.replicate (k + 1) b ++ l) = (k + 1, b) :: runs l
  | 0, b, l, h => by
    show putRun b (runs l) = _
    cases l with
    | nil => rfl
    | cons c l =>
      obtain ⟨n, m, e⟩ := runs_head c l
      rw [e]
      have hc : c ≠ b := fun e => h (by simp [e])
      simp [putRun, hc]
  | k + 1, b, l, h => by
    show putRun b (runs (List.replicate (k + 1) b ++ l)) = _
    rw [runs_rep k b l h]
    simp [putRun]
theorem open_put (b : UInt8) (l : List (Nat × UInt8)) : openL (putRun b l) = b :: openL l := by
  cases l with
  | nil => rfl
  | cons x l =>
    obtain ⟨n, c⟩ := x
    by_cases hc : c = b
    · subst hc
      simp [openL, putRun, List.replicate_succ]
    · simp [openL, putRun, hc]
theorem open_runs (s : List UInt8) : openL (runs s) = s := by
  induction s with
  | nil => rfl
  | cons b r ih =>
    show openL (putRun b (runs r)) = _
    rw [open_put, ih]
theorem size_runs (s : List UInt8) : sizeL (runs s) = s.length := by rw [← openL_length, open_runs]
theorem put_mem {b : UInt8} {l : List (Nat × UInt8)} {r : Nat × UInt8} {k : Nat} (h : r ∈ putRun b l) (hl : ∀ r ∈ l, 1 ≤ r.1 ∧ r.1 ≤ k) : 1 ≤ r.1 ∧ r.1 ≤ k + 1 := by
  cases l with
  | nil =>
    have e : r = (1, b) := List.mem_singleton.1 h
    subst e
    simp
  | cons x l =>
    obtain ⟨n, c⟩ := x
    have h0 := hl (n, c) (by simp)
    simp only at h0
    by_cases hc : c = b
    · rw [putRun, if_pos hc] at h
      rcases List.mem_cons.1 h with rfl | h''
      · simp only; omega
      · have := hl r (by simp [h'']); omega
    · rw [putRun, if_neg hc] at h
      rcases List.mem_cons.1 h with rfl | h''
      · simp only; omega
      · have := hl r h''; omega
theorem runs_mem {s : List UInt8} : ∀ {r : Nat × UInt8}, r ∈ runs s → 1 ≤ r.1 ∧ r.1 ≤ s.length := by
  induction s with
  | nil => intro r h; cases h
  | cons b t ih =>
    intro r h
    rw [List.length_cons]
    exact put_mem (l := runs t) h fun r hr => ih hr

/-- Digits from a place on, nine at most, without a zero ahead: their value, and how many. -/
def scan : Nat → Nat → List UInt8 → Nat × Nat
  | k, n, [] => (n, k)
  | k, n, b :: r => if k < 9 ∧ isDigit b = true ∧ ¬ (k = 0 ∧ b = 48) then scan (k + 1) (10 * n + (b.toNat - 48)) r else (n, k)
theorem scan_nil (k n : Nat) : scan k n [] = (n, k) := rfl
theorem scan_go {k n : Nat} {b : UInt8} {r : List UInt8} (h : k < 9 ∧ isDigit b = true ∧ ¬ (k = 0 ∧ b = 48)) : scan k n (b :: r) = scan (k + 1) (10 * n + (b.toNat - 48)) r := by rw [scan, if_pos h]
theorem scan_end {k n : Nat} {b : UInt8} {r : List UInt8} (h : ¬ (k < 9 ∧ isDigit b = true ∧ ¬ (k = 0 ∧ b = 48))) : scan k n (b :: r) = (n, k) := by rw [scan, if_neg h]
theorem scan_le : ∀ (l : List UInt8) (k n : Nat), k ≤ 9 → (scan k n l).2 ≤ k + l.length ∧ (scan k n l).2 ≤ 9 ∧ k ≤ (scan k n l).2
  | [], k, n, h => by simp [scan]; exact h
  | b :: r, k, n, h => by
    by_cases hc : k < 9 ∧ isDigit b = true ∧ ¬ (k = 0 ∧ b = 48)
    · rw [scan_go hc]
      have := scan_le r (k + 1) (10 * n + (b.toNat - 48)) (by omega)
      rw [List.length_cons]
      omega
    · rw [scan_end hc]
      simp
      exact h
theorem digit_le {b : UInt8} (h : isDigit b = true) : 48 ≤ b.toNat ∧ b.toNat ≤ 57 := by simpa [isDigit] using h
/-- Numbers of so many digits. -/
def Digs (k n : Nat) : Prop := n < 10 ^ k ∧ (n = 0 ↔ k = 0)
theorem digs_zero : Digs 0 0 := ⟨by decide, by decide⟩
theorem digs_go {k n : Nat} {b : UInt8} (h : Digs k n) (hd : isDigit b = true) (hz : ¬ (k = 0 ∧ b = 48)) : Digs (k + 1) (10 * n + (b.toNat - 48)) := by
  have hb := digit_le hd
  have h1 := h.1
  have h2 := h.2
  refine ⟨by rw [Nat.pow_succ]; omega, ?_⟩
  constructor
  · intro e
    exfalso
    have hn : n = 0 := by omega
    have hk := h2.1 hn
    exact hz ⟨hk, UInt8.toNat_inj.1 (by show b.toNat = 48; omega)⟩
  · intro e
    omega
theorem scan_digs : ∀ (l : List UInt8) (k n : Nat), Digs k n → Digs (scan k n l).2 (scan k n l).1
  | [], k, n, h => h
  | b :: r, k, n, h => by
    by_cases hc : k < 9 ∧ isDigit b = true ∧ ¬ (k = 0 ∧ b = 48)
    · rw [scan_go hc]
      exact scan_digs r (k + 1) _ (digs_go h hc.2.1 hc.2.2)
    · rw [scan_end hc]
      exact h
theorem digs_bound {k n : Nat} (h : Digs k n) (hk : k ≤ 9) : n ≤ 999999999 := by
  have h1 := h.1
  have : 10 ^ k ≤ 10 ^ 9 := Nat.pow_le_pow_right (by decide) hk
  omega
theorem scan_digits : ∀ (ds : List UInt8) (k v : Nat) (c : UInt8) (r : List UInt8), ds.all isDigit = true → k + ds.length ≤ 9 → (k = 0 → ds.head? ≠ some 48) → isDigit c = false →
    scan k v (ds ++ c :: r) = (valueFrom v ds, k + ds.length)
  | [], k, v, c, r, _, _, _, hc => by
    show scan k v (c :: r) = _
    rw [scan_end (by rw [hc]; simp)]
    rfl
  | b :: ds, k, v, c, r, hd, hl, hh, hc => by
    rw [List.all_cons, Bool.and_eq_true] at hd
    rw [List.length_cons] at hl
    have hg : k < 9 ∧ isDigit b = true ∧ ¬ (k = 0 ∧ b = 48) := ⟨by omega, hd.1, fun ⟨e, e'⟩ => hh e (by simp [e'])⟩
    show scan k v (b :: (ds ++ c :: r)) = _
    rw [scan_go hg, scan_digits ds (k + 1) _ c r hd.2 (by omega) (by omega) hc, List.length_cons]
    show (valueFrom (10 * v + (b.toNat - 48)) ds, _) = (valueFrom (10 * v + (b.toNat - 48)) ds, _)
    congr 1
    omega
theorem scan_number {n : Nat} (h1 : 1 ≤ n) (h2 : n ≤ 999999999) (r : List UInt8) : scan 0 0 (digitsL n ++ 58 :: r) = (n, (digitsL n).length) := by
  rw [scan_digits (digitsL n) 0 0 58 r (digits_digit n) (by have := digits_length 8 n (by omega); omega) (fun _ e => by have := digits_head n e; omega) (by decide), digits_value]
  simp

/-- A pressed text read: its runs up to what is none, and where that is. -/
def readF : Nat → List UInt8 → List (Nat × UInt8) × Option Nat
  | 0, _ => ([], none)
  | f + 1, l =>
    if l = [] then ([], none)
    else if (scan 0 0 l).2 = 0 ∨ (l.drop (scan 0 0 l).2).head? ≠ some 58 then ([], some (scan 0 0 l).2)
    else if l.length = (scan 0 0 l).2 + 1 then ([], some ((scan 0 0 l).2 + 1))
    else (((scan 0 0 l).1, l.getD ((scan 0 0 l).2 + 1) 0) :: (readF f (l.drop ((scan 0 0 l).2 + 2))).1, (readF f (l.drop ((scan 0 0 l).2 + 2))).2.map (· + ((scan 0 0 l).2 + 2)))
def readL (l : List UInt8) : List (Nat × UInt8) × Option Nat := readF l.length l

theorem readF_fuel : ∀ (f g : Nat) (l : List UInt8), l.length ≤ f → l.length ≤ g → readF f l = readF g l
  | 0, g, l, hf, _ => by
    have e : l = [] := List.length_eq_zero_iff.1 (by omega)
    subst e
    cases g <;> simp [readF]
  | f + 1, 0, l, _, hg => by
    have e : l = [] := List.length_eq_zero_iff.1 (by omega)
    subst e
    simp [readF]
  | f + 1, g + 1, l, hf, hg => by
    have e : readF f (l.drop ((scan 0 0 l).2 + 2)) = readF g (l.drop ((scan 0 0 l).2 + 2)) := readF_fuel f g _ (by rw [List.length_drop]; omega) (by rw [List.length_drop]; omega)
    simp only [readF, e]
theorem readL_nil : readL [] = ([], none) := rfl
theorem readL_step {l : List UInt8} (h : l ≠ []) : readL l = if (scan 0 0 l).2 = 0 ∨ (l.drop (scan 0 0 l).2).head? ≠ some 58 then ([], some (scan 0 0 l).2)
    else if l.length = (scan 0 0 l).2 + 1 then ([], some ((scan 0 0 l).2 + 1))
    else (((scan 0 0 l).1, l.getD ((scan 0 0 l).2 + 1) 0) :: (readL (l.drop ((scan 0 0 l).2 + 2))).1, (readL (l.drop ((scan 0 0 l).2 + 2))).2.map (· + ((scan 0 0 l).2 + 2))) := by
  have hl : 0 < l.length := List.length_pos_iff.2 h
  obtain ⟨f, hf⟩ : ∃ f, l.length = f + 1 := ⟨l.length - 1, by omega⟩
  have e : readF f (l.drop ((scan 0 0 l).2 + 2)) = readL (l.drop ((scan 0 0 l).2 + 2)) := readF_fuel f _ _ (by rw [List.length_drop]; omega) (Nat.le_refl _)
  conv => lhs; unfold readL; rw [hf, readF, if_neg h, e]
theorem readL_bad {l : List UInt8} (h : l ≠ []) (hb : (scan 0 0 l).2 = 0 ∨ (l.drop (scan 0 0 l).2).head? ≠ some 58) : readL l = ([], some (scan 0 0 l).2) := by rw [readL_step h, if_pos hb]
theorem readL_short {l : List UInt8} (h : l ≠ []) (h0 : (scan 0 0 l).2 ≠ 0) (hc : (l.drop (scan 0 0 l).2).head? = some 58) (hl : l.length = (scan 0 0 l).2 + 1) : readL l = ([], some ((scan 0 0 l).2 + 1)) := by
  rw [readL_step h, if_neg (fun e => e.elim h0 fun e => e hc), if_pos hl]
theorem readL_more {l : List UInt8} (h : l ≠ []) (h0 : (scan 0 0 l).2 ≠ 0) (hc : (l.drop (scan 0 0 l).2).head? = some 58) (hl : l.length ≠ (scan 0 0 l).2 + 1) :
    readL l = (((scan 0 0 l).1, l.getD ((scan 0 0 l).2 + 1) 0) :: (readL (l.drop ((scan 0 0 l).2 + 2))).1, (readL (l.drop ((scan 0 0 l).2 + 2))).2.map (· + ((scan 0 0 l).2 + 2))) := by
  rw [readL_step h, if_neg (fun e => e.elim h0 fun e => e hc), if_neg hl]

theorem read_run {n : Nat} (h1 : 1 ≤ n) (h2 : n ≤ 999999999) (b : UInt8) (t : List UInt8) : readL (runL (n, b) ++ t) = ((n, b) :: (readL t).1, (readL t).2.map (· + (runL (n, b)).length)) := by
  have e : runL (n, b) ++ t = digitsL n ++ 58 :: b :: t := by simp [runL]
  have hp := digits_pos n
  have hs : scan 0 0 (runL (n, b) ++ t) = (n, (digitsL n).length) := by rw [e]; exact scan_number h1 h2 _
  have hd : (runL (n, b) ++ t).drop (digitsL n).length = 58 :: b :: t := by rw [e, List.drop_left]
  have hd2 : (runL (n, b) ++ t).drop ((digitsL n).length + 2) = t := by rw [← List.drop_drop, hd]; rfl
  have hg : (runL (n, b) ++ t).getD ((digitsL n).length + 1) 0 = b := by
    rw [e, List.getD_eq_getElem?_getD, List.getElem?_append_right (by omega)]
    simp
  have hl : (runL (n, b)).length = (digitsL n).length + 2 := by simp [runL]
  rw [readL_more (by rw [e]; simp) (by rw [hs]; simp only; omega) (by rw [hs]; simp only; rw [hd]; rfl) (by rw [hs, List.length_append, hl]; simp only; omega), hs]
  simp only
  rw [hd2, hg, hl]
/-- What is written is read. -/
theorem read_write : ∀ (l : List (Nat × UInt8)) (t : List UInt8), (∀ r ∈ l, 1 ≤ r.1 ∧ r.1 ≤ 999999999) → readL (writeL l ++ t) = (l ++ (readL t).1, (readL t).2.map (· + (writeL l).length))
  | [], t, _ => by
    show readL t = ((readL t).1, (readL t).2.map fun x => x)
    simp
  | (n, b) :: l, t, h => by
    have h0 := h (n, b) (by simp)
    have ih := read_write l t (fun r hr => h r (by simp [hr]))
    rw [writeL_cons, List.append_assoc, read_run h0.1 h0.2, ih]
    simp only [Option.map_map, List.cons_append, List.length_append]
    congr 2
    funext x
    simp only [Function.comp]
    omega
theorem read_press (s t : List UInt8) (h : s.length ≤ 999999999) : readL (pressL s ++ t) = (runs s ++ (readL t).1, (readL t).2.map (· + (pressL s).length)) :=
  read_write (runs s) t fun r hr => by have := runs_mem hr; omega
theorem read_one (s : List UInt8) (h : s.length ≤ 999999999) : readL (pressL s) = (runs s, none) := by
  have := read_press s [] h
  rw [List.append_nil, readL_nil] at this
  simpa using this
theorem read_two (s t : List UInt8) (hs : s.length ≤ 999999999) (ht : t.length ≤ 999999999) : readL (pressL s ++ pressL t) = (runs s ++ runs t, none) := by
  rw [read_press s _ hs, read_one t ht]
  rfl

/-- What is read of any text: few runs, and none too long. -/
theorem read_few : ∀ (f : Nat) (l : List UInt8), l.length ≤ f → (readL l).1.length * 3 ≤ l.length ∧ ∀ r ∈ (readL l).1, 1 ≤ r.1 ∧ r.1 ≤ 999999999
  | 0, l, h => by
    have e : l = [] := List.length_eq_zero_iff.1 (by omega)
    subst e
    simp [readL_nil]
  | f + 1, l, h => by
    by_cases h0 : l = []
    · subst h0
      simp [readL_nil]
    · by_cases h1 : (scan 0 0 l).2 = 0 ∨ (l.drop (scan 0 0 l).2).head? ≠ some 58
      · rw [readL_bad h0 h1]
        simp
      · have h2 : (scan 0 0 l).2 ≠ 0 := fun e => h1 (Or.inl e)
        have h3 : (l.drop (scan 0 0 l).2).head? = some 58 := by
          rcases Decidable.em ((l.drop (scan 0 0 l).2).head? = some 58) with h | h
          · exact h
          · exact absurd (Or.inr h) h1
        by_cases h4 : l.length = (scan 0 0 l).2 + 1
        · rw [readL_short h0 h2 h3 h4]
          simp
        · rw [readL_more h0 h2 h3 h4]
          have hlen : (scan 0 0 l).2 < l.length := by
            rcases Nat.lt_or_ge (scan 0 0 l).2 l.length with h | h
            · exact h
            · rw [List.drop_eq_nil_of_le h] at h3; cases h3
          have ih := read_few f (l.drop ((scan 0 0 l).2 + 2)) (by rw [List.length_drop]; omega)
          rw [List.length_drop] at ih
          have ht := scan_digs l 0 0 digs_zero
          have hb := digs_bound ht (scan_le l 0 0 (by decide)).2.1
          have hn : (scan 0 0 l).1 ≠ 0 := fun e => h2 (ht.2.1 e)
          refine ⟨by simp only [List.length_cons]; omega, fun r hr => ?_⟩
          rcases List.mem_cons.1 hr with rfl | hr
          · simp only; omega
          · exact ih.2 r hr
theorem size_bound {l : List (Nat × UInt8)} (h : ∀ r ∈ l, 1 ≤ r.1 ∧ r.1 ≤ 999999999) : sizeL l ≤ 999999999 * l.length := by
  induction l with
  | nil => simp [sizeL]
  | cons r l ih =>
    have := ih fun x hx => h x (by simp [hx])
    have := (h r (by simp)).2
    show r.1 + sizeL l ≤ _
    rw [List.length_cons]
    omega
theorem read_bound (l : List UInt8) : 3 * sizeL (readL l).1 ≤ 999999999 * l.length := by
  have h := read_few l.length l (Nat.le_refl _)
  have := size_bound h.2
  omega

/-- An error's number and place by where something is none. -/
def placeE : Option Nat → Nat × Int
  | none => (0, -1)
  | some k => (1, k)
/-- The runs of a text, none where something in it is none. -/
def runsS (s : List UInt8) : List (Nat × UInt8) := if (readL s).2 = none then (readL s).1 else []
/-- What a text is opened to, an error's number and place. -/
def openS (s : List UInt8) (most : Int) : List UInt8 × Nat × Int :=
  if (readL s).2 ≠ none then ([], placeE (readL s).2) else if most < sizeL (readL s).1 then ([], 8, -1) else (openL (readL s).1, 0, -1)
theorem runsS_some {s : List UInt8} {k : Nat} (h : (readL s).2 = some k) : runsS s = [] := by unfold runsS; rw [h, if_neg (by simp)]
theorem runsS_none {s : List UInt8} (h : (readL s).2 = none) : runsS s = (readL s).1 := by unfold runsS; rw [h, if_pos rfl]
theorem openS_some {s : List UInt8} {k : Nat} (most : Int) (h : (readL s).2 = some k) : openS s most = ([], 1, (k : Int)) := by unfold openS; rw [h, if_pos (by simp)]; rfl
theorem openS_full {s : List UInt8} {most : Int} (h : (readL s).2 = none) (hm : most < sizeL (readL s).1) : openS s most = ([], 8, -1) := by unfold openS; rw [h, if_neg (by simp), if_pos hm]
theorem openS_fine {s : List UInt8} {most : Int} (h : (readL s).2 = none) (hm : ¬ most < sizeL (readL s).1) : openS s most = (openL (readL s).1, 0, -1) := by unfold openS; rw [h, if_neg (by simp), if_neg hm]
theorem size_runsS (s : List UInt8) : 3 * sizeL (runsS s) ≤ 999999999 * s.length := by
  unfold runsS
  split
  · exact read_bound s
  · simp [sizeL]
end Go.Proofs.YtmeipangcgdinaaGreatDoor
/-
  Sums as numbers over lists of bytes: no machine: for whatever seat.
-/
namespace Go.Proofs.YtmeipangcgdinaaGreatDoor
/-- The modulus of sums. -/
abbrev Mo : Nat := 1000000007
/-- The sum of a text, byte by byte from the front. -/
def sumFrom (h : Nat) (s : List UInt8) : Nat := s.foldl (fun h b => (h * 263 + b.toNat + 1) % Mo) h
def sumL (s : List UInt8) : Nat := sumFrom 0 s
/-- .. without the remainders. -/
def bare (h : Nat) (s : List UInt8) : Nat := s.foldl (fun h b => h * 263 + b.toNat + 1) h

theorem bare_cons (h : Nat) (b : UInt8) (s : List UInt8) : bare h (b :: s) = bare (h * 263 + b.toNat + 1) s := rfl
theorem bare_app (h : Nat) (a b : List UInt8) : bare h (a ++ b) = bare (bare h a) b := by simp [bare]
theorem bare_add : ∀ (s : List UInt8) (h : Nat), bare h s = h * 263 ^ s.length + bare 0 s
  | [], h => by simp [bare]
  | b :: s, h => by
    rw [bare_cons, bare_cons, bare_add s (h * 263 + b.toNat + 1), bare_add s (0 * 263 + b.toNat + 1), List.length_cons, Nat.pow_succ]
    rw [Nat.zero_mul, Nat.zero_add, Nat.add_assoc (h * 263), Nat.add_mul (h * 263), Nat.mul_assoc h 263, Nat.mul_comm 263, Nat.add_assoc]
theorem sumFrom_bare : ∀ (s : List UInt8) (h : Nat), sumFrom (h % Mo) s = bare h s % Mo
  | [], h => rfl
  | b :: s, h => by
    show sumFrom ((h % Mo * 263 + b.toNat + 1) % Mo) s = bare (h * 263 + b.toNat + 1) s % Mo
    rw [← sumFrom_bare s (h * 263 + b.toNat + 1)]
    have e : (h % Mo * 263 + b.toNat + 1) % Mo = (h * 263 + b.toNat + 1) % Mo := by
      unfold Mo
      omega
    rw [e]
theorem sumL_bare (s : List UInt8) : sumL s = bare 0 s % Mo := sumFrom_bare s 0
theorem sumL_lt (s : List UInt8) : sumL s < Mo := by rw [sumL_bare]; exact Nat.mod_lt _ (by decide)
theorem sumL_snoc (s : List UInt8) (b : UInt8) : sumL (s ++ [b]) = (sumL s * 263 + b.toNat + 1) % Mo := by simp [sumL, sumFrom]
/-- The power of the base. -/
def powM (n : Nat) : Nat := 263 ^ n % Mo
theorem powM_lt (n : Nat) : powM n < Mo := Nat.mod_lt _ (by decide)
theorem powM_zero : powM 0 = 1 := rfl
theorem powM_succ (n : Nat) : powM (n + 1) = powM n * 263 % Mo := by
  unfold powM
  rw [Nat.pow_succ, Nat.mod_mul_mod]
theorem powM_add (a b : Nat) : powM (a + b) = powM a * powM b % Mo := by
  unfold powM
  rw [Nat.pow_add, ← Nat.mul_mod]
theorem sumL_app (a b : List UInt8) : sumL (a ++ b) = (sumL a * powM b.length + sumL b) % Mo := by
  rw [sumL_bare, sumL_bare a, sumL_bare b, bare_app, bare_add b (bare 0 a)]
  unfold powM
  rw [Nat.add_mod, Nat.mul_mod]
  simp [Nat.add_mod]
theorem sumL_cons (b : UInt8) (s : List UInt8) : sumL (b :: s) = ((b.toNat + 1) * powM s.length + sumL s) % Mo := by
  have h := sumL_app [b] s
  have e : sumL [b] = b.toNat + 1 := by
    have := b.toNat_lt
    show (0 * 263 + b.toNat + 1) % 1000000007 = _
    omega
  rw [e] at h
  exact h
/-- The base and the modulus have no common factor. -/
theorem base_coprime (n : Nat) : Nat.Coprime Mo (263 ^ n) := Nat.Coprime.pow_right n (by decide)
theorem byte_apart {x y : UInt8} {n u v : Nat} (h : (u + (x.toNat + 1) * 263 ^ n + v) % Mo = (u + (y.toNat + 1) * 263 ^ n + v) % Mo) : x = y := by
  have hx := x.toNat_lt
  have hy := y.toNat_lt
  have key : ∀ p q : Nat, p < 256 → q < 256 → q ≤ p → (u + (p + 1) * 263 ^ n + v) % Mo = (u + (q + 1) * 263 ^ n + v) % Mo → p = q := by
    intro p q hp hq hle he
    have e : u + (p + 1) * 263 ^ n + v = (u + (q + 1) * 263 ^ n + v) + (p - q) * 263 ^ n := by
      have : (p + 1) * 263 ^ n = (q + 1) * 263 ^ n + (p - q) * 263 ^ n := by rw [← Nat.add_mul]; congr 1; omega
      omega
    have hd : Mo ∣ (p - q) * 263 ^ n := by
      rw [e] at he
      have := Nat.sub_mod_eq_zero_of_mod_eq he
      rw [Nat.add_sub_cancel_left] at this
      exact Nat.dvd_of_mod_eq_zero this
    have hd2 : Mo ∣ p - q := (base_coprime n).dvd_of_dvd_mul_right hd
    have hz : p - q = 0 := by
      rcases Nat.eq_zero_or_pos (p - q) with h0 | h0
      · exact h0
      · have := Nat.le_of_dvd h0 hd2
        unfold Mo at this
        omega
    omega
  have : x.toNat = y.toNat := by
    rcases Nat.le_total y.toNat x.toNat with h0 | h0
    · exact key _ _ (by omega) (by omega) h0 h
    · exact (key _ _ (by omega) (by omega) h0 h.symm).symm
  exact UInt8.toNat_inj.1 this
theorem sumL_mid (a b : List UInt8) (x : UInt8) : sumL (a ++ x :: b) = (bare 0 a * 263 ^ (b.length + 1) + (x.toNat + 1) * 263 ^ b.length + bare 0 b) % Mo := by
  rw [sumL_bare, bare_app, bare_add (x :: b) (bare 0 a), bare_cons, bare_add b (0 * 263 + x.toNat + 1), List.length_cons, Nat.zero_mul, Nat.zero_add, Nat.add_assoc]
/-- With one byte another one, it is another. -/
theorem sumL_other {a b : List UInt8} {x y : UInt8} (h : x ≠ y) : sumL (a ++ x :: b) ≠ sumL (a ++ y :: b) := fun e => by
  rw [sumL_mid, sumL_mid] at e
  exact h (byte_apart e)
theorem sumL_set {a b : List UInt8} {i : Nat} {x : UInt8} (hi : i < a.length) (h : a[i] ≠ x) : sumL (a.set i x ++ b) ≠ sumL (a ++ b) := by
  have e1 : a.set i x = a.take i ++ x :: a.drop (i + 1) := by rw [List.set_eq_take_append_cons_drop, if_pos hi]
  have e2 : a = a.take i ++ a[i] :: a.drop (i + 1) := by rw [← List.drop_eq_getElem_cons hi, List.take_append_drop]
  have h1 : sumL (a.set i x ++ b) = sumL (a.take i ++ x :: (a.drop (i + 1) ++ b)) := by rw [e1]; simp
  have h2 : sumL (a ++ b) = sumL (a.take i ++ a[i] :: (a.drop (i + 1) ++ b)) := by
    rw [← List.cons_append, ← List.append_assoc, ← e2]
  rw [h1, h2]
  exact sumL_other (Ne.symm h)
end Go.Proofs.YtmeipangcgdinaaGreatDoor
