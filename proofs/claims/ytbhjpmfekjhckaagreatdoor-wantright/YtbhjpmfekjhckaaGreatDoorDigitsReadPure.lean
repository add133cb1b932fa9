/-
  Own texts of the proof, joined by program: Digits, ReadPure.
-/
import Derived.Lib.AtoiAllCases
import Derived.Lib.ItoaMem
/-
  Digits of numbers as lists of bytes: no machine: for whatever seat.
-/
namespace Go.Proofs.YtbhjpmfekjhckaaGreatDoor
/-- The digits of a number. -/
def digitsF : Nat → Nat → List UInt8
  | 0, n => [UInt8.ofNat (48 + n)]
  | f + 1, n => if n < 10 then [UInt8.ofNat (48 + n)] else digitsF f (n / 10) ++ [UInt8.ofNat (48 + n % 10)]
def digitsL (n : Nat) : List UInt8 := digitsF n n
theorem digitsF_fuel : ∀ (f g n : Nat), n ≤ f → n ≤ g → digitsF f n = digitsF g n
  | 0, 0, _, _, _ => rfl
  | 0, g + 1, n, hf, _ => by rw [digitsF, digitsF, if_pos (by omega)]
  | f + 1, 0, n, _, hg => by rw [digitsF, digitsF, if_pos (by omega)]
  | f + 1, g + 1, n, hf, hg => by
    by_cases h : n < 10
    · rw [digitsF, digitsF, if_pos h, if_pos h]
    · rw [digitsF, digitsF, if_neg h, if_neg h, digitsF_fuel f g (n / 10) (by omega) (by omega)]
def isDigit (b : UInt8) : Bool := decide (48 ≤ b.toNat) && decide (b.toNat ≤ 57)
/-- The value of digits, from one on. -/
def valueFrom (h : Nat) (s : List UInt8) : Nat := s.foldl (fun h b => 10 * h + (b.toNat - 48)) h
/-- A number out of its digits, so many at most, without needless zeros (-1: it is none). -/
def numberL (s : List UInt8) (most : Nat) : Int :=
  if s.length < 1 ∨ most < s.length ∨ (1 < s.length ∧ s.head? = some 48) then -1 else if s.all isDigit then (valueFrom 0 s : Nat) else -1

theorem digit_toNat {n : Nat} (h : n < 10) : (UInt8.ofNat (48 + n)).toNat = 48 + n := by
  rw [UInt8.toNat_ofNat']
  omega
theorem digits_small {n : Nat} (h : n < 10) : digitsL n = [UInt8.ofNat (48 + n)] := by
  show digitsF n n = _
  cases n with
  | zero => rfl
  | succ k => rw [digitsF, if_pos h]
theorem digits_great {n : Nat} (h : 10 ≤ n) : digitsL n = digitsL (n / 10) ++ [UInt8.ofNat (48 + n % 10)] := by
  show digitsF n n = digitsF (n / 10) (n / 10) ++ _
  obtain ⟨k, rfl⟩ : ∃ k, n = k + 1 := ⟨n - 1, by omega⟩
  rw [digitsF, if_neg (by omega), digitsF_fuel k ((k + 1) / 10) ((k + 1) / 10) (by omega) (Nat.le_refl _)]
theorem digits_digit (n : Nat) : (digitsL n).all isDigit = true := by
  induction n using Nat.strongRecOn with
  | ind n ih =>
    by_cases h : n < 10
    · rw [digits_small h]
      simp [isDigit]
      omega
    · rw [digits_great (by omega), List.all_append, ih (n / 10) (by omega)]
      have h' : n % 10 < 10 := Nat.mod_lt _ (by decide)
      simp [isDigit]
      omega
theorem digits_value (n : Nat) : valueFrom 0 (digitsL n) = n := by
  induction n using Nat.strongRecOn with
  | ind n ih =>
    by_cases h : n < 10
    · rw [digits_small h]
      simp [valueFrom]
      omega
    · have h' : n % 10 < 10 := Nat.mod_lt _ (by decide)
      have e := ih (n / 10) (by omega)
      rw [digits_great (by omega)]
      unfold valueFrom at e ⊢
      rw [List.foldl_append, e]
      simp
      omega
theorem digits_pos (n : Nat) : 0 < (digitsL n).length := by
  by_cases h : n < 10
  · rw [digits_small h]; simp
  · rw [digits_great (by omega)]; simp
theorem digits_head (n : Nat) : (digitsL n).head? = some 48 → n = 0 := by
  induction n using Nat.strongRecOn with
  | ind n ih =>
    by_cases h : n < 10
    · rw [digits_small h]
      intro e
      have e' := congrArg UInt8.toNat (Option.some.inj e)
      rw [digit_toNat h] at e'
      have : (48 : UInt8).toNat = 48 := rfl
      omega
    · rw [digits_great (by omega)]
      intro e
      have hp := digits_pos (n / 10)
      have : (digitsL (n / 10)).head? = some 48 := by
        cases hd : digitsL (n / 10) with
        | nil => rw [hd] at hp; simp at hp
        | cons a r => rw [hd] at e; simpa using e
      have := ih (n / 10) (by omega) this
      omega
theorem digits_length : ∀ (k n : Nat), n < 10 ^ (k + 1) → (digitsL n).length ≤ k + 1
  | 0, n, h => by rw [digits_small (by omega)]; simp
  | k + 1, n, h => by
    by_cases h0 : n < 10
    · rw [digits_small h0]; simp
    · rw [digits_great (by omega), List.length_append]
      have := digits_length k (n / 10) (by rw [Nat.pow_succ] at h; omega)
      simp
      omega
/-- It is read as it was written. -/
theorem number_digits {k n : Nat} (h : n < 10 ^ (k + 1)) : numberL (digitsL n) (k + 1) = n := by
  unfold numberL
  have h1 := digits_pos n
  have h2 := digits_length k n h
  rw [if_neg, digits_digit, if_pos rfl, digits_value]
  rintro (h3 | h3 | ⟨h3, h4⟩)
  · omega
  · omega
  · have := digits_head n h4
    subst this
    rw [digits_small (by omega)] at h3
    simp at h3
end Go.Proofs.YtbhjpmfekjhckaaGreatDoor
/-
  How a sum is read: plain functions over lists of bytes, and that reading is the other way round of writing: no machine.
-/
namespace Go.Proofs.YtbhjpmfekjhckaaGreatDoor

/-- Is a number a sum? -/
def isS (n : Int) : Bool := decide (0 ≤ n ∧ n < 1000000007)
/-- The text of a sum (no sum: empty). -/
def textS (n : Int) : List UInt8 := if isS n = true then 115 :: digitsL n.toNat else []
/-- A sum out of its text, and an error's number. -/
def readS (s : List UInt8) : Int × Nat := if s.head? = some 115 ∧ isS (numberL s.tail 10) = true then (numberL s.tail 10, 0) else (0, 1)

theorem value_ge : ∀ (s : List UInt8) (h : Nat), h ≤ valueFrom h s
  | [], h => Nat.le_refl _
  | b :: s, h => by
    have := value_ge s (10 * h + (b.toNat - 48))
    show h ≤ valueFrom (10 * h + (b.toNat - 48)) s
    omega
theorem digit_byte {b : UInt8} (h : isDigit b = true) : UInt8.ofNat (48 + (b.toNat - 48)) = b := by
  simp [isDigit] at h
  apply UInt8.toNat_inj.1
  rw [UInt8.toNat_ofNat']
  have := b.toNat_lt
  omega
theorem digits_from : ∀ (s : List UInt8) (h : Nat), 1 ≤ h → s.all isDigit = true → digitsL (valueFrom h s) = digitsL h ++ s
  | [], h, _, _ => by simp [valueFrom]
  | b :: s, h, h1, hd => by
    rw [List.all_cons, Bool.and_eq_true] at hd
    have hb := hd.1
    simp [isDigit] at hb
    have e := digits_from s (10 * h + (b.toNat - 48)) (by omega) hd.2
    show digitsL (valueFrom (10 * h + (b.toNat - 48)) s) = _
    rw [e, digits_great (n := 10 * h + (b.toNat - 48)) (by omega)]
    have e1 : (10 * h + (b.toNat - 48)) / 10 = h := by omega
    have e2 : (10 * h + (b.toNat - 48)) % 10 = b.toNat - 48 := by omega
    rw [e1, e2, digit_byte hd.1]
    simp
/-- What is read as a number is its digits. -/
theorem digits_of_value {s : List UInt8} (h0 : s ≠ []) (hd : s.all isDigit = true) (hz : 1 < s.length → s.head? ≠ some 48) : digitsL (valueFrom 0 s) = s := by
  cases s with
  | nil => exact absurd rfl h0
  | cons b r =>
    rw [List.all_cons, Bool.and_eq_true] at hd
    have hb := hd.1
    simp [isDigit] at hb
    have e0 : valueFrom 0 (b :: r) = valueFrom (b.toNat - 48) r := by
      show valueFrom (10 * 0 + (b.toNat - 48)) r = _
      congr 1
      omega
    have es : digitsL (b.toNat - 48) = [b] := by rw [digits_small (by omega), digit_byte hd.1]
    rw [e0]
    cases r with
    | nil => exact es
    | cons c r =>
      have hne : b ≠ 48 := fun e => hz (by simp) (by simp [e])
      have : b.toNat ≠ 48 := fun e => hne (UInt8.toNat_inj.1 e)
      rw [digits_from (c :: r) (b.toNat - 48) (by omega) hd.2, es]
      rfl
theorem number_inv {s : List UInt8} {k : Nat} (h : 0 ≤ numberL s k) : s = digitsL (numberL s k).toNat := by
  unfold numberL at h ⊢
  split at h
  · omega
  · rename_i h1
    rw [if_neg h1]
    split at h
    · rename_i h2
      rw [if_pos h2, Int.toNat_natCast, digits_of_value (fun e => h1 (Or.inl (by simp [e]))) h2 (fun hl e => h1 (Or.inr (Or.inr ⟨hl, e⟩)))]
    · omega

theorem text_is {n : Int} (h : isS n = true) : textS n = 115 :: digitsL n.toNat := by unfold textS; rw [if_pos h]
theorem isS_bounds {n : Int} (h : isS n = true) : 0 ≤ n ∧ n < 1000000007 := of_decide_eq_true h
/-- It is read as it was written. -/
theorem read_text {n : Int} (h : isS n = true) : readS (textS n) = (n, 0) := by
  have hb := isS_bounds h
  have e : numberL (digitsL n.toNat) 10 = n := by
    have := number_digits (k := 9) (n := n.toNat) (by omega)
    rw [this]
    omega
  rw [text_is h]
  unfold readS
  rw [List.tail_cons, e, if_pos ⟨rfl, h⟩]
/-- What is read was written. -/
theorem text_read {s : List UInt8} (h : s.head? = some 115 ∧ isS (numberL s.tail 10) = true) : textS (numberL s.tail 10) = s := by
  have hb := isS_bounds h.2
  rw [text_is h.2, ← number_inv hb.1]
  cases s with
  | nil => cases h.1
  | cons b r =>
    have := h.1
    simp at this
    rw [this]
    rfl
theorem read_le (s : List UInt8) : (readS s).2 ≤ 1 := by unfold readS; split <;> simp

theorem parse_digits : ∀ (s : List UInt8) (acc : Nat), s.all isDigit = true → valueFrom acc s < 18446744073709551616 → Lib.parseUint10 acc s = .ok (valueFrom acc s)
  | [], acc, _, _ => rfl
  | b :: s, acc, hd, hv => by
    rw [List.all_cons, Bool.and_eq_true] at hd
    have hb := hd.1
    simp [isDigit] at hb
    have hv' : valueFrom (10 * acc + (b.toNat - 48)) s < 18446744073709551616 := hv
    have hg := value_ge s (10 * acc + (b.toNat - 48))
    have ec : acc * 10 + (b.toNat - 48) = 10 * acc + (b.toNat - 48) := by omega
    show Lib.parseUint10 acc (b :: s) = .ok (valueFrom (10 * acc + (b.toNat - 48)) s)
    unfold Lib.parseUint10
    rw [if_pos hb, if_neg (by omega), if_neg (by omega), ec]
    exact parse_digits s _ hd.2 hv'
/-- The library reads the digits of a number. -/
theorem atoi_digits {n : Nat} (h : n < 9223372036854775808) : Lib.atoiAll (digitsL n) = .ok (n : Int) := by
  have hp := digits_pos n
  have hd := digits_digit n
  have hv := digits_value n
  have hm : Lib.parseMag (digitsL n) = .ok n := by
    unfold Lib.parseMag
    rw [if_neg (fun e => by rw [e] at hp; simp at hp), parse_digits _ _ hd (by omega), hv]
  cases hs : digitsL n with
  | nil => rw [hs] at hp; simp at hp
  | cons c r =>
    rw [hs, List.all_cons, Bool.and_eq_true] at hd
    have hc := hd.1
    simp [isDigit] at hc
    rw [Lib.atoiAll_plain c r (by omega) (by omega), ← hs, hm]
    simp only [Lib.signless]
    rw [if_neg (by omega)]
theorem itoa_digits (n : Nat) : Lib.decDigits n = digitsL n := by
  induction n using Nat.strongRecOn with
  | ind n ih =>
    by_cases h : n < 10
    · rw [Lib.decDigits, dif_pos h, digits_small h]
    · rw [Lib.decDigits, dif_neg h, digits_great (by omega), ih (n / 10) (by omega)]
end Go.Proofs.YtbhjpmfekjhckaaGreatDoor
