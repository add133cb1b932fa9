/-
  Digits of numbers as lists of bytes: no machine: for whatever seat.
-/
namespace Go.Proofs.YtkcjgncpcidfoaaDoor
/-- The digits of a number. -/
def digitsF : Nat → Nat → List UInt8
  | 0, n => [UInt8.ofNat (48 + n)]
  | f + 1, n => if n < 10 then [UInt8.ofNat (48 + n)] else digitsF f (n / 10) ++ [UInt8.ofNat (48 + n % 10)]
def digitsL (n : Nat) : List UInt8 := digitsF n n
theorem digitsF_fuel : ∀ (f g n : Nat), n ≤ f → n ≤ g → digitsF f n = digitsF g n
  | 0, 0, _, _, _ => rfl
  | 0, g + 1, n, hf, _ => by rw [digitsF, digitsF, if_pos (by omega)]
  | f + 1, 0, n, _, hg => by rw [digitsF, digitsF, if_pos (by omega)]
  | f + 1, g + 1, n, hf, hg => by
    by_cases h : n < 10
    · rw [digitsF, digitsF, if_pos h, if_pos h]
    · rw [digitsF, digitsF, if_neg h, if_neg h, digitsF_fuel f g (n / 10) (by omega) (by omega)]
def isDigit (b : UInt8) : Bool := decide (48 ≤ b.toNat) && decide (b.toNat ≤ 57)
/-- The value of digits, from one on. -/
def valueFrom (h : Nat) (s : List UInt8) : Nat := s.foldl (fun h b => 10 * h + (b.toNat - 48)) h
/-- A number out of its digits, so many at most, without needless zeros (-1: it is none). -/
def numberL (s : List UInt8) (most : Nat) : Int :=
  if s.length < 1 ∨ most < s.length ∨ (1 < s.length ∧ s.head? = some 48) then -1 else if s.all isDigit then (valueFrom 0 s : Nat) else -1

theorem digit_toNat {n : Nat} (h : n < 10) : (UInt8.ofNat (48 + n)).toNat = 48 + n := by
  rw [UInt8.toNat_ofNat']
  omega
theorem digits_small {n : Nat} (h : n < 10) : digitsL n = [UInt8.ofNat (48 + n)] := by
  show digitsF n n = _
  cases n with
  | zero => rfl
  | succ k => rw [digitsF, if_pos h]
theorem digits_great {n : Nat} (h : 10 ≤ n) : digitsL n = digitsL (n / 10) ++ [UInt8.ofNat (48 + n % 10)] := by
  show digitsF n n = digitsF (n / 10) (n / 10) ++ _
  obtain ⟨k, rfl⟩ : ∃ k, n = k + 1 := ⟨n - 1, by omega⟩
  rw [digitsF, if_neg (by omega), digitsF_fuel k ((k + 1) / 10) ((k + 1) / 10) (by omega) (Nat.le_refl _)]
theorem digits_digit (n : Nat) : (digitsL n).all isDigit = true := by
  induction n using Nat.strongRecOn with
  | ind n ih =>
    by_cases h : n < 10
    · rw [digits_small h]
      simp [isDigit]
      omega
    · rw [digits_great (by omega), List.all_append, ih (n / 10) (by omega)]
      have h' : n % 10 < 10 := Nat.mod_lt _ (by decide)
      simp [isDigit]
      omega
theorem digits_value (n : Nat) : valueFrom 0 (digitsL n) = n := by
  induction n using Nat.strongRecOn with
  | ind n ih =>
    by_cases h : n < 10
    · rw [digits_small h]
      simp [valueFrom]
      omega
    · have h' : n % 10 < 10 := Nat.mod_lt _ (by decide)
      have e := ih (n / 10) (by omega)
      rw [digits_great (by omega)]
      unfold valueFrom at e ⊢
      rw [List.foldl_append, e]
      simp
      omega
theorem digits_pos (n : Nat) : 0 < (digitsL n).length := by
  by_cases h : n < 10
  · rw [digits_small h]; simp
  · rw [digits_great (by omega)]; simp
theorem digits_head (n : Nat) : (digitsL n).head? = some 48 → n = 0 := by
  induction n using Nat.strongRecOn with
  | ind n ih =>
    by_cases h : n < 10
    · rw [digits_small h]
      intro e
      have e' := congrArg UInt8.toNat (Option.some.inj e)
      rw [digit_toNat h] at e'
      have : (48 : UInt8).toNat = 48 := rfl
      omega
    · rw [digits_great (by omega)]
      intro e
      have hp := digits_pos (n / 10)
      have : (digitsL (n / 10)).head? = some 48 := by
        cases hd : digitsL (n / 10) with
        | nil => rw [hd] at hp; simp at hp
        | cons a r => rw [hd] at e; simpa using e
      have := ih (n / 10) (by omega) this
      omega
theorem digits_length : ∀ (k n : Nat), n < 10 ^ (k + 1) → (digitsL n).length ≤ k + 1
  | 0, n, h => by rw [digits_small (by omega)]; simp
  | k + 1, n, h => by
    by_cases h0 : n < 10
    · rw [digits_small h0]; simp
    · rw [digits_great (by omega), List.length_append]
      have := digits_length k (n / 10) (by rw [Nat.pow_succ] at h; omega)
      simp
      omega
/-- It is read as it was written. -/
theorem number_digits {k n : Nat} (h : n < 10 ^ (k + 1)) : numberL (digitsL n) (k + 1) = n := by
  unfold numberL
  have h1 := digits_pos n
  have h2 := digits_length k n h
  rw [if_neg, digits_digit, if_pos rfl, digits_value]
  rintro (h3 | h3 | ⟨h3, h4⟩)
  · omega
  · omega
  · have := digits_head n h4
    subst this
    rw [digits_small (by omega)] at h3
    simp at h3
end Go.Proofs.YtkcjgncpcidfoaaDoor
