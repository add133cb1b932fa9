/-
  Sums as numbers over lists of bytes: no machine: for whatever seat.
-/
namespace Go.Proofs.YtbhjpmfekjhckaaGreatDoor
/-- The modulus of sums. -/
abbrev Mo : Nat := 1000000007
/-- The sum of a text, byte by byte from the front. -/
def sumFrom (h : Nat) (s : List UInt8) : Nat := s.foldl (fun h b => (h * 263 + b.toNat + 1) % Mo) h
def sumL (s : List UInt8) : Nat := sumFrom 0 s
/-- .. without the remainders. -/
def bare (h : Nat) (s : List UInt8) : Nat := s.foldl (fun h b => h * 263 + b.toNat + 1) h

theorem bare_cons (h : Nat) (b : UInt8) (s : List UInt8) : bare h (b :: s) = bare (h * 263 + b.toNat + 1) s := rfl
theorem bare_app (h : Nat) (a b : List UInt8) : bare h (a ++ b) = bare (bare h a) b := by simp [bare]
theorem bare_add : ∀ (s : List UInt8) (h : Nat), bare h s = h * 263 ^ s.length + bare 0 s
  | [], h => by simp [bare]
  | b :: s, h => by
    rw [bare_cons, bare_cons, bare_add s (h * 263 + b.toNat + 1), bare_add s (0 * 263 + b.toNat + 1), List.length_cons, Nat.pow_succ]
    rw [Nat.zero_mul, Nat.zero_add, Nat.add_assoc (h * 263), Nat.add_mul (h * 263), Nat.mul_assoc h 263, Nat.mul_comm 263, Nat.add_assoc]
theorem sumFrom_bare : ∀ (s : List UInt8) (h : Nat), sumFrom (h % Mo) s = bare h s % Mo
  | [], h => rfl
  | b :: s, h => by
    show sumFrom ((h % Mo * 263 + b.toNat + 1) % Mo) s = bare (h * 263 + b.toNat + 1) s % Mo
    rw [← sumFrom_bare s (h * 263 + b.toNat + 1)]
    have e : (h % Mo * 263 + b.toNat + 1) % Mo = (h * 263 + b.toNat + 1) % Mo := by
      unfold Mo
      omega
    rw [e]
theorem sumL_bare (s : List UInt8) : sumL s = bare 0 s % Mo := sumFrom_bare s 0
theorem sumL_lt (s : List UInt8) : sumL s < Mo := by rw [sumL_bare]; exact Nat.mod_lt _ (by decide)
theorem sumL_snoc (s : List UInt8) (b : UInt8) : sumL (s ++ [b]) = (sumL s * 263 + b.toNat + 1) % Mo := by simp [sumL, sumFrom]
/-- The power of the base. -/
def powM (n : Nat) : Nat := 263 ^ n % Mo
theorem powM_lt (n : Nat) : powM n < Mo := Nat.mod_lt _ (by decide)
theorem powM_zero : powM 0 = 1 := rfl
theorem powM_succ (n : Nat) : powM (n + 1) = powM n * 263 % Mo := by
  unfold powM
  rw [Nat.pow_succ, Nat.mod_mul_mod]
theorem powM_add (a b : Nat) : powM (a + b) = powM a * powM b % Mo := by
  unfold powM
  rw [Nat.pow_add, ← Nat.mul_mod]
theorem sumL_app (a b : List UInt8) : sumL (a ++ b) = (sumL a * powM b.length + sumL b) % Mo := by
  rw [sumL_bare, sumL_bare a, sumL_bare b, bare_app, bare_add b (bare 0 a)]
  unfold powM
  rw [Nat.add_mod, Nat.mul_mod]
  simp [Nat.add_mod]
theorem sumL_cons (b : UInt8) (s : List UInt8) : sumL (b :: s) = ((b.toNat + 1) * powM s.length + sumL s) % Mo := by
  have h := sumL_app [b] s
  have e : sumL [b] = b.toNat + 1 := by
    have := b.toNat_lt
    show (0 * 263 + b.toNat + 1) % 1000000007 = _
    omega
  rw [e] at h
  exact h
/-- The base and the modulus have no common factor. -/
theorem base_coprime (n : Nat) : Nat.Coprime Mo (263 ^ n) := Nat.Coprime.pow_right n (by decide)
theorem byte_apart {x y : UInt8} {n u v : Nat} (h : (u + (x.toNat + 1) * 263 ^ n + v) % Mo = (u + (y.toNat + 1) * 263 ^ n + v) % Mo) : x = y := by
  have hx := x.toNat_lt
  have hy := y.toNat_lt
  have key : ∀ p q : Nat, p < 256 → q < 256 → q ≤ p → (u + (p + 1) * 263 ^ n + v) % Mo = (u + (q + 1) * 263 ^ n + v) % Mo → p = q := by
    intro p q hp hq hle he
    have e : u + (p + 1) * 263 ^ n + v = (u + (q + 1) * 263 ^ n + v) + (p - q) * 263 ^ n := by
      have : (p + 1) * 263 ^ n = (q + 1) * 263 ^ n + (p - q) * 263 ^ n := by rw [← Nat.add_mul]; congr 1; omega
      omega
    have hd : Mo ∣ (p - q) * 263 ^ n := by
      rw [e] at he
      have := Nat.sub_mod_eq_zero_of_mod_eq he
      rw [Nat.add_sub_cancel_left] at this
      exact Nat.dvd_of_mod_eq_zero this
    have hd2 : Mo ∣ p - q := (base_coprime n).dvd_of_dvd_mul_right hd
    have hz : p - q = 0 := by
      rcases Nat.eq_zero_or_pos (p - q) with h0 | h0
      · exact h0
      · have := Nat.le_of_dvd h0 hd2
        unfold Mo at this
        omega
    omega
  have : x.toNat = y.toNat := by
    rcases Nat.le_total y.toNat x.toNat with h0 | h0
    · exact key _ _ (by omega) (by omega) h0 h
    · exact (key _ _ (by omega) (by omega) h0 h.symm).symm
  exact UInt8.toNat_inj.1 this
theorem sumL_mid (a b : List UInt8) (x : UInt8) : sumL (a ++ x :: b) = (bare 0 a * 263 ^ (b.length + 1) + (x.toNat + 1) * 263 ^ b.length + bare 0 b) % Mo := by
  rw [sumL_bare, bare_app, bare_add (x :: b) (bare 0 a), bare_cons, bare_add b (0 * 263 + x.toNat + 1), List.length_cons, Nat.zero_mul, Nat.zero_add, Nat.add_assoc]
/-- With one byte another one, it is another. -/
theorem sumL_other {a b : List UInt8} {x y : UInt8} (h : x ≠ y) : sumL (a ++ x :: b) ≠ sumL (a ++ y :: b) := fun e => by
  rw [sumL_mid, sumL_mid] at e
  exact h (byte_apart e)
theorem sumL_set {a b : List UInt8} {i : Nat} {x : UInt8} (hi : i < a.length) (h : a[i] ≠ x) : sumL (a.set i x ++ b) ≠ sumL (a ++ b) := by
  have e1 : a.set i x = a.take i ++ x :: a.drop (i + 1) := by rw [List.set_eq_take_append_cons_drop, if_pos hi]
  have e2 : a = a.take i ++ a[i] :: a.drop (i + 1) := by rw [← List.drop_eq_getElem_cons hi, List.take_append_drop]
  have h1 : sumL (a.set i x ++ b) = sumL (a.take i ++ x :: (a.drop (i + 1) ++ b)) := by rw [e1]; simp
  have h2 : sumL (a ++ b) = sumL (a.take i ++ a[i] :: (a.drop (i + 1) ++ b)) := by
    rw [← List.cons_append, ← List.append_assoc, ← e2]
  rw [h1, h2]
  exact sumL_other (Ne.symm h)
end Go.Proofs.YtbhjpmfekjhckaaGreatDoor
