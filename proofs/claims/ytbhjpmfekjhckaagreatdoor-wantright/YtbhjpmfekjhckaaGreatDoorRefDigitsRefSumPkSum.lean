/-
  Own texts of the proof, joined by program: RefDigits, RefSum, PkSum.
-/
import Derived.Test.YtbhjpmfekjhckaaGreatDoorDigitsReadPure
import Derived.Test.YtbhjpmfekjhckaaGreatDoorPureFacts
import Derived.Test.YtbhjpmfekjhckaaGreatDoorChecked
import Derived.WalkKit
import Derived.WalkSmall
import Derived.WalkSpells
import Derived.Below
import Derived.Laws.IdiomStrings
import Derived.Test.YtbhjpmfekjhckaaGreatDoorSumPure
/-
  The document's answer for digits: Byte, below, Decimal: over this seat's translation.
-/
namespace Go.Proofs.YtbhjpmfekjhckaaGreatDoor
open Go.RowKit

theorem bytes_snoc (a : List UInt8) (b : UInt8) : (⟨a.toArray⟩ : ByteArray) ++ ⟨#[b]⟩ = ⟨(a ++ [b]).toArray⟩ := by
  apply ByteArray.ext
  simp
/-- Digits read from one place on. -/
theorem value_snoc (s : List UInt8) (b : UInt8) : valueFrom 0 (s ++ [b]) = 10 * valueFrom 0 s + (b.toNat - 48) := by simp [valueFrom]
theorem value_from : ∀ (s : List UInt8) (h : Nat), s.all isDigit = true → valueFrom h s < (h + 1) * 10 ^ s.length
  | [], h, _ => by simp [valueFrom]
  | b :: r, h, hd => by
    rw [List.all_cons, Bool.and_eq_true] at hd
    have h2 := hd.1
    simp [isDigit] at h2
    have ih := value_from r (10 * h + (b.toNat - 48)) hd.2
    show valueFrom (10 * h + (b.toNat - 48)) r < _
    have : (10 * h + (b.toNat - 48) + 1) * 10 ^ r.length ≤ ((h + 1) * 10) * 10 ^ r.length := Nat.mul_le_mul_right _ (by omega)
    rw [List.length_cons, Nat.pow_succ, Nat.mul_comm (10 ^ r.length) 10, ← Nat.mul_assoc]
    omega
theorem value_lt {s : List UInt8} (h : s.all isDigit = true) (hl : s.length ≤ 18) : valueFrom 0 s < 1000000000000000000 := by
  have h1 := value_from s 0 h
  have h2 : 10 ^ s.length ≤ 10 ^ 18 := Nat.pow_le_pow_right (by decide) hl
  omega
end Go.Proofs.YtbhjpmfekjhckaaGreatDoor
/-
  The document's answer for sums: SumOf, powerOf, JoinSums: over this seat's translation.
-/
namespace Go.Proofs.YtbhjpmfekjhckaaGreatDoor
open Go.RowKit

theorem w64 (z : Int) (h : -9223372036854775808 ≤ z ∧ z ≤ 9223372036854775807) : wrap64 z = z := by unfold wrap64; omega
theorem tmod_nat (a m : Nat) : ((a : Int)).tmod (m : Int) = ((a % m : Nat) : Int) := by
  rw [Int.tmod_eq_emod_of_nonneg (by omega)]
  rfl
theorem powM_half (n : Nat) : powM n = if n % 2 = 1 then powM (n / 2) * powM (n / 2) % Mo * 263 % Mo else powM (n / 2) * powM (n / 2) % Mo := by
  have e : powM (n / 2 + n / 2) = powM (n / 2) * powM (n / 2) % Mo := powM_add _ _
  by_cases h : n % 2 = 1
  · rw [if_pos h, ← e, ← powM_succ]
    congr 1
    omega
  · rw [if_neg h, ← e]
    congr 1
    omega

/-- Two sums joined: the number, and an error's number. -/
def joinS (a b n : Int) : Int × Nat := if isS a = true ∧ isS b = true ∧ 0 ≤ n ∧ n ≤ 1073741824 then ((((a.toNat * powM n.toNat + b.toNat) % Mo : Nat) : Int), 0) else (0, 2)

theorem bytes_cons (b : UInt8) (a : List UInt8) : (⟨#[b]⟩ : ByteArray) ++ ⟨a.toArray⟩ = ⟨(b :: a).toArray⟩ := by
  apply ByteArray.ext
  simp

end Go.Proofs.YtbhjpmfekjhckaaGreatDoor
/-
  Package sum: isSum, power, Of: contracts, over this seat's translation.
-/
namespace Go.Proofs.YtbhjpmfekjhckaaGreatDoor
open Go.RowKit

set_option maxRecDepth 100000 in
theorem pkIsSum_any (n : Int) (w : World) : Calls Tryz.prog 69 #[.int .i64 n] w fun e w' => e = .returned (.bool (isS n)) ∧ w' = w := by
  unfold isS
  by_cases h1 : 0 ≤ n
  · by_cases h2 : n < 1000000007
    · rw [decide_eq_true ⟨h1, h2⟩]
      go_enter Tryz.func69, Tryz.ntmps69
      go_wp2
      go_ret
      exact ⟨rfl, rfl⟩
    · rw [decide_eq_false (fun h => h2 h.2)]
      have h2' : decide (n < 1000000007) = false := by simp; omega
      clear h2
      go_enter Tryz.func69, Tryz.ntmps69
      go_wp2
      go_ret
      exact ⟨rfl, rfl⟩
  · rw [decide_eq_false (fun h => h1 h.1)]
    have h1' : decide (0 ≤ n) = false := by simp; omega
    clear h1
    go_enter Tryz.func69, Tryz.ntmps69
    go_wp2
    go_ret
    exact ⟨rfl, rfl⟩

theorem mul_mod_pow (a x m : Nat) : a * (x % Mo) ^ m % Mo = a * x ^ m % Mo := by
  rw [Nat.mul_mod, Nat.pow_mod (x % Mo), Nat.mod_mod, ← Nat.pow_mod, ← Nat.mul_mod]
/-- A power of a square: what is left of it. -/
theorem pow_odd (o q k : Nat) (h : k % 2 = 1) : o * q % Mo * (q * q % Mo) ^ (k / 2) % Mo = o * q ^ k % Mo := by
  have e : q ^ k = q * (q * q) ^ (k / 2) := by
    rw [← Nat.pow_two, ← Nat.pow_mul, ← Nat.pow_succ']
    congr 1
    omega
  rw [mul_mod_pow, e, ← Nat.mul_assoc, Nat.mod_mul_mod]
theorem pow_even (o q k : Nat) (h : ¬ k % 2 = 1) : o * (q * q % Mo) ^ (k / 2) % Mo = o * q ^ k % Mo := by
  have e : q ^ k = (q * q) ^ (k / 2) := by
    rw [← Nat.pow_two, ← Nat.pow_mul]
    congr 1
    omega
  rw [mul_mod_pow, e]

theorem mul_fits {x y : Nat} (hx : x < 1000000007) (hy : y < 1000000007) : IntKind.i64.wrap ((x : Int) * (y : Int)) = (x : Int) * (y : Int) ∧ ((x : Int) * (y : Int)).tmod 1000000007 = ((x * y % 1000000007 : Nat) : Int) := by
  have hxy : x * y ≤ 1000000006 * 1000000006 := Nat.mul_le_mul (by omega) (by omega)
  refine ⟨?_, by rw [← Int.natCast_mul]; exact tmod_nat _ _⟩
  rw [IntKind.wrap_i64, ← Int.natCast_mul]
  omega

set_option maxRecDepth 100000 in
set_option maxHeartbeats 1000000 in
theorem pkOf_any (l : List UInt8) (w : World) (hl : l.length ≤ 281474976710656) : Calls Tryz.prog 20 #[.string ⟨l.toArray⟩] w fun e w' => e = .returned (.int .i64 (sumL l)) ∧ w' = w := by
  go_enter Tryz.func20, Tryz.ntmps20
  go_wp2_with fail
  go_loopw [3, 7] (fun nv iv wr => ∃ j : Nat, j ≤ l.length ∧ nv = .int .i64 (sumL (l.take j)) ∧ iv = .int .i64 (j : Int) ∧ wr = w) (fun _ iv _ => l.length - (intOf iv).toNat)
  case atStart => exact ⟨0, Nat.zero_le _, by rw [List.take_zero]; rfl, rfl, rfl⟩
  case round =>
    obtain ⟨j, hj, rfl, rfl, hb⟩ := hrel
    subst hb
    by_cases h0 : j = l.length
    · subst h0
      go_wp2
      go_ret
      exact ⟨by rw [List.take_length]; rfl, rfl⟩
    · have hlt : j < l.length := by omega
      have HS : Hid (sumL (l.take (j + 1)) = (sumL (l.take j) * 263 + l[j].toNat + 1) % Mo) := by
        show sumL (l.take (j + 1)) = _
        rw [List.take_add_one, List.getElem?_eq_getElem hlt]
        exact sumL_snoc _ _
      have h1 := sumL_lt (l.take j)
      unfold Mo at h1
      clear h0
      generalize sumL (l.take j) = n at HS h1
      go_wp2_with fail
      have hbl := l[j].toNat_lt
      have e0 : wrap64 (l[j].toNat : Int) = (l[j].toNat : Int) := w64 _ (by omega)
      have e1 : wrap64 ((n : Int) * 263 + (l[j].toNat : Int)) = (n : Int) * 263 + (l[j].toNat : Int) := w64 _ (by omega)
      have e2 : wrap64 ((n : Int) * 263 + (l[j].toNat : Int) + 1) = ((n * 263 + l[j].toNat + 1 : Nat) : Int) := by rw [w64 _ (by omega)]; omega
      refine ⟨⟨j + 1, by omega, ?_, rfl, trivial⟩, by simp [intOf]; omega⟩
      show Value.int .i64 ((wrap64 (wrap64 ((n : Int) * 263 + wrap64 (l[j].toNat : Int)) + 1)).tmod 1000000007) = _
      rw [e0, e1, e2, HS.out]
      exact congrArg _ (tmod_nat _ _)
end Go.Proofs.YtbhjpmfekjhckaaGreatDoor
