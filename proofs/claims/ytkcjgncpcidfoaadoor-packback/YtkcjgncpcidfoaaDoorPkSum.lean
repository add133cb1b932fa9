/-
  Package sum: isSum, power, Of: contracts, over this seat's translation.
-/
import Derived.Test.YtkcjgncpcidfoaaDoorRefSum
namespace Go.Proofs.YtkcjgncpcidfoaaDoor
open Go.RowKit

theorem mul_mod_pow (a x m : Nat) : a * (x % Mo) ^ m % Mo = a * x ^ m % Mo := by
  rw [Nat.mul_mod, Nat.pow_mod (x % Mo), Nat.mod_mod, ← Nat.pow_mod, ← Nat.mul_mod]
/-- A power of a square: what is left of it. -/
theorem pow_odd (o q k : Nat) (h : k % 2 = 1) : o * q % Mo * (q * q % Mo) ^ (k / 2) % Mo = o * q ^ k % Mo := by
  have e : q ^ k = q * (q * q) ^ (k / 2) := by
    rw [← Nat.pow_two, ← Nat.pow_mul, ← Nat.pow_succ']
    congr 1
    omega
  rw [mul_mod_pow, e, ← Nat.mul_assoc, Nat.mod_mul_mod]
theorem pow_even (o q k : Nat) (h : ¬ k % 2 = 1) : o * (q * q % Mo) ^ (k / 2) % Mo = o * q ^ k % Mo := by
  have e : q ^ k = (q * q) ^ (k / 2) := by
    rw [← Nat.pow_two, ← Nat.pow_mul]
    congr 1
    omega
  rw [mul_mod_pow, e]

theorem mul_fits {x y : Nat} (hx : x < 1000000007) (hy : y < 1000000007) : IntKind.i64.wrap ((x : Int) * (y : Int)) = (x : Int) * (y : Int) ∧ ((x : Int) * (y : Int)).tmod 1000000007 = ((x * y % 1000000007 : Nat) : Int) := by
  have hxy : x * y ≤ 1000000006 * 1000000006 := Nat.mul_le_mul (by omega) (by omega)
  refine ⟨?_, by rw [← Int.natCast_mul]; exact tmod_nat _ _⟩
  rw [IntKind.wrap_i64, ← Int.natCast_mul]
  omega

end Go.Proofs.YtkcjgncpcidfoaaDoor
