/-
  Package sum: isSum, power, Of: contracts, over this seat's translation.
-/
import Derived.Test.YtkcjgncpcidfoaaGreatDoorRefSum
namespace Go.Proofs.YtkcjgncpcidfoaaGreatDoor
open Go.RowKit

theorem mul_mod_pow (a x m : Nat) : a * (x % Mo) ^ m % Mo = a * x ^ m % Mo := by
  rw [Nat.mul_mod, Nat.pow_mod (x % Mo), Nat.mod_mod, ← Nat.pow_mod, ← Nat.mul_mod]
/-- A power of a square: what is left of it. -/
theorem pow_odd (o q k : Nat) (h : k % 2 = 1) : o * q % Mo * (q * q % Mo) ^ (k / 2) % Mo = o * q ^ k % Mo := by
  have e : q ^ k = q * (q * q) ^ (k / 2) := by
    rw [← Nat.pow_two, ← Nat.pow_mul, ← Nat.pow_succ']
    congr 1
    omega
  rw [mul_mod_pow, e, ← Nat.mul_assoc, Nat.mod_mul_mod]
theorem pow_even (o q k : Nat) (h : ¬ k % 2 = 1) : o * (q * q % Mo) ^ (k / 2) % Mo = o * q ^ k % Mo := by
  have e : q ^ k = (q * q) ^ (k / 2) := by
    rw [← Nat.pow_two, ← Nat.pow_mul]
    congr 1
    omega
  rw [mul_mod_pow, e]

theorem mul_fits {x y : Nat} (hx : x < 1000000007) (hy : y < 1000000007) : IntKind.i64.wrap ((x : Int) * (y : Int)) = (x : Int) * (y : Int) ∧ ((x : Int) * (y : Int)).tmod 1000000007 = ((x * y % 1000000007 : Nat) : Int) := by
  have hxy : x * y ≤ 1000000006 * 1000000006 := Nat.mul_le_mul (by omega) (by omega)
  refine ⟨?_, by rw [← Int.natCast_mul]; exact tmod_nat _ _⟩
  rw [IntKind.wrap_i64, ← Int.natCast_mul]
  omega

set_option maxRecDepth 100000 in
set_option maxHeartbeats 1000000 in
theorem pkOf_any (l : List UInt8) (w : World) (hl : l.length ≤ 281474976710656) : Calls Tryz.prog 22 #[.string ⟨l.toArray⟩] w fun e w' => e = .returned (.int .i64 (sumL l)) ∧ w' = w := by
  go_enter Tryz.func22, Tryz.ntmps22
  go_wp2_with fail
  go_loopw [3, 7] (fun nv iv wr => ∃ j : Nat, j ≤ l.length ∧ nv = .int .i64 (sumL (l.take j)) ∧ iv = .int .i64 (j : Int) ∧ wr = w) (fun _ iv _ => l.length - (intOf iv).toNat)
  case atStart => exact ⟨0, Nat.zero_le _, by rw [List.take_zero]; rfl, rfl, rfl⟩
  case round =>
    obtain ⟨j, hj, rfl, rfl, hb⟩ := hrel
    subst hb
    by_cases h0 : j = l.length
    · subst h0
      go_wp2
      go_ret
      exact ⟨by rw [List.take_length]; rfl, rfl⟩
    · have hlt : j < l.length := by omega
      have HS : Hid (sumL (l.take (j + 1)) = (sumL (l.take j) * 263 + l[j].toNat + 1) % Mo) := by
        show sumL (l.take (j + 1)) = _
        rw [List.take_add_one, List.getElem?_eq_getElem hlt]
        exact sumL_snoc _ _
      have h1 := sumL_lt (l.take j)
      unfold Mo at h1
      clear h0
      generalize sumL (l.take j) = n at HS h1
      go_wp2_with fail
      have hbl := l[j].toNat_lt
      have e0 : wrap64 (l[j].toNat : Int) = (l[j].toNat : Int) := w64 _ (by omega)
      have e1 : wrap64 ((n : Int) * 263 + (l[j].toNat : Int)) = (n : Int) * 263 + (l[j].toNat : Int) := w64 _ (by omega)
      have e2 : wrap64 ((n : Int) * 263 + (l[j].toNat : Int) + 1) = ((n * 263 + l[j].toNat + 1 : Nat) : Int) := by rw [w64 _ (by omega)]; omega
      refine ⟨⟨j + 1, by omega, ?_, rfl, trivial⟩, by simp [intOf]; omega⟩
      show Value.int .i64 ((wrap64 (wrap64 ((n : Int) * 263 + wrap64 (l[j].toNat : Int)) + 1)).tmod 1000000007) = _
      rw [e0, e1, e2, HS.out]
      exact congrArg _ (tmod_nat _ _)
end Go.Proofs.YtkcjgncpcidfoaaGreatDoor
