/-
  Package sum: isSum, power, Of: contracts, over this seat's translation.
-/
import Derived.Test.YtfgnngbjklpjcaaDoorRefSum
namespace Go.Proofs.YtfgnngbjklpjcaaDoor
open Go.RowKit

set_option maxRecDepth 100000 in
theorem pkIsSum_any (n : Int) (w : World) : Calls Tryd.prog 15 #[.int .i64 n] w fun e w' => e = .returned (.bool (isS n)) ∧ w' = w := by
  unfold isS
  by_cases h1 : 0 ≤ n
  · by_cases h2 : n < 1000000007
    · rw [decide_eq_true ⟨h1, h2⟩]
      go_enter Tryd.func15, Tryd.ntmps15
      go_wp2
      go_ret
      exact ⟨rfl, rfl⟩
    · rw [decide_eq_false (fun h => h2 h.2)]
      have h2' : decide (n < 1000000007) = false := by simp; omega
      clear h2
      go_enter Tryd.func15, Tryd.ntmps15
      go_wp2
      go_ret
      exact ⟨rfl, rfl⟩
  · rw [decide_eq_false (fun h => h1 h.1)]
    have h1' : decide (0 ≤ n) = false := by simp; omega
    clear h1
    go_enter Tryd.func15, Tryd.ntmps15
    go_wp2
    go_ret
    exact ⟨rfl, rfl⟩

theorem mul_mod_pow (a x m : Nat) : a * (x % Mo) ^ m % Mo = a * x ^ m % Mo := by
  rw [Nat.mul_mod, Nat.pow_mod (x % Mo), Nat.mod_mod, ← Nat.pow_mod, ← Nat.mul_mod]
/-- A power of a square: what is left of it. -/
theorem pow_odd (o q k : Nat) (h : k % 2 = 1) : o * q % Mo * (q * q % Mo) ^ (k / 2) % Mo = o * q ^ k % Mo := by
  have e : q ^ k = q * (q * q) ^ (k / 2) := by
    rw [← Nat.pow_two, ← Nat.pow_mul, ← Nat.pow_succ']
    congr 1
    omega
  rw [mul_mod_pow, e, ← Nat.mul_assoc, Nat.mod_mul_mod]
theorem pow_even (o q k : Nat) (h : ¬ k % 2 = 1) : o * (q * q % Mo) ^ (k / 2) % Mo = o * q ^ k % Mo := by
  have e : q ^ k = (q * q) ^ (k / 2) := by
    rw [← Nat.pow_two, ← Nat.pow_mul]
    congr 1
    omega
  rw [mul_mod_pow, e]

theorem mul_fits {x y : Nat} (hx : x < 1000000007) (hy : y < 1000000007) : IntKind.i64.wrap ((x : Int) * (y : Int)) = (x : Int) * (y : Int) ∧ ((x : Int) * (y : Int)).tmod 1000000007 = ((x * y % 1000000007 : Nat) : Int) := by
  have hxy : x * y ≤ 1000000006 * 1000000006 := Nat.mul_le_mul (by omega) (by omega)
  refine ⟨?_, by rw [← Int.natCast_mul]; exact tmod_nat _ _⟩
  rw [IntKind.wrap_i64, ← Int.natCast_mul]
  omega

set_option maxRecDepth 100000 in
set_option maxHeartbeats 1000000 in
theorem pkPower_any (n : Nat) (w : World) (hn : n ≤ 1073741824) : Calls Tryd.prog 16 #[.int .i64 n] w fun e w' => e = .returned (.int .i64 (powM n)) ∧ w' = w := by
  go_enter Tryd.func16, Tryd.ntmps16
  go_wp2_with fail
  go_loopw [0, 3, 4] (fun nv ov sv wr => ∃ k o q : Nat, k ≤ 1073741824 ∧ o < 1000000007 ∧ q < 1000000007 ∧ o * q ^ k % Mo = powM n ∧ nv = .int .i64 k ∧ ov = .int .i64 o ∧ sv = .int .i64 q ∧ wr = w) (fun nv _ _ _ => (intOf nv).toNat)
  case atStart => exact ⟨n, 1, 263, hn, by decide, by decide, by rw [Nat.one_mul]; rfl, rfl, rfl, rfl, rfl⟩
  case round =>
    obtain ⟨k, o, q, hk, ho, hq, hi, rfl, rfl, rfl, hb⟩ := hrel
    subst hb
    have HI : Hid (o * q ^ k % Mo = powM n) := hi
    clear hi
    by_cases h0 : k = 0
    · subst h0
      go_wp2
      go_ret
      refine ⟨?_, rfl⟩
      have := HI.out
      rw [Nat.pow_zero, Nat.mul_one, Nat.mod_eq_of_lt ho] at this
      rw [this]
      rfl
    · have hpos : (0 : Int) < (k : Int) := by omega
      have hd : (k : Int).tdiv 2 = ((k / 2 : Nat) : Int) := by rw [Int.tdiv_eq_ediv_of_nonneg (by omega)]; omega
      obtain ⟨hw1, hm1⟩ := mul_fits hq hq
      obtain ⟨hw2, hm2⟩ := mul_fits ho hq
      have hl1 : q * q % 1000000007 < 1000000007 := Nat.mod_lt _ (by decide)
      have hl2 : o * q % 1000000007 < 1000000007 := Nat.mod_lt _ (by decide)
      by_cases hodd : k % 2 = 1
      · have ho' : ((k : Int) % 2 == 1) = true := by simp; omega
        have HN : Hid (o * q % 1000000007 * (q * q % 1000000007) ^ (k / 2) % Mo = powM n) := (pow_odd o q k hodd).trans HI.out
        clear HI hodd
        generalize o * q % 1000000007 = o2 at hm2 hl2 HN
        generalize q * q % 1000000007 = q2 at hm1 hl1 HN
        go_wp2_with fail
        exact ⟨⟨k / 2, o2, q2, by omega, hl2, hl1, HN.out, rfl, rfl, rfl, trivial⟩, by simp [intOf]; omega⟩
      · have ho' : ((k : Int) % 2 == 1) = false := by simp; omega
        have HN : Hid (o * (q * q % 1000000007) ^ (k / 2) % Mo = powM n) := (pow_even o q k hodd).trans HI.out
        clear HI hodd hw2 hm2 hl2
        generalize q * q % 1000000007 = q2 at hm1 hl1 HN
        go_wp2_with fail
        exact ⟨⟨k / 2, o, q2, by omega, ho, hl1, HN.out, rfl, rfl, rfl, trivial⟩, by simp [intOf]; omega⟩

set_option maxRecDepth 100000 in
set_option maxHeartbeats 1000000 in
theorem pkOf_any (l : List UInt8) (w : World) (hl : l.length ≤ 281474976710656) : Calls Tryd.prog 7 #[.string ⟨l.toArray⟩] w fun e w' => e = .returned (.int .i64 (sumL l)) ∧ w' = w := by
  go_enter Tryd.func7, Tryd.ntmps7
  go_wp2_with fail
  go_loopw [3, 7] (fun nv iv wr => ∃ j : Nat, j ≤ l.length ∧ nv = .int .i64 (sumL (l.take j)) ∧ iv = .int .i64 (j : Int) ∧ wr = w) (fun _ iv _ => l.length - (intOf iv).toNat)
  case atStart => exact ⟨0, Nat.zero_le _, by rw [List.take_zero]; rfl, rfl, rfl⟩
  case round =>
    obtain ⟨j, hj, rfl, rfl, hb⟩ := hrel
    subst hb
    by_cases h0 : j = l.length
    · subst h0
      go_wp2
      go_ret
      exact ⟨by rw [List.take_length]; rfl, rfl⟩
    · have hlt : j < l.length := by omega
      have HS : Hid (sumL (l.take (j + 1)) = (sumL (l.take j) * 263 + l[j].toNat + 1) % Mo) := by
        show sumL (l.take (j + 1)) = _
        rw [List.take_add_one, List.getElem?_eq_getElem hlt]
        exact sumL_snoc _ _
      have h1 := sumL_lt (l.take j)
      unfold Mo at h1
      clear h0
      generalize sumL (l.take j) = n at HS h1
      go_wp2_with fail
      have hbl := l[j].toNat_lt
      have e0 : wrap64 (l[j].toNat : Int) = (l[j].toNat : Int) := w64 _ (by omega)
      have e1 : wrap64 ((n : Int) * 263 + (l[j].toNat : Int)) = (n : Int) * 263 + (l[j].toNat : Int) := w64 _ (by omega)
      have e2 : wrap64 ((n : Int) * 263 + (l[j].toNat : Int) + 1) = ((n * 263 + l[j].toNat + 1 : Nat) : Int) := by rw [w64 _ (by omega)]; omega
      refine ⟨⟨j + 1, by omega, ?_, rfl, trivial⟩, by simp [intOf]; omega⟩
      show Value.int .i64 ((wrap64 (wrap64 ((n : Int) * 263 + wrap64 (l[j].toNat : Int)) + 1)).tmod 1000000007) = _
      rw [e0, e1, e2, HS.out]
      exact congrArg _ (tmod_nat _ _)
end Go.Proofs.YtfgnngbjklpjcaaDoor
