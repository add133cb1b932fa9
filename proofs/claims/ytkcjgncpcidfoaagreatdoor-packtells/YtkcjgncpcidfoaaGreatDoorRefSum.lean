/-
  The document's answer for sums: SumOf, powerOf, JoinSums: over this seat's translation.
-/
import Derived.Test.YtkcjgncpcidfoaaGreatDoorSumPure
import Derived.Test.YtkcjgncpcidfoaaGreatDoorRefDigits
import Derived.Test.YtkcjgncpcidfoaaGreatDoorReadPure
import Derived.Test.YtkcjgncpcidfoaaGreatDoorPure
import Derived.Test.YtkcjgncpcidfoaaGreatDoorChecked
import Derived.WalkKit
import Derived.WalkSmall
import Derived.WalkSpells
import Derived.Below
namespace Go.Proofs.YtkcjgncpcidfoaaGreatDoor
open Go.RowKit

theorem w64 (z : Int) (h : -9223372036854775808 ≤ z ∧ z ≤ 9223372036854775807) : wrap64 z = z := by unfold wrap64; omega
theorem tmod_nat (a m : Nat) : ((a : Int)).tmod (m : Int) = ((a % m : Nat) : Int) := by
  rw [Int.tmod_eq_emod_of_nonneg (by omega)]
  rfl
theorem powM_half (n : Nat) : powM n = if n % 2 = 1 then powM (n / 2) * powM (n / 2) % Mo * 263 % Mo else powM (n / 2) * powM (n / 2) % Mo := by
  have e : powM (n / 2 + n / 2) = powM (n / 2) * powM (n / 2) % Mo := powM_add _ _
  by_cases h : n % 2 = 1
  · rw [if_pos h, ← e, ← powM_succ]
    congr 1
    omega
  · rw [if_neg h, ← e]
    congr 1
    omega

set_option maxRecDepth 100000 in
set_option maxHeartbeats 1000000 in
theorem refSumOf_any (l : List UInt8) (w : World) (hl : l.length ≤ 100000000) : Calls Tryz.prog 23 #[.string ⟨l.toArray⟩] w fun e w' => e = .returned (.int .i64 (sumL l)) ∧ w' = w := by
  go_enter Tryz.func23, Tryz.ntmps23
  go_wp2_with fail
  go_loopw [3, 4, 5] (fun nv pv iv wr => ∃ j : Nat, j ≤ l.length ∧ nv = .int .i64 (sumL (l.drop j)) ∧ pv = .int .i64 (powM (l.length - j)) ∧ iv = .int .i64 ((j : Int) - 1) ∧ wr = w) (fun _ _ iv _ => (intOf iv + 1).toNat)
  case atStart => exact ⟨l.length, Nat.le_refl _, by rw [List.drop_length]; rfl, by rw [Nat.sub_self]; rfl, by go_num, rfl⟩
  case round =>
    obtain ⟨j, hj, rfl, rfl, rfl, hb⟩ := hrel
    subst hb
    rcases j with _ | j
    · go_wp2
      go_ret
      exact ⟨by rw [List.drop_zero]; rfl, rfl⟩
    · have hlt : j < l.length := by omega
      have HS : Hid (sumL (l.drop j) = ((l[j].toNat + 1) * powM (l.length - (j + 1)) + sumL (l.drop (j + 1))) % Mo) := by
        show sumL (l.drop j) = _
        rw [List.drop_eq_getElem_cons hlt, sumL_cons, List.length_drop]
      have HP : Hid (powM (l.length - j) = powM (l.length - (j + 1)) * 263 % Mo) := by
        show powM (l.length - j) = _
        rw [← powM_succ]
        congr 1
        omega
      have h1 := sumL_lt (l.drop (j + 1))
      have h2 := powM_lt (l.length - (j + 1))
      generalize sumL (l.drop (j + 1)) = n at HS h1
      generalize powM (l.length - (j + 1)) = q at HS HP h2
      have hx : (((j + 1 : Nat) : Int) - 1) = (j : Int) := by omega
      rw [hx]
      clear hx
      unfold Mo at h1 h2
      go_wp2_with fail
      have hbl := l[j].toNat_lt
      have hqb : (l[j].toNat + 1) * q ≤ 256 * 1000000006 := Nat.mul_le_mul (by omega) (by omega)
      have e0 : wrap64 (l[j].toNat : Int) = (l[j].toNat : Int) := w64 _ (by omega)
      have e1 : wrap64 ((l[j].toNat : Int) + 1) = (l[j].toNat : Int) + 1 := w64 _ (by omega)
      have e2 : (q : Int) * ((l[j].toNat : Int) + 1) = (((l[j].toNat + 1) * q : Nat) : Int) := by rw [Int.natCast_mul, Int.mul_comm]; rfl
      have e3 : wrap64 (((l[j].toNat + 1) * q : Nat) : Int) = (((l[j].toNat + 1) * q : Nat) : Int) := w64 _ (by omega)
      have e4 : wrap64 ((n : Int) + (((l[j].toNat + 1) * q : Nat) : Int)) = (((l[j].toNat + 1) * q + n : Nat) : Int) := by rw [w64 _ (by omega)]; omega
      refine ⟨⟨j, by omega, ?_, ?_, rfl, trivial⟩, by simp [intOf]⟩
      · show Value.int .i64 ((wrap64 (n + wrap64 (q * wrap64 (wrap64 (l[j].toNat : Int) + 1)))).tmod 1000000007) = _
        rw [e0, e1, e2, e3, e4, HS.out]
        exact congrArg _ (tmod_nat _ _)
      · rw [HP.out]
        go_num

/-- Two sums joined: the number, and an error's number. -/
def joinS (a b n : Int) : Int × Nat := if isS a = true ∧ isS b = true ∧ 0 ≤ n ∧ n ≤ 1073741824 then ((((a.toNat * powM n.toNat + b.toNat) % Mo : Nat) : Int), 0) else (0, 2)

theorem bytes_cons (b : UInt8) (a : List UInt8) : (⟨#[b]⟩ : ByteArray) ++ ⟨a.toArray⟩ = ⟨(b :: a).toArray⟩ := by
  apply ByteArray.ext
  simp

end Go.Proofs.YtkcjgncpcidfoaaGreatDoor
