/-
  Own texts of the proof, joined by program: RefDigits, RefSum, PkSum, SumEnv.
-/
import Derived.Test.YtmeipangcgdinaaGreatDoorDigitsReadPurePressPureSumPure
import Derived.Test.YtmeipangcgdinaaGreatDoorPureFacts
import Derived.Test.YtmeipangcgdinaaGreatDoorChecked
import Derived.WalkKit
import Derived.WalkSmall
import Derived.WalkSpells
import Derived.Below
import Derived.Laws.IdiomStrings
import Derived.Test.YtmeipangcgdinaaGreatDoorErrV
import Derived.Lib.ItoaMem
import Derived.Lib.LaidTab
import Derived.Deep.QuietTactic
import Derived.BigQuiet
/-
  The document's answer for digits: Byte, below, Decimal: over this seat's translation.
-/
namespace Go.Proofs.YtmeipangcgdinaaGreatDoor
open Go.RowKit

theorem bytes_snoc (a : List UInt8) (b : UInt8) : (⟨a.toArray⟩ : ByteArray) ++ ⟨#[b]⟩ = ⟨(a ++ [b]).toArray⟩ := by
  apply ByteArray.ext
  simp
/-- Digits read from one place on. -/
theorem value_snoc (s : List UInt8) (b : UInt8) : valueFrom 0 (s ++ [b]) = 10 * valueFrom 0 s + (b.toNat - 48) := by simp [valueFrom]
theorem value_from : ∀ (s : List UInt8) (h : Nat), s.all isDigit = true → valueFrom h s < (h + 1) * 10 ^ s.length
  | [], h, _ => by simp [valueFrom]
  | b :: r, h, hd => by
    rw [List.all_cons, Bool.and_eq_true] at hd
    have h2 := hd.1
    simp [isDigit] at h2
    have ih := value_from r (10 * h + (b.toNat - 48)) hd.2
    show valueFrom (10 * h + (b.toNat - 48)) r < _
    have : (10 * h + (b.toNat - 48) + 1) * 10 ^ r.length ≤ ((h + 1) * 10) * 10 ^ r.length := Nat.mul_le_mul_right _ (by omega)
    rw [List.length_cons, Nat.pow_succ, Nat.mul_comm (10 ^ r.length) 10, ← Nat.mul_assoc]
    omega
theorem value_lt {s : List UInt8} (h : s.all isDigit = true) (hl : s.length ≤ 18) : valueFrom 0 s < 1000000000000000000 := by
  have h1 := value_from s 0 h
  have h2 : 10 ^ s.length ≤ 10 ^ 18 := Nat.pow_le_pow_right (by decide) hl
  omega
end Go.Proofs.YtmeipangcgdinaaGreatDoor
/-
  The document's answer for sums: SumOf, powerOf, JoinSums: over this seat's translation.
-/
namespace Go.Proofs.YtmeipangcgdinaaGreatDoor
open Go.RowKit

theorem w64 (z : Int) (h : -9223372036854775808 ≤ z ∧ z ≤ 9223372036854775807) : wrap64 z = z := by unfold wrap64; omega
theorem tmod_nat (a m : Nat) : ((a : Int)).tmod (m : Int) = ((a % m : Nat) : Int) := by
  rw [Int.tmod_eq_emod_of_nonneg (by omega)]
  rfl
theorem powM_half (n : Nat) : powM n = if n % 2 = 1 then powM (n / 2) * powM (n / 2) % Mo * 263 % Mo else powM (n / 2) * powM (n / 2) % Mo := by
  have e : powM (n / 2 + n / 2) = powM (n / 2) * powM (n / 2) % Mo := powM_add _ _
  by_cases h : n % 2 = 1
  · rw [if_pos h, ← e, ← powM_succ]
    congr 1
    omega
  · rw [if_neg h, ← e]
    congr 1
    omega

/-- Two sums joined: the number, and an error's number. -/
def joinS (a b n : Int) : Int × Nat := if isS a = true ∧ isS b = true ∧ 0 ≤ n ∧ n ≤ 1073741824 then ((((a.toNat * powM n.toNat + b.toNat) % Mo : Nat) : Int), 0) else (0, 2)

theorem bytes_cons (b : UInt8) (a : List UInt8) : (⟨#[b]⟩ : ByteArray) ++ ⟨a.toArray⟩ = ⟨(b :: a).toArray⟩ := by
  apply ByteArray.ext
  simp

end Go.Proofs.YtmeipangcgdinaaGreatDoor
/-
  Package sum: isSum, power, Of: contracts, over this seat's translation.
-/
namespace Go.Proofs.YtmeipangcgdinaaGreatDoor
open Go.RowKit

set_option maxRecDepth 100000 in
theorem pkIsSum_any (n : Int) (w : World) : Calls Tryz.prog 55 #[.int .i64 n] w fun e w' => e = .returned (.bool (isS n)) ∧ w' = w := by
  unfold isS
  by_cases h1 : 0 ≤ n
  · by_cases h2 : n < 1000000007
    · rw [decide_eq_true ⟨h1, h2⟩]
      go_enter Tryz.func55, Tryz.ntmps55
      go_wp2
      go_ret
      exact ⟨rfl, rfl⟩
    · rw [decide_eq_false (fun h => h2 h.2)]
      have h2' : decide (n < 1000000007) = false := by simp; omega
      clear h2
      go_enter Tryz.func55, Tryz.ntmps55
      go_wp2
      go_ret
      exact ⟨rfl, rfl⟩
  · rw [decide_eq_false (fun h => h1 h.1)]
    have h1' : decide (0 ≤ n) = false := by simp; omega
    clear h1
    go_enter Tryz.func55, Tryz.ntmps55
    go_wp2
    go_ret
    exact ⟨rfl, rfl⟩

theorem mul_mod_pow (a x m : Nat) : a * (x % Mo) ^ m % Mo = a * x ^ m % Mo := by
  rw [Nat.mul_mod, Nat.pow_mod (x % Mo), Nat.mod_mod, ← Nat.pow_mod, ← Nat.mul_mod]
/-- A power of a square: what is left of it. -/
theorem pow_odd (o q k : Nat) (h : k % 2 = 1) : o * q % Mo * (q * q % Mo) ^ (k / 2) % Mo = o * q ^ k % Mo := by
  have e : q ^ k = q * (q * q) ^ (k / 2) := by
    rw [← Nat.pow_two, ← Nat.pow_mul, ← Nat.pow_succ']
    congr 1
    omega
  rw [mul_mod_pow, e, ← Nat.mul_assoc, Nat.mod_mul_mod]
theorem pow_even (o q k : Nat) (h : ¬ k % 2 = 1) : o * (q * q % Mo) ^ (k / 2) % Mo = o * q ^ k % Mo := by
  have e : q ^ k = (q * q) ^ (k / 2) := by
    rw [← Nat.pow_two, ← Nat.pow_mul]
    congr 1
    omega
  rw [mul_mod_pow, e]

theorem mul_fits {x y : Nat} (hx : x < 1000000007) (hy : y < 1000000007) : IntKind.i64.wrap ((x : Int) * (y : Int)) = (x : Int) * (y : Int) ∧ ((x : Int) * (y : Int)).tmod 1000000007 = ((x * y % 1000000007 : Nat) : Int) := by
  have hxy : x * y ≤ 1000000006 * 1000000006 := Nat.mul_le_mul (by omega) (by omega)
  refine ⟨?_, by rw [← Int.natCast_mul]; exact tmod_nat _ _⟩
  rw [IntKind.wrap_i64, ← Int.natCast_mul]
  omega

end Go.Proofs.YtmeipangcgdinaaGreatDoor
/-
  What package sum wants of the listed variables: two errors of package api, two of package strconv, the table of powers of ten; and package sum's Join: a contract, over this seat's translation.
-/
namespace Go.Proofs.YtmeipangcgdinaaGreatDoor
open Go.RowKit

structure SEnv (p : Nat → Addr) (w : World) : Prop where
  s0 : w.cell? ⟨3, 0, none⟩ = some (.iface 156 (.pointer (some (p 0))))
  s1 : w.cell? ⟨6, 0, none⟩ = some (.iface 156 (.pointer (some (p 1))))
  syn : ∃ a, w.cell? ⟨10, 0, none⟩ = some (.iface 156 (.pointer (some a)))
  rng : ∃ a, w.cell? ⟨11, 0, none⟩ = some (.iface 156 (.pointer (some a)))
  tab : Lib.TabIs Tryz.prog w "internal/strconv.uint64pow10" .u64 Lib.pow10Tab

theorem lt_of_cell {w : World} {a : Addr} {v : Value} (h : w.cell? a = some v) : a.block < w.heap.size := by
  rcases Nat.lt_or_ge a.block w.heap.size with h' | h'
  · exact h'
  · simp [World.cell?, Array.getElem?_eq_none h'] at h
theorem var_below {n : String} {g : Nat} {cs : Array Value} {w w' : World} (hg : Tryz.prog.globalNamed n = some g) (h : w.var? Tryz.prog n = some cs) (hb : Below w.heap.size w w') : w'.var? Tryz.prog n = some cs := by
  unfold World.var? at h ⊢
  rw [hg] at h ⊢
  simp only [Option.bind_some] at h ⊢
  have hlt : g < w.heap.size := by
    rcases Nat.lt_or_ge g w.heap.size with h' | h'
    · exact h'
    · rw [Array.getElem?_eq_none h'] at h; cases h
  rw [hb.block g hlt]
  exact h
theorem Tryz.gPow10 : Tryz.prog.globalNamed "internal/strconv.uint64pow10" = some 9 := by kernel_rfl

theorem SEnv.below {p : Nat → Addr} {w w' : World} (E : SEnv p w) (hb : Below w.heap.size w w') : SEnv p w' where
  s0 := (hb.cell (p := ⟨3, 0, none⟩) (lt_of_cell E.s0)).trans E.s0
  s1 := (hb.cell (p := ⟨6, 0, none⟩) (lt_of_cell E.s1)).trans E.s1
  syn := by
    obtain ⟨a, h⟩ := E.syn
    exact ⟨a, (hb.cell (p := ⟨10, 0, none⟩) (lt_of_cell h)).trans h⟩
  rng := by
    obtain ⟨a, h⟩ := E.rng
    exact ⟨a, (hb.cell (p := ⟨11, 0, none⟩) (lt_of_cell h)).trans h⟩
  tab := var_below Tryz.gPow10 E.tab hb

theorem joinS_yes {a b n : Int} (ha : isS a = true) (hb : isS b = true) (h0 : 0 ≤ n) (h1 : n ≤ 1073741824) : joinS a b n = ((((a.toNat * powM n.toNat + b.toNat) % Mo : Nat) : Int), 0) := by simp only [joinS, ha, hb, h0, h1, and_self, if_true]
theorem joinS_no {a b n : Int} (h : ¬ (isS a = true ∧ isS b = true ∧ 0 ≤ n ∧ n ≤ 1073741824)) : joinS a b n = (0, 2) := by unfold joinS; rw [if_neg h]

end Go.Proofs.YtmeipangcgdinaaGreatDoor
