/-
  Own texts of the proof, joined by program: RefDigits, RefSum, PkSum, SumEnv.
-/
import Derived.Test.YtmcfkoenpikldaaGreatDoorDigitsReadPurePressPureSumPure
import Derived.Test.YtmcfkoenpikldaaGreatDoorPureFacts
import Derived.Test.YtmcfkoenpikldaaGreatDoorChecked
import Derived.WalkKit
import Derived.WalkSmall
import Derived.WalkSpells
import Derived.Below
import Derived.Laws.IdiomStrings
import Derived.Test.YtmcfkoenpikldaaGreatDoorErrV
import Derived.Lib.ItoaMem
import Derived.Lib.LaidTab
import Derived.Deep.QuietTactic
import Derived.BigQuiet
/-
  The document's answer for digits: Byte, below, Decimal: over this seat's translation.
-/
namespace Go.Proofs.YtmcfkoenpikldaaGreatDoor
open Go.RowKit

set_option maxRecDepth 100000 in
theorem byte_any (k : Nat) (w : World) (hk : k < 256) : Calls Tryz.prog 247 #[.int .i64 k] w fun e w' => e = .returned (.string ⟨#[UInt8.ofNat k]⟩) ∧ Below w.heap.size w w' := by
  have hn : (UInt8.ofNat k).toNat = k := by rw [UInt8.toNat_ofNat']; omega
  have HC : (convert 146 9 (.slice (some ⟨w.heap.size, 0, none⟩) 1 1)).run Tryz.prog (w.alloc (.cells #[.int .u8 k] 5)) = .ok (.string ⟨#[UInt8.ofNat k]⟩) (w.alloc (.cells #[.int .u8 k] 5)) :=
    run_convert_bytes_back (P := Tryz.prog) (w.alloc (.cells #[.int .u8 k] 5)) 146 9 5 ⟨w.heap.size, 0, none⟩ 1 [UInt8.ofNat k] Tryz.underlying146 Tryz.underlying5 Tryz.underlying9 (fun j hj => by
      match j, hj with
      | 0, _ => simp [Addr.add, hn])
  clear hn
  go_enter Tryz.func247, Tryz.ntmps247
  go_wp2
  go_ret
  exact ⟨rfl, (Below.refl _ _).alloc (Nat.le_refl _) _⟩

theorem bytes_snoc (a : List UInt8) (b : UInt8) : (⟨a.toArray⟩ : ByteArray) ++ ⟨#[b]⟩ = ⟨(a ++ [b]).toArray⟩ := by
  apply ByteArray.ext
  simp
theorem byte_is (z : Int) (k : Nat) (b : UInt8) (w : World) (hz : z = k) (hk : k < 256) (hb : UInt8.ofNat k = b) : Calls Tryz.prog 247 #[.int .i64 z] w fun e w' => e = .returned (.string ⟨#[b]⟩) ∧ Below w.heap.size w w' := by
  subst hz hb
  exact byte_any k w hk

set_option maxRecDepth 100000 in
set_option maxHeartbeats 1000000 in
theorem below_any (n : Nat) : ∀ (w : World), n ≤ 1000000000000000000 → Calls Tryz.prog 211 #[.int .i64 (-(n : Int))] w fun e w' => e = .returned (.string ⟨(digitsL n).toArray⟩) ∧ Below w.heap.size w w' := by
  induction n using Nat.strongRecOn with
  | ind n ih =>
    intro w hn
    by_cases h0 : n < 10
    · obtain ⟨bt, hbt⟩ : ∃ bt, UInt8.ofNat (48 + n) = bt := ⟨_, rfl⟩
      have HBT : Hid (UInt8.ofNat (48 + n) = bt) := hbt
      have HD : Hid (digitsL n = [bt]) := by show digitsL n = _; rw [digits_small h0, hbt]
      clear ih hbt
      go_enter Tryz.func211, Tryz.ntmps211
      go_wp2_with fail
      refine (byte_is _ (48 + n) bt _ (by omega) (by omega) HBT.out).mono ?_
      rintro e w' ⟨rfl, hb⟩
      have HB : Hid (Below w.heap.size w w') := hb
      clear hb
      go_wp2
      go_ret
      exact ⟨by rw [HD.out]; rfl, HB.out⟩
    · obtain ⟨bt, hbt⟩ : ∃ bt, UInt8.ofNat (48 + n % 10) = bt := ⟨_, rfl⟩
      have HBT : Hid (UInt8.ofNat (48 + n % 10) = bt) := hbt
      have HD : Hid (digitsL n = digitsL (n / 10) ++ [bt]) := by show digitsL n = _; rw [digits_great (by omega), hbt]
      have hdl : (digitsL (n / 10)).length ≤ 19 := digits_length 18 (n / 10) (by omega)
      clear hbt
      have IH : Hid (∀ (w : World), Calls Tryz.prog 211 #[.int .i64 (-((n / 10 : Nat) : Int))] w fun e w' => e = .returned (.string ⟨(digitsL (n / 10)).toArray⟩) ∧ Below w.heap.size w w') := fun w => ih (n / 10) (by omega) w (by omega)
      clear ih
      have hd : (-(n : Int)).tdiv 10 = -((n / 10 : Nat) : Int) := by rw [Int.neg_tdiv, Int.tdiv_eq_ediv_of_nonneg (by omega)]; rfl
      have hm : (-(n : Int)).tmod 10 = -((n % 10 : Nat) : Int) := by rw [Int.neg_tmod, Int.tmod_eq_emod_of_nonneg (by omega)]; rfl
      go_enter Tryz.func211, Tryz.ntmps211
      go_wp2_with fail
      refine (IH.out _).mono ?_
      rintro e w1 ⟨rfl, hb1⟩
      clear IH
      generalize digitsL (n / 10) = ds at HD hdl
      have HB1 : Hid (Below w.heap.size w w1) := hb1
      clear hb1
      go_wp2_with fail
      refine (byte_is _ (48 + n % 10) bt _ (by omega) (by omega) HBT.out).mono ?_
      rintro e w2 ⟨rfl, hb2⟩
      have HB2 : Hid (Below w.heap.size w w2) := HB1.out.trans (hb2.mono HB1.out.size)
      clear hb2 HB1
      go_wp2
      go_ret
      exact ⟨by rw [HD.out, ← bytes_snoc]; rfl, HB2.out⟩

set_option maxRecDepth 100000 in
theorem decimal_any (n : Nat) (w : World) (hn : n ≤ 1000000000000000000) : Calls Tryz.prog 154 #[.int .i64 n] w fun e w' => e = .returned (.string ⟨(digitsL n).toArray⟩) ∧ Below w.heap.size w w' := by
  go_enter Tryz.func154, Tryz.ntmps154
  go_wp2_with fail
  refine (below_any n _ hn).mono ?_
  rintro e w1 ⟨rfl, hb1⟩
  have HB1 : Hid (Below w.heap.size w w1) := hb1
  clear hb1
  go_wp2
  go_ret
  exact ⟨rfl, HB1.out⟩

/-- Digits read from one place on. -/
theorem value_snoc (s : List UInt8) (b : UInt8) : valueFrom 0 (s ++ [b]) = 10 * valueFrom 0 s + (b.toNat - 48) := by simp [valueFrom]
theorem value_from : ∀ (s : List UInt8) (h : Nat), s.all isDigit = true → valueFrom h s < (h + 1) * 10 ^ s.length
  | [], h, _ => by simp [valueFrom]
  | b :: r, h, hd => by
    rw [List.all_cons, Bool.and_eq_true] at hd
    have h2 := hd.1
    simp [isDigit] at h2
    have ih := value_from r (10 * h + (b.toNat - 48)) hd.2
    show valueFrom (10 * h + (b.toNat - 48)) r < _
    have : (10 * h + (b.toNat - 48) + 1) * 10 ^ r.length ≤ ((h + 1) * 10) * 10 ^ r.length := Nat.mul_le_mul_right _ (by omega)
    rw [List.length_cons, Nat.pow_succ, Nat.mul_comm (10 ^ r.length) 10, ← Nat.mul_assoc]
    omega
theorem value_lt {s : List UInt8} (h : s.all isDigit = true) (hl : s.length ≤ 18) : valueFrom 0 s < 1000000000000000000 := by
  have h1 := value_from s 0 h
  have h2 : 10 ^ s.length ≤ 10 ^ 18 := Nat.pow_le_pow_right (by decide) hl
  omega
end Go.Proofs.YtmcfkoenpikldaaGreatDoor
/-
  The document's answer for sums: SumOf, powerOf, JoinSums: over this seat's translation.
-/
namespace Go.Proofs.YtmcfkoenpikldaaGreatDoor
open Go.RowKit

theorem w64 (z : Int) (h : -9223372036854775808 ≤ z ∧ z ≤ 9223372036854775807) : wrap64 z = z := by unfold wrap64; omega
theorem tmod_nat (a m : Nat) : ((a : Int)).tmod (m : Int) = ((a % m : Nat) : Int) := by
  rw [Int.tmod_eq_emod_of_nonneg (by omega)]
  rfl
theorem powM_half (n : Nat) : powM n = if n % 2 = 1 then powM (n / 2) * powM (n / 2) % Mo * 263 % Mo else powM (n / 2) * powM (n / 2) % Mo := by
  have e : powM (n / 2 + n / 2) = powM (n / 2) * powM (n / 2) % Mo := powM_add _ _
  by_cases h : n % 2 = 1
  · rw [if_pos h, ← e, ← powM_succ]
    congr 1
    omega
  · rw [if_neg h, ← e]
    congr 1
    omega

set_option maxRecDepth 100000 in
theorem isSum_any (n : Int) (w : World) : Calls Tryz.prog 153 #[.int .i64 n] w fun e w' => e = .returned (.bool (decide (0 ≤ n ∧ n < 1000000007))) ∧ w' = w := by
  by_cases h1 : 0 ≤ n
  · by_cases h2 : n < 1000000007
    · rw [decide_eq_true ⟨h1, h2⟩]
      go_enter Tryz.func153, Tryz.ntmps153
      go_wp2
      go_ret
      exact ⟨rfl, rfl⟩
    · rw [decide_eq_false (fun h => h2 h.2)]
      have h2' : decide (n < 1000000007) = false := by simp; omega
      clear h2
      go_enter Tryz.func153, Tryz.ntmps153
      go_wp2
      go_ret
      exact ⟨rfl, rfl⟩
  · rw [decide_eq_false (fun h => h1 h.1)]
    have h1' : decide (0 ≤ n) = false := by simp; omega
    clear h1
    go_enter Tryz.func153, Tryz.ntmps153
    go_wp2
    go_ret
    exact ⟨rfl, rfl⟩

set_option maxRecDepth 100000 in
set_option maxHeartbeats 1000000 in
theorem refSumOf_any (l : List UInt8) (w : World) (hl : l.length ≤ 100000000) : Calls Tryz.prog 134 #[.string ⟨l.toArray⟩] w fun e w' => e = .returned (.int .i64 (sumL l)) ∧ w' = w := by
  go_enter Tryz.func134, Tryz.ntmps134
  go_wp2_with fail
  go_loopw [3, 4, 5] (fun nv pv iv wr => ∃ j : Nat, j ≤ l.length ∧ nv = .int .i64 (sumL (l.drop j)) ∧ pv = .int .i64 (powM (l.length - j)) ∧ iv = .int .i64 ((j : Int) - 1) ∧ wr = w) (fun _ _ iv _ => (intOf iv + 1).toNat)
  case atStart => exact ⟨l.length, Nat.le_refl _, by rw [List.drop_length]; rfl, by rw [Nat.sub_self]; rfl, by go_num, rfl⟩
  case round =>
    obtain ⟨j, hj, rfl, rfl, rfl, hb⟩ := hrel
    subst hb
    rcases j with _ | j
    · go_wp2
      go_ret
      exact ⟨by rw [List.drop_zero]; rfl, rfl⟩
    · have hlt : j < l.length := by omega
      have HS : Hid (sumL (l.drop j) = ((l[j].toNat + 1) * powM (l.length - (j + 1)) + sumL (l.drop (j + 1))) % Mo) := by
        show sumL (l.drop j) = _
        rw [List.drop_eq_getElem_cons hlt, sumL_cons, List.length_drop]
      have HP : Hid (powM (l.length - j) = powM (l.length - (j + 1)) * 263 % Mo) := by
        show powM (l.length - j) = _
        rw [← powM_succ]
        congr 1
        omega
      have h1 := sumL_lt (l.drop (j + 1))
      have h2 := powM_lt (l.length - (j + 1))
      generalize sumL (l.drop (j + 1)) = n at HS h1
      generalize powM (l.length - (j + 1)) = q at HS HP h2
      have hx : (((j + 1 : Nat) : Int) - 1) = (j : Int) := by omega
      rw [hx]
      clear hx
      unfold Mo at h1 h2
      go_wp2_with fail
      have hbl := l[j].toNat_lt
      have hqb : (l[j].toNat + 1) * q ≤ 256 * 1000000006 := Nat.mul_le_mul (by omega) (by omega)
      have e0 : wrap64 (l[j].toNat : Int) = (l[j].toNat : Int) := w64 _ (by omega)
      have e1 : wrap64 ((l[j].toNat : Int) + 1) = (l[j].toNat : Int) + 1 := w64 _ (by omega)
      have e2 : (q : Int) * ((l[j].toNat : Int) + 1) = (((l[j].toNat + 1) * q : Nat) : Int) := by rw [Int.natCast_mul, Int.mul_comm]; rfl
      have e3 : wrap64 (((l[j].toNat + 1) * q : Nat) : Int) = (((l[j].toNat + 1) * q : Nat) : Int) := w64 _ (by omega)
      have e4 : wrap64 ((n : Int) + (((l[j].toNat + 1) * q : Nat) : Int)) = (((l[j].toNat + 1) * q + n : Nat) : Int) := by rw [w64 _ (by omega)]; omega
      refine ⟨⟨j, by omega, ?_, ?_, rfl, trivial⟩, by simp [intOf]⟩
      · show Value.int .i64 ((wrap64 (n + wrap64 (q * wrap64 (wrap64 (l[j].toNat : Int) + 1)))).tmod 1000000007) = _
        rw [e0, e1, e2, e3, e4, HS.out]
        exact congrArg _ (tmod_nat _ _)
      · rw [HP.out]
        go_num

/-- Two sums joined: the number, and an error's number. -/
def joinS (a b n : Int) : Int × Nat := if isS a = true ∧ isS b = true ∧ 0 ≤ n ∧ n ≤ 1073741824 then ((((a.toNat * powM n.toNat + b.toNat) % Mo : Nat) : Int), 0) else (0, 2)

theorem bytes_cons (b : UInt8) (a : List UInt8) : (⟨#[b]⟩ : ByteArray) ++ ⟨a.toArray⟩ = ⟨(b :: a).toArray⟩ := by
  apply ByteArray.ext
  simp

set_option maxRecDepth 100000 in
theorem sumText_any (n : Int) (w : World) : Calls Tryz.prog 155 #[.int .i64 n] w fun e w' => e = .returned (.string ⟨(textS n).toArray⟩) ∧ Below w.heap.size w w' := by
  by_cases h : isS n = true
  · have HT : Hid (textS n = 115 :: digitsL n.toNat) := by show textS n = _; unfold textS; rw [if_pos h]
    obtain ⟨k, rfl⟩ := Int.eq_ofNat_of_zero_le (of_decide_eq_true h).1
    have hk := (of_decide_eq_true h).2
    have HA : Hid (decide (0 ≤ (k : Int) ∧ (k : Int) < 1000000007) = true) := h
    have hdl : (digitsL k).length ≤ 10 := digits_length 9 k (by omega)
    clear h
    go_enter Tryz.func155, Tryz.ntmps155
    go_wp2_with fail
    refine (isSum_any _ _).mono ?_
    rintro e w' ⟨rfl, rfl⟩
    rw [HA.out]
    go_wp2_with fail
    refine (decimal_any k _ (by omega)).mono ?_
    rintro e w1 ⟨rfl, hb1⟩
    have HB1 := hb1
    clear hb1
    rw [Int.toNat_natCast] at HT
    generalize digitsL k = ds at HT hdl
    go_wp2
    go_ret
    exact ⟨by rw [HT.out, ← bytes_cons]; rfl, HB1⟩
  · have HT : Hid (textS n = []) := by show textS n = _; unfold textS; rw [if_neg h]
    have HA : Hid (decide (0 ≤ n ∧ n < 1000000007) = false) := Bool.eq_false_iff.2 h
    clear h
    go_enter Tryz.func155, Tryz.ntmps155
    go_wp2_with fail
    refine (isSum_any _ _).mono ?_
    rintro e w' ⟨rfl, rfl⟩
    rw [HA.out]
    go_wp2
    go_ret
    exact ⟨by rw [HT.out]; rfl, Below.refl _ _⟩
end Go.Proofs.YtmcfkoenpikldaaGreatDoor
/-
  Package sum: isSum, power, Of: contracts, over this seat's translation.
-/
namespace Go.Proofs.YtmcfkoenpikldaaGreatDoor
open Go.RowKit

set_option maxRecDepth 100000 in
theorem pkIsSum_any (n : Int) (w : World) : Calls Tryz.prog 192 #[.int .i64 n] w fun e w' => e = .returned (.bool (isS n)) ∧ w' = w := by
  unfold isS
  by_cases h1 : 0 ≤ n
  · by_cases h2 : n < 1000000007
    · rw [decide_eq_true ⟨h1, h2⟩]
      go_enter Tryz.func192, Tryz.ntmps192
      go_wp2
      go_ret
      exact ⟨rfl, rfl⟩
    · rw [decide_eq_false (fun h => h2 h.2)]
      have h2' : decide (n < 1000000007) = false := by simp; omega
      clear h2
      go_enter Tryz.func192, Tryz.ntmps192
      go_wp2
      go_ret
      exact ⟨rfl, rfl⟩
  · rw [decide_eq_false (fun h => h1 h.1)]
    have h1' : decide (0 ≤ n) = false := by simp; omega
    clear h1
    go_enter Tryz.func192, Tryz.ntmps192
    go_wp2
    go_ret
    exact ⟨rfl, rfl⟩

theorem mul_mod_pow (a x m : Nat) : a * (x % Mo) ^ m % Mo = a * x ^ m % Mo := by
  rw [Nat.mul_mod, Nat.pow_mod (x % Mo), Nat.mod_mod, ← Nat.pow_mod, ← Nat.mul_mod]
/-- A power of a square: what is left of it. -/
theorem pow_odd (o q k : Nat) (h : k % 2 = 1) : o * q % Mo * (q * q % Mo) ^ (k / 2) % Mo = o * q ^ k % Mo := by
  have e : q ^ k = q * (q * q) ^ (k / 2) := by
    rw [← Nat.pow_two, ← Nat.pow_mul, ← Nat.pow_succ']
    congr 1
    omega
  rw [mul_mod_pow, e, ← Nat.mul_assoc, Nat.mod_mul_mod]
theorem pow_even (o q k : Nat) (h : ¬ k % 2 = 1) : o * (q * q % Mo) ^ (k / 2) % Mo = o * q ^ k % Mo := by
  have e : q ^ k = (q * q) ^ (k / 2) := by
    rw [← Nat.pow_two, ← Nat.pow_mul]
    congr 1
    omega
  rw [mul_mod_pow, e]

theorem mul_fits {x y : Nat} (hx : x < 1000000007) (hy : y < 1000000007) : IntKind.i64.wrap ((x : Int) * (y : Int)) = (x : Int) * (y : Int) ∧ ((x : Int) * (y : Int)).tmod 1000000007 = ((x * y % 1000000007 : Nat) : Int) := by
  have hxy : x * y ≤ 1000000006 * 1000000006 := Nat.mul_le_mul (by omega) (by omega)
  refine ⟨?_, by rw [← Int.natCast_mul]; exact tmod_nat _ _⟩
  rw [IntKind.wrap_i64, ← Int.natCast_mul]
  omega

set_option maxRecDepth 100000 in
set_option maxHeartbeats 1000000 in
theorem pkOf_any (l : List UInt8) (w : World) (hl : l.length ≤ 281474976710656) : Calls Tryz.prog 118 #[.string ⟨l.toArray⟩] w fun e w' => e = .returned (.int .i64 (sumL l)) ∧ w' = w := by
  go_enter Tryz.func118, Tryz.ntmps118
  go_wp2_with fail
  go_loopw [3, 7] (fun nv iv wr => ∃ j : Nat, j ≤ l.length ∧ nv = .int .i64 (sumL (l.take j)) ∧ iv = .int .i64 (j : Int) ∧ wr = w) (fun _ iv _ => l.length - (intOf iv).toNat)
  case atStart => exact ⟨0, Nat.zero_le _, by rw [List.take_zero]; rfl, rfl, rfl⟩
  case round =>
    obtain ⟨j, hj, rfl, rfl, hb⟩ := hrel
    subst hb
    by_cases h0 : j = l.length
    · subst h0
      go_wp2
      go_ret
      exact ⟨by rw [List.take_length]; rfl, rfl⟩
    · have hlt : j < l.length := by omega
      have HS : Hid (sumL (l.take (j + 1)) = (sumL (l.take j) * 263 + l[j].toNat + 1) % Mo) := by
        show sumL (l.take (j + 1)) = _
        rw [List.take_add_one, List.getElem?_eq_getElem hlt]
        exact sumL_snoc _ _
      have h1 := sumL_lt (l.take j)
      unfold Mo at h1
      clear h0
      generalize sumL (l.take j) = n at HS h1
      go_wp2_with fail
      have hbl := l[j].toNat_lt
      have e0 : wrap64 (l[j].toNat : Int) = (l[j].toNat : Int) := w64 _ (by omega)
      have e1 : wrap64 ((n : Int) * 263 + (l[j].toNat : Int)) = (n : Int) * 263 + (l[j].toNat : Int) := w64 _ (by omega)
      have e2 : wrap64 ((n : Int) * 263 + (l[j].toNat : Int) + 1) = ((n * 263 + l[j].toNat + 1 : Nat) : Int) := by rw [w64 _ (by omega)]; omega
      refine ⟨⟨j + 1, by omega, ?_, rfl, trivial⟩, by simp [intOf]; omega⟩
      show Value.int .i64 ((wrap64 (wrap64 ((n : Int) * 263 + wrap64 (l[j].toNat : Int)) + 1)).tmod 1000000007) = _
      rw [e0, e1, e2, HS.out]
      exact congrArg _ (tmod_nat _ _)
end Go.Proofs.YtmcfkoenpikldaaGreatDoor
/-
  What package sum wants of the listed variables: two errors of package api, two of package strconv, the table of powers of ten; and package sum's Join: a contract, over this seat's translation.
-/
namespace Go.Proofs.YtmcfkoenpikldaaGreatDoor
open Go.RowKit

structure SEnv (p : Nat → Addr) (w : World) : Prop where
  s0 : w.cell? ⟨6, 0, none⟩ = some (.iface 379 (.pointer (some (p 0))))
  s1 : w.cell? ⟨3, 0, none⟩ = some (.iface 379 (.pointer (some (p 1))))
  syn : ∃ a, w.cell? ⟨16, 0, none⟩ = some (.iface 379 (.pointer (some a)))
  rng : ∃ a, w.cell? ⟨17, 0, none⟩ = some (.iface 379 (.pointer (some a)))
  tab : Lib.TabIs Tryz.prog w "internal/strconv.uint64pow10" .u64 Lib.pow10Tab

theorem lt_of_cell {w : World} {a : Addr} {v : Value} (h : w.cell? a = some v) : a.block < w.heap.size := by
  rcases Nat.lt_or_ge a.block w.heap.size with h' | h'
  · exact h'
  · simp [World.cell?, Array.getElem?_eq_none h'] at h
theorem var_below {n : String} {g : Nat} {cs : Array Value} {w w' : World} (hg : Tryz.prog.globalNamed n = some g) (h : w.var? Tryz.prog n = some cs) (hb : Below w.heap.size w w') : w'.var? Tryz.prog n = some cs := by
  unfold World.var? at h ⊢
  rw [hg] at h ⊢
  simp only [Option.bind_some] at h ⊢
  have hlt : g < w.heap.size := by
    rcases Nat.lt_or_ge g w.heap.size with h' | h'
    · exact h'
    · rw [Array.getElem?_eq_none h'] at h; cases h
  rw [hb.block g hlt]
  exact h
theorem Tryz.gPow10 : Tryz.prog.globalNamed "internal/strconv.uint64pow10" = some 15 := by kernel_rfl

theorem SEnv.below {p : Nat → Addr} {w w' : World} (E : SEnv p w) (hb : Below w.heap.size w w') : SEnv p w' where
  s0 := (hb.cell (p := ⟨6, 0, none⟩) (lt_of_cell E.s0)).trans E.s0
  s1 := (hb.cell (p := ⟨3, 0, none⟩) (lt_of_cell E.s1)).trans E.s1
  syn := by
    obtain ⟨a, h⟩ := E.syn
    exact ⟨a, (hb.cell (p := ⟨16, 0, none⟩) (lt_of_cell h)).trans h⟩
  rng := by
    obtain ⟨a, h⟩ := E.rng
    exact ⟨a, (hb.cell (p := ⟨17, 0, none⟩) (lt_of_cell h)).trans h⟩
  tab := var_below Tryz.gPow10 E.tab hb

theorem joinS_yes {a b n : Int} (ha : isS a = true) (hb : isS b = true) (h0 : 0 ≤ n) (h1 : n ≤ 1073741824) : joinS a b n = ((((a.toNat * powM n.toNat + b.toNat) % Mo : Nat) : Int), 0) := by simp only [joinS, ha, hb, h0, h1, and_self, if_true]
theorem joinS_no {a b n : Int} (h : ¬ (isS a = true ∧ isS b = true ∧ 0 ≤ n ∧ n ≤ 1073741824)) : joinS a b n = (0, 2) := by unfold joinS; rw [if_neg h]

end Go.Proofs.YtmcfkoenpikldaaGreatDoor
