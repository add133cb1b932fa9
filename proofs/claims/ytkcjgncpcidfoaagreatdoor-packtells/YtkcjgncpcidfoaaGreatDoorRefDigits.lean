/-
  The document's answer for digits: Byte, below, Decimal: over this seat's translation.
-/
import Derived.Test.YtkcjgncpcidfoaaGreatDoorDigits
import Derived.Test.YtkcjgncpcidfoaaGreatDoorPure
import Derived.Test.YtkcjgncpcidfoaaGreatDoorChecked
import Derived.WalkKit
import Derived.WalkSmall
import Derived.WalkSpells
import Derived.Below
import Derived.Laws.IdiomStrings
namespace Go.Proofs.YtkcjgncpcidfoaaGreatDoor
open Go.RowKit

set_option maxRecDepth 100000 in
theorem byte_any (k : Nat) (w : World) (hk : k < 256) : Calls Tryz.prog 65 #[.int .i64 k] w fun e w' => e = .returned (.string ⟨#[UInt8.ofNat k]⟩) ∧ Below w.heap.size w w' := by
  have hn : (UInt8.ofNat k).toNat = k := by rw [UInt8.toNat_ofNat']; omega
  have HC : (convert 49 9 (.slice (some ⟨w.heap.size, 0, none⟩) 1 1)).run Tryz.prog (w.alloc (.cells #[.int .u8 k] 5)) = .ok (.string ⟨#[UInt8.ofNat k]⟩) (w.alloc (.cells #[.int .u8 k] 5)) :=
    run_convert_bytes_back (P := Tryz.prog) (w.alloc (.cells #[.int .u8 k] 5)) 49 9 5 ⟨w.heap.size, 0, none⟩ 1 [UInt8.ofNat k] Tryz.underlying49 Tryz.underlying5 Tryz.underlying9 (fun j hj => by
      match j, hj with
      | 0, _ => simp [Addr.add, hn])
  clear hn
  go_enter Tryz.func65, Tryz.ntmps65
  go_wp2
  go_ret
  exact ⟨rfl, (Below.refl _ _).alloc (Nat.le_refl _) _⟩

theorem bytes_snoc (a : List UInt8) (b : UInt8) : (⟨a.toArray⟩ : ByteArray) ++ ⟨#[b]⟩ = ⟨(a ++ [b]).toArray⟩ := by
  apply ByteArray.ext
  simp
theorem byte_is (z : Int) (k : Nat) (b : UInt8) (w : World) (hz : z = k) (hk : k < 256) (hb : UInt8.ofNat k = b) : Calls Tryz.prog 65 #[.int .i64 z] w fun e w' => e = .returned (.string ⟨#[b]⟩) ∧ Below w.heap.size w w' := by
  subst hz hb
  exact byte_any k w hk

set_option maxRecDepth 100000 in
set_option maxHeartbeats 1000000 in
theorem below_any (n : Nat) : ∀ (w : World), n ≤ 1000000000000000000 → Calls Tryz.prog 48 #[.int .i64 (-(n : Int))] w fun e w' => e = .returned (.string ⟨(digitsL n).toArray⟩) ∧ Below w.heap.size w w' := by
  induction n using Nat.strongRecOn with
  | ind n ih =>
    intro w hn
    by_cases h0 : n < 10
    · obtain ⟨bt, hbt⟩ : ∃ bt, UInt8.ofNat (48 + n) = bt := ⟨_, rfl⟩
      have HBT : Hid (UInt8.ofNat (48 + n) = bt) := hbt
      have HD : Hid (digitsL n = [bt]) := by show digitsL n = _; rw [digits_small h0, hbt]
      clear ih hbt
      go_enter Tryz.func48, Tryz.ntmps48
      go_wp2_with fail
      refine (byte_is _ (48 + n) bt _ (by omega) (by omega) HBT.out).mono ?_
      rintro e w' ⟨rfl, hb⟩
      have HB : Hid (Below w.heap.size w w') := hb
      clear hb
      go_wp2
      go_ret
      exact ⟨by rw [HD.out]; rfl, HB.out⟩
    · obtain ⟨bt, hbt⟩ : ∃ bt, UInt8.ofNat (48 + n % 10) = bt := ⟨_, rfl⟩
      have HBT : Hid (UInt8.ofNat (48 + n % 10) = bt) := hbt
      have HD : Hid (digitsL n = digitsL (n / 10) ++ [bt]) := by show digitsL n = _; rw [digits_great (by omega), hbt]
      have hdl : (digitsL (n / 10)).length ≤ 19 := digits_length 18 (n / 10) (by omega)
      clear hbt
      have IH : Hid (∀ (w : World), Calls Tryz.prog 48 #[.int .i64 (-((n / 10 : Nat) : Int))] w fun e w' => e = .returned (.string ⟨(digitsL (n / 10)).toArray⟩) ∧ Below w.heap.size w w') := fun w => ih (n / 10) (by omega) w (by omega)
      clear ih
      have hd : (-(n : Int)).tdiv 10 = -((n / 10 : Nat) : Int) := by rw [Int.neg_tdiv, Int.tdiv_eq_ediv_of_nonneg (by omega)]; rfl
      have hm : (-(n : Int)).tmod 10 = -((n % 10 : Nat) : Int) := by rw [Int.neg_tmod, Int.tmod_eq_emod_of_nonneg (by omega)]; rfl
      go_enter Tryz.func48, Tryz.ntmps48
      go_wp2_with fail
      refine (IH.out _).mono ?_
      rintro e w1 ⟨rfl, hb1⟩
      clear IH
      generalize digitsL (n / 10) = ds at HD hdl
      have HB1 : Hid (Below w.heap.size w w1) := hb1
      clear hb1
      go_wp2_with fail
      refine (byte_is _ (48 + n % 10) bt _ (by omega) (by omega) HBT.out).mono ?_
      rintro e w2 ⟨rfl, hb2⟩
      have HB2 : Hid (Below w.heap.size w w2) := HB1.out.trans (hb2.mono HB1.out.size)
      clear hb2 HB1
      go_wp2
      go_ret
      exact ⟨by rw [HD.out, ← bytes_snoc]; rfl, HB2.out⟩

set_option maxRecDepth 100000 in
theorem decimal_any (n : Nat) (w : World) (hn : n ≤ 1000000000000000000) : Calls Tryz.prog 34 #[.int .i64 n] w fun e w' => e = .returned (.string ⟨(digitsL n).toArray⟩) ∧ Below w.heap.size w w' := by
  go_enter Tryz.func34, Tryz.ntmps34
  go_wp2_with fail
  refine (below_any n _ hn).mono ?_
  rintro e w1 ⟨rfl, hb1⟩
  have HB1 : Hid (Below w.heap.size w w1) := hb1
  clear hb1
  go_wp2
  go_ret
  exact ⟨rfl, HB1.out⟩

/-- Digits read from one place on. -/
theorem value_snoc (s : List UInt8) (b : UInt8) : valueFrom 0 (s ++ [b]) = 10 * valueFrom 0 s + (b.toNat - 48) := by simp [valueFrom]
theorem value_from : ∀ (s : List UInt8) (h : Nat), s.all isDigit = true → valueFrom h s < (h + 1) * 10 ^ s.length
  | [], h, _ => by simp [valueFrom]
  | b :: r, h, hd => by
    rw [List.all_cons, Bool.and_eq_true] at hd
    have h2 := hd.1
    simp [isDigit] at h2
    have ih := value_from r (10 * h + (b.toNat - 48)) hd.2
    show valueFrom (10 * h + (b.toNat - 48)) r < _
    have : (10 * h + (b.toNat - 48) + 1) * 10 ^ r.length ≤ ((h + 1) * 10) * 10 ^ r.length := Nat.mul_le_mul_right _ (by omega)
    rw [List.length_cons, Nat.pow_succ, Nat.mul_comm (10 ^ r.length) 10, ← Nat.mul_assoc]
    omega
theorem value_lt {s : List UInt8} (h : s.all isDigit = true) (hl : s.length ≤ 18) : valueFrom 0 s < 1000000000000000000 := by
  have h1 := value_from s 0 h
  have h2 : 10 ^ s.length ≤ 10 ^ 18 := Nat.pow_le_pow_right (by decide) hl
  omega
end Go.Proofs.YtkcjgncpcidfoaaGreatDoor
