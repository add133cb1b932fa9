/-
  Package press: isDigit, readTimes, wrongAt, add: contracts, over this seat's translation.
-/
import Derived.Test.YtjgcifmahepajaaGreatDoorPressPure
import Derived.Test.YtjgcifmahepajaaGreatDoorSlotsErrAt
import Derived.Test.YtjgcifmahepajaaGreatDoorRefDigitsRefSumPkSum
import Derived.Deep.QuietTactic
import Derived.BigQuiet
import Derived.Lib.Hide
namespace Go.Proofs.YtjgcifmahepajaaGreatDoor
open Go.RowKit

theorem pressDigit_any (b : UInt8) (w : World) : Calls Tryz.prog 187 #[.int .u8 b.toNat] w fun e w' => e = .returned (.bool (isDigit b)) ∧ w' = w := by
  by_cases h1 : 48 ≤ b.toNat
  · by_cases h2 : b.toNat ≤ 57
    · have HD : Hid (isDigit b = true) := by show isDigit b = true; simp [isDigit, h1, h2]
      have h1' : (48 : Int) ≤ (b.toNat : Int) := by omega
      have h2' : (b.toNat : Int) ≤ 57 := by omega
      go_enter Tryz.func187, Tryz.ntmps187
      go_wp2
      go_ret
      exact ⟨by rw [HD.out]; rfl, rfl⟩
    · have HD : Hid (isDigit b = false) := by show isDigit b = false; simp [isDigit]; omega
      have h1' : (48 : Int) ≤ (b.toNat : Int) := by omega
      have h2' : ¬ (b.toNat : Int) ≤ 57 := by omega
      go_enter Tryz.func187, Tryz.ntmps187
      go_wp2
      go_ret
      exact ⟨by rw [HD.out]; rfl, rfl⟩
  · have HD : Hid (isDigit b = false) := by show isDigit b = false; simp [isDigit]; omega
    have h1' : ¬ (48 : Int) ≤ (b.toNat : Int) := by omega
    go_enter Tryz.func187, Tryz.ntmps187
    go_wp2
    go_ret
    exact ⟨by rw [HD.out]; rfl, rfl⟩

theorem pressDigit_is (z : Int) (b : UInt8) (w : World) (hz : z = b.toNat) : Calls Tryz.prog 187 #[.int .u8 z] w fun e w' => e = .returned (.bool (isDigit b)) ∧ w' = w := by
  subst hz
  exact pressDigit_any b w

theorem drop_at {l : List UInt8} {j : Nat} (h : j < l.length) : l.drop j = l[j] :: l.drop (j + 1) := List.drop_eq_getElem_cons h

/-- A byte of a digit, less the sign of zero. -/
theorem sub_digit {b : UInt8} (h : isDigit b = true) : IntKind.u8.wrap ((b.toNat : Int) - 48) = ((b.toNat - 48 : Nat) : Int) := by
  have := digit_le h
  rw [IntKind.wrap_u8]
  omega

set_option maxRecDepth 100000 in
set_option maxHeartbeats 2000000 in
theorem readTimes_any (s : List UInt8) (i : Nat) (w : World) (hs : s.length ≤ 1000000000) (hi : i ≤ s.length) :
    Calls Tryz.prog 165 #[.string ⟨s.toArray⟩, .int .i64 i] w fun e w' => e = .returned (.tuple #[.int .i64 (scan 0 0 (s.drop i)).1, .int .i64 ((i + (scan 0 0 (s.drop i)).2 : Nat) : Int)]) ∧ w' = w := by
  go_enter Tryz.func165, Tryz.ntmps165
  go_wp2_with fail
  go_loopw [4, 5] (fun nv ev wr => ∃ k n j : Nat, j = i + k ∧ k ≤ 9 ∧ j ≤ s.length ∧ scan k n (s.drop j) = scan 0 0 (s.drop i) ∧ Digs k n ∧ nv = .int .i64 n ∧ ev = .int .i64 (j : Int) ∧ wr = w) (fun _ ev _ => s.length - (intOf ev).toNat)
  case atStart => exact ⟨0, 0, i, rfl, by omega, by omega, rfl, digs_zero, rfl, rfl, rfl⟩
  case round =>
    obtain ⟨k, n, j, hj, hk, hik, hsc, hdg, rfl, rfl, hb⟩ := hrel
    subst hb
    have HJ := Lib.hid hj
    have HJ2 : Hid ((i : Int) + (k : Int) = (j : Int)) := by show _ = _; omega
    have hj0 : (i : Int) ≤ (j : Int) := by omega
    have hjk := hj
    clear hj
    have hn := digs_bound hdg hk
    have HG := Lib.hid hdg
    by_cases hlt : j < s.length
    · have HD := Lib.hid (drop_at hlt)
      have hjs : j < ({ data := s.toArray } : ByteArray).size := by simp [ByteArray.size]; omega
      obtain ⟨b, hb⟩ : ∃ b, s[j] = b := ⟨_, rfl⟩
      have hbj : ({ data := s.toArray } : ByteArray)[j]'hjs = b := hb
      rw [hb] at HD
      have HS := Lib.hid hsc
      clear hb hsc hdg
      by_cases hk9 : k < 9
      · have hk9' : (j : Int) - (i : Int) < 9 := by omega
        clear hjk
        by_cases hd : isDigit b = true
        · by_cases hz : k = 0 ∧ b = 48
          · obtain ⟨rfl, rfl⟩ := hz
            obtain rfl : n = 0 := HG.out.2.2 rfl
            have HR : Hid (scan 0 0 (s.drop i) = (0, 0)) := by
              show scan 0 0 (s.drop i) = _
              rw [← HS.out, HD.out, scan_end (by simp)]
            clear HS HG
            go_wp2_with fail
            refine (pressDigit_is _ 48 _ (by first | rfl | simp)).mono ?_
            rintro e w' ⟨rfl, rfl⟩
            rw [hd]
            go_wp2
            go_ret2
            exact ⟨by first | (rw [HR.out, ← HJ.out]; rfl) | (rw [HR.out]; show Ending.returned (.tuple #[.int .i64 n, .int .i64 j]) = .returned (.tuple #[.int .i64 n, .int .i64 ((i : Int) + (k : Int))]); rw [HJ2.out]), rfl⟩
          · have HN : Hid (scan (k + 1) (10 * n + (b.toNat - 48)) (s.drop (j + 1)) = scan 0 0 (s.drop i)) := by
              show _ = _
              rw [← HS.out, HD.out, scan_go ⟨hk9, hd, hz⟩]
            have HG2 := Lib.hid (digs_go HG.out hd hz)
            have hsub := sub_digit hd
            have hbd := digit_le hd
            have hnz : (n = 0 ∧ (b.toNat : Int) ≠ 48) ∨ n ≠ 0 := by
              by_cases hn0 : n = 0
              · refine Or.inl ⟨hn0, fun e => hz ⟨HG.out.2.1 hn0, UInt8.toNat_inj.1 (by show b.toNat = 48; omega)⟩⟩
              · exact Or.inr hn0
            clear HS HG hz
            rcases hnz with ⟨rfl, h48⟩ | hn0
            · have h48' : ((b.toNat : Int) == 48) = false := by simpa using h48
              go_wp2_with fail
              refine (pressDigit_any b _).mono ?_
              rintro e w' ⟨rfl, rfl⟩
              rw [hd]
              go_wp2
              go_roundw
              case rel => exact ⟨k + 1, 10 * 0 + (b.toNat - 48), j + 1, by rw [HJ.out]; omega, by omega, by omega, HN.out, HG2.out, by go_num, by go_num, trivial⟩
              case measure => simp [intOf]; omega
            · have hn0' : ((n : Int) == 0) = false := by simp; omega
              go_wp2_with fail
              refine (pressDigit_any b _).mono ?_
              rintro e w' ⟨rfl, rfl⟩
              rw [hd]
              go_wp2
              go_roundw
              case rel => exact ⟨k + 1, 10 * n + (b.toNat - 48), j + 1, by rw [HJ.out]; omega, by omega, by omega, HN.out, HG2.out, by go_num, by go_num, trivial⟩
              case measure => simp [intOf]; omega
        · have hd' : isDigit b = false := Bool.eq_false_iff.2 hd
          have HR : Hid (scan 0 0 (s.drop i) = (n, k)) := by
            show scan 0 0 (s.drop i) = _
            rw [← HS.out, HD.out, scan_end (by rw [hd']; simp)]
          clear HS HG
          go_wp2_with fail
          refine (pressDigit_any b _).mono ?_
          rintro e w' ⟨rfl, rfl⟩
          rw [hd']
          go_wp2
          go_ret2
          exact ⟨by first | (rw [HR.out, ← HJ.out]; rfl) | (rw [HR.out]; show Ending.returned (.tuple #[.int .i64 n, .int .i64 j]) = .returned (.tuple #[.int .i64 n, .int .i64 ((i : Int) + (k : Int))]); rw [HJ2.out]), rfl⟩
      · have hk9' : ¬ (j : Int) - (i : Int) < 9 := by omega
        have HR : Hid (scan 0 0 (s.drop i) = (n, k)) := by
          show scan 0 0 (s.drop i) = _
          rw [← HS.out, HD.out, scan_end (fun h => hk9 h.1)]
        clear HS HG hjk
        go_wp2
        go_ret2
        exact ⟨by first | (rw [HR.out, ← HJ.out]; rfl) | (rw [HR.out]; show Ending.returned (.tuple #[.int .i64 n, .int .i64 j]) = .returned (.tuple #[.int .i64 n, .int .i64 ((i : Int) + (k : Int))]); rw [HJ2.out]), rfl⟩
    · have HR : Hid (scan 0 0 (s.drop i) = (n, k)) := by
        show scan 0 0 (s.drop i) = _
        rw [← hsc, List.drop_eq_nil_of_le (by omega)]
        rfl
      clear hsc HG hdg hjk
      go_wp2
      go_ret2
      exact ⟨by first | (rw [HR.out, ← HJ.out]; rfl) | (rw [HR.out]; show Ending.returned (.tuple #[.int .i64 n, .int .i64 j]) = .returned (.tuple #[.int .i64 n, .int .i64 ((i : Int) + (k : Int))]); rw [HJ2.out]), rfl⟩

/-- An error with its place. -/
theorem wrongAt_any (p : Nat → Addr) (i : Nat) (w : World) (hE : Env p w) : Calls Tryz.prog 166 #[.int .i64 i] w fun e w' => ∃ v, e = .returned v ∧ ErrAt p w' v 1 i ∧ Below w.heap.size w w' := by
  have hg := hE.s0
  clear hE
  go_enter Tryz.func166, Tryz.ntmps166
  go_wp2
  go_ret
  exact ⟨_, rfl, .inr (.inr ⟨0, w.heap.size, 0, rfl, by decide, rfl, by simp, by simp⟩), (Below.refl _ _).alloc (Nat.le_refl _) _⟩
end Go.Proofs.YtjgcifmahepajaaGreatDoor
