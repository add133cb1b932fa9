/-
  isPartByte and isPart of package path answer as the plain functions say: walks, over this seat's translation.
-/
import Derived.Test.YtmeipangcgdinaaGreatDoorProg
import Derived.Test.YtmeipangcgdinaaGreatDoorPureFacts
import Derived.WalkKit
import Derived.WalkSmall
import Derived.WalkSpells
namespace Go.Proofs.YtmeipangcgdinaaGreatDoor
open Go.RowKit

theorem ret_bool {a b : Bool} (h : a = b) : Ending.returned (.bool a) = .returned (.bool b) := by rw [h]

theorem partByte_any (b : Int) (w : World) (h0 : 0 ≤ b) (h1 : b ≤ 255) : Calls Tryz.prog 73 #[.int .u8 b] w fun e w' => e = .returned (.bool (partInt b)) ∧ w' = w := by
  have hc : b < 48 ∨ (48 ≤ b ∧ b ≤ 57) ∨ (58 ≤ b ∧ b ≤ 96) ∨ (97 ≤ b ∧ b ≤ 122) ∨ 123 ≤ b := by omega
  rcases hc with h | ⟨h, h'⟩ | ⟨h, h'⟩ | ⟨h, h'⟩ | h
  all_goals
    go_enter Tryz.func73, Tryz.ntmps73
    go_wp2
    all_goals
      go_ret
      refine ⟨ret_bool ?_, rfl⟩
      rw [Bool.eq_iff_iff]
      simp [partInt]
      try omega

theorem partByte_is (b : Int) (r : Bool) (w : World) (h0 : 0 ≤ b) (h1 : b ≤ 255) (h : partInt b = r) : Calls Tryz.prog 73 #[.int .u8 b] w fun e w' => e = .returned (.bool r) ∧ w' = w := by
  have := partByte_any b w h0 h1
  rwa [h] at this

set_option maxHeartbeats 1000000 in
theorem isPart_any (l : List UInt8) (w : World) (hl : l.length ≤ 100000) : Calls Tryz.prog 46 #[.string ⟨l.toArray⟩] w fun e w' => e = .returned (.bool (isPart l)) ∧ w' = w := by
  by_cases h0 : l = []
  · subst h0
    go_enter Tryz.func46, Tryz.ntmps46
    go_wp2
    go_ret
    exact ⟨rfl, rfl⟩
  by_cases h1 : 12 < l.length
  · have he : isPart l = false := by simp [isPart]; omega
    rw [he]
    clear he
    have hb0 : l.isEmpty = false := by simpa using h0
    have hb1 : (12 : Int) < l.length := by omega
    clear h0
    go_enter Tryz.func46, Tryz.ntmps46
    go_wp2
    go_ret
    exact ⟨rfl, rfl⟩
  by_cases h2 : l = [46]
  · subst h2
    go_enter Tryz.func46, Tryz.ntmps46
    go_wp2
    go_ret
    exact ⟨rfl, rfl⟩
  by_cases h3 : l = [46, 46]
  · subst h3
    go_enter Tryz.func46, Tryz.ntmps46
    go_wp2
    go_ret
    exact ⟨rfl, rfl⟩
  have HP : Hid (isPart l = l.all partByte) := by
    show isPart l = l.all partByte
    simp [isPart, h0, h2, h3]
    intro _
    omega
  have hb0 : l.isEmpty = false := by simpa using h0
  have hb1 : (l.length : Int) ≤ 12 := by omega
  have hb2 : (l == [46]) = false := by simpa using h2
  have hb3 : (l == [46, 46]) = false := by simpa using h3
  clear h0 h2 h3 h1
  go_enter Tryz.func46, Tryz.ntmps46
  go_wp2_with fail
  go_loop [21] (fun i => ∃ k : Nat, k ≤ l.length ∧ i = .int .i64 k ∧ (l.take k).all partByte = true) (fun i => l.length - (intOf i).toNat)
  case atStart => exact ⟨0, by omega, rfl, by simp⟩
  case round =>
    obtain ⟨k, hk, rfl, hall⟩ := hrel
    have HA : Hid ((l.take k).all partByte = true) := hall
    clear hall
    by_cases hlt : k < l.length
    · have hb : (l[k].toNat : Int) ≤ 255 := by have := l[k].toNat_lt; omega
      by_cases hp : partByte l[k] = true
      · have HPI : Hid (partInt (l[k].toNat : Int) = true) := (partInt_byte l[k]).trans hp
        have hsnoc : Hid ((l.take (k + 1)).all partByte = true) := by
          show (l.take (k + 1)).all partByte = true
          rw [List.take_succ_eq_append_getElem hlt, List.all_append, HA.out]; simp [hp]
        clear hp
        go_wp2_with fail
        refine (partByte_is _ true _ (Int.natCast_nonneg _) hb HPI.out).mono ?_
        rintro e w' ⟨rfl, rfl⟩
        go_wp2
        go_round
        case rel => exact ⟨k + 1, by omega, by go_num, hsnoc.out⟩
        case measure => simp [intOf]; omega
      · have hp' : partByte l[k] = false := by simpa using hp
        have HPI : Hid (partInt (l[k].toNat : Int) = false) := (partInt_byte l[k]).trans hp'
        have hno : Hid (isPart l = false) := by
          show isPart l = false
          rw [HP.out, List.all_eq_false]
          exact ⟨l[k], List.getElem_mem hlt, by simp [hp']⟩
        clear hp hp'
        go_wp2_with fail
        refine (partByte_is _ false _ (Int.natCast_nonneg _) hb HPI.out).mono ?_
        rintro e w' ⟨rfl, rfl⟩
        go_wp2
        go_ret
        exact ⟨ret_bool hno.out.symm, rfl⟩
    · go_wp2
      go_ret
      have : k = l.length := by omega
      subst this
      refine ⟨ret_bool ?_, rfl⟩
      rw [HP.out]
      have := HA.out
      rw [List.take_length] at this
      exact this.symm
end Go.Proofs.YtmeipangcgdinaaGreatDoor
