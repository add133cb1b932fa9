/-
  Own texts of the proof, joined by program: PkHas, PkTimes.
-/
import Derived.Test.YtmeipangcgdinaaGreatDoorPart
import Derived.Lib.Hide
import Derived.Test.YtmeipangcgdinaaGreatDoorDigitsReadPurePressPureSumPure
import Derived.Test.YtmeipangcgdinaaGreatDoorSlotsErrAt
import Derived.Test.YtmeipangcgdinaaGreatDoorRefDigitsRefSumPkSumSumEnv
import Derived.Deep.QuietTactic
import Derived.BigQuiet
/-
  Package slices' Index and Contains over texts: contracts, over this seat's translation.
-/
namespace Go.Proofs.YtmeipangcgdinaaGreatDoor
open Go.RowKit

theorem has_take {k : List (List UInt8)} {s : List UInt8} {q : Nat} (hq : q < k.length) (h : (k.take q).contains s = false) (hx : k[q] ≠ s) : (k.take (q + 1)).contains s = false := by
  rw [List.take_succ_eq_append_getElem hq]
  simp only [List.contains_eq_mem, List.mem_append, List.mem_singleton, decide_eq_false_iff_not, not_or] at h ⊢
  exact ⟨h, fun e => hx e.symm⟩

set_option maxHeartbeats 1000000 in
theorem indexOf_any (s : List UInt8) (g o cap : Nat) (k : List (List UInt8)) (w : World) (hk : k.length ≤ 100000) (h : ∀ j (h : j < k.length), w.cell? ⟨g, o + j, none⟩ = some (.string ⟨(k[j]).toArray⟩)) :
    Calls Tryz.prog 81 #[.slice (some ⟨g, o, none⟩) k.length cap, .string ⟨s.toArray⟩] w fun e w' => (∃ i : Int, e = .returned (.int .i64 i) ∧ (0 ≤ i ↔ s ∈ k)) ∧ w' = w := by
  have H := Lib.hid h
  clear h
  go_enter Tryz.func81, Tryz.ntmps81
  go_wp2_with fail
  go_loop [8] (fun i => ∃ q : Nat, q ≤ k.length ∧ i = .int .i64 q ∧ (k.take q).contains s = false) (fun i => k.length - (intOf i).toNat)
  case atStart => exact ⟨0, by omega, rfl, by simp⟩
  case round =>
    obtain ⟨q, hq, rfl, hn⟩ := hrel
    have HN := Lib.hid hn
    clear hn
    by_cases hlt : q < k.length
    · have hc := H.out q hlt
      have hlt' : (q : Int) < (k.length : Int) := by omega
      by_cases hx : k[q] = s
      · have HF : Hid ((0 : Int) ≤ (q : Int) ↔ s ∈ k) := ⟨fun _ => hx ▸ List.getElem_mem hlt, fun _ => by omega⟩
        rw [hx] at hc
        clear hx
        go_wp2
        go_ret
        exact ⟨⟨_, rfl, HF.out⟩, rfl⟩
      · have HF := Lib.hid (has_take hlt HN.out hx)
        have hx' : (s == k[q]) = false := by rw [beq_eq_false_iff_ne]; exact fun e => hx e.symm
        clear hx
        generalize k[q] = x at hc hx'
        go_wp2
        go_round
        case rel => exact ⟨q + 1, by omega, by go_num, HF.out⟩
        case measure => simp [intOf]; omega
    · have hql : q = k.length := by omega
      have HF : Hid ((0 : Int) ≤ -1 ↔ s ∈ k) := by
        have := HN.out
        rw [hql, List.take_length, List.contains_eq_mem, decide_eq_false_iff_not] at this
        exact ⟨fun h => absurd h (by decide), fun h => absurd h this⟩
      clear hql
      go_wp2
      go_ret
      exact ⟨⟨_, rfl, HF.out⟩, rfl⟩

theorem has_any (s : List UInt8) (g o cap : Nat) (k : List (List UInt8)) (w : World) (hk : k.length ≤ 100000) (h : ∀ j (h : j < k.length), w.cell? ⟨g, o + j, none⟩ = some (.string ⟨(k[j]).toArray⟩)) :
    Calls Tryz.prog 59 #[.slice (some ⟨g, o, none⟩) k.length cap, .string ⟨s.toArray⟩] w fun e w' => e = .returned (.bool (decide (s ∈ k))) ∧ w' = w := by
  have HI := Lib.hid (indexOf_any s g o cap k w hk h)
  clear h
  go_enter Tryz.func59, Tryz.ntmps59
  go_wp2_with fail
  refine HI.out.mono ?_
  rintro e w' ⟨⟨i, rfl, hi⟩, rfl⟩
  have HF : Hid (decide (0 ≤ i) = decide (s ∈ k)) := decide_eq_decide.2 hi
  clear hi HI
  go_wp2
  go_ret
  exact ⟨ret_bool HF.out, rfl⟩
end Go.Proofs.YtmeipangcgdinaaGreatDoor
/-
  Package press: isDigit, readTimes, wrongAt, add: contracts, over this seat's translation.
-/
namespace Go.Proofs.YtmeipangcgdinaaGreatDoor
open Go.RowKit

theorem drop_at {l : List UInt8} {j : Nat} (h : j < l.length) : l.drop j = l[j] :: l.drop (j + 1) := List.drop_eq_getElem_cons h

/-- A byte of a digit, less the sign of zero. -/
theorem sub_digit {b : UInt8} (h : isDigit b = true) : IntKind.u8.wrap ((b.toNat : Int) - 48) = ((b.toNat - 48 : Nat) : Int) := by
  have := digit_le h
  rw [IntKind.wrap_u8]
  omega

end Go.Proofs.YtmeipangcgdinaaGreatDoor
