/-
  The document's answer for sums that are read: ReadSum: over this seat's translation.
-/
import Derived.Test.YtfgnngbjklpjcaaDoorRefNumber
import Derived.Lib.Strings
namespace Go.Proofs.YtfgnngbjklpjcaaDoor
open Go.RowKit

theorem readS_short {l : List UInt8} (h : l.length < 2) : readS l = (0, 1) := by
  unfold readS
  rw [if_neg]
  rintro ⟨_, h2⟩
  have hb := isS_bounds h2
  have e : numberL l.tail 10 = -1 := number_bad (Or.inl (by rw [List.length_tail]; omega))
  rw [e] at hb
  omega

theorem tail_bytes (l : List UInt8) : ({ data := l.toArray } : ByteArray).extract 1 l.length = ⟨l.tail.toArray⟩ := by
  rw [Lib.extract_eq]
  congr 2
  rw [List.drop_one]
  exact List.take_of_length_le (by simp)
theorem head_s {l : List UInt8} (h : 0 < l.length) : l[0].toNat = 115 ↔ l.head? = some 115 := by
  cases l with
  | nil => simp at h
  | cons b r =>
    simp
    constructor
    · intro e
      exact UInt8.toNat_inj.1 e
    · intro e
      rw [e]
      rfl
theorem readS_bad {l : List UInt8} (h : ¬ (l.head? = some 115 ∧ isS (numberL l.tail 10) = true)) : readS l = (0, 1) := by unfold readS; rw [if_neg h]
theorem readS_good {l : List UInt8} (h : l.head? = some 115 ∧ isS (numberL l.tail 10) = true) : readS l = (numberL l.tail 10, 0) := by unfold readS; rw [if_pos h]

set_option maxRecDepth 100000 in
set_option maxHeartbeats 1000000 in
theorem readSum_any (l : List UInt8) (w : World) (hl : l.length ≤ 281474976710656) : Calls Tryd.prog 14 #[.string ⟨l.toArray⟩] w fun e w' => e = .returned (.tuple #[.int .i64 (readS l).1, .int .i64 (readS l).2]) ∧ w' = w := by
  by_cases h : l.length < 2
  · have HR := Lib.hid (readS_short h)
    go_enter Tryd.func14, Tryd.ntmps14
    go_wp2
    go_ret2
    exact ⟨by rw [HR.out]; rfl, rfl⟩
  · have h2 : decide ((l.length : Int) < 2) = false := by simp; omega
    have hsz : 0 < ({ data := l.toArray } : ByteArray).size := by simp [ByteArray.size]; omega
    have hne : 0 < l.length := by omega
    have htl : l.tail.length ≤ 281474976710656 := by rw [List.length_tail]; omega
    by_cases hh : l.head? = some 115
    · have hz : ((({ data := l.toArray } : ByteArray)[0]'hsz).toNat : Int) = 115 := by
        have := (head_s hne).2 hh
        show ((l[0]'hne).toNat : Int) = 115
        omega
      by_cases hs : isS (numberL l.tail 10) = true
      · have HR := Lib.hid (readS_good ⟨hh, hs⟩)
        obtain ⟨b1, b2⟩ := isS_bounds hs
        clear hh hs
        have hq1 : decide (numberL l.tail 10 < 0) = false := by simp; omega
        have hq2 : decide (1000000007 ≤ numberL l.tail 10) = false := by simp; omega
        go_enter Tryd.func14, Tryd.ntmps14
        go_wp2_with fail
        rw [tail_bytes]
        refine (numberOf_any l.tail 10 _ (by decide) htl).mono ?_
        rintro e w' ⟨rfl, rfl⟩
        clear htl
        generalize numberL l.tail 10 = z at HR b1 b2 hq1 hq2 ⊢
        go_wp2
        go_ret2
        exact ⟨by rw [HR.out]; rfl, rfl⟩
      · have HR := Lib.hid (readS_bad (fun h => hs h.2))
        by_cases hq : numberL l.tail 10 < 0
        · clear hh hs
          go_enter Tryd.func14, Tryd.ntmps14
          go_wp2_with fail
          rw [tail_bytes]
          refine (numberOf_any l.tail 10 _ (by decide) htl).mono ?_
          rintro e w' ⟨rfl, rfl⟩
          clear htl
          generalize numberL l.tail 10 = z at hq ⊢
          go_wp2
          go_ret2
          exact ⟨by rw [HR.out]; rfl, rfl⟩
        · have hq2 : 1000000007 ≤ numberL l.tail 10 := by
            rcases Int.lt_or_le (numberL l.tail 10) 1000000007 with h | h
            · exact absurd (decide_eq_true ⟨by omega, h⟩) hs
            · exact h
          have hq1 : decide (numberL l.tail 10 < 0) = false := by simp; omega
          clear hh hs hq
          go_enter Tryd.func14, Tryd.ntmps14
          go_wp2_with fail
          rw [tail_bytes]
          refine (numberOf_any l.tail 10 _ (by decide) htl).mono ?_
          rintro e w' ⟨rfl, rfl⟩
          clear htl
          generalize numberL l.tail 10 = z at hq1 hq2 ⊢
          go_wp2
          go_ret2
          exact ⟨by rw [HR.out]; rfl, rfl⟩
    · have HR := Lib.hid (readS_bad (fun h => hh h.1))
      have hz : ¬ ((({ data := l.toArray } : ByteArray)[0]'hsz).toNat : Int) = 115 := by
        have := (not_congr (head_s hne)).2 hh
        show ¬ ((l[0]'hne).toNat : Int) = 115
        omega
      clear hh
      go_enter Tryd.func14, Tryd.ntmps14
      go_wp2_with fail
      rw [tail_bytes]
      refine (numberOf_any l.tail 10 _ (by decide) htl).mono ?_
      rintro e w' ⟨rfl, rfl⟩
      clear htl
      generalize numberL l.tail 10 = z
      go_wp2
      go_ret2
      exact ⟨by rw [HR.out]; rfl, rfl⟩
end Go.Proofs.YtfgnngbjklpjcaaDoor
