/-
  The document's answer for numbers: NumberOf, ReadSum: over this seat's translation.
-/
import Derived.Test.YtkcjgncpcidfoaaGreatDoorRefDigitsRefSumPkSum
import Derived.Test.YtkcjgncpcidfoaaGreatDoorDigitsReadPure
namespace Go.Proofs.YtkcjgncpcidfoaaGreatDoor
open Go.RowKit

theorem number_bad {s : List UInt8} {k : Nat} (h : s.length < 1 ∨ k < s.length ∨ (1 < s.length ∧ s.head? = some 48)) : numberL s k = -1 := by
  unfold numberL
  rw [if_pos h]
theorem number_good {s : List UInt8} {k : Nat} (h : ¬ (s.length < 1 ∨ k < s.length ∨ (1 < s.length ∧ s.head? = some 48))) (hd : s.all isDigit = true) : numberL s k = (valueFrom 0 s : Nat) := by
  unfold numberL
  rw [if_neg h, if_pos hd]
theorem number_none {s : List UInt8} {k : Nat} {b : UInt8} (hb : b ∈ s) (hd : isDigit b = false) : numberL s k = -1 := by
  unfold numberL
  split
  · rfl
  · rw [if_neg]
    intro h
    have := List.all_eq_true.1 h b hb
    rw [hd] at this
    cases this
theorem value_lt17 {s : List UInt8} (h : s.all isDigit = true) (hl : s.length ≤ 17) : valueFrom 0 s < 100000000000000000 := by
  have h1 := value_from s 0 h
  have h2 : 10 ^ s.length ≤ 10 ^ 17 := Nat.pow_le_pow_right (by decide) hl
  omega
theorem head_zero {l : List UInt8} (h : 0 < l.length) : (l[0].toNat = 48) ↔ l.head? = some 48 := by
  cases l with
  | nil => simp at h
  | cons b r =>
    simp
    constructor
    · intro e
      exact UInt8.toNat_inj.1 e
    · intro e
      rw [e]
      rfl

set_option maxRecDepth 100000 in
set_option maxHeartbeats 1000000 in
theorem numberOf_bad (l : List UInt8) (k : Nat) (w : World) (hl : l.length ≤ 281474976710656) (hbad : l.length < 1 ∨ k < l.length ∨ (1 < l.length ∧ l.head? = some 48)) : Calls Tryz.prog 27 #[.string ⟨l.toArray⟩, .int .i64 k] w fun e w' => e = .returned (.int .i64 (numberL l k)) ∧ w' = w := by
  have HN : Hid (numberL l k = -1) := number_bad hbad
  by_cases h1 : l.length < 1
  · have hl0 : l = [] := by cases l with | nil => rfl | cons b r => simp at h1
    subst hl0
    clear h1 hbad
    go_enter Tryz.func27, Tryz.ntmps27
    go_wp2
    go_ret
    exact ⟨by rw [HN.out]; rfl, rfl⟩
  · by_cases h2 : k < l.length
    · have h3 : decide ((l.length : Int) < 1) = false := by simp; omega
      clear h1 hbad
      go_enter Tryz.func27, Tryz.ntmps27
      go_wp2
      all_goals go_ret
      all_goals exact ⟨by rw [HN.out]; rfl, rfl⟩
    · obtain ⟨h3, h4⟩ : 1 < l.length ∧ l.head? = some 48 := by
        rcases hbad with h | h | h
        · exact absurd h h1
        · exact absurd h h2
        · exact h
      have h5 : decide ((l.length : Int) < 1) = false := by simp; omega
      have hsz : 0 < ({ data := l.toArray } : ByteArray).size := by simp [ByteArray.size]; omega
      have hz : ((({ data := l.toArray } : ByteArray)[0]'hsz).toNat : Int) = 48 := by
        have := (head_zero (by omega)).2 h4
        show ((l[0]'(by omega)).toNat : Int) = 48
        omega
      clear h1 h4 hbad
      go_enter Tryz.func27, Tryz.ntmps27
      go_wp2
      all_goals go_ret
      all_goals exact ⟨by rw [HN.out]; rfl, rfl⟩

set_option maxRecDepth 100000 in
set_option maxHeartbeats 1000000 in
theorem numberOf_good (l : List UInt8) (k : Nat) (w : World) (hk : k ≤ 18) (hgood : ¬ (l.length < 1 ∨ k < l.length ∨ (1 < l.length ∧ l.head? = some 48))) : Calls Tryz.prog 27 #[.string ⟨l.toArray⟩, .int .i64 k] w fun e w' => e = .returned (.int .i64 (numberL l k)) ∧ w' = w := by
  have HN := Lib.hid (number_good hgood)
  have h1 : 1 ≤ l.length := by omega
  have h2 : l.length ≤ k := by omega
  have h3 : decide ((l.length : Int) < 1) = false := by simp; omega
  have h4 : decide (k < l.length) = false := by simp; omega
  have hsz : 0 < ({ data := l.toArray } : ByteArray).size := by simp [ByteArray.size]; omega
  have hc : decide ((1 : Int) < l.length) = false ∨ (1 < l.length ∧ (((({ data := l.toArray } : ByteArray)[0]'hsz).toNat : Int) == 48) = false) := by
    by_cases h5 : 1 < l.length
    · refine Or.inr ⟨h5, ?_⟩
      have h6 : l.head? ≠ some 48 := fun e => hgood (Or.inr (Or.inr ⟨h5, e⟩))
      have h7 := (not_congr (head_zero (l := l) (by omega))).2 h6
      show (((l[0]'(by omega)).toNat : Int) == 48) = false
      simp
      omega
    · exact Or.inl (by simp; omega)
  clear hgood
  rcases hc with h5 | ⟨h5, h6⟩
  all_goals
    go_enter Tryz.func27, Tryz.ntmps27
    go_wp2_with fail
    go_loopw [5, 6] (fun nv iv wr => ∃ j : Nat, j ≤ l.length ∧ (l.take j).all isDigit = true ∧ nv = .int .i64 (valueFrom 0 (l.take j) : Nat) ∧ iv = .int .i64 (j : Int) ∧ wr = w) (fun _ iv _ => l.length - (intOf iv).toNat)
    case atStart => exact ⟨0, Nat.zero_le _, rfl, rfl, rfl, rfl⟩
    case round =>
      obtain ⟨j, hj, hd, rfl, rfl, hb⟩ := hrel
      subst hb
      by_cases h0 : j = l.length
      · subst h0
        rw [List.take_length] at hd ⊢
        have HM := Lib.hid (HN.out hd)
        clear HN hd
        go_wp2
        go_ret
        exact ⟨by rw [HM.out]; rfl, rfl⟩
      · have hlt : j < l.length := by omega
        have hv := value_lt17 hd (by rw [List.length_take]; omega)
        have htk : l.take (j + 1) = l.take j ++ [l[j]] := by rw [List.take_add_one, List.getElem?_eq_getElem hlt]; rfl
        have HV := Lib.hid (value_snoc (l.take j) l[j])
        have HX := Lib.hid (fun hx : isDigit l[j] = false => number_none (k := k) (List.getElem_mem hlt) hx)
        have HD := Lib.hid hd
        have HT := Lib.hid htk
        have hjs : j < ({ data := l.toArray } : ByteArray).size := by simp [ByteArray.size]; omega
        obtain ⟨b, hb⟩ : ∃ b, l[j] = b := ⟨_, rfl⟩
        have hbj : ({ data := l.toArray } : ByteArray)[j]'hjs = b := hb
        rw [hb] at HV HX HT
        clear h0 hd htk hb
        generalize valueFrom 0 (l.take j) = n at HV hv ⊢
        by_cases hlo : b.toNat < 48
        · have HM := Lib.hid (HX.out (by simp [isDigit]; omega))
          have hlo' : (b.toNat : Int) < 48 := by omega
          clear HX HN
          go_wp2
          go_ret
          exact ⟨by rw [HM.out]; rfl, rfl⟩
        · have hlo' : decide ((b.toNat : Int) < 48) = false := by simp; omega
          by_cases hhi : 57 < b.toNat
          · have HM := Lib.hid (HX.out (by simp [isDigit]; omega))
            have hhi' : (57 : Int) < (b.toNat : Int) := by omega
            clear HX HN
            go_wp2
            go_ret
            exact ⟨by rw [HM.out]; rfl, rfl⟩
          · have hhi' : decide ((57 : Int) < (b.toNat : Int)) = false := by simp; omega
            clear HX HN
            go_wp2_with fail
            refine ⟨⟨j + 1, by omega, ?_, ?_, rfl, trivial⟩, by simp [intOf]; omega⟩
            · rw [HT.out, List.all_append, HD.out]
              simp [isDigit]
              omega
            · rw [HT.out, HV.out]
              congr 1
              omega

theorem numberOf_any (l : List UInt8) (k : Nat) (w : World) (hk : k ≤ 18) (hl : l.length ≤ 281474976710656) : Calls Tryz.prog 27 #[.string ⟨l.toArray⟩, .int .i64 k] w fun e w' => e = .returned (.int .i64 (numberL l k)) ∧ w' = w := by
  by_cases h : l.length < 1 ∨ k < l.length ∨ (1 < l.length ∧ l.head? = some 48)
  · exact numberOf_bad l k w hl h
  · exact numberOf_good l k w hk h
end Go.Proofs.YtkcjgncpcidfoaaGreatDoor
