/-
  The document's answer for sums: SumOf, powerOf, JoinSums: over this seat's translation.
-/
import Derived.Test.YtfgnngbjklpjcaaDoorSumPure
import Derived.Test.YtfgnngbjklpjcaaDoorRefDigits
import Derived.Test.YtfgnngbjklpjcaaDoorReadPure
import Derived.Test.YtfgnngbjklpjcaaDoorPure
import Derived.Test.YtfgnngbjklpjcaaDoorChecked
import Derived.WalkKit
import Derived.WalkSmall
import Derived.WalkSpells
import Derived.Below
namespace Go.Proofs.YtfgnngbjklpjcaaDoor
open Go.RowKit

theorem w64 (z : Int) (h : -9223372036854775808 ≤ z ∧ z ≤ 9223372036854775807) : wrap64 z = z := by unfold wrap64; omega
theorem tmod_nat (a m : Nat) : ((a : Int)).tmod (m : Int) = ((a % m : Nat) : Int) := by
  rw [Int.tmod_eq_emod_of_nonneg (by omega)]
  rfl
theorem powM_half (n : Nat) : powM n = if n % 2 = 1 then powM (n / 2) * powM (n / 2) % Mo * 263 % Mo else powM (n / 2) * powM (n / 2) % Mo := by
  have e : powM (n / 2 + n / 2) = powM (n / 2) * powM (n / 2) % Mo := powM_add _ _
  by_cases h : n % 2 = 1
  · rw [if_pos h, ← e, ← powM_succ]
    congr 1
    omega
  · rw [if_neg h, ← e]
    congr 1
    omega

set_option maxRecDepth 100000 in
theorem powerOf_any (n : Nat) : ∀ (w : World), n ≤ 1073741824 → Calls Tryd.prog 21 #[.int .i64 n] w fun e w' => e = .returned (.int .i64 (powM n)) ∧ w' = w := by
  induction n using Nat.strongRecOn with
  | ind n ih =>
    intro w hn
    by_cases h0 : n = 0
    · subst h0
      clear ih
      show Calls _ _ #[.int .i64 0] _ _
      go_enter Tryd.func21, Tryd.ntmps21
      go_wp2
      go_ret
      exact ⟨rfl, rfl⟩
    · have h0' : ((n : Int) == 0) = false := by simp; omega
      have IH : Hid (∀ (w : World), Calls Tryd.prog 21 #[.int .i64 ((n / 2 : Nat) : Int)] w fun e w' => e = .returned (.int .i64 (powM (n / 2))) ∧ w' = w) := fun w => ih (n / 2) (by omega) w (by omega)
      clear ih
      have hd : (n : Int).tdiv 2 = ((n / 2 : Nat) : Int) := by rw [Int.tdiv_eq_ediv_of_nonneg (by omega)]; omega
      go_enter Tryd.func21, Tryd.ntmps21
      go_wp2_with fail
      refine (IH.out _).mono ?_
      rintro e w' ⟨rfl, rfl⟩
      have hp := powM_lt (n / 2)
      have HH : Hid (powM n = if n % 2 = 1 then powM (n / 2) * powM (n / 2) % Mo * 263 % Mo else powM (n / 2) * powM (n / 2) % Mo) := powM_half n
      clear hd IH h0'
      generalize powM (n / 2) = k at hp HH
      unfold Mo at hp
      have hkk : k * k ≤ 1000000006 * 1000000006 := Nat.mul_le_mul (by omega) (by omega)
      have hw1 : IntKind.i64.wrap ((k : Int) * (k : Int)) = (k : Int) * (k : Int) := by
        rw [IntKind.wrap_i64, ← Int.natCast_mul]
        omega
      have hm1 : ((k : Int) * (k : Int)).tmod 1000000007 = ((k * k % 1000000007 : Nat) : Int) := by rw [← Int.natCast_mul]; exact tmod_nat _ _
      have hr : k * k % 1000000007 < 1000000007 := Nat.mod_lt _ (by decide)
      generalize hR : k * k % 1000000007 = r at hm1 hr
      have HR : Hid (k * k % Mo = r) := hR
      clear hR hkk
      have hw2 : IntKind.i64.wrap ((r : Int) * 263) = (r : Int) * 263 := by rw [IntKind.wrap_i64]; omega
      by_cases ho : n % 2 = 1
      · have ho' : ((n : Int) % 2 == 1) = true := by simp; omega
        have HN : Hid (powM n = r * 263 % 1000000007) := by show powM n = _; rw [HH.out, if_pos ho, HR.out]
        clear ho HH HR
        go_wp2
        go_ret
        exact ⟨by rw [HN.out]; go_num, rfl⟩
      · have ho' : ((n : Int) % 2 == 1) = false := by simp; omega
        have HN : Hid (powM n = r) := by show powM n = _; rw [HH.out, if_neg ho, HR.out]
        clear ho HH HR
        go_wp2
        go_ret
        exact ⟨by rw [HN.out]; rfl, rfl⟩

set_option maxRecDepth 100000 in
theorem isSum_any (n : Int) (w : World) : Calls Tryd.prog 20 #[.int .i64 n] w fun e w' => e = .returned (.bool (decide (0 ≤ n ∧ n < 1000000007))) ∧ w' = w := by
  by_cases h1 : 0 ≤ n
  · by_cases h2 : n < 1000000007
    · rw [decide_eq_true ⟨h1, h2⟩]
      go_enter Tryd.func20, Tryd.ntmps20
      go_wp2
      go_ret
      exact ⟨rfl, rfl⟩
    · rw [decide_eq_false (fun h => h2 h.2)]
      have h2' : decide (n < 1000000007) = false := by simp; omega
      clear h2
      go_enter Tryd.func20, Tryd.ntmps20
      go_wp2
      go_ret
      exact ⟨rfl, rfl⟩
  · rw [decide_eq_false (fun h => h1 h.1)]
    have h1' : decide (0 ≤ n) = false := by simp; omega
    clear h1
    go_enter Tryd.func20, Tryd.ntmps20
    go_wp2
    go_ret
    exact ⟨rfl, rfl⟩

set_option maxRecDepth 100000 in
set_option maxHeartbeats 1000000 in
theorem refSumOf_any (l : List UInt8) (w : World) (hl : l.length ≤ 100000000) : Calls Tryd.prog 12 #[.string ⟨l.toArray⟩] w fun e w' => e = .returned (.int .i64 (sumL l)) ∧ w' = w := by
  go_enter Tryd.func12, Tryd.ntmps12
  go_wp2_with fail
  go_loopw [3, 4, 5] (fun nv pv iv wr => ∃ j : Nat, j ≤ l.length ∧ nv = .int .i64 (sumL (l.drop j)) ∧ pv = .int .i64 (powM (l.length - j)) ∧ iv = .int .i64 ((j : Int) - 1) ∧ wr = w) (fun _ _ iv _ => (intOf iv + 1).toNat)
  case atStart => exact ⟨l.length, Nat.le_refl _, by rw [List.drop_length]; rfl, by rw [Nat.sub_self]; rfl, by go_num, rfl⟩
  case round =>
    obtain ⟨j, hj, rfl, rfl, rfl, hb⟩ := hrel
    subst hb
    rcases j with _ | j
    · go_wp2
      go_ret
      exact ⟨by rw [List.drop_zero]; rfl, rfl⟩
    · have hlt : j < l.length := by omega
      have HS : Hid (sumL (l.drop j) = ((l[j].toNat + 1) * powM (l.length - (j + 1)) + sumL (l.drop (j + 1))) % Mo) := by
        show sumL (l.drop j) = _
        rw [List.drop_eq_getElem_cons hlt, sumL_cons, List.length_drop]
      have HP : Hid (powM (l.length - j) = powM (l.length - (j + 1)) * 263 % Mo) := by
        show powM (l.length - j) = _
        rw [← powM_succ]
        congr 1
        omega
      have h1 := sumL_lt (l.drop (j + 1))
      have h2 := powM_lt (l.length - (j + 1))
      generalize sumL (l.drop (j + 1)) = n at HS h1
      generalize powM (l.length - (j + 1)) = q at HS HP h2
      have hx : (((j + 1 : Nat) : Int) - 1) = (j : Int) := by omega
      rw [hx]
      clear hx
      unfold Mo at h1 h2
      go_wp2_with fail
      have hbl := l[j].toNat_lt
      have hqb : (l[j].toNat + 1) * q ≤ 256 * 1000000006 := Nat.mul_le_mul (by omega) (by omega)
      have e0 : wrap64 (l[j].toNat : Int) = (l[j].toNat : Int) := w64 _ (by omega)
      have e1 : wrap64 ((l[j].toNat : Int) + 1) = (l[j].toNat : Int) + 1 := w64 _ (by omega)
      have e2 : (q : Int) * ((l[j].toNat : Int) + 1) = (((l[j].toNat + 1) * q : Nat) : Int) := by rw [Int.natCast_mul, Int.mul_comm]; rfl
      have e3 : wrap64 (((l[j].toNat + 1) * q : Nat) : Int) = (((l[j].toNat + 1) * q : Nat) : Int) := w64 _ (by omega)
      have e4 : wrap64 ((n : Int) + (((l[j].toNat + 1) * q : Nat) : Int)) = (((l[j].toNat + 1) * q + n : Nat) : Int) := by rw [w64 _ (by omega)]; omega
      refine ⟨⟨j, by omega, ?_, ?_, rfl, trivial⟩, by simp [intOf]⟩
      · show Value.int .i64 ((wrap64 (n + wrap64 (q * wrap64 (wrap64 (l[j].toNat : Int) + 1)))).tmod 1000000007) = _
        rw [e0, e1, e2, e3, e4, HS.out]
        exact congrArg _ (tmod_nat _ _)
      · rw [HP.out]
        go_num

/-- Two sums joined: the number, and an error's number. -/
def joinS (a b n : Int) : Int × Nat := if isS a = true ∧ isS b = true ∧ 0 ≤ n ∧ n ≤ 1073741824 then ((((a.toNat * powM n.toNat + b.toNat) % Mo : Nat) : Int), 0) else (0, 2)

set_option maxRecDepth 100000 in
set_option maxHeartbeats 1000000 in
theorem joinSums_any (a b n : Int) (w : World) : Calls Tryd.prog 10 #[.int .i64 a, .int .i64 b, .int .i64 n] w fun e w' => e = .returned (.tuple #[.int .i64 (joinS a b n).1, .int .i64 (joinS a b n).2]) ∧ w' = w := by
  by_cases ha : isS a = true
  · by_cases hb : isS b = true
    · by_cases h0 : 0 ≤ n
      · by_cases h1 : n ≤ 1073741824
        · have HJ : Hid (joinS a b n = ((((a.toNat * powM n.toNat + b.toNat) % Mo : Nat) : Int), 0)) := by show joinS a b n = _; simp only [joinS, ha, hb, h0, h1, and_self, if_true]
          obtain ⟨x, rfl⟩ := Int.eq_ofNat_of_zero_le (of_decide_eq_true ha).1
          obtain ⟨y, rfl⟩ := Int.eq_ofNat_of_zero_le (of_decide_eq_true hb).1
          obtain ⟨k, rfl⟩ := Int.eq_ofNat_of_zero_le h0
          have hx := (of_decide_eq_true ha).2
          have hy := (of_decide_eq_true hb).2
          have HA : Hid (decide (0 ≤ (x : Int) ∧ (x : Int) < 1000000007) = true) := ha
          have HB : Hid (decide (0 ≤ (y : Int) ∧ (y : Int) < 1000000007) = true) := hb
          have hk0 : decide ((k : Int) < 0) = false := by simp
          have hk1 : decide ((1073741824 : Int) < (k : Int)) = false := by simp; omega
          clear ha hb h0
          go_enter Tryd.func10, Tryd.ntmps10
          go_wp2_with fail
          refine (isSum_any _ _).mono ?_
          rintro e w' ⟨rfl, rfl⟩
          rw [HA.out]
          go_wp2_with fail
          refine (isSum_any _ _).mono ?_
          rintro e w' ⟨rfl, rfl⟩
          rw [HB.out]
          go_wp2_with fail
          refine (powerOf_any k _ (by omega)).mono ?_
          rintro e w' ⟨rfl, rfl⟩
          have hp := powM_lt k
          simp only [Int.toNat_natCast] at HJ
          generalize powM k = q at HJ hp
          unfold Mo at hp HJ
          have hq : x * q ≤ 1000000006 * 1000000006 := Nat.mul_le_mul (by omega) (by omega)
          have e1 : IntKind.i64.wrap ((x : Int) * (q : Int)) = (x : Int) * (q : Int) := by rw [IntKind.wrap_i64, ← Int.natCast_mul]; omega
          have e2 : IntKind.i64.wrap ((x : Int) * (q : Int) + (y : Int)) = (x : Int) * (q : Int) + (y : Int) := by rw [IntKind.wrap_i64, ← Int.natCast_mul]; omega
          have e3 : ((x : Int) * (q : Int) + (y : Int)).tmod 1000000007 = (((x * q + y) % 1000000007 : Nat) : Int) := by rw [← Int.natCast_mul, ← Int.natCast_add]; exact tmod_nat _ _
          go_wp2
          go_ret2
          exact ⟨by rw [HJ.out]; rfl, rfl⟩
        · have HJ : Hid (joinS a b n = (0, 2)) := by show joinS a b n = _; unfold joinS; rw [if_neg (fun h => h1 h.2.2.2)]
          have HA : Hid (decide (0 ≤ a ∧ a < 1000000007) = true) := ha
          have HB : Hid (decide (0 ≤ b ∧ b < 1000000007) = true) := hb
          have hk0 : decide (n < 0) = false := by simp; omega
          have hk1 : (1073741824 : Int) < n := by omega
          clear ha hb h0 h1
          go_enter Tryd.func10, Tryd.ntmps10
          go_wp2_with fail
          refine (isSum_any _ _).mono ?_
          rintro e w' ⟨rfl, rfl⟩
          rw [HA.out]
          go_wp2_with fail
          refine (isSum_any _ _).mono ?_
          rintro e w' ⟨rfl, rfl⟩
          rw [HB.out]
          go_wp2
          go_ret2
          exact ⟨by rw [HJ.out]; rfl, rfl⟩
      · have HJ : Hid (joinS a b n = (0, 2)) := by show joinS a b n = _; unfold joinS; rw [if_neg (fun h => h0 h.2.2.1)]
        have HA : Hid (decide (0 ≤ a ∧ a < 1000000007) = true) := ha
        have HB : Hid (decide (0 ≤ b ∧ b < 1000000007) = true) := hb
        have hk0 : n < 0 := by omega
        clear ha hb h0
        go_enter Tryd.func10, Tryd.ntmps10
        go_wp2_with fail
        refine (isSum_any _ _).mono ?_
        rintro e w' ⟨rfl, rfl⟩
        rw [HA.out]
        go_wp2_with fail
        refine (isSum_any _ _).mono ?_
        rintro e w' ⟨rfl, rfl⟩
        rw [HB.out]
        go_wp2
        go_ret2
        exact ⟨by rw [HJ.out]; rfl, rfl⟩
    · have HJ : Hid (joinS a b n = (0, 2)) := by show joinS a b n = _; unfold joinS; rw [if_neg (fun h => hb h.2.1)]
      have HA : Hid (decide (0 ≤ a ∧ a < 1000000007) = true) := ha
      have HB : Hid (decide (0 ≤ b ∧ b < 1000000007) = false) := Bool.eq_false_iff.2 hb
      clear ha hb
      go_enter Tryd.func10, Tryd.ntmps10
      go_wp2_with fail
      refine (isSum_any _ _).mono ?_
      rintro e w' ⟨rfl, rfl⟩
      rw [HA.out]
      go_wp2_with fail
      refine (isSum_any _ _).mono ?_
      rintro e w' ⟨rfl, rfl⟩
      rw [HB.out]
      go_wp2
      go_ret2
      exact ⟨by rw [HJ.out]; rfl, rfl⟩
  · have HJ : Hid (joinS a b n = (0, 2)) := by show joinS a b n = _; unfold joinS; rw [if_neg (fun h => ha h.1)]
    have HA : Hid (decide (0 ≤ a ∧ a < 1000000007) = false) := Bool.eq_false_iff.2 ha
    obtain ⟨bb, hbb⟩ : ∃ bb, decide (0 ≤ b ∧ b < 1000000007) = bb := ⟨_, rfl⟩
    have HB : Hid (decide (0 ≤ b ∧ b < 1000000007) = bb) := hbb
    clear ha hbb
    go_enter Tryd.func10, Tryd.ntmps10
    go_wp2_with fail
    refine (isSum_any _ _).mono ?_
    rintro e w' ⟨rfl, rfl⟩
    rw [HA.out]
    go_wp2_with fail
    refine (isSum_any _ _).mono ?_
    rintro e w' ⟨rfl, rfl⟩
    rw [HB.out]
    go_wp2
    go_ret2
    exact ⟨by rw [HJ.out]; rfl, rfl⟩

theorem bytes_cons (b : UInt8) (a : List UInt8) : (⟨#[b]⟩ : ByteArray) ++ ⟨a.toArray⟩ = ⟨(b :: a).toArray⟩ := by
  apply ByteArray.ext
  simp

set_option maxRecDepth 100000 in
theorem sumText_any (n : Int) (w : World) : Calls Tryd.prog 13 #[.int .i64 n] w fun e w' => e = .returned (.string ⟨(textS n).toArray⟩) ∧ Below w.heap.size w w' := by
  by_cases h : isS n = true
  · have HT : Hid (textS n = 115 :: digitsL n.toNat) := by show textS n = _; unfold textS; rw [if_pos h]
    obtain ⟨k, rfl⟩ := Int.eq_ofNat_of_zero_le (of_decide_eq_true h).1
    have hk := (of_decide_eq_true h).2
    have HA : Hid (decide (0 ≤ (k : Int) ∧ (k : Int) < 1000000007) = true) := h
    have hdl : (digitsL k).length ≤ 10 := digits_length 9 k (by omega)
    clear h
    go_enter Tryd.func13, Tryd.ntmps13
    go_wp2_with fail
    refine (isSum_any _ _).mono ?_
    rintro e w' ⟨rfl, rfl⟩
    rw [HA.out]
    go_wp2_with fail
    refine (decimal_any k _ (by omega)).mono ?_
    rintro e w1 ⟨rfl, hb1⟩
    have HB1 := hb1
    clear hb1
    rw [Int.toNat_natCast] at HT
    generalize digitsL k = ds at HT hdl
    go_wp2
    go_ret
    exact ⟨by rw [HT.out, ← bytes_cons]; rfl, HB1⟩
  · have HT : Hid (textS n = []) := by show textS n = _; unfold textS; rw [if_neg h]
    have HA : Hid (decide (0 ≤ n ∧ n < 1000000007) = false) := Bool.eq_false_iff.2 h
    clear h
    go_enter Tryd.func13, Tryd.ntmps13
    go_wp2_with fail
    refine (isSum_any _ _).mono ?_
    rintro e w' ⟨rfl, rfl⟩
    rw [HA.out]
    go_wp2
    go_ret
    exact ⟨by rw [HT.out]; rfl, Below.refl _ _⟩
end Go.Proofs.YtfgnngbjklpjcaaDoor
