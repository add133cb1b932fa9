/-
  Package tree's find, by package slices' BinarySearchFunc: over this seat's translation.
-/
import Derived.Test.YtpogcedghbokbaaGreatDoorTreeMem
import Derived.Test.YtpogcedghbokbaaGreatDoorTreeAt
import Derived.Test.YtpogcedghbokbaaGreatDoorShelf
namespace Go.Proofs.YtpogcedghbokbaaGreatDoor
open Go.RowKit Go.Shelf

theorem cmp_less : ∀ a b : List UInt8, decide (Lib.compareBytes a b < 0) = less a b
  | [], [] => by simp [Lib.compareBytes, less, Op.bytesLess]
  | [], _ :: _ => by simp [Lib.compareBytes, less, Op.bytesLess]
  | _ :: _, [] => by simp [Lib.compareBytes, less, Op.bytesLess]
  | x :: a, y :: b => by
    have ih := cmp_less a b
    simp only [less] at ih
    by_cases h1 : x < y
    · simp [Lib.compareBytes, less, Op.bytesLess, h1]
    · by_cases h2 : y < x
      · have : x ≠ y := fun e => by subst e; exact h1 h2
        simp [Lib.compareBytes, less, Op.bytesLess, h1, h2, this]
      · have : x = y := UInt8.le_antisymm (UInt8.not_lt.1 h2) (UInt8.not_lt.1 h1)
        subst this
        simp [Lib.compareBytes, less, Op.bytesLess, h1, ih]
theorem cmp_zero : ∀ a b : List UInt8, Lib.compareBytes a b = 0 ↔ a = b
  | [], [] => by simp [Lib.compareBytes]
  | [], _ :: _ => by simp [Lib.compareBytes]
  | _ :: _, [] => by simp [Lib.compareBytes]
  | x :: a, y :: b => by
    have ih := cmp_zero a b
    by_cases h1 : x < y
    · have : x ≠ y := fun e => by subst e; exact absurd h1 (UInt8.lt_irrefl _)
      simp [Lib.compareBytes, h1, this]
    · by_cases h2 : y < x
      · have : x ≠ y := fun e => by subst e; exact h1 h2
        simp [Lib.compareBytes, h1, h2, this]
      · have : x = y := UInt8.le_antisymm (UInt8.not_lt.1 h2) (UInt8.not_lt.1 h1)
        subst this
        simp [Lib.compareBytes, h1, ih]

theorem compare_is (a b : List UInt8) (w : World) : Calls Tryz.prog 46 #[.string ⟨a.toArray⟩, .string ⟨b.toArray⟩] w fun e w' => e = .returned (.int .i64 (Lib.compareBytes a b)) ∧ w' = w :=
  Tryz.strings_Compare ⟨a.toArray⟩ ⟨b.toArray⟩ w

theorem cmpOf (f : F) (q : List UInt8) (w : World) : Calls Tryz.prog 59 #[fv f, .string ⟨q.toArray⟩] w fun e w' => e = .returned (.int .i64 (Lib.compareBytes f.p q)) ∧ Below w.heap.size w w' := by
  go_enter Tryz.func59, Tryz.ntmps59
  go_wp2_with fail
  refine (compare_is f.p q _).mono ?_
  rintro e w1 ⟨rfl, rfl⟩
  go_wp2
  go_ret
  exact ⟨rfl, (Below.refl _ _).alloc (Nat.le_refl _) _⟩

set_option maxRecDepth 100000 in
set_option maxHeartbeats 2000000 in
theorem search_any (l : List F) (a : Option Addr) (ca : Nat) (q : List UInt8) (w : World) (hl : LiesAt w a l) (hf : l.length ≤ 100000) (hr : Rise l) :
    Calls Tryz.prog 58 #[.slice a l.length ca, .string ⟨q.toArray⟩, .func (.func 59) #[] #[]] w fun e w' => (∃ j : Nat, e = .returned (.tuple #[.int .i64 j, .bool (there l q j)]) ∧ Place l q j) ∧ Below w.heap.size w w' := by
  have HL : Hid (LiesAt w a l) := hl
  have HR : Hid (Rise l) := hr
  clear hl hr
  go_enter Tryz.func58, Tryz.ntmps58
  go_wp2_with fail
  go_loopw [9, 10] (fun si sj wr => ∃ i j : Nat, si = .int .i64 i ∧ sj = .int .i64 j ∧ i ≤ j ∧ j ≤ l.length ∧ ((∀ k (h : k < l.length), k < i → less l[k].p q = true) ∧ (∀ k (h : k < l.length), j ≤ k → less l[k].p q = false)) ∧ Below w.heap.size w wr) (fun si sj _ => (intOf sj).toNat - (intOf si).toNat)
  case atStart => exact ⟨0, l.length, rfl, rfl, by omega, by omega, ⟨fun _ _ h => by omega, fun _ _ h => by omega⟩, Below.refl _ _⟩
  case round =>
    obtain ⟨i, j, rfl, rfl, hij, hjl, hI, hb⟩ := hrel
    have HB : Hid (Below w.heap.size w wr) := hb
    have HI : Hid ((∀ k (h : k < l.length), k < i → less l[k].p q = true) ∧ (∀ k (h : k < l.length), j ≤ k → less l[k].p q = false)) := hI
    clear hb hI
    by_cases hlt : i < j
    · have hh : (i + j) / 2 < l.length := by omega
      obtain ⟨b, o, rfl, c0, c1, c2⟩ := (HL.out.below HB.out).at hh
      have hle := cmp_less l[(i + j) / 2].p q
      cases hq : less l[(i + j) / 2].p q with
      | true =>
        have HN : Hid (∀ k (h : k < l.length), k < (i + j) / 2 + 1 → less l[k].p q = true) := fun k hk hkh => less_before HR.out (by omega) hh hq
        have hneg : Lib.compareBytes l[(i + j) / 2].p q < 0 := of_decide_eq_true (hle.trans hq)
        clear hle hq
        generalize l[(i + j) / 2] = f at c0 c1 c2 hneg
        go_wp2_with fail
        refine (cmpOf f q _).mono ?_
        rintro e w1 ⟨rfl, hb1⟩
        have HB1 : Hid (Below w.heap.size w w1) := HB.out.trans (hb1.mono HB.out.size)
        clear hb1
        go_wp2
        go_roundw
        case rel => exact ⟨(i + j) / 2 + 1, j, by congr 1, rfl, by omega, hjl, ⟨HN.out, HI.out.2⟩, HB1.out⟩
        case measure => simp [intOf]; omega
      | false =>
        have HN : Hid (∀ k (h : k < l.length), (i + j) / 2 ≤ k → less l[k].p q = false) := fun k hk hkh => less_behind HR.out hkh hk hq
        have hneg : ¬ Lib.compareBytes l[(i + j) / 2].p q < 0 := of_decide_eq_false (hle.trans hq)
        clear hle hq
        generalize l[(i + j) / 2] = f at c0 c1 c2 hneg
        go_wp2_with fail
        refine (cmpOf f q _).mono ?_
        rintro e w1 ⟨rfl, hb1⟩
        have HB1 : Hid (Below w.heap.size w w1) := HB.out.trans (hb1.mono HB.out.size)
        clear hb1
        go_wp2
        go_roundw
        case rel => exact ⟨i, (i + j) / 2, rfl, by congr 1, by omega, by omega, ⟨HI.out.1, HN.out⟩, HB1.out⟩
        case measure => simp [intOf]; omega
    · obtain rfl : i = j := by omega
      have HP : Hid (Place l q i) := ⟨hjl, HI.out.1, fun h => HI.out.2 i h (Nat.le_refl _)⟩
      by_cases hn : i < l.length
      · obtain ⟨b, o, rfl, c0, c1, c2⟩ := (HL.out.below HB.out).at hn
        have HT : Hid (there l q i = (l[i].p == q)) := there_at hn
        have hz := cmp_zero l[i].p q
        by_cases he : l[i].p = q
        · have hz' : Lib.compareBytes l[i].p q = 0 := hz.2 he
          have HT' : Hid (there l q i = true) := HT.out.trans (by simp [he])
          clear hz he HT
          generalize l[i] = f at c0 c1 c2 hz'
          go_wp2_with fail
          refine (cmpOf f q _).mono ?_
          rintro e w1 ⟨rfl, hb1⟩
          go_wp2
          go_ret2
          exact ⟨⟨i, by rw [HT'.out]; rfl, HP.out⟩, HB.out.trans (hb1.mono HB.out.size)⟩
        · have hz' : (Lib.compareBytes l[i].p q == 0) = false := by simp [hz, he]
          have HT' : Hid (there l q i = false) := HT.out.trans (by simp [he])
          clear hz he HT
          generalize l[i] = f at c0 c1 c2 hz'
          go_wp2_with fail
          refine (cmpOf f q _).mono ?_
          rintro e w1 ⟨rfl, hb1⟩
          go_wp2
          go_ret2
          exact ⟨⟨i, by rw [HT'.out]; rfl, HP.out⟩, HB.out.trans (hb1.mono HB.out.size)⟩
      · have HT : Hid (there l q i = false) := there_end hn
        go_wp2
        go_ret2
        exact ⟨⟨i, by rw [HT.out]; rfl, HP.out⟩, HB.out⟩

theorem find_any (l : List F) (a : Option Addr) (ca : Nat) (q : List UInt8) (w : World) (hl : LiesAt w a l) (hf : l.length ≤ 100000) (hr : Rise l) :
    Calls Tryz.prog 36 #[.slice a l.length ca, .string ⟨q.toArray⟩] w fun e w' => (∃ j : Nat, e = .returned (.tuple #[.int .i64 j, .bool (there l q j)]) ∧ Place l q j) ∧ Below w.heap.size w w' := by
  have HL : Hid (LiesAt w a l) := hl
  have HR : Hid (Rise l) := hr
  clear hl hr
  go_enter Tryz.func36, Tryz.ntmps36
  go_wp2_with fail
  refine (search_any l a ca q _ HL.out hf HR.out).mono ?_
  rintro e w1 ⟨⟨j, rfl, hp⟩, hb1⟩
  go_wp2
  go_ret2
  exact ⟨⟨j, rfl, hp⟩, hb1⟩
end Go.Proofs.YtpogcedghbokbaaGreatDoor
