/-
  Own texts of the proof, gathered by program in their build order: Ref, RefMore, RefTree, PkPackSum, RefPackOf, RefTreeSum, RefCutBlank, RefNumber, RefReadPack, RefSame.
-/
import Derived.Test.YtlofpooobabkjaaGreatDoorGathered3
import Derived.StillTailTactics
import Derived.Test.YtlofpooobabkjaaGreatDoorGathered2
import Derived.Test.YtlofpooobabkjaaGreatDoorGathered1
import Derived.OwnWalk
import Derived.Deep.RegionHeld3
import Derived.Deep.AppendLies
/-
  The document's answer for paths tells what the plain functions tell: IsPart, PartsOf, PathError, SameTexts, glue, Begins: contracts, over this seat's translation.
-/
namespace Go.Proofs.YtlofpooobabkjaaGreatDoor
open Go.RowKit Go.Shelf

theorem partByte_of {c : UInt8} (h : c.toNat = 45 ∨ c.toNat = 46 ∨ (48 ≤ c.toNat ∧ c.toNat ≤ 57) ∨ c.toNat = 95 ∨ (97 ≤ c.toNat ∧ c.toNat ≤ 122)) : partByte c = true := by
  rw [← partInt_byte]; simp [partInt]; omega
theorem partByte_not {c : UInt8} (h : c.toNat < 45 ∨ c.toNat = 47 ∨ (58 ≤ c.toNat ∧ c.toNat ≤ 94) ∨ c.toNat = 96 ∨ 123 ≤ c.toNat) : partByte c = false := by
  rw [← partInt_byte]; simp [partInt]; omega

set_option maxHeartbeats 4000000 in
theorem refIsPart_any (l : List UInt8) (w : World) (hl : l.length ≤ 100000) : Calls Tryz.prog 64 #[.string ⟨l.toArray⟩] w fun e w' => e = .returned (.bool (isPart l)) ∧ w' = w := by
  go_enter Tryz.func64, Tryz.ntmps64
  go_wp2_with fail
  go_loop [3] (fun i => ∃ k : Nat, k ≤ l.length ∧ i = .int .i64 k ∧ (l.take k).all partByte = true) (fun i => l.length - (intOf i).toNat)
  case atStart => exact ⟨0, by omega, rfl, by simp⟩
  case round =>
    obtain ⟨k, hk, rfl, hall⟩ := hrel
    have HA : Hid ((l.take k).all partByte = true) := hall
    clear hall
    by_cases hlt : k < l.length
    · have hsz : k < ({ data := l.toArray } : ByteArray).size := by simpa [ByteArray.size] using hlt
      have hb255 : ((({ data := l.toArray } : ByteArray)[k]'hsz).toNat : Int) ≤ 255 := by have := (({ data := l.toArray } : ByteArray)[k]'hsz).toNat_lt; omega
      have HY : Hid (partByte l[k] = true → (l.take (k + 1)).all partByte = true) := fun hp => by
        rw [List.take_succ_eq_append_getElem hlt, List.all_append, HA.out]; simp [hp]
      have HN : Hid (partByte l[k] = false → isPart l = false) := fun hp => by
        have : l.all partByte = false := by
          rw [List.all_eq_false]
          exact ⟨l[k], List.getElem_mem hlt, by simp [hp]⟩
        simp [isPart, this]
      have HT : Hid ((({ data := l.toArray } : ByteArray)[k]'hsz).toNat = l[k].toNat) := rfl
      have hc : ((({ data := l.toArray } : ByteArray)[k]'hsz).toNat : Int) < 45 ∨ ((({ data := l.toArray } : ByteArray)[k]'hsz).toNat : Int) = 45 ∨ ((({ data := l.toArray } : ByteArray)[k]'hsz).toNat : Int) = 46 ∨ ((({ data := l.toArray } : ByteArray)[k]'hsz).toNat : Int) = 47
        ∨ (48 ≤ ((({ data := l.toArray } : ByteArray)[k]'hsz).toNat : Int) ∧ ((({ data := l.toArray } : ByteArray)[k]'hsz).toNat : Int) ≤ 57) ∨ (58 ≤ ((({ data := l.toArray } : ByteArray)[k]'hsz).toNat : Int) ∧ ((({ data := l.toArray } : ByteArray)[k]'hsz).toNat : Int) ≤ 94)
        ∨ ((({ data := l.toArray } : ByteArray)[k]'hsz).toNat : Int) = 95 ∨ ((({ data := l.toArray } : ByteArray)[k]'hsz).toNat : Int) = 96 ∨ (97 ≤ ((({ data := l.toArray } : ByteArray)[k]'hsz).toNat : Int) ∧ ((({ data := l.toArray } : ByteArray)[k]'hsz).toNat : Int) ≤ 122) ∨ 123 ≤ ((({ data := l.toArray } : ByteArray)[k]'hsz).toNat : Int) := by omega
      rcases hc with h | h | h | h | ⟨h, h'⟩ | ⟨h, h'⟩ | h | h | ⟨h, h'⟩ | h
      · have HF : Hid (isPart l = false) := HN.out (partByte_not (by have := HT.out; omega))
        have e46 : (((({ data := l.toArray } : ByteArray)[k]'hsz).toNat : Int) == 46) = false := by rw [beq_eq_false_iff_ne]; omega
        have e95 : (((({ data := l.toArray } : ByteArray)[k]'hsz).toNat : Int) == 95) = false := by rw [beq_eq_false_iff_ne]; omega
        have e45 : (((({ data := l.toArray } : ByteArray)[k]'hsz).toNat : Int) == 45) = false := by rw [beq_eq_false_iff_ne]; omega
        have d97 : decide (97 ≤ ((({ data := l.toArray } : ByteArray)[k]'hsz).toNat : Int)) = false := by simp; omega
        have d122 : decide (((({ data := l.toArray } : ByteArray)[k]'hsz).toNat : Int) ≤ 122) = true := by simp; omega
        have d48 : decide (48 ≤ ((({ data := l.toArray } : ByteArray)[k]'hsz).toNat : Int)) = false := by simp; omega
        have d57 : decide (((({ data := l.toArray } : ByteArray)[k]'hsz).toNat : Int) ≤ 57) = true := by simp; omega
        go_wp2
        go_ret
        exact ⟨ret_bool HF.out.symm, rfl⟩
      · have HF : Hid ((l.take (k + 1)).all partByte = true) := HY.out (partByte_of (by have := HT.out; omega))
        have e46 : (((({ data := l.toArray } : ByteArray)[k]'hsz).toNat : Int) == 46) = false := by rw [beq_eq_false_iff_ne]; omega
        have e95 : (((({ data := l.toArray } : ByteArray)[k]'hsz).toNat : Int) == 95) = false := by rw [beq_eq_false_iff_ne]; omega
        have e45 : (((({ data := l.toArray } : ByteArray)[k]'hsz).toNat : Int) == 45) = true := by rw [beq_iff_eq]; omega
        have h1 : 45 ≤ ((({ data := l.toArray } : ByteArray)[k]'hsz).toNat : Int) := by omega
        have h2 : ((({ data := l.toArray } : ByteArray)[k]'hsz).toNat : Int) ≤ 45 := by omega
        clear h
        have d97 : decide (97 ≤ ((({ data := l.toArray } : ByteArray)[k]'hsz).toNat : Int)) = false := by simp; omega
        have d122 : decide (((({ data := l.toArray } : ByteArray)[k]'hsz).toNat : Int) ≤ 122) = true := by simp; omega
        have d48 : decide (48 ≤ ((({ data := l.toArray } : ByteArray)[k]'hsz).toNat : Int)) = false := by simp; omega
        have d57 : decide (((({ data := l.toArray } : ByteArray)[k]'hsz).toNat : Int) ≤ 57) = true := by simp; omega
        go_wp2
        go_round
        case rel => exact ⟨k + 1, by omega, by go_num, HF.out⟩
        case measure => simp [intOf]; omega
      · have HF : Hid ((l.take (k + 1)).all partByte = true) := HY.out (partByte_of (by have := HT.out; omega))
        have e46 : (((({ data := l.toArray } : ByteArray)[k]'hsz).toNat : Int) == 46) = true := by rw [beq_iff_eq]; omega
        have e95 : (((({ data := l.toArray } : ByteArray)[k]'hsz).toNat : Int) == 95) = false := by rw [beq_eq_false_iff_ne]; omega
        have e45 : (((({ data := l.toArray } : ByteArray)[k]'hsz).toNat : Int) == 45) = false := by rw [beq_eq_false_iff_ne]; omega
        have h1 : 46 ≤ ((({ data := l.toArray } : ByteArray)[k]'hsz).toNat : Int) := by omega
        have h2 : ((({ data := l.toArray } : ByteArray)[k]'hsz).toNat : Int) ≤ 46 := by omega
        clear h
        have d97 : decide (97 ≤ ((({ data := l.toArray } : ByteArray)[k]'hsz).toNat : Int)) = false := by simp; omega
        have d122 : decide (((({ data := l.toArray } : ByteArray)[k]'hsz).toNat : Int) ≤ 122) = true := by simp; omega
        have d48 : decide (48 ≤ ((({ data := l.toArray } : ByteArray)[k]'hsz).toNat : Int)) = false := by simp; omega
        have d57 : decide (((({ data := l.toArray } : ByteArray)[k]'hsz).toNat : Int) ≤ 57) = true := by simp; omega
        go_wp2
        go_round
        case rel => exact ⟨k + 1, by omega, by go_num, HF.out⟩
        case measure => simp [intOf]; omega
      · have HF : Hid (isPart l = false) := HN.out (partByte_not (by have := HT.out; omega))
        have e46 : (((({ data := l.toArray } : ByteArray)[k]'hsz).toNat : Int) == 46) = false := by rw [beq_eq_false_iff_ne]; omega
        have e95 : (((({ data := l.toArray } : ByteArray)[k]'hsz).toNat : Int) == 95) = false := by rw [beq_eq_false_iff_ne]; omega
        have e45 : (((({ data := l.toArray } : ByteArray)[k]'hsz).toNat : Int) == 45) = false := by rw [beq_eq_false_iff_ne]; omega
        have h1 : 47 ≤ ((({ data := l.toArray } : ByteArray)[k]'hsz).toNat : Int) := by omega
        have h2 : ((({ data := l.toArray } : ByteArray)[k]'hsz).toNat : Int) ≤ 47 := by omega
        clear h
        have d97 : decide (97 ≤ ((({ data := l.toArray } : ByteArray)[k]'hsz).toNat : Int)) = false := by simp; omega
        have d122 : decide (((({ data := l.toArray } : ByteArray)[k]'hsz).toNat : Int) ≤ 122) = true := by simp; omega
        have d48 : decide (48 ≤ ((({ data := l.toArray } : ByteArray)[k]'hsz).toNat : Int)) = false := by simp; omega
        have d57 : decide (((({ data := l.toArray } : ByteArray)[k]'hsz).toNat : Int) ≤ 57) = true := by simp; omega
        go_wp2
        go_ret
        exact ⟨ret_bool HF.out.symm, rfl⟩
      · have HF : Hid ((l.take (k + 1)).all partByte = true) := HY.out (partByte_of (by have := HT.out; omega))
        have e46 : (((({ data := l.toArray } : ByteArray)[k]'hsz).toNat : Int) == 46) = false := by rw [beq_eq_false_iff_ne]; omega
        have e95 : (((({ data := l.toArray } : ByteArray)[k]'hsz).toNat : Int) == 95) = false := by rw [beq_eq_false_iff_ne]; omega
        have e45 : (((({ data := l.toArray } : ByteArray)[k]'hsz).toNat : Int) == 45) = false := by rw [beq_eq_false_iff_ne]; omega
        have d97 : decide (97 ≤ ((({ data := l.toArray } : ByteArray)[k]'hsz).toNat : Int)) = false := by simp; omega
        have d122 : decide (((({ data := l.toArray } : ByteArray)[k]'hsz).toNat : Int) ≤ 122) = true := by simp; omega
        have d48 : decide (48 ≤ ((({ data := l.toArray } : ByteArray)[k]'hsz).toNat : Int)) = true := by simp; omega
        have d57 : decide (((({ data := l.toArray } : ByteArray)[k]'hsz).toNat : Int) ≤ 57) = true := by simp; omega
        go_wp2
        go_round
        case rel => exact ⟨k + 1, by omega, by go_num, HF.out⟩
        case measure => simp [intOf]; omega
      · have HF : Hid (isPart l = false) := HN.out (partByte_not (by have := HT.out; omega))
        have e46 : (((({ data := l.toArray } : ByteArray)[k]'hsz).toNat : Int) == 46) = false := by rw [beq_eq_false_iff_ne]; omega
        have e95 : (((({ data := l.toArray } : ByteArray)[k]'hsz).toNat : Int) == 95) = false := by rw [beq_eq_false_iff_ne]; omega
        have e45 : (((({ data := l.toArray } : ByteArray)[k]'hsz).toNat : Int) == 45) = false := by rw [beq_eq_false_iff_ne]; omega
        have d97 : decide (97 ≤ ((({ data := l.toArray } : ByteArray)[k]'hsz).toNat : Int)) = false := by simp; omega
        have d122 : decide (((({ data := l.toArray } : ByteArray)[k]'hsz).toNat : Int) ≤ 122) = true := by simp; omega
        have d48 : decide (48 ≤ ((({ data := l.toArray } : ByteArray)[k]'hsz).toNat : Int)) = true := by simp; omega
        have d57 : decide (((({ data := l.toArray } : ByteArray)[k]'hsz).toNat : Int) ≤ 57) = false := by simp; omega
        go_wp2
        go_ret
        exact ⟨ret_bool HF.out.symm, rfl⟩
      · have HF : Hid ((l.take (k + 1)).all partByte = true) := HY.out (partByte_of (by have := HT.out; omega))
        have e46 : (((({ data := l.toArray } : ByteArray)[k]'hsz).toNat : Int) == 46) = false := by rw [beq_eq_false_iff_ne]; omega
        have e95 : (((({ data := l.toArray } : ByteArray)[k]'hsz).toNat : Int) == 95) = true := by rw [beq_iff_eq]; omega
        have e45 : (((({ data := l.toArray } : ByteArray)[k]'hsz).toNat : Int) == 45) = false := by rw [beq_eq_false_iff_ne]; omega
        have h1 : 95 ≤ ((({ data := l.toArray } : ByteArray)[k]'hsz).toNat : Int) := by omega
        have h2 : ((({ data := l.toArray } : ByteArray)[k]'hsz).toNat : Int) ≤ 95 := by omega
        clear h
        have d97 : decide (97 ≤ ((({ data := l.toArray } : ByteArray)[k]'hsz).toNat : Int)) = false := by simp; omega
        have d122 : decide (((({ data := l.toArray } : ByteArray)[k]'hsz).toNat : Int) ≤ 122) = true := by simp; omega
        have d48 : decide (48 ≤ ((({ data := l.toArray } : ByteArray)[k]'hsz).toNat : Int)) = true := by simp; omega
        have d57 : decide (((({ data := l.toArray } : ByteArray)[k]'hsz).toNat : Int) ≤ 57) = false := by simp; omega
        go_wp2
        go_round
        case rel => exact ⟨k + 1, by omega, by go_num, HF.out⟩
        case measure => simp [intOf]; omega
      · have HF : Hid (isPart l = false) := HN.out (partByte_not (by have := HT.out; omega))
        have e46 : (((({ data := l.toArray } : ByteArray)[k]'hsz).toNat : Int) == 46) = false := by rw [beq_eq_false_iff_ne]; omega
        have e95 : (((({ data := l.toArray } : ByteArray)[k]'hsz).toNat : Int) == 95) = false := by rw [beq_eq_false_iff_ne]; omega
        have e45 : (((({ data := l.toArray } : ByteArray)[k]'hsz).toNat : Int) == 45) = false := by rw [beq_eq_false_iff_ne]; omega
        have h1 : 96 ≤ ((({ data := l.toArray } : ByteArray)[k]'hsz).toNat : Int) := by omega
        have h2 : ((({ data := l.toArray } : ByteArray)[k]'hsz).toNat : Int) ≤ 96 := by omega
        clear h
        have d97 : decide (97 ≤ ((({ data := l.toArray } : ByteArray)[k]'hsz).toNat : Int)) = false := by simp; omega
        have d122 : decide (((({ data := l.toArray } : ByteArray)[k]'hsz).toNat : Int) ≤ 122) = true := by simp; omega
        have d48 : decide (48 ≤ ((({ data := l.toArray } : ByteArray)[k]'hsz).toNat : Int)) = true := by simp; omega
        have d57 : decide (((({ data := l.toArray } : ByteArray)[k]'hsz).toNat : Int) ≤ 57) = false := by simp; omega
        go_wp2
        go_ret
        exact ⟨ret_bool HF.out.symm, rfl⟩
      · have HF : Hid ((l.take (k + 1)).all partByte = true) := HY.out (partByte_of (by have := HT.out; omega))
        have e46 : (((({ data := l.toArray } : ByteArray)[k]'hsz).toNat : Int) == 46) = false := by rw [beq_eq_false_iff_ne]; omega
        have e95 : (((({ data := l.toArray } : ByteArray)[k]'hsz).toNat : Int) == 95) = false := by rw [beq_eq_false_iff_ne]; omega
        have e45 : (((({ data := l.toArray } : ByteArray)[k]'hsz).toNat : Int) == 45) = false := by rw [beq_eq_false_iff_ne]; omega
        have d97 : decide (97 ≤ ((({ data := l.toArray } : ByteArray)[k]'hsz).toNat : Int)) = true := by simp; omega
        have d122 : decide (((({ data := l.toArray } : ByteArray)[k]'hsz).toNat : Int) ≤ 122) = true := by simp; omega
        have d48 : decide (48 ≤ ((({ data := l.toArray } : ByteArray)[k]'hsz).toNat : Int)) = true := by simp; omega
        have d57 : decide (((({ data := l.toArray } : ByteArray)[k]'hsz).toNat : Int) ≤ 57) = false := by simp; omega
        go_wp2
        go_round
        case rel => exact ⟨k + 1, by omega, by go_num, HF.out⟩
        case measure => simp [intOf]; omega
      · have HF : Hid (isPart l = false) := HN.out (partByte_not (by have := HT.out; omega))
        have e46 : (((({ data := l.toArray } : ByteArray)[k]'hsz).toNat : Int) == 46) = false := by rw [beq_eq_false_iff_ne]; omega
        have e95 : (((({ data := l.toArray } : ByteArray)[k]'hsz).toNat : Int) == 95) = false := by rw [beq_eq_false_iff_ne]; omega
        have e45 : (((({ data := l.toArray } : ByteArray)[k]'hsz).toNat : Int) == 45) = false := by rw [beq_eq_false_iff_ne]; omega
        have d97 : decide (97 ≤ ((({ data := l.toArray } : ByteArray)[k]'hsz).toNat : Int)) = true := by simp; omega
        have d122 : decide (((({ data := l.toArray } : ByteArray)[k]'hsz).toNat : Int) ≤ 122) = false := by simp; omega
        have d48 : decide (48 ≤ ((({ data := l.toArray } : ByteArray)[k]'hsz).toNat : Int)) = true := by simp; omega
        have d57 : decide (((({ data := l.toArray } : ByteArray)[k]'hsz).toNat : Int) ≤ 57) = false := by simp; omega
        go_wp2
        go_ret
        exact ⟨ret_bool HF.out.symm, rfl⟩
    · have hkl : k = l.length := by omega
      subst hkl
      have HF : Hid (l.all partByte = true) := by have := HA.out; rwa [List.take_length] at this
      clear hlt HA hk
      by_cases h0 : l = []
      · subst h0
        go_wp2
        go_ret
        exact ⟨rfl, rfl⟩
      have hb0 : (1 : Int) ≤ l.length := by
        have : 0 < l.length := List.length_pos_iff.2 h0
        omega
      by_cases h1 : 12 < l.length
      · have HF2 : Hid (isPart l = false) := by show isPart l = false; simp [isPart]; omega
        have hb1 : ¬ (l.length : Int) ≤ 12 := by omega
        clear h0
        go_wp2
        go_ret
        exact ⟨ret_bool HF2.out.symm, rfl⟩
      have hb1 : (l.length : Int) ≤ 12 := by omega
      by_cases h2 : l = [46]
      · subst h2
        go_wp2
        go_ret
        exact ⟨rfl, rfl⟩
      have hb2 : (l == [46]) = false := by simpa using h2
      by_cases h3 : l = [46, 46]
      · subst h3
        go_wp2
        go_ret
        exact ⟨rfl, rfl⟩
      have hb3 : (l == [46, 46]) = false := by simpa using h3
      have HF2 : Hid (isPart l = true) := by
        show isPart l = true
        simp [isPart, h0, h2, h3, HF.out]
        omega
      clear h0 h1 h2 h3
      go_wp2
      go_ret
      exact ⟨ret_bool HF2.out.symm, rfl⟩

theorem refIsPart_is (l : List UInt8) (r : Bool) (w : World) (hl : l.length ≤ 100000) (h : isPart l = r) : Calls Tryz.prog 64 #[.string ⟨l.toArray⟩] w fun e w' => e = .returned (.bool r) ∧ w' = w := by
  have := refIsPart_any l w hl
  rwa [h] at this

theorem pieces_le : ∀ (l : List UInt8), ∀ x ∈ pieces l, x.length ≤ l.length
  | [], x, hx => by simp [pieces] at hx; simp [hx]
  | c :: r, x, hx => by
    have ih := pieces_le r
    unfold pieces at hx
    split at hx
    · rcases List.mem_cons.1 hx with rfl | hx
      · simp
      · have := ih x hx; simp; omega
    · split at hx
      · simp at hx; subst hx; simp
      · rename_i q qs hq
        rcases List.mem_cons.1 hx with rfl | hx
        · have := ih q (by rw [hq]; exact List.mem_cons_self)
          simp; omega
        · have := ih x (by rw [hq]; exact List.mem_cons_of_mem _ hx)
          simp; omega

set_option maxHeartbeats 2000000 in
/-- PartsOf. -/
theorem partsOf_any (s : List UInt8) (w : World) (hs : s.length ≤ 90000) :
    Calls Tryz.prog 46 #[.string ⟨s.toArray⟩] w fun e w' => (∃ v, e = .returned (.tuple #[v, .int .i64 (checkCode s)]) ∧ (checkCode s = 0 → w'.ownsRow w.heap.size 9 1 v (pieces s).length ((pieces s).map sv)) ∧ (checkCode s ≠ 0 → v = .slice none 0 0)) ∧ Below w.heap.size w w' := by
  have hpl := pieces_length s
  have hpn : 1 ≤ (pieces s).length := by
    have := pieces_ne s
    rcases hl : pieces s with _ | ⟨x, r⟩
    · exact absurd hl this
    · simp
  go_enter Tryz.func46, Tryz.ntmps46
  go_wp2_with fail
  refine (refCut_any s _ hs).mono ?_
  rintro e w1 ⟨v, rfl, hrow, hb⟩
  have HB : Hid (Below w.heap.size w w1) := hb
  have HR : Hid (w1.ownsRow w.heap.size 9 1 v (pieces s).length ((pieces s).map sv)) := hrow
  obtain ⟨q, hq⟩ : ∃ q, (pieces s).length = q + 1 := ⟨(pieces s).length - 1, by omega⟩
  have hrow' := hrow
  rw [hq] at hrow'
  obtain ⟨g, cap, rfl⟩ := ownsRow_succ hrow'
  rw [← hq] at hrow
  obtain ⟨hcell, hgl, _, _⟩ := owns_cells hrow rfl
  have HCELL : Hid (∀ j (h : j < (pieces s).length), w1.cell? ⟨g, j, none⟩ = some (.string ⟨((pieces s)[j]).toArray⟩)) := hcell
  rw [← hq] at HR ⊢
  clear hrow hrow' hcell hb hq
  go_wp2_with fail
  go_loop [5] (fun i => ∃ k : Nat, k ≤ (pieces s).length ∧ i = .int .i64 k ∧ ((pieces s).take k).all isPart = true) (fun i => (pieces s).length - (intOf i).toNat)
  case atStart => exact ⟨0, by omega, rfl, by simp⟩
  case round =>
    obtain ⟨k, hk, rfl, hall⟩ := hrel
    have HA : Hid (((pieces s).take k).all isPart = true) := hall
    clear hall
    by_cases hlt : k < (pieces s).length
    · have hc := HCELL.out k hlt
      have hxl := pieces_le s _ (List.getElem_mem hlt)
      by_cases hp : isPart (pieces s)[k] = true
      · have HN : Hid (((pieces s).take (k + 1)).all isPart = true) := by
          show List.all _ _ = true
          rw [List.take_succ_eq_append_getElem hlt, List.all_append, HA.out]; simp [hp]
        have HPI : Hid (isPart (pieces s)[k] = true) := hp
        clear hp
        generalize (pieces s)[k] = x at hc hxl HPI
        go_wp2_with fail
        refine (refIsPart_is x true _ (by omega) HPI.out).mono ?_
        rintro e w2 ⟨rfl, rfl⟩
        go_wp2
        go_round
        case rel => exact ⟨k + 1, by omega, by go_num, HN.out⟩
        case measure => simp [intOf]; omega
      · have hp' : isPart (pieces s)[k] = false := by simpa using hp
        have HC : Hid (checkCode s = 5) := by
          show checkCode s = 5
          have : (pieces s).all isPart = false := by
            rw [List.all_eq_false]
            exact ⟨_, List.getElem_mem hlt, by simp [hp']⟩
          simp [checkCode, this]
        have HPI : Hid (isPart (pieces s)[k] = false) := hp'
        clear hp hp'
        generalize (pieces s)[k] = x at hc hxl HPI
        go_wp2_with fail
        refine (refIsPart_is x false _ (by omega) HPI.out).mono ?_
        rintro e w2 ⟨rfl, rfl⟩
        go_wp2
        go_ret2
        exact ⟨⟨_, by rw [HC.out]; rfl, fun h => absurd (HC.out.symm.trans h) (by decide), fun _ => rfl⟩, HB.out⟩
    · have hkl : k = (pieces s).length := by omega
      have HALL : Hid ((pieces s).all isPart = true) := by
        have := HA.out
        rw [hkl, List.take_length] at this
        exact this
      clear hkl
      by_cases h6 : 6 < (pieces s).length
      · have h6' : (6 : Int) < (pieces s).length := by omega
        have HC : Hid (checkCode s = 8) := by show checkCode s = 8; simp [checkCode, HALL.out, h6]
        go_wp2
        go_ret2
        exact ⟨⟨_, by rw [HC.out]; rfl, fun h => absurd (HC.out.symm.trans h) (by decide), fun _ => rfl⟩, HB.out⟩
      · have h6' : ¬ (6 : Int) < (pieces s).length := by omega
        have HC : Hid (checkCode s = 0) := by show checkCode s = 0; simp [checkCode, HALL.out, h6]
        go_wp2
        go_ret2
        exact ⟨⟨_, by rw [HC.out]; rfl, fun _ => HR.out, fun h => absurd HC.out h⟩, HB.out⟩
end Go.Proofs.YtlofpooobabkjaaGreatDoor
/-
  The document's answer for paths, further: PathError, SameTexts, glue, Begins, IsIn, StripOf: contracts, over this seat's translation.
-/
namespace Go.Proofs.YtlofpooobabkjaaGreatDoor
open Go.RowKit Go.Shelf

theorem pathError_any (s : List UInt8) (w : World) (hs : s.length ≤ 90000) :
    Calls Tryz.prog 31 #[.string ⟨s.toArray⟩] w fun e w' => e = .returned (.int .i64 (checkCode s)) ∧ Below w.heap.size w w' := by
  go_enter Tryz.func31, Tryz.ntmps31
  go_wp2_with fail
  refine (partsOf_any s _ hs).mono ?_
  rintro e w1 ⟨⟨v, rfl, _, _⟩, hb⟩
  have HB : Hid (Below w.heap.size w w1) := hb
  clear hb
  go_wp2
  go_ret
  exact ⟨rfl, HB.out⟩

theorem join_snoc {k : List (List UInt8)} (x : List UInt8) (h : k ≠ []) : Lib.join (k ++ [x]) [47] = Lib.join k [47] ++ [47] ++ x := by
  rw [join_app h (by simp), Lib.join_one]; simp

theorem begins_any (s q : List UInt8) (w : World) (_hs : s.length ≤ 200000) (_hq : q.length ≤ 200000) : Calls Tryz.prog 47 #[.string ⟨s.toArray⟩, .string ⟨q.toArray⟩] w fun e w' => e = .returned (.bool (Lib.hasPrefix s q)) ∧ w' = w := by
  by_cases h : s.length < q.length
  · have h' : (s.length : Int) < q.length := by omega
    have HF : Hid (Lib.hasPrefix s q = false) := by
      show Lib.hasPrefix s q = false
      rw [Bool.eq_false_iff]
      intro e
      have e' : q <+: s := by simpa [Lib.hasPrefix] using e
      have := e'.length_le
      omega
    go_enter Tryz.func47, Tryz.ntmps47
    go_wp2
    go_ret
    exact ⟨ret_bool HF.out.symm, rfl⟩
  · have h' : ¬ (s.length : Int) < q.length := by omega
    have h2 : q.length ≤ s.length := by omega
    clear h
    go_enter Tryz.func47, Tryz.ntmps47
    go_wp2
    go_ret
    refine ⟨ret_bool ?_, rfl⟩
    rw [extract_list, Lib.toList_data, Bool.eq_iff_iff]
    simp [Lib.hasPrefix]
    rw [List.prefix_iff_eq_take]
    exact eq_comm

set_option maxHeartbeats 1000000 in
theorem refIsIn_any (s dir : List UInt8) (w : World) (hs : s.length ≤ 90000) (hd : dir.length ≤ 90000) :
    Calls Tryz.prog 32 #[.string ⟨s.toArray⟩, .string ⟨dir.toArray⟩] w fun e w' => e = .returned (.bool (isIn s dir)) ∧ Below w.heap.size w w' := by
  by_cases hc : checkCode s = 0
  · have HC : Hid (((checkCode s : Nat) : Int) = 0) := by show ((checkCode s : Nat) : Int) = 0; rw [hc]; rfl
    have HI : Hid (isIn s dir = (dir.isEmpty || Lib.hasPrefix s (dir ++ [47]))) := by
      show isIn s dir = _
      simp [isIn, hc]
    have HPD : Hid (Lib.hasPrefix s (dir ++ [47]) = true → checkCode dir = 0) := fun h => by
      have h' : dir ++ [47] <+: s := by simpa [Lib.hasPrefix] using h
      obtain ⟨r, hr⟩ := h'
      have e : s = dir ++ 47 :: r := by rw [← hr]; simp
      obtain ⟨hp, hl⟩ := checkCode_zero.1 hc
      rw [e, pieces_app] at hp hl
      rw [checkCode_zero]
      exact ⟨fun x hx => hp x (List.mem_append_left _ hx), by rw [List.length_append] at hl; omega⟩
    clear hc
    go_enter Tryz.func32, Tryz.ntmps32
    go_wp2_with fail
    refine (pathError_any s _ hs).mono ?_
    rintro e w1 ⟨rfl, hb⟩
    have HB : Hid (Below w.heap.size w w1) := hb
    clear hb
    rw [HC.out]
    by_cases h0 : dir = []
    · subst h0
      go_wp2
      go_ret
      exact ⟨ret_bool (by rw [HI.out]; rfl), HB.out⟩
    · have hb0 : dir.isEmpty = false := by simpa using h0
      have HI' : Hid (isIn s dir = Lib.hasPrefix s (dir ++ [47])) := by
        show isIn s dir = _
        rw [HI.out, hb0]; simp
      clear h0 HI
      by_cases hcd : checkCode dir = 0
      · have HCD : Hid (((checkCode dir : Nat) : Int) = 0) := by show ((checkCode dir : Nat) : Int) = 0; rw [hcd]; rfl
        clear hcd
        go_wp2_with fail
        refine (pathError_any dir _ hd).mono ?_
        rintro e w2 ⟨rfl, hb2⟩
        have HB2 : Hid (Below w.heap.size w w2) := HB.out.trans (hb2.mono HB.out.size)
        clear hb2
        rw [HCD.out]
        go_wp2_with fail
        rw [show ({ data := dir.toArray } : ByteArray) ++ { data := #[47] } = ⟨(dir ++ [47]).toArray⟩ from by
          rw [show ({ data := #[47] } : ByteArray) = ⟨[47].toArray⟩ from rfl, cat_list]]
        refine (begins_any s (dir ++ [47]) _ (by omega) (by simp; omega)).mono ?_
        rintro e w3 ⟨rfl, rfl⟩
        rw [← HI'.out]
        go_wp2
        go_ret
        exact ⟨rfl, HB2.out⟩
      · have HF : Hid (isIn s dir = false) := by
          show isIn s dir = false
          rw [HI'.out, Bool.eq_false_iff]
          intro h
          exact hcd (HPD.out h)
        have hne : (((checkCode dir : Nat) : Int) == 0) = false := by rw [beq_eq_false_iff_ne]; omega
        clear hcd
        go_wp2_with fail
        refine (pathError_any dir _ hd).mono ?_
        rintro e w2 ⟨rfl, hb2⟩
        have HB2 : Hid (Below w.heap.size w w2) := HB.out.trans (hb2.mono HB.out.size)
        clear hb2
        go_wp2
        go_ret
        exact ⟨ret_bool HF.out.symm, HB2.out⟩
  · have HF : Hid (isIn s dir = false) := by
      show isIn s dir = _
      simp [isIn, hc]
    have hne : (0 : Int) < ((checkCode s : Nat) : Int) := by omega
    clear hc
    go_enter Tryz.func32, Tryz.ntmps32
    go_wp2_with fail
    refine (pathError_any s _ hs).mono ?_
    rintro e w1 ⟨rfl, hb⟩
    have HB : Hid (Below w.heap.size w w1) := hb
    clear hb
    go_wp2
    go_ret
    exact ⟨ret_bool HF.out.symm, HB.out⟩

end Go.Proofs.YtlofpooobabkjaaGreatDoor
/-
  The document's answer for trees: TreeFault: over this seat's translation.
-/
namespace Go.Proofs.YtlofpooobabkjaaGreatDoor
open Go.RowKit Go.Shelf

theorem bare_any (c : Int) (w : World) : Calls Tryz.prog 25 #[.int .i64 c] w fun e w' => e = .returned (.agg #[.int .i64 c, .int .i64 (-1)]) ∧ Below w.heap.size w w' := by
  go_enter Tryz.func25, Tryz.ntmps25
  go_wp2
  exact bodyPost_ret (v := .agg #[.int .i64 c, .int .i64 (-1)]) (by simp [results, Tryz.results25, go_sem]) rfl ⟨rfl, (Below.refl _ _).alloc (Nat.le_refl _) _⟩

theorem fine_any (w : World) : Calls Tryz.prog 33 #[] w fun e w' => e = .returned (.agg #[.int .i64 0, .int .i64 (-1)]) ∧ Below w.heap.size w w' := by
  go_enter Tryz.func33, Tryz.ntmps33
  go_wp2
  exact bodyPost_ret (v := .agg #[.int .i64 0, .int .i64 (-1)]) (by simp [results, Tryz.results33, go_sem]) rfl ⟨rfl, (Below.refl _ _).alloc (Nat.le_refl _) _⟩

/-- The code of a file but for those that it is in. -/
def ownCode (pre : List F) (f : F) : Nat :=
  if checkCode f.p ≠ 0 then checkCode f.p
  else if 4000 < f.t.length then 2
  else if pre ≠ [] ∧ less ((pre.getLast?.map (·.p)).getD []) f.p = false then 9
  else 0

theorem pathError_is (s : List UInt8) (c : Int) (w : World) (hs : s.length ≤ 90000) (h : (checkCode s : Int) = c) :
    Calls Tryz.prog 31 #[.string ⟨s.toArray⟩] w fun e w' => e = .returned (.int .i64 c) ∧ Below w.heap.size w w' := by
  have := pathError_any s w hs
  rwa [h] at this

theorem refIsIn_is (s dir : List UInt8) (r : Bool) (w : World) (hs : s.length ≤ 90000) (hd : dir.length ≤ 90000) (h : isIn s dir = r) :
    Calls Tryz.prog 32 #[.string ⟨s.toArray⟩, .string ⟨dir.toArray⟩] w fun e w' => e = .returned (.bool r) ∧ Below w.heap.size w w' := by
  have := refIsIn_any s dir w hs hd
  rwa [h] at this

set_option maxRecDepth 100000 in
set_option maxHeartbeats 4000000 in
theorem refTreeFault_any (l : List F) (a : Option Addr) (ca : Nat) (w : World) (hl : LiesAt w a l) (hs : Small l) :
    Calls Tryz.prog 19 #[.slice a l.length ca] w fun e w' => e = .returned (.agg #[.int .i64 (treeFault l).1, .int .i64 (treeFault l).2]) ∧ Below w.heap.size w w' := by
  have hfew := hs.few
  by_cases hlong : 30 < l.length
  · have HT : Hid (treeFault l = (8, -1)) := treeFault_long hlong
    have h30 : (30 : Int) < (l.length : Int) := by omega
    clear hl
    go_enter Tryz.func19, Tryz.ntmps19
    go_wp2_with fail
    refine (bare_any 8 _).mono ?_
    rintro e w1 ⟨rfl, hb⟩
    have hb' : Below (w.heap.size + 1) (w.alloc (.cells #[.int .i64 0, .int .i64 0] 31)) w1 := hb.mono (by simp)
    obtain ⟨s0, s1, s2, s3, s4⟩ := slot_two hb'
    clear hb hb'
    go_wp2
    obtain ⟨q0, q1, q2⟩ := slot_set (w := w) (.int .i64 8) (.int .i64 (-1)) s0 s1 s4
    exact bodyPost_ret (v := .agg #[.int .i64 8, .int .i64 (-1)]) (by simp [results, Tryz.results19, go_sem, q0, q1]) rfl ⟨by rw [HT.out]; rfl, q2⟩
  · have h30 : ¬ (30 : Int) < (l.length : Int) := by omega
    have HL : Hid (LiesAt w a l) := hl
    have HPATH : Hid (∀ f ∈ l, f.p.length ≤ 40000) := hs.path
    have HTEXT : Hid (∀ f ∈ l, f.t.length ≤ 500000) := hs.text
    clear hl hs
    go_enter Tryz.func19, Tryz.ntmps19
    go_wp2_with fail
    have hmx : Tryz.prog.follows .mixedOrders = true := by kernel_rfl
    go_loopw [3, 4] (fun al i wr => ∃ q : Nat, q ≤ l.length ∧ i = .int .i64 q ∧ al = .int .i64 (total (l.take q)) ∧ (∀ j (h : j < l.length), j < q → fileCode (l.take j) l[j] = 0) ∧ Below (w.heap.size + 1) (w.alloc (.cells #[.int .i64 0, .int .i64 0] 31)) wr) (fun _ i _ => l.length - (intOf i).toNat)
    case atStart => exact ⟨0, by omega, rfl, by simp [total], fun _ _ h => by omega, Below.refl _ _⟩
    case round =>
      obtain ⟨q, hq, rfl, rfl, hz, hb⟩ := hrel
      have HB : Hid (Below (w.heap.size + 1) (w.alloc (.cells #[.int .i64 0, .int .i64 0] 31)) wr) := hb
      have HZ : Hid (∀ j (h : j < l.length), j < q → fileCode (l.take j) l[j] = 0) := hz
      clear hb hz
      by_cases hlt : q < l.length
      · have hlt' : (q : Int) < (l.length : Int) := by omega
        obtain ⟨b, o, rfl, c0, c1, c2⟩ := (HL.out.below (slot_two HB.out).2.2.2.2).at hlt
        have hpl := HPATH.out _ (List.getElem_mem hlt)
        have htl := HTEXT.out _ (List.getElem_mem hlt)
        by_cases hc : checkCode l[q].p = 0
        · by_cases ht : 4000 < l[q].t.length
          · have HF : Hid (treeFault l = (2, (q : Int))) := by
              have e : fileCode (l.take q) l[q] = 2 := by simp [fileCode, hc, ht]
              have := treeFault_at (l := l) (by omega) hlt HZ.out (by rw [e]; decide)
              rwa [e] at this
            have ht' : (4000 : Int) < (l[q].t.length : Int) := by omega
            have HC : Hid ((checkCode l[q].p : Int) = 0) := by show (checkCode l[q].p : Int) = 0; rw [hc]; rfl
            clear hc ht
            generalize l[q] = f at c0 c1 c2 hpl htl HF HC ht'
            go_wp2_with fail
            refine (pathError_is f.p 0 _ (by omega) HC.out).mono ?_
            rintro e w1 ⟨rfl, hb1⟩
            have HB1 := more_below HB.out rfl hb1
            have d2 : w1.cell? ⟨b, o + q * 3 + 2, none⟩ = some (sv f.t) := (hb1.cell (p := ⟨b, o + q * 3 + 2, none⟩) (block_lt_of_cell c2)).trans c2
            have d0 : w1.cell? ⟨b, o + q * 3, none⟩ = some (sv f.p) := (hb1.cell (p := ⟨b, o + q * 3, none⟩) (block_lt_of_cell c0)).trans c0
            have HB1' : Hid (Below (w.heap.size + 1) (w.alloc (.cells #[.int .i64 0, .int .i64 0] 31)) w1) := HB1
            obtain ⟨s0, s1, s2, s3, s4⟩ := slot_two HB1
            clear hb1 HB1
            go_wp2_with fail
            refine wp_loop_rounds 1 ?_
            rw [rounds_succ]
            go_wp2
            all_goals
              obtain ⟨q0, q1, q2⟩ := slot_set (w := w) (.int .i64 2) (.int .i64 q) s0 s1 s4
              exact bodyPost_ret (v := .agg #[.int .i64 2, .int .i64 q]) (by simp [results, Tryz.results19, go_sem, q0, q1]) rfl ⟨by rw [HF.out]; rfl, q2⟩
          · have ht' : ¬ (4000 : Int) < (l[q].t.length : Int) := by omega
            have HC : Hid ((checkCode l[q].p : Int) = 0) := by show (checkCode l[q].p : Int) = 0; rw [hc]; rfl
            rcases q with _ | r
            · have HNEXT : Hid (∀ j (h : j < l.length), j < 0 + 1 → fileCode (l.take j) l[j] = 0) := by
                intro j hj hjr
                obtain rfl : j = 0 := by omega
                exact fileCode_zero.2 ⟨⟨hc, by omega⟩, .inl (by simp), by simp⟩
              have HSUM : Hid (total (l.take (0 + 1)) = total (l.take 0) + l[0].t.length) := total_succ hlt
              have h00 : total (l.take 0) = 0 := by simp [total]
              clear hc ht
              generalize l[0] = f at c0 c1 c2 hpl htl HC ht' HSUM
              rw [Nat.zero_mul, Nat.add_zero] at c0 c1 c2
              go_wp2_with fail
              refine (pathError_is f.p 0 _ (by omega) HC.out).mono ?_
              rintro e w1 ⟨rfl, hb1⟩
              have d2 : w1.cell? ⟨b, o + 2, none⟩ = some (sv f.t) := (hb1.cell (p := ⟨b, o + 2, none⟩) (block_lt_of_cell c2)).trans c2
              have HB1 : Hid (Below (w.heap.size + 1) (w.alloc (.cells #[.int .i64 0, .int .i64 0] 31)) w1) := more_below HB.out rfl hb1
              clear hb1
              go_wp2_with fail
              refine wp_loop_rounds 1 ?_
              rw [rounds_succ]
              go_wp2
              go_roundw
              case rel => exact ⟨0 + 1, by omega, by go_num, by rw [HSUM.out, h00, Nat.zero_add]; show Value.int .i64 (wrap64 ((0 : Int) + (f.t.length : Int))) = _; rw [Int.zero_add, show wrap64 (f.t.length : Int) = f.t.length by unfold wrap64; omega], HNEXT.out, HB1.out⟩
              case measure => simp [intOf]; omega
            · obtain ⟨b', o', e', g0, g1, g2⟩ := (HL.out.below (slot_two HB.out).2.2.2.2).at (k := r) (by omega)
              cases e'
              have hgl := HPATH.out _ (List.getElem_mem (n := r) (by omega))
              have hlast : (l.take (r + 1)).getLast? = some (l[r]'(by omega)) := by
                rw [List.getLast?_eq_getElem?, List.length_take, Nat.min_eq_left (by omega), List.getElem?_take_of_lt (by omega)]
                exact List.getElem?_eq_getElem (by omega)
              by_cases ho : less (l[r]'(by omega)).p l[r + 1].p = false
              · have HF : Hid (treeFault l = (9, ((r + 1 : Nat) : Int))) := by
                  have e : fileCode (l.take (r + 1)) l[r + 1] = 9 := by
                    have hne : l.take (r + 1) ≠ [] := fun e => by rw [e] at hlast; simp at hlast
                    unfold fileCode
                    rw [if_neg (by simp [hc]), if_neg ht, if_pos ⟨hne, by rw [hlast]; exact ho⟩]
                  have := treeFault_at (l := l) (by omega) hlt HZ.out (by rw [e]; decide)
                  rwa [e] at this
                have hle : (Op.bytesLess l[r + 1].p (l[r]'(by omega)).p || l[r + 1].p == (l[r]'(by omega)).p) = true := by
                  cases h : Op.bytesLess l[r + 1].p (l[r]'(by omega)).p with
                  | true => rfl
                  | false => simp [less_total h ho]
                clear hc ht ho hlast
                generalize l[r + 1] = f at c0 c1 c2 hpl htl HF HC ht' hle
                generalize (l[r]'(by omega)) = g at g0 g1 g2 hgl hle
                have h0r : (0 : Int) < (r : Int) + 1 := by omega
                go_wp2_with fail
                refine (pathError_is f.p 0 _ (by omega) HC.out).mono ?_
                rintro e w1 ⟨rfl, hb1⟩
                have HB1 := more_below HB.out rfl hb1
                have d2 : w1.cell? ⟨b, o + (r + 1) * 3 + 2, none⟩ = some (sv f.t) := (hb1.cell (p := ⟨b, o + (r + 1) * 3 + 2, none⟩) (block_lt_of_cell c2)).trans c2
                have d0 : w1.cell? ⟨b, o + (r + 1) * 3, none⟩ = some (sv f.p) := (hb1.cell (p := ⟨b, o + (r + 1) * 3, none⟩) (block_lt_of_cell c0)).trans c0
                have HB1' : Hid (Below (w.heap.size + 1) (w.alloc (.cells #[.int .i64 0, .int .i64 0] 31)) w1) := HB1
                obtain ⟨s0, s1, s2, s3, s4⟩ := slot_two HB1
                have HBW : Hid (Below wr.heap.size wr w1) := hb1
                clear hb1 HB1
                have k0 : w1.cell? ⟨b, o + r * 3, none⟩ = some (sv g.p) := (HBW.out.cell (p := ⟨b, o + r * 3, none⟩) (block_lt_of_cell g0)).trans g0
                go_wp2_with fail
                go_quiet (fail)
                go_wp2_with fail
                refine wp_loop_rounds 1 ?_
                rw [rounds_succ]
                go_wp2
                have hq := slot_setN (w := w) (.int .i64 9) (.int .i64 ((r : Int) + 1)) s0 s1 s4
                exact bodyPost_ret (v := .agg #[.int .i64 9, .int .i64 ((r : Int) + 1)]) (by simp [results, Tryz.results19, go_sem, (hq _).1, (hq _).2.1]) rfl ⟨by rw [HF.out]; rfl, (hq _).2.2⟩
              · have ho' : less (l[r]'(by omega)).p l[r + 1].p = true := by simpa using ho
                have HOWN : Hid (∀ hb : (∀ j (h : j < l.length), j < r + 1 → isIn l[r + 1].p l[j].p = false), fileCode (l.take (r + 1)) l[r + 1] = 0) := by
                  intro hb
                  refine fileCode_zero.2 ⟨⟨hc, by omega⟩, .inr (by rw [hlast]; exact ho'), fun g hg => ?_⟩
                  obtain ⟨k, hk, rfl⟩ := List.getElem_of_mem hg
                  rw [List.length_take] at hk
                  rw [List.getElem_take]
                  exact hb k (by omega) (by omega)
                have HCL : Hid (∀ j (h : j < l.length), j < r + 1 → isIn l[r + 1].p l[j].p = true → treeFault l = (11, ((r + 1 : Nat) : Int))) := by
                  intro j hj hjr hi
                  have e : fileCode (l.take (r + 1)) l[r + 1] = 11 := by
                    unfold fileCode
                    rw [if_neg (by simp [hc]), if_neg ht, if_neg (fun h => by rw [hlast] at h; have := h.2; simp [ho'] at this), if_pos]
                    refine List.any_eq_true.2 ⟨l[j], ?_, hi⟩
                    exact List.mem_take_iff_getElem.2 ⟨j, by omega, rfl⟩
                  have := treeFault_at (l := l) (by omega) hlt HZ.out (by rw [e]; decide)
                  rwa [e] at this
                have hle : (Op.bytesLess l[r + 1].p (l[r]'(by omega)).p || l[r + 1].p == (l[r]'(by omega)).p) = false := by
                  have h1 := less_asymm ho'
                  have h2 := less_ne ho'
                  simp only [less] at h1
                  simp [h1, Ne.symm h2]
                have HSUM : Hid (total (l.take (r + 1 + 1)) = total (l.take (r + 1)) + l[r + 1].t.length) := total_succ hlt
                have HTT := total_take HTEXT.out (r + 1)
                clear hc ht ho ho' hlast
                generalize (l[r]'(by omega)) = g at g0 g1 g2 hgl hle
                generalize hf : l[r + 1] = f at c0 c1 c2 hpl htl HC ht' hle HOWN HCL HSUM
                have h0r : (0 : Int) < (r : Int) + 1 := by omega
                go_wp2_with fail
                refine (pathError_is f.p 0 _ (by omega) HC.out).mono ?_
                rintro e w1 ⟨rfl, hb1⟩
                have HB1 := more_below HB.out rfl hb1
                have d2 : w1.cell? ⟨b, o + (r + 1) * 3 + 2, none⟩ = some (sv f.t) := (hb1.cell (p := ⟨b, o + (r + 1) * 3 + 2, none⟩) (block_lt_of_cell c2)).trans c2
                have d0 : w1.cell? ⟨b, o + (r + 1) * 3, none⟩ = some (sv f.p) := (hb1.cell (p := ⟨b, o + (r + 1) * 3, none⟩) (block_lt_of_cell c0)).trans c0
                have k0 : w1.cell? ⟨b, o + r * 3, none⟩ = some (sv g.p) := (hb1.cell (p := ⟨b, o + r * 3, none⟩) (block_lt_of_cell g0)).trans g0
                have HB1' : Hid (Below (w.heap.size + 1) (w.alloc (.cells #[.int .i64 0, .int .i64 0] 31)) w1) := HB1
                clear hb1 HB1
                go_wp2_with fail
                go_quiet (fail)
                go_wp2_with fail
                go_loopw [5, 6] (fun e k wk => ∃ kk : Nat, kk ≤ r + 1 ∧ k = .int .i64 kk ∧ ((e = .int .i64 0 ∧ ∀ j (h : j < l.length), j < kk → isIn f.p l[j].p = false) ∨ (e = .int .i64 11 ∧ treeFault l = (11, ((r + 1 : Nat) : Int)))) ∧ Below (w.heap.size + 1) (w.alloc (.cells #[.int .i64 0, .int .i64 0] 31)) wk) (fun e k _ => if intOf e = 0 then r + 1 - (intOf k).toNat + 1 else 0)
                case atStart => exact ⟨0, by omega, rfl, .inl ⟨rfl, fun _ _ h => by omega⟩, below_drewN HB1'.out _⟩
                case round =>
                  obtain ⟨kk, hkk, rfl, hcase, hbk⟩ := hrel
                  have HBK : Hid (Below (w.heap.size + 1) (w.alloc (.cells #[.int .i64 0, .int .i64 0] 31)) wr) := hbk
                  clear hbk
                  rcases hcase with ⟨rfl, hno⟩ | ⟨rfl, hF⟩
                  · have HNO : Hid (∀ j (h : j < l.length), j < kk → isIn f.p l[j].p = false) := hno
                    clear hno
                    by_cases hkr : kk < r + 1
                    · have hkr' : (kk : Int) < (r : Int) + 1 := by omega
                      obtain ⟨b', o', e', m0, m1, m2⟩ := (HL.out.below (slot_two HBK.out).2.2.2.2).at (k := kk) (by omega)
                      cases e'
                      obtain ⟨b', o', e', n0, n1, n2⟩ := (HL.out.below (slot_two HBK.out).2.2.2.2).at hlt
                      cases e'
                      rw [hf] at n0 n1 n2
                      have hml := HPATH.out _ (List.getElem_mem (n := kk) (by omega : kk < l.length))
                      cases hin : isIn f.p (l[kk]'(by omega)).p with
                      | true =>
                        have HF := HCL.out kk (by omega) hkr hin
                        have HIN : Hid (isIn f.p (l[kk]'(by omega)).p = true) := hin
                        clear hin
                        generalize (l[kk]'(by omega)) = g2 at m0 m1 m2 hml HIN
                        have HF' : Hid (treeFault l = (11, ((r + 1 : Nat) : Int))) := HF
                        clear HF
                        go_wp2_with fail
                        have hi1 : (r : Int) + 1 < (l.length : Int) := by omega
                        have hi2 : (kk : Int) < (l.length : Int) := by omega
                        have hi0 : (0 : Int) ≤ (r : Int) + 1 := by omega
                        go_still_tail 10, hmx
                        go_wp2_with fail
                        refine (refIsIn_is f.p g2.p true _ (by omega) (by omega) HIN.out).mono ?_
                        rintro e w2 ⟨rfl, hb2⟩
                        have HB2 : Hid (Below (w.heap.size + 1) (w.alloc (.cells #[.int .i64 0, .int .i64 0] 31)) w2) := more_below (wr := wr.drew) HBK.out.drew rfl hb2
                        clear hb2
                        go_wp2
                        go_roundw
                        case rel => exact ⟨kk + 1, by omega, by go_num, .inr ⟨rfl, HF'.out⟩, HB2.out⟩
                        case measure => simp [intOf]
                      | false =>
                        have HIN : Hid (isIn f.p (l[kk]'(by omega)).p = false) := hin
                        have HNO2 : Hid (∀ j (h : j < l.length), j < kk + 1 → isIn f.p l[j].p = false) := by
                          intro j hj hjk
                          by_cases e : j = kk
                          · subst e; exact hin
                          · exact HNO.out j hj (by omega)
                        clear hin
                        generalize (l[kk]'(by omega)) = g2 at m0 m1 m2 hml HIN
                        go_wp2_with fail
                        have hi1 : (r : Int) + 1 < (l.length : Int) := by omega
                        have hi2 : (kk : Int) < (l.length : Int) := by omega
                        have hi0 : (0 : Int) ≤ (r : Int) + 1 := by omega
                        go_still_tail 10, hmx
                        go_wp2_with fail
                        refine (refIsIn_is f.p g2.p false _ (by omega) (by omega) HIN.out).mono ?_
                        rintro e w2 ⟨rfl, hb2⟩
                        have HB2 : Hid (Below (w.heap.size + 1) (w.alloc (.cells #[.int .i64 0, .int .i64 0] 31)) w2) := more_below (wr := wr.drew) HBK.out.drew rfl hb2
                        clear hb2
                        go_wp2
                        go_roundw
                        case rel => exact ⟨kk + 1, by omega, by go_num, .inl ⟨rfl, HNO2.out⟩, HB2.out⟩
                        case measure => simp [intOf]; omega
                    · have hkr' : ¬ (kk : Int) < (r : Int) + 1 := by omega
                      have hkr2 : decide ((kk : Int) < (r : Int) + 1) = false := by simp; omega
                      obtain ⟨b', o', e', n0, n1, n2⟩ := (HL.out.below (slot_two HBK.out).2.2.2.2).at hlt
                      cases e'
                      rw [hf] at n0 n1 n2
                      have HNEXT : Hid (∀ j (h : j < l.length), j < r + 1 + 1 → fileCode (l.take j) l[j] = 0) := by
                        intro j hj hjr
                        by_cases e : j = r + 1
                        · subst e
                          rw [hf]
                          exact HOWN.out fun j hj hjr => HNO.out j hj (by omega)
                        · exact HZ.out j hj (by omega)
                      go_wp2
                      go_roundw
                      case rel => exact ⟨r + 1 + 1, by omega, by go_num, by rw [HSUM.out]; go_num, HNEXT.out, HBK.out⟩
                      case measure => simp [intOf]; omega
                  · have HF : Hid (treeFault l = (11, ((r + 1 : Nat) : Int))) := hF
                    clear hF
                    obtain ⟨s0, s1, s2, s3, s4⟩ := slot_two HBK.out
                    go_wp2
                    all_goals
                      have hq := slot_set (w := w) (.int .i64 11) (.int .i64 ((r : Int) + 1)) s0 s1 s4
                      exact bodyPost_ret (v := .agg #[.int .i64 11, .int .i64 ((r : Int) + 1)]) (by simp [results, Tryz.results19, go_sem, hq.1, hq.2.1]) rfl ⟨by rw [HF.out]; rfl, hq.2.2⟩
        · have HF : Hid (treeFault l = (checkCode l[q].p, (q : Int))) := by
            have e : fileCode (l.take q) l[q] = checkCode l[q].p := by simp [fileCode, hc]
            have := treeFault_at (l := l) (by omega) hlt HZ.out (by rw [e]; exact hc)
            rwa [e] at this
          have hcp : (0 : Int) < (checkCode l[q].p : Int) := by omega
          have hce : ((checkCode l[q].p : Int) == 0) = false := by simp; omega
          clear hc
          generalize l[q] = f at c0 c1 c2 hpl htl HF hcp hce
          go_wp2_with fail
          refine (pathError_is f.p (checkCode f.p) _ (by omega) rfl).mono ?_
          rintro e w1 ⟨rfl, hb1⟩
          have HB1 := more_below HB.out rfl hb1
          have d2 : w1.cell? ⟨b, o + q * 3 + 2, none⟩ = some (sv f.t) := (hb1.cell (p := ⟨b, o + q * 3 + 2, none⟩) (block_lt_of_cell c2)).trans c2
          have d0 : w1.cell? ⟨b, o + q * 3, none⟩ = some (sv f.p) := (hb1.cell (p := ⟨b, o + q * 3, none⟩) (block_lt_of_cell c0)).trans c0
          have HB1' : Hid (Below (w.heap.size + 1) (w.alloc (.cells #[.int .i64 0, .int .i64 0] 31)) w1) := HB1
          obtain ⟨s0, s1, s2, s3, s4⟩ := slot_two HB1
          clear hb1 HB1
          generalize checkCode f.p = cc at HF hcp hce
          go_wp2_with fail
          refine wp_loop_rounds 1 ?_
          rw [rounds_succ]
          go_wp2
          all_goals
            obtain ⟨q0, q1, q2⟩ := slot_set (w := w) (.int .i64 cc) (.int .i64 q) s0 s1 s4
            exact bodyPost_ret (v := .agg #[.int .i64 cc, .int .i64 q]) (by simp [results, Tryz.results19, go_sem, q0, q1]) rfl ⟨by rw [HF.out], q2⟩
      · obtain rfl : q = l.length := by omega
        have hall : ∀ j (h : j < l.length), fileCode (l.take j) l[j] = 0 := fun j hj => HZ.out j hj hj
        have HE := treeFault_end (l := l) (by omega) hall
        have htk := total_take HTEXT.out l.length
        rw [List.take_length] at htk ⊢
        clear hall
        by_cases hbig : 12000 < total l
        · rw [if_pos hbig] at HE
          have HF : Hid (treeFault l = (2, -1)) := HE
          have hbig' : (12000 : Int) < (total l : Int) := by omega
          clear HE
          go_wp2_with fail
          refine (bare_any 2 _).mono ?_
          rintro e w1 ⟨rfl, hb1⟩
          have HB1 := more_below HB.out rfl hb1
          obtain ⟨s0, s1, s2, s3, s4⟩ := slot_two HB1
          clear hb1 HB1
          go_wp2
          obtain ⟨q0, q1, q2⟩ := slot_set (w := w) (.int .i64 2) (.int .i64 (-1)) s0 s1 s4
          exact bodyPost_ret (v := .agg #[.int .i64 2, .int .i64 (-1)]) (by simp [results, Tryz.results19, go_sem, q0, q1]) rfl ⟨by rw [HF.out]; rfl, q2⟩
        · rw [if_neg hbig] at HE
          have HF : Hid (treeFault l = (0, -1)) := HE
          have hbig' : ¬ (12000 : Int) < (total l : Int) := by omega
          clear HE
          go_wp2_with fail
          refine (fine_any _).mono ?_
          rintro e w1 ⟨rfl, hb1⟩
          have HB1 := more_below HB.out rfl hb1
          obtain ⟨s0, s1, s2, s3, s4⟩ := slot_two HB1
          clear hb1 HB1
          go_wp2
          obtain ⟨q0, q1, q2⟩ := slot_set (w := w) (.int .i64 0) (.int .i64 (-1)) s0 s1 s4
          exact bodyPost_ret (v := .agg #[.int .i64 0, .int .i64 (-1)]) (by simp [results, Tryz.results19, go_sem, q0, q1]) rfl ⟨by rw [HF.out]; rfl, q2⟩
end Go.Proofs.YtlofpooobabkjaaGreatDoor
/-
  Package pack: Sum: a contract, over this seat's translation.
-/
namespace Go.Proofs.YtlofpooobabkjaaGreatDoor
open Go.RowKit Go.Shelf

/-- The sum of a tree (none: 0). -/
def sumT (l : List F) : Nat := if (treeFault l).1 = 0 then sumL (packL l) else 0
theorem sum_yes {l : List F} (h : (treeFault l).1 = 0) : sumT l = sumL (packL l) := by unfold sumT; rw [if_pos h]
theorem sum_no {l : List F} (h : (treeFault l).1 ≠ 0) : sumT l = 0 := by unfold sumT; rw [if_neg h]

set_option maxRecDepth 100000 in
set_option maxHeartbeats 2000000 in
theorem packSum_any (p : Nat → Addr) (l : List F) (a : Option Addr) (ca : Nat) (w : World) (hE : Env p w) (hS : SEnv p w) (hl : LiesAt w a l) (hca : l.length ≤ ca) (hs : Small l) :
    Calls Tryz.prog 10 #[.slice a l.length ca] w fun e w' => (∃ v, e = .returned (.tuple #[.int .i64 (sumT l), v]) ∧ ErrAt p w' v (treeFault l).1 (treeFault l).2) ∧ Below w.heap.size w w' := by
  have HM := Lib.hid (packMake_any p l a ca w hE hS hl hca hs)
  clear hE hS hl hca hs
  go_enter Tryz.func10, Tryz.ntmps10
  go_wp2_with fail
  refine HM.out.mono ?_
  rintro e w1 ⟨⟨v, rfl, hv⟩, hb1⟩
  have HB1 := Lib.hid hb1
  by_cases hz : (treeFault l).1 = 0
  · have HF := Lib.hid (treeFault_zero hz)
    have HU := Lib.hid (sum_yes hz)
    have hps := pack_small hz
    rw [hz] at hv
    have := hv.isNil
    subst this
    rw [make_yes hz]
    clear hv hz hb1 HM
    go_wp2_with fail
    refine (pkOf_any (packL l) _ (by omega)).mono ?_
    rintro e w2 ⟨rfl, rfl⟩
    go_wp2
    go_ret2
    exact ⟨⟨_, by rw [HU.out]; rfl, by rw [HF.out]; exact ErrAt.fine p _⟩, HB1.out⟩
  · have HU := Lib.hid (sum_no hz)
    obtain ⟨T, u, rfl⟩ := hv.some hz
    have HV := Lib.hid hv
    clear hv hz hb1 HM
    go_wp2
    go_ret2
    exact ⟨⟨_, by rw [HU.out]; rfl, HV.out⟩, HB1.out⟩
end Go.Proofs.YtlofpooobabkjaaGreatDoor
/-
  The document's answer for packs: PackOf, TreeSum: over this seat's translation.
-/
namespace Go.Proofs.YtlofpooobabkjaaGreatDoor
open Go.RowKit Go.Shelf

theorem fault_nat (l : List F) : ∃ c i, treeFault l = (c, i) := ⟨_, _, rfl⟩

set_option maxRecDepth 100000 in
set_option maxHeartbeats 4000000 in
theorem packOf_any (l : List F) (a : Option Addr) (ca : Nat) (w : World) (hl : LiesAt w a l) (hs : Small l) :
    Calls Tryz.prog 8 #[.slice a l.length ca] w fun e w' => e = .returned (.tuple #[.string ⟨(makeL l).toArray⟩, .agg #[.int .i64 (treeFault l).1, .int .i64 (treeFault l).2]]) ∧ Below w.heap.size w w' := by
  have HL := Lib.hid hl
  have HSM := Lib.hid hs
  obtain ⟨W0, hW0⟩ : ∃ W0, W0 = w.alloc (.cells #[.int .i64 0, .int .i64 0] 31) := ⟨_, rfl⟩
  have hb0 : Below w.heap.size w W0 := by rw [hW0]; exact (Below.refl _ _).alloc (Nat.le_refl _) _
  have HT := Lib.hid (refTreeFault_any l a ca W0 (hl.below hb0) hs)
  have HS0 : Hid (Below (w.heap.size + 1) (w.alloc (.cells #[.int .i64 0, .int .i64 0] 31)) W0) := by
    show Below _ _ _
    rw [hW0]
    exact Below.refl _ _
  clear hl hs hb0
  go_enter Tryz.func8, Tryz.ntmps8
  go_wp2_with fail
  rw [← hW0]
  clear hW0
  refine HT.out.mono ?_
  rintro e w1 ⟨rfl, hb1⟩
  have HS1 := Lib.hid (more_below HS0.out rfl hb1)
  clear hb1 HS0 HT
  by_cases hz : (treeFault l).1 = 0
  · have hps := pack_small hz
    have HMK := Lib.hid (make_yes hz)
    have HZ := Lib.hid (treeFault_zero hz)
    rw [HZ.out]
    clear hz
    go_wp2_with fail
    obtain ⟨W, hW⟩ : ∃ W, W = w1.alloc (.cells #[.int .i64 0, .int .i64 (-1)] 31) := ⟨_, rfl⟩
    have hbW : Below w1.heap.size w1 W := by rw [hW]; exact (Below.refl _ _).alloc (Nat.le_refl _) _
    have HSW := Lib.hid (more_below HS1.out rfl hbW)
    obtain ⟨f0, f1, _, _, _⟩ := slot_two (w := w1) (wr := W) (u := .int .i64 0) (v := .int .i64 (-1)) (T := 31) (by rw [hW]; exact Below.refl _ _)
    have hne : w1.heap.size ≠ w.heap.size := by have := HS1.out.size; simp at this; omega
    have hbl : w1.heap.size < W.heap.size := by rw [hW]; simp
    rw [← hW]
    clear hW hbW HS1
    generalize w1.heap.size = fb at f0 f1 hne hbl ⊢
    have HPT := packText_any l a ca W.drew (HL.out.below (slot_two HSW.out).2.2.2.2.drew) HSM.out hps
    obtain ⟨s0, s1, z0, z1, sb⟩ := slot_two HSW.out
    go_region_with (first
      | (go_at_call 20; (with_reducible refine HPT.mono ?_); rintro e w2 ⟨rfl, hb2⟩; have HS2 := Lib.hid (more_below HSW.out.drew rfl hb2); have d0 := (hb2.cell (p := ⟨fb, 0, none⟩) hbl).trans f0; have d1 := (hb2.cell (p := ⟨fb, 1, none⟩) hbl).trans f1; obtain ⟨t0, t1, y0, y1, tb⟩ := slot_two HS2.out; clear hb2))
    all_goals go_wp2
    all_goals
      obtain ⟨q0, q1, q2⟩ := slot_set (w := w) (wr := w2) (.int .i64 0) (.int .i64 (-1)) t0 t1 tb
      exact bodyPost_ret (v := .tuple #[.string ⟨(packL l).toArray⟩, .agg #[.int .i64 0, .int .i64 (-1)]]) (by simp [results, Tryz.results8, go_sem, q0, q1]) rfl ⟨by rw [HMK.out, HZ.out]; rfl, q2⟩
  · have HMK := Lib.hid (make_no hz)
    obtain ⟨c, i, hci⟩ := fault_nat l
    have hc : 0 < c := by rw [hci] at hz; simp at hz; omega
    have hc' : (0 : Int) < (c : Int) := by omega
    rw [hci]
    have HCI := Lib.hid hci
    clear hz hci
    go_wp2_with fail
    obtain ⟨W, hW⟩ : ∃ W, W = w1.alloc (.cells #[.int .i64 c, .int .i64 i] 31) := ⟨_, rfl⟩
    have hbW : Below w1.heap.size w1 W := by rw [hW]; exact (Below.refl _ _).alloc (Nat.le_refl _) _
    have HSW := Lib.hid (more_below HS1.out rfl hbW)
    obtain ⟨f0, f1, _, _, _⟩ := slot_two (w := w1) (wr := W) (u := .int .i64 c) (v := .int .i64 i) (T := 31) (by rw [hW]; exact Below.refl _ _)
    have hne : w1.heap.size ≠ w.heap.size := by have := HS1.out.size; simp at this; omega
    rw [← hW]
    clear hW hbW HS1
    generalize w1.heap.size = fb at f0 f1 hne ⊢
    obtain ⟨s0, s1, z0, z1, sb⟩ := slot_two HSW.out
    go_region
    all_goals go_wp2
    all_goals
      obtain ⟨q0, q1, q2⟩ := slot_set (w := w) (wr := W) (.int .i64 c) (.int .i64 i) s0 s1 sb
      exact bodyPost_ret (v := .tuple #[.string ⟨#[]⟩, .agg #[.int .i64 c, .int .i64 i]]) (by simp [results, Tryz.results8, go_sem, q0, q1]) rfl ⟨by rw [HMK.out, HCI.out], Below.drew q2⟩
end Go.Proofs.YtlofpooobabkjaaGreatDoor
/-
  The document's answer for packs: TreeSum: over this seat's translation.
-/
namespace Go.Proofs.YtlofpooobabkjaaGreatDoor
open Go.RowKit Go.Shelf

set_option maxRecDepth 100000 in
set_option maxHeartbeats 4000000 in
theorem treeSum_any (l : List F) (a : Option Addr) (ca : Nat) (w : World) (hl : LiesAt w a l) (hs : Small l) :
    Calls Tryz.prog 11 #[.slice a l.length ca] w fun e w' => e = .returned (.tuple #[.int .i64 (sumT l), .agg #[.int .i64 (treeFault l).1, .int .i64 (treeFault l).2]]) ∧ Below w.heap.size w w' := by
  obtain ⟨W0, hW0⟩ : ∃ W0, W0 = w.alloc (.cells #[.int .i64 0, .int .i64 0] 31) := ⟨_, rfl⟩
  have hb0 : Below w.heap.size w W0 := by rw [hW0]; exact (Below.refl _ _).alloc (Nat.le_refl _) _
  have HT := Lib.hid (packOf_any l a ca W0 (hl.below hb0) hs)
  have HS0 : Hid (Below (w.heap.size + 1) (w.alloc (.cells #[.int .i64 0, .int .i64 0] 31)) W0) := by
    show Below _ _ _
    rw [hW0]
    exact Below.refl _ _
  clear hl hs hb0
  go_enter Tryz.func11, Tryz.ntmps11
  go_wp2_with fail
  rw [← hW0]
  clear hW0
  refine HT.out.mono ?_
  rintro e w1 ⟨rfl, hb1⟩
  have HS1 := Lib.hid (more_below HS0.out rfl hb1)
  clear hb1 HS0 HT
  by_cases hz : (treeFault l).1 = 0
  · have hps := pack_small hz
    have HMK := Lib.hid (sum_yes hz)
    have HZ := Lib.hid (treeFault_zero hz)
    rw [HZ.out, make_yes hz]
    clear hz
    go_wp2_with fail
    obtain ⟨W, hW⟩ : ∃ W, W = w1.alloc (.cells #[.int .i64 0, .int .i64 (-1)] 31) := ⟨_, rfl⟩
    have hbW : Below w1.heap.size w1 W := by rw [hW]; exact (Below.refl _ _).alloc (Nat.le_refl _) _
    have HSW := Lib.hid (more_below HS1.out rfl hbW)
    obtain ⟨f0, f1, _, _, _⟩ := slot_two (w := w1) (wr := W) (u := .int .i64 0) (v := .int .i64 (-1)) (T := 31) (by rw [hW]; exact Below.refl _ _)
    have hne : w1.heap.size ≠ w.heap.size := by have := HS1.out.size; simp at this; omega
    have hbl : w1.heap.size < W.heap.size := by rw [hW]; simp
    rw [← hW]
    clear hW hbW HS1
    generalize w1.heap.size = fb at f0 f1 hne hbl ⊢
    have HPT := refSumOf_any (packL l) W.drew (by omega)
    generalize packL l = pk at HPT HMK hps
    generalize sumL pk = sm at HPT HMK
    obtain ⟨s0, s1, z0, z1, sb⟩ := slot_two HSW.out
    go_region_with (first
      | (go_at_call 23; (with_reducible refine HPT.mono ?_); rintro e w2 ⟨rfl, rfl⟩))
    all_goals go_wp2
    all_goals
      obtain ⟨q0, q1, q2⟩ := slot_set (w := w) (wr := W) (.int .i64 0) (.int .i64 (-1)) s0 s1 sb
      exact bodyPost_ret (v := .tuple #[.int .i64 sm, .agg #[.int .i64 0, .int .i64 (-1)]]) (by simp [results, Tryz.results11, go_sem, q0, q1]) rfl ⟨by rw [HMK.out, HZ.out]; rfl, Below.drew q2⟩
  · have HMK := Lib.hid (sum_no hz)
    rw [make_no hz]
    obtain ⟨c, i, hci⟩ := fault_nat l
    have hc : 0 < c := by rw [hci] at hz; simp at hz; omega
    have hc' : (0 : Int) < (c : Int) := by omega
    rw [hci]
    have HCI := Lib.hid hci
    clear hz hci
    go_wp2_with fail
    obtain ⟨W, hW⟩ : ∃ W, W = w1.alloc (.cells #[.int .i64 c, .int .i64 i] 31) := ⟨_, rfl⟩
    have hbW : Below w1.heap.size w1 W := by rw [hW]; exact (Below.refl _ _).alloc (Nat.le_refl _) _
    have HSW := Lib.hid (more_below HS1.out rfl hbW)
    obtain ⟨f0, f1, _, _, _⟩ := slot_two (w := w1) (wr := W) (u := .int .i64 c) (v := .int .i64 i) (T := 31) (by rw [hW]; exact Below.refl _ _)
    have hne : w1.heap.size ≠ w.heap.size := by have := HS1.out.size; simp at this; omega
    rw [← hW]
    clear hW hbW HS1
    generalize w1.heap.size = fb at f0 f1 hne ⊢
    obtain ⟨s0, s1, z0, z1, sb⟩ := slot_two HSW.out
    go_region
    all_goals go_wp2
    all_goals
      obtain ⟨q0, q1, q2⟩ := slot_set (w := w) (wr := W) (.int .i64 c) (.int .i64 i) s0 s1 sb
      exact bodyPost_ret (v := .tuple #[.int .i64 0, .agg #[.int .i64 c, .int .i64 i]]) (by simp [results, Tryz.results11, go_sem, q0, q1]) rfl ⟨by rw [HMK.out, HCI.out]; rfl, Below.drew q2⟩
end Go.Proofs.YtlofpooobabkjaaGreatDoor
/-
  Cut of the document's answer hands back, at a blank, the pieces of the text in new memory: a contract, over this seat's translation.
-/
namespace Go.Proofs.YtlofpooobabkjaaGreatDoor
open Go.RowKit Go.Shelf

theorem drop_cutBy {c : UInt8} {l : List UInt8} {f k : Nat} (hfk : f ≤ k) (hk : k < l.length) (h : l[k] = c) : l.drop f = (l.drop f).take (k - f) ++ c :: l.drop (k + 1) := by
  have e := List.take_append_drop (k - f) (l.drop f)
  rw [List.drop_drop, show f + (k - f) = k by omega, List.drop_eq_getElem_cons hk, h] at e
  exact e.symm

set_option maxRecDepth 100000 in
set_option maxHeartbeats 2000000 in
theorem refCutBlank_any (l : List UInt8) (w : World) (hl : l.length ≤ 90000) :
    Calls Tryz.prog 26 #[.string ⟨l.toArray⟩, .int .u8 32] w fun e w' => ∃ v, e = .returned v ∧ w'.ownsRow w.heap.size 9 1 v (piecesBy 32 l).length ((piecesBy 32 l).map sv) ∧ Below w.heap.size w w' := by
  obtain ⟨i0, hi, hz0, hz1, hz2⟩ := info_parts Tryz.info9
  go_enter Tryz.func26, Tryz.ntmps26
  go_wp2_with fail
  go_loopw [5, 6, 7] (fun out fr i wr => ∃ (ps : List (List UInt8)) (f k : Nat), fr = .int .i64 f ∧ i = .int .i64 k ∧ f ≤ k ∧ k ≤ l.length ∧ ps.length ≤ k ∧ piecesBy 32 l = ps ++ piecesBy 32 (l.drop f) ∧ 32 ∉ (l.drop f).take (k - f) ∧ wr.ownsRow w.heap.size 9 1 out ps.length (ps.map sv) ∧ Below w.heap.size w wr)
    (fun _ _ i _ => l.length - (intOf i).toNat)
  case atStart => exact ⟨[], 0, 0, rfl, rfl, Nat.le_refl _, Nat.zero_le _, by simp, by simp, by simp, World.ownsRow_nil _ _ _ _, Below.refl _ _⟩
  case round =>
    obtain ⟨ps, f, k, rfl, rfl, hfk, hk, hps, hpc, hno, hrow, hb⟩ := hrel
    have HPC : Hid (piecesBy 32 l = ps ++ piecesBy 32 (l.drop f)) := hpc
    have HNO : Hid (32 ∉ (l.drop f).take (k - f)) := hno
    have HB : Hid (Below w.heap.size w wr) := hb
    have hbs := hb.size
    clear hpc hno hb
    by_cases hlt : k < l.length
    · have hsz : k < ({ data := l.toArray } : ByteArray).size := by simpa [ByteArray.size] using hlt
      by_cases h32 : l[k] = 32
      · have hbyte : ((({ data := l.toArray } : ByteArray)[k]'hsz).toNat : Int) = 32 := by
          show ((l[k]).toNat : Int) = 32
          rw [h32]; rfl
        have HD : Hid (l.drop f = (l.drop f).take (k - f) ++ 32 :: l.drop (k + 1)) := drop_cutBy hfk hlt h32
        clear h32
        go_wp2_with (at_builtin; refine wpList_append_own _ rfl _ _ 66 rfl w.heap.size 9 i0 (.string ⟨#[]⟩) 1 16 Tryz.underlying66 hi hz0 hz1 hz2 rfl (by decide) _ _ _ rfl (hrow.alloc _) ⟨wr.heap.size, 0, none⟩ 1 1 [.string (({ data := l.toArray } : ByteArray).extract f k)] rfl rfl (cell_one_new _ _ _) (by simp [Value.oneCell']) (by unfold maxLen; omega) (by omega) (by simp; omega) ?_; intro v' w1 hown' hgrow _)
        have HB1 : Below w.heap.size w w1 := (HB.out.alloc hbs _).grown hgrow (by simp; omega) (fun j ej => (hrow.lt j ej).1)
        refine ⟨⟨ps ++ [(l.drop f).take (k - f)], k + 1, k + 1, by go_num, by go_num, Nat.le_refl _, by omega, by simp; omega, ?_, by simp, ?_, HB1⟩, by simp [intOf]; omega⟩
        · rw [HPC.out, piecesBy_cut (l := l.drop f) (a := (l.drop f).take (k - f)) (b := l.drop (k + 1)) (by have := cutBy_of (l.drop (k + 1)) HNO.out; rwa [← HD.out] at this)]
          simp
        · rw [extract_list] at hown'
          simpa using hown'
      · have hbyte : (((({ data := l.toArray } : ByteArray)[k]'hsz).toNat : Int) == 32) = false := by
          show (((l[k]).toNat : Int) == 32) = false
          rw [beq_eq_false_iff_ne]
          intro e
          apply h32
          apply UInt8.toNat_inj.1
          have : (32 : UInt8).toNat = 32 := rfl
          omega
        have HN2 : Hid (32 ∉ (l.drop f).take (k + 1 - f)) := by
          show 32 ∉ _
          rw [take_more hfk hlt]
          intro h
          rcases List.mem_append.1 h with h | h
          · exact HNO.out h
          · simp at h; exact h32 h.symm
        clear h32
        go_wp2
        go_roundw
        case rel => exact ⟨ps, f, k + 1, rfl, by go_num, by omega, by omega, by omega, HPC.out, HN2.out, hrow, HB.out⟩
        case measure => simp [intOf]; omega
    · have hkl : k = l.length := by omega
      have HPE : Hid (piecesBy 32 l = ps ++ [l.drop f]) := by
        show piecesBy 32 l = _
        rw [HPC.out, piecesBy_none (l := l.drop f) (by have := HNO.out; rwa [List.take_of_length_le (by rw [List.length_drop]; omega)] at this)]
      have hfl : f ≤ l.length := by omega
      clear hkl
      go_wp2_with (at_builtin; refine wpList_append_own _ rfl _ _ 66 rfl w.heap.size 9 i0 (.string ⟨#[]⟩) 1 16 Tryz.underlying66 hi hz0 hz1 hz2 rfl (by decide) _ _ _ rfl (hrow.alloc _) ⟨wr.heap.size, 0, none⟩ 1 1 [.string (({ data := l.toArray } : ByteArray).extract f l.length)] rfl rfl (cell_one_new _ _ _) (by simp [Value.oneCell']) (by unfold maxLen; omega) (by omega) (by simp; omega) ?_; intro v' w1 hown' hgrow _)
      go_ret
      have HB1 : Below w.heap.size w w1 := (HB.out.alloc hbs _).grown hgrow (by simp; omega) (fun j ej => (hrow.lt j ej).1)
      refine ⟨v', rfl, ?_, HB1⟩
      rw [HPE.out]
      rw [extract_list, List.take_of_length_le (by simp)] at hown'
      simpa using hown'
end Go.Proofs.YtlofpooobabkjaaGreatDoor
/-
  The document's answer for numbers: NumberOf, ReadSum: over this seat's translation.
-/
namespace Go.Proofs.YtlofpooobabkjaaGreatDoor
open Go.RowKit

theorem number_bad {s : List UInt8} {k : Nat} (h : s.length < 1 ∨ k < s.length ∨ (1 < s.length ∧ s.head? = some 48)) : numberL s k = -1 := by
  unfold numberL
  rw [if_pos h]
theorem number_good {s : List UInt8} {k : Nat} (h : ¬ (s.length < 1 ∨ k < s.length ∨ (1 < s.length ∧ s.head? = some 48))) (hd : s.all isDigit = true) : numberL s k = (valueFrom 0 s : Nat) := by
  unfold numberL
  rw [if_neg h, if_pos hd]
theorem number_none {s : List UInt8} {k : Nat} {b : UInt8} (hb : b ∈ s) (hd : isDigit b = false) : numberL s k = -1 := by
  unfold numberL
  split
  · rfl
  · rw [if_neg]
    intro h
    have := List.all_eq_true.1 h b hb
    rw [hd] at this
    cases this
theorem value_lt17 {s : List UInt8} (h : s.all isDigit = true) (hl : s.length ≤ 17) : valueFrom 0 s < 100000000000000000 := by
  have h1 := value_from s 0 h
  have h2 : 10 ^ s.length ≤ 10 ^ 17 := Nat.pow_le_pow_right (by decide) hl
  omega
theorem head_zero {l : List UInt8} (h : 0 < l.length) : (l[0].toNat = 48) ↔ l.head? = some 48 := by
  cases l with
  | nil => simp at h
  | cons b r =>
    simp
    constructor
    · intro e
      exact UInt8.toNat_inj.1 e
    · intro e
      rw [e]
      rfl

set_option maxRecDepth 100000 in
set_option maxHeartbeats 1000000 in
theorem numberOf_bad (l : List UInt8) (k : Nat) (w : World) (hl : l.length ≤ 281474976710656) (hbad : l.length < 1 ∨ k < l.length ∨ (1 < l.length ∧ l.head? = some 48)) : Calls Tryz.prog 27 #[.string ⟨l.toArray⟩, .int .i64 k] w fun e w' => e = .returned (.int .i64 (numberL l k)) ∧ w' = w := by
  have HN : Hid (numberL l k = -1) := number_bad hbad
  by_cases h1 : l.length < 1
  · have hl0 : l = [] := by cases l with | nil => rfl | cons b r => simp at h1
    subst hl0
    clear h1 hbad
    go_enter Tryz.func27, Tryz.ntmps27
    go_wp2
    go_ret
    exact ⟨by rw [HN.out]; rfl, rfl⟩
  · by_cases h2 : k < l.length
    · have h3 : decide ((l.length : Int) < 1) = false := by simp; omega
      clear h1 hbad
      go_enter Tryz.func27, Tryz.ntmps27
      go_wp2
      all_goals go_ret
      all_goals exact ⟨by rw [HN.out]; rfl, rfl⟩
    · obtain ⟨h3, h4⟩ : 1 < l.length ∧ l.head? = some 48 := by
        rcases hbad with h | h | h
        · exact absurd h h1
        · exact absurd h h2
        · exact h
      have h5 : decide ((l.length : Int) < 1) = false := by simp; omega
      have hsz : 0 < ({ data := l.toArray } : ByteArray).size := by simp [ByteArray.size]; omega
      have hz : ((({ data := l.toArray } : ByteArray)[0]'hsz).toNat : Int) = 48 := by
        have := (head_zero (by omega)).2 h4
        show ((l[0]'(by omega)).toNat : Int) = 48
        omega
      clear h1 h4 hbad
      go_enter Tryz.func27, Tryz.ntmps27
      go_wp2
      all_goals go_ret
      all_goals exact ⟨by rw [HN.out]; rfl, rfl⟩

set_option maxRecDepth 100000 in
set_option maxHeartbeats 1000000 in
theorem numberOf_good (l : List UInt8) (k : Nat) (w : World) (hk : k ≤ 18) (hgood : ¬ (l.length < 1 ∨ k < l.length ∨ (1 < l.length ∧ l.head? = some 48))) : Calls Tryz.prog 27 #[.string ⟨l.toArray⟩, .int .i64 k] w fun e w' => e = .returned (.int .i64 (numberL l k)) ∧ w' = w := by
  have HN := Lib.hid (number_good hgood)
  have h1 : 1 ≤ l.length := by omega
  have h2 : l.length ≤ k := by omega
  have h3 : decide ((l.length : Int) < 1) = false := by simp; omega
  have h4 : decide (k < l.length) = false := by simp; omega
  have hsz : 0 < ({ data := l.toArray } : ByteArray).size := by simp [ByteArray.size]; omega
  have hc : decide ((1 : Int) < l.length) = false ∨ (1 < l.length ∧ (((({ data := l.toArray } : ByteArray)[0]'hsz).toNat : Int) == 48) = false) := by
    by_cases h5 : 1 < l.length
    · refine Or.inr ⟨h5, ?_⟩
      have h6 : l.head? ≠ some 48 := fun e => hgood (Or.inr (Or.inr ⟨h5, e⟩))
      have h7 := (not_congr (head_zero (l := l) (by omega))).2 h6
      show (((l[0]'(by omega)).toNat : Int) == 48) = false
      simp
      omega
    · exact Or.inl (by simp; omega)
  clear hgood
  rcases hc with h5 | ⟨h5, h6⟩
  all_goals
    go_enter Tryz.func27, Tryz.ntmps27
    go_wp2_with fail
    go_loopw [5, 6] (fun nv iv wr => ∃ j : Nat, j ≤ l.length ∧ (l.take j).all isDigit = true ∧ nv = .int .i64 (valueFrom 0 (l.take j) : Nat) ∧ iv = .int .i64 (j : Int) ∧ wr = w) (fun _ iv _ => l.length - (intOf iv).toNat)
    case atStart => exact ⟨0, Nat.zero_le _, rfl, rfl, rfl, rfl⟩
    case round =>
      obtain ⟨j, hj, hd, rfl, rfl, hb⟩ := hrel
      subst hb
      by_cases h0 : j = l.length
      · subst h0
        rw [List.take_length] at hd ⊢
        have HM := Lib.hid (HN.out hd)
        clear HN hd
        go_wp2
        go_ret
        exact ⟨by rw [HM.out]; rfl, rfl⟩
      · have hlt : j < l.length := by omega
        have hv := value_lt17 hd (by rw [List.length_take]; omega)
        have htk : l.take (j + 1) = l.take j ++ [l[j]] := by rw [List.take_add_one, List.getElem?_eq_getElem hlt]; rfl
        have HV := Lib.hid (value_snoc (l.take j) l[j])
        have HX := Lib.hid (fun hx : isDigit l[j] = false => number_none (k := k) (List.getElem_mem hlt) hx)
        have HD := Lib.hid hd
        have HT := Lib.hid htk
        have hjs : j < ({ data := l.toArray } : ByteArray).size := by simp [ByteArray.size]; omega
        obtain ⟨b, hb⟩ : ∃ b, l[j] = b := ⟨_, rfl⟩
        have hbj : ({ data := l.toArray } : ByteArray)[j]'hjs = b := hb
        rw [hb] at HV HX HT
        clear h0 hd htk hb
        generalize valueFrom 0 (l.take j) = n at HV hv ⊢
        by_cases hlo : b.toNat < 48
        · have HM := Lib.hid (HX.out (by simp [isDigit]; omega))
          have hlo' : (b.toNat : Int) < 48 := by omega
          clear HX HN
          go_wp2
          go_ret
          exact ⟨by rw [HM.out]; rfl, rfl⟩
        · have hlo' : decide ((b.toNat : Int) < 48) = false := by simp; omega
          by_cases hhi : 57 < b.toNat
          · have HM := Lib.hid (HX.out (by simp [isDigit]; omega))
            have hhi' : (57 : Int) < (b.toNat : Int) := by omega
            clear HX HN
            go_wp2
            go_ret
            exact ⟨by rw [HM.out]; rfl, rfl⟩
          · have hhi' : decide ((57 : Int) < (b.toNat : Int)) = false := by simp; omega
            clear HX HN
            go_wp2_with fail
            refine ⟨⟨j + 1, by omega, ?_, ?_, rfl, trivial⟩, by simp [intOf]; omega⟩
            · rw [HT.out, List.all_append, HD.out]
              simp [isDigit]
              omega
            · rw [HT.out, HV.out]
              congr 1
              omega

theorem numberOf_any (l : List UInt8) (k : Nat) (w : World) (hk : k ≤ 18) (hl : l.length ≤ 281474976710656) : Calls Tryz.prog 27 #[.string ⟨l.toArray⟩, .int .i64 k] w fun e w' => e = .returned (.int .i64 (numberL l k)) ∧ w' = w := by
  by_cases h : l.length < 1 ∨ k < l.length ∨ (1 < l.length ∧ l.head? = some 48)
  · exact numberOf_bad l k w hl h
  · exact numberOf_good l k w hk h
end Go.Proofs.YtlofpooobabkjaaGreatDoor
/-
  The document's answer for packs: ReadPack: over this seat's translation.
-/
namespace Go.Proofs.YtlofpooobabkjaaGreatDoor
open Go.RowKit Go.Shelf

/-- At a place of the text from which on no file can be read. -/
theorem read_stuck {s : List UInt8} {fs : List F} {k : Nat} (hs : s.length ≤ 20000) (hra : readA s = (fs ++ (readA (s.drop k)).1, (readA (s.drop k)).2)) (hk : k < s.length) (hc : cutFileL (s.drop k) = none) : readP s = ([], 1, (fs.length : Int)) := by
  have hne : s.drop k ≠ [] := fun e => by have := congrArg List.length e; simp at this; omega
  have h1 := readA_bad hne hc
  have := readP_none (s := s) hs (by rw [hra, h1])
  rw [hra, h1] at this
  simpa using this
/-- The line from a place on, and what is behind it. -/
theorem line_cut {s : List UInt8} {k e : Nat} (hke : k ≤ e) (he : e < s.length) (hno : 10 ∉ (s.drop k).take (e - k)) (h10 : s[e] = 10) : cutBy 10 (s.drop k) = some ((s.drop k).take (e - k), s.drop (e + 1)) := by
  have := drop_cutBy hke he h10
  rw [this]
  have h2 := cutBy_of (s.drop (e + 1)) hno
  rw [← this] at h2 ⊢
  exact h2
theorem line_none {s : List UInt8} {k e : Nat} (he : e = s.length) (hno : 10 ∉ (s.drop k).take (e - k)) : cutBy 10 (s.drop k) = none := by
  refine cutBy_no.2 ?_
  rwa [List.take_of_length_le (by rw [List.length_drop]; omega)] at hno
theorem owns_three {w : World} {base : Nat} {v : Value} {x y z : List UInt8} (h : w.ownsRow base 9 1 v 3 ([x, y, z].map sv)) : ∃ g cap, v = .slice (some ⟨g, 0, none⟩) 3 cap ∧ base ≤ g ∧ 3 ≤ cap ∧ (∃ cur, w.heap[g]? = some (.cells cur 9 (0, 0))) ∧ w.cell? ⟨g, 0, none⟩ = some (sv x) ∧ w.cell? ⟨g, 1, none⟩ = some (sv y) ∧ w.cell? ⟨g, 2, none⟩ = some (sv z) := by
  rcases h.2 with ⟨_, h0⟩ | ⟨g, cap, cur, rfl, hb, hh, hc, _, _, htk⟩
  · cases h0
  · have hcell := (owns_cells (k := [x, y, z]) h rfl).1
    exact ⟨g, cap, rfl, hb, hc, ⟨cur, hh⟩, hcell 0 (by simp), hcell 1 (by simp), hcell 2 (by simp)⟩

/-- A cell of another row, behind an append. -/
theorem grown_far {w w5 W : World} {row : Option Nat} {g i : Nat} {v : Value} (hg : W.grownBy w5 row) (hc : W.cell? ⟨g, i, none⟩ = some v) (_ : g < w.heap.size) (hne : row ≠ some g) : w5.cell? ⟨g, i, none⟩ = some v :=
  (hg.cell_far ⟨g, i, none⟩ (block_lt_of_cell hc) (Ne.symm hne)).trans hc
/-- A row of files and one of texts lie apart. -/
theorem own_far {w : World} {base g : Nat} {v : Value} {n : Nat} {xs : List Value} {cur : Array Value} (h : w.ownsRow base 46 3 v n xs) (hg : w.heap[g]? = some (.cells cur 9 (0, 0))) : v.ownBlock ≠ some g := by
  rcases h.2 with ⟨rfl, _⟩ | ⟨g', cap, cur', rfl, _, hh, _⟩
  · simp [Value.ownBlock]
  · intro e
    obtain rfl : g' = g := by simpa [Value.ownBlock] using e
    rw [hg] at hh
    simp at hh

set_option maxRecDepth 100000 in
set_option maxHeartbeats 8000000 in
theorem refReadPack_any (s : List UInt8) (w : World) (hl : s.length ≤ 90000) :
    Calls Tryz.prog 13 #[.string ⟨s.toArray⟩] w fun e w' => (∃ v, e = .returned (.tuple #[v, .agg #[.int .i64 (readP s).2.1, .int .i64 (readP s).2.2]]) ∧ w'.ownsRow w.heap.size 46 3 v (readP s).1.length (lcells (readP s).1)) ∧ Below w.heap.size w w' := by
  by_cases hlong : 20000 < s.length
  · have HT := Lib.hid (readP_long hlong)
    have hlong' : (20000 : Int) < (s.length : Int) := by omega
    go_enter Tryz.func13, Tryz.ntmps13
    go_wp2_with fail
    refine (bare_any 2 _).mono ?_
    rintro e w1 ⟨rfl, hb1⟩
    obtain ⟨t0, t1, y0, y1, tb⟩ := slot_two (more_below (Below.refl _ _) rfl hb1)
    clear hb1
    go_wp2
    obtain ⟨q0, q1, q2⟩ := slot_set (w := w) (wr := w1) (.int .i64 2) (.int .i64 (-1)) t0 t1 tb
    exact bodyPost_ret (v := .tuple #[.slice none 0 0, .agg #[.int .i64 2, .int .i64 (-1)]]) (by simp [results, Tryz.results13, go_sem, q0, q1]) rfl ⟨⟨_, by rw [HT.out]; rfl, by rw [HT.out]; exact World.ownsRow_nil _ _ _ _⟩, q2⟩
  have hlong' : ¬ (20000 : Int) < (s.length : Int) := by omega
  obtain ⟨i0, hi, hz0, hz1, hz2⟩ := info_parts Tryz.infoFile
  go_enter Tryz.func13, Tryz.ntmps13
  go_wp2_with fail
  go_loopw [4, 5] (fun out at' wr => ∃ (fs : List F) (k : Nat), at' = .int .i64 k ∧ k ≤ s.length ∧ packL fs ++ s.drop k = s ∧ readA s = (fs ++ (readA (s.drop k)).1, (readA (s.drop k)).2) ∧ wr.ownsRow (w.heap.size + 1) 46 3 out fs.length (lcells fs) ∧ Below (w.heap.size + 1) (w.alloc (.cells #[.int .i64 0, .int .i64 0] 31)) wr) (fun _ at' _ => s.length - (intOf at').toNat)
  case atStart => exact ⟨[], 0, rfl, Nat.zero_le _, by simp [packL], by simp, World.ownsRow_nil _ _ _ _, Below.refl _ _⟩
  case round =>
    obtain ⟨fs, k, rfl, hk, hsr, hra, hrow, hb⟩ := hrel
    have HSR := Lib.hid hsr
    have HRA := Lib.hid hra
    have HB := Lib.hid hb
    have hlr : (packL fs).length + (s.length - k) = s.length := by
      have := congrArg List.length hsr
      rw [List.length_append, List.length_drop] at this
      omega
    have hpc := pack_count fs
    clear hsr hra hb
    by_cases hlt : k < s.length
    · have hlt' : (k : Int) < (s.length : Int) := by omega
      obtain ⟨oa, oc, rfl, hol, hoc⟩ := owns_files hrow
      go_wp2_with fail
      obtain ⟨wo, rfl⟩ : ∃ wo, wo = wr := ⟨_, rfl⟩
      go_loopw [6] (fun ev wq => ∃ e : Nat, ev = .int .i64 e ∧ k ≤ e ∧ e ≤ s.length ∧ 10 ∉ (s.drop k).take (e - k) ∧ wq = wo) (fun ev _ => s.length - (intOf ev).toNat)
      case atStart => exact ⟨k, rfl, Nat.le_refl _, hk, by simp, rfl⟩
      case round =>
        obtain ⟨e, rfl, hke, hes, hno, rfl⟩ := hrel
        have HNO := Lib.hid hno
        clear hno
        by_cases hel : e < s.length
        · have hel' : (e : Int) < (s.length : Int) := by omega
          have hsz : e < ({ data := s.toArray } : ByteArray).size := by simpa [ByteArray.size] using hel
          by_cases h10 : s[e] = 10
          · have hbyte : ((({ data := s.toArray } : ByteArray)[e]'hsz).toNat : Int) = 10 := by
              show ((s[e]).toNat : Int) = 10
              rw [h10]; rfl
            have HLC := Lib.hid (line_cut hke hel HNO.out h10)
            clear h10
            have hll : ((s.drop k).take (e - k)).length ≤ 90000 := by rw [List.length_take, List.length_drop]; omega
            have hsl : ({ data := s.toArray } : ByteArray).extract k e = ⟨((s.drop k).take (e - k)).toArray⟩ := extract_list _ _ _
            have hke' : (k : Int) ≤ (e : Int) := by omega
            have hes' : (e : Int) ≤ (s.length : Int) := by omega
            have hend : ((e : Int) == (s.length : Int)) = false := by rw [beq_eq_false_iff_ne]; omega
            generalize (s.drop k).take (e - k) = line at hll hsl HLC
            go_wp2_with fail
            refine (refCutBlank_any line _ hll).mono ?_
            rintro e1 w2 ⟨v, rfl, hvrow, hb2⟩
            have HS2 := Lib.hid (more_below HB.out rfl hb2)
            have hrow2 := owns_below hrow hb2
            obtain ⟨t0, t1, y0, y1, tb⟩ := slot_two HS2.out
            have hgo : wr.heap.size ≤ w2.heap.size := hb2.size
            have hwo : w.heap.size + 1 ≤ wr.heap.size := by have := HB.out.size; simpa using this
            clear hb2 hrow
            by_cases h3 : (piecesBy 32 line).length = 3
            · obtain ⟨a, m, d, hp⟩ : ∃ a m d, piecesBy 32 line = [a, m, d] := by
                rcases hq : piecesBy 32 line with _ | ⟨a, _ | ⟨m, _ | ⟨d, _ | ⟨x, r⟩⟩⟩⟩ <;> rw [hq] at h3 <;> simp at h3
                exact ⟨a, m, d, rfl⟩
              have HO := Lib.hid (headOf_three hp)
              have hple := piecesBy_le 32 line
              rw [hp] at hvrow hple
              have hdl := hple d (by simp)
              obtain ⟨g, cap, rfl, hg0, hcap, ⟨cur, hgh⟩, c0, c1, c2⟩ := owns_three hvrow
              have hcap' : (3 : Int) ≤ (cap : Int) := by omega
              clear hvrow h3 hp hple
              go_wp2_with fail
              refine (numberOf_any d 6 _ (by decide) (by omega)).mono ?_
              rintro e2 w3 ⟨rfl, rfl⟩
              by_cases hn : numberL d 6 < 0
              · have HT := Lib.hid (read_stuck (by omega) HRA.out hlt (cutFile_noHead HLC.out (HO.out.trans (if_neg (fun h => by omega)))))
                generalize numberL d 6 = nn at hn
                go_wp2
                obtain ⟨q0, q1, q2⟩ := slot_set (w := w) (.int .i64 1) (.int .i64 fs.length) t0 t1 tb
                exact bodyPost_ret (v := .tuple #[.slice none 0 0, .agg #[.int .i64 1, .int .i64 fs.length]]) (by simp [results, Tryz.results13, go_sem, q0, q1]) rfl ⟨⟨_, by rw [HT.out]; rfl, by rw [HT.out]; exact World.ownsRow_nil _ _ _ _⟩, q2⟩
              · obtain ⟨n, hn'⟩ := Int.eq_ofNat_of_zero_le (Int.not_lt.1 hn)
                have hneg : decide ((n : Int) < 0) = false := by simp
                rw [hn']
                by_cases hx : m = [120]
                · subst hx
                  have HH : Hid (headOf line = some (a, true, n)) := HO.out.trans (by rw [if_pos ⟨by simp, by omega⟩, hn']; simp)
                  clear hn hn' HO
                  have HI := Lib.hid (cutFile_head HLC.out HH.out)
                  have hnb := headOf_bound HH.out
                  have hrn : (s.drop (e + 1))[n]? = s[e + 1 + n]? := List.getElem?_drop
                  by_cases hfar : s.length ≤ e + 1 + n
                  · have HT := Lib.hid (read_stuck (by omega) HRA.out hlt (HI.out.trans (if_neg (by rw [hrn, List.getElem?_eq_none hfar]; simp))))
                    have hfar' : (s.length : Int) ≤ (e : Int) + 1 + (n : Int) := by omega
                    go_wp2
                    obtain ⟨q0, q1, q2⟩ := slot_set (w := w) (.int .i64 1) (.int .i64 fs.length) t0 t1 tb
                    exact bodyPost_ret (v := .tuple #[.slice none 0 0, .agg #[.int .i64 1, .int .i64 fs.length]]) (by simp [results, Tryz.results13, go_sem, q0, q1]) rfl ⟨⟨_, by rw [HT.out]; rfl, by rw [HT.out]; exact World.ownsRow_nil _ _ _ _⟩, q2⟩
                  · have hfar' : decide ((s.length : Int) ≤ (e : Int) + 1 + (n : Int)) = false := by simp; omega
                    have hlt2 : e + 1 + n < s.length := by omega
                    have hsz2 : e + 1 + n < ({ data := s.toArray } : ByteArray).size := by simpa [ByteArray.size] using hlt2
                    by_cases hb10 : s[e + 1 + n] = 10
                    · have hbyte2 : ((({ data := s.toArray } : ByteArray)[e + 1 + n]'hsz2).toNat : Int) = 10 := by
                        show ((s[e + 1 + n]).toNat : Int) = 10
                        rw [hb10]; rfl
                      have hi2 : (e : Int) + 1 + (n : Int) < (s.length : Int) := by omega
                      have hc : cutFileL (s.drop k) = some (⟨a, true, (s.drop (e + 1)).take n⟩, s.drop (e + n + 2)) := by
                        rw [HI.out, if_pos (by rw [hrn, List.getElem?_eq_getElem hlt2, hb10]), List.drop_drop]
                        congr 3
                        omega
                      have hne0 : s.drop k ≠ [] := fun h => by have := congrArg List.length h; simp at this; omega
                      have HSR2 : Hid (packL (fs ++ [⟨a, true, (s.drop (e + 1)).take n⟩]) ++ s.drop (e + n + 2) = s) := by
                        show packL (fs ++ [_]) ++ _ = s
                        rw [packL_snoc, List.append_assoc, ← cutFile_some hc]
                        exact HSR.out
                      have HRA2 : Hid (readA s = ((fs ++ [⟨a, true, (s.drop (e + 1)).take n⟩]) ++ (readA (s.drop (e + n + 2))).1, (readA (s.drop (e + n + 2))).2)) := by
                        show readA s = _
                        rw [HRA.out, readA_good hne0 hc]
                        simp
                      have etx : ({ data := s.toArray } : ByteArray).extract (e + 1) (e + 1 + n) = ⟨((s.drop (e + 1)).take n).toArray⟩ := by
                        rw [extract_list]
                        congr 3
                        omega
                      have hneg2 := own_far hrow2 hgh
                      have hwr1 : IntKind.i64.wrap ((e : Int) + 1) = (e : Int) + 1 := by rw [IntKind.wrap_i64]; omega
                      have hwr2 : IntKind.i64.wrap ((e : Int) + 1 + (n : Int)) = (e : Int) + 1 + (n : Int) := by rw [IntKind.wrap_i64]; omega
                      have h00 : (0 : Int) ≤ (e : Int) + 1 := by omega
                      have ht1 : ((e : Int) + 1).toNat = e + 1 := by omega
                      have ht2 : ((e : Int) + 1 + (n : Int)).toNat = e + 1 + n := by omega
                      have hgl : g < w3.heap.size := block_lt_of_cell c0
                      have K0 : Hid (∀ o, (w3.alloc o).cell? ⟨g, 0, none⟩ = some (sv a)) := fun o => (World.cell?_alloc_lt _ _ _ hgl).trans c0
                      have K1 : Hid (∀ o, (w3.alloc o).cell? ⟨g, 1, none⟩ = some (sv [120])) := fun o => (World.cell?_alloc_lt _ _ _ hgl).trans c1
                      have hlo : (e : Int) + 1 ≤ (e : Int) + 1 + (n : Int) := by omega
                      have hup : (e : Int) + 1 + (n : Int) ≤ (s.length : Int) := by omega
                      generalize (s.drop (e + 1)).take n = tx at HSR2 HRA2 etx
                      clear hb10 hc hne0 HI HH hrn
                      go_wp2_with fail
                      go_region_held3 (fun w' => w'.cell? ⟨g, 0, none⟩ = some (sv a) ∧ w'.cell? ⟨g, 1, none⟩ = some (sv [120])) (go_keep)
                        ((refine step_append_lies _ (by rfl) _ _ _ (by rfl) (w.heap.size + 1) 46 i0 (.agg #[.string ⟨#[]⟩, .bool false, .string ⟨#[]⟩]) 3 40 Tryz.underlying22 hi hz0 hz1 hz2 rfl (by decide) _ _ _ (by rfl) (hrow2.alloc _) ⟨w3.heap.size, 0, none⟩ 1 1 (fcells ⟨a, true, tx⟩) (by rfl) rfl (cells_new _ ⟨a, true, tx⟩ _) (by simp [fcells, Value.oneCell']) (by decide) (by unfold maxLen; omega) (by omega) (by simp; omega) (w3.heap.size + 1) (by simp) ?_; intro g' cap' w5 hown5 hgrow5 hat5 hlt5; have d0 : w5.cell? ⟨g, 0, none⟩ = some (sv a) := grown_far (w := w3) hgrow5 (K0.out _) hgl hneg2; have d1 : w5.cell? ⟨g, 1, none⟩ = some (sv [120]) := grown_far (w := w3) hgrow5 (K1.out _) hgl hneg2; have HOWN := Lib.hid hown5; have HGR := Lib.hid hgrow5; clear hown5 hgrow5 hat5 hlt5))
                      have HB5 : Below (w.heap.size + 1) (w.alloc (.cells #[.int .i64 0, .int .i64 0] 31)) w5 := by
                        first
                          | exact (HS2.out.alloc (by omega) _).grown HGR.out (by simp; omega) (fun j ej => (hrow2.lt j ej).1)
                          | exact (HS2.out.alloc (by omega) _).drew.grown HGR.out (by simp; omega) (fun j ej => (hrow2.lt j ej).1)
                          | exact (HS2.out.drew.alloc (by show _ ≤ w3.heap.size; omega) _).grown HGR.out (by simp; omega) (fun j ej => (hrow2.lt j ej).1)
                      have HOWN2 : w5.ownsRow (w.heap.size + 1) 46 3 (.slice (some ⟨g', 0, none⟩) (fs.length + 1) cap') (fs ++ [(⟨a, true, tx⟩ : F)]).length (lcells (fs ++ [(⟨a, true, tx⟩ : F)])) := by
                        rw [lcells_app, List.length_append]
                        simpa [lcells] using HOWN.out
                      have HO2 := Lib.hid HOWN2
                      clear HOWN HOWN2 HGR K0 K1 d0 d1 hrow2 c0 c1 c2
                      go_wp2
                      go_roundw
                      case rel => exact ⟨fs ++ [⟨a, true, tx⟩], e + n + 2, by go_num, by omega, HSR2.out, HRA2.out, HO2.out, HB5⟩
                      case measure => simp [intOf]; omega
                    · have HT := Lib.hid (read_stuck (by omega) HRA.out hlt (HI.out.trans (if_neg (by rw [hrn, List.getElem?_eq_getElem hlt2]; simpa using hb10))))
                      have hbyte2 : ¬ (((({ data := s.toArray } : ByteArray)[e + 1 + n]'hsz2).toNat : Int) = 10) := by
                        show ¬ ((s[e + 1 + n]).toNat : Int) = 10
                        intro e'
                        apply hb10
                        apply UInt8.toNat_inj.1
                        have : (10 : UInt8).toNat = 10 := rfl
                        omega
                      have hi2 : (e : Int) + 1 + (n : Int) < (s.length : Int) := by omega
                      clear hb10
                      go_wp2
                      obtain ⟨q0, q1, q2⟩ := slot_set (w := w) (.int .i64 1) (.int .i64 fs.length) t0 t1 tb
                      exact bodyPost_ret (v := .tuple #[.slice none 0 0, .agg #[.int .i64 1, .int .i64 fs.length]]) (by simp [results, Tryz.results13, go_sem, q0, q1]) rfl ⟨⟨_, by rw [HT.out]; rfl, by rw [HT.out]; exact World.ownsRow_nil _ _ _ _⟩, q2⟩
                · by_cases hf : m = [102]
                  · subst hf
                    have HH : Hid (headOf line = some (a, false, n)) := HO.out.trans (by rw [if_pos ⟨by simp, by omega⟩, hn']; simp)
                    clear hn hn' HO hx
                    have HI := Lib.hid (cutFile_head HLC.out HH.out)
                    have hnb := headOf_bound HH.out
                    have hrn : (s.drop (e + 1))[n]? = s[e + 1 + n]? := List.getElem?_drop
                    by_cases hfar : s.length ≤ e + 1 + n
                    · have HT := Lib.hid (read_stuck (by omega) HRA.out hlt (HI.out.trans (if_neg (by rw [hrn, List.getElem?_eq_none hfar]; simp))))
                      have hfar' : (s.length : Int) ≤ (e : Int) + 1 + (n : Int) := by omega
                      go_wp2
                      obtain ⟨q0, q1, q2⟩ := slot_set (w := w) (.int .i64 1) (.int .i64 fs.length) t0 t1 tb
                      exact bodyPost_ret (v := .tuple #[.slice none 0 0, .agg #[.int .i64 1, .int .i64 fs.length]]) (by simp [results, Tryz.results13, go_sem, q0, q1]) rfl ⟨⟨_, by rw [HT.out]; rfl, by rw [HT.out]; exact World.ownsRow_nil _ _ _ _⟩, q2⟩
                    · have hfar' : decide ((s.length : Int) ≤ (e : Int) + 1 + (n : Int)) = false := by simp; omega
                      have hlt2 : e + 1 + n < s.length := by omega
                      have hsz2 : e + 1 + n < ({ data := s.toArray } : ByteArray).size := by simpa [ByteArray.size] using hlt2
                      by_cases hb10 : s[e + 1 + n] = 10
                      · have hbyte2 : ((({ data := s.toArray } : ByteArray)[e + 1 + n]'hsz2).toNat : Int) = 10 := by
                          show ((s[e + 1 + n]).toNat : Int) = 10
                          rw [hb10]; rfl
                        have hi2 : (e : Int) + 1 + (n : Int) < (s.length : Int) := by omega
                        have hc : cutFileL (s.drop k) = some (⟨a, false, (s.drop (e + 1)).take n⟩, s.drop (e + n + 2)) := by
                          rw [HI.out, if_pos (by rw [hrn, List.getElem?_eq_getElem hlt2, hb10]), List.drop_drop]
                          congr 3
                          omega
                        have hne0 : s.drop k ≠ [] := fun h => by have := congrArg List.length h; simp at this; omega
                        have HSR2 : Hid (packL (fs ++ [⟨a, false, (s.drop (e + 1)).take n⟩]) ++ s.drop (e + n + 2) = s) := by
                          show packL (fs ++ [_]) ++ _ = s
                          rw [packL_snoc, List.append_assoc, ← cutFile_some hc]
                          exact HSR.out
                        have HRA2 : Hid (readA s = ((fs ++ [⟨a, false, (s.drop (e + 1)).take n⟩]) ++ (readA (s.drop (e + n + 2))).1, (readA (s.drop (e + n + 2))).2)) := by
                          show readA s = _
                          rw [HRA.out, readA_good hne0 hc]
                          simp
                        have etx : ({ data := s.toArray } : ByteArray).extract (e + 1) (e + 1 + n) = ⟨((s.drop (e + 1)).take n).toArray⟩ := by
                          rw [extract_list]
                          congr 3
                          omega
                        have hneg2 := own_far hrow2 hgh
                        have hwr1 : IntKind.i64.wrap ((e : Int) + 1) = (e : Int) + 1 := by rw [IntKind.wrap_i64]; omega
                        have hwr2 : IntKind.i64.wrap ((e : Int) + 1 + (n : Int)) = (e : Int) + 1 + (n : Int) := by rw [IntKind.wrap_i64]; omega
                        have h00 : (0 : Int) ≤ (e : Int) + 1 := by omega
                        have ht1 : ((e : Int) + 1).toNat = e + 1 := by omega
                        have ht2 : ((e : Int) + 1 + (n : Int)).toNat = e + 1 + n := by omega
                        have hgl : g < w3.heap.size := block_lt_of_cell c0
                        have K0 : Hid (∀ o, (w3.alloc o).cell? ⟨g, 0, none⟩ = some (sv a)) := fun o => (World.cell?_alloc_lt _ _ _ hgl).trans c0
                        have K1 : Hid (∀ o, (w3.alloc o).cell? ⟨g, 1, none⟩ = some (sv [102])) := fun o => (World.cell?_alloc_lt _ _ _ hgl).trans c1
                        have hlo : (e : Int) + 1 ≤ (e : Int) + 1 + (n : Int) := by omega
                        have hup : (e : Int) + 1 + (n : Int) ≤ (s.length : Int) := by omega
                        generalize (s.drop (e + 1)).take n = tx at HSR2 HRA2 etx
                        clear hb10 hc hne0 HI HH hrn
                        go_wp2_with fail
                        go_region_held3 (fun w' => w'.cell? ⟨g, 0, none⟩ = some (sv a) ∧ w'.cell? ⟨g, 1, none⟩ = some (sv [102])) (go_keep)
                          ((refine step_append_lies _ (by rfl) _ _ _ (by rfl) (w.heap.size + 1) 46 i0 (.agg #[.string ⟨#[]⟩, .bool false, .string ⟨#[]⟩]) 3 40 Tryz.underlying22 hi hz0 hz1 hz2 rfl (by decide) _ _ _ (by rfl) (hrow2.alloc _) ⟨w3.heap.size, 0, none⟩ 1 1 (fcells ⟨a, false, tx⟩) (by rfl) rfl (cells_new _ ⟨a, false, tx⟩ _) (by simp [fcells, Value.oneCell']) (by decide) (by unfold maxLen; omega) (by omega) (by simp; omega) (w3.heap.size + 1) (by simp) ?_; intro g' cap' w5 hown5 hgrow5 hat5 hlt5; have d0 : w5.cell? ⟨g, 0, none⟩ = some (sv a) := grown_far (w := w3) hgrow5 (K0.out _) hgl hneg2; have d1 : w5.cell? ⟨g, 1, none⟩ = some (sv [102]) := grown_far (w := w3) hgrow5 (K1.out _) hgl hneg2; have HOWN := Lib.hid hown5; have HGR := Lib.hid hgrow5; clear hown5 hgrow5 hat5 hlt5))
                        have HB5 : Below (w.heap.size + 1) (w.alloc (.cells #[.int .i64 0, .int .i64 0] 31)) w5 := by
                          first
                            | exact (HS2.out.alloc (by omega) _).grown HGR.out (by simp; omega) (fun j ej => (hrow2.lt j ej).1)
                            | exact (HS2.out.alloc (by omega) _).drew.grown HGR.out (by simp; omega) (fun j ej => (hrow2.lt j ej).1)
                            | exact (HS2.out.drew.alloc (by show _ ≤ w3.heap.size; omega) _).grown HGR.out (by simp; omega) (fun j ej => (hrow2.lt j ej).1)
                        have HOWN2 : w5.ownsRow (w.heap.size + 1) 46 3 (.slice (some ⟨g', 0, none⟩) (fs.length + 1) cap') (fs ++ [(⟨a, false, tx⟩ : F)]).length (lcells (fs ++ [(⟨a, false, tx⟩ : F)])) := by
                          rw [lcells_app, List.length_append]
                          simpa [lcells] using HOWN.out
                        have HO2 := Lib.hid HOWN2
                        clear HOWN HOWN2 HGR K0 K1 d0 d1 hrow2 c0 c1 c2
                        go_wp2
                        go_roundw
                        case rel => exact ⟨fs ++ [⟨a, false, tx⟩], e + n + 2, by go_num, by omega, HSR2.out, HRA2.out, HO2.out, HB5⟩
                        case measure => simp [intOf]; omega
                      · have HT := Lib.hid (read_stuck (by omega) HRA.out hlt (HI.out.trans (if_neg (by rw [hrn, List.getElem?_eq_getElem hlt2]; simpa using hb10))))
                        have hbyte2 : ¬ (((({ data := s.toArray } : ByteArray)[e + 1 + n]'hsz2).toNat : Int) = 10) := by
                          show ¬ ((s[e + 1 + n]).toNat : Int) = 10
                          intro e'
                          apply hb10
                          apply UInt8.toNat_inj.1
                          have : (10 : UInt8).toNat = 10 := rfl
                          omega
                        have hi2 : (e : Int) + 1 + (n : Int) < (s.length : Int) := by omega
                        clear hb10
                        go_wp2
                        obtain ⟨q0, q1, q2⟩ := slot_set (w := w) (.int .i64 1) (.int .i64 fs.length) t0 t1 tb
                        exact bodyPost_ret (v := .tuple #[.slice none 0 0, .agg #[.int .i64 1, .int .i64 fs.length]]) (by simp [results, Tryz.results13, go_sem, q0, q1]) rfl ⟨⟨_, by rw [HT.out]; rfl, by rw [HT.out]; exact World.ownsRow_nil _ _ _ _⟩, q2⟩
                  · have HT := Lib.hid (read_stuck (by omega) HRA.out hlt (cutFile_noHead HLC.out (HO.out.trans (if_neg (fun h => h.1.elim hx hf)))))
                    have hx' : (m == [120]) = false := by simpa using hx
                    have hf' : (m == [102]) = false := by simpa using hf
                    clear hn hn' HO hx hf
                    go_wp2
                    obtain ⟨q0, q1, q2⟩ := slot_set (w := w) (.int .i64 1) (.int .i64 fs.length) t0 t1 tb
                    exact bodyPost_ret (v := .tuple #[.slice none 0 0, .agg #[.int .i64 1, .int .i64 fs.length]]) (by simp [results, Tryz.results13, go_sem, q0, q1]) rfl ⟨⟨_, by rw [HT.out]; rfl, by rw [HT.out]; exact World.ownsRow_nil _ _ _ _⟩, q2⟩
            · have HT := Lib.hid (read_stuck (by omega) HRA.out hlt (cutFile_noHead HLC.out (headOf_few h3)))
              obtain ⟨va, vc, rfl⟩ := ownsRow_slice hvrow
              have h3' : ¬ (((piecesBy 32 line).length : Int) = 3) := by omega
              generalize (piecesBy 32 line).length = pn at h3'
              clear hvrow h3
              go_wp2
              obtain ⟨q0, q1, q2⟩ := slot_set (w := w) (.int .i64 1) (.int .i64 fs.length) t0 t1 tb
              exact bodyPost_ret (v := .tuple #[.slice none 0 0, .agg #[.int .i64 1, .int .i64 fs.length]]) (by simp [results, Tryz.results13, go_sem, q0, q1]) rfl ⟨⟨_, by rw [HT.out]; rfl, by rw [HT.out]; exact World.ownsRow_nil _ _ _ _⟩, q2⟩
          · have hbyte : ¬ (((({ data := s.toArray } : ByteArray)[e]'hsz).toNat : Int) = 10) := by
              show ¬ ((s[e]).toNat : Int) = 10
              intro e'
              apply h10
              apply UInt8.toNat_inj.1
              have : (10 : UInt8).toNat = 10 := rfl
              omega
            have HN2 : Hid (10 ∉ (s.drop k).take (e + 1 - k)) := by
              show 10 ∉ _
              rw [take_more hke hel]
              intro h
              rcases List.mem_append.1 h with h | h
              · exact HNO.out h
              · simp at h; exact h10 h.symm
            clear h10
            go_wp2
            go_roundw
            case rel => exact ⟨e + 1, by go_num, by omega, by omega, HN2.out, trivial⟩
            case measure => simp [intOf]; omega
        · obtain rfl : e = s.length := by omega
          have HT := Lib.hid (read_stuck (by omega) HRA.out hlt (cutFile_noLine (line_none rfl HNO.out)))
          have hkl : (k : Int) ≤ (s.length : Int) := by omega
          have hsl : ({ data := s.toArray } : ByteArray).extract k s.length = ⟨(s.drop k).toArray⟩ := by
            rw [extract_list, List.take_of_length_le (by rw [List.length_drop]; omega)]
          have hdl : (s.drop k).length ≤ 90000 := by rw [List.length_drop]; omega
          go_wp2_with fail
          refine (refCutBlank_any (s.drop k) _ hdl).mono ?_
          rintro e w2 ⟨v, rfl, _, hb2⟩
          obtain ⟨t0, t1, y0, y1, tb⟩ := slot_two (more_below HB.out rfl hb2)
          clear hb2
          go_wp2
          obtain ⟨q0, q1, q2⟩ := slot_set (w := w) (.int .i64 1) (.int .i64 fs.length) t0 t1 tb
          exact bodyPost_ret (v := .tuple #[.slice none 0 0, .agg #[.int .i64 1, .int .i64 fs.length]]) (by simp [results, Tryz.results13, go_sem, q0, q1]) rfl ⟨⟨_, by rw [HT.out]; rfl, by rw [HT.out]; exact World.ownsRow_nil _ _ _ _⟩, q2⟩
    · obtain rfl : k = s.length := by omega
      have hfs : readA s = (fs, true) := by
        have := HRA.out
        rw [List.drop_length, readA_nil] at this
        simpa using this
      have HFS := Lib.hid hfs
      obtain ⟨oa, oc, rfl, hol, hoc⟩ := owns_files hrow
      have HOL := Lib.hid hol
      have HSM : Hid (Small fs) := small_pack (by omega)
      clear hfs hol
      go_wp2_with fail
      refine (refTreeFault_any fs oa oc _ HOL.out HSM.out).mono ?_
      rintro e w1 ⟨rfl, hb1⟩
      have HS1 := Lib.hid (more_below HB.out rfl hb1)
      have hrow1 := owns_below hrow hb1
      clear hb1
      obtain ⟨c, i, hci⟩ := fault_nat fs
      by_cases hz : (treeFault fs).1 = 0
      · have hT := readP_fine (s := s) (by omega) (by rw [HFS.out]) (by rw [HFS.out]; exact hz)
        rw [HFS.out] at hT
        have HT := Lib.hid hT
        rw [treeFault_zero hz]
        clear hz hT hci
        go_wp2_with fail
        obtain ⟨W, hW⟩ : ∃ W, W = w1.alloc (.cells #[.int .i64 0, .int .i64 (-1)] 31) := ⟨_, rfl⟩
        have hbW : Below w1.heap.size w1 W := by rw [hW]; exact (Below.refl _ _).alloc (Nat.le_refl _) _
        have HSW := Lib.hid (more_below HS1.out rfl hbW)
        have hrowW := owns_below hrow1 hbW
        obtain ⟨f0, f1, _, _, _⟩ := slot_two (w := w1) (wr := W) (u := .int .i64 0) (v := .int .i64 (-1)) (T := 31) (by rw [hW]; exact Below.refl _ _)
        have hne : w1.heap.size ≠ w.heap.size := by have := HS1.out.size; simp at this; omega
        rw [← hW]
        clear hW hbW HS1 hrow hrow1
        generalize w1.heap.size = fb at f0 f1 hne ⊢
        obtain ⟨t0, t1, y0, y1, tb⟩ := slot_two HSW.out
        go_region
        all_goals go_wp2
        all_goals
          obtain ⟨q0, q1, q2⟩ := slot_set (w := w) (wr := W) (.int .i64 0) (.int .i64 (-1)) t0 t1 tb
          exact bodyPost_ret (v := .tuple #[.slice oa fs.length oc, .agg #[.int .i64 0, .int .i64 (-1)]]) (by simp [results, Tryz.results13, go_sem, q0, q1]) rfl ⟨⟨_, by rw [HT.out] <;> rfl, by rw [HT.out]; exact owns_slot _ _ hrowW⟩, Below.drew q2⟩
      · have hT := readP_fault (s := s) (by omega) (by rw [HFS.out]) (by rw [HFS.out]; exact hz)
        rw [HFS.out, hci] at hT
        have HT := Lib.hid hT
        have hc : 0 < c := by rw [hci] at hz; simp at hz; omega
        have hc' : (0 : Int) < (c : Int) := by omega
        rw [hci]
        clear hz hT hci
        go_wp2_with fail
        obtain ⟨W, hW⟩ : ∃ W, W = w1.alloc (.cells #[.int .i64 c, .int .i64 i] 31) := ⟨_, rfl⟩
        have hbW : Below w1.heap.size w1 W := by rw [hW]; exact (Below.refl _ _).alloc (Nat.le_refl _) _
        have HSW := Lib.hid (more_below HS1.out rfl hbW)
        have hrowW := owns_below hrow1 hbW
        obtain ⟨f0, f1, _, _, _⟩ := slot_two (w := w1) (wr := W) (u := .int .i64 c) (v := .int .i64 i) (T := 31) (by rw [hW]; exact Below.refl _ _)
        have hne : w1.heap.size ≠ w.heap.size := by have := HS1.out.size; simp at this; omega
        rw [← hW]
        clear hW hbW HS1 hrow hrow1
        generalize w1.heap.size = fb at f0 f1 hne ⊢
        obtain ⟨t0, t1, y0, y1, tb⟩ := slot_two HSW.out
        go_region
        all_goals go_wp2
        all_goals
          obtain ⟨q0, q1, q2⟩ := slot_set (w := w) (wr := W) (.int .i64 c) (.int .i64 i) t0 t1 tb
          exact bodyPost_ret (v := .tuple #[.slice none 0 0, .agg #[.int .i64 c, .int .i64 i]]) (by simp [results, Tryz.results13, go_sem, q0, q1]) rfl ⟨⟨_, by rw [HT.out] <;> rfl, by rw [HT.out]; exact World.ownsRow_nil _ _ _ _⟩, Below.drew q2⟩
end Go.Proofs.YtlofpooobabkjaaGreatDoor
/-
  The document's answer's SameTrees: over this seat's translation.
-/
namespace Go.Proofs.YtlofpooobabkjaaGreatDoor
open Go.RowKit Go.Shelf

set_option maxHeartbeats 1000000 in
theorem sameTrees_any (l m : List F) (a b : Option Addr) (ca cb : Nat) (w : World) (hl : LiesAt w a l) (hm : LiesAt w b m) (hll : l.length ≤ 100000) (hml : m.length ≤ 100000) :
    Calls Tryz.prog 14 #[.slice a l.length ca, .slice b m.length cb] w fun e w' => e = .returned (.bool (decide (l = m))) ∧ Below w.heap.size w w' := by
  by_cases hlen : l.length = m.length
  · have HL : Hid (LiesAt w a l) := hl
    have HM : Hid (LiesAt w b m) := hm
    clear hl hm
    have HLEN : Hid (l.length = m.length) := hlen
    rw [← hlen]
    clear hlen
    go_enter Tryz.func14, Tryz.ntmps14
    go_wp2_with fail
    go_loopw [5] (fun i wr => ∃ q : Nat, q ≤ l.length ∧ i = .int .i64 q ∧ l.take q = m.take q ∧ Below w.heap.size w wr) (fun i _ => l.length - (intOf i).toNat)
    case atStart => exact ⟨0, by omega, rfl, by simp, Below.refl _ _⟩
    case round =>
      obtain ⟨q, hq, rfl, ht, hb⟩ := hrel
      have HB : Hid (Below w.heap.size w wr) := hb
      have HT : Hid (l.take q = m.take q) := ht
      clear hb ht
      by_cases hlt : q < l.length
      · have hlt2 : q < m.length := HLEN.out ▸ hlt
        obtain ⟨b1, o1, rfl, c0, c1, c2⟩ := (HL.out.below HB.out).at hlt
        obtain ⟨b2, o2, rfl, d0, d1, d2⟩ := (HM.out.below HB.out).at hlt2
        have hlt' : (q : Int) < (l.length : Int) := by omega
        by_cases he : l[q] = m[q]
        · have hne := file_neq l[q] m[q] true (by simp [he])
          have hg := fun op x y w => run_eqGuard_agg (P := Tryz.prog) w op 46 x y #[sv l[q].p, .bool l[q].r, sv l[q].t] #[sv m[q].p, .bool m[q].r, sv m[q].t] Tryz.guardFile
          have HN : Hid (l.take (q + 1) = m.take (q + 1)) := by
            show l.take (q + 1) = m.take (q + 1)
            rw [List.take_succ_eq_append_getElem hlt, List.take_succ_eq_append_getElem hlt2, HT.out, he]
          clear he
          generalize l[q] = x at hne c0 c1 c2 hg
          generalize m[q] = y at hne d0 d1 d2 hg
          go_wp2_with fail
          go_quiet (fail)
          go_wp2
          go_roundw
          case rel => exact ⟨q + 1, by omega, by go_num, HN.out, below_drewN HB.out _⟩
          case measure => simp [intOf]; omega
        · have hne := file_neq l[q] m[q] false (by simp [he])
          have hg := fun op x y w => run_eqGuard_agg (P := Tryz.prog) w op 46 x y #[sv l[q].p, .bool l[q].r, sv l[q].t] #[sv m[q].p, .bool m[q].r, sv m[q].t] Tryz.guardFile
          have HN : Hid (decide (l = m) = false) := by
            show decide (l = m) = false
            rw [decide_eq_false_iff_not]
            intro e
            subst e
            exact he rfl
          clear he
          generalize l[q] = x at hne c0 c1 c2 hg
          generalize m[q] = y at hne d0 d1 d2 hg
          go_wp2_with fail
          go_quiet (fail)
          go_wp2
          go_ret
          exact ⟨ret_bool HN.out.symm, below_drewN HB.out _⟩
      · have hql : q = l.length := by omega
        have HN : Hid (decide (l = m) = true) := by
          show decide (l = m) = true
          rw [decide_eq_true_iff]
          have := HT.out
          rw [hql, List.take_length, HLEN.out, List.take_length] at this
          exact this
        clear hql
        go_wp2
        go_ret
        exact ⟨ret_bool HN.out.symm, HB.out⟩
  · have HN : Hid (decide (l = m) = false) := by
      show decide (l = m) = false
      rw [decide_eq_false_iff_not]
      intro e
      exact hlen (by rw [e])
    have hlen' : ((l.length : Int) == (m.length : Int)) = false := by simp; omega
    clear hl hm
    go_enter Tryz.func14, Tryz.ntmps14
    go_wp2
    go_ret
    exact ⟨ret_bool HN.out.symm, Below.refl _ _⟩
end Go.Proofs.YtlofpooobabkjaaGreatDoor
