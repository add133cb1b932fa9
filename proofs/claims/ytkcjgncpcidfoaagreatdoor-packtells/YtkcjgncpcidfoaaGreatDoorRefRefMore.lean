/-
  Own texts of the proof, joined by program: Ref, RefMore.
-/
import Derived.Test.YtkcjgncpcidfoaaGreatDoorRefCut
import Derived.Test.YtkcjgncpcidfoaaGreatDoorParts
import Derived.Test.YtkcjgncpcidfoaaGreatDoorRefBegins
/-
  The document's answer for paths tells what the plain functions tell: IsPart, PartsOf, PathError, SameTexts, glue, Begins: contracts, over this seat's translation.
-/
namespace Go.Proofs.YtkcjgncpcidfoaaGreatDoor
open Go.RowKit Go.Shelf

theorem partByte_of {c : UInt8} (h : c.toNat = 45 ∨ c.toNat = 46 ∨ (48 ≤ c.toNat ∧ c.toNat ≤ 57) ∨ c.toNat = 95 ∨ (97 ≤ c.toNat ∧ c.toNat ≤ 122)) : partByte c = true := by
  rw [← partInt_byte]; simp [partInt]; omega
theorem partByte_not {c : UInt8} (h : c.toNat < 45 ∨ c.toNat = 47 ∨ (58 ≤ c.toNat ∧ c.toNat ≤ 94) ∨ c.toNat = 96 ∨ 123 ≤ c.toNat) : partByte c = false := by
  rw [← partInt_byte]; simp [partInt]; omega

set_option maxHeartbeats 4000000 in
theorem refIsPart_any (l : List UInt8) (w : World) (hl : l.length ≤ 100000) : Calls Tryz.prog 64 #[.string ⟨l.toArray⟩] w fun e w' => e = .returned (.bool (isPart l)) ∧ w' = w := by
  go_enter Tryz.func64, Tryz.ntmps64
  go_wp2_with fail
  go_loop [3] (fun i => ∃ k : Nat, k ≤ l.length ∧ i = .int .i64 k ∧ (l.take k).all partByte = true) (fun i => l.length - (intOf i).toNat)
  case atStart => exact ⟨0, by omega, rfl, by simp⟩
  case round =>
    obtain ⟨k, hk, rfl, hall⟩ := hrel
    have HA : Hid ((l.take k).all partByte = true) := hall
    clear hall
    by_cases hlt : k < l.length
    · have hsz : k < ({ data := l.toArray } : ByteArray).size := by simpa [ByteArray.size] using hlt
      have hb255 : ((({ data := l.toArray } : ByteArray)[k]'hsz).toNat : Int) ≤ 255 := by have := (({ data := l.toArray } : ByteArray)[k]'hsz).toNat_lt; omega
      have HY : Hid (partByte l[k] = true → (l.take (k + 1)).all partByte = true) := fun hp => by
        rw [List.take_succ_eq_append_getElem hlt, List.all_append, HA.out]; simp [hp]
      have HN : Hid (partByte l[k] = false → isPart l = false) := fun hp => by
        have : l.all partByte = false := by
          rw [List.all_eq_false]
          exact ⟨l[k], List.getElem_mem hlt, by simp [hp]⟩
        simp [isPart, this]
      have HT : Hid ((({ data := l.toArray } : ByteArray)[k]'hsz).toNat = l[k].toNat) := rfl
      have hc : ((({ data := l.toArray } : ByteArray)[k]'hsz).toNat : Int) < 45 ∨ ((({ data := l.toArray } : ByteArray)[k]'hsz).toNat : Int) = 45 ∨ ((({ data := l.toArray } : ByteArray)[k]'hsz).toNat : Int) = 46 ∨ ((({ data := l.toArray } : ByteArray)[k]'hsz).toNat : Int) = 47
        ∨ (48 ≤ ((({ data := l.toArray } : ByteArray)[k]'hsz).toNat : Int) ∧ ((({ data := l.toArray } : ByteArray)[k]'hsz).toNat : Int) ≤ 57) ∨ (58 ≤ ((({ data := l.toArray } : ByteArray)[k]'hsz).toNat : Int) ∧ ((({ data := l.toArray } : ByteArray)[k]'hsz).toNat : Int) ≤ 94)
        ∨ ((({ data := l.toArray } : ByteArray)[k]'hsz).toNat : Int) = 95 ∨ ((({ data := l.toArray } : ByteArray)[k]'hsz).toNat : Int) = 96 ∨ (97 ≤ ((({ data := l.toArray } : ByteArray)[k]'hsz).toNat : Int) ∧ ((({ data := l.toArray } : ByteArray)[k]'hsz).toNat : Int) ≤ 122) ∨ 123 ≤ ((({ data := l.toArray } : ByteArray)[k]'hsz).toNat : Int) := by omega
      rcases hc with h | h | h | h | ⟨h, h'⟩ | ⟨h, h'⟩ | h | h | ⟨h, h'⟩ | h
      · have HF : Hid (isPart l = false) := HN.out (partByte_not (by have := HT.out; omega))
        have e46 : (((({ data := l.toArray } : ByteArray)[k]'hsz).toNat : Int) == 46) = false := by rw [beq_eq_false_iff_ne]; omega
        have e95 : (((({ data := l.toArray } : ByteArray)[k]'hsz).toNat : Int) == 95) = false := by rw [beq_eq_false_iff_ne]; omega
        have e45 : (((({ data := l.toArray } : ByteArray)[k]'hsz).toNat : Int) == 45) = false := by rw [beq_eq_false_iff_ne]; omega
        have d97 : decide (97 ≤ ((({ data := l.toArray } : ByteArray)[k]'hsz).toNat : Int)) = false := by simp; omega
        have d122 : decide (((({ data := l.toArray } : ByteArray)[k]'hsz).toNat : Int) ≤ 122) = true := by simp; omega
        have d48 : decide (48 ≤ ((({ data := l.toArray } : ByteArray)[k]'hsz).toNat : Int)) = false := by simp; omega
        have d57 : decide (((({ data := l.toArray } : ByteArray)[k]'hsz).toNat : Int) ≤ 57) = true := by simp; omega
        go_wp2
        go_ret
        exact ⟨ret_bool HF.out.symm, rfl⟩
      · have HF : Hid ((l.take (k + 1)).all partByte = true) := HY.out (partByte_of (by have := HT.out; omega))
        have e46 : (((({ data := l.toArray } : ByteArray)[k]'hsz).toNat : Int) == 46) = false := by rw [beq_eq_false_iff_ne]; omega
        have e95 : (((({ data := l.toArray } : ByteArray)[k]'hsz).toNat : Int) == 95) = false := by rw [beq_eq_false_iff_ne]; omega
        have e45 : (((({ data := l.toArray } : ByteArray)[k]'hsz).toNat : Int) == 45) = true := by rw [beq_iff_eq]; omega
        have h1 : 45 ≤ ((({ data := l.toArray } : ByteArray)[k]'hsz).toNat : Int) := by omega
        have h2 : ((({ data := l.toArray } : ByteArray)[k]'hsz).toNat : Int) ≤ 45 := by omega
        clear h
        have d97 : decide (97 ≤ ((({ data := l.toArray } : ByteArray)[k]'hsz).toNat : Int)) = false := by simp; omega
        have d122 : decide (((({ data := l.toArray } : ByteArray)[k]'hsz).toNat : Int) ≤ 122) = true := by simp; omega
        have d48 : decide (48 ≤ ((({ data := l.toArray } : ByteArray)[k]'hsz).toNat : Int)) = false := by simp; omega
        have d57 : decide (((({ data := l.toArray } : ByteArray)[k]'hsz).toNat : Int) ≤ 57) = true := by simp; omega
        go_wp2
        go_round
        case rel => exact ⟨k + 1, by omega, by go_num, HF.out⟩
        case measure => simp [intOf]; omega
      · have HF : Hid ((l.take (k + 1)).all partByte = true) := HY.out (partByte_of (by have := HT.out; omega))
        have e46 : (((({ data := l.toArray } : ByteArray)[k]'hsz).toNat : Int) == 46) = true := by rw [beq_iff_eq]; omega
        have e95 : (((({ data := l.toArray } : ByteArray)[k]'hsz).toNat : Int) == 95) = false := by rw [beq_eq_false_iff_ne]; omega
        have e45 : (((({ data := l.toArray } : ByteArray)[k]'hsz).toNat : Int) == 45) = false := by rw [beq_eq_false_iff_ne]; omega
        have h1 : 46 ≤ ((({ data := l.toArray } : ByteArray)[k]'hsz).toNat : Int) := by omega
        have h2 : ((({ data := l.toArray } : ByteArray)[k]'hsz).toNat : Int) ≤ 46 := by omega
        clear h
        have d97 : decide (97 ≤ ((({ data := l.toArray } : ByteArray)[k]'hsz).toNat : Int)) = false := by simp; omega
        have d122 : decide (((({ data := l.toArray } : ByteArray)[k]'hsz).toNat : Int) ≤ 122) = true := by simp; omega
        have d48 : decide (48 ≤ ((({ data := l.toArray } : ByteArray)[k]'hsz).toNat : Int)) = false := by simp; omega
        have d57 : decide (((({ data := l.toArray } : ByteArray)[k]'hsz).toNat : Int) ≤ 57) = true := by simp; omega
        go_wp2
        go_round
        case rel => exact ⟨k + 1, by omega, by go_num, HF.out⟩
        case measure => simp [intOf]; omega
      · have HF : Hid (isPart l = false) := HN.out (partByte_not (by have := HT.out; omega))
        have e46 : (((({ data := l.toArray } : ByteArray)[k]'hsz).toNat : Int) == 46) = false := by rw [beq_eq_false_iff_ne]; omega
        have e95 : (((({ data := l.toArray } : ByteArray)[k]'hsz).toNat : Int) == 95) = false := by rw [beq_eq_false_iff_ne]; omega
        have e45 : (((({ data := l.toArray } : ByteArray)[k]'hsz).toNat : Int) == 45) = false := by rw [beq_eq_false_iff_ne]; omega
        have h1 : 47 ≤ ((({ data := l.toArray } : ByteArray)[k]'hsz).toNat : Int) := by omega
        have h2 : ((({ data := l.toArray } : ByteArray)[k]'hsz).toNat : Int) ≤ 47 := by omega
        clear h
        have d97 : decide (97 ≤ ((({ data := l.toArray } : ByteArray)[k]'hsz).toNat : Int)) = false := by simp; omega
        have d122 : decide (((({ data := l.toArray } : ByteArray)[k]'hsz).toNat : Int) ≤ 122) = true := by simp; omega
        have d48 : decide (48 ≤ ((({ data := l.toArray } : ByteArray)[k]'hsz).toNat : Int)) = false := by simp; omega
        have d57 : decide (((({ data := l.toArray } : ByteArray)[k]'hsz).toNat : Int) ≤ 57) = true := by simp; omega
        go_wp2
        go_ret
        exact ⟨ret_bool HF.out.symm, rfl⟩
      · have HF : Hid ((l.take (k + 1)).all partByte = true) := HY.out (partByte_of (by have := HT.out; omega))
        have e46 : (((({ data := l.toArray } : ByteArray)[k]'hsz).toNat : Int) == 46) = false := by rw [beq_eq_false_iff_ne]; omega
        have e95 : (((({ data := l.toArray } : ByteArray)[k]'hsz).toNat : Int) == 95) = false := by rw [beq_eq_false_iff_ne]; omega
        have e45 : (((({ data := l.toArray } : ByteArray)[k]'hsz).toNat : Int) == 45) = false := by rw [beq_eq_false_iff_ne]; omega
        have d97 : decide (97 ≤ ((({ data := l.toArray } : ByteArray)[k]'hsz).toNat : Int)) = false := by simp; omega
        have d122 : decide (((({ data := l.toArray } : ByteArray)[k]'hsz).toNat : Int) ≤ 122) = true := by simp; omega
        have d48 : decide (48 ≤ ((({ data := l.toArray } : ByteArray)[k]'hsz).toNat : Int)) = true := by simp; omega
        have d57 : decide (((({ data := l.toArray } : ByteArray)[k]'hsz).toNat : Int) ≤ 57) = true := by simp; omega
        go_wp2
        go_round
        case rel => exact ⟨k + 1, by omega, by go_num, HF.out⟩
        case measure => simp [intOf]; omega
      · have HF : Hid (isPart l = false) := HN.out (partByte_not (by have := HT.out; omega))
        have e46 : (((({ data := l.toArray } : ByteArray)[k]'hsz).toNat : Int) == 46) = false := by rw [beq_eq_false_iff_ne]; omega
        have e95 : (((({ data := l.toArray } : ByteArray)[k]'hsz).toNat : Int) == 95) = false := by rw [beq_eq_false_iff_ne]; omega
        have e45 : (((({ data := l.toArray } : ByteArray)[k]'hsz).toNat : Int) == 45) = false := by rw [beq_eq_false_iff_ne]; omega
        have d97 : decide (97 ≤ ((({ data := l.toArray } : ByteArray)[k]'hsz).toNat : Int)) = false := by simp; omega
        have d122 : decide (((({ data := l.toArray } : ByteArray)[k]'hsz).toNat : Int) ≤ 122) = true := by simp; omega
        have d48 : decide (48 ≤ ((({ data := l.toArray } : ByteArray)[k]'hsz).toNat : Int)) = true := by simp; omega
        have d57 : decide (((({ data := l.toArray } : ByteArray)[k]'hsz).toNat : Int) ≤ 57) = false := by simp; omega
        go_wp2
        go_ret
        exact ⟨ret_bool HF.out.symm, rfl⟩
      · have HF : Hid ((l.take (k + 1)).all partByte = true) := HY.out (partByte_of (by have := HT.out; omega))
        have e46 : (((({ data := l.toArray } : ByteArray)[k]'hsz).toNat : Int) == 46) = false := by rw [beq_eq_false_iff_ne]; omega
        have e95 : (((({ data := l.toArray } : ByteArray)[k]'hsz).toNat : Int) == 95) = true := by rw [beq_iff_eq]; omega
        have e45 : (((({ data := l.toArray } : ByteArray)[k]'hsz).toNat : Int) == 45) = false := by rw [beq_eq_false_iff_ne]; omega
        have h1 : 95 ≤ ((({ data := l.toArray } : ByteArray)[k]'hsz).toNat : Int) := by omega
        have h2 : ((({ data := l.toArray } : ByteArray)[k]'hsz).toNat : Int) ≤ 95 := by omega
        clear h
        have d97 : decide (97 ≤ ((({ data := l.toArray } : ByteArray)[k]'hsz).toNat : Int)) = false := by simp; omega
        have d122 : decide (((({ data := l.toArray } : ByteArray)[k]'hsz).toNat : Int) ≤ 122) = true := by simp; omega
        have d48 : decide (48 ≤ ((({ data := l.toArray } : ByteArray)[k]'hsz).toNat : Int)) = true := by simp; omega
        have d57 : decide (((({ data := l.toArray } : ByteArray)[k]'hsz).toNat : Int) ≤ 57) = false := by simp; omega
        go_wp2
        go_round
        case rel => exact ⟨k + 1, by omega, by go_num, HF.out⟩
        case measure => simp [intOf]; omega
      · have HF : Hid (isPart l = false) := HN.out (partByte_not (by have := HT.out; omega))
        have e46 : (((({ data := l.toArray } : ByteArray)[k]'hsz).toNat : Int) == 46) = false := by rw [beq_eq_false_iff_ne]; omega
        have e95 : (((({ data := l.toArray } : ByteArray)[k]'hsz).toNat : Int) == 95) = false := by rw [beq_eq_false_iff_ne]; omega
        have e45 : (((({ data := l.toArray } : ByteArray)[k]'hsz).toNat : Int) == 45) = false := by rw [beq_eq_false_iff_ne]; omega
        have h1 : 96 ≤ ((({ data := l.toArray } : ByteArray)[k]'hsz).toNat : Int) := by omega
        have h2 : ((({ data := l.toArray } : ByteArray)[k]'hsz).toNat : Int) ≤ 96 := by omega
        clear h
        have d97 : decide (97 ≤ ((({ data := l.toArray } : ByteArray)[k]'hsz).toNat : Int)) = false := by simp; omega
        have d122 : decide (((({ data := l.toArray } : ByteArray)[k]'hsz).toNat : Int) ≤ 122) = true := by simp; omega
        have d48 : decide (48 ≤ ((({ data := l.toArray } : ByteArray)[k]'hsz).toNat : Int)) = true := by simp; omega
        have d57 : decide (((({ data := l.toArray } : ByteArray)[k]'hsz).toNat : Int) ≤ 57) = false := by simp; omega
        go_wp2
        go_ret
        exact ⟨ret_bool HF.out.symm, rfl⟩
      · have HF : Hid ((l.take (k + 1)).all partByte = true) := HY.out (partByte_of (by have := HT.out; omega))
        have e46 : (((({ data := l.toArray } : ByteArray)[k]'hsz).toNat : Int) == 46) = false := by rw [beq_eq_false_iff_ne]; omega
        have e95 : (((({ data := l.toArray } : ByteArray)[k]'hsz).toNat : Int) == 95) = false := by rw [beq_eq_false_iff_ne]; omega
        have e45 : (((({ data := l.toArray } : ByteArray)[k]'hsz).toNat : Int) == 45) = false := by rw [beq_eq_false_iff_ne]; omega
        have d97 : decide (97 ≤ ((({ data := l.toArray } : ByteArray)[k]'hsz).toNat : Int)) = true := by simp; omega
        have d122 : decide (((({ data := l.toArray } : ByteArray)[k]'hsz).toNat : Int) ≤ 122) = true := by simp; omega
        have d48 : decide (48 ≤ ((({ data := l.toArray } : ByteArray)[k]'hsz).toNat : Int)) = true := by simp; omega
        have d57 : decide (((({ data := l.toArray } : ByteArray)[k]'hsz).toNat : Int) ≤ 57) = false := by simp; omega
        go_wp2
        go_round
        case rel => exact ⟨k + 1, by omega, by go_num, HF.out⟩
        case measure => simp [intOf]; omega
      · have HF : Hid (isPart l = false) := HN.out (partByte_not (by have := HT.out; omega))
        have e46 : (((({ data := l.toArray } : ByteArray)[k]'hsz).toNat : Int) == 46) = false := by rw [beq_eq_false_iff_ne]; omega
        have e95 : (((({ data := l.toArray } : ByteArray)[k]'hsz).toNat : Int) == 95) = false := by rw [beq_eq_false_iff_ne]; omega
        have e45 : (((({ data := l.toArray } : ByteArray)[k]'hsz).toNat : Int) == 45) = false := by rw [beq_eq_false_iff_ne]; omega
        have d97 : decide (97 ≤ ((({ data := l.toArray } : ByteArray)[k]'hsz).toNat : Int)) = true := by simp; omega
        have d122 : decide (((({ data := l.toArray } : ByteArray)[k]'hsz).toNat : Int) ≤ 122) = false := by simp; omega
        have d48 : decide (48 ≤ ((({ data := l.toArray } : ByteArray)[k]'hsz).toNat : Int)) = true := by simp; omega
        have d57 : decide (((({ data := l.toArray } : ByteArray)[k]'hsz).toNat : Int) ≤ 57) = false := by simp; omega
        go_wp2
        go_ret
        exact ⟨ret_bool HF.out.symm, rfl⟩
    · have hkl : k = l.length := by omega
      subst hkl
      have HF : Hid (l.all partByte = true) := by have := HA.out; rwa [List.take_length] at this
      clear hlt HA hk
      by_cases h0 : l = []
      · subst h0
        go_wp2
        go_ret
        exact ⟨rfl, rfl⟩
      have hb0 : (1 : Int) ≤ l.length := by
        have : 0 < l.length := List.length_pos_iff.2 h0
        omega
      by_cases h1 : 12 < l.length
      · have HF2 : Hid (isPart l = false) := by show isPart l = false; simp [isPart]; omega
        have hb1 : ¬ (l.length : Int) ≤ 12 := by omega
        clear h0
        go_wp2
        go_ret
        exact ⟨ret_bool HF2.out.symm, rfl⟩
      have hb1 : (l.length : Int) ≤ 12 := by omega
      by_cases h2 : l = [46]
      · subst h2
        go_wp2
        go_ret
        exact ⟨rfl, rfl⟩
      have hb2 : (l == [46]) = false := by simpa using h2
      by_cases h3 : l = [46, 46]
      · subst h3
        go_wp2
        go_ret
        exact ⟨rfl, rfl⟩
      have hb3 : (l == [46, 46]) = false := by simpa using h3
      have HF2 : Hid (isPart l = true) := by
        show isPart l = true
        simp [isPart, h0, h2, h3, HF.out]
        omega
      clear h0 h1 h2 h3
      go_wp2
      go_ret
      exact ⟨ret_bool HF2.out.symm, rfl⟩

theorem refIsPart_is (l : List UInt8) (r : Bool) (w : World) (hl : l.length ≤ 100000) (h : isPart l = r) : Calls Tryz.prog 64 #[.string ⟨l.toArray⟩] w fun e w' => e = .returned (.bool r) ∧ w' = w := by
  have := refIsPart_any l w hl
  rwa [h] at this

theorem pieces_le : ∀ (l : List UInt8), ∀ x ∈ pieces l, x.length ≤ l.length
  | [], x, hx => by simp [pieces] at hx; simp [hx]
  | c :: r, x, hx => by
    have ih := pieces_le r
    unfold pieces at hx
    split at hx
    · rcases List.mem_cons.1 hx with rfl | hx
      · simp
      · have := ih x hx; simp; omega
    · split at hx
      · simp at hx; subst hx; simp
      · rename_i q qs hq
        rcases List.mem_cons.1 hx with rfl | hx
        · have := ih q (by rw [hq]; exact List.mem_cons_self)
          simp; omega
        · have := ih x (by rw [hq]; exact List.mem_cons_of_mem _ hx)
          simp; omega

set_option maxHeartbeats 2000000 in
/-- PartsOf. -/
theorem partsOf_any (s : List UInt8) (w : World) (hs : s.length ≤ 90000) :
    Calls Tryz.prog 46 #[.string ⟨s.toArray⟩] w fun e w' => (∃ v, e = .returned (.tuple #[v, .int .i64 (checkCode s)]) ∧ (checkCode s = 0 → w'.ownsRow w.heap.size 9 1 v (pieces s).length ((pieces s).map sv)) ∧ (checkCode s ≠ 0 → v = .slice none 0 0)) ∧ Below w.heap.size w w' := by
  have hpl := pieces_length s
  have hpn : 1 ≤ (pieces s).length := by
    have := pieces_ne s
    rcases hl : pieces s with _ | ⟨x, r⟩
    · exact absurd hl this
    · simp
  go_enter Tryz.func46, Tryz.ntmps46
  go_wp2_with fail
  refine (refCut_any s _ hs).mono ?_
  rintro e w1 ⟨v, rfl, hrow, hb⟩
  have HB : Hid (Below w.heap.size w w1) := hb
  have HR : Hid (w1.ownsRow w.heap.size 9 1 v (pieces s).length ((pieces s).map sv)) := hrow
  obtain ⟨q, hq⟩ : ∃ q, (pieces s).length = q + 1 := ⟨(pieces s).length - 1, by omega⟩
  have hrow' := hrow
  rw [hq] at hrow'
  obtain ⟨g, cap, rfl⟩ := ownsRow_succ hrow'
  rw [← hq] at hrow
  obtain ⟨hcell, hgl, _, _⟩ := owns_cells hrow rfl
  have HCELL : Hid (∀ j (h : j < (pieces s).length), w1.cell? ⟨g, j, none⟩ = some (.string ⟨((pieces s)[j]).toArray⟩)) := hcell
  rw [← hq] at HR ⊢
  clear hrow hrow' hcell hb hq
  go_wp2_with fail
  go_loop [5] (fun i => ∃ k : Nat, k ≤ (pieces s).length ∧ i = .int .i64 k ∧ ((pieces s).take k).all isPart = true) (fun i => (pieces s).length - (intOf i).toNat)
  case atStart => exact ⟨0, by omega, rfl, by simp⟩
  case round =>
    obtain ⟨k, hk, rfl, hall⟩ := hrel
    have HA : Hid (((pieces s).take k).all isPart = true) := hall
    clear hall
    by_cases hlt : k < (pieces s).length
    · have hc := HCELL.out k hlt
      have hxl := pieces_le s _ (List.getElem_mem hlt)
      by_cases hp : isPart (pieces s)[k] = true
      · have HN : Hid (((pieces s).take (k + 1)).all isPart = true) := by
          show List.all _ _ = true
          rw [List.take_succ_eq_append_getElem hlt, List.all_append, HA.out]; simp [hp]
        have HPI : Hid (isPart (pieces s)[k] = true) := hp
        clear hp
        generalize (pieces s)[k] = x at hc hxl HPI
        go_wp2_with fail
        refine (refIsPart_is x true _ (by omega) HPI.out).mono ?_
        rintro e w2 ⟨rfl, rfl⟩
        go_wp2
        go_round
        case rel => exact ⟨k + 1, by omega, by go_num, HN.out⟩
        case measure => simp [intOf]; omega
      · have hp' : isPart (pieces s)[k] = false := by simpa using hp
        have HC : Hid (checkCode s = 5) := by
          show checkCode s = 5
          have : (pieces s).all isPart = false := by
            rw [List.all_eq_false]
            exact ⟨_, List.getElem_mem hlt, by simp [hp']⟩
          simp [checkCode, this]
        have HPI : Hid (isPart (pieces s)[k] = false) := hp'
        clear hp hp'
        generalize (pieces s)[k] = x at hc hxl HPI
        go_wp2_with fail
        refine (refIsPart_is x false _ (by omega) HPI.out).mono ?_
        rintro e w2 ⟨rfl, rfl⟩
        go_wp2
        go_ret2
        exact ⟨⟨_, by rw [HC.out]; rfl, fun h => absurd (HC.out.symm.trans h) (by decide), fun _ => rfl⟩, HB.out⟩
    · have hkl : k = (pieces s).length := by omega
      have HALL : Hid ((pieces s).all isPart = true) := by
        have := HA.out
        rw [hkl, List.take_length] at this
        exact this
      clear hkl
      by_cases h6 : 6 < (pieces s).length
      · have h6' : (6 : Int) < (pieces s).length := by omega
        have HC : Hid (checkCode s = 8) := by show checkCode s = 8; simp [checkCode, HALL.out, h6]
        go_wp2
        go_ret2
        exact ⟨⟨_, by rw [HC.out]; rfl, fun h => absurd (HC.out.symm.trans h) (by decide), fun _ => rfl⟩, HB.out⟩
      · have h6' : ¬ (6 : Int) < (pieces s).length := by omega
        have HC : Hid (checkCode s = 0) := by show checkCode s = 0; simp [checkCode, HALL.out, h6]
        go_wp2
        go_ret2
        exact ⟨⟨_, by rw [HC.out]; rfl, fun _ => HR.out, fun h => absurd HC.out h⟩, HB.out⟩
end Go.Proofs.YtkcjgncpcidfoaaGreatDoor
/-
  The document's answer for paths, further: PathError, SameTexts, glue, Begins, IsIn, StripOf: contracts, over this seat's translation.
-/
namespace Go.Proofs.YtkcjgncpcidfoaaGreatDoor
open Go.RowKit Go.Shelf

theorem pathError_any (s : List UInt8) (w : World) (hs : s.length ≤ 90000) :
    Calls Tryz.prog 31 #[.string ⟨s.toArray⟩] w fun e w' => e = .returned (.int .i64 (checkCode s)) ∧ Below w.heap.size w w' := by
  go_enter Tryz.func31, Tryz.ntmps31
  go_wp2_with fail
  refine (partsOf_any s _ hs).mono ?_
  rintro e w1 ⟨⟨v, rfl, _, _⟩, hb⟩
  have HB : Hid (Below w.heap.size w w1) := hb
  clear hb
  go_wp2
  go_ret
  exact ⟨rfl, HB.out⟩

theorem join_snoc {k : List (List UInt8)} (x : List UInt8) (h : k ≠ []) : Lib.join (k ++ [x]) [47] = Lib.join k [47] ++ [47] ++ x := by
  rw [join_app h (by simp), Lib.join_one]; simp

set_option maxHeartbeats 1000000 in
theorem refIsIn_any (s dir : List UInt8) (w : World) (hs : s.length ≤ 90000) (hd : dir.length ≤ 90000) :
    Calls Tryz.prog 32 #[.string ⟨s.toArray⟩, .string ⟨dir.toArray⟩] w fun e w' => e = .returned (.bool (isIn s dir)) ∧ Below w.heap.size w w' := by
  by_cases hc : checkCode s = 0
  · have HC : Hid (((checkCode s : Nat) : Int) = 0) := by show ((checkCode s : Nat) : Int) = 0; rw [hc]; rfl
    have HI : Hid (isIn s dir = (dir.isEmpty || Lib.hasPrefix s (dir ++ [47]))) := by
      show isIn s dir = _
      simp [isIn, hc]
    have HPD : Hid (Lib.hasPrefix s (dir ++ [47]) = true → checkCode dir = 0) := fun h => by
      have h' : dir ++ [47] <+: s := by simpa [Lib.hasPrefix] using h
      obtain ⟨r, hr⟩ := h'
      have e : s = dir ++ 47 :: r := by rw [← hr]; simp
      obtain ⟨hp, hl⟩ := checkCode_zero.1 hc
      rw [e, pieces_app] at hp hl
      rw [checkCode_zero]
      exact ⟨fun x hx => hp x (List.mem_append_left _ hx), by rw [List.length_append] at hl; omega⟩
    clear hc
    go_enter Tryz.func32, Tryz.ntmps32
    go_wp2_with fail
    refine (pathError_any s _ hs).mono ?_
    rintro e w1 ⟨rfl, hb⟩
    have HB : Hid (Below w.heap.size w w1) := hb
    clear hb
    rw [HC.out]
    by_cases h0 : dir = []
    · subst h0
      go_wp2
      go_ret
      exact ⟨ret_bool (by rw [HI.out]; rfl), HB.out⟩
    · have hb0 : dir.isEmpty = false := by simpa using h0
      have HI' : Hid (isIn s dir = Lib.hasPrefix s (dir ++ [47])) := by
        show isIn s dir = _
        rw [HI.out, hb0]; simp
      clear h0 HI
      by_cases hcd : checkCode dir = 0
      · have HCD : Hid (((checkCode dir : Nat) : Int) = 0) := by show ((checkCode dir : Nat) : Int) = 0; rw [hcd]; rfl
        clear hcd
        go_wp2_with fail
        refine (pathError_any dir _ hd).mono ?_
        rintro e w2 ⟨rfl, hb2⟩
        have HB2 : Hid (Below w.heap.size w w2) := HB.out.trans (hb2.mono HB.out.size)
        clear hb2
        rw [HCD.out]
        go_wp2_with fail
        rw [show ({ data := dir.toArray } : ByteArray) ++ { data := #[47] } = ⟨(dir ++ [47]).toArray⟩ from by
          rw [show ({ data := #[47] } : ByteArray) = ⟨[47].toArray⟩ from rfl, cat_list]]
        refine (begins_any s (dir ++ [47]) _ (by omega) (by simp; omega)).mono ?_
        rintro e w3 ⟨rfl, rfl⟩
        rw [← HI'.out]
        go_wp2
        go_ret
        exact ⟨rfl, HB2.out⟩
      · have HF : Hid (isIn s dir = false) := by
          show isIn s dir = false
          rw [HI'.out, Bool.eq_false_iff]
          intro h
          exact hcd (HPD.out h)
        have hne : (((checkCode dir : Nat) : Int) == 0) = false := by rw [beq_eq_false_iff_ne]; omega
        clear hcd
        go_wp2_with fail
        refine (pathError_any dir _ hd).mono ?_
        rintro e w2 ⟨rfl, hb2⟩
        have HB2 : Hid (Below w.heap.size w w2) := HB.out.trans (hb2.mono HB.out.size)
        clear hb2
        go_wp2
        go_ret
        exact ⟨ret_bool HF.out.symm, HB2.out⟩
  · have HF : Hid (isIn s dir = false) := by
      show isIn s dir = _
      simp [isIn, hc]
    have hne : (0 : Int) < ((checkCode s : Nat) : Int) := by omega
    clear hc
    go_enter Tryz.func32, Tryz.ntmps32
    go_wp2_with fail
    refine (pathError_any s _ hs).mono ?_
    rintro e w1 ⟨rfl, hb⟩
    have HB : Hid (Below w.heap.size w w1) := hb
    clear hb
    go_wp2
    go_ret
    exact ⟨ret_bool HF.out.symm, HB.out⟩

end Go.Proofs.YtkcjgncpcidfoaaGreatDoor
