/-
  Own texts of the proof, joined by program: RefCut, Parts, Ref, RefBegins, RefMore, RefTree.
-/
import Derived.Test.YtcnejkbbheihiaaGreatDoorClean
import Derived.OwnWalk
import Derived.Test.YtcnejkbbheihiaaGreatDoorPaths
import Derived.Test.YtcnejkbbheihiaaGreatDoorFacts
import Derived.Test.YtcnejkbbheihiaaGreatDoorPart
import Derived.Test.YtcnejkbbheihiaaGreatDoorCut
import Derived.Test.YtcnejkbbheihiaaGreatDoorTreeMemTreeSlots
import Derived.StillTailTactics
/-
  Cut of the document's answer hands back, at a slash, the pieces of the text in new memory: a contract, over this seat's translation.
-/
namespace Go.Proofs.YtcnejkbbheihiaaGreatDoor
open Go.RowKit Go.Shelf

set_option maxRecDepth 100000 in
set_option maxHeartbeats 2000000 in
theorem refCut_any (l : List UInt8) (w : World) (hl : l.length ≤ 90000) :
    Calls Tryz.prog 76 #[.string ⟨l.toArray⟩, .int .u8 47] w fun e w' => ∃ v, e = .returned v ∧ w'.ownsRow w.heap.size 9 1 v (pieces l).length ((pieces l).map sv) ∧ Below w.heap.size w w' := by
  obtain ⟨i0, hi, hz0, hz1, hz2⟩ := info_parts Tryz.info9
  go_enter Tryz.func76, Tryz.ntmps76
  go_wp2_with fail
  go_loopw [5, 6, 7] (fun out fr i wr => ∃ (ps : List (List UInt8)) (f k : Nat), fr = .int .i64 f ∧ i = .int .i64 k ∧ f ≤ k ∧ k ≤ l.length ∧ ps.length ≤ k ∧ pieces l = ps ++ pieces (l.drop f) ∧ 47 ∉ (l.drop f).take (k - f) ∧ wr.ownsRow w.heap.size 9 1 out ps.length (ps.map sv) ∧ Below w.heap.size w wr)
    (fun _ _ i _ => l.length - (intOf i).toNat)
  case atStart => exact ⟨[], 0, 0, rfl, rfl, Nat.le_refl _, Nat.zero_le _, by simp, by simp, by simp, World.ownsRow_nil _ _ _ _, Below.refl _ _⟩
  case round =>
    obtain ⟨ps, f, k, rfl, rfl, hfk, hk, hps, hpc, hno, hrow, hb⟩ := hrel
    have HPC : Hid (pieces l = ps ++ pieces (l.drop f)) := hpc
    have HNO : Hid (47 ∉ (l.drop f).take (k - f)) := hno
    have HB : Hid (Below w.heap.size w wr) := hb
    have hbs := hb.size
    clear hpc hno hb
    by_cases hlt : k < l.length
    · have hsz : k < ({ data := l.toArray } : ByteArray).size := by simpa [ByteArray.size] using hlt
      by_cases h47 : l[k] = 47
      · have hbyte : ((({ data := l.toArray } : ByteArray)[k]'hsz).toNat : Int) = 47 := by
          show ((l[k]).toNat : Int) = 47
          rw [h47]; rfl
        have HD : Hid (l.drop f = (l.drop f).take (k - f) ++ 47 :: l.drop (k + 1)) := drop_cut hfk hlt h47
        clear h47
        go_wp2_with (at_builtin; refine wpList_append_own _ rfl _ _ 134 rfl w.heap.size 9 i0 (.string ⟨#[]⟩) 1 16 Tryz.underlying134 hi hz0 hz1 hz2 rfl (by decide) _ _ _ rfl (hrow.alloc _) ⟨wr.heap.size, 0, none⟩ 1 1 [.string (({ data := l.toArray } : ByteArray).extract f k)] rfl rfl (cell_one_new _ _ _) (by simp [Value.oneCell']) (by unfold maxLen; omega) (by omega) (by simp; omega) ?_; intro v' w1 hown' hgrow _)
        have HB1 : Below w.heap.size w w1 := (HB.out.alloc hbs _).grown hgrow (by simp; omega) (fun j ej => (hrow.lt j ej).1)
        refine ⟨⟨ps ++ [(l.drop f).take (k - f)], k + 1, k + 1, by go_num, by go_num, Nat.le_refl _, by omega, by simp; omega, ?_, by simp, ?_, HB1⟩, by simp [intOf]; omega⟩
        · rw [HPC.out, pieces_some (l := l.drop f) (a := (l.drop f).take (k - f)) (b := l.drop (k + 1)) (by have := cutL_of (l.drop (k + 1)) HNO.out; rwa [← HD.out] at this)]
          simp
        · rw [extract_list] at hown'
          simpa using hown'
      · have hbyte : (((({ data := l.toArray } : ByteArray)[k]'hsz).toNat : Int) == 47) = false := by
          show (((l[k]).toNat : Int) == 47) = false
          rw [beq_eq_false_iff_ne]
          intro e
          apply h47
          apply UInt8.toNat_inj.1
          have : (47 : UInt8).toNat = 47 := rfl
          omega
        have HN2 : Hid (47 ∉ (l.drop f).take (k + 1 - f)) := by
          show 47 ∉ _
          rw [take_more hfk hlt]
          intro h
          rcases List.mem_append.1 h with h | h
          · exact HNO.out h
          · simp at h; exact h47 h.symm
        clear h47
        go_wp2
        go_roundw
        case rel => exact ⟨ps, f, k + 1, rfl, by go_num, by omega, by omega, by omega, HPC.out, HN2.out, hrow, HB.out⟩
        case measure => simp [intOf]; omega
    · have hkl : k = l.length := by omega
      have HPE : Hid (pieces l = ps ++ [l.drop f]) := by
        show pieces l = _
        rw [HPC.out, pieces_none (cutL_no (a := l.drop f) (by have := HNO.out; rwa [List.take_of_length_le (by rw [List.length_drop]; omega)] at this))]
      have hfl : f ≤ l.length := by omega
      clear hkl
      go_wp2_with (at_builtin; refine wpList_append_own _ rfl _ _ 134 rfl w.heap.size 9 i0 (.string ⟨#[]⟩) 1 16 Tryz.underlying134 hi hz0 hz1 hz2 rfl (by decide) _ _ _ rfl (hrow.alloc _) ⟨wr.heap.size, 0, none⟩ 1 1 [.string (({ data := l.toArray } : ByteArray).extract f l.length)] rfl rfl (cell_one_new _ _ _) (by simp [Value.oneCell']) (by unfold maxLen; omega) (by omega) (by simp; omega) ?_; intro v' w1 hown' hgrow _)
      go_ret
      have HB1 : Below w.heap.size w w1 := (HB.out.alloc hbs _).grown hgrow (by simp; omega) (fun j ej => (hrow.lt j ej).1)
      refine ⟨v', rfl, ?_, HB1⟩
      rw [HPE.out]
      rw [extract_list, List.take_of_length_le (by simp)] at hown'
      simpa using hown'
end Go.Proofs.YtcnejkbbheihiaaGreatDoor
/-
  path.Parts and path.Strip tell of every text that is not too long what the plain functions tell: contracts, over this seat's translation.
-/
namespace Go.Proofs.YtcnejkbbheihiaaGreatDoor
open Go.RowKit Go.Shelf

attribute [local go_sem] Oper.semAt_some

/-- What a slice that owns some pieces holds, cell by cell. -/
theorem owns_cells {w : World} {base g cap n : Nat} {k : List (List UInt8)} (hrow : w.ownsRow base 9 1 (.slice (some ⟨g, 0, none⟩) n cap) n (k.map sv)) (hn : n = k.length) :
    (∀ j (h : j < k.length), w.cell? ⟨g, j, none⟩ = some (.string ⟨(k[j]).toArray⟩)) ∧ g < w.heap.size ∧ n ≤ cap ∧ cap ≤ maxLen := by
  refine ⟨fun j h => ?_, (hrow.lt g rfl).2, ?_⟩
  · rw [hrow.cellAt j (by omega), List.getElem?_map, List.getElem?_eq_getElem h]
    rfl
  · rcases hrow.2 with ⟨h, _⟩ | ⟨g', cap', cur, hv', _, _, h1, h2, _⟩
    · cases h
    · cases hv'; exact ⟨h1, h2⟩

end Go.Proofs.YtcnejkbbheihiaaGreatDoor
/-
  The document's answer for paths tells what the plain functions tell: IsPart, PartsOf, PathError, SameTexts, glue, Begins: contracts, over this seat's translation.
-/
namespace Go.Proofs.YtcnejkbbheihiaaGreatDoor
open Go.RowKit Go.Shelf

theorem partByte_of {c : UInt8} (h : c.toNat = 45 ∨ c.toNat = 46 ∨ (48 ≤ c.toNat ∧ c.toNat ≤ 57) ∨ c.toNat = 95 ∨ (97 ≤ c.toNat ∧ c.toNat ≤ 122)) : partByte c = true := by
  rw [← partInt_byte]; simp [partInt]; omega
theorem partByte_not {c : UInt8} (h : c.toNat < 45 ∨ c.toNat = 47 ∨ (58 ≤ c.toNat ∧ c.toNat ≤ 94) ∨ c.toNat = 96 ∨ 123 ≤ c.toNat) : partByte c = false := by
  rw [← partInt_byte]; simp [partInt]; omega

set_option maxHeartbeats 4000000 in
theorem refIsPart_any (l : List UInt8) (w : World) (hl : l.length ≤ 100000) : Calls Tryz.prog 77 #[.string ⟨l.toArray⟩] w fun e w' => e = .returned (.bool (isPart l)) ∧ w' = w := by
  go_enter Tryz.func77, Tryz.ntmps77
  go_wp2_with fail
  go_loop [3] (fun i => ∃ k : Nat, k ≤ l.length ∧ i = .int .i64 k ∧ (l.take k).all partByte = true) (fun i => l.length - (intOf i).toNat)
  case atStart => exact ⟨0, by omega, rfl, by simp⟩
  case round =>
    obtain ⟨k, hk, rfl, hall⟩ := hrel
    have HA : Hid ((l.take k).all partByte = true) := hall
    clear hall
    by_cases hlt : k < l.length
    · have hsz : k < ({ data := l.toArray } : ByteArray).size := by simpa [ByteArray.size] using hlt
      have hb255 : ((({ data := l.toArray } : ByteArray)[k]'hsz).toNat : Int) ≤ 255 := by have := (({ data := l.toArray } : ByteArray)[k]'hsz).toNat_lt; omega
      have HY : Hid (partByte l[k] = true → (l.take (k + 1)).all partByte = true) := fun hp => by
        rw [List.take_succ_eq_append_getElem hlt, List.all_append, HA.out]; simp [hp]
      have HN : Hid (partByte l[k] = false → isPart l = false) := fun hp => by
        have : l.all partByte = false := by
          rw [List.all_eq_false]
          exact ⟨l[k], List.getElem_mem hlt, by simp [hp]⟩
        simp [isPart, this]
      have HT : Hid ((({ data := l.toArray } : ByteArray)[k]'hsz).toNat = l[k].toNat) := rfl
      have hc : ((({ data := l.toArray } : ByteArray)[k]'hsz).toNat : Int) < 45 ∨ ((({ data := l.toArray } : ByteArray)[k]'hsz).toNat : Int) = 45 ∨ ((({ data := l.toArray } : ByteArray)[k]'hsz).toNat : Int) = 46 ∨ ((({ data := l.toArray } : ByteArray)[k]'hsz).toNat : Int) = 47
        ∨ (48 ≤ ((({ data := l.toArray } : ByteArray)[k]'hsz).toNat : Int) ∧ ((({ data := l.toArray } : ByteArray)[k]'hsz).toNat : Int) ≤ 57) ∨ (58 ≤ ((({ data := l.toArray } : ByteArray)[k]'hsz).toNat : Int) ∧ ((({ data := l.toArray } : ByteArray)[k]'hsz).toNat : Int) ≤ 94)
        ∨ ((({ data := l.toArray } : ByteArray)[k]'hsz).toNat : Int) = 95 ∨ ((({ data := l.toArray } : ByteArray)[k]'hsz).toNat : Int) = 96 ∨ (97 ≤ ((({ data := l.toArray } : ByteArray)[k]'hsz).toNat : Int) ∧ ((({ data := l.toArray } : ByteArray)[k]'hsz).toNat : Int) ≤ 122) ∨ 123 ≤ ((({ data := l.toArray } : ByteArray)[k]'hsz).toNat : Int) := by omega
      rcases hc with h | h | h | h | ⟨h, h'⟩ | ⟨h, h'⟩ | h | h | ⟨h, h'⟩ | h
      · have HF : Hid (isPart l = false) := HN.out (partByte_not (by have := HT.out; omega))
        have e46 : (((({ data := l.toArray } : ByteArray)[k]'hsz).toNat : Int) == 46) = false := by rw [beq_eq_false_iff_ne]; omega
        have e95 : (((({ data := l.toArray } : ByteArray)[k]'hsz).toNat : Int) == 95) = false := by rw [beq_eq_false_iff_ne]; omega
        have e45 : (((({ data := l.toArray } : ByteArray)[k]'hsz).toNat : Int) == 45) = false := by rw [beq_eq_false_iff_ne]; omega
        have d97 : decide (97 ≤ ((({ data := l.toArray } : ByteArray)[k]'hsz).toNat : Int)) = false := by simp; omega
        have d122 : decide (((({ data := l.toArray } : ByteArray)[k]'hsz).toNat : Int) ≤ 122) = true := by simp; omega
        have d48 : decide (48 ≤ ((({ data := l.toArray } : ByteArray)[k]'hsz).toNat : Int)) = false := by simp; omega
        have d57 : decide (((({ data := l.toArray } : ByteArray)[k]'hsz).toNat : Int) ≤ 57) = true := by simp; omega
        go_wp2
        go_ret
        exact ⟨ret_bool HF.out.symm, rfl⟩
      · have HF : Hid ((l.take (k + 1)).all partByte = true) := HY.out (partByte_of (by have := HT.out; omega))
        have e46 : (((({ data := l.toArray } : ByteArray)[k]'hsz).toNat : Int) == 46) = false := by rw [beq_eq_false_iff_ne]; omega
        have e95 : (((({ data := l.toArray } : ByteArray)[k]'hsz).toNat : Int) == 95) = false := by rw [beq_eq_false_iff_ne]; omega
        have e45 : (((({ data := l.toArray } : ByteArray)[k]'hsz).toNat : Int) == 45) = true := by rw [beq_iff_eq]; omega
        have h1 : 45 ≤ ((({ data := l.toArray } : ByteArray)[k]'hsz).toNat : Int) := by omega
        have h2 : ((({ data := l.toArray } : ByteArray)[k]'hsz).toNat : Int) ≤ 45 := by omega
        clear h
        have d97 : decide (97 ≤ ((({ data := l.toArray } : ByteArray)[k]'hsz).toNat : Int)) = false := by simp; omega
        have d122 : decide (((({ data := l.toArray } : ByteArray)[k]'hsz).toNat : Int) ≤ 122) = true := by simp; omega
        have d48 : decide (48 ≤ ((({ data := l.toArray } : ByteArray)[k]'hsz).toNat : Int)) = false := by simp; omega
        have d57 : decide (((({ data := l.toArray } : ByteArray)[k]'hsz).toNat : Int) ≤ 57) = true := by simp; omega
        go_wp2
        go_round
        case rel => exact ⟨k + 1, by omega, by go_num, HF.out⟩
        case measure => simp [intOf]; omega
      · have HF : Hid ((l.take (k + 1)).all partByte = true) := HY.out (partByte_of (by have := HT.out; omega))
        have e46 : (((({ data := l.toArray } : ByteArray)[k]'hsz).toNat : Int) == 46) = true := by rw [beq_iff_eq]; omega
        have e95 : (((({ data := l.toArray } : ByteArray)[k]'hsz).toNat : Int) == 95) = false := by rw [beq_eq_false_iff_ne]; omega
        have e45 : (((({ data := l.toArray } : ByteArray)[k]'hsz).toNat : Int) == 45) = false := by rw [beq_eq_false_iff_ne]; omega
        have h1 : 46 ≤ ((({ data := l.toArray } : ByteArray)[k]'hsz).toNat : Int) := by omega
        have h2 : ((({ data := l.toArray } : ByteArray)[k]'hsz).toNat : Int) ≤ 46 := by omega
        clear h
        have d97 : decide (97 ≤ ((({ data := l.toArray } : ByteArray)[k]'hsz).toNat : Int)) = false := by simp; omega
        have d122 : decide (((({ data := l.toArray } : ByteArray)[k]'hsz).toNat : Int) ≤ 122) = true := by simp; omega
        have d48 : decide (48 ≤ ((({ data := l.toArray } : ByteArray)[k]'hsz).toNat : Int)) = false := by simp; omega
        have d57 : decide (((({ data := l.toArray } : ByteArray)[k]'hsz).toNat : Int) ≤ 57) = true := by simp; omega
        go_wp2
        go_round
        case rel => exact ⟨k + 1, by omega, by go_num, HF.out⟩
        case measure => simp [intOf]; omega
      · have HF : Hid (isPart l = false) := HN.out (partByte_not (by have := HT.out; omega))
        have e46 : (((({ data := l.toArray } : ByteArray)[k]'hsz).toNat : Int) == 46) = false := by rw [beq_eq_false_iff_ne]; omega
        have e95 : (((({ data := l.toArray } : ByteArray)[k]'hsz).toNat : Int) == 95) = false := by rw [beq_eq_false_iff_ne]; omega
        have e45 : (((({ data := l.toArray } : ByteArray)[k]'hsz).toNat : Int) == 45) = false := by rw [beq_eq_false_iff_ne]; omega
        have h1 : 47 ≤ ((({ data := l.toArray } : ByteArray)[k]'hsz).toNat : Int) := by omega
        have h2 : ((({ data := l.toArray } : ByteArray)[k]'hsz).toNat : Int) ≤ 47 := by omega
        clear h
        have d97 : decide (97 ≤ ((({ data := l.toArray } : ByteArray)[k]'hsz).toNat : Int)) = false := by simp; omega
        have d122 : decide (((({ data := l.toArray } : ByteArray)[k]'hsz).toNat : Int) ≤ 122) = true := by simp; omega
        have d48 : decide (48 ≤ ((({ data := l.toArray } : ByteArray)[k]'hsz).toNat : Int)) = false := by simp; omega
        have d57 : decide (((({ data := l.toArray } : ByteArray)[k]'hsz).toNat : Int) ≤ 57) = true := by simp; omega
        go_wp2
        go_ret
        exact ⟨ret_bool HF.out.symm, rfl⟩
      · have HF : Hid ((l.take (k + 1)).all partByte = true) := HY.out (partByte_of (by have := HT.out; omega))
        have e46 : (((({ data := l.toArray } : ByteArray)[k]'hsz).toNat : Int) == 46) = false := by rw [beq_eq_false_iff_ne]; omega
        have e95 : (((({ data := l.toArray } : ByteArray)[k]'hsz).toNat : Int) == 95) = false := by rw [beq_eq_false_iff_ne]; omega
        have e45 : (((({ data := l.toArray } : ByteArray)[k]'hsz).toNat : Int) == 45) = false := by rw [beq_eq_false_iff_ne]; omega
        have d97 : decide (97 ≤ ((({ data := l.toArray } : ByteArray)[k]'hsz).toNat : Int)) = false := by simp; omega
        have d122 : decide (((({ data := l.toArray } : ByteArray)[k]'hsz).toNat : Int) ≤ 122) = true := by simp; omega
        have d48 : decide (48 ≤ ((({ data := l.toArray } : ByteArray)[k]'hsz).toNat : Int)) = true := by simp; omega
        have d57 : decide (((({ data := l.toArray } : ByteArray)[k]'hsz).toNat : Int) ≤ 57) = true := by simp; omega
        go_wp2
        go_round
        case rel => exact ⟨k + 1, by omega, by go_num, HF.out⟩
        case measure => simp [intOf]; omega
      · have HF : Hid (isPart l = false) := HN.out (partByte_not (by have := HT.out; omega))
        have e46 : (((({ data := l.toArray } : ByteArray)[k]'hsz).toNat : Int) == 46) = false := by rw [beq_eq_false_iff_ne]; omega
        have e95 : (((({ data := l.toArray } : ByteArray)[k]'hsz).toNat : Int) == 95) = false := by rw [beq_eq_false_iff_ne]; omega
        have e45 : (((({ data := l.toArray } : ByteArray)[k]'hsz).toNat : Int) == 45) = false := by rw [beq_eq_false_iff_ne]; omega
        have d97 : decide (97 ≤ ((({ data := l.toArray } : ByteArray)[k]'hsz).toNat : Int)) = false := by simp; omega
        have d122 : decide (((({ data := l.toArray } : ByteArray)[k]'hsz).toNat : Int) ≤ 122) = true := by simp; omega
        have d48 : decide (48 ≤ ((({ data := l.toArray } : ByteArray)[k]'hsz).toNat : Int)) = true := by simp; omega
        have d57 : decide (((({ data := l.toArray } : ByteArray)[k]'hsz).toNat : Int) ≤ 57) = false := by simp; omega
        go_wp2
        go_ret
        exact ⟨ret_bool HF.out.symm, rfl⟩
      · have HF : Hid ((l.take (k + 1)).all partByte = true) := HY.out (partByte_of (by have := HT.out; omega))
        have e46 : (((({ data := l.toArray } : ByteArray)[k]'hsz).toNat : Int) == 46) = false := by rw [beq_eq_false_iff_ne]; omega
        have e95 : (((({ data := l.toArray } : ByteArray)[k]'hsz).toNat : Int) == 95) = true := by rw [beq_iff_eq]; omega
        have e45 : (((({ data := l.toArray } : ByteArray)[k]'hsz).toNat : Int) == 45) = false := by rw [beq_eq_false_iff_ne]; omega
        have h1 : 95 ≤ ((({ data := l.toArray } : ByteArray)[k]'hsz).toNat : Int) := by omega
        have h2 : ((({ data := l.toArray } : ByteArray)[k]'hsz).toNat : Int) ≤ 95 := by omega
        clear h
        have d97 : decide (97 ≤ ((({ data := l.toArray } : ByteArray)[k]'hsz).toNat : Int)) = false := by simp; omega
        have d122 : decide (((({ data := l.toArray } : ByteArray)[k]'hsz).toNat : Int) ≤ 122) = true := by simp; omega
        have d48 : decide (48 ≤ ((({ data := l.toArray } : ByteArray)[k]'hsz).toNat : Int)) = true := by simp; omega
        have d57 : decide (((({ data := l.toArray } : ByteArray)[k]'hsz).toNat : Int) ≤ 57) = false := by simp; omega
        go_wp2
        go_round
        case rel => exact ⟨k + 1, by omega, by go_num, HF.out⟩
        case measure => simp [intOf]; omega
      · have HF : Hid (isPart l = false) := HN.out (partByte_not (by have := HT.out; omega))
        have e46 : (((({ data := l.toArray } : ByteArray)[k]'hsz).toNat : Int) == 46) = false := by rw [beq_eq_false_iff_ne]; omega
        have e95 : (((({ data := l.toArray } : ByteArray)[k]'hsz).toNat : Int) == 95) = false := by rw [beq_eq_false_iff_ne]; omega
        have e45 : (((({ data := l.toArray } : ByteArray)[k]'hsz).toNat : Int) == 45) = false := by rw [beq_eq_false_iff_ne]; omega
        have h1 : 96 ≤ ((({ data := l.toArray } : ByteArray)[k]'hsz).toNat : Int) := by omega
        have h2 : ((({ data := l.toArray } : ByteArray)[k]'hsz).toNat : Int) ≤ 96 := by omega
        clear h
        have d97 : decide (97 ≤ ((({ data := l.toArray } : ByteArray)[k]'hsz).toNat : Int)) = false := by simp; omega
        have d122 : decide (((({ data := l.toArray } : ByteArray)[k]'hsz).toNat : Int) ≤ 122) = true := by simp; omega
        have d48 : decide (48 ≤ ((({ data := l.toArray } : ByteArray)[k]'hsz).toNat : Int)) = true := by simp; omega
        have d57 : decide (((({ data := l.toArray } : ByteArray)[k]'hsz).toNat : Int) ≤ 57) = false := by simp; omega
        go_wp2
        go_ret
        exact ⟨ret_bool HF.out.symm, rfl⟩
      · have HF : Hid ((l.take (k + 1)).all partByte = true) := HY.out (partByte_of (by have := HT.out; omega))
        have e46 : (((({ data := l.toArray } : ByteArray)[k]'hsz).toNat : Int) == 46) = false := by rw [beq_eq_false_iff_ne]; omega
        have e95 : (((({ data := l.toArray } : ByteArray)[k]'hsz).toNat : Int) == 95) = false := by rw [beq_eq_false_iff_ne]; omega
        have e45 : (((({ data := l.toArray } : ByteArray)[k]'hsz).toNat : Int) == 45) = false := by rw [beq_eq_false_iff_ne]; omega
        have d97 : decide (97 ≤ ((({ data := l.toArray } : ByteArray)[k]'hsz).toNat : Int)) = true := by simp; omega
        have d122 : decide (((({ data := l.toArray } : ByteArray)[k]'hsz).toNat : Int) ≤ 122) = true := by simp; omega
        have d48 : decide (48 ≤ ((({ data := l.toArray } : ByteArray)[k]'hsz).toNat : Int)) = true := by simp; omega
        have d57 : decide (((({ data := l.toArray } : ByteArray)[k]'hsz).toNat : Int) ≤ 57) = false := by simp; omega
        go_wp2
        go_round
        case rel => exact ⟨k + 1, by omega, by go_num, HF.out⟩
        case measure => simp [intOf]; omega
      · have HF : Hid (isPart l = false) := HN.out (partByte_not (by have := HT.out; omega))
        have e46 : (((({ data := l.toArray } : ByteArray)[k]'hsz).toNat : Int) == 46) = false := by rw [beq_eq_false_iff_ne]; omega
        have e95 : (((({ data := l.toArray } : ByteArray)[k]'hsz).toNat : Int) == 95) = false := by rw [beq_eq_false_iff_ne]; omega
        have e45 : (((({ data := l.toArray } : ByteArray)[k]'hsz).toNat : Int) == 45) = false := by rw [beq_eq_false_iff_ne]; omega
        have d97 : decide (97 ≤ ((({ data := l.toArray } : ByteArray)[k]'hsz).toNat : Int)) = true := by simp; omega
        have d122 : decide (((({ data := l.toArray } : ByteArray)[k]'hsz).toNat : Int) ≤ 122) = false := by simp; omega
        have d48 : decide (48 ≤ ((({ data := l.toArray } : ByteArray)[k]'hsz).toNat : Int)) = true := by simp; omega
        have d57 : decide (((({ data := l.toArray } : ByteArray)[k]'hsz).toNat : Int) ≤ 57) = false := by simp; omega
        go_wp2
        go_ret
        exact ⟨ret_bool HF.out.symm, rfl⟩
    · have hkl : k = l.length := by omega
      subst hkl
      have HF : Hid (l.all partByte = true) := by have := HA.out; rwa [List.take_length] at this
      clear hlt HA hk
      by_cases h0 : l = []
      · subst h0
        go_wp2
        go_ret
        exact ⟨rfl, rfl⟩
      have hb0 : (1 : Int) ≤ l.length := by
        have : 0 < l.length := List.length_pos_iff.2 h0
        omega
      by_cases h1 : 12 < l.length
      · have HF2 : Hid (isPart l = false) := by show isPart l = false; simp [isPart]; omega
        have hb1 : ¬ (l.length : Int) ≤ 12 := by omega
        clear h0
        go_wp2
        go_ret
        exact ⟨ret_bool HF2.out.symm, rfl⟩
      have hb1 : (l.length : Int) ≤ 12 := by omega
      by_cases h2 : l = [46]
      · subst h2
        go_wp2
        go_ret
        exact ⟨rfl, rfl⟩
      have hb2 : (l == [46]) = false := by simpa using h2
      by_cases h3 : l = [46, 46]
      · subst h3
        go_wp2
        go_ret
        exact ⟨rfl, rfl⟩
      have hb3 : (l == [46, 46]) = false := by simpa using h3
      have HF2 : Hid (isPart l = true) := by
        show isPart l = true
        simp [isPart, h0, h2, h3, HF.out]
        omega
      clear h0 h1 h2 h3
      go_wp2
      go_ret
      exact ⟨ret_bool HF2.out.symm, rfl⟩

theorem refIsPart_is (l : List UInt8) (r : Bool) (w : World) (hl : l.length ≤ 100000) (h : isPart l = r) : Calls Tryz.prog 77 #[.string ⟨l.toArray⟩] w fun e w' => e = .returned (.bool r) ∧ w' = w := by
  have := refIsPart_any l w hl
  rwa [h] at this

theorem pieces_le : ∀ (l : List UInt8), ∀ x ∈ pieces l, x.length ≤ l.length
  | [], x, hx => by simp [pieces] at hx; simp [hx]
  | c :: r, x, hx => by
    have ih := pieces_le r
    unfold pieces at hx
    split at hx
    · rcases List.mem_cons.1 hx with rfl | hx
      · simp
      · have := ih x hx; simp; omega
    · split at hx
      · simp at hx; subst hx; simp
      · rename_i q qs hq
        rcases List.mem_cons.1 hx with rfl | hx
        · have := ih q (by rw [hq]; exact List.mem_cons_self)
          simp; omega
        · have := ih x (by rw [hq]; exact List.mem_cons_of_mem _ hx)
          simp; omega

set_option maxHeartbeats 2000000 in
/-- PartsOf. -/
theorem partsOf_any (s : List UInt8) (w : World) (hs : s.length ≤ 90000) :
    Calls Tryz.prog 68 #[.string ⟨s.toArray⟩] w fun e w' => (∃ v, e = .returned (.tuple #[v, .int .i64 (checkCode s)]) ∧ (checkCode s = 0 → w'.ownsRow w.heap.size 9 1 v (pieces s).length ((pieces s).map sv)) ∧ (checkCode s ≠ 0 → v = .slice none 0 0)) ∧ Below w.heap.size w w' := by
  have hpl := pieces_length s
  have hpn : 1 ≤ (pieces s).length := by
    have := pieces_ne s
    rcases hl : pieces s with _ | ⟨x, r⟩
    · exact absurd hl this
    · simp
  go_enter Tryz.func68, Tryz.ntmps68
  go_wp2_with fail
  refine (refCut_any s _ hs).mono ?_
  rintro e w1 ⟨v, rfl, hrow, hb⟩
  have HB : Hid (Below w.heap.size w w1) := hb
  have HR : Hid (w1.ownsRow w.heap.size 9 1 v (pieces s).length ((pieces s).map sv)) := hrow
  obtain ⟨q, hq⟩ : ∃ q, (pieces s).length = q + 1 := ⟨(pieces s).length - 1, by omega⟩
  have hrow' := hrow
  rw [hq] at hrow'
  obtain ⟨g, cap, rfl⟩ := ownsRow_succ hrow'
  rw [← hq] at hrow
  obtain ⟨hcell, hgl, _, _⟩ := owns_cells hrow rfl
  have HCELL : Hid (∀ j (h : j < (pieces s).length), w1.cell? ⟨g, j, none⟩ = some (.string ⟨((pieces s)[j]).toArray⟩)) := hcell
  rw [← hq] at HR ⊢
  clear hrow hrow' hcell hb hq
  go_wp2_with fail
  go_loop [5] (fun i => ∃ k : Nat, k ≤ (pieces s).length ∧ i = .int .i64 k ∧ ((pieces s).take k).all isPart = true) (fun i => (pieces s).length - (intOf i).toNat)
  case atStart => exact ⟨0, by omega, rfl, by simp⟩
  case round =>
    obtain ⟨k, hk, rfl, hall⟩ := hrel
    have HA : Hid (((pieces s).take k).all isPart = true) := hall
    clear hall
    by_cases hlt : k < (pieces s).length
    · have hc := HCELL.out k hlt
      have hxl := pieces_le s _ (List.getElem_mem hlt)
      by_cases hp : isPart (pieces s)[k] = true
      · have HN : Hid (((pieces s).take (k + 1)).all isPart = true) := by
          show List.all _ _ = true
          rw [List.take_succ_eq_append_getElem hlt, List.all_append, HA.out]; simp [hp]
        have HPI : Hid (isPart (pieces s)[k] = true) := hp
        clear hp
        generalize (pieces s)[k] = x at hc hxl HPI
        go_wp2_with fail
        refine (refIsPart_is x true _ (by omega) HPI.out).mono ?_
        rintro e w2 ⟨rfl, rfl⟩
        go_wp2
        go_round
        case rel => exact ⟨k + 1, by omega, by go_num, HN.out⟩
        case measure => simp [intOf]; omega
      · have hp' : isPart (pieces s)[k] = false := by simpa using hp
        have HC : Hid (checkCode s = 5) := by
          show checkCode s = 5
          have : (pieces s).all isPart = false := by
            rw [List.all_eq_false]
            exact ⟨_, List.getElem_mem hlt, by simp [hp']⟩
          simp [checkCode, this]
        have HPI : Hid (isPart (pieces s)[k] = false) := hp'
        clear hp hp'
        generalize (pieces s)[k] = x at hc hxl HPI
        go_wp2_with fail
        refine (refIsPart_is x false _ (by omega) HPI.out).mono ?_
        rintro e w2 ⟨rfl, rfl⟩
        go_wp2
        go_ret2
        exact ⟨⟨_, by rw [HC.out]; rfl, fun h => absurd (HC.out.symm.trans h) (by decide), fun _ => rfl⟩, HB.out⟩
    · have hkl : k = (pieces s).length := by omega
      have HALL : Hid ((pieces s).all isPart = true) := by
        have := HA.out
        rw [hkl, List.take_length] at this
        exact this
      clear hkl
      by_cases h6 : 6 < (pieces s).length
      · have h6' : (6 : Int) < (pieces s).length := by omega
        have HC : Hid (checkCode s = 8) := by show checkCode s = 8; simp [checkCode, HALL.out, h6]
        go_wp2
        go_ret2
        exact ⟨⟨_, by rw [HC.out]; rfl, fun h => absurd (HC.out.symm.trans h) (by decide), fun _ => rfl⟩, HB.out⟩
      · have h6' : ¬ (6 : Int) < (pieces s).length := by omega
        have HC : Hid (checkCode s = 0) := by show checkCode s = 0; simp [checkCode, HALL.out, h6]
        go_wp2
        go_ret2
        exact ⟨⟨_, by rw [HC.out]; rfl, fun _ => HR.out, fun h => absurd HC.out h⟩, HB.out⟩
end Go.Proofs.YtcnejkbbheihiaaGreatDoor
/-
  The document's answer's Begins: over this seat's translation.
-/
namespace Go.Proofs.YtcnejkbbheihiaaGreatDoor
open Go.RowKit Go.Shelf

theorem begins_any (s q : List UInt8) (w : World) (_hs : s.length ≤ 200000) (_hq : q.length ≤ 200000) : Calls Tryz.prog 69 #[.string ⟨s.toArray⟩, .string ⟨q.toArray⟩] w fun e w' => e = .returned (.bool (Lib.hasPrefix s q)) ∧ w' = w := by
  by_cases h : s.length < q.length
  · have h' : (s.length : Int) < q.length := by omega
    have HF : Hid (Lib.hasPrefix s q = false) := by
      show Lib.hasPrefix s q = false
      rw [Bool.eq_false_iff]
      intro e
      have e' : q <+: s := by simpa [Lib.hasPrefix] using e
      have := e'.length_le
      omega
    go_enter Tryz.func69, Tryz.ntmps69
    go_wp2
    go_ret
    exact ⟨ret_bool HF.out.symm, rfl⟩
  · have h' : ¬ (s.length : Int) < q.length := by omega
    have h2 : q.length ≤ s.length := by omega
    clear h
    go_enter Tryz.func69, Tryz.ntmps69
    go_wp2
    go_ret
    refine ⟨ret_bool ?_, rfl⟩
    rw [extract_list, Lib.toList_data, Bool.eq_iff_iff]
    simp [Lib.hasPrefix]
    rw [List.prefix_iff_eq_take]
    exact eq_comm
end Go.Proofs.YtcnejkbbheihiaaGreatDoor
/-
  The document's answer for paths, further: PathError, SameTexts, glue, Begins, IsIn, StripOf: contracts, over this seat's translation.
-/
namespace Go.Proofs.YtcnejkbbheihiaaGreatDoor
open Go.RowKit Go.Shelf

theorem pathError_any (s : List UInt8) (w : World) (hs : s.length ≤ 90000) :
    Calls Tryz.prog 56 #[.string ⟨s.toArray⟩] w fun e w' => e = .returned (.int .i64 (checkCode s)) ∧ Below w.heap.size w w' := by
  go_enter Tryz.func56, Tryz.ntmps56
  go_wp2_with fail
  refine (partsOf_any s _ hs).mono ?_
  rintro e w1 ⟨⟨v, rfl, _, _⟩, hb⟩
  have HB : Hid (Below w.heap.size w w1) := hb
  clear hb
  go_wp2
  go_ret
  exact ⟨rfl, HB.out⟩

theorem join_snoc {k : List (List UInt8)} (x : List UInt8) (h : k ≠ []) : Lib.join (k ++ [x]) [47] = Lib.join k [47] ++ [47] ++ x := by
  rw [join_app h (by simp), Lib.join_one]; simp

set_option maxHeartbeats 1000000 in
theorem refIsIn_any (s dir : List UInt8) (w : World) (hs : s.length ≤ 90000) (hd : dir.length ≤ 90000) :
    Calls Tryz.prog 57 #[.string ⟨s.toArray⟩, .string ⟨dir.toArray⟩] w fun e w' => e = .returned (.bool (isIn s dir)) ∧ Below w.heap.size w w' := by
  by_cases hc : checkCode s = 0
  · have HC : Hid (((checkCode s : Nat) : Int) = 0) := by show ((checkCode s : Nat) : Int) = 0; rw [hc]; rfl
    have HI : Hid (isIn s dir = (dir.isEmpty || Lib.hasPrefix s (dir ++ [47]))) := by
      show isIn s dir = _
      simp [isIn, hc]
    have HPD : Hid (Lib.hasPrefix s (dir ++ [47]) = true → checkCode dir = 0) := fun h => by
      have h' : dir ++ [47] <+: s := by simpa [Lib.hasPrefix] using h
      obtain ⟨r, hr⟩ := h'
      have e : s = dir ++ 47 :: r := by rw [← hr]; simp
      obtain ⟨hp, hl⟩ := checkCode_zero.1 hc
      rw [e, pieces_app] at hp hl
      rw [checkCode_zero]
      exact ⟨fun x hx => hp x (List.mem_append_left _ hx), by rw [List.length_append] at hl; omega⟩
    clear hc
    go_enter Tryz.func57, Tryz.ntmps57
    go_wp2_with fail
    refine (pathError_any s _ hs).mono ?_
    rintro e w1 ⟨rfl, hb⟩
    have HB : Hid (Below w.heap.size w w1) := hb
    clear hb
    rw [HC.out]
    by_cases h0 : dir = []
    · subst h0
      go_wp2
      go_ret
      exact ⟨ret_bool (by rw [HI.out]; rfl), HB.out⟩
    · have hb0 : dir.isEmpty = false := by simpa using h0
      have HI' : Hid (isIn s dir = Lib.hasPrefix s (dir ++ [47])) := by
        show isIn s dir = _
        rw [HI.out, hb0]; simp
      clear h0 HI
      by_cases hcd : checkCode dir = 0
      · have HCD : Hid (((checkCode dir : Nat) : Int) = 0) := by show ((checkCode dir : Nat) : Int) = 0; rw [hcd]; rfl
        clear hcd
        go_wp2_with fail
        refine (pathError_any dir _ hd).mono ?_
        rintro e w2 ⟨rfl, hb2⟩
        have HB2 : Hid (Below w.heap.size w w2) := HB.out.trans (hb2.mono HB.out.size)
        clear hb2
        rw [HCD.out]
        go_wp2_with fail
        rw [show ({ data := dir.toArray } : ByteArray) ++ { data := #[47] } = ⟨(dir ++ [47]).toArray⟩ from by
          rw [show ({ data := #[47] } : ByteArray) = ⟨[47].toArray⟩ from rfl, cat_list]]
        refine (begins_any s (dir ++ [47]) _ (by omega) (by simp; omega)).mono ?_
        rintro e w3 ⟨rfl, rfl⟩
        rw [← HI'.out]
        go_wp2
        go_ret
        exact ⟨rfl, HB2.out⟩
      · have HF : Hid (isIn s dir = false) := by
          show isIn s dir = false
          rw [HI'.out, Bool.eq_false_iff]
          intro h
          exact hcd (HPD.out h)
        have hne : (((checkCode dir : Nat) : Int) == 0) = false := by rw [beq_eq_false_iff_ne]; omega
        clear hcd
        go_wp2_with fail
        refine (pathError_any dir _ hd).mono ?_
        rintro e w2 ⟨rfl, hb2⟩
        have HB2 : Hid (Below w.heap.size w w2) := HB.out.trans (hb2.mono HB.out.size)
        clear hb2
        go_wp2
        go_ret
        exact ⟨ret_bool HF.out.symm, HB2.out⟩
  · have HF : Hid (isIn s dir = false) := by
      show isIn s dir = _
      simp [isIn, hc]
    have hne : (0 : Int) < ((checkCode s : Nat) : Int) := by omega
    clear hc
    go_enter Tryz.func57, Tryz.ntmps57
    go_wp2_with fail
    refine (pathError_any s _ hs).mono ?_
    rintro e w1 ⟨rfl, hb⟩
    have HB : Hid (Below w.heap.size w w1) := hb
    clear hb
    go_wp2
    go_ret
    exact ⟨ret_bool HF.out.symm, HB.out⟩

end Go.Proofs.YtcnejkbbheihiaaGreatDoor
/-
  The document's answer for trees: TreeFault: over this seat's translation.
-/
namespace Go.Proofs.YtcnejkbbheihiaaGreatDoor
open Go.RowKit Go.Shelf

theorem bare_any (c : Int) (w : World) : Calls Tryz.prog 28 #[.int .i64 c] w fun e w' => e = .returned (.agg #[.int .i64 c, .int .i64 (-1)]) ∧ Below w.heap.size w w' := by
  go_enter Tryz.func28, Tryz.ntmps28
  go_wp2
  exact bodyPost_ret (v := .agg #[.int .i64 c, .int .i64 (-1)]) (by simp [results, Tryz.results28, go_sem]) rfl ⟨rfl, (Below.refl _ _).alloc (Nat.le_refl _) _⟩

theorem fine_any (w : World) : Calls Tryz.prog 58 #[] w fun e w' => e = .returned (.agg #[.int .i64 0, .int .i64 (-1)]) ∧ Below w.heap.size w w' := by
  go_enter Tryz.func58, Tryz.ntmps58
  go_wp2
  exact bodyPost_ret (v := .agg #[.int .i64 0, .int .i64 (-1)]) (by simp [results, Tryz.results58, go_sem]) rfl ⟨rfl, (Below.refl _ _).alloc (Nat.le_refl _) _⟩

/-- The code of a file but for those that it is in. -/
def ownCode (pre : List F) (f : F) : Nat :=
  if checkCode f.p ≠ 0 then checkCode f.p
  else if 4000 < f.t.length then 2
  else if pre ≠ [] ∧ less ((pre.getLast?.map (·.p)).getD []) f.p = false then 9
  else 0

theorem pathError_is (s : List UInt8) (c : Int) (w : World) (hs : s.length ≤ 90000) (h : (checkCode s : Int) = c) :
    Calls Tryz.prog 56 #[.string ⟨s.toArray⟩] w fun e w' => e = .returned (.int .i64 c) ∧ Below w.heap.size w w' := by
  have := pathError_any s w hs
  rwa [h] at this

theorem refIsIn_is (s dir : List UInt8) (r : Bool) (w : World) (hs : s.length ≤ 90000) (hd : dir.length ≤ 90000) (h : isIn s dir = r) :
    Calls Tryz.prog 57 #[.string ⟨s.toArray⟩, .string ⟨dir.toArray⟩] w fun e w' => e = .returned (.bool r) ∧ Below w.heap.size w w' := by
  have := refIsIn_any s dir w hs hd
  rwa [h] at this

set_option maxRecDepth 100000 in
set_option maxHeartbeats 4000000 in
theorem refTreeFault_any (l : List F) (a : Option Addr) (ca : Nat) (w : World) (hl : LiesAt w a l) (hs : Small l) :
    Calls Tryz.prog 45 #[.slice a l.length ca] w fun e w' => e = .returned (.agg #[.int .i64 (treeFault l).1, .int .i64 (treeFault l).2]) ∧ Below w.heap.size w w' := by
  have hfew := hs.few
  by_cases hlong : 30 < l.length
  · have HT : Hid (treeFault l = (8, -1)) := treeFault_long hlong
    have h30 : (30 : Int) < (l.length : Int) := by omega
    clear hl
    go_enter Tryz.func45, Tryz.ntmps45
    go_wp2_with fail
    refine (bare_any 8 _).mono ?_
    rintro e w1 ⟨rfl, hb⟩
    have hb' : Below (w.heap.size + 1) (w.alloc (.cells #[.int .i64 0, .int .i64 0] 38)) w1 := hb.mono (by simp)
    obtain ⟨s0, s1, s2, s3, s4⟩ := slot_two hb'
    clear hb hb'
    go_wp2
    obtain ⟨q0, q1, q2⟩ := slot_set (w := w) (.int .i64 8) (.int .i64 (-1)) s0 s1 s4
    exact bodyPost_ret (v := .agg #[.int .i64 8, .int .i64 (-1)]) (by simp [results, Tryz.results45, go_sem, q0, q1]) rfl ⟨by rw [HT.out]; rfl, q2⟩
  · have h30 : ¬ (30 : Int) < (l.length : Int) := by omega
    have HL : Hid (LiesAt w a l) := hl
    have HPATH : Hid (∀ f ∈ l, f.p.length ≤ 40000) := hs.path
    have HTEXT : Hid (∀ f ∈ l, f.t.length ≤ 500000) := hs.text
    clear hl hs
    go_enter Tryz.func45, Tryz.ntmps45
    go_wp2_with fail
    have hmx : Tryz.prog.follows .mixedOrders = true := by kernel_rfl
    go_loopw [3, 4] (fun al i wr => ∃ q : Nat, q ≤ l.length ∧ i = .int .i64 q ∧ al = .int .i64 (total (l.take q)) ∧ (∀ j (h : j < l.length), j < q → fileCode (l.take j) l[j] = 0) ∧ Below (w.heap.size + 1) (w.alloc (.cells #[.int .i64 0, .int .i64 0] 38)) wr) (fun _ i _ => l.length - (intOf i).toNat)
    case atStart => exact ⟨0, by omega, rfl, by simp [total], fun _ _ h => by omega, Below.refl _ _⟩
    case round =>
      obtain ⟨q, hq, rfl, rfl, hz, hb⟩ := hrel
      have HB : Hid (Below (w.heap.size + 1) (w.alloc (.cells #[.int .i64 0, .int .i64 0] 38)) wr) := hb
      have HZ : Hid (∀ j (h : j < l.length), j < q → fileCode (l.take j) l[j] = 0) := hz
      clear hb hz
      by_cases hlt : q < l.length
      · have hlt' : (q : Int) < (l.length : Int) := by omega
        obtain ⟨b, o, rfl, c0, c1, c2⟩ := (HL.out.below (slot_two HB.out).2.2.2.2).at hlt
        have hpl := HPATH.out _ (List.getElem_mem hlt)
        have htl := HTEXT.out _ (List.getElem_mem hlt)
        by_cases hc : checkCode l[q].p = 0
        · by_cases ht : 4000 < l[q].t.length
          · have HF : Hid (treeFault l = (2, (q : Int))) := by
              have e : fileCode (l.take q) l[q] = 2 := by simp [fileCode, hc, ht]
              have := treeFault_at (l := l) (by omega) hlt HZ.out (by rw [e]; decide)
              rwa [e] at this
            have ht' : (4000 : Int) < (l[q].t.length : Int) := by omega
            have HC : Hid ((checkCode l[q].p : Int) = 0) := by show (checkCode l[q].p : Int) = 0; rw [hc]; rfl
            clear hc ht
            generalize l[q] = f at c0 c1 c2 hpl htl HF HC ht'
            go_wp2_with fail
            refine (pathError_is f.p 0 _ (by omega) HC.out).mono ?_
            rintro e w1 ⟨rfl, hb1⟩
            have HB1 := more_below HB.out rfl hb1
            have d2 : w1.cell? ⟨b, o + q * 3 + 2, none⟩ = some (sv f.t) := (hb1.cell (p := ⟨b, o + q * 3 + 2, none⟩) (block_lt_of_cell c2)).trans c2
            have d0 : w1.cell? ⟨b, o + q * 3, none⟩ = some (sv f.p) := (hb1.cell (p := ⟨b, o + q * 3, none⟩) (block_lt_of_cell c0)).trans c0
            have HB1' : Hid (Below (w.heap.size + 1) (w.alloc (.cells #[.int .i64 0, .int .i64 0] 38)) w1) := HB1
            obtain ⟨s0, s1, s2, s3, s4⟩ := slot_two HB1
            clear hb1 HB1
            go_wp2_with fail
            refine wp_loop_rounds 1 ?_
            rw [rounds_succ]
            go_wp2
            all_goals
              obtain ⟨q0, q1, q2⟩ := slot_set (w := w) (.int .i64 2) (.int .i64 q) s0 s1 s4
              exact bodyPost_ret (v := .agg #[.int .i64 2, .int .i64 q]) (by simp [results, Tryz.results45, go_sem, q0, q1]) rfl ⟨by rw [HF.out]; rfl, q2⟩
          · have ht' : ¬ (4000 : Int) < (l[q].t.length : Int) := by omega
            have HC : Hid ((checkCode l[q].p : Int) = 0) := by show (checkCode l[q].p : Int) = 0; rw [hc]; rfl
            rcases q with _ | r
            · have HNEXT : Hid (∀ j (h : j < l.length), j < 0 + 1 → fileCode (l.take j) l[j] = 0) := by
                intro j hj hjr
                obtain rfl : j = 0 := by omega
                exact fileCode_zero.2 ⟨⟨hc, by omega⟩, .inl (by simp), by simp⟩
              have HSUM : Hid (total (l.take (0 + 1)) = total (l.take 0) + l[0].t.length) := total_succ hlt
              have h00 : total (l.take 0) = 0 := by simp [total]
              clear hc ht
              generalize l[0] = f at c0 c1 c2 hpl htl HC ht' HSUM
              rw [Nat.zero_mul, Nat.add_zero] at c0 c1 c2
              go_wp2_with fail
              refine (pathError_is f.p 0 _ (by omega) HC.out).mono ?_
              rintro e w1 ⟨rfl, hb1⟩
              have d2 : w1.cell? ⟨b, o + 2, none⟩ = some (sv f.t) := (hb1.cell (p := ⟨b, o + 2, none⟩) (block_lt_of_cell c2)).trans c2
              have HB1 : Hid (Below (w.heap.size + 1) (w.alloc (.cells #[.int .i64 0, .int .i64 0] 38)) w1) := more_below HB.out rfl hb1
              clear hb1
              go_wp2_with fail
              refine wp_loop_rounds 1 ?_
              rw [rounds_succ]
              go_wp2
              go_roundw
              case rel => exact ⟨0 + 1, by omega, by go_num, by rw [HSUM.out, h00, Nat.zero_add]; show Value.int .i64 (wrap64 ((0 : Int) + (f.t.length : Int))) = _; rw [Int.zero_add, show wrap64 (f.t.length : Int) = f.t.length by unfold wrap64; omega], HNEXT.out, HB1.out⟩
              case measure => simp [intOf]; omega
            · obtain ⟨b', o', e', g0, g1, g2⟩ := (HL.out.below (slot_two HB.out).2.2.2.2).at (k := r) (by omega)
              cases e'
              have hgl := HPATH.out _ (List.getElem_mem (n := r) (by omega))
              have hlast : (l.take (r + 1)).getLast? = some (l[r]'(by omega)) := by
                rw [List.getLast?_eq_getElem?, List.length_take, Nat.min_eq_left (by omega), List.getElem?_take_of_lt (by omega)]
                exact List.getElem?_eq_getElem (by omega)
              by_cases ho : less (l[r]'(by omega)).p l[r + 1].p = false
              · have HF : Hid (treeFault l = (9, ((r + 1 : Nat) : Int))) := by
                  have e : fileCode (l.take (r + 1)) l[r + 1] = 9 := by
                    have hne : l.take (r + 1) ≠ [] := fun e => by rw [e] at hlast; simp at hlast
                    unfold fileCode
                    rw [if_neg (by simp [hc]), if_neg ht, if_pos ⟨hne, by rw [hlast]; exact ho⟩]
                  have := treeFault_at (l := l) (by omega) hlt HZ.out (by rw [e]; decide)
                  rwa [e] at this
                have hle : (Op.bytesLess l[r + 1].p (l[r]'(by omega)).p || l[r + 1].p == (l[r]'(by omega)).p) = true := by
                  cases h : Op.bytesLess l[r + 1].p (l[r]'(by omega)).p with
                  | true => rfl
                  | false => simp [less_total h ho]
                clear hc ht ho hlast
                generalize l[r + 1] = f at c0 c1 c2 hpl htl HF HC ht' hle
                generalize (l[r]'(by omega)) = g at g0 g1 g2 hgl hle
                have h0r : (0 : Int) < (r : Int) + 1 := by omega
                go_wp2_with fail
                refine (pathError_is f.p 0 _ (by omega) HC.out).mono ?_
                rintro e w1 ⟨rfl, hb1⟩
                have HB1 := more_below HB.out rfl hb1
                have d2 : w1.cell? ⟨b, o + (r + 1) * 3 + 2, none⟩ = some (sv f.t) := (hb1.cell (p := ⟨b, o + (r + 1) * 3 + 2, none⟩) (block_lt_of_cell c2)).trans c2
                have d0 : w1.cell? ⟨b, o + (r + 1) * 3, none⟩ = some (sv f.p) := (hb1.cell (p := ⟨b, o + (r + 1) * 3, none⟩) (block_lt_of_cell c0)).trans c0
                have HB1' : Hid (Below (w.heap.size + 1) (w.alloc (.cells #[.int .i64 0, .int .i64 0] 38)) w1) := HB1
                obtain ⟨s0, s1, s2, s3, s4⟩ := slot_two HB1
                have HBW : Hid (Below wr.heap.size wr w1) := hb1
                clear hb1 HB1
                have k0 : w1.cell? ⟨b, o + r * 3, none⟩ = some (sv g.p) := (HBW.out.cell (p := ⟨b, o + r * 3, none⟩) (block_lt_of_cell g0)).trans g0
                go_wp2_with fail
                go_quiet (fail)
                go_wp2_with fail
                refine wp_loop_rounds 1 ?_
                rw [rounds_succ]
                go_wp2
                have hq := slot_setN (w := w) (.int .i64 9) (.int .i64 ((r : Int) + 1)) s0 s1 s4
                exact bodyPost_ret (v := .agg #[.int .i64 9, .int .i64 ((r : Int) + 1)]) (by simp [results, Tryz.results45, go_sem, (hq _).1, (hq _).2.1]) rfl ⟨by rw [HF.out]; rfl, (hq _).2.2⟩
              · have ho' : less (l[r]'(by omega)).p l[r + 1].p = true := by simpa using ho
                have HOWN : Hid (∀ hb : (∀ j (h : j < l.length), j < r + 1 → isIn l[r + 1].p l[j].p = false), fileCode (l.take (r + 1)) l[r + 1] = 0) := by
                  intro hb
                  refine fileCode_zero.2 ⟨⟨hc, by omega⟩, .inr (by rw [hlast]; exact ho'), fun g hg => ?_⟩
                  obtain ⟨k, hk, rfl⟩ := List.getElem_of_mem hg
                  rw [List.length_take] at hk
                  rw [List.getElem_take]
                  exact hb k (by omega) (by omega)
                have HCL : Hid (∀ j (h : j < l.length), j < r + 1 → isIn l[r + 1].p l[j].p = true → treeFault l = (11, ((r + 1 : Nat) : Int))) := by
                  intro j hj hjr hi
                  have e : fileCode (l.take (r + 1)) l[r + 1] = 11 := by
                    unfold fileCode
                    rw [if_neg (by simp [hc]), if_neg ht, if_neg (fun h => by rw [hlast] at h; have := h.2; simp [ho'] at this), if_pos]
                    refine List.any_eq_true.2 ⟨l[j], ?_, hi⟩
                    exact List.mem_take_iff_getElem.2 ⟨j, by omega, rfl⟩
                  have := treeFault_at (l := l) (by omega) hlt HZ.out (by rw [e]; decide)
                  rwa [e] at this
                have hle : (Op.bytesLess l[r + 1].p (l[r]'(by omega)).p || l[r + 1].p == (l[r]'(by omega)).p) = false := by
                  have h1 := less_asymm ho'
                  have h2 := less_ne ho'
                  simp only [less] at h1
                  simp [h1, Ne.symm h2]
                have HSUM : Hid (total (l.take (r + 1 + 1)) = total (l.take (r + 1)) + l[r + 1].t.length) := total_succ hlt
                have HTT := total_take HTEXT.out (r + 1)
                clear hc ht ho ho' hlast
                generalize (l[r]'(by omega)) = g at g0 g1 g2 hgl hle
                generalize hf : l[r + 1] = f at c0 c1 c2 hpl htl HC ht' hle HOWN HCL HSUM
                have h0r : (0 : Int) < (r : Int) + 1 := by omega
                go_wp2_with fail
                refine (pathError_is f.p 0 _ (by omega) HC.out).mono ?_
                rintro e w1 ⟨rfl, hb1⟩
                have HB1 := more_below HB.out rfl hb1
                have d2 : w1.cell? ⟨b, o + (r + 1) * 3 + 2, none⟩ = some (sv f.t) := (hb1.cell (p := ⟨b, o + (r + 1) * 3 + 2, none⟩) (block_lt_of_cell c2)).trans c2
                have d0 : w1.cell? ⟨b, o + (r + 1) * 3, none⟩ = some (sv f.p) := (hb1.cell (p := ⟨b, o + (r + 1) * 3, none⟩) (block_lt_of_cell c0)).trans c0
                have k0 : w1.cell? ⟨b, o + r * 3, none⟩ = some (sv g.p) := (hb1.cell (p := ⟨b, o + r * 3, none⟩) (block_lt_of_cell g0)).trans g0
                have HB1' : Hid (Below (w.heap.size + 1) (w.alloc (.cells #[.int .i64 0, .int .i64 0] 38)) w1) := HB1
                clear hb1 HB1
                go_wp2_with fail
                go_quiet (fail)
                go_wp2_with fail
                go_loopw [5, 6] (fun e k wk => ∃ kk : Nat, kk ≤ r + 1 ∧ k = .int .i64 kk ∧ ((e = .int .i64 0 ∧ ∀ j (h : j < l.length), j < kk → isIn f.p l[j].p = false) ∨ (e = .int .i64 11 ∧ treeFault l = (11, ((r + 1 : Nat) : Int)))) ∧ Below (w.heap.size + 1) (w.alloc (.cells #[.int .i64 0, .int .i64 0] 38)) wk) (fun e k _ => if intOf e = 0 then r + 1 - (intOf k).toNat + 1 else 0)
                case atStart => exact ⟨0, by omega, rfl, .inl ⟨rfl, fun _ _ h => by omega⟩, below_drewN HB1'.out _⟩
                case round =>
                  obtain ⟨kk, hkk, rfl, hcase, hbk⟩ := hrel
                  have HBK : Hid (Below (w.heap.size + 1) (w.alloc (.cells #[.int .i64 0, .int .i64 0] 38)) wr) := hbk
                  clear hbk
                  rcases hcase with ⟨rfl, hno⟩ | ⟨rfl, hF⟩
                  · have HNO : Hid (∀ j (h : j < l.length), j < kk → isIn f.p l[j].p = false) := hno
                    clear hno
                    by_cases hkr : kk < r + 1
                    · have hkr' : (kk : Int) < (r : Int) + 1 := by omega
                      obtain ⟨b', o', e', m0, m1, m2⟩ := (HL.out.below (slot_two HBK.out).2.2.2.2).at (k := kk) (by omega)
                      cases e'
                      obtain ⟨b', o', e', n0, n1, n2⟩ := (HL.out.below (slot_two HBK.out).2.2.2.2).at hlt
                      cases e'
                      rw [hf] at n0 n1 n2
                      have hml := HPATH.out _ (List.getElem_mem (n := kk) (by omega : kk < l.length))
                      cases hin : isIn f.p (l[kk]'(by omega)).p with
                      | true =>
                        have HF := HCL.out kk (by omega) hkr hin
                        have HIN : Hid (isIn f.p (l[kk]'(by omega)).p = true) := hin
                        clear hin
                        generalize (l[kk]'(by omega)) = g2 at m0 m1 m2 hml HIN
                        have HF' : Hid (treeFault l = (11, ((r + 1 : Nat) : Int))) := HF
                        clear HF
                        go_wp2_with fail
                        have hi1 : (r : Int) + 1 < (l.length : Int) := by omega
                        have hi2 : (kk : Int) < (l.length : Int) := by omega
                        have hi0 : (0 : Int) ≤ (r : Int) + 1 := by omega
                        go_still_tail 10, hmx
                        go_wp2_with fail
                        refine (refIsIn_is f.p g2.p true _ (by omega) (by omega) HIN.out).mono ?_
                        rintro e w2 ⟨rfl, hb2⟩
                        have HB2 : Hid (Below (w.heap.size + 1) (w.alloc (.cells #[.int .i64 0, .int .i64 0] 38)) w2) := more_below (wr := wr.drew) HBK.out.drew rfl hb2
                        clear hb2
                        go_wp2
                        go_roundw
                        case rel => exact ⟨kk + 1, by omega, by go_num, .inr ⟨rfl, HF'.out⟩, HB2.out⟩
                        case measure => simp [intOf]
                      | false =>
                        have HIN : Hid (isIn f.p (l[kk]'(by omega)).p = false) := hin
                        have HNO2 : Hid (∀ j (h : j < l.length), j < kk + 1 → isIn f.p l[j].p = false) := by
                          intro j hj hjk
                          by_cases e : j = kk
                          · subst e; exact hin
                          · exact HNO.out j hj (by omega)
                        clear hin
                        generalize (l[kk]'(by omega)) = g2 at m0 m1 m2 hml HIN
                        go_wp2_with fail
                        have hi1 : (r : Int) + 1 < (l.length : Int) := by omega
                        have hi2 : (kk : Int) < (l.length : Int) := by omega
                        have hi0 : (0 : Int) ≤ (r : Int) + 1 := by omega
                        go_still_tail 10, hmx
                        go_wp2_with fail
                        refine (refIsIn_is f.p g2.p false _ (by omega) (by omega) HIN.out).mono ?_
                        rintro e w2 ⟨rfl, hb2⟩
                        have HB2 : Hid (Below (w.heap.size + 1) (w.alloc (.cells #[.int .i64 0, .int .i64 0] 38)) w2) := more_below (wr := wr.drew) HBK.out.drew rfl hb2
                        clear hb2
                        go_wp2
                        go_roundw
                        case rel => exact ⟨kk + 1, by omega, by go_num, .inl ⟨rfl, HNO2.out⟩, HB2.out⟩
                        case measure => simp [intOf]; omega
                    · have hkr' : ¬ (kk : Int) < (r : Int) + 1 := by omega
                      have hkr2 : decide ((kk : Int) < (r : Int) + 1) = false := by simp; omega
                      obtain ⟨b', o', e', n0, n1, n2⟩ := (HL.out.below (slot_two HBK.out).2.2.2.2).at hlt
                      cases e'
                      rw [hf] at n0 n1 n2
                      have HNEXT : Hid (∀ j (h : j < l.length), j < r + 1 + 1 → fileCode (l.take j) l[j] = 0) := by
                        intro j hj hjr
                        by_cases e : j = r + 1
                        · subst e
                          rw [hf]
                          exact HOWN.out fun j hj hjr => HNO.out j hj (by omega)
                        · exact HZ.out j hj (by omega)
                      go_wp2
                      go_roundw
                      case rel => exact ⟨r + 1 + 1, by omega, by go_num, by rw [HSUM.out]; go_num, HNEXT.out, HBK.out⟩
                      case measure => simp [intOf]; omega
                  · have HF : Hid (treeFault l = (11, ((r + 1 : Nat) : Int))) := hF
                    clear hF
                    obtain ⟨s0, s1, s2, s3, s4⟩ := slot_two HBK.out
                    go_wp2
                    all_goals
                      have hq := slot_set (w := w) (.int .i64 11) (.int .i64 ((r : Int) + 1)) s0 s1 s4
                      exact bodyPost_ret (v := .agg #[.int .i64 11, .int .i64 ((r : Int) + 1)]) (by simp [results, Tryz.results45, go_sem, hq.1, hq.2.1]) rfl ⟨by rw [HF.out]; rfl, hq.2.2⟩
        · have HF : Hid (treeFault l = (checkCode l[q].p, (q : Int))) := by
            have e : fileCode (l.take q) l[q] = checkCode l[q].p := by simp [fileCode, hc]
            have := treeFault_at (l := l) (by omega) hlt HZ.out (by rw [e]; exact hc)
            rwa [e] at this
          have hcp : (0 : Int) < (checkCode l[q].p : Int) := by omega
          have hce : ((checkCode l[q].p : Int) == 0) = false := by simp; omega
          clear hc
          generalize l[q] = f at c0 c1 c2 hpl htl HF hcp hce
          go_wp2_with fail
          refine (pathError_is f.p (checkCode f.p) _ (by omega) rfl).mono ?_
          rintro e w1 ⟨rfl, hb1⟩
          have HB1 := more_below HB.out rfl hb1
          have d2 : w1.cell? ⟨b, o + q * 3 + 2, none⟩ = some (sv f.t) := (hb1.cell (p := ⟨b, o + q * 3 + 2, none⟩) (block_lt_of_cell c2)).trans c2
          have d0 : w1.cell? ⟨b, o + q * 3, none⟩ = some (sv f.p) := (hb1.cell (p := ⟨b, o + q * 3, none⟩) (block_lt_of_cell c0)).trans c0
          have HB1' : Hid (Below (w.heap.size + 1) (w.alloc (.cells #[.int .i64 0, .int .i64 0] 38)) w1) := HB1
          obtain ⟨s0, s1, s2, s3, s4⟩ := slot_two HB1
          clear hb1 HB1
          generalize checkCode f.p = cc at HF hcp hce
          go_wp2_with fail
          refine wp_loop_rounds 1 ?_
          rw [rounds_succ]
          go_wp2
          all_goals
            obtain ⟨q0, q1, q2⟩ := slot_set (w := w) (.int .i64 cc) (.int .i64 q) s0 s1 s4
            exact bodyPost_ret (v := .agg #[.int .i64 cc, .int .i64 q]) (by simp [results, Tryz.results45, go_sem, q0, q1]) rfl ⟨by rw [HF.out], q2⟩
      · obtain rfl : q = l.length := by omega
        have hall : ∀ j (h : j < l.length), fileCode (l.take j) l[j] = 0 := fun j hj => HZ.out j hj hj
        have HE := treeFault_end (l := l) (by omega) hall
        have htk := total_take HTEXT.out l.length
        rw [List.take_length] at htk ⊢
        clear hall
        by_cases hbig : 12000 < total l
        · rw [if_pos hbig] at HE
          have HF : Hid (treeFault l = (2, -1)) := HE
          have hbig' : (12000 : Int) < (total l : Int) := by omega
          clear HE
          go_wp2_with fail
          refine (bare_any 2 _).mono ?_
          rintro e w1 ⟨rfl, hb1⟩
          have HB1 := more_below HB.out rfl hb1
          obtain ⟨s0, s1, s2, s3, s4⟩ := slot_two HB1
          clear hb1 HB1
          go_wp2
          obtain ⟨q0, q1, q2⟩ := slot_set (w := w) (.int .i64 2) (.int .i64 (-1)) s0 s1 s4
          exact bodyPost_ret (v := .agg #[.int .i64 2, .int .i64 (-1)]) (by simp [results, Tryz.results45, go_sem, q0, q1]) rfl ⟨by rw [HF.out]; rfl, q2⟩
        · rw [if_neg hbig] at HE
          have HF : Hid (treeFault l = (0, -1)) := HE
          have hbig' : ¬ (12000 : Int) < (total l : Int) := by omega
          clear HE
          go_wp2_with fail
          refine (fine_any _).mono ?_
          rintro e w1 ⟨rfl, hb1⟩
          have HB1 := more_below HB.out rfl hb1
          obtain ⟨s0, s1, s2, s3, s4⟩ := slot_two HB1
          clear hb1 HB1
          go_wp2
          obtain ⟨q0, q1, q2⟩ := slot_set (w := w) (.int .i64 0) (.int .i64 (-1)) s0 s1 s4
          exact bodyPost_ret (v := .agg #[.int .i64 0, .int .i64 (-1)]) (by simp [results, Tryz.results45, go_sem, q0, q1]) rfl ⟨by rw [HF.out]; rfl, q2⟩
end Go.Proofs.YtcnejkbbheihiaaGreatDoor
