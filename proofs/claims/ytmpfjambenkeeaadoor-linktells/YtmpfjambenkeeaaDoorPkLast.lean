/-
  Package link: Last: a contract, over this seat's translation.
-/
import Derived.Test.YtmpfjambenkeeaaDoorPkLinks
import Derived.Lib.LastIndexByte
namespace Go.Proofs.YtmpfjambenkeeaaDoor
open Go.RowKit Go.Shelf

/-- A text has no slash, or it is what stands ahead of its last one, and behind it. -/
theorem last_cases : ∀ l : List UInt8, 47 ∉ l ∨ ∃ a b, l = a ++ 47 :: b ∧ 47 ∉ b
  | [] => .inl (by simp)
  | c :: r => by
    rcases last_cases r with h | ⟨a, b, h, hb⟩
    · by_cases hc : c = 47
      · exact .inr ⟨[], r, by rw [hc]; rfl, h⟩
      · refine .inl ?_
        simp only [List.mem_cons, not_or]
        exact ⟨fun e => hc e.symm, h⟩
    · exact .inr ⟨c :: a, b, by rw [h]; rfl, hb⟩

theorem lastIndex_is (l : List UInt8) (z : Int) (w : World) (hl : l.length ≤ 90000) (h : Lib.lastIndex l [47] = z) :
    Calls Tryd.prog 38 #[.string ⟨l.toArray⟩, .string ⟨#[47]⟩] w fun e w' => e = .returned (.int .i64 z) ∧ w' = w := by
  have := Tryd.strings_LastIndex ⟨l.toArray⟩ ⟨#[47]⟩ (by simp [ByteArray.size]; omega) w
  rw [show Lib.lastIndex (({ data := l.toArray } : ByteArray).data.toList) (({ data := #[47] } : ByteArray).data.toList) = z from h] at this
  exact this

theorem occ_slash (l : List UInt8) (k : Nat) (hk : k < l.length) : Lib.occAt l [47] k = (l[k] == 47) := by
  unfold Lib.occAt
  rw [List.drop_eq_getElem_cons hk]
  show (((47 : UInt8) == l[k]) && true) = (l[k] == 47)
  rw [Bool.and_true]
  exact BEq.comm
theorem lastIndex_no {l : List UInt8} (h : 47 ∉ l) : Lib.lastIndex l [47] = -1 := by
  unfold Lib.lastIndex
  split
  · rename_i hl
    rcases Lib.lastOcc_spec l [47] (l.length - [(47 : UInt8)].length + 1) with ⟨h1, _⟩ | ⟨i, hi, _, ho, _⟩
    · exact h1
    · simp at hl hi
      rw [occ_slash l i (by omega)] at ho
      simp at ho
      exact absurd (ho ▸ List.getElem_mem (by omega)) h
  · rfl
theorem lastIndex_yes {a b : List UInt8} (h : 47 ∉ b) : Lib.lastIndex (a ++ 47 :: b) [47] = a.length := by
  unfold Lib.lastIndex
  rw [if_pos (by simp; omega)]
  have hlen : (a ++ 47 :: b).length - [(47 : UInt8)].length + 1 = a.length + b.length + 1 := by simp
  rw [hlen]
  have hat : ∀ j (hj : j < (a ++ 47 :: b).length), a.length < j → (a ++ 47 :: b)[j] ≠ 47 := by
    intro j hj hlt e
    rw [List.getElem_append_right (by omega), List.getElem_cons, dif_neg (by omega)] at e
    exact h (e ▸ List.getElem_mem _)
  have ha : (a ++ 47 :: b)[a.length]'(by simp) = 47 := by simp
  rcases Lib.lastOcc_spec (a ++ 47 :: b) [47] (a.length + b.length + 1) with ⟨_, h2⟩ | ⟨i, hi, h1, ho, h3⟩
  · have := h2 a.length (by omega)
    rw [occ_slash _ _ (by simp), ha] at this
    simp at this
  · rw [h1]
    congr 1
    rcases Nat.lt_trichotomy i a.length with hlt | heq | hgt
    · have := h3 a.length hlt (by omega)
      rw [occ_slash _ _ (by simp), ha] at this
      simp at this
    · exact heq
    · rw [occ_slash _ _ (by simp only [List.length_append, List.length_cons]; omega)] at ho
      exact absurd (by simpa using ho) (hat i _ hgt)

theorem linkRead_is (p : Nat → Addr) (s h q : List UInt8) (c : Nat) (w : World) (hE : LEnv p w) (hs : s.length ≤ 90000) (e : readK s = (h, q, c)) :
    Calls Tryd.prog 30 #[.string ⟨s.toArray⟩] w fun e w' => e = .returned (.tuple #[.string ⟨h.toArray⟩, .string ⟨q.toArray⟩, errV p c]) ∧ Below w.heap.size w w' := by
  have := linkRead_any p s w hE hs
  rwa [e] at this

theorem bytes_from (l : List UInt8) (i : Nat) : ({ data := l.toArray } : ByteArray).extract i l.length = ⟨(l.drop i).toArray⟩ := by
  rw [extract_list, List.take_of_length_le (by rw [List.length_drop]; omega)]

set_option maxRecDepth 100000 in
set_option maxHeartbeats 1000000 in
theorem linkLast_any (p : Nat → Addr) (s : List UInt8) (w : World) (hE : LEnv p w) (hs : s.length ≤ 90000) :
    Calls Tryd.prog 18 #[.string ⟨s.toArray⟩] w fun e w' => e = .returned (.tuple #[.string ⟨(lastL (readK s).2.1).toArray⟩, errV p (checkK s)]) ∧ Below w.heap.size w w' := by
  have HE := Lib.hid hE
  clear hE
  obtain ⟨⟨h, q, c⟩, hl⟩ : ∃ r, readK s = r := ⟨_, rfl⟩
  have hsh := readK_short s
  rw [hl] at hsh
  simp only at hsh
  have HL := Lib.hid hl
  have HC : Hid (checkK s = c) := by show checkK s = c; unfold checkK; rw [hl]
  rcases last_cases q with hn | ⟨a, b, hq, hn⟩
  · have HI := Lib.hid (lastIndex_no hn)
    have HA : Hid (lastL (readK s).2.1 = q) := by show lastL (readK s).2.1 = q; rw [hl]; exact lastL_no hn
    have HX : Hid (({ data := q.toArray } : ByteArray).extract 0 q.length = ⟨q.toArray⟩) := by
      show ({ data := q.toArray } : ByteArray).extract 0 q.length = _
      rw [bytes_from]; simp
    clear hl hn
    go_enter Tryd.func18, Tryd.ntmps18
    go_wp2_with fail
    refine (linkRead_is p s h q c _ HE.out hs HL.out).mono ?_
    rintro e w1 ⟨rfl, hb1⟩
    have HB1 := Lib.hid hb1
    clear hb1
    generalize hev : errV p c = ev
    have HV := Lib.hid hev
    clear hev
    go_wp2_with fail
    refine (lastIndex_is q _ _ (by omega) HI.out).mono ?_
    rintro e w' ⟨rfl, rfl⟩
    go_wp2
    go_ret2
    refine ⟨?_, HB1.out⟩
    show Ending.returned (.tuple #[.string (({ data := q.toArray } : ByteArray).extract 0 q.length), ev]) = _
    rw [HX.out, HA.out, HC.out, HV.out]
  · have HI : Hid (Lib.lastIndex q [47] = a.length) := by show Lib.lastIndex q [47] = _; rw [hq]; exact lastIndex_yes hn
    have HA : Hid (lastL (readK s).2.1 = b) := by show lastL (readK s).2.1 = b; rw [hl]; show lastL q = b; rw [hq]; exact lastL_app a b hn
    have hql : a.length + b.length + 1 = q.length := by rw [hq]; simp; omega
    have hqi : (a.length : Int) + 1 ≤ q.length := by omega
    have HX : Hid (({ data := q.toArray } : ByteArray).extract (a.length + 1) q.length = ⟨b.toArray⟩) := by
      show ({ data := q.toArray } : ByteArray).extract (a.length + 1) q.length = _
      rw [bytes_from, hq]; simp
    clear hl hn hq
    go_enter Tryd.func18, Tryd.ntmps18
    go_wp2_with fail
    refine (linkRead_is p s h q c _ HE.out hs HL.out).mono ?_
    rintro e w1 ⟨rfl, hb1⟩
    have HB1 := Lib.hid hb1
    clear hb1
    generalize hev : errV p c = ev
    have HV := Lib.hid hev
    clear hev
    go_wp2_with fail
    refine (lastIndex_is q _ _ (by omega) HI.out).mono ?_
    rintro e w' ⟨rfl, rfl⟩
    go_wp2
    go_ret2
    refine ⟨?_, HB1.out⟩
    rw [HA.out, HC.out, HV.out, ← HX.out]
    rfl
end Go.Proofs.YtmpfjambenkeeaaDoor
