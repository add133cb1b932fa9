/-
  Own texts of the proof, joined by program: PkRead, PkWords.
-/
import Derived.Test.YtcnejkbbheihiaaGreatDoorSumEnv
import Derived.Test.YtcnejkbbheihiaaGreatDoorShelf
import Derived.Test.YtcnejkbbheihiaaGreatDoorPackPure
import Derived.Test.YtcnejkbbheihiaaGreatDoorRefDigitsRefSumPkSum
import Derived.Test.YtcnejkbbheihiaaGreatDoorCut
import Derived.Test.YtcnejkbbheihiaaGreatDoorClean
import Derived.Lib.SplitLaws
import Derived.Shelf.Strings.SplitCore
/-
  Package sum: Text, Read: contracts, over this seat's translation.
-/
namespace Go.Proofs.YtcnejkbbheihiaaGreatDoor
open Go.RowKit Go.Shelf

theorem below_grown (w : World) (k : Nat) (os : Array Obj) : Below w.heap.size w (Go.Sort.grow (w.drewN k) os) :=
  ⟨rfl, rfl, rfl, by simp [Go.Sort.grow, World.drewN], fun k hk => by simp [Go.Sort.grow, World.drewN, Array.getElem?_append_left hk]⟩

/-- strconv.Itoa of a number from 0 on. -/
theorem itoa_any (n : Nat) (w : World) (hn : n < 9223372036854775808) (htab : Lib.TabIs Tryz.prog w "internal/strconv.uint64pow10" .u64 Lib.pow10Tab) :
    Calls Tryz.prog 55 #[.int .i64 n] w fun e w' => e = .returned (.string ⟨(digitsL n).toArray⟩) ∧ Below w.heap.size w w' :=
  (Tryz.strconv_Itoa n (by omega) (by omega) w htab).mono fun e w' ⟨h1, k, os, h2⟩ => ⟨by rw [h1, Lib.itoa_nonneg, itoa_digits], by rw [h2]; exact below_grown w k os⟩

theorem readS_no {s : List UInt8} (h : ∀ v, Lib.atoiAll s.tail = .ok v → s.head? = some 115 → textS v ≠ s) : readS s = (0, 1) := by
  unfold readS
  rw [if_neg]
  rintro ⟨h1, h2⟩
  have hb := isS_bounds h2
  have e := number_inv hb.1
  have ht := text_read ⟨h1, h2⟩
  obtain ⟨n, hn⟩ := Int.eq_ofNat_of_zero_le hb.1
  rw [hn] at e ht
  rw [Int.toNat_natCast] at e
  exact h n (by rw [e]; exact atoi_digits (by omega)) h1 ht

theorem readS_yes {s : List UInt8} {v : Int} (h1 : s.head? = some 115) (h2 : textS v = s) : readS s = (v, 0) := by
  have hv : isS v = true := by
    rcases hc : isS v with _ | _
    · exfalso
      unfold textS at h2
      rw [hc] at h2
      simp at h2
      rw [h2] at h1
      cases h1
    · rfl
  rw [← h2]
  exact read_text hv

end Go.Proofs.YtcnejkbbheihiaaGreatDoor
/-
  A text cut at its first line end, split at blanks, its line end cut off, and the number of bytes of a file read: contracts, over this seat's translation.
-/
namespace Go.Proofs.YtcnejkbbheihiaaGreatDoor
open Go.RowKit Go.Shelf

theorem slCutBy_none (c : UInt8) (l : List UInt8) (w : World) (h : cutBy c l = none) : Calls Tryz.prog 87 #[.string ⟨l.toArray⟩, .string ⟨#[c]⟩] w fun e w' => e = .returned (.tuple #[.string ⟨l.toArray⟩, .string ⟨#[]⟩, .bool false]) ∧ w' = w := by
  have HI : Hid (Lib.indexByte l c = -1) := indexBy_none (cutBy_no.1 h)
  clear h
  go_enter Tryz.func87, Tryz.ntmps87
  go_wp2_with fail
  refine (Tryz.stringslite_Index_one _ c _).mono ?_
  rintro e w' ⟨rfl, rfl⟩
  rw [show Lib.indexByte ({ data := l.toArray } : ByteArray).data.toList c = -1 from by simpa using HI.out]
  go_wp2
  go_ret3
  exact ⟨rfl, rfl⟩

theorem slCutBy_some (c : UInt8) (l a b : List UInt8) (w : World) (hl : l.length ≤ 100000) (h : cutBy c l = some (a, b)) : Calls Tryz.prog 87 #[.string ⟨l.toArray⟩, .string ⟨#[c]⟩] w fun e w' => e = .returned (.tuple #[.string ⟨a.toArray⟩, .string ⟨b.toArray⟩, .bool true]) ∧ ∃ n, w' = w.drewN n := by
  have HL : Hid (l = a ++ c :: b) := (cutBy_some h).1
  have HI : Hid (Lib.indexByte l c = a.length) := by
    show Lib.indexByte l c = _
    rw [HL.out]
    exact indexBy_at b (cutBy_some h).2
  have hlen : a.length + b.length + 1 = l.length := by rw [HL.out]; simp; omega
  clear h
  go_enter Tryz.func87, Tryz.ntmps87
  go_wp2_with fail
  refine (Tryz.stringslite_Index_one _ c _).mono ?_
  rintro e w' ⟨rfl, rfl⟩
  rw [show Lib.indexByte ({ data := l.toArray } : ByteArray).data.toList c = a.length from by simpa using HI.out]
  go_wp2_with fail
  go_quiet (fail)
  go_wp2
  go_ret3
  refine ⟨?_, nq, rfl⟩
  have e1 : ({ data := l.toArray } : ByteArray).extract 0 a.length = ⟨a.toArray⟩ := by
    rw [extract_list, HL.out]; simp
  have e2 : ({ data := l.toArray } : ByteArray).extract (a.length + 1) l.length = ⟨b.toArray⟩ := by
    rw [extract_list, HL.out]
    simp
    rw [List.take_of_length_le (by omega)]
  rw [← e1, ← e2]
  rfl

theorem cutBy_miss (c : UInt8) (l : List UInt8) (w : World) (h : cutBy c l = none) : Calls Tryz.prog 80 #[.string ⟨l.toArray⟩, .string ⟨#[c]⟩] w fun e w' => e = .returned (.tuple #[.string ⟨l.toArray⟩, .string ⟨#[]⟩, .bool false]) ∧ w' = w := by
  have H : Hid (cutBy c l = none) := h
  clear h
  go_enter Tryz.func80, Tryz.ntmps80
  go_wp2_with fail
  refine (slCutBy_none _ _ _ H.out).mono ?_
  rintro e w' ⟨rfl, rfl⟩
  go_wp2
  go_ret3
  exact ⟨rfl, rfl⟩
theorem cutBy_hit (c : UInt8) (l a b : List UInt8) (w : World) (hl : l.length ≤ 100000) (h : cutBy c l = some (a, b)) : Calls Tryz.prog 80 #[.string ⟨l.toArray⟩, .string ⟨#[c]⟩] w fun e w' => e = .returned (.tuple #[.string ⟨a.toArray⟩, .string ⟨b.toArray⟩, .bool true]) ∧ ∃ n, w' = w.drewN n := by
  have H : Hid (cutBy c l = some (a, b)) := h
  clear h
  go_enter Tryz.func80, Tryz.ntmps80
  go_wp2_with fail
  refine (slCutBy_some _ _ _ _ _ hl H.out).mono ?_
  rintro e w' ⟨rfl, nq, rfl⟩
  go_wp2
  go_ret3
  exact ⟨rfl, nq, rfl⟩

theorem splitK_pieces (c : UInt8) : ∀ (k : Nat) (l : List UInt8), l.count c = k → Lib.splitK [c] 0 k l = piecesBy c l
  | k, l, hk => by
    cases hc : cutBy c l with
    | none =>
      have hn := cutBy_no.1 hc
      rw [piecesBy_none hn]
      have h0 : k = 0 := by rw [← hk]; exact List.count_eq_zero.2 hn
      subst h0
      rfl
    | some x =>
      obtain ⟨e, hn⟩ := cutBy_some (a := x.1) (b := x.2) hc
      have h1 : k = (x.2.count c) + 1 := by
        rw [← hk, e, List.count_append, List.count_eq_zero.2 hn, List.count_cons_self]
        omega
      subst h1
      have ih := splitK_pieces c (x.2.count c) x.2 rfl
      have hi : Lib.index l [c] = x.1.length := by
        rw [Lib.index_one, e]
        exact indexBy_at x.2 hn
      rw [piecesBy_cut (a := x.1) (b := x.2) hc, Lib.splitK, if_neg (by rw [hi]; simp), hi, ← ih]
      have e1 : l.take ((x.1.length : Int).toNat + 0) = x.1 := by rw [e]; simp
      have e2 : l.drop ((x.1.length : Int).toNat + [c].length) = x.2 := by rw [e]; simp
      rw [e1, e2]

theorem splitB_pieces (c : UInt8) (l : List UInt8) : (Lib.splitB ⟨#[c]⟩ 0 (l.count c) ⟨l.toArray⟩).map Value.string = (piecesBy c l).map sv := by
  have h := Lib.splitB_data ⟨#[c]⟩ 0 (l.count c) ⟨l.toArray⟩
  have h' : (Lib.splitB ⟨#[c]⟩ 0 (l.count c) ⟨l.toArray⟩).map (·.data.toList) = piecesBy c l := by
    rw [h, ← splitK_pieces c _ l rfl]
  rw [← h', List.map_map]
  apply List.map_congr_left
  intro b _
  simp [sv]

theorem digits_bound {v k : Nat} (h : (digitsL v).length ≤ k) : v < 10 ^ k := by
  have h1 := value_from (digitsL v) 0 (digits_digit v)
  rw [digits_value] at h1
  have h2 : 10 ^ (digitsL v).length ≤ 10 ^ k := Nat.pow_le_pow_right (by decide) h
  omega
theorem number_atoi {l : List UInt8} {v : Int} (h : 0 ≤ numberL l 6) (hv : Lib.atoiAll l = .ok v) : v = numberL l 6 ∧ l = digitsL v.toNat := by
  obtain ⟨m, hm⟩ := Int.eq_ofNat_of_zero_le h
  have e := number_inv h
  rw [hm, Int.toNat_natCast] at e
  have hl : (digitsL m).length ≤ 6 := by
    rw [← e]
    unfold numberL at h
    split at h
    · omega
    · omega
  have hb := digits_bound hl
  have := atoi_digits (n := m) (by omega)
  rw [← e, hv] at this
  cases this
  exact ⟨hm.symm, by simpa using e⟩
theorem number_of_digits {l : List UInt8} {v : Nat} (h : digitsL v = l) (hl : l.length ≤ 6) : numberL l 6 = v := by
  subst h
  exact number_digits (k := 5) (digits_bound hl)

/-- How many bytes: whether a word tells it, and what. -/
def sizeOfL (l : List UInt8) : Int × Bool := if 0 ≤ numberL l 6 then (numberL l 6, true) else (0, false)
theorem size_yes {l : List UInt8} {v : Nat} (h : digitsL v = l) (hl : l.length ≤ 6) : sizeOfL l = ((v : Int), true) := by
  unfold sizeOfL
  rw [number_of_digits h hl, if_pos (by omega)]
theorem size_no {l : List UInt8} (h : ∀ v, Lib.atoiAll l = .ok v → 0 ≤ v → l.length ≤ 6 → digitsL v.toNat ≠ l) : sizeOfL l = (0, false) := by
  unfold sizeOfL
  rw [if_neg]
  intro h0
  obtain ⟨m, hm⟩ := Int.eq_ofNat_of_zero_le h0
  have e := number_inv h0
  rw [hm, Int.toNat_natCast] at e
  have hl : l.length ≤ 6 := by
    unfold numberL at h0
    split at h0
    · omega
    · omega
  have hb := digits_bound (v := m) (k := 6) (by rw [← e]; exact hl)
  have ha := atoi_digits (n := m) (by omega)
  rw [← e] at ha
  exact h m ha (by omega) hl (by simpa using e.symm)

end Go.Proofs.YtcnejkbbheihiaaGreatDoor
