/-
  Own texts of the proof, joined by program: PkRead, PkWords.
-/
import Derived.Test.YtmeipangcgdinaaGreatDoorRefDigitsRefSumPkSumSumEnv
import Derived.Test.YtmeipangcgdinaaGreatDoorShelf
import Derived.Test.YtmeipangcgdinaaGreatDoorPackPurePackFactsWantPure
import Derived.Test.YtmeipangcgdinaaGreatDoorCutCheckCleanPaths
import Derived.Lib.SplitLaws
import Derived.Shelf.Strings.SplitCore
/-
  Package sum: Text, Read: contracts, over this seat's translation.
-/
namespace Go.Proofs.YtmeipangcgdinaaGreatDoor
open Go.RowKit Go.Shelf

theorem below_grown (w : World) (k : Nat) (os : Array Obj) : Below w.heap.size w (Go.Sort.grow (w.drewN k) os) :=
  ⟨rfl, rfl, rfl, by simp [Go.Sort.grow, World.drewN], fun k hk => by simp [Go.Sort.grow, World.drewN, Array.getElem?_append_left hk]⟩

/-- strconv.Itoa of a number from 0 on. -/
theorem itoa_any (n : Nat) (w : World) (hn : n < 9223372036854775808) (htab : Lib.TabIs Tryz.prog w "internal/strconv.uint64pow10" .u64 Lib.pow10Tab) :
    Calls Tryz.prog 37 #[.int .i64 n] w fun e w' => e = .returned (.string ⟨(digitsL n).toArray⟩) ∧ Below w.heap.size w w' :=
  (Tryz.strconv_Itoa n (by omega) (by omega) w htab).mono fun e w' ⟨h1, k, os, h2⟩ => ⟨by rw [h1, Lib.itoa_nonneg, itoa_digits], by rw [h2]; exact below_grown w k os⟩

set_option maxRecDepth 100000 in
theorem pkText_any (p : Nat → Addr) (n : Int) (w : World) (hE : SEnv p w) : Calls Tryz.prog 38 #[.int .i64 n] w fun e w' => e = .returned (.string ⟨(textS n).toArray⟩) ∧ Below w.heap.size w w' := by
  by_cases h : isS n = true
  · have HT : Hid (textS n = 115 :: digitsL n.toNat) := text_is h
    obtain ⟨k, rfl⟩ := Int.eq_ofNat_of_zero_le (isS_bounds h).1
    have hk := (isS_bounds h).2
    have HA : Hid (isS (k : Int) = true) := h
    have HE : Hid (SEnv p w) := hE
    have hdl : (digitsL k).length ≤ 10 := digits_length 9 k (by omega)
    clear h hE
    go_enter Tryz.func38, Tryz.ntmps38
    go_wp2_with fail
    refine (pkIsSum_any _ _).mono ?_
    rintro e w' ⟨rfl, rfl⟩
    rw [HA.out]
    go_wp2_with fail
    refine (itoa_any k _ (by omega) HE.out.tab).mono ?_
    rintro e w1 ⟨rfl, hb1⟩
    have HB1 := Lib.hid hb1
    clear hb1
    rw [Int.toNat_natCast] at HT
    generalize digitsL k = ds at HT hdl
    go_wp2
    go_ret
    exact ⟨by rw [HT.out, ← bytes_cons]; rfl, HB1.out⟩
  · have HT : Hid (textS n = []) := by show textS n = _; unfold textS; rw [if_neg h]
    have HA : Hid (isS n = false) := Bool.eq_false_iff.2 h
    clear h hE
    go_enter Tryz.func38, Tryz.ntmps38
    go_wp2_with fail
    refine (pkIsSum_any _ _).mono ?_
    rintro e w' ⟨rfl, rfl⟩
    rw [HA.out]
    go_wp2
    go_ret
    exact ⟨by rw [HT.out]; rfl, Below.refl _ _⟩

/-- What strconv.Atoi tells of a text: a number and no error, or some error that is not nil. -/
theorem atoi_any (p : Nat → Addr) (l : List UInt8) (w : World) (hE : SEnv p w) (hl : l.length ≤ 281474976710656) :
    Calls Tryz.prog 83 #[.string ⟨l.toArray⟩] w fun e w' => ((∃ v, Lib.atoiAll l = .ok v ∧ e = .returned (.tuple #[.int .i64 v, .nilIface])) ∨ ((∀ v, Lib.atoiAll l ≠ .ok v) ∧ ∃ v N, e = .returned (.tuple #[.int .i64 v, .iface 139 (.pointer (some ⟨N, 0, none⟩))]))) ∧ Below w.heap.size w w' := by
  have hs : (⟨l.toArray⟩ : ByteArray).size = l.length := by simp [ByteArray.size]
  rcases h : Lib.atoiAll l with v | _ | _
  · refine (Tryz.strconv_Atoi_ok ⟨l.toArray⟩ (by omega) v (by simpa using h) w).mono fun e w' ⟨h1, h2⟩ => ⟨Or.inl ⟨v, rfl, h1⟩, ?_⟩
    rcases h2 with rfl | ⟨t, rfl⟩
    · exact Below.refl _ _
    · exact Lib.bytesWorld_below _ _ _
  · obtain ⟨a, ha⟩ := hE.syn
    exact (Tryz.strconv_Atoi_syntax ⟨l.toArray⟩ (by omega) (fun v e => by have := h.symm.trans e; cases this) (fun e => by have := h.symm.trans e; cases this) _ w ha (Or.inr ⟨_, _, rfl⟩)).mono fun e w' ⟨N, h1, _, _, h4⟩ => ⟨Or.inr ⟨(fun v hv => by cases hv), _, N, h1⟩, h4⟩
  · obtain ⟨a, ha⟩ := hE.rng
    exact (Tryz.strconv_Atoi_range ⟨l.toArray⟩ (by omega) (by simpa using h) _ w ha (Or.inr ⟨_, _, rfl⟩)).mono fun e w' ⟨N, h1, _, _, h4⟩ => ⟨Or.inr ⟨(fun v hv => by cases hv), _, N, h1⟩, h4⟩

theorem cutPrefix_s (l : List UInt8) (w : World) : Calls Tryz.prog 82 #[.string ⟨l.toArray⟩, .string ⟨#[115]⟩] w fun e w' => e = .returned (.tuple #[.string ⟨(if l.head? = some 115 then l.tail else l).toArray⟩, .bool (decide (l.head? = some 115))]) ∧ w' = w := by
  refine (Tryz.strings_CutPrefix ⟨l.toArray⟩ ⟨#[115]⟩ w).mono fun e w' ⟨h1, h2⟩ => ⟨?_, h2⟩
  rw [h1]
  cases l with
  | nil => rfl
  | cons b r =>
    by_cases hb : b = 115
    · subst hb
      simp [Lib.trimPrefix, Lib.hasPrefix, List.isPrefixOf]
    · have hb' : ¬ (115 : UInt8) = b := fun e => hb e.symm
      simp [Lib.trimPrefix, Lib.hasPrefix, List.isPrefixOf, hb, hb']

theorem readS_no {s : List UInt8} (h : ∀ v, Lib.atoiAll s.tail = .ok v → s.head? = some 115 → textS v ≠ s) : readS s = (0, 1) := by
  unfold readS
  rw [if_neg]
  rintro ⟨h1, h2⟩
  have hb := isS_bounds h2
  have e := number_inv hb.1
  have ht := text_read ⟨h1, h2⟩
  obtain ⟨n, hn⟩ := Int.eq_ofNat_of_zero_le hb.1
  rw [hn] at e ht
  rw [Int.toNat_natCast] at e
  exact h n (by rw [e]; exact atoi_digits (by omega)) h1 ht

theorem readS_yes {s : List UInt8} {v : Int} (h1 : s.head? = some 115) (h2 : textS v = s) : readS s = (v, 0) := by
  have hv : isS v = true := by
    rcases hc : isS v with _ | _
    · exfalso
      unfold textS at h2
      rw [hc] at h2
      simp at h2
      rw [h2] at h1
      cases h1
    · rfl
  rw [← h2]
  exact read_text hv

set_option maxRecDepth 100000 in
set_option maxHeartbeats 1000000 in
theorem pkRead_any (p : Nat → Addr) (l : List UInt8) (w : World) (hE : SEnv p w) (hl : l.length ≤ 281474976710656) :
    Calls Tryz.prog 61 #[.string ⟨l.toArray⟩] w fun e w' => e = .returned (.tuple #[.int .i64 (readS l).1, errV p (readS l).2]) ∧ Below w.heap.size w w' := by
  have HE : Hid (SEnv p w) := hE
  clear hE
  by_cases hh : l.head? = some 115
  · have HH : Hid (l.head? = some 115) := hh
    have htl : l.tail.length ≤ 281474976710656 := by rw [List.length_tail]; omega
    clear hh
    go_enter Tryz.func61, Tryz.ntmps61
    go_wp2_with fail
    refine (cutPrefix_s l _).mono ?_
    rintro e w' ⟨rfl, rfl⟩
    rw [if_pos HH.out, decide_eq_true HH.out]
    go_wp2_with fail
    refine (atoi_any p l.tail _ HE.out htl).mono ?_
    rintro e w1 ⟨hcase, hb1⟩
    have HB1 := Lib.hid hb1
    have HE1 := Lib.hid (HE.out.below hb1)
    clear hb1 htl
    rcases hcase with ⟨v, hv, rfl⟩ | ⟨hv, v, N, rfl⟩
    · have HV := Lib.hid hv
      clear hv
      go_wp2_with fail
      refine (pkText_any p v _ HE1.out).mono ?_
      rintro e w2 ⟨rfl, hb2⟩
      have HB2 := Lib.hid (HB1.out.trans (hb2.mono HB1.out.size))
      have hg := (HE1.out.below hb2).s0
      clear hb2
      by_cases ht : textS v = l
      · have HR := Lib.hid (readS_yes HH.out ht)
        rw [ht]
        clear ht hg
        go_wp2
        go_ret2
        exact ⟨by rw [HR.out]; rfl, HB2.out⟩
      · have HR : Hid (readS l = (0, 1)) := readS_no fun u hu _ => by
          have := HV.out.symm.trans hu
          cases this
          exact ht
        clear HV
        generalize textS v = tx at ht
        have ht' : (tx == l) = false := by simpa using ht
        clear ht
        go_wp2_with fail
        go_region
        go_wp2
        go_ret2
        exact ⟨by rw [HR.out]; rfl, HB2.out.drew⟩
    · have HR : Hid (readS l = (0, 1)) := readS_no fun u hu _ => absurd hu (hv u)
      have hg := HE1.out.s0
      clear hv
      go_wp2_with fail
      go_region
      go_wp2
      go_ret2
      exact ⟨by rw [HR.out]; rfl, HB1.out.drew⟩
  · have HH : Hid (¬ l.head? = some 115) := hh
    have HR : Hid (readS l = (0, 1)) := readS_no fun u _ h => absurd h hh
    clear hh
    go_enter Tryz.func61, Tryz.ntmps61
    go_wp2_with fail
    refine (cutPrefix_s l _).mono ?_
    rintro e w' ⟨rfl, rfl⟩
    rw [if_neg HH.out, decide_eq_false HH.out]
    go_wp2_with fail
    refine (atoi_any p l _ HE.out hl).mono ?_
    rintro e w1 ⟨hcase, hb1⟩
    have HB1 := Lib.hid hb1
    have hg := (HE.out.below hb1).s0
    clear hb1
    rcases hcase with ⟨v, hv, rfl⟩ | ⟨hv, v, N, rfl⟩
    · clear hv
      go_wp2_with fail
      go_region
      go_wp2
      go_ret2
      exact ⟨by rw [HR.out]; rfl, HB1.out.drew⟩
    · clear hv
      go_wp2_with fail
      go_region
      go_wp2
      go_ret2
      exact ⟨by rw [HR.out]; rfl, HB1.out.drew⟩
end Go.Proofs.YtmeipangcgdinaaGreatDoor
/-
  A text cut at its first line end, split at blanks, its line end cut off, and the number of bytes of a file read: contracts, over this seat's translation.
-/
namespace Go.Proofs.YtmeipangcgdinaaGreatDoor
open Go.RowKit Go.Shelf

theorem slCutBy_none (c : UInt8) (l : List UInt8) (w : World) (h : cutBy c l = none) : Calls Tryz.prog 121 #[.string ⟨l.toArray⟩, .string ⟨#[c]⟩] w fun e w' => e = .returned (.tuple #[.string ⟨l.toArray⟩, .string ⟨#[]⟩, .bool false]) ∧ w' = w := by
  have HI : Hid (Lib.indexByte l c = -1) := indexBy_none (cutBy_no.1 h)
  clear h
  go_enter Tryz.func121, Tryz.ntmps121
  go_wp2_with fail
  refine (Tryz.stringslite_Index_one _ c _).mono ?_
  rintro e w' ⟨rfl, rfl⟩
  rw [show Lib.indexByte ({ data := l.toArray } : ByteArray).data.toList c = -1 from by simpa using HI.out]
  go_wp2
  go_ret3
  exact ⟨rfl, rfl⟩

theorem slCutBy_some (c : UInt8) (l a b : List UInt8) (w : World) (hl : l.length ≤ 100000) (h : cutBy c l = some (a, b)) : Calls Tryz.prog 121 #[.string ⟨l.toArray⟩, .string ⟨#[c]⟩] w fun e w' => e = .returned (.tuple #[.string ⟨a.toArray⟩, .string ⟨b.toArray⟩, .bool true]) ∧ ∃ n, w' = w.drewN n := by
  have HL : Hid (l = a ++ c :: b) := (cutBy_some h).1
  have HI : Hid (Lib.indexByte l c = a.length) := by
    show Lib.indexByte l c = _
    rw [HL.out]
    exact indexBy_at b (cutBy_some h).2
  have hlen : a.length + b.length + 1 = l.length := by rw [HL.out]; simp; omega
  clear h
  go_enter Tryz.func121, Tryz.ntmps121
  go_wp2_with fail
  refine (Tryz.stringslite_Index_one _ c _).mono ?_
  rintro e w' ⟨rfl, rfl⟩
  rw [show Lib.indexByte ({ data := l.toArray } : ByteArray).data.toList c = a.length from by simpa using HI.out]
  go_wp2_with fail
  go_quiet (fail)
  go_wp2
  go_ret3
  refine ⟨?_, nq, rfl⟩
  have e1 : ({ data := l.toArray } : ByteArray).extract 0 a.length = ⟨a.toArray⟩ := by
    rw [extract_list, HL.out]; simp
  have e2 : ({ data := l.toArray } : ByteArray).extract (a.length + 1) l.length = ⟨b.toArray⟩ := by
    rw [extract_list, HL.out]
    simp
    rw [List.take_of_length_le (by omega)]
  rw [← e1, ← e2]
  rfl

theorem cutBy_miss (c : UInt8) (l : List UInt8) (w : World) (h : cutBy c l = none) : Calls Tryz.prog 104 #[.string ⟨l.toArray⟩, .string ⟨#[c]⟩] w fun e w' => e = .returned (.tuple #[.string ⟨l.toArray⟩, .string ⟨#[]⟩, .bool false]) ∧ w' = w := by
  have H : Hid (cutBy c l = none) := h
  clear h
  go_enter Tryz.func104, Tryz.ntmps104
  go_wp2_with fail
  refine (slCutBy_none _ _ _ H.out).mono ?_
  rintro e w' ⟨rfl, rfl⟩
  go_wp2
  go_ret3
  exact ⟨rfl, rfl⟩
theorem cutBy_hit (c : UInt8) (l a b : List UInt8) (w : World) (hl : l.length ≤ 100000) (h : cutBy c l = some (a, b)) : Calls Tryz.prog 104 #[.string ⟨l.toArray⟩, .string ⟨#[c]⟩] w fun e w' => e = .returned (.tuple #[.string ⟨a.toArray⟩, .string ⟨b.toArray⟩, .bool true]) ∧ ∃ n, w' = w.drewN n := by
  have H : Hid (cutBy c l = some (a, b)) := h
  clear h
  go_enter Tryz.func104, Tryz.ntmps104
  go_wp2_with fail
  refine (slCutBy_some _ _ _ _ _ hl H.out).mono ?_
  rintro e w' ⟨rfl, nq, rfl⟩
  go_wp2
  go_ret3
  exact ⟨rfl, nq, rfl⟩

theorem cutPrefix_by (c : UInt8) (l : List UInt8) (w : World) : Calls Tryz.prog 82 #[.string ⟨l.toArray⟩, .string ⟨#[c]⟩] w fun e w' => e = .returned (.tuple #[.string ⟨(if l.head? = some c then l.tail else l).toArray⟩, .bool (decide (l.head? = some c))]) ∧ w' = w := by
  refine (Tryz.strings_CutPrefix ⟨l.toArray⟩ ⟨#[c]⟩ w).mono fun e w' ⟨h1, h2⟩ => ⟨?_, h2⟩
  rw [h1]
  cases l with
  | nil => simp [Lib.trimPrefix, Lib.hasPrefix, List.isPrefixOf]
  | cons b r =>
    by_cases hb : b = c
    · subst hb
      simp [Lib.trimPrefix, Lib.hasPrefix, List.isPrefixOf]
    · have hb' : ¬ c = b := fun e => hb e.symm
      simp [Lib.trimPrefix, Lib.hasPrefix, List.isPrefixOf, hb, hb']

theorem splitK_pieces (c : UInt8) : ∀ (k : Nat) (l : List UInt8), l.count c = k → Lib.splitK [c] 0 k l = piecesBy c l
  | k, l, hk => by
    cases hc : cutBy c l with
    | none =>
      have hn := cutBy_no.1 hc
      rw [piecesBy_none hn]
      have h0 : k = 0 := by rw [← hk]; exact List.count_eq_zero.2 hn
      subst h0
      rfl
    | some x =>
      obtain ⟨e, hn⟩ := cutBy_some (a := x.1) (b := x.2) hc
      have h1 : k = (x.2.count c) + 1 := by
        rw [← hk, e, List.count_append, List.count_eq_zero.2 hn, List.count_cons_self]
        omega
      subst h1
      have ih := splitK_pieces c (x.2.count c) x.2 rfl
      have hi : Lib.index l [c] = x.1.length := by
        rw [Lib.index_one, e]
        exact indexBy_at x.2 hn
      rw [piecesBy_cut (a := x.1) (b := x.2) hc, Lib.splitK, if_neg (by rw [hi]; simp), hi, ← ih]
      have e1 : l.take ((x.1.length : Int).toNat + 0) = x.1 := by rw [e]; simp
      have e2 : l.drop ((x.1.length : Int).toNat + [c].length) = x.2 := by rw [e]; simp
      rw [e1, e2]

theorem splitB_pieces (c : UInt8) (l : List UInt8) : (Lib.splitB ⟨#[c]⟩ 0 (l.count c) ⟨l.toArray⟩).map Value.string = (piecesBy c l).map sv := by
  have h := Lib.splitB_data ⟨#[c]⟩ 0 (l.count c) ⟨l.toArray⟩
  have h' : (Lib.splitB ⟨#[c]⟩ 0 (l.count c) ⟨l.toArray⟩).map (·.data.toList) = piecesBy c l := by
    rw [h, ← splitK_pieces c _ l rfl]
  rw [← h', List.map_map]
  apply List.map_congr_left
  intro b _
  simp [sv]

theorem split_any (c : UInt8) (l : List UInt8) (w : World) (hl : l.length ≤ 100000) : Calls Tryz.prog 58 #[.string ⟨l.toArray⟩, .string ⟨#[c]⟩] w fun e w' => e = .returned (.slice (some ⟨w.heap.size, 0, none⟩) (piecesBy c l).length (piecesBy c l).length) ∧ w' = w.alloc (.cells ((piecesBy c l).map sv).toArray 9) := by
  have hs : (⟨l.toArray⟩ : ByteArray).size = l.length := by simp [ByteArray.size]
  have hcnt : Lib.countB ⟨l.toArray⟩ ⟨#[c]⟩ = l.count c := Lib.count_one c l
  have hle : l.count c ≤ l.length := List.count_le_length
  have hlen := piecesBy_length c l
  have hB := splitB_pieces c l
  have hBl : (Lib.splitB ⟨#[c]⟩ 0 (l.count c) ⟨l.toArray⟩).length = l.count c + 1 := by
    have := congrArg List.length hB
    rw [List.length_map, List.length_map] at this
    omega
  have core := Any.strings_genSplit_core Tryz.lays221 (by kernel_rfl) ⟨l.toArray⟩ ⟨#[c]⟩ 0 (-1) (l.count c + 1) w (by omega) (by simp [ByteArray.size]) (Nat.zero_le _)
    (fun x cs _ => (Tryz.strings_Index_one x c _).mono fun e w' ⟨h1, h2⟩ => ⟨by rw [h1]; show Ending.returned (.int .i64 (Lib.indexByte x.data.toList c)) = .returned (.int .i64 (Lib.index x.data.toList [c])); rw [Lib.index_one], h2⟩)
    ((Tryz.strings_Count_one ⟨l.toArray⟩ c w).mono fun e w' ⟨h1, h2⟩ => ⟨by rw [h1, hcnt]; rfl, h2⟩)
    (by decide) (by decide) (by rw [if_pos (by decide), hcnt, hs]; omega)
  rw [Nat.add_sub_cancel, hBl] at core
  have e2 : Lib.cellsOf (Lib.splitB ⟨#[c]⟩ 0 (l.count c) ⟨l.toArray⟩) (l.count c + 1) = ((piecesBy c l).map sv).toArray := by
    rw [← hB, ← hBl]
    exact Lib.cellsOf_full _
  rw [e2] at core
  have HC := Lib.hid core
  have HL := Lib.hid hlen
  clear core e2 hBl hB hcnt hlen
  go_enter Tryz.func58, Tryz.ntmps58
  go_wp2_with fail
  refine HC.out.mono ?_
  rintro e w' ⟨rfl, rfl⟩
  go_wp2
  go_ret
  rw [HL.out]
  exact ⟨rfl, rfl⟩

theorem digits_bound {v k : Nat} (h : (digitsL v).length ≤ k) : v < 10 ^ k := by
  have h1 := value_from (digitsL v) 0 (digits_digit v)
  rw [digits_value] at h1
  have h2 : 10 ^ (digitsL v).length ≤ 10 ^ k := Nat.pow_le_pow_right (by decide) h
  omega
theorem number_atoi {l : List UInt8} {v : Int} (h : 0 ≤ numberL l 6) (hv : Lib.atoiAll l = .ok v) : v = numberL l 6 ∧ l = digitsL v.toNat := by
  obtain ⟨m, hm⟩ := Int.eq_ofNat_of_zero_le h
  have e := number_inv h
  rw [hm, Int.toNat_natCast] at e
  have hl : (digitsL m).length ≤ 6 := by
    rw [← e]
    unfold numberL at h
    split at h
    · omega
    · omega
  have hb := digits_bound hl
  have := atoi_digits (n := m) (by omega)
  rw [← e, hv] at this
  cases this
  exact ⟨hm.symm, by simpa using e⟩
theorem number_of_digits {l : List UInt8} {v : Nat} (h : digitsL v = l) (hl : l.length ≤ 6) : numberL l 6 = v := by
  subst h
  exact number_digits (k := 5) (digits_bound hl)

/-- How many bytes: whether a word tells it, and what. -/
def sizeOfL (l : List UInt8) : Int × Bool := if 0 ≤ numberL l 6 then (numberL l 6, true) else (0, false)
theorem size_yes {l : List UInt8} {v : Nat} (h : digitsL v = l) (hl : l.length ≤ 6) : sizeOfL l = ((v : Int), true) := by
  unfold sizeOfL
  rw [number_of_digits h hl, if_pos (by omega)]
theorem size_no {l : List UInt8} (h : ∀ v, Lib.atoiAll l = .ok v → 0 ≤ v → l.length ≤ 6 → digitsL v.toNat ≠ l) : sizeOfL l = (0, false) := by
  unfold sizeOfL
  rw [if_neg]
  intro h0
  obtain ⟨m, hm⟩ := Int.eq_ofNat_of_zero_le h0
  have e := number_inv h0
  rw [hm, Int.toNat_natCast] at e
  have hl : l.length ≤ 6 := by
    unfold numberL at h0
    split at h0
    · omega
    · omega
  have hb := digits_bound (v := m) (k := 6) (by rw [← e]; exact hl)
  have ha := atoi_digits (n := m) (by omega)
  rw [← e] at ha
  exact h m ha (by omega) hl (by simpa using e.symm)

end Go.Proofs.YtmeipangcgdinaaGreatDoor
