/-
  The law PathStrips returns true, whatever text and numbers it is called with, if the listed variables hold what the row lists: the walk of the law, over this seat's translation.
-/
import Derived.Test.YtpogcedghbokbaaDoorPathed
import Derived.Test.YtpogcedghbokbaaDoorParts
namespace Go.Proofs.YtpogcedghbokbaaDoor
open Go.RowKit Go.Shelf

set_option maxHeartbeats 1000000 in
theorem strips_out (p : Nat → Addr) (s : ByteArray) (n m : Int) (w : World) (hE : Env p w) (hs : s.size ≤ maxLen) (h : 100 < s.size ∨ n < 0 ∨ 20 < n ∨ m < 0 ∨ 20 < m) :
    Calls Tryd.prog 5 #[.string s, .int .i64 n, .int .i64 m] w fun e w' => e = .returned (.bool true) ∧ Below w.heap.size w w' := by
  have HE : Hid (Env p w) := hE
  unfold maxLen at hs
  clear hE
  have hc : (100 : Int) < s.size ∨ (¬ (100 : Int) < s.size ∧ n < 0) ∨ (¬ (100 : Int) < s.size ∧ ¬ n < 0 ∧ 20 < n) ∨ (¬ (100 : Int) < s.size ∧ ¬ n < 0 ∧ ¬ 20 < n ∧ m < 0) ∨ (¬ (100 : Int) < s.size ∧ ¬ n < 0 ∧ ¬ 20 < n ∧ ¬ m < 0 ∧ 20 < m) := by omega
  clear h
  rcases hc with h | ⟨h1, h2⟩ | ⟨h1, h2, h3⟩ | ⟨h1, h2, h3, h4⟩ | ⟨h1, h2, h3, h4, h5⟩
  all_goals
    go_enter Tryd.func5, Tryd.ntmps5
    go_wp2_with fail
    refine (pathed_any p _ HE.out).mono ?_
    rintro e w1 ⟨rfl, hb1⟩
    have HB1 : Hid (Below w.heap.size w w1) := hb1
    clear hb1
    go_wp2
    go_ret
    exact ⟨rfl, HB1.out⟩

set_option maxHeartbeats 1000000 in
theorem strips_bad (p : Nat → Addr) (s : List UInt8) (n m k : Nat) (w : World) (hE : Env p w) (hs : s.length ≤ 100) (hn : n ≤ 20) (hm : m ≤ 20) (h : checkCode s = k + 1) :
    Calls Tryd.prog 5 #[.string ⟨s.toArray⟩, .int .i64 n, .int .i64 m] w fun e w' => e = .returned (.bool true) ∧ Below w.heap.size w w' := by
  have HE : Hid (Env p w) := hE
  have H : Hid (checkCode s = k + 1) := h
  have hs' : ¬ (100 : Int) < s.length := by omega
  have hn' : ¬ (20 : Int) < n := by omega
  have hm' : ¬ (20 : Int) < m := by omega
  clear hE h
  go_enter Tryd.func5, Tryd.ntmps5
  go_wp2_with fail
  refine (pathed_any p _ HE.out).mono ?_
  rintro e w1 ⟨rfl, hb1⟩
  have HB1 : Hid (Below w.heap.size w w1) := hb1
  have HE1 : Hid (Env p w1) := HE.out.below hb1
  clear hb1
  go_wp2_with fail
  refine (parts_bad p s k _ HE1.out (by omega) H.out).mono ?_
  rintro e w2 ⟨rfl, hb2⟩
  have HB2 : Hid (Below w.heap.size w w2) := HB1.out.trans (hb2.mono HB1.out.size)
  clear hb2
  go_wp2
  go_ret
  exact ⟨rfl, HB2.out⟩

set_option maxRecDepth 100000 in
set_option maxHeartbeats 4000000 in
theorem strips_ok (p : Nat → Addr) (s : List UInt8) (n m : Nat) (w : World) (hE : Env p w) (hs : s.length ≤ 100) (hn : n ≤ 20) (hm : m ≤ 20) (h : checkCode s = 0) :
    Calls Tryd.prog 5 #[.string ⟨s.toArray⟩, .int .i64 n, .int .i64 m] w fun e w' => e = .returned (.bool true) ∧ Below w.heap.size w w' := by
  have HE : Hid (Env p w) := hE
  have H : Hid (checkCode s = 0) := h
  have hs' : ¬ (100 : Int) < s.length := by omega
  have hn' : ¬ (20 : Int) < n := by omega
  have hm' : ¬ (20 : Int) < m := by omega
  have HPT : Hid (∀ x ∈ pieces s, isPart x = true) := (checkCode_zero.1 h).1
  have hp6 := (checkCode_zero.1 h).2
  have hpn : 1 ≤ (pieces s).length := by
    have := pieces_ne s
    rcases hl : pieces s with _ | ⟨x, r⟩
    · exact absurd hl this
    · simp
  clear hE h
  go_enter Tryd.func5, Tryd.ntmps5
  go_wp2_with fail
  refine (pathed_any p _ HE.out).mono ?_
  rintro e w1 ⟨rfl, hb1⟩
  have HB1 : Hid (Below w.heap.size w w1) := hb1
  have HE1 : Hid (Env p w1) := HE.out.below hb1
  clear hb1
  go_wp2_with fail
  refine (parts_ok p s _ HE1.out (by omega) H.out).mono ?_
  rintro e w2 ⟨v, rfl, hrow, hb2⟩
  have HB2 : Hid (Below w.heap.size w w2) := HB1.out.trans (hb2.mono HB1.out.size)
  have HE2 : Hid (Env p w2) := HE1.out.below hb2
  clear hb2
  obtain ⟨q, hq⟩ : ∃ q, (pieces s).length = q + 1 := ⟨(pieces s).length - 1, by omega⟩
  have hrow' := hrow
  rw [hq] at hrow'
  obtain ⟨g, cap, rfl⟩ := ownsRow_succ hrow'
  rw [← hq] at hrow
  obtain ⟨hcell, hgl, hcap1, hcap2⟩ := owns_cells hrow rfl
  have HCELL : Hid (∀ j (h : j < (pieces s).length), w2.cell? ⟨g, j, none⟩ = some (.string ⟨((pieces s)[j]).toArray⟩)) := hcell
  rw [← hq]
  clear hrow hrow' hcell hq hcap1 hcap2
  by_cases hlt : n < (pieces s).length
  · have hlt' : (n : Int) < ((pieces s).length : Int) := by omega
    have HS : Hid (stripL s n = (Lib.join ((pieces s).drop n) [47], 0)) := by
      show stripL s n = _
      unfold stripL
      rw [H.out]
      simp only [ne_eq, not_true_eq_false, if_false, Int.toNat_natCast]
      rw [if_neg (by omega), if_neg (by omega)]
    have HX := rest_path H.out hlt
    have HX1 : Hid (pieces (Lib.join ((pieces s).drop n) [47]) = (pieces s).drop n ∧ checkCode (Lib.join ((pieces s).drop n) [47]) = 0) := HX
    have HT : Hid (∀ m : Nat, stripL (Lib.join ((pieces s).drop n) [47]) m = stripL s ((n : Int) + m)) := fun m => strip_twice H.out hlt
    have HH : Hid (headL ((pieces s).take n) ++ Lib.join ((pieces s).drop n) [47] = s) := strip_head hlt
    have hxl : (Lib.join ((pieces s).drop n) [47]).length ≤ 100 := by
      have := congrArg List.length HH.out
      rw [List.length_append] at this
      omega
    clear HX
    go_wp2_with fail
    refine (strip_ok p s _ n _ HE2.out (by omega) HS.out).mono ?_
    rintro e w3 ⟨rfl, hb3⟩
    have HB3 : Hid (Below w.heap.size w w3) := HB2.out.trans (hb3.mono HB2.out.size)
    have HE3 : Hid (Env p w3) := HE2.out.below hb3
    have HC3 : Hid (∀ j (h : j < (pieces s).length), w3.cell? ⟨g, j, none⟩ = some (.string ⟨((pieces s)[j]).toArray⟩)) := fun j h => (hb3.cell (p := ⟨g, j, none⟩) hgl).trans (HCELL.out j h)
    clear hb3 HCELL
    generalize hxx : Lib.join ((pieces s).drop n) [47] = x at *
    clear hxx
    go_wp2_with fail
    go_loop [11, 12] (fun hd i => ∃ k : Nat, k ≤ n ∧ i = .int .i64 k ∧ hd = .string ⟨(headL ((pieces s).take k)).toArray⟩) (fun _ i => n - (intOf i).toNat)
    case atStart => exact ⟨0, by omega, rfl, rfl⟩
    case round =>
      obtain ⟨k, hk, rfl, rfl⟩ := hrel
      by_cases hkn : k < n
      · have hkl : k < (pieces s).length := by omega
        have hcell := HC3.out k hkl
        have hxk := isPart_length (HPT.out _ (List.getElem_mem hkl))
        have hhl := headL_length (M := 12) (ks := (pieces s).take k) (fun y hy => isPart_length (HPT.out y (List.mem_of_mem_take hy)))
        rw [List.length_take] at hhl
        have hhl' : (headL ((pieces s).take k)).length ≤ 100 := by omega
        have HSN : Hid (headL ((pieces s).take (k + 1)) = headL ((pieces s).take k) ++ (pieces s)[k] ++ [47]) := by
          show headL _ = _
          rw [List.take_succ_eq_append_getElem hkl, headL_snoc]
        clear hhl
        generalize (pieces s)[k] = y at hcell hxk HSN
        go_wp2
        go_round
        case rel => exact ⟨k + 1, by omega, by go_num, by rw [HSN.out, show ({ data := #[47] } : ByteArray) = ⟨[47].toArray⟩ from rfl, cat_list, cat_list]⟩
        case measure => simp [intOf]; omega
      · have hkn' : k = n := by omega
        subst hkn'
        have hhl : (headL ((pieces s).take k)).length ≤ 100 := by
          have := congrArg List.length HH.out
          rw [List.length_append] at this
          omega
        have HQ : Hid ((({ data := (headL ((pieces s).take k)).toArray } : ByteArray) ++ { data := x.toArray }).toList = s) := by
          show ByteArray.toList _ = s
          rw [cat_list, Lib.toList_data]
          simpa using HH.out
        generalize headL ((pieces s).take k) = hd at hhl HQ HH ⊢
        have hq : ((({ data := hd.toArray } : ByteArray) ++ { data := x.toArray }).toList == s) = true := by rw [HQ.out]; simp
        clear hkn
        obtain ⟨⟨y, c⟩, hr⟩ : ∃ r, stripL s ((k : Int) + m) = r := ⟨_, rfl⟩
        have HR1 : Hid (stripL s ((k : Int) + m) = (y, c)) := hr
        have HR2 : Hid (stripL x m = (y, c)) := (HT.out m).trans hr
        clear hr
        cases c with
        | zero =>
          go_wp2_with fail
          refine (strip_ok p x y m _ HE3.out (by omega) HR2.out).mono ?_
          rintro e w4 ⟨rfl, hb4⟩
          have HB4 : Hid (Below w.heap.size w w4) := HB3.out.trans (hb4.mono HB3.out.size)
          have HE4 : Hid (Env p w4) := HE3.out.below hb4
          clear hb4
          go_wp2_with fail
          refine (strip_ok p s y ((k : Int) + m) _ HE4.out (by omega) HR1.out).mono ?_
          rintro e w5 ⟨rfl, hb5⟩
          have HB5 : Hid (Below w.heap.size w w5) := HB4.out.trans (hb5.mono HB4.out.size)
          clear hb5
          go_wp2_with fail
          go_quiet (fail)
          go_wp2
          go_ret
          exact ⟨ret_bool (by simp), below_drewN HB5.out _⟩
        | succ j =>
          go_wp2_with fail
          refine (strip_bad p x y j m _ HE3.out (by omega) HR2.out).mono ?_
          rintro e w4 ⟨rfl, hb4⟩
          have HB4 : Hid (Below w.heap.size w w4) := HB3.out.trans (hb4.mono HB3.out.size)
          have HE4 : Hid (Env p w4) := HE3.out.below hb4
          clear hb4
          go_wp2_with fail
          refine (strip_bad p s y j ((k : Int) + m) _ HE4.out (by omega) HR1.out).mono ?_
          rintro e w5 ⟨rfl, hb5⟩
          have HB5 : Hid (Below w.heap.size w w5) := HB4.out.trans (hb5.mono HB4.out.size)
          clear hb5
          go_wp2_with fail
          go_quiet (fail)
          go_wp2
          go_ret
          exact ⟨ret_bool (by simp), below_drewN HB5.out _⟩
  · have hlt' : ¬ (n : Int) < ((pieces s).length : Int) := by omega
    have HS : Hid (stripL s n = ([], 2 + 1)) := by
      show stripL s n = _
      unfold stripL
      rw [H.out]
      simp only [ne_eq, not_true_eq_false, if_false]
      rw [if_neg (by omega), if_pos (by omega)]
    go_wp2_with fail
    refine (strip_bad p s [] 2 n _ HE2.out (by omega) HS.out).mono ?_
    rintro e w3 ⟨rfl, hb3⟩
    have HB3 : Hid (Below w.heap.size w w3) := HB2.out.trans (hb3.mono HB2.out.size)
    clear hb3
    go_wp2
    go_ret
    exact ⟨rfl, HB3.out⟩

theorem strips_any (p : Nat → Addr) (s : ByteArray) (n m : Int) (w : World) (hE : Env p w) (hs : s.size ≤ maxLen) :
    Calls Tryd.prog 5 #[.string s, .int .i64 n, .int .i64 m] w fun e w' => e = .returned (.bool true) ∧ Below w.heap.size w w' := by
  by_cases h : 100 < s.size ∨ n < 0 ∨ 20 < n ∨ m < 0 ∨ 20 < m
  · exact strips_out p s n m w hE hs h
  · obtain ⟨s, rfl⟩ : ∃ l : List UInt8, s = ⟨l.toArray⟩ := ⟨s.data.toList, by cases s; simp⟩
    simp only [ByteArray.size, List.size_toArray] at h
    obtain ⟨n, rfl⟩ := Int.eq_ofNat_of_zero_le (by omega : 0 ≤ n)
    obtain ⟨m, rfl⟩ := Int.eq_ofNat_of_zero_le (by omega : 0 ≤ m)
    cases hc : checkCode s with
    | zero => exact strips_ok p s n m w hE (by omega) (by omega) (by omega) hc
    | succ k => exact strips_bad p s n m k w hE (by omega) (by omega) (by omega) hc
end Go.Proofs.YtpogcedghbokbaaDoor
