/-
  The law PathInside returns true, whatever two texts it is called with, if the listed variables hold what the row lists: the walk of the law, over this seat's translation.
-/
import Derived.Test.YtpogcedghbokbaaDoorPathed
import Derived.Test.YtpogcedghbokbaaDoorPaths
import Derived.Test.YtpogcedghbokbaaDoorRefCut
import Derived.Test.YtpogcedghbokbaaDoorFacts
namespace Go.Proofs.YtpogcedghbokbaaDoor
open Go.RowKit Go.Shelf

theorem clean_len {s c : List UInt8} {ks : List (List UInt8)} (h : Clean s c ks) : c.length ≤ 78 := by
  have h1 := join_length (M := 12) (fun x hx => isPart_length (h.parts x hx))
  rw [← h.text] at h1
  have := h.few
  omega

theorem cat_toList (d c : List UInt8) : (({ data := d.toArray } : ByteArray) ++ { data := #[47] } ++ { data := c.toArray }).toList = d ++ 47 :: c := by
  rw [show ({ data := #[47] } : ByteArray) = ⟨[47].toArray⟩ from rfl, cat_list, cat_list, Lib.toList_data]
  simp

/-- A text longer than a statement speaks of. -/
theorem inside_long (p : Nat → Addr) (s d : ByteArray) (w : World) (hE : Env p w) (hs : s.size ≤ maxLen) (hd : d.size ≤ maxLen) (h : 100 < s.size ∨ 100 < d.size) :
    Calls Tryd.prog 3 #[.string s, .string d] w fun e w' => e = .returned (.bool true) ∧ Below w.heap.size w w' := by
  have HE : Hid (Env p w) := hE
  unfold maxLen at hs hd
  clear hE
  by_cases h1 : 100 < s.size
  · have h1' : (100 : Int) < s.size := by omega
    clear h
    go_enter Tryd.func3, Tryd.ntmps3
    go_wp2_with fail
    refine (pathed_any p _ HE.out).mono ?_
    rintro e w1 ⟨rfl, hb1⟩
    have HB1 : Hid (Below w.heap.size w w1) := hb1
    clear hb1
    go_wp2
    go_ret
    exact ⟨rfl, HB1.out⟩
  · have h2 : 100 < d.size := by omega
    have h1' : ¬ (100 : Int) < s.size := by omega
    have h2' : (100 : Int) < d.size := by omega
    clear h
    go_enter Tryd.func3, Tryd.ntmps3
    go_wp2_with fail
    refine (pathed_any p _ HE.out).mono ?_
    rintro e w1 ⟨rfl, hb1⟩
    have HB1 : Hid (Below w.heap.size w w1) := hb1
    clear hb1
    go_wp2
    go_ret
    exact ⟨rfl, HB1.out⟩

set_option maxHeartbeats 1000000 in
/-- A text that cannot be cleaned. -/
theorem inside_bad (p : Nat → Addr) (s d c : List UInt8) (k : Nat) (w : World) (hE : Env p w) (hs : s.length ≤ 100) (hd : d.length ≤ 100) (h : cleanL s = (c, k + 1)) :
    Calls Tryd.prog 3 #[.string ⟨s.toArray⟩, .string ⟨d.toArray⟩] w fun e w' => e = .returned (.bool true) ∧ Below w.heap.size w w' := by
  obtain rfl := cleanL_bad h
  have HE : Hid (Env p w) := hE
  have H : Hid (cleanL s = ([], k + 1)) := h
  have hs' : ¬ (100 : Int) < s.length := by omega
  have hd' : ¬ (100 : Int) < d.length := by omega
  clear hE h
  go_enter Tryd.func3, Tryd.ntmps3
  go_wp2_with fail
  refine (pathed_any p _ HE.out).mono ?_
  rintro e w1 ⟨rfl, hb1⟩
  have HB1 : Hid (Below w.heap.size w w1) := hb1
  have HE1 : Hid (Env p w1) := HE.out.below hb1
  clear hb1
  go_wp2_with fail
  refine (clean_bad p s [] k _ HE1.out (by omega) H.out).mono ?_
  rintro e w2 ⟨rfl, hb2⟩
  have HB2 : Hid (Below w.heap.size w w2) := HB1.out.trans (hb2.mono HB1.out.size)
  clear hb2
  go_wp2
  go_ret
  exact ⟨rfl, HB2.out⟩

set_option maxRecDepth 100000 in
set_option maxHeartbeats 2000000 in
/-- A text that is cleaned to nothing. -/
theorem inside_empty (p : Nat → Addr) (s d : List UInt8) (ks : List (List UInt8)) (w : World) (hE : Env p w) (hs : s.length ≤ 100) (hd : d.length ≤ 100) (h : Clean s [] ks) :
    Calls Tryd.prog 3 #[.string ⟨s.toArray⟩, .string ⟨d.toArray⟩] w fun e w' => e = .returned (.bool true) ∧ Below w.heap.size w w' := by
  have HE : Hid (Env p w) := hE
  have H : Hid (Clean s [] ks) := h
  have hs' : ¬ (100 : Int) < s.length := by omega
  have hd' : ¬ (100 : Int) < d.length := by omega
  clear hE h
  go_enter Tryd.func3, Tryd.ntmps3
  go_wp2_with fail
  refine (pathed_any p _ HE.out).mono ?_
  rintro e w1 ⟨rfl, hb1⟩
  have HB1 : Hid (Below w.heap.size w w1) := hb1
  have HE1 : Hid (Env p w1) := HE.out.below hb1
  clear hb1
  go_wp2_with fail
  refine (clean_ok p s [] _ HE1.out (by omega) (cleanL_of H.out)).mono ?_
  rintro e w2 ⟨rfl, hb2⟩
  have HB2 : Hid (Below w.heap.size w w2) := HB1.out.trans (hb2.mono HB1.out.size)
  have HE2 : Hid (Env p w2) := HE1.out.below hb2
  clear hb2
  go_wp2_with fail
  refine (clean_ok p [] [] _ HE2.out (by decide) (cleanL_of (clean_again H.out))).mono ?_
  rintro e w3 ⟨rfl, hb3⟩
  have HB3 : Hid (Below w.heap.size w w3) := HB2.out.trans (hb3.mono HB2.out.size)
  have HE3 : Hid (Env p w3) := HE2.out.below hb3
  clear hb3
  go_wp2_with fail
  refine (refCut_any [] _ (by decide)).mono ?_
  rintro e w4 ⟨v, rfl, hrow, hb4⟩
  have HB4 : Hid (Below w.heap.size w w4) := HB3.out.trans (hb4.mono HB3.out.size)
  have HE4 : Hid (Env p w4) := HE3.out.below hb4
  clear hb4
  rw [show pieces [] = [[]] from rfl] at hrow
  obtain ⟨g, cap, rfl⟩ := ownsRow_succ (k := 0) hrow
  have hcell := hrow.cellAt 0 (by decide)
  simp at hcell
  clear hrow
  go_wp2_with fail
  go_loop [10] (fun i => ∃ k : Nat, k ≤ 1 ∧ i = .int .i64 k) (fun i => 1 - (intOf i).toNat)
  case atStart => exact ⟨0, by omega, rfl⟩
  case round =>
    obtain ⟨k, hk, rfl⟩ := hrel
    by_cases hlt : k < 1
    · have hk0 : k = 0 := by omega
      subst hk0
      go_wp2
      go_round
      case rel => exact ⟨1, by omega, by go_num⟩
      case measure => simp [intOf]
    · cases hcd : checkCode d with
      | zero =>
        have HC : Hid (checkCode d = 0) := hcd
        clear hcd
        go_wp2_with fail
        refine (check_ok p d _ HE4.out (by omega) HC.out).mono ?_
        rintro e w5 ⟨rfl, hb5⟩
        have HB5 : Hid (Below w.heap.size w w5) := HB4.out.trans (hb5.mono HB4.out.size)
        clear hb5
        go_wp2
        go_ret
        exact ⟨rfl, HB5.out⟩
      | succ j =>
        have HC : Hid (checkCode d = j + 1) := hcd
        clear hcd
        go_wp2_with fail
        refine (check_bad p d j _ HE4.out (by omega) HC.out).mono ?_
        rintro e w5 ⟨rfl, hb5⟩
        have HB5 : Hid (Below w.heap.size w w5) := HB4.out.trans (hb5.mono HB4.out.size)
        clear hb5
        go_wp2
        go_ret
        exact ⟨rfl, HB5.out⟩

set_option maxRecDepth 100000 in
set_option maxHeartbeats 4000000 in
/-- A text that is cleaned to a path. -/
theorem inside_full (p : Nat → Addr) (s d c : List UInt8) (ks : List (List UInt8)) (w : World) (hE : Env p w) (hs : s.length ≤ 100) (hd : d.length ≤ 100) (h : Clean s c ks) (hc : c ≠ []) :
    Calls Tryd.prog 3 #[.string ⟨s.toArray⟩, .string ⟨d.toArray⟩] w fun e w' => e = .returned (.bool true) ∧ Below w.heap.size w w' := by
  have hcl := clean_len h
  have HE : Hid (Env p w) := hE
  have H : Hid (Clean s c ks) := h
  have HCN : Hid (c ≠ []) := hc
  have hc0 : c.isEmpty = false := by simpa using hc
  have hs' : ¬ (100 : Int) < s.length := by omega
  have hd' : ¬ (100 : Int) < d.length := by omega
  clear hE h hc
  go_enter Tryd.func3, Tryd.ntmps3
  go_wp2_with fail
  refine (pathed_any p _ HE.out).mono ?_
  rintro e w1 ⟨rfl, hb1⟩
  have HB1 : Hid (Below w.heap.size w w1) := hb1
  have HE1 : Hid (Env p w1) := HE.out.below hb1
  clear hb1
  go_wp2_with fail
  refine (clean_ok p s c _ HE1.out (by omega) (cleanL_of H.out)).mono ?_
  rintro e w2 ⟨rfl, hb2⟩
  have HB2 : Hid (Below w.heap.size w w2) := HB1.out.trans (hb2.mono HB1.out.size)
  have HE2 : Hid (Env p w2) := HE1.out.below hb2
  clear hb2
  go_wp2_with fail
  refine (clean_ok p c c _ HE2.out (by omega) (cleanL_of (clean_again H.out))).mono ?_
  rintro e w3 ⟨rfl, hb3⟩
  have HB3 : Hid (Below w.heap.size w w3) := HB2.out.trans (hb3.mono HB2.out.size)
  have HE3 : Hid (Env p w3) := HE2.out.below hb3
  clear hb3
  go_wp2_with fail
  refine (check_ok p c _ HE3.out (by omega) (clean_path H.out HCN.out)).mono ?_
  rintro e w4 ⟨rfl, hb4⟩
  have HB4 : Hid (Below w.heap.size w w4) := HB3.out.trans (hb4.mono HB3.out.size)
  have HE4 : Hid (Env p w4) := HE3.out.below hb4
  clear hb4
  go_wp2_with fail
  refine (refCut_any c _ (by omega)).mono ?_
  rintro e w5 ⟨v, rfl, hrow, hb5⟩
  have HB5 : Hid (Below w.heap.size w w5) := HB4.out.trans (hb5.mono HB4.out.size)
  have HE5 : Hid (Env p w5) := HE4.out.below hb5
  clear hb5
  have HIN : Hid (∀ x ∈ pieces c, x ≠ [46] ∧ x ≠ [46, 46] ∧ (c ≠ [] → x ≠ [])) := clean_inside H.out
  have hpn : 1 ≤ (pieces c).length := by
    have := pieces_ne c
    rcases hl : pieces c with _ | ⟨x, r⟩
    · exact absurd hl this
    · simp
  have hpl := pieces_length c
  obtain ⟨m, hm⟩ : ∃ m, (pieces c).length = m + 1 := ⟨(pieces c).length - 1, by omega⟩
  rw [hm] at hrow
  obtain ⟨g, cap, rfl⟩ := ownsRow_succ hrow
  have HCELL : Hid (∀ k (hk : k < (pieces c).length), w5.cell? ⟨g, k, none⟩ = some (.string ⟨((pieces c)[k]).toArray⟩)) := fun k hk => by
    rw [hrow.cellAt k (by omega), List.getElem?_map, List.getElem?_eq_getElem hk]
    rfl
  have HM : Hid ((pieces c).length = m + 1) := hm
  have hm1 : m ≤ 100 := by omega
  clear hrow hm hpn hpl
  go_wp2_with fail
  go_loop [10] (fun i => ∃ k : Nat, k ≤ m + 1 ∧ i = .int .i64 k) (fun i => m + 1 - (intOf i).toNat)
  case atStart => exact ⟨0, by omega, rfl⟩
  case round =>
    obtain ⟨k, hk, rfl⟩ := hrel
    by_cases hlt : k < m + 1
    · have hkl : k < (pieces c).length := by rw [HM.out]; exact hlt
      have hcell := HCELL.out k hkl
      obtain ⟨n1, n2, n3⟩ := HIN.out _ (List.getElem_mem hkl)
      have n3' := n3 HCN.out
      generalize (pieces c)[k] = x at hcell n1 n2 n3'
      have hx1 : (x == [46]) = false := by simpa using n1
      have hx2 : (x == [46, 46]) = false := by simpa using n2
      have hx3 : x.isEmpty = false := by simpa using n3'
      clear n1 n2 n3 n3' hkl
      go_wp2
      go_round
      case rel => exact ⟨k + 1, by omega, by go_num⟩
      case measure => simp [intOf]; omega
    · cases hcd : checkCode d with
      | succ j =>
        have HC : Hid (checkCode d = j + 1) := hcd
        clear hcd
        go_wp2_with fail
        refine (check_bad p d j _ HE5.out (by omega) HC.out).mono ?_
        rintro e w6 ⟨rfl, hb6⟩
        have HB6 : Hid (Below w.heap.size w w6) := HB5.out.trans (hb6.mono HB5.out.size)
        clear hb6
        go_wp2
        go_ret
        exact ⟨rfl, HB6.out⟩
      | zero =>
        have HC : Hid (checkCode d = 0) := hcd
        clear hcd
        go_wp2_with fail
        refine (check_ok p d _ HE5.out (by omega) HC.out).mono ?_
        rintro e w6 ⟨rfl, hb6⟩
        have HB6 : Hid (Below w.heap.size w w6) := HB5.out.trans (hb6.mono HB5.out.size)
        have HE6 : Hid (Env p w6) := HE5.out.below hb6
        have HJ : Hid (∀ s', Clean s' c ks → cleanL (joinTo d s') = if 6 < (pieces d).length + ks.length then ([], 8) else (d ++ 47 :: c, 0)) := fun s' h' => by
          unfold joinTo
          rw [if_neg (path_ne HC.out)]
          exact join_below HC.out h' HCN.out
        clear hb6
        by_cases hf : 6 < (pieces d).length + ks.length
        · have HJ1 : Hid (cleanL (joinTo d s) = ([], 7 + 1)) := by
            show cleanL (joinTo d s) = _
            rw [HJ.out s H.out, if_pos hf]
          clear hf HJ
          go_wp2_with fail
          refine (pathJoin_bad p d s [] 7 _ HE6.out (by omega) (by omega) HJ1.out).mono ?_
          rintro e w7 ⟨rfl, hb7⟩
          have HB7 : Hid (Below w.heap.size w w7) := HB6.out.trans (hb7.mono HB6.out.size)
          have HE7 : Hid (Env p w7) := HE6.out.below hb7
          clear hb7
          go_wp2_with fail
          refine (coded_sent p 7 8 _ HE7.out (by decide) (by decide)).mono ?_
          rintro e w8 ⟨rfl, hb8⟩
          have HB8 : Hid (Below w.heap.size w w8) := HB7.out.trans (hb8.mono HB7.out.size)
          clear hb8
          go_wp2
          go_ret
          exact ⟨rfl, HB8.out⟩
        · have HJ1 : Hid (cleanL (joinTo d s) = (d ++ 47 :: c, 0)) := by
            show cleanL (joinTo d s) = _
            rw [HJ.out s H.out, if_neg hf]
          have HJ2 : Hid (cleanL (joinTo d c) = (d ++ 47 :: c, 0)) := by
            show cleanL (joinTo d c) = _
            rw [HJ.out c (clean_again H.out), if_neg hf]
          have HIS : Hid (isIn (d ++ 47 :: c) d = true) := by
            show isIn _ _ = true
            have e1 := joined_path HC.out H.out HCN.out (by omega)
            have e2 : Lib.hasPrefix (d ++ 47 :: c) (d ++ [47]) = true := by
              have := hasPrefix_app (d ++ [47]) c
              simpa using this
            simp [isIn, e1, e2]
          clear hf HJ
          go_wp2_with fail
          refine (pathJoin_ok p d s (d ++ 47 :: c) _ HE6.out (by omega) (by omega) HJ1.out).mono ?_
          rintro e w7 ⟨rfl, hb7⟩
          have HB7 : Hid (Below w.heap.size w w7) := HB6.out.trans (hb7.mono HB6.out.size)
          have HE7 : Hid (Env p w7) := HE6.out.below hb7
          clear hb7
          go_wp2_with fail
          refine (pathJoin_ok p d c (d ++ 47 :: c) _ HE7.out (by omega) (by omega) HJ2.out).mono ?_
          rintro e w8 ⟨rfl, hb8⟩
          have HB8 : Hid (Below w.heap.size w w8) := HB7.out.trans (hb8.mono HB7.out.size)
          have HE8 : Hid (Env p w8) := HE7.out.below hb8
          clear hb8
          go_wp2_with fail
          refine (in_any p (d ++ 47 :: c) d _ HE8.out (by simp; omega) (by omega)).mono ?_
          rintro e w9 ⟨rfl, hb9⟩
          have HB9 : Hid (Below w.heap.size w w9) := HB8.out.trans (hb9.mono HB8.out.size)
          clear hb9
          rw [HIS.out]
          go_wp2
          go_ret
          exact ⟨ret_bool (by rw [cat_toList]; simp), HB9.out⟩

theorem inside_any (p : Nat → Addr) (s d : ByteArray) (w : World) (hE : Env p w) (hs : s.size ≤ maxLen) (hd : d.size ≤ maxLen) :
    Calls Tryd.prog 3 #[.string s, .string d] w fun e w' => e = .returned (.bool true) ∧ Below w.heap.size w w' := by
  by_cases h : 100 < s.size ∨ 100 < d.size
  · exact inside_long p s d w hE hs hd h
  · obtain ⟨s, rfl⟩ : ∃ l : List UInt8, s = ⟨l.toArray⟩ := ⟨s.data.toList, by cases s; simp⟩
    obtain ⟨d, rfl⟩ : ∃ l : List UInt8, d = ⟨l.toArray⟩ := ⟨d.data.toList, by cases d; simp⟩
    simp only [ByteArray.size, List.size_toArray] at h
    have hs' : s.length ≤ 100 := by omega
    have hd' : d.length ≤ 100 := by omega
    rcases hc : cleanL s with ⟨c, k⟩
    cases k with
    | succ k => exact inside_bad p s d c k w hE hs' hd' hc
    | zero =>
      obtain ⟨ks, hk⟩ := cleanL_ok hc
      by_cases h0 : c = []
      · subst h0
        exact inside_empty p s d ks w hE hs' hd' hk
      · exact inside_full p s d c ks w hE hs' hd' hk h0
end Go.Proofs.YtpogcedghbokbaaDoor
