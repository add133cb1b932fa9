/-
  The document's answer for paths, further: PathError, SameTexts, glue, Begins, IsIn, StripOf: contracts, over this seat's translation.
-/
import Derived.Test.YtpogcedghbokbaaGreatDoorRef
import Derived.Test.YtpogcedghbokbaaGreatDoorRefBegins
namespace Go.Proofs.YtpogcedghbokbaaGreatDoor
open Go.RowKit Go.Shelf

theorem pathError_any (s : List UInt8) (w : World) (hs : s.length ≤ 90000) :
    Calls Tryz.prog 40 #[.string ⟨s.toArray⟩] w fun e w' => e = .returned (.int .i64 (checkCode s)) ∧ Below w.heap.size w w' := by
  go_enter Tryz.func40, Tryz.ntmps40
  go_wp2_with fail
  refine (partsOf_any s _ hs).mono ?_
  rintro e w1 ⟨⟨v, rfl, _, _⟩, hb⟩
  have HB : Hid (Below w.heap.size w w1) := hb
  clear hb
  go_wp2
  go_ret
  exact ⟨rfl, HB.out⟩

theorem join_snoc {k : List (List UInt8)} (x : List UInt8) (h : k ≠ []) : Lib.join (k ++ [x]) [47] = Lib.join k [47] ++ [47] ++ x := by
  rw [join_app h (by simp), Lib.join_one]; simp

set_option maxHeartbeats 1000000 in
/-- glue. -/
theorem glue_own (g o cap : Nat) (k : List (List UInt8)) (w : World) (hk : k.length ≤ 100000) (hM : ∀ x ∈ k, x.length ≤ 100000) (h : ∀ j (h : j < k.length), w.cell? ⟨g, o + j, none⟩ = some (.string ⟨(k[j]).toArray⟩)) :
    Calls Tryz.prog 71 #[.slice (some ⟨g, o, none⟩) k.length cap] w fun e w' => e = .returned (.string ⟨(Lib.join k [47]).toArray⟩) ∧ w' = w := by
  have H : Hid (∀ j (h : j < k.length), w.cell? ⟨g, o + j, none⟩ = some (.string ⟨(k[j]).toArray⟩)) := h
  have HM : Hid (∀ x ∈ k, x.length ≤ 100000) := hM
  clear h hM
  go_enter Tryz.func71, Tryz.ntmps71
  go_wp2_with fail
  go_loop [3, 4] (fun t i => ∃ q : Nat, q ≤ k.length ∧ i = .int .i64 q ∧ t = .string ⟨(Lib.join (k.take q) [47]).toArray⟩) (fun _ i => k.length - (intOf i).toNat)
  case atStart => exact ⟨0, by omega, rfl, rfl⟩
  case round =>
    obtain ⟨q, hq, rfl, rfl⟩ := hrel
    by_cases hlt : q < k.length
    · have hc := H.out q hlt
      have hxl := HM.out _ (List.getElem_mem hlt)
      have hjl := join_length (M := 100000) (k := k.take q) (fun y hy => HM.out y (List.mem_of_mem_take hy))
      rw [List.length_take, Nat.min_eq_left (by omega)] at hjl
      have hjl' : (Lib.join (k.take q) [47]).length ≤ 20000000000 := by omega
      clear hjl
      by_cases h0 : q = 0
      · subst h0
        have HS : Hid (Lib.join (k.take 1) [47] = k[0]) := by
          show Lib.join _ _ = _
          rw [List.take_succ_eq_append_getElem (by omega)]
          simp [Lib.join_one]
        rw [Nat.add_zero] at hc
        generalize k[0] = x at hc hxl HS
        have hj0 : Lib.join (k.take 0) [47] = [] := by simp [Lib.join_nil]
        rw [hj0]
        clear hjl' hj0
        go_wp2
        go_round
        case rel => exact ⟨1, by omega, by go_num, by rw [HS.out]; first | rfl | (rw [show ({ data := #[] } : ByteArray) = ⟨[].toArray⟩ from rfl, cat_list]; simp)⟩
        case measure => simp [intOf]; omega
      · have HS : Hid (Lib.join (k.take (q + 1)) [47] = Lib.join (k.take q) [47] ++ [47] ++ k[q]) := by
          show Lib.join _ _ = _
          rw [List.take_succ_eq_append_getElem hlt, join_snoc _ (by
            intro e
            have := congrArg List.length e
            rw [List.length_take, List.length_nil] at this
            omega)]
        have h0' : (0 : Int) < q := by omega
        generalize k[q] = x at hc hxl HS
        generalize Lib.join (k.take q) [47] = y at hjl' HS ⊢
        clear h0
        go_wp2
        go_round
        case rel => exact ⟨q + 1, by omega, by go_num, by rw [HS.out, show ({ data := #[47] } : ByteArray) = ⟨[47].toArray⟩ from rfl, cat_list, cat_list]⟩
        case measure => simp [intOf]; omega
    · have hql : q = k.length := by omega
      subst hql
      rw [List.take_length]
      go_wp2
      go_ret
      exact ⟨rfl, rfl⟩

theorem glue_none (a : Option Addr) (cap : Nat) (w : World) : Calls Tryz.prog 71 #[.slice a 0 cap] w fun e w' => e = .returned (.string ⟨#[]⟩) ∧ w' = w := by
  go_enter Tryz.func71, Tryz.ntmps71
  go_wp2_with fail
  refine wp_loop_rounds 1 ?_
  rw [rounds_succ]
  go_wp2
  go_ret
  exact ⟨rfl, rfl⟩

set_option maxHeartbeats 1000000 in
theorem refIsIn_any (s dir : List UInt8) (w : World) (hs : s.length ≤ 90000) (hd : dir.length ≤ 90000) :
    Calls Tryz.prog 41 #[.string ⟨s.toArray⟩, .string ⟨dir.toArray⟩] w fun e w' => e = .returned (.bool (isIn s dir)) ∧ Below w.heap.size w w' := by
  by_cases hc : checkCode s = 0
  · have HC : Hid (((checkCode s : Nat) : Int) = 0) := by show ((checkCode s : Nat) : Int) = 0; rw [hc]; rfl
    have HI : Hid (isIn s dir = (dir.isEmpty || Lib.hasPrefix s (dir ++ [47]))) := by
      show isIn s dir = _
      simp [isIn, hc]
    have HPD : Hid (Lib.hasPrefix s (dir ++ [47]) = true → checkCode dir = 0) := fun h => by
      have h' : dir ++ [47] <+: s := by simpa [Lib.hasPrefix] using h
      obtain ⟨r, hr⟩ := h'
      have e : s = dir ++ 47 :: r := by rw [← hr]; simp
      obtain ⟨hp, hl⟩ := checkCode_zero.1 hc
      rw [e, pieces_app] at hp hl
      rw [checkCode_zero]
      exact ⟨fun x hx => hp x (List.mem_append_left _ hx), by rw [List.length_append] at hl; omega⟩
    clear hc
    go_enter Tryz.func41, Tryz.ntmps41
    go_wp2_with fail
    refine (pathError_any s _ hs).mono ?_
    rintro e w1 ⟨rfl, hb⟩
    have HB : Hid (Below w.heap.size w w1) := hb
    clear hb
    rw [HC.out]
    by_cases h0 : dir = []
    · subst h0
      go_wp2
      go_ret
      exact ⟨ret_bool (by rw [HI.out]; rfl), HB.out⟩
    · have hb0 : dir.isEmpty = false := by simpa using h0
      have HI' : Hid (isIn s dir = Lib.hasPrefix s (dir ++ [47])) := by
        show isIn s dir = _
        rw [HI.out, hb0]; simp
      clear h0 HI
      by_cases hcd : checkCode dir = 0
      · have HCD : Hid (((checkCode dir : Nat) : Int) = 0) := by show ((checkCode dir : Nat) : Int) = 0; rw [hcd]; rfl
        clear hcd
        go_wp2_with fail
        refine (pathError_any dir _ hd).mono ?_
        rintro e w2 ⟨rfl, hb2⟩
        have HB2 : Hid (Below w.heap.size w w2) := HB.out.trans (hb2.mono HB.out.size)
        clear hb2
        rw [HCD.out]
        go_wp2_with fail
        rw [show ({ data := dir.toArray } : ByteArray) ++ { data := #[47] } = ⟨(dir ++ [47]).toArray⟩ from by
          rw [show ({ data := #[47] } : ByteArray) = ⟨[47].toArray⟩ from rfl, cat_list]]
        refine (begins_any s (dir ++ [47]) _ (by omega) (by simp; omega)).mono ?_
        rintro e w3 ⟨rfl, rfl⟩
        rw [← HI'.out]
        go_wp2
        go_ret
        exact ⟨rfl, HB2.out⟩
      · have HF : Hid (isIn s dir = false) := by
          show isIn s dir = false
          rw [HI'.out, Bool.eq_false_iff]
          intro h
          exact hcd (HPD.out h)
        have hne : (((checkCode dir : Nat) : Int) == 0) = false := by rw [beq_eq_false_iff_ne]; omega
        clear hcd
        go_wp2_with fail
        refine (pathError_any dir _ hd).mono ?_
        rintro e w2 ⟨rfl, hb2⟩
        have HB2 : Hid (Below w.heap.size w w2) := HB.out.trans (hb2.mono HB.out.size)
        clear hb2
        go_wp2
        go_ret
        exact ⟨ret_bool HF.out.symm, HB2.out⟩
  · have HF : Hid (isIn s dir = false) := by
      show isIn s dir = _
      simp [isIn, hc]
    have hne : (0 : Int) < ((checkCode s : Nat) : Int) := by omega
    clear hc
    go_enter Tryz.func41, Tryz.ntmps41
    go_wp2_with fail
    refine (pathError_any s _ hs).mono ?_
    rintro e w1 ⟨rfl, hb⟩
    have HB : Hid (Below w.heap.size w w1) := hb
    clear hb
    go_wp2
    go_ret
    exact ⟨ret_bool HF.out.symm, HB.out⟩

set_option maxRecDepth 100000 in
set_option maxHeartbeats 2000000 in
theorem stripOf_any (s : List UInt8) (n : Int) (w : World) (hs : s.length ≤ 90000) :
    Calls Tryz.prog 49 #[.string ⟨s.toArray⟩, .int .i64 n] w fun e w' => e = .returned (.tuple #[.string ⟨(stripL s n).1.toArray⟩, .int .i64 (stripL s n).2]) ∧ Below w.heap.size w w' := by
  by_cases hc : checkCode s = 0
  · have HCZ : Hid (((checkCode s : Nat) : Int) = 0) := by show ((checkCode s : Nat) : Int) = 0; rw [hc]; rfl
    have HC : Hid (checkCode s = 0) := hc
    have HS : Hid (stripL s n = if n < 0 then ([], 2) else if ((pieces s).length : Int) ≤ n then ([], 3) else (Lib.join ((pieces s).drop n.toNat) [47], 0)) := by
      show stripL s n = _
      unfold stripL
      rw [hc]; simp
    have HPT : Hid (∀ x ∈ pieces s, isPart x = true) := (checkCode_zero.1 hc).1
    have hp6 := (checkCode_zero.1 hc).2
    have hpn : 1 ≤ (pieces s).length := by
      have := pieces_ne s
      rcases hl : pieces s with _ | ⟨x, r⟩
      · exact absurd hl this
      · simp
    clear hc
    have hcase : n < 0 ∨ (∃ m : Nat, n = m ∧ (pieces s).length ≤ m) ∨ (∃ m : Nat, n = m ∧ m < (pieces s).length) := by
      by_cases h : n < 0
      · exact .inl h
      · replace h : 0 ≤ n := by omega
        obtain ⟨m, rfl⟩ := Int.eq_ofNat_of_zero_le h
        rcases Nat.lt_or_ge m (pieces s).length with h' | h'
        · exact .inr (.inr ⟨m, rfl, h'⟩)
        · exact .inr (.inl ⟨m, rfl, h'⟩)
    rcases hcase with hn | ⟨m, rfl, hl⟩ | ⟨m, rfl, hl⟩
    · rw [HS.out, if_pos hn]
      go_enter Tryz.func49, Tryz.ntmps49
      go_wp2_with fail
      refine (partsOf_any s _ hs).mono ?_
      rintro e w1 ⟨⟨v, rfl, _, _⟩, hb⟩
      have HB : Hid (Below w.heap.size w w1) := hb
      clear hb
      rw [HCZ.out]
      go_wp2
      go_ret2
      exact ⟨rfl, HB.out⟩
    · have hl' : ((pieces s).length : Int) ≤ (m : Int) := by omega
      rw [HS.out, if_neg (by omega), if_pos hl']
      go_enter Tryz.func49, Tryz.ntmps49
      go_wp2_with fail
      refine (partsOf_any s _ hs).mono ?_
      rintro e w1 ⟨⟨v, rfl, hrow, _⟩, hb⟩
      have HB : Hid (Below w.heap.size w w1) := hb
      obtain ⟨a, cap, rfl⟩ := ownsRow_slice (hrow HC.out)
      clear hb hrow
      rw [HCZ.out]
      go_wp2
      go_ret2
      exact ⟨rfl, HB.out⟩
    · have hl' : ¬ ((pieces s).length : Int) ≤ (m : Int) := by omega
      rw [HS.out, if_neg (by omega), if_neg hl', Int.toNat_natCast]
      go_enter Tryz.func49, Tryz.ntmps49
      go_wp2_with fail
      refine (partsOf_any s _ hs).mono ?_
      rintro e w1 ⟨⟨v, rfl, hr, _⟩, hb⟩
      have HB : Hid (Below w.heap.size w w1) := hb
      have hrow := hr HC.out
      obtain ⟨q, hq⟩ : ∃ q, (pieces s).length = q + 1 := ⟨(pieces s).length - 1, by omega⟩
      have hrow' := hrow
      rw [hq] at hrow'
      obtain ⟨g, cap, rfl⟩ := ownsRow_succ hrow'
      rw [← hq] at hrow
      obtain ⟨hcell, hgl, hcap1, hcap2⟩ := owns_cells hrow rfl
      unfold maxLen at hcap2
      have HCELL : Hid (∀ j (h : j < (pieces s).length), w1.cell? ⟨g, j, none⟩ = some (.string ⟨((pieces s)[j]).toArray⟩)) := hcell
      rw [← hq, HCZ.out]
      clear hrow hrow' hcell hq hb hr
      go_wp2_with fail
      have HJ := glue_own g m (cap - m) ((pieces s).drop m) w1 (by rw [List.length_drop]; omega) (fun x hx => by have := isPart_length (HPT.out x (List.mem_of_mem_drop hx)); omega) (fun j h => by
        have h' : m + j < (pieces s).length := by rw [List.length_drop] at h; omega
        rw [HCELL.out (m + j) h', List.getElem_drop])
      rw [List.length_drop] at HJ
      refine HJ.mono ?_
      rintro e w2 ⟨rfl, rfl⟩
      clear HJ
      go_wp2
      go_ret2
      exact ⟨rfl, HB.out⟩
  · have HS : Hid (stripL s n = ([], checkCode s)) := by
      show stripL s n = _
      unfold stripL
      simp [hc]
    have hne : (0 : Int) < ((checkCode s : Nat) : Int) := by omega
    rw [HS.out]
    clear hc
    go_enter Tryz.func49, Tryz.ntmps49
    go_wp2_with fail
    refine (partsOf_any s _ hs).mono ?_
    rintro e w1 ⟨⟨v, rfl, _, _⟩, hb⟩
    have HB : Hid (Below w.heap.size w w1) := hb
    clear hb
    go_wp2
    go_ret2
    exact ⟨rfl, HB.out⟩
end Go.Proofs.YtpogcedghbokbaaGreatDoor
