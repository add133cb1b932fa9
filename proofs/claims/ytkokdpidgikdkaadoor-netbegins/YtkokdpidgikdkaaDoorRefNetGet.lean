/-
  The document's net: Get: a contract, over this seat's translation.
-/
import Derived.Test.YtkokdpidgikdkaaDoorRefNet
namespace Go.Proofs.YtkokdpidgikdkaaDoor
open Go.RowKit Go.Shelf

theorem inTexts_nil (s : List UInt8) (w : World) : Calls Tryd.prog 34 #[.string ⟨s.toArray⟩, .slice none 0 0] w fun e w' => e = .returned (.bool false) ∧ w' = w := by
  go_enter Tryd.func34, Tryd.ntmps34
  go_wp2_with fail
  refine wp_loop_rounds 1 ?_
  rw [rounds_succ]
  go_wp2
  go_ret
  exact ⟨rfl, rfl⟩
/-- InTexts of a row of texts. -/
theorem inTexts_row (s : List UInt8) (v : Value) (k : List (List UInt8)) (base : Nat) (w : World) (hk : k.length ≤ 100000) (h : w.ownsRow base 9 1 v k.length (k.map sv)) :
    Calls Tryd.prog 34 #[.string ⟨s.toArray⟩, v] w fun e w' => e = .returned (.bool (decide (s ∈ k))) ∧ w' = w := by
  rcases h.2 with ⟨h1, h2⟩ | ⟨g, cap, cur, h1, _⟩
  · have hk0 : k = [] := List.length_eq_zero_iff.1 h2
    subst hk0
    subst h1
    exact inTexts_nil s w
  · subst h1
    have hcell : ∀ j (hj : j < k.length), w.cell? ⟨g, 0 + j, none⟩ = some (.string ⟨(k[j]).toArray⟩) := fun j hj => by
      rw [Nat.zero_add, h.cellAt j (by omega), List.getElem?_map, List.getElem?_eq_getElem hj]
      rfl
    exact inTexts_any s g 0 cap k w hk hcell

set_option maxRecDepth 100000 in
set_option maxHeartbeats 2000000 in
theorem refGet_any (mb : Nat) (vL vO : Value) (s : Ns) (u : List UInt8) (w : World) (h : RefAt w mb vL vO s) (hl : s.l.length ≤ 100000) (ho : s.off.length ≤ 100000) (hc : s.calls ≤ 1000000) (hu : u.length ≤ 90000) :
    Calls Tryd.prog 24 #[.pointer (some ⟨mb, 0, none⟩), .string ⟨u.toArray⟩] w fun e w' => e = .returned (.tuple #[.string ⟨(getN s u).2.1.toArray⟩, .int .i64 (getN s u).2.2]) ∧ ∃ vL' vO', RefLeft w mb vL vO (getN s u).1 w' vL' vO' := by
  have H := Lib.hid h
  clear h
  obtain ⟨c, hck⟩ : ∃ c, checkK u = c := ⟨_, rfl⟩
  obtain ⟨z, hz⟩ : ∃ z : Int, ((c : Nat) : Int) = z := ⟨_, rfl⟩
  go_enter Tryd.func24, Tryd.ntmps24
  go_wp2_with fail
  refine (linkError_is u z _ hu (by rw [hck, hz])).mono ?_
  rintro e w1 ⟨rfl, hb1⟩
  have H1 := Lib.hid (H.out.below hb1)
  have HB1 := Lib.hid hb1
  clear hb1
  by_cases hpos : 0 < c
  · have HC : Hid (getN s u = (s, [], c)) := by
      show getN s u = (s, [], c)
      obtain ⟨j, rfl⟩ : ∃ j, c = j + 1 := ⟨c - 1, by omega⟩
      exact getN_bad hck
    have HZ := Lib.hid hz
    have hz0 : 0 < z := by omega
    clear hck hz hpos
    go_wp2
    go_ret2
    exact ⟨by rw [HC.out]; show Ending.returned (.tuple #[.string ⟨#[]⟩, .int .i64 z]) = _; rw [← HZ.out], vL, vO, by rw [HC.out]; exact RefLeft.of_below H.out HB1.out⟩
  obtain rfl : c = 0 := by omega
  obtain rfl : z = 0 := by omega
  have c2 := H1.out.c2
  have z2 := H1.out.live 2
  have HK := Lib.hid hck
  obtain ⟨⟨hh, q, cc⟩, hlp⟩ : ∃ r, linkL u = r := ⟨_, rfl⟩
  have HP := Lib.hid hlp
  clear hck hz hpos hlp
  go_wp2_with fail
  have HM : ((s.calls : Int) + 1) = ((s.calls + 1 : Nat) : Int) := by omega
  rw [HM]
  have HR := Lib.hid ((RefLeft.of_below H.out HB1.out).trans (H1.out.count (s.calls + 1)))
  generalize w1.setCell ⟨mb, 2, none⟩ (.int .i64 ((s.calls + 1 : Nat) : Int)) = w2 at HR ⊢
  clear c2 z2 HM H1 HB1 H
  refine (linkParts_is u hh q cc _ hu HP.out).mono ?_
  rintro e w3 ⟨⟨kk, rfl⟩, hb3⟩
  have HR3 := Lib.hid (HR.out.trans (RefLeft.of_below HR.out.ref hb3))
  have c1 := HR3.out.ref.c1
  have HO : Hid (w3.ownsRow (mb + 1) 9 1 vO s.off.length (s.off.map sv)) := HR3.out.ref.offs
  clear hb3 HR w2
  go_wp2_with fail
  refine (inTexts_row hh vO s.off _ _ ho HO.out).mono ?_
  rintro e w' ⟨rfl, hw'⟩
  obtain rfl : w3 = w' := hw'.symm
  clear HO c1
  have hhost : (linkL u).1 = hh := by rw [HP.out]
  by_cases hin : hh ∈ s.off
  · have HC : Hid (getN s u = ({ s with calls := s.calls + 1 }, [], 13)) := getN_off HK.out (by rw [hhost]; exact hin)
    rw [decide_eq_true hin]
    clear hin hhost
    go_wp2
    go_ret2
    exact ⟨by rw [HC.out]; rfl, vL, vO, by rw [HC.out]; exact HR3.out⟩
  · rw [decide_eq_false hin]
    have HNI : Hid (¬ (linkL u).1 ∈ s.off) := by show ¬ (linkL u).1 ∈ s.off; rw [hhost]; exact hin
    clear hin hhost
    cases hs : spotN s.l u with
    | none =>
      have HC := Lib.hid (getN_none HK.out HNI.out hs)
      have HA := Lib.hid (atN_none hs)
      clear hs
      go_wp2_with fail
      refine (refFind_is mb vL vO { s with calls := s.calls + 1 } u _ _ HR3.out.ref hl HA.out).mono ?_
      rintro e w' ⟨rfl, hw'⟩
      obtain rfl : w3 = w' := hw'.symm
      go_wp2
      go_ret2
      exact ⟨by rw [HC.out]; rfl, vL, vO, by rw [HC.out]; exact HR3.out⟩
    | some i =>
      obtain ⟨hi, _⟩ := spot_some hs
      have HC := Lib.hid (getN_good HK.out HNI.out hs hi)
      have HA := Lib.hid (atN_some hs)
      obtain ⟨g, cap, rfl, hcap, k0, k1, k2, _⟩ := HR3.out.ref.site hi
      have c0 := HR3.out.ref.c0
      have hi' : (i : Int) < (s.l.length : Int) := by omega
      have hi0 : (0 : Int) ≤ (i : Int) := by omega
      have k1' : w3.cell? ⟨g, i * 3 + 1, none⟩ = some (.string ⟨s.l[i].t.toArray⟩) := k1
      have k2' : w3.cell? ⟨g, i * 3 + 2, none⟩ = some (.int .i64 s.l[i].c) := k2
      clear hs k0 k1 k2
      generalize s.l[i] = x at HC k1' k2'
      obtain ⟨xu, xt, xc⟩ := x
      simp only at k1' k2'
      go_wp2_with fail
      refine (refFind_is mb _ vO { s with calls := s.calls + 1 } u _ _ HR3.out.ref hl HA.out).mono ?_
      rintro e w' ⟨rfl, hw'⟩
      obtain rfl : w3 = w' := hw'.symm
      by_cases h0 : 0 ≤ xc
      · by_cases h1 : xc < (xt.length : Int)
        · have HX : Hid (comesN ⟨xu, xt, xc⟩ = xt.take xc.toNat) := if_pos ⟨h0, h1⟩
          have h2 : xc ≤ (xt.length : Int) := by omega
          obtain ⟨m, rfl⟩ := Int.eq_ofNat_of_zero_le h0
          have e1 : ({ data := xt.toArray } : ByteArray).extract 0 m = ⟨(xt.take m).toArray⟩ := extract_to xt m
          go_wp2
          go_ret2
          exact ⟨by rw [HC.out, HX.out]; simp only [Int.toNat_natCast]; rfl, _, vO, by rw [HC.out]; exact HR3.out⟩
        · have HX : Hid (comesN ⟨xu, xt, xc⟩ = xt) := if_neg (fun h => h1 h.2)
          have h1' : decide (xc < (xt.length : Int)) = false := by simp; omega
          clear h1
          go_wp2
          go_ret2
          exact ⟨by rw [HC.out, HX.out]; rfl, _, vO, by rw [HC.out]; exact HR3.out⟩
      · have HX : Hid (comesN ⟨xu, xt, xc⟩ = xt) := if_neg (fun h => h0 h.1)
        have h0' : decide (0 ≤ xc) = false := by simp; omega
        clear h0
        go_wp2
        go_ret2
        exact ⟨by rw [HC.out, HX.out]; rfl, _, vO, by rw [HC.out]; exact HR3.out⟩
end Go.Proofs.YtkokdpidgikdkaaDoor
