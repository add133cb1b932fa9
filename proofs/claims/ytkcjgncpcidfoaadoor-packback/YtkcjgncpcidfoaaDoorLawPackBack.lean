/-
  The statement PackBack answers true, whatever comes in: over this seat's translation.
-/
import Derived.Test.YtkcjgncpcidfoaaDoorPacked
import Derived.Test.YtkcjgncpcidfoaaDoorPkPackMake
import Derived.Test.YtkcjgncpcidfoaaDoorRefSame
import Derived.Test.YtkcjgncpcidfoaaDoorCame
namespace Go.Proofs.YtkcjgncpcidfoaaDoor
open Go.RowKit Go.Shelf

theorem told_fine {f : Nat} {args : Array Value} {p : Nat → Addr} {W : World} {r : List F × Nat × Int} {T : List F} (h : Calls Tryd.prog f args W fun e w' => Told p w' e r ∧ Below W.heap.size W w') (hr : r = (T, 0, -1)) :
    Calls Tryd.prog f args W fun e w' => (∃ a ca, e = .returned (.tuple #[.slice a T.length ca, .nilIface]) ∧ LiesAt w' a T ∧ T.length ≤ ca) ∧ Below W.heap.size W w' :=
  h.mono fun _ _ ⟨ht, hb⟩ => ⟨ht.fine hr, hb⟩
theorem told_bad {f : Nat} {args : Array Value} {p : Nat → Addr} {W : World} {r : List F × Nat × Int} {c : Nat} {i : Int} (h : Calls Tryd.prog f args W fun e w' => Told p w' e r ∧ Below W.heap.size W w') (hr : r = ([], c, i)) (hc : c ≠ 0) :
    Calls Tryd.prog f args W fun e w' => (∃ a ca T u, e = .returned (.tuple #[.slice a 0 ca, .iface T u])) ∧ Below W.heap.size W w' :=
  h.mono fun _ _ ⟨ht, hb⟩ => by
    obtain ⟨a, ca, T, u, he, _⟩ := ht.bad hr hc
    exact ⟨⟨a, ca, T, u, he⟩, hb⟩

set_option maxRecDepth 100000 in
set_option maxHeartbeats 8000000 in
open Classical in
theorem packBack_any (p : Nat → Addr) (l : List F) (a : Option Addr) (ca : Nat) (s : List UInt8) (cut : Int) (w : World) (hE : Env p w) (hS : SEnv p w) (hC : Came w a ca l) :
    Calls Tryd.prog 3 #[.slice a l.length ca, .string ⟨s.toArray⟩, .int .i64 cut] w fun e w' => e = .returned (.bool true) ∧ Below w.heap.size w w' := by
  have HE := Lib.hid hE
  have HS := Lib.hid hS
  have HC := Lib.hid hC
  clear hE hS hC
  go_enter Tryd.func3, Tryd.ntmps3
  go_wp2_with fail
  refine (packed_any p _ HE.out HS.out).mono ?_
  rintro e w1 ⟨rfl, hb1⟩
  have HB1 := Lib.hid hb1
  clear hb1
  rcases longL_or l with hlong | hlong
  case inr =>
    go_wp2_with fail
    refine (long_is (HC.out.below HB1.out) 1 hlong).mono ?_
    rintro e w2 ⟨rfl, rfl⟩
    go_wp2
    go_ret
    exact ⟨rfl, HB1.out⟩
  go_wp2_with fail
  refine (long_is (HC.out.below HB1.out) 0 hlong).mono ?_
  rintro e w2 ⟨rfl, rfl⟩
  by_cases hs : 2000 < s.length
  · have hs' : (2000 : Int) < (s.length : Int) := by omega
    go_wp2
    go_ret
    exact ⟨rfl, HB1.out⟩
  have hs' : decide ((2000 : Int) < (s.length : Int)) = false := by simp; omega
  have HSM := Lib.hid (small_of_long hlong)
  have hln := HSM.out.few
  clear hlong
  go_wp2_with fail
  rcases readP_cases s with ⟨r, hr, hrs, hrt⟩ | ⟨c, i, hr, hc⟩
  · have HR := Lib.hid hr
    refine (told_fine (packRead_any p s _ (HE.out.below HB1.out) (HS.out.below HB1.out) (by omega)) HR.out).mono ?_
    rintro e w3 ⟨⟨ra, rc, rfl, hrl, hrc⟩, hb3⟩
    have HB3 := Lib.hid (HB1.out.trans (hb3.mono HB1.out.size))
    have HRL := Lib.hid hrl
    have hsr : Small r := small_pack (by rw [hrs]; omega)
    have hgood := (tree_good.1 hrt).1.right
    have HG := Lib.hid hgood
    have hrn := hsr.few
    have HMK : Hid (makeL r = s) := by
      show makeL r = s
      rw [make_yes hrt, hrs]
    have hM := packMake_any p r ra rc w3 (HE.out.below HB3.out) (HS.out.below HB3.out) hrl hrc hsr
    rw [HMK.out, treeFault_zero hrt] at hM
    have HM := Lib.hid hM
    clear hb3 hrl hgood hr hrs hrt hM hsr HR
    go_wp2_with fail
    refine HM.out.mono ?_
    rintro e w4 ⟨⟨v, rfl, hv⟩, hb4⟩
    have := hv.isNil
    subst this
    have HB4 := Lib.hid (HB3.out.trans (hb4.mono HB3.out.size))
    have HRL4 := Lib.hid (HRL.out.below hb4)
    clear hv hb4 HM HRL HMK
    go_wp2_with fail
    go_loopw [12] (fun iv wr => ∃ q : Nat, q ≤ r.length ∧ iv = .int .i64 q ∧ Below w4.heap.size w4 wr) (fun iv _ => r.length - (intOf iv).toNat)
    case atStart => exact ⟨0, by omega, rfl, Below.refl _ _⟩
    case round =>
      obtain ⟨q, hq, rfl, hb⟩ := hrel
      have HBR := Lib.hid hb
      have HB := Lib.hid (HB4.out.trans (hb.mono HB4.out.size))
      clear hb
      by_cases hlt : q < r.length
      · have hlt' : (q : Int) < (r.length : Int) := by omega
        obtain ⟨rb, ro, rfl, c0, _, _⟩ := (HRL4.out.below HBR.out).at hlt
        have hck := (HG.out _ (List.getElem_mem hlt)).1
        generalize r[q].p = pa at c0 hck
        have hpl := path_short hck
        have HK := Lib.hid (clean_itself hck)
        clear hck
        go_wp2_with fail
        refine (clean_ok p pa pa _ (HE.out.below HB.out) (by omega) HK.out).mono ?_
        rintro e w6 ⟨rfl, hb6⟩
        have c6 := (hb6.cell (p := ⟨rb, ro + q * 3, none⟩) (block_lt_of_cell c0)).trans c0
        have HB6 := Lib.hid (HBR.out.trans (hb6.mono HBR.out.size))
        clear hb6 c0
        go_wp2
        go_roundw
        case rel => exact ⟨q + 1, by omega, by go_num, HB6.out⟩
        case measure => simp [intOf]; omega
      · obtain rfl : q = r.length := by omega
        go_wp2_with fail
        refine (ownFiles_any l a ca _ (HC.out.lies.below HB.out) HC.out.nil hln).mono ?_
        rintro e t1 ⟨⟨v, rfl, hown⟩, tb1⟩
        obtain ⟨oa, oc, rfl, hol, hoc⟩ := owns_files hown
        have HT1 := Lib.hid (HB.out.trans (tb1.mono HB.out.size))
        have HOL := Lib.hid hol
        clear hown hol tb1
        go_wp2_with fail
        refine (packMake_any p l oa oc _ (HE.out.below HT1.out) (HS.out.below HT1.out) HOL.out hoc HSM.out).mono ?_
        rintro e t2 ⟨⟨v, rfl, hv⟩, tb2⟩
        have HT2 := Lib.hid (HT1.out.trans (tb2.mono HT1.out.size))
        clear tb2
        by_cases hz : (treeFault l).1 = 0
        · rw [hz] at hv
          have := hv.isNil
          subst this
          rw [make_yes hz]
          have HZ := Lib.hid hz
          have hps := pack_small hz
          have HRP := Lib.hid (readP_pack hz)
          have HRC := Lib.hid (fun (y : List F) (k : Nat) (hk : k < (packL l).length) (hy : readP ((packL l).take k) = (y, 0, -1)) => readP_cut hz hk hy)
          generalize packL l = t at hps HRP HRC
          clear hv hz
          go_wp2_with fail
          refine (told_fine (packRead_any p t _ (HE.out.below HT2.out) (HS.out.below HT2.out) (by omega)) HRP.out).mono ?_
          rintro e t3 ⟨⟨xa, xc, rfl, hxl, _⟩, tb3⟩
          have HT3 := Lib.hid (HT2.out.trans (tb3.mono HT2.out.size))
          have HXL := Lib.hid hxl
          clear tb3 hxl
          go_wp2_with fail
          refine (sameTrees_any l l xa a xc ca _ HXL.out (HC.out.lies.below HT3.out) hln hln).mono ?_
          rintro e t4 ⟨rfl, tb4⟩
          have HT4 := Lib.hid (HT3.out.trans (tb4.mono HT3.out.size))
          rw [decide_eq_true rfl]
          clear tb4
          by_cases hc0 : cut < 0
          · go_wp2
            go_ret
            exact ⟨rfl, HT4.out⟩
          · have hc0' : decide (cut < 0) = false := by simp; omega
            by_cases hcl : (t.length : Int) ≤ cut
            · go_wp2
              go_ret
              exact ⟨rfl, HT4.out⟩
            · have hcl' : decide ((t.length : Int) ≤ cut) = false := by simp; omega
              obtain ⟨k, rfl⟩ := Int.eq_ofNat_of_zero_le (Int.not_lt.1 hc0)
              have hkt : (k : Int) ≤ (t.length : Int) := by omega
              have hkl : k < t.length := by omega
              have e1 : ({ data := t.toArray } : ByteArray).extract 0 k = ⟨(t.take k).toArray⟩ := by rw [extract_list]; simp
              clear hc0 hcl
              go_wp2_with fail
              rcases readP_cases (t.take k) with ⟨y, hy, _, _⟩ | ⟨c, i, hy, hc⟩
              · obtain ⟨hyl, hyt⟩ := HRC.out y k hkl hy
                have HY := Lib.hid hy
                have HYT := Lib.hid hyt
                have htl : (t.take k).length ≤ 90000 := by rw [List.length_take]; omega
                clear hy hyt
                refine (told_fine (packRead_any p (t.take k) _ (HE.out.below HT4.out) (HS.out.below HT4.out) htl) HY.out).mono ?_
                rintro e t5 ⟨⟨ya, yc, rfl, hyl5, _⟩, tb5⟩
                have HT5 := Lib.hid (HT4.out.trans (tb5.mono HT4.out.size))
                have HYL := Lib.hid hyl5
                have hla : LiesAt t5 a y := by
                  rw [HYT.out]
                  exact (HC.out.lies.below HT5.out).take _
                obtain ⟨lb, lo, rfl, _⟩ := HC.out.lies.at (k := 0) (by omega)
                have HLA := Lib.hid hla
                have hcap := HC.out.cap
                have hlt' : (y.length : Int) < (l.length : Int) := by omega
                have hyc : (y.length : Int) ≤ (ca : Int) := by omega
                have hy0 : (0 : Int) ≤ (y.length : Int) := by omega
                clear tb5 hyl5 hla
                go_wp2_with fail
                refine (sameTrees_any y y ya _ yc _ _ HYL.out HLA.out (by omega) (by omega)).mono ?_
                rintro e t6 ⟨rfl, tb6⟩
                have HT6 := Lib.hid (HT5.out.trans (tb6.mono HT5.out.size))
                rw [decide_eq_true rfl]
                clear tb6
                go_wp2
                go_ret
                exact ⟨rfl, HT6.out⟩
              · have HY := Lib.hid hy
                have htl : (t.take k).length ≤ 90000 := by rw [List.length_take]; omega
                clear hy
                refine (told_bad (packRead_any p (t.take k) _ (HE.out.below HT4.out) (HS.out.below HT4.out) htl) HY.out hc).mono ?_
                rintro e t5 ⟨⟨ya, yc, T, u, rfl⟩, tb5⟩
                have HT5 := Lib.hid (HT4.out.trans (tb5.mono HT4.out.size))
                clear tb5
                go_wp2
                go_ret
                exact ⟨rfl, HT5.out⟩
        · obtain ⟨T, u, rfl⟩ := hv.some hz
          rw [make_no hz]
          clear hv hz
          go_wp2
          go_ret
          exact ⟨rfl, HT2.out⟩
  · have HR := Lib.hid hr
    refine (told_bad (packRead_any p s _ (HE.out.below HB1.out) (HS.out.below HB1.out) (by omega)) HR.out hc).mono ?_
    rintro e w3 ⟨⟨ra, rc, T, u, rfl⟩, hb3⟩
    have HB := Lib.hid (HB1.out.trans (hb3.mono HB1.out.size))
    clear hb3 hr HR
    go_wp2_with fail
    refine (ownFiles_any l a ca _ (HC.out.lies.below HB.out) HC.out.nil hln).mono ?_
    rintro e t1 ⟨⟨v, rfl, hown⟩, tb1⟩
    obtain ⟨oa, oc, rfl, hol, hoc⟩ := owns_files hown
    have HT1 := Lib.hid (HB.out.trans (tb1.mono HB.out.size))
    have HOL := Lib.hid hol
    clear hown hol tb1
    go_wp2_with fail
    refine (packMake_any p l oa oc _ (HE.out.below HT1.out) (HS.out.below HT1.out) HOL.out hoc HSM.out).mono ?_
    rintro e t2 ⟨⟨v, rfl, hv⟩, tb2⟩
    have HT2 := Lib.hid (HT1.out.trans (tb2.mono HT1.out.size))
    clear tb2
    by_cases hz : (treeFault l).1 = 0
    · rw [hz] at hv
      have := hv.isNil
      subst this
      rw [make_yes hz]
      have HZ := Lib.hid hz
      have hps := pack_small hz
      have HRP := Lib.hid (readP_pack hz)
      have HRC := Lib.hid (fun (y : List F) (k : Nat) (hk : k < (packL l).length) (hy : readP ((packL l).take k) = (y, 0, -1)) => readP_cut hz hk hy)
      generalize packL l = t at hps HRP HRC
      clear hv hz
      go_wp2_with fail
      refine (told_fine (packRead_any p t _ (HE.out.below HT2.out) (HS.out.below HT2.out) (by omega)) HRP.out).mono ?_
      rintro e t3 ⟨⟨xa, xc, rfl, hxl, _⟩, tb3⟩
      have HT3 := Lib.hid (HT2.out.trans (tb3.mono HT2.out.size))
      have HXL := Lib.hid hxl
      clear tb3 hxl
      go_wp2_with fail
      refine (sameTrees_any l l xa a xc ca _ HXL.out (HC.out.lies.below HT3.out) hln hln).mono ?_
      rintro e t4 ⟨rfl, tb4⟩
      have HT4 := Lib.hid (HT3.out.trans (tb4.mono HT3.out.size))
      rw [decide_eq_true rfl]
      clear tb4
      by_cases hc0 : cut < 0
      · go_wp2
        go_ret
        exact ⟨rfl, HT4.out⟩
      · have hc0' : decide (cut < 0) = false := by simp; omega
        by_cases hcl : (t.length : Int) ≤ cut
        · go_wp2
          go_ret
          exact ⟨rfl, HT4.out⟩
        · have hcl' : decide ((t.length : Int) ≤ cut) = false := by simp; omega
          obtain ⟨k, rfl⟩ := Int.eq_ofNat_of_zero_le (Int.not_lt.1 hc0)
          have hkt : (k : Int) ≤ (t.length : Int) := by omega
          have hkl : k < t.length := by omega
          have e1 : ({ data := t.toArray } : ByteArray).extract 0 k = ⟨(t.take k).toArray⟩ := by rw [extract_list]; simp
          clear hc0 hcl
          go_wp2_with fail
          rcases readP_cases (t.take k) with ⟨y, hy, _, _⟩ | ⟨c, i, hy, hc⟩
          · obtain ⟨hyl, hyt⟩ := HRC.out y k hkl hy
            have HY := Lib.hid hy
            have HYT := Lib.hid hyt
            have htl : (t.take k).length ≤ 90000 := by rw [List.length_take]; omega
            clear hy hyt
            refine (told_fine (packRead_any p (t.take k) _ (HE.out.below HT4.out) (HS.out.below HT4.out) htl) HY.out).mono ?_
            rintro e t5 ⟨⟨ya, yc, rfl, hyl5, _⟩, tb5⟩
            have HT5 := Lib.hid (HT4.out.trans (tb5.mono HT4.out.size))
            have HYL := Lib.hid hyl5
            have hla : LiesAt t5 a y := by
              rw [HYT.out]
              exact (HC.out.lies.below HT5.out).take _
            obtain ⟨lb, lo, rfl, _⟩ := HC.out.lies.at (k := 0) (by omega)
            have HLA := Lib.hid hla
            have hcap := HC.out.cap
            have hlt' : (y.length : Int) < (l.length : Int) := by omega
            have hyc : (y.length : Int) ≤ (ca : Int) := by omega
            have hy0 : (0 : Int) ≤ (y.length : Int) := by omega
            clear tb5 hyl5 hla
            go_wp2_with fail
            refine (sameTrees_any y y ya _ yc _ _ HYL.out HLA.out (by omega) (by omega)).mono ?_
            rintro e t6 ⟨rfl, tb6⟩
            have HT6 := Lib.hid (HT5.out.trans (tb6.mono HT5.out.size))
            rw [decide_eq_true rfl]
            clear tb6
            go_wp2
            go_ret
            exact ⟨rfl, HT6.out⟩
          · have HY := Lib.hid hy
            have htl : (t.take k).length ≤ 90000 := by rw [List.length_take]; omega
            clear hy
            refine (told_bad (packRead_any p (t.take k) _ (HE.out.below HT4.out) (HS.out.below HT4.out) htl) HY.out hc).mono ?_
            rintro e t5 ⟨⟨ya, yc, T, u, rfl⟩, tb5⟩
            have HT5 := Lib.hid (HT4.out.trans (tb5.mono HT4.out.size))
            clear tb5
            go_wp2
            go_ret
            exact ⟨rfl, HT5.out⟩
    · obtain ⟨T, u, rfl⟩ := hv.some hz
      rw [make_no hz]
      clear hv hz
      go_wp2
      go_ret
      exact ⟨rfl, HT2.out⟩
end Go.Proofs.YtkcjgncpcidfoaaDoor
