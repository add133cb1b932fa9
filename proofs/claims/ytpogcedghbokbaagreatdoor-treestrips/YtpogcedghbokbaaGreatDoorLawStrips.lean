/-
  The statement TreeStrips answers true, whatever comes in: over this seat's translation.
-/
import Derived.Test.YtpogcedghbokbaaGreatDoorLawAid
import Derived.Test.YtpogcedghbokbaaGreatDoorRefCut
namespace Go.Proofs.YtpogcedghbokbaaGreatDoor
open Go.RowKit Go.Shelf

set_option maxRecDepth 100000 in
set_option maxHeartbeats 8000000 in
open Classical in
theorem treeStrips_any (p : Nat → Addr) (l m : List F) (a a' : Option Addr) (ca ca' : Nat) (x y : List UInt8) (w : World) (hE : Env p w) (hl : Came w a ca l) (hm : Came w a' ca' m) (hx : x.length ≤ maxLen) (hy : y.length ≤ maxLen) :
    Calls Tryz.prog 5 #[.slice a l.length ca, .slice a' m.length ca', .string ⟨x.toArray⟩, .string ⟨y.toArray⟩] w fun e w' => e = .returned (.bool true) ∧ Below w.heap.size w w' := by
  have HE : Hid (Env p w) := hE
  have HL : Hid (Came w a ca l) := hl
  have HM : Hid (Came w a' ca' m) := hm
  have hll := hl.len
  have hml := hm.len
  unfold maxLen at hx hy hll hml
  clear hE hl hm
  go_enter Tryz.func5, Tryz.ntmps5
  go_wp2_with fail
  refine (rooted_any p _ HE.out).mono ?_
  rintro e w1 ⟨rfl, hb1⟩
  have HB1 : Hid (Below w.heap.size w w1) := hb1
  clear hb1
  rcases longL_or l with hc1 | hc1
  · rcases longL_or m with hc2 | hc2
    · by_cases hxl : 100 < x.length
      · have hxl' : (100 : Int) < (x.length : Int) := by omega
        go_wp2_with fail
        refine (long_is (HL.out.below HB1.out) 0 hc1).mono ?_
        rintro e w' ⟨rfl, rfl⟩
        go_wp2_with fail
        refine (long_is (HM.out.below HB1.out) 0 hc2).mono ?_
        rintro e w' ⟨rfl, rfl⟩
        go_wp2
        go_ret
        exact ⟨rfl, HB1.out⟩
      · by_cases hyl : 100 < y.length
        · have hxl' : decide ((100 : Int) < (x.length : Int)) = false := by simp; omega
          have hyl' : (100 : Int) < (y.length : Int) := by omega
          go_wp2_with fail
          refine (long_is (HL.out.below HB1.out) 0 hc1).mono ?_
          rintro e w' ⟨rfl, rfl⟩
          go_wp2_with fail
          refine (long_is (HM.out.below HB1.out) 0 hc2).mono ?_
          rintro e w' ⟨rfl, rfl⟩
          go_wp2
          go_ret
          exact ⟨rfl, HB1.out⟩
        · have hxl' : decide ((100 : Int) < (x.length : Int)) = false := by simp; omega
          have hyl' : decide ((100 : Int) < (y.length : Int)) = false := by simp; omega
          have HSL : Hid (Small l) := small_of_long hc1
          have HSM : Hid (Small m) := small_of_long hc2
          have HC1 : Hid ((longL l : Int) = 0) := hc1
          have HC2 : Hid ((longL m : Int) = 0) := hc2
          have hlf := HSL.out.few
          have hmf := HSM.out.few
          clear hc1 hc2
          go_wp2_with fail
          refine (long_is (HL.out.below HB1.out) 0 HC1.out).mono ?_
          rintro e w' ⟨rfl, rfl⟩
          go_wp2_with fail
          refine (long_is (HM.out.below HB1.out) 0 HC2.out).mono ?_
          rintro e w1 ⟨rfl, rfl⟩
          clear hxl' hyl'
          go_wp2_with fail
          refine (graft_any p [] l none a 0 ca x _ (HE.out.below HB1.out) (fun h => absurd rfl h) (HL.out.lies.below HB1.out) (Nat.le_refl _) HL.out.cap ⟨by simp, fun f hf => by simp at hf, fun f hf => by simp at hf⟩ HSL.out (by omega)).mono ?_
          rintro e w2 ⟨ht, hb2⟩
          have HB2 : Hid (Below w.heap.size w w2) := HB1.out.trans (hb2.mono HB1.out.size)
          clear hb2
          by_cases hg : (graftT [] x l).2.1 = 0
          · obtain ⟨X, hgX, _, htl, G⟩ := graft_fine hg
            obtain ⟨aX, cX, rfl, hlX, hcX⟩ := ht.fine hgX
            have HLX : Hid (LiesAt w2 aX X) := hlX
            have HG : Hid (Grafted [] x l X) := G
            have HSX : Hid (Small X) := tree_small G.tree
            have HTL : Hid ((treeFault l).1 = 0) := htl
            clear hg hgX htl G hlX ht
            go_wp2_with fail
            refine (refCut_any x _ (by omega)).mono ?_
            rintro e w3 ⟨v, rfl, hown, hb3⟩
            have HB3 : Hid (Below w.heap.size w w3) := HB2.out.trans (hb3.mono HB2.out.size)
            have HLX3 : Hid (LiesAt w3 aX X) := HLX.out.below hb3
            obtain ⟨av, cv, rfl⟩ : ∃ av cv, v = .slice av (pieces x).length cv := by
              rcases hown.2 with ⟨h', h0⟩ | ⟨g, cap, cur, h', _⟩
              · exact ⟨none, 0, by rw [h', h0]⟩
              · exact ⟨_, _, h'⟩
            have hpx := pieces_length x
            clear hown hb3 HLX
            go_wp2_with fail
            refine (stripTree_any p X aX cX ((pieces x).length : Nat) _ (HE.out.below HB3.out) HLX3.out hcX HSX.out).mono ?_
            rintro e w4 ⟨ht4, hb4⟩
            obtain ⟨aY, cY, rfl, hlY, hcY⟩ := ht4.fine (strip_grafted HG.out HTL.out)
            have HB4 : Hid (Below w.heap.size w w4) := HB3.out.trans (hb4.mono HB3.out.size)
            have HLX4 : Hid (LiesAt w4 aX X) := HLX3.out.below hb4
            have HLY : Hid (LiesAt w4 aY l) := hlY
            clear hb4 hlY ht4 HLX3 hpx
            go_wp2_with fail
            refine (same_any l l aY a cY ca _ HLY.out (HL.out.lies.below HB4.out) hlf hlf).mono ?_
            rintro e w5 ⟨rfl, hb5⟩
            have HB5 : Hid (Below w.heap.size w w5) := HB4.out.trans (hb5.mono HB4.out.size)
            have HLX5 : Hid (LiesAt w5 aX X) := HLX4.out.below hb5
            rw [decide_eq_true rfl]
            clear hb5 HLX4 HLY
            by_cases hxy : x = y
            · have hxy' : (x == y) = true := by simp [hxy]
              clear hxy
              go_wp2
              go_ret
              exact ⟨rfl, HB5.out⟩
            · have hxy' : (x == y) = false := by simp [hxy]
              have HNE : Hid (x ≠ y) := hxy
              clear hxy
              go_wp2_with fail
              refine (in_any p x y _ (HE.out.below HB5.out) (by omega) (by omega)).mono ?_
              rintro e w6 ⟨rfl, hb6⟩
              have HB6 : Hid (Below w.heap.size w w6) := HB5.out.trans (hb6.mono HB5.out.size)
              have HLX6 : Hid (LiesAt w6 aX X) := HLX5.out.below hb6
              clear hb6 HLX5
              cases h1 : isIn x y with
              | true =>
                clear h1
                go_wp2
                go_ret
                exact ⟨rfl, HB6.out⟩
              | false =>
                have H1 : Hid (isIn x y = false) := h1
                clear h1
                go_wp2_with fail
                refine (in_any p y x _ (HE.out.below HB6.out) (by omega) (by omega)).mono ?_
                rintro e w7 ⟨rfl, hb7⟩
                have HB7 : Hid (Below w.heap.size w w7) := HB6.out.trans (hb7.mono HB6.out.size)
                have HLX7 : Hid (LiesAt w7 aX X) := HLX6.out.below hb7
                clear hb7 HLX6
                cases h2 : isIn y x with
                | true =>
                  clear h2
                  go_wp2
                  go_ret
                  exact ⟨rfl, HB7.out⟩
                | false =>
                  have H2 : Hid (isIn y x = false) := h2
                  clear h2
                  go_wp2_with fail
                  refine (graft_any p X m aX a' cX ca' y _ (HE.out.below HB7.out) HLX7.out (HM.out.lies.below HB7.out) hcX HM.out.cap HSX.out HSM.out (by omega)).mono ?_
                  rintro e w8 ⟨ht8, hb8⟩
                  have HB8 : Hid (Below w.heap.size w w8) := HB7.out.trans (hb8.mono HB7.out.size)
                  clear hb8
                  by_cases hg : (graftT X y m).2.1 = 0
                  · obtain ⟨Z, hgZ, _, htm, H⟩ := graft_fine hg
                    obtain ⟨aZ, cZ, rfl, hlZ, hcZ⟩ := ht8.fine hgZ
                    have HLZ : Hid (LiesAt w8 aZ Z) := hlZ
                    have HSZ : Hid (Small Z) := tree_small H.tree
                    obtain ⟨hu1, hu2⟩ := two_places HG.out H (tree_rise HTL.out) (tree_rise htm) HNE.out H1.out H2.out
                    have HU1 : Hid (underT Z x = (l, 0, -1)) := by show underT Z x = _; rw [under_fine H.tree, hu1]
                    have HU2 : Hid (underT Z y = (m, 0, -1)) := by show underT Z y = _; rw [under_fine H.tree, hu2]
                    clear hg hgZ htm H hlZ ht8 hu1 hu2
                    go_wp2_with fail
                    refine (under_any p Z aZ cZ x _ (HE.out.below HB8.out) HLZ.out hcZ HSZ.out (by omega)).mono ?_
                    rintro e w9 ⟨ht9, hb9⟩
                    obtain ⟨aP, cP, rfl, hlP, hcP⟩ := ht9.fine HU1.out
                    have HB9 : Hid (Below w.heap.size w w9) := HB8.out.trans (hb9.mono HB8.out.size)
                    have HLZ9 : Hid (LiesAt w9 aZ Z) := HLZ.out.below hb9
                    have HLP : Hid (LiesAt w9 aP l) := hlP
                    clear ht9 hb9 hlP HLZ
                    go_wp2_with fail
                    refine (under_any p Z aZ cZ y _ (HE.out.below HB9.out) HLZ9.out hcZ HSZ.out (by omega)).mono ?_
                    rintro e w10 ⟨ht10, hb10⟩
                    obtain ⟨aQ, cQ, rfl, hlQ, hcQ⟩ := ht10.fine HU2.out
                    have HB10 : Hid (Below w.heap.size w w10) := HB9.out.trans (hb10.mono HB9.out.size)
                    have HLP10 : Hid (LiesAt w10 aP l) := HLP.out.below hb10
                    have HLQ : Hid (LiesAt w10 aQ m) := hlQ
                    clear ht10 hb10 hlQ HLP HLZ9
                    go_wp2_with fail
                    refine (same_any l l aP a cP ca _ HLP10.out (HL.out.lies.below HB10.out) hlf hlf).mono ?_
                    rintro e w11 ⟨rfl, hb11⟩
                    have HB11 : Hid (Below w.heap.size w w11) := HB10.out.trans (hb11.mono HB10.out.size)
                    have HLQ11 : Hid (LiesAt w11 aQ m) := HLQ.out.below hb11
                    rw [decide_eq_true rfl]
                    clear hb11 HLQ HLP10
                    go_wp2_with fail
                    refine (same_any m m aQ a' cQ ca' _ HLQ11.out (HM.out.lies.below HB11.out) hmf hmf).mono ?_
                    rintro e w12 ⟨rfl, hb12⟩
                    have HB12 : Hid (Below w.heap.size w w12) := HB11.out.trans (hb12.mono HB11.out.size)
                    rw [decide_eq_true rfl]
                    clear hb12
                    go_wp2
                    go_ret
                    exact ⟨rfl, HB12.out⟩
                  · obtain ⟨c, i, hgZ, hc⟩ := graft_none hg
                    obtain ⟨aZ, cZ, T, u, rfl, _⟩ := ht8.bad hgZ hc
                    clear hg hgZ hc ht8
                    go_wp2
                    go_ret
                    exact ⟨rfl, HB8.out⟩
          · obtain ⟨c, i, hgX, hc⟩ := graft_none hg
            obtain ⟨aX, cX, T, u, rfl, _⟩ := ht.bad hgX hc
            clear hg hgX hc ht
            go_wp2
            go_ret
            exact ⟨rfl, HB2.out⟩
    · go_wp2_with fail
      refine (long_is (HL.out.below HB1.out) 0 hc1).mono ?_
      rintro e w' ⟨rfl, rfl⟩
      go_wp2_with fail
      refine (long_is (HM.out.below HB1.out) 1 hc2).mono ?_
      rintro e w' ⟨rfl, rfl⟩
      go_wp2
      go_ret
      exact ⟨rfl, HB1.out⟩
  · rcases longL_or m with hc2 | hc2
    · go_wp2_with fail
      refine (long_is (HL.out.below HB1.out) 1 hc1).mono ?_
      rintro e w' ⟨rfl, rfl⟩
      go_wp2_with fail
      refine (long_is (HM.out.below HB1.out) 0 hc2).mono ?_
      rintro e w' ⟨rfl, rfl⟩
      go_wp2
      go_ret
      exact ⟨rfl, HB1.out⟩
    · go_wp2_with fail
      refine (long_is (HL.out.below HB1.out) 1 hc1).mono ?_
      rintro e w' ⟨rfl, rfl⟩
      go_wp2_with fail
      refine (long_is (HM.out.below HB1.out) 1 hc2).mono ?_
      rintro e w' ⟨rfl, rfl⟩
      go_wp2
      go_ret
      exact ⟨rfl, HB1.out⟩
end Go.Proofs.YtpogcedghbokbaaGreatDoor
