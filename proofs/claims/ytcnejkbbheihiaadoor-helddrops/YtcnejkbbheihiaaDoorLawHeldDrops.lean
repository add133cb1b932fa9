/-
  The law HeldDrops, whatever it is called with: over whatever the program's is (HeldProg), and this seat's translation.
-/
import Derived.Test.YtcnejkbbheihiaaDoorHeldOurs
import Derived.Test.YtcnejkbbheihiaaDoorLawHeld
import Derived.Maps.AppendAt
import Derived.Deep.CutRange
import Derived.Deep.QuietTactic
import Derived.BigQuiet
namespace Go.Proofs.YtcnejkbbheihiaaDoor
open Go.RowKit Go.Shelf

set_option maxRecDepth 100000 in
set_option maxHeartbeats 2000000 in
theorem heldDrops_quick {p : Nat → Addr} {At : HeldIs} (P : HeldProg p At) (l : List Hd) (a : Option Addr) (ca : Nat) (z : Int) (w : World) (hE : HEnv p w) (hl : CameH w a l) (h : longH l = true ∨ z < 0) :
    Calls Tryd.prog 4 #[.slice a l.length ca, .int .i64 z] w fun e w' => e = .returned (.bool true) ∧ Below w.heap.size w w' := by
  have HE := Lib.hid hE
  have HL := Lib.hid hl
  have HF := Lib.hid h
  clear hE hl h
  go_enter Tryd.func4, Tryd.ntmps4
  go_wp2_with fail
  refine (holds_any P _ HE.out).mono ?_
  rintro e w1 ⟨rfl, hb1⟩
  have HB1 := Lib.hid hb1
  clear hb1
  go_wp2_with fail
  refine (longHoldings_any l a ca _ (HL.out.below HB1.out)).mono ?_
  rintro e w2 ⟨rfl, hw2⟩
  obtain rfl : w1 = w2 := hw2.symm
  cases hlg : longH l with
  | true =>
    go_wp2
    go_ret
    exact ⟨rfl, HB1.out⟩
  | false =>
    have hz : decide (z < 0) = true := by
      have := HF.out
      rw [hlg] at this
      simpa using this
    go_wp2
    go_ret
    exact ⟨rfl, HB1.out⟩

set_option maxRecDepth 100000 in
set_option maxHeartbeats 1000000 in
theorem heldDrops_main {p : Nat → Addr} {At : HeldIs} (P : HeldProg p At) (l : List Hd) (a : Option Addr) (ca k : Nat) (w : World) (hE : HEnv p w) (hl : CameH w a l) (h : longH l = false) :
    Calls Tryd.prog 4 #[.slice a l.length ca, .int .i64 k] w fun e w' => e = .returned (.bool true) ∧ Below w.heap.size w w' := by
  obtain ⟨i0, hi, hz0, hz1, hz2⟩ := info_parts Tryd.infoInt
  have HE : Hid (∀ {V}, Below w.heap.size w V → HEnv p V) := fun h => hE.below h
  have HE0 := Lib.hid hE
  have HL := Lib.hid hl
  have HF := Lib.hid h
  obtain ⟨hlen, hall⟩ := longH_no h
  have HA := Lib.hid hall
  clear hE hl h hall
  have hkn : decide ((k : Int) < 0) = false := by simp
  go_enter Tryd.func4, Tryd.ntmps4
  go_wp2_with fail
  refine (holds_any P _ HE0.out).mono ?_
  rintro e w1 ⟨rfl, hb1⟩
  have HB1 := Lib.hid hb1
  clear hb1
  go_wp2_with fail
  refine (longHoldings_any l a ca _ (HL.out.below HB1.out)).mono ?_
  rintro e w2 ⟨rfl, hw2⟩
  obtain rfl : w1 = w2 := hw2.symm
  rw [HF.out]
  go_wp2_with fail
  refine (P.new _ 40).mono ?_
  rintro e w3 ⟨nb, S, R, rfl, hn, hs, hb3⟩
  have I3 : Hid (InH At w w3 nb S R (Hs.none (mostH 40))) := ⟨HB1.out.trans (hb3.mono HB1.out.size), hn, fun b hb => Nat.le_trans HB1.out.size (hs b hb), OkH.zero 40⟩
  clear hn hs hb3 HF
  go_wp2_with fail
  go_loopw [7] (fun i wr => ∃ (q : Nat) (S' R' : Nat → Prop) (s : Hs), q ≤ l.length ∧ i = .int .i64 q ∧ InH At w wr nb S' R' s) (fun i _ => l.length - (intOf i).toNat)
  case atStart => exact ⟨0, S, R, _, by omega, rfl, I3.out⟩
  case round =>
    obtain ⟨q, S', R', s, hq, rfl, hin⟩ := hrel
    have I := Lib.hid hin
    clear hin I3
    by_cases hlt : q < l.length
    · have hlt' : (q : Int) < (l.length : Int) := by omega
      obtain ⟨b, o, hb, j0, j1, j2⟩ := HL.out.lies.at hlt
      have HC := Lib.hid (HL.out.each _ (List.getElem_mem hlt))
      have HLG := Lib.hid (HA.out _ (List.getElem_mem hlt))
      subst hb
      generalize l[q] = x at j0 j1 j2 HC HLG
      obtain ⟨xp, xl, xa, xc, xn⟩ := x
      simp only at j0 j1 j2
      have hbl : b < w.heap.size := block_lt_of_cell j0
      have k0 : wr.cell? ⟨b, o + q * 3, none⟩ = some (.bool xp) := (I.out.below.cell (p := ⟨b, o + q * 3, none⟩) hbl).trans j0
      have k1 : wr.cell? ⟨b, o + q * 3 + 1, none⟩ = some (.slice xa xl.length xc) := (I.out.below.cell (p := ⟨b, o + q * 3 + 1, none⟩) hbl).trans j1
      clear j0 j1 j2
      have hxs := small_of_long HLG.out
      have hxl : xl.length ≤ 100000 := by have := hxs.few; omega
      have HX := Lib.hid hxs
      clear hxs
      cases xp with
      | true =>
        go_wp2_with fail
        refine (ownFiles_any xl xa xc _ (HC.out.lies.below I.out.below) HC.out.nil hxl).mono ?_
        rintro e w5 ⟨⟨v5, rfl, ho5⟩, hb5⟩
        obtain ⟨a5, c5, rfl, n5⟩ := new_files ho5
        have HN5 := Lib.hid n5
        have I5 := Lib.hid (I.out.quiet P hb5)
        clear ho5 n5 hb5 k0 k1
        go_wp2_with fail
        refine (P.put _ nb S' R' s xl a5 c5 I5.out.held (HE.out I5.out.below) I5.out.ok HN5.out.lies HN5.out.cap HN5.out.nil HX.out (fun _ => I.out.apart P HN5.out)).mono ?_
        rintro e w6 ⟨⟨v6, rfl, hv6⟩, S6, R6, l6⟩
        have I6 := Lib.hid (I5.out.step l6 (I5.out.ok.put xl))
        clear l6 hv6
        go_wp2
        go_roundw
        case rel => exact ⟨q + 1, S6, R6, _, by omega, by go_num, I6.out⟩
        case measure => simp [intOf]; omega
      | false =>
        go_wp2
        go_roundw
        case rel => exact ⟨q + 1, S', R', s, by omega, by go_num, I.out⟩
        case measure => simp [intOf]; omega
    · have hge : ¬ ((q : Int) < (l.length : Int)) := by omega
      have h40 : s.l.length ≤ 40 := by have h1 := I.out.ok.few; have h2 := I.out.ok.most; omega
      have HZL : Hid ((s.l.map fun x => (x.n : Int)).length = s.l.length) := List.length_map _
      clear HL HA
      go_wp2_with fail
      refine (P.sums _ nb S' R' s I.out.held I.out.ok).mono ?_
      rintro e w4 ⟨⟨v4, rfl, ho4⟩, hb4⟩
      obtain ⟨a4, c4, rfl, n4, hc4⟩ := OurI.new P I.out.held ho4
      have I4 := Lib.hid (I.out.quiet P hb4)
      have Z4 := Lib.hid n4
      rw [HZL.out] at hc4
      rw [HZL.out]
      clear ho4 n4 hb4 I
      by_cases hks : k < s.l.length
      · have hks' : ¬ ((k : Int) ≥ (s.l.length : Int)) := by omega
        have hkl : (k : Int) < (s.l.length : Int) := by omega
        have hkc : (k : Int) ≤ (c4 : Int) := by omega
        have hk0 : (0 : Int) ≤ (k : Int) := by omega
        have hwk : wrap64 ((k : Int) + 1) = (k : Int) + 1 := w64 _ (by omega)
        have hk1 : (k : Int) + 1 ≤ (s.l.length : Int) := by omega
        have hkc1 : (k : Int) + 1 ≤ (c4 : Int) := by omega
        have hk10 : (0 : Int) ≤ (k : Int) + 1 := by omega
        obtain ⟨s1, s3, yn, yl, us, hzk, hft, hsm, hg, hd, hok1, hdn, hgn, hpa, hus, hu1, hu3, hl1, heach⟩ := drop_facts I4.out.ok hks
        have HFT := Lib.hid hft
        have HSM := Lib.hid hsm
        have HG := Lib.hid hg
        have HD := Lib.hid hd
        have HOK1 := Lib.hid hok1
        have HDN := Lib.hid hdn
        have HGN := Lib.hid hgn
        have HPA := Lib.hid hpa
        have HUS := Lib.hid hus
        have HU1 := Lib.hid hu1
        have HU3 := Lib.hid hu3
        have HEACH := Lib.hid heach
        have hul : us.length = s1.l.length := by rw [← hu1, List.length_map]
        have HUL := Lib.hid hul
        clear hft hsm hg hd hok1 hdn hgn hpa hus hu1 hu3 heach hul
        obtain ⟨zs, hzs⟩ : ∃ zs, zs = s.l.map fun x => (x.n : Int) := ⟨_, rfl⟩
        have hzsl : zs.length = s.l.length := by rw [hzs, List.length_map]
        rw [← hzs] at HUS HZL
        have Z4' : Hid (OurI w4 S' a4 zs) := hzs ▸ Z4.out
        have hzk' : zs[k]? = some (yn : Int) := by rw [hzs]; exact hzk
        clear hzk Z4 hzs
        obtain ⟨bz, oz, ez, hzz⟩ := Z4'.out.ints.at (k := k) (by omega)
        clear hzz
        subst ez
        have J : Hid (∀ {V : World} {T : Nat → Prop}, OurI V T (some ⟨bz, oz, none⟩) zs → V.cell? ⟨bz, oz + k, none⟩ = some (.int .i64 yn)) := fun hV => by
          obtain ⟨b', o', e', hc⟩ := hV.ints.at (k := k) (by omega)
          cases e'
          have e2 : zs[k]'(by omega) = (yn : Int) := by
            rw [List.getElem?_eq_getElem (by omega)] at hzk'
            exact Option.some.inj hzk'
          rw [hc, e2]
        have z4 := J.out Z4'.out
        clear hzk'
        go_wp2_with fail
        refine (P.get _ nb S' R' s (yn : Int) I4.out.held (HE.out I4.out.below) I4.out.ok HFT.out).mono ?_
        rintro e w5 ⟨⟨a5, c5, rfl, n5⟩, hb5⟩
        rw [HG.out] at n5
        rw [HG.out, errV_zero]
        have F5 := Lib.hid (OurF.new P I4.out.held n5)
        have I5 := Lib.hid (I4.out.quiet P hb5)
        have Z5 := Lib.hid (Z4'.out.below hb5)
        have z5 := J.out Z5.out
        clear n5 hb5 I4 Z4' z4 HG
        go_wp2_with fail
        refine (P.drop _ nb S' R' s (yn : Int) I5.out.held (HE.out I5.out.below) I5.out.ok).mono ?_
        rintro e w6 ⟨rfl, S6, R6, l6⟩
        rw [HD.out] at l6
        rw [HD.out, errV_zero]
        have I6 := Lib.hid (I5.out.step l6 HOK1.out)
        have F6 := Lib.hid (F5.out.left l6)
        have Z6 := Lib.hid (Z5.out.left l6)
        have z6 := J.out Z6.out
        clear l6 I5 F5 Z5 z5 HD
        go_wp2_with fail
        refine (P.drop _ nb S6 R6 s1 (yn : Int) I6.out.held (HE.out I6.out.below) I6.out.ok).mono ?_
        rintro e w7 ⟨rfl, S7, R7, l7⟩
        rw [HDN.out] at l7
        rw [HDN.out, errV_some p (by decide : (6 : Nat) ≠ 0)]
        have I7 := Lib.hid (I6.out.step l7 HOK1.out)
        have F7 := Lib.hid (F6.out.left l7)
        have Z7 := Lib.hid (Z6.out.left l7)
        clear l7 I6 F6 Z6 z6 HDN
        have hzt : (zs.take k).length = k := by simp; omega
        have HZT := Lib.hid hzt
        clear hzt
        have HZN : Hid (∀ {V : World} {T : Nat → Prop}, OurI V T (some ⟨bz, oz, none⟩) zs → ∀ j u, ((zs.take k).map iv)[j]? = some u → V.cell? ((⟨bz, oz, none⟩ : Addr).add j) = some u) := fun hV j u hu => by
          rw [List.getElem?_map] at hu
          obtain ⟨x, hx, rfl⟩ := Option.map_eq_some_iff.1 hu
          obtain ⟨hj, e⟩ := List.getElem?_eq_some_iff.1 hx
          rw [List.length_take] at hj
          obtain ⟨b', o', e', hc⟩ := hV.ints.at (k := j) (by omega)
          cases e'
          rw [Addr.add_lit, hc, ← e, List.getElem_take]
        have HZD : Hid (∀ {V : World} {T : Nat → Prop}, OurI V T (some ⟨bz, oz, none⟩) zs → ∀ j u, ((zs.drop (k + 1)).map iv)[j]? = some u → V.cell? ((⟨bz, oz + (k + 1), none⟩ : Addr).add j) = some u) := fun hV j u hu => by
          rw [List.getElem?_map] at hu
          obtain ⟨x, hx, rfl⟩ := Option.map_eq_some_iff.1 hu
          obtain ⟨hj, e⟩ := List.getElem?_eq_some_iff.1 hx
          rw [List.length_drop] at hj
          obtain ⟨b', o', e', hc⟩ := hV.ints.at (k := k + 1 + j) (by omega)
          cases e'
          rw [Addr.add_lit, show oz + (k + 1) + j = oz + (k + 1 + j) by omega, hc, ← e, List.getElem_drop]
        have hone : ∀ (l : List Int), ∀ u ∈ l.map iv, u.oneCell' = true := fun l u hu => by
          obtain ⟨x, _, rfl⟩ := List.mem_map.1 hu
          rfl
        have HONE := Lib.hid hone
        clear hone
        go_upto_region 20 with (at_builtin; go_loud (refine wpList_append_own_at _ rfl _ _ 38 rfl w7.heap.size 3 i0 (.int .i64 0) 1 8 Tryd.underlying38 hi hz0 hz1 hz2 rfl (by decide) (.slice none 0 0) 0 [] rfl (World.ownsRow_nil _ _ _ _) ⟨bz, oz, none⟩ k c4 ((zs.take k).map iv) rfl (by rw [List.length_map, HZT.out]; omega) (HZN.out Z7.out) (HONE.out _) (by unfold maxLen; omega) (by omega) (Nat.le_refl _) ?_); go_loud (intro v8 w8 hown hgrow hnil hat); go_loud (have HR8 := Lib.hid hown; have hb8 : Below w7.heap.size w7 w8 := (Below.refl _ _).grown hgrow (Nat.le_refl _) (fun j e => (by cases e)); have HB8 := Lib.hid hb8; clear hown hgrow hnil hat hb8))
        go_cut [11] from 95 to 100 (fun s11 wx => wx.ownsRow w7.heap.size 3 1 s11 s1.l.length (us.map iv) ∧ Below w7.heap.size w7 wx)
        case first =>
          have hr8 := HR8.out
          rw [Nat.zero_add, List.nil_append] at hr8
          have HR8' := Lib.hid hr8
          have hsz8 := HB8.out.size
          have hsl1 : s1.l.length = k + (s.l.length - (k + 1)) := by omega
          have hdl : ((zs.drop (k + 1)).map iv).length = (s.l.length - (k + 1)) * 1 := by rw [List.length_map, List.length_drop]; omega
          have hus2 : us.map iv = (zs.take k).map iv ++ (zs.drop (k + 1)).map iv := by rw [HUS.out, List.map_append]
          have HUS2 := Lib.hid hus2
          clear hr8 HR8 hus2
          obtain ⟨A, hA, hsrc⟩ : ∃ A : Addr, (if c4 = k + 1 then (some ⟨bz, oz, none⟩ : Option Addr) else some ⟨bz, oz + (k + 1), none⟩) = some A ∧ Hid (∀ j u, ((zs.drop (k + 1)).map iv)[j]? = some u → w8.cell? (A.add j) = some u) := by
            by_cases hcap : c4 = k + 1
            · refine ⟨⟨bz, oz, none⟩, by rw [if_pos hcap], fun j u hu => ?_⟩
              have h0 : (zs.drop (k + 1)).map iv = [] := List.eq_nil_of_length_eq_zero (by rw [hdl]; omega)
              rw [h0] at hu
              simp at hu
            · exact ⟨⟨bz, oz + (k + 1), none⟩, by rw [if_neg hcap], HZD.out (Z7.out.below HB8.out)⟩
          have HDL := Lib.hid hdl
          clear hdl
          go_wp2_with (at_builtin; go_loud (refine wpList_append_own_at _ rfl _ _ 38 rfl w7.heap.size 3 i0 (.int .i64 0) 1 8 Tryd.underlying38 hi hz0 hz1 hz2 rfl (by decide) v8 k ((zs.take k).map iv) rfl HR8'.out A (s.l.length - (k + 1)) _ ((zs.drop (k + 1)).map iv) rfl HDL.out hsrc.out (HONE.out _) (by unfold maxLen; omega) (by omega) hsz8 ?_); go_loud (intro v9 w9 hown hgrow hnil hat); go_loud (have HR9 := Lib.hid hown; have hb9 : Below w7.heap.size w8 w9 := (Below.refl _ _).grown hgrow hsz8 (fun j e => (HR8'.out.lt j e).1); have HB9 := Lib.hid (HB8.out.trans hb9); clear hown hgrow hnil hat hb9))
          go_meet
          case rel =>
            refine ⟨?_, HB9.out⟩
            have := HR9.out
            rw [HUS2.out, hsl1]
            exact this
        case rest =>
          obtain ⟨hrw, hbw⟩ := hcut
          have hbw8 : Below w7.heap.size w7 wc := hbw
          have L9 : Hid (OurR w7.heap.size wc S7 R7 u11 s1.l.length us) := ⟨hrw, fun g hg hS => by
            have h1 := (hrw.lt g hg).1
            have h2 := P.lt I7.out.held g hS
            omega⟩
          have hbz7 : bz < w7.heap.size := (Z7.out.far bz oz rfl).1
          have hw7 : w.heap.size ≤ w7.heap.size := I7.out.below.size
          have I9 := Lib.hid (I7.out.quiet P hbw8)
          have F9 := Lib.hid (F7.out.below hbw8)
          have Z9 := Lib.hid (Z7.out.below hbw8)
          have hs9 : w7.heap.size ≤ wc.heap.size := hbw8.size
          clear hrw hbw hbw8 I7 F7 Z7 HR8 HB8 HZN HZD hwk hk1 hkc1 hk10
          obtain ⟨aL, cL, hL, _⟩ := L9.out.ints
          subst hL
          have hsl : s1.l.length ≤ 100000 := by omega
          go_wp2_with fail
          refine (P.sums _ nb S7 R7 s1 I9.out.held I9.out.ok).mono ?_
          rintro e w10 ⟨⟨v10, rfl, ho10⟩, hb10⟩
          rw [HU1.out] at ho10
          obtain ⟨a10, c10, rfl, n10, _⟩ := OurI.new P I9.out.held ho10
          rw [HUL.out]
          have I10 := Lib.hid (I9.out.quiet P hb10)
          have F10 := Lib.hid (F9.out.below hb10)
          have Z10 := Lib.hid (Z9.out.below hb10)
          have L10 := Lib.hid (L9.out.below hb10)
          have HS10 : Hid (w7.heap.size ≤ w10.heap.size) := Nat.le_trans hs9 hb10.size
          have N10 := Lib.hid n10.ints
          clear ho10 n10 hb10 I9 F9 Z9 L9
          go_wp2_with fail
          obtain ⟨aL', cL', eL, hiL⟩ := L10.out.ints
          cases eL
          refine ((sameInts_len us us a10 aL s1.l.length s1.l.length c10 cL _ HUL.out HUL.out N10.out hiL hsl hsl).mono (fun e w' (h : _ ∧ _) => (⟨h.1.trans (by simp), h.2⟩ : e = .returned (.bool true) ∧ Below _ _ w'))).mono ?_
          rintro e w11 ⟨rfl, hb11⟩
          have I11 := Lib.hid (I10.out.quiet P hb11)
          have F11 := Lib.hid (F10.out.below hb11)
          have Z11 := Lib.hid (Z10.out.below hb11)
          have L11 := Lib.hid (L10.out.below hb11)
          have HS11 : Hid (w7.heap.size ≤ w11.heap.size) := Nat.le_trans HS10.out hb11.size
          clear hb11 hiL I10 F10 Z10 L10 N10
          go_wp2_with fail
          go_loopw [12] (fun i wx => ∃ j : Nat, j ≤ s1.l.length ∧ i = .int .i64 j ∧ InH At w wx nb S7 R7 s1 ∧ OurF wx S7 a5 c5 yl ∧ OurI wx S7 (some ⟨bz, oz, none⟩) zs ∧ OurR w7.heap.size wx S7 R7 (.slice aL s1.l.length cL) s1.l.length us ∧ w7.heap.size ≤ wx.heap.size) (fun i _ => s1.l.length - (intOf i).toNat)
          case atStart => exact ⟨0, by omega, rfl, I11.out, F11.out, Z11.out, L11.out, HS11.out⟩
          case round =>
            obtain ⟨j, hj, rfl, hix, hfx, hzx, hlx, hsx⟩ := hrel
            have IX := Lib.hid hix
            have FX := Lib.hid hfx
            have ZX := Lib.hid hzx
            have LX := Lib.hid hlx
            clear hix hfx hzx hlx I11 F11 Z11 L11
            by_cases hjl : j < s1.l.length
            · have hjl' : (j : Int) < (s1.l.length : Int) := by omega
              obtain ⟨aL', cL', eL, hiL⟩ := LX.out.ints
              cases eL
              have hju : j < us.length := by have := HUL.out; omega
              obtain ⟨bL, oL, ez, y0⟩ := hiL.at hju
              subst ez
              obtain ⟨hfj, hgj⟩ := HEACH.out j hju
              have HFJ := Lib.hid hfj
              have HGJ := Lib.hid hgj
              replace y0 : wr.cell? ⟨bL, oL + j, none⟩ = some (.int .i64 us[j]) := y0
              clear hiL hfj hgj
              generalize us[j] = uj at y0 HFJ HGJ
              go_wp2_with fail
              refine (P.get _ nb S7 R7 s1 uj IX.out.held (HE.out IX.out.below) IX.out.ok HFJ.out).mono ?_
              rintro e w12 ⟨⟨a12, c12, rfl, n12⟩, hb12⟩
              rw [HGJ.out, errV_zero]
              have I12 := Lib.hid (IX.out.quiet P hb12)
              have F12 := Lib.hid (FX.out.below hb12)
              have Z12 := Lib.hid (ZX.out.below hb12)
              have L12 := Lib.hid (LX.out.below hb12)
              have HS12 : Hid (w7.heap.size ≤ w12.heap.size) := Nat.le_trans hsx hb12.size
              clear n12 hb12 y0 IX FX ZX LX hsx
              go_wp2
              go_roundw
              case rel => exact ⟨j + 1, by omega, by go_num, I12.out, F12.out, Z12.out, L12.out, HS12.out⟩
              case measure => simp [intOf]; omega
            · have hjl' : ¬ ((j : Int) < (s1.l.length : Int)) := by omega
              have y1 := J.out ZX.out
              go_wp2_with fail
              refine (P.get _ nb S7 R7 s1 (yn : Int) IX.out.held (HE.out IX.out.below) IX.out.ok HFT.out).mono ?_
              rintro e w12 ⟨⟨a12, c12, rfl, n12⟩, hb12⟩
              rw [HGN.out]
              have I12 := Lib.hid (IX.out.quiet P hb12)
              have HS12 : Hid (w7.heap.size ≤ w12.heap.size) := Nat.le_trans hsx hb12.size
              have F12 := Lib.hid (FX.out.below hb12)
              have Z12 := Lib.hid (ZX.out.below hb12)
              have L12 := Lib.hid (LX.out.below hb12)
              clear n12 hb12 y1 IX FX ZX LX hsx
              have h6 : ∃ T u, errV p 6 = .iface T u := ⟨_, _, errV_some p (by decide : (6 : Nat) ≠ 0)⟩
              obtain ⟨T6, u6, hv6⟩ := h6
              rw [hv6]
              have HV6 := Lib.hid hv6
              clear hv6
              go_wp2_with fail
              refine (P.put _ nb S7 R7 s1 yl a5 c5 I12.out.held (HE.out I12.out.below) I12.out.ok F12.out.lies F12.out.cap F12.out.nil HSM.out (fun _ b o t e => (F12.out.far b o t e).2)).mono ?_
              rintro e w13 ⟨⟨v13, rfl, hv13⟩, S13, R13, l13⟩
              have hok3 := I12.out.ok.put yl
              rw [HPA.out] at hv13 l13 hok3
              obtain rfl := hv13.isNil
              rw [HPA.out]
              have I13 := Lib.hid (I12.out.step l13 hok3)
              have HS13 : Hid (w7.heap.size ≤ w13.heap.size) := Nat.le_trans HS12.out l13.kept.size
              have Z13 := Lib.hid (Z12.out.left l13)
              have L13 := Lib.hid (L12.out.left l13)
              have y2 := J.out Z13.out
              clear hv13 l13 hok3 I12 F12 Z12 L12
              have hone : [Value.int .i64 (yn : Int)].length = 1 * 1 := rfl
              have hsz13 : w7.heap.size ≤ (w13.alloc (.cells #[.int .i64 (yn : Int)] 3)).heap.size := by
                rw [World.size_alloc]
                have := HS13.out
                omega
              go_wp2_with (at_builtin; go_loud (refine wpList_append_own_at _ rfl _ _ 38 rfl w7.heap.size 3 i0 (.int .i64 0) 1 8 Tryd.underlying38 hi hz0 hz1 hz2 rfl (by decide) (.slice aL s1.l.length cL) s1.l.length (us.map iv) rfl (L13.out.row.alloc _) ⟨w13.heap.size, 0, none⟩ 1 1 [.int .i64 (yn : Int)] rfl rfl (one_cell w13 (yn : Int) _) (by simp [Value.oneCell']) (by unfold maxLen; omega) (by omega) hsz13 ?_); go_loud (intro v14 w14 hown hgrow hnil hat); go_loud (have HR14 := Lib.hid hown; have HG14 := Lib.hid hgrow; clear hown hgrow hnil hat))
              have hb13 := (Below.refl w13.heap.size w13).alloc (Nat.le_refl _) (.cells #[.int .i64 (yn : Int)] 3)
              have hk14 : Kept (fun g => (Value.slice aL s1.l.length cL).ownBlock = some g) w13 w14 := ⟨Nat.le_trans hb13.size HG14.out.size, fun g hg hn => (HG14.out.block g (Nat.lt_of_lt_of_le hg hb13.size) (fun e => hn e.symm)).trans (hb13.block g hg)⟩
              have hin14 : InH At w w14 nb S13 R13 s3 := ⟨I13.out.below.trans ((hb13.mono I13.out.below.size).grown HG14.out (Nat.le_trans I13.out.below.size hb13.size) (fun g hg => Nat.le_trans hw7 (L13.out.row.lt g hg).1)), P.keep I13.out.held hk14 (fun g hg e => L13.out.far g e hg), I13.out.base, I13.out.ok⟩
              have I14 := Lib.hid hin14
              have z14 : w14.cell? ⟨bz, oz + k, none⟩ = some (.int .i64 (yn : Int)) := by
                have hb := hk14.block bz (block_lt_of_cell y2) (fun e => by have := (L13.out.row.lt bz e).1; omega)
                rw [← y2]
                simp [World.cell?, hb]
              have hr14 : w14.ownsRow w7.heap.size 3 1 v14 (us ++ [(yn : Int)]).length ((us ++ [(yn : Int)]).map iv) := by
                have := HR14.out
                rw [List.length_append, List.map_append, HUL.out]
                exact this
              clear HR14 HG14 hb13 hk14 hin14 y2 I13 Z13 L13 hsz13
              obtain ⟨a14, c14, rfl, n14, hq1, hq2, hq3⟩ := ints_of_row hr14
              clear hq1 hq2 hq3 hr14
              have N14 := Lib.hid n14
              clear n14
              have hcd := coded_errV p 6 w14 (HE.out I14.out.below).env (by decide)
              rw [HV6.out] at hcd
              have HCD := Lib.hid hcd
              clear hcd
              have hu3l : (us ++ [(yn : Int)]).length ≤ 100000 := by rw [List.length_append, HUL.out]; simp; omega
              generalize hu3e : us ++ [(yn : Int)] = u3 at *
              refine HCD.out.mono ?_
              rintro e w15 ⟨rfl, hb15⟩
              have I15 := Lib.hid (I14.out.quiet P hb15)
              have N15 := Lib.hid (N14.out.below hb15)
              have z15 : w15.cell? ⟨bz, oz + k, none⟩ = some (.int .i64 (yn : Int)) := (hb15.cell (p := ⟨bz, oz + k, none⟩) (by have := block_lt_of_cell z14; simpa using this)).trans z14
              clear hb15 z14 I14 N14 HCD
              go_wp2_with fail
              refine (P.sums _ nb S13 R13 s3 I15.out.held I15.out.ok).mono ?_
              rintro e w16 ⟨⟨v16, rfl, ho16⟩, hb16⟩
              rw [HU3.out] at ho16
              obtain ⟨a16, c16, rfl, n16, _⟩ := OurI.new P I15.out.held ho16
              have I16 := Lib.hid (I15.out.quiet P hb16)
              have N16 := Lib.hid n16.ints
              have N16' := Lib.hid (N15.out.below hb16)
              clear ho16 n16 hb16 z15 I15 N15
              go_wp2_with fail
              refine ((sameInts_any u3 u3 a16 a14 c16 c14 _ N16.out N16'.out hu3l hu3l).mono (fun e w' (h : _ ∧ _) => (⟨h.1.trans (by simp), h.2⟩ : e = .returned (.bool true) ∧ Below _ _ w'))).mono ?_
              rintro e w17 ⟨rfl, hb17⟩
              have HB17 := Lib.hid (I16.out.below.trans (hb17.mono I16.out.below.size))
              clear hb17
              go_wp2
              go_ret
              exact ⟨rfl, HB17.out⟩
      · have hks' : (k : Int) ≥ (s.l.length : Int) := by omega
        go_wp2
        go_ret
        exact ⟨rfl, I4.out.below⟩
end Go.Proofs.YtcnejkbbheihiaaDoor
