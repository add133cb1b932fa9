/-
  The law HeldSums, whatever it is called with: over whatever the program's is (HeldProg), and this seat's translation.
-/
import Derived.Test.YtcnejkbbheihiaaDoorSumTreeHeldPureHeldFacts
import Derived.Test.YtcnejkbbheihiaaDoorLawHeld
import Derived.Test.YtcnejkbbheihiaaDoorPkSame
import Derived.Test.YtcnejkbbheihiaaDoorPkMakePkPackMakePkPackSum
import Derived.Deep.CutRange
import Derived.Deep.QuietTactic
import Derived.BigQuiet
namespace Go.Proofs.YtcnejkbbheihiaaDoor
open Go.RowKit Go.Shelf

set_option maxRecDepth 100000 in
set_option maxHeartbeats 2000000 in
theorem heldSums_long {p : Nat → Addr} {At : HeldIs} (P : HeldProg p At) (m : Int) (l : List Hd) (a : Option Addr) (ca : Nat) (w : World) (hE : HEnv p w) (hl : CameH w a l) (h : longH l = true) :
    Calls Tryd.prog 3 #[.int .i64 m, .slice a l.length ca] w fun e w' => e = .returned (.bool true) ∧ Below w.heap.size w w' := by
  have HE := Lib.hid hE
  have HL := Lib.hid hl
  have HF := Lib.hid h
  clear hE hl h
  go_enter Tryd.func3, Tryd.ntmps3
  go_wp2_with fail
  refine (holds_any P _ HE.out).mono ?_
  rintro e w1 ⟨rfl, hb1⟩
  have HB1 := Lib.hid hb1
  clear hb1
  go_wp2_with fail
  refine (longHoldings_any l a ca _ (HL.out.below HB1.out)).mono ?_
  rintro e w2 ⟨rfl, hw2⟩
  obtain rfl : w1 = w2 := hw2.symm
  rw [HF.out]
  go_wp2
  go_ret
  exact ⟨rfl, HB1.out⟩

set_option maxRecDepth 100000 in
set_option maxHeartbeats 8000000 in
theorem heldSums_main {p : Nat → Addr} {At : HeldIs} (P : HeldProg p At) (m : Int) (l : List Hd) (a : Option Addr) (ca : Nat) (w : World) (hE : HEnv p w) (hl : CameH w a l) (h : longH l = false) :
    Calls Tryd.prog 3 #[.int .i64 m, .slice a l.length ca] w fun e w' => e = .returned (.bool true) ∧ Below w.heap.size w w' := by
  have HE : Hid (∀ {V}, Below w.heap.size w V → HEnv p V) := fun h => hE.below h
  have HE0 := Lib.hid hE
  have HL := Lib.hid hl
  have HF := Lib.hid h
  obtain ⟨hlen, hall⟩ := longH_no h
  have HA := Lib.hid hall
  clear hE hl h hall
  go_enter Tryd.func3, Tryd.ntmps3
  go_wp2_with fail
  refine (holds_any P _ HE0.out).mono ?_
  rintro e w1 ⟨rfl, hb1⟩
  have HB1 := Lib.hid hb1
  clear hb1
  go_wp2_with fail
  refine (longHoldings_any l a ca _ (HL.out.below HB1.out)).mono ?_
  rintro e w2 ⟨rfl, hw2⟩
  obtain rfl : w1 = w2 := hw2.symm
  rw [HF.out]
  go_wp2_with fail
  refine (P.new _ m).mono ?_
  rintro e w3 ⟨nb, S, R, rfl, hn, hs, hb3⟩
  have I3 : Hid (InH At w w3 nb S R (Hs.none (mostH m))) := ⟨HB1.out.trans (hb3.mono HB1.out.size), hn, fun b hb => Nat.le_trans HB1.out.size (hs b hb), OkH.zero m⟩
  clear hn hs hb3 HF
  go_wp2_with fail
  go_loopw [7] (fun i wr => ∃ (q : Nat) (S' R' : Nat → Prop) (s : Hs), q ≤ l.length ∧ i = .int .i64 q ∧ InH At w wr nb S' R' s ∧ s.most = mostH m) (fun i _ => l.length - (intOf i).toNat)
  case atStart => exact ⟨0, S, R, _, by omega, rfl, I3.out, rfl⟩
  case round =>
    obtain ⟨q, S', R', s, hq, rfl, hin, hms⟩ := hrel
    have I := Lib.hid hin
    have HMS := Lib.hid hms
    clear hin hms I3
    by_cases hlt : q < l.length
    · have hlt' : (q : Int) < (l.length : Int) := by omega
      obtain ⟨b, o, hb, j0, j1, j2⟩ := HL.out.lies.at hlt
      have HC := Lib.hid (HL.out.each _ (List.getElem_mem hlt))
      have HLG := Lib.hid (HA.out _ (List.getElem_mem hlt))
      subst hb
      generalize l[q] = x at j0 j1 j2 HC HLG
      obtain ⟨xp, xl, xa, xc, xn⟩ := x
      simp only at j0 j1 j2
      have hbl : b < w.heap.size := block_lt_of_cell j0
      have J0 : Hid (∀ {V}, Below w.heap.size w V → V.cell? ⟨b, o + q * 3, none⟩ = some (.bool xp)) := fun h => (h.cell (p := ⟨b, o + q * 3, none⟩) hbl).trans j0
      have J1 : Hid (∀ {V}, Below w.heap.size w V → V.cell? ⟨b, o + q * 3 + 1, none⟩ = some (.slice xa xl.length xc)) := fun h => (h.cell (p := ⟨b, o + q * 3 + 1, none⟩) hbl).trans j1
      have J2 : Hid (∀ {V}, Below w.heap.size w V → V.cell? ⟨b, o + q * 3 + 2, none⟩ = some (.int .i64 xn)) := fun h => (h.cell (p := ⟨b, o + q * 3 + 2, none⟩) hbl).trans j2
      have k0 := J0.out I.out.below
      have k1 := J1.out I.out.below
      have k2 := J2.out I.out.below
      clear j0 j1 j2
      have hxs := small_of_long HLG.out
      have hxl : xl.length ≤ 100000 := by have := hxs.few; omega
      have HX := Lib.hid hxs
      clear hxs
      go_upto_if 44 with fail
      go_cut [8, 9, 10, 11, 12, 13, 14, 15] from 45 to 176 (fun _ _ _ _ _ _ _ _ wx => ∃ (S2 R2 : Nat → Prop) (s2 : Hs), InH At w wx nb S2 R2 s2 ∧ s2.most = mostH m)
      case first =>
        cases xp with
        | true =>
          go_wp2_with fail
          refine (packSum_any p xl xa xc _ (HE.out I.out.below).env (HE.out I.out.below).sum (HC.out.lies.below I.out.below) HC.out.cap HX.out).mono ?_
          rintro e w5 ⟨⟨v5, rfl, hv5⟩, hb5⟩
          have I5 := Lib.hid (I.out.quiet P hb5)
          have HV5 := Lib.hid hv5
          clear hv5 hb5 k0 k1 k2
          go_wp2_with fail
          refine (P.get _ nb S' R' s (sumT xl : Int) I5.out.held (HE.out I5.out.below) I5.out.ok (sumT_fit xl)).mono ?_
          rintro e w6 ⟨⟨a6, c6, rfl, n6⟩, hb6⟩
          have I6 := Lib.hid (I5.out.quiet P hb6)
          have N6 := Lib.hid n6
          have AP6 := Lib.hid (I5.out.apart P n6)
          have k1 := J1.out I6.out.below
          clear n6 hb6
          go_wp2_with fail
          refine (P.put _ nb S' R' s xl xa xc I6.out.held (HE.out I6.out.below) I6.out.ok (HC.out.lies.below I6.out.below) HC.out.cap HC.out.nil HX.out (fun hn => I6.out.came HC.out.lies hn)).mono ?_
          rintro e w7 ⟨⟨v7, rfl, hv7⟩, S7, R7, l7⟩
          have I7 := Lib.hid (I6.out.step l7 (I6.out.ok.put xl))
          have W7 := Lib.hid (lies_left N6.out.lies l7.kept (fun _ => AP6.out))
          have HMP : Hid ((putH s xl).1.most = mostH m) := (putH_most s xl).trans HMS.out
          clear l7 k1
          cases hp : (putH s xl).2.2.1 with
          | zero =>
            obtain ⟨hf, hpe, hg0, hgs, hgn⟩ := put_get hp
            rw [hp] at hv7
            obtain rfl := hv7.isNil
            have hv5 := HV5.out
            rw [hf] at hv5
            obtain rfl := hv5.isNil
            rw [show (putH s xl).2.1 = sumT xl from congrArg Prod.fst hpe]
            have HG0 := Lib.hid hg0
            have HGS := Lib.hid hgs
            have HGN := Lib.hid hgn
            have hsx : (getH (putH s xl).1 (sumT xl : Int)).1.length ≤ 100000 := by
              have := (tree_small (I7.out.ok.get hg0).1).few
              omega
            clear hv7 hv5 hp hpe hg0 hgs hgn HV5
            go_wp2_with fail
            refine (P.get _ nb S7 R7 (putH s xl).1 (sumT xl : Int) I7.out.held (HE.out I7.out.below) I7.out.ok (sumT_fit xl)).mono ?_
            rintro e w8 ⟨⟨a8, c8, rfl, n8⟩, hb8⟩
            rw [HG0.out, errV_zero]
            have I8 := Lib.hid (I7.out.quiet P hb8)
            have N8 := Lib.hid n8.lies
            have W8 := Lib.hid (W7.out.below hb8)
            have k1 := J1.out I8.out.below
            clear n8 hb8
            cases hgo : (getH s (sumT xl : Int)).2 with
            | zero =>
              have hE8 := HGS.out hgo
              rw [errV_zero]
              generalize (getH (putH s xl).1 (sumT xl : Int)).1 = L8 at *
              generalize (getH s (sumT xl : Int)).1 = L6 at *
              subst hE8
              generalize (sumT xl : Int) = z at *
              go_wp2_with fail
              refine ((same_any L8 L8 a8 a6 c8 c6 _ N8.out W8.out hsx hsx).mono (fun e w' (h : _ ∧ _) => (⟨h.1.trans (by simp), h.2⟩ : e = .returned (.bool true) ∧ Below _ _ w'))).mono ?_
              rintro e w9 ⟨rfl, hb9⟩
              have I9 := Lib.hid (I8.out.quiet P hb9)
              clear hb9 k1
              go_wp2
              go_meet
              case rel => exact ⟨S7, R7, _, I9.out, HMP.out⟩
            | succ j =>
              have hE8 := HGN.out (by omega)
              rw [errV_some p (Nat.succ_ne_zero j)]
              generalize (getH (putH s xl).1 (sumT xl : Int)).1 = L8 at *
              subst hE8
              generalize (sumT L8 : Int) = z at *
              go_wp2_with fail
              refine ((same_any L8 L8 a8 xa c8 xc _ N8.out (HC.out.lies.below I8.out.below) hsx hsx).mono (fun e w' (h : _ ∧ _) => (⟨h.1.trans (by simp), h.2⟩ : e = .returned (.bool true) ∧ Below _ _ w'))).mono ?_
              rintro e w9 ⟨rfl, hb9⟩
              have I9 := Lib.hid (I8.out.quiet P hb9)
              clear hb9 k1
              go_wp2
              go_meet
              case rel => exact ⟨S7, R7, _, I9.out, HMP.out⟩
          | succ j =>
            obtain ⟨T, u, rfl⟩ := hv7.some (by omega)
            clear hv7 hp
            go_wp2
            go_meet
            case rel => exact ⟨S7, R7, _, I7.out, HMP.out⟩
        | false =>
          go_wp2_with fail
          refine (P.drop _ nb S' R' s xn I.out.held (HE.out I.out.below) I.out.ok).mono ?_
          rintro e w5 ⟨rfl, S5, R5, l5⟩
          have I5 := Lib.hid (I.out.step l5 (I.out.ok.drop xn))
          have HMD : Hid ((dropH s xn).1.most = mostH m) := (dropH_most s xn).trans HMS.out
          clear l5 k0 k1 k2
          go_wp2
          go_meet
          case rel => exact ⟨S5, R5, _, I5.out, HMD.out⟩
      case rest =>
        obtain ⟨S2, R2, s2, hi2, hm2⟩ := hcut
        have I2 := Lib.hid hi2
        have HM2 := Lib.hid hm2
        clear hi2 hm2 k0 k1 k2 I HMS
        have hzl : (s2.l.map fun x => (x.n : Int)).length = s2.l.length := List.length_map _
        have h40 : s2.l.length ≤ 40 := by have h1 := I2.out.ok.few; have h2 := I2.out.ok.most; omega
        have hmo : 0 ≤ m → (s2.l.length : Int) ≤ m := fun h0 => by
          have h1 := I2.out.ok.few
          have h2 := mostH_most m h0
          have h3 := HM2.out
          omega
        have HMO := Lib.hid hmo
        have HZL := Lib.hid hzl
        clear hmo hzl
        go_wp2_with fail
        refine (P.sums _ nb S2 R2 s2 I2.out.held I2.out.ok).mono ?_
        rintro e w6 ⟨⟨v6, rfl, ho6⟩, hb6⟩
        obtain ⟨a6, c6, rfl, n6, hc6, hq1, hq2⟩ := ints_of_row ho6
        clear hq1 hq2
        have I6 := Lib.hid (I2.out.quiet P hb6)
        have N6 := Lib.hid n6
        rw [HZL.out] at hc6
        rw [HZL.out]
        clear ho6 n6 hb6 I2
        have hgt : decide ((40 : Int) < (s2.l.length : Int)) = false := by simp; omega
        go_upto_region 22 with fail
        go_cut [132] from 118 to 132 (fun s132 wx => s132 = .bool false ∧ wx = w6)
        case first =>
          by_cases hm0 : m ≥ 0
          · have hle : decide (m < (s2.l.length : Int)) = false := by have := HMO.out hm0; simp; omega
            have hm1 : decide (0 ≤ m) = true := by simp; omega
            clear hm0
            go_wp2
            go_meet
            case rel => exact ⟨rfl, rfl⟩
          · have hm1 : decide (0 ≤ m) = false := by simp; omega
            clear hm0
            go_wp2
            go_meet
            case rel => exact ⟨rfl, rfl⟩
        case rest =>
          obtain ⟨rfl, rfl⟩ := hcut
          go_wp2_with fail
          go_loopw [17] (fun i wx => ∃ k : Nat, k ≤ s2.l.length ∧ i = .int .i64 k ∧ InH At w wx nb S2 R2 s2 ∧ IntsAt wx a6 (s2.l.map fun x => (x.n : Int))) (fun i _ => s2.l.length - (intOf i).toNat)
          case atStart => exact ⟨0, by omega, rfl, I6.out, N6.out⟩
          case round =>
            obtain ⟨k, hk, rfl, hix, hnx⟩ := hrel
            have IX := Lib.hid hix
            have NX := Lib.hid hnx
            clear hix hnx I6 N6
            by_cases hkl : k < s2.l.length
            · have hkl' : (k : Int) < (s2.l.length : Int) := by omega
              obtain ⟨bz, oz, ez, z0⟩ := NX.out.at (k := k) (by rw [List.length_map]; exact hkl)
              subst ez
              have HG := Lib.hid (getH_at IX.out.ok hkl)
              have HSF : Hid (decide ((s2.l[k].n : Int) ∈ (s2.l.map fun x => (x.n : Int)).take k) = false) := decide_eq_false (sum_fresh IX.out.ok hkl)
              have HR := Lib.hid (IX.out.ok.right _ (List.getElem_mem hkl))
              have HFT := Lib.hid (IX.out.ok.fit (List.getElem_mem hkl))
              have HSM := Lib.hid (tree_small HR.out.1)
              have hgz : (s2.l.map fun x => (x.n : Int))[k]'(by rw [List.length_map]; exact hkl) = (s2.l[k].n : Int) := by simp
              replace z0 : wr.cell? ⟨bz, oz + k, none⟩ = some (.int .i64 (s2.l[k].n : Int)) := by rw [← hgz]; exact z0
              clear hgz
              generalize hyk : s2.l[k] = y at z0 HG HSF HR HFT HSM
              have HYK := Lib.hid hyk
              clear hyk
              obtain ⟨yn, yl⟩ := y
              simp only at z0
              go_wp2_with fail
              refine (P.get _ nb S2 R2 s2 (yn : Int) IX.out.held (HE.out IX.out.below) IX.out.ok HFT.out).mono ?_
              rintro e w7 ⟨⟨a7, c7, rfl, n7⟩, hb7⟩
              rw [show getH s2 (yn : Int) = (yl, 0) from HG.out] at n7
              rw [show getH s2 (yn : Int) = (yl, 0) from HG.out, errV_zero]
              have I7 := Lib.hid (IX.out.quiet P hb7)
              have N7 := Lib.hid n7
              have NX7 := Lib.hid (NX.out.below hb7)
              clear n7 hb7 z0 IX NX HG
              go_wp2_with fail
              refine (packSum_any p yl a7 c7 _ (HE.out I7.out.below).env (HE.out I7.out.below).sum N7.out.lies N7.out.cap HSM.out).mono ?_
              rintro e w8 ⟨⟨v8, rfl, hv8⟩, hb8⟩
              rw [HR.out.1] at hv8
              obtain rfl := hv8.isNil
              rw [show sumT yl = yn from HR.out.2.symm]
              have I8 := Lib.hid (I7.out.quiet P hb8)
              have NX8 := Lib.hid (NX7.out.below hb8)
              obtain ⟨bz', oz', ez, z1⟩ := NX8.out.at (k := k) (by rw [List.length_map]; exact hkl)
              cases ez
              have hgz : (s2.l.map fun x => (x.n : Int))[k]'(by rw [List.length_map]; exact hkl) = (yn : Int) := by
                have := HYK.out
                simp [this]
              replace z1 : w8.cell? ⟨bz, oz + k, none⟩ = some (.int .i64 (yn : Int)) := by rw [← hgz]; exact z1
              clear hv8 hb8 I7 N7 NX7 hgz
              have HIN : Hid (∀ V, Below w8.heap.size w8 V → Calls Tryd.prog 14 #[.int .i64 (yn : Int), .slice (some ⟨bz, oz, none⟩) k c6] V fun e w' => e = .returned (.bool false) ∧ w' = V) := fun V hV => (inInts_len (yn : Int) ((s2.l.map fun x => (x.n : Int)).take k) (some ⟨bz, oz, none⟩) k c6 V (by simp; omega) ((NX8.out.below hV).take k) (by omega)).mono fun e w' h => ⟨h.1.trans (by rw [show decide ((yn : Int) ∈ (s2.l.map fun x => (x.n : Int)).take k) = false from HSF.out]), h.2⟩
              have hk0 : (0 : Int) ≤ (k : Int) := by omega
              generalize (yn : Int) = zn at *
              go_wp2_with fail
              go_quiet ((go_at_call 14; refine Calls.quiet_of_same (HIN.out _ (below_drewN (Below.refl _ _) _))))
              go_wp2
              go_roundw
              case rel => exact ⟨k + 1, by omega, by go_num, I8.out.quiet P (below_drewN (Below.refl _ _) _), NX8.out.below (below_drewN (Below.refl _ _) _)⟩
              case measure => simp [intOf]; omega
            · have hkl' : ¬ ((k : Int) < (s2.l.length : Int)) := by omega
              go_wp2
              go_roundw
              case rel => exact ⟨q + 1, S2, R2, s2, by omega, by go_num, IX.out, HM2.out⟩
              case measure => simp [intOf]; omega
    · have hge : ¬ ((q : Int) < (l.length : Int)) := by omega
      go_wp2
      go_ret
      exact ⟨rfl, I.out.below⟩
end Go.Proofs.YtcnejkbbheihiaaDoor
