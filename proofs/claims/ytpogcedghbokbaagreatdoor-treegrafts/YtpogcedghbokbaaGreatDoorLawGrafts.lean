/-
  The statement TreeGrafts answers true, whatever comes in: over this seat's translation.
-/
import Derived.Test.YtpogcedghbokbaaGreatDoorGraftsLong
import Derived.Deep.CutRange
import Derived.Deep.RegionHeld3
namespace Go.Proofs.YtpogcedghbokbaaGreatDoor
open Go.RowKit Go.Shelf

theorem put_fine {l : List F} {x : F} (h : (putT l x).2.1 = 0) : putT l x = (withF l x, 0, -1) ∧ (treeFault (withF l x)).1 = 0 := by
  obtain ⟨h1, _, h3⟩ := put_zero h
  exact ⟨by simp [putT, h1, h3], h3⟩
theorem put_none {l : List F} {x : F} (h : (putT l x).2.1 ≠ 0) : ∃ c i, putT l x = ([], c, i) ∧ c ≠ 0 := by
  have h0 := put_bad h
  generalize putT l x = r at h h0
  obtain ⟨a, b, c⟩ := r
  simp only at h h0
  subst h0
  exact ⟨b, c, rfl, h⟩
theorem count_one {P : List F} {x : F} (hn : (P.map (·.p)).Nodup) (hx : x ∈ P) : (P.countP fun f => f.p == x.p) = 1 := by
  have h1 := length_without hn hx
  have h2 := List.length_eq_countP_add_countP (fun f : F => f.p == x.p) (l := P)
  have h3 : (without P x.p).length = P.countP fun f => !(f.p == x.p) := by unfold without; rw [List.countP_eq_length_filter]
  have h4 : (P.countP fun f => !(f.p == x.p)) = P.countP fun f => decide ¬(f.p == x.p) = true := by
    congr 1
    funext f
    cases h : f.p == x.p <;> simp
  omega
theorem drop_in {P : List F} {x : F} (h0 : (treeFault P).1 = 0) (hn : (P.map (·.p)).Nodup) (hx : x ∈ P) : dropT P x.p = (without P x.p, 0, -1) := by
  have := length_without hn hx
  unfold dropT
  rw [if_neg (by simp [h0]), if_neg (by omega)]
theorem drop_gone {P : List F} {q : List UInt8} (h0 : (treeFault (without P q)).1 = 0) : dropT (without P q) q = ([], 6, -1) := by
  unfold dropT
  rw [if_neg (by simp [h0]), if_pos (by rw [without_twice])]

set_option maxRecDepth 100000 in
set_option maxHeartbeats 16000000 in
open Classical in
theorem treeGrafts_any (p : Nat → Addr) (l m : List F) (a a' : Option Addr) (ca ca' : Nat) (dir : List UInt8) (x : F) (w : World) (hE : Env p w) (hl : Came w a ca l) (hm : Came w a' ca' m) (hd : dir.length ≤ maxLen) (hxp0 : x.p.length ≤ maxLen) (hxt0 : x.t.length ≤ maxLen) :
    Calls Tryz.prog 3 #[.slice a l.length ca, .slice a' m.length ca', .string ⟨dir.toArray⟩, fv x] w fun e w' => e = .returned (.bool true) ∧ Below w.heap.size w w' := by
  by_cases hsum : 0 < (longL l : Int) + (longL m : Int) + (longL [x] : Int)
  · exact grafts_long p l m a a' ca ca' dir x w hE hl hm hd hxp0 hxt0 hsum
  obtain ⟨hc1, hc2, hc3⟩ : (longL l : Int) = 0 ∧ (longL m : Int) = 0 ∧ (longL [x] : Int) = 0 := by omega
  clear hsum
  have HE : Hid (Env p w) := hE
  have HL : Hid (Came w a ca l) := hl
  have HM : Hid (Came w a' ca' m) := hm
  have hll := hl.len
  have hml := hm.len
  have hB0 : Below w.heap.size w (w.alloc (.cells #[sv x.p, .bool x.r, sv x.t] 24)) := (Below.refl _ _).alloc (Nat.le_refl _) _
  have HE0 : Hid (Env p (w.alloc (.cells #[sv x.p, .bool x.r, sv x.t] 24))) := hE.below hB0
  have hd63 : dir.length ≤ 9223372036854775807 := by unfold maxLen at hd; omega
  unfold maxLen at hll hml
  clear hE hl hm hB0 hd
  go_enter Tryz.func3, Tryz.ntmps3
  go_wp2_with fail
  refine (rooted_any p _ HE0.out).mono ?_
  rintro e w1 ⟨rfl, hb1⟩
  have HX1 : Hid (Below (w.heap.size + 1) (w.alloc (.cells #[sv x.p, .bool x.r, sv x.t] 24)) w1) := hb1.mono (by simp)
  obtain ⟨k0, k1, k2, hB1⟩ := box_three HX1.out
  have HB1 : Hid (Below w.heap.size w w1) := hB1
  have hBd : Below w.heap.size w w1.drew := hB1.drew
  have hBx : Below w1.heap.size w1 (w1.alloc (.cells #[sv x.p, .bool x.r, sv x.t] 24)).drew := ((Below.refl _ _).alloc (Nat.le_refl _) _).drew
  have HBX : Hid (Below w.heap.size w (w1.alloc (.cells #[sv x.p, .bool x.r, sv x.t] 24)).drew) := hB1.trans (hBx.mono hB1.size)
  have HXX : Hid (Below (w.heap.size + 1) (w.alloc (.cells #[sv x.p, .bool x.r, sv x.t] 24)) (w1.alloc (.cells #[sv x.p, .bool x.r, sv x.t] 24)).drew) := more_below HX1.out rfl hBx
  clear hb1 hB1 hBx
  by_cases hdl : 100 < dir.length
  · have hdl' : (100 : Int) < (dir.length : Int) := by omega
    clear hdl
    have LA1 := long_is (HL.out.below hBd) 0 hc1
    have LA2 := long_is (HL.out.below HBX.out) 0 hc1
    have LB1 := long_is (HM.out.below hBd) 0 hc2
    have LB2 := long_is (HM.out.below HBX.out) 0 hc2
    have LX2 := long_one w1 x 0 hxp0 hxt0 hc3
    clear hc1 hc2 hc3
    go_wp2_with fail
    go_region_held3 (fun w' => w'.cell? ⟨w.heap.size, 0, none⟩ = some (sv x.p) ∧ w'.cell? ⟨w.heap.size, 1, none⟩ = some (.bool x.r) ∧ w'.cell? ⟨w.heap.size, 2, none⟩ = some (sv x.t)) (go_keep) (first
        | (go_at_call 7; with_reducible refine LA1.mono ?_; rintro e w' ⟨rfl, rfl⟩)
        | (go_at_call 7; with_reducible refine LA2.mono ?_; rintro e w' ⟨rfl, rfl⟩)
        | (go_at_call 7; with_reducible refine LB1.mono ?_; rintro e w' ⟨rfl, rfl⟩)
        | (go_at_call 7; with_reducible refine LB2.mono ?_; rintro e w' ⟨rfl, rfl⟩)
        | (go_at_call 7; with_reducible refine LX2.mono ?_; rintro e w' ⟨rfl, rfl⟩))
    all_goals go_wp2
    all_goals go_ret
    all_goals exact ⟨rfl, HBX.out⟩
  · have hdl' : decide ((100 : Int) < (dir.length : Int)) = false := by simp; omega
    have LA1 := long_is (HL.out.below hBd) 0 hc1
    have LA2 := long_is (HL.out.below HBX.out) 0 hc1
    have LB1 := long_is (HM.out.below hBd) 0 hc2
    have LB2 := long_is (HM.out.below HBX.out) 0 hc2
    have LX2 := long_one w1 x 0 hxp0 hxt0 hc3
    have HSL : Hid (Small l) := small_of_long hc1
    have HSM : Hid (Small m) := small_of_long hc2
    obtain ⟨hxp, hxt⟩ := one_of_long hc3
    have hlf := HSL.out.few
    have hmf := HSM.out.few
    clear hc1 hc2 hc3
    go_wp2_with fail
    go_cut [40] from 22 to 39 (fun s40 wx => s40 = .bool false ∧ wx = (w1.alloc (.cells #[sv x.p, .bool x.r, sv x.t] 24)).drew)
    case first =>
      go_region_held3 (fun w' => w'.cell? ⟨w.heap.size, 0, none⟩ = some (sv x.p) ∧ w'.cell? ⟨w.heap.size, 1, none⟩ = some (.bool x.r) ∧ w'.cell? ⟨w.heap.size, 2, none⟩ = some (sv x.t)) (go_keep) (first
          | (go_at_call 7; with_reducible refine LA1.mono ?_; rintro e w' ⟨rfl, rfl⟩)
          | (go_at_call 7; with_reducible refine LA2.mono ?_; rintro e w' ⟨rfl, rfl⟩)
          | (go_at_call 7; with_reducible refine LB1.mono ?_; rintro e w' ⟨rfl, rfl⟩)
          | (go_at_call 7; with_reducible refine LB2.mono ?_; rintro e w' ⟨rfl, rfl⟩)
          | (go_at_call 7; with_reducible refine LX2.mono ?_; rintro e w' ⟨rfl, rfl⟩))
      all_goals (go_wp2_with fail; go_meet; exact ⟨rfl, rfl⟩)
    case rest =>
    obtain ⟨rfl, rfl⟩ := hcut
    clear LA1 LA2 LB1 LB2 LX2 k0 k1 k2 hBd hdl'
    obtain ⟨W, hW⟩ : ∃ W, W = (w1.alloc (.cells #[sv x.p, .bool x.r, sv x.t] 24)).drew := ⟨_, rfl⟩
    rw [← hW] at HBX HXX ⊢
    clear hW HX1 HB1 HE0
    by_cases hfl : (treeFault l).1 = 0
    · have HTL : Hid ((treeFault l).1 = 0) := hfl
      go_wp2_with fail
      refine (checkTree_any p l a ca _ (HE.out.below HBX.out) (HL.out.lies.below HBX.out) HL.out.cap HSL.out).mono ?_
      rintro e x1 ⟨⟨v, rfl, hv⟩, hb1⟩
      rw [hfl] at hv
      have := hv.isNil
      subst this
      have HB1 : Hid (Below w.heap.size w x1) := HBX.out.trans (hb1.mono HBX.out.size)
      have HX1 : Hid (Below (w.heap.size + 1) (w.alloc (.cells #[sv x.p, .bool x.r, sv x.t] 24)) x1) := more_below HXX.out rfl hb1
      clear hv hb1 hfl HBX HXX
      by_cases hfm : (treeFault m).1 = 0
      · have HTM : Hid ((treeFault m).1 = 0) := hfm
        go_wp2_with fail
        refine (checkTree_any p m a' ca' _ (HE.out.below HB1.out) (HM.out.lies.below HB1.out) HM.out.cap HSM.out).mono ?_
        rintro e x2 ⟨⟨v, rfl, hv⟩, hb2⟩
        rw [hfm] at hv
        have := hv.isNil
        subst this
        have HB2 : Hid (Below w.heap.size w x2) := HB1.out.trans (hb2.mono HB1.out.size)
        have HX2 : Hid (Below (w.heap.size + 1) (w.alloc (.cells #[sv x.p, .bool x.r, sv x.t] 24)) x2) := more_below HX1.out rfl hb2
        clear hv hb2 hfm HB1 HX1
        go_wp2_with fail
        refine (under_any p l a ca dir _ (HE.out.below HB2.out) (HL.out.lies.below HB2.out) HL.out.cap HSL.out (by omega)).mono ?_
        rintro e x3 ⟨htu, hb3⟩
        obtain ⟨aU, cU, rfl, hlU, hcU⟩ := htu.fine (under_fine HTL.out)
        have HB3 : Hid (Below w.heap.size w x3) := HB2.out.trans (hb3.mono HB2.out.size)
        have HX3 : Hid (Below (w.heap.size + 1) (w.alloc (.cells #[sv x.p, .bool x.r, sv x.t] 24)) x3) := more_below HX2.out rfl hb3
        have hUf : (underL l dir).length ≤ 100000 := by
          unfold underL
          rw [List.length_map]
          exact Nat.le_trans (List.length_filter_le _ _) hlf
        clear htu hb3 hlU HB2 HX2
        go_wp2_with fail
        refine (graft_any p l m a a' ca ca' dir _ (HE.out.below HB3.out) (HL.out.lies.below HB3.out) (HM.out.lies.below HB3.out) HL.out.cap HM.out.cap HSL.out HSM.out (by omega)).mono ?_
        rintro e x4 ⟨htg, hb4⟩
        have HB4 : Hid (Below w.heap.size w x4) := HB3.out.trans (hb4.mono HB3.out.size)
        have HX4 : Hid (Below (w.heap.size + 1) (w.alloc (.cells #[sv x.p, .bool x.r, sv x.t] 24)) x4) := more_below HX3.out rfl hb4
        clear hb4 HB3 HX3
        by_cases hg : (graftT l dir m).2.1 = 0
        · obtain ⟨T, hgT, _, _, G⟩ := graft_fine hg
          obtain ⟨aT, cT, rfl, hlT, hcT⟩ := htg.fine hgT
          have HLT : Hid (LiesAt x4 aT T) := hlT
          have HG : Hid (Grafted l dir m T) := G
          have HST : Hid (Small T) := tree_small G.tree
          have hTf := HST.out.few
          clear hg hgT htg hlT G
          go_wp2_with fail
          refine (under_any p T aT cT dir _ (HE.out.below HB4.out) HLT.out hcT HST.out (by omega)).mono ?_
          rintro e x5 ⟨htv, hb5⟩
          obtain ⟨aV, cV, rfl, hlV, hcV⟩ := htv.fine (under_fine HG.out.tree)
          have HB5 : Hid (Below w.heap.size w x5) := HB4.out.trans (hb5.mono HB4.out.size)
          have HX5 : Hid (Below (w.heap.size + 1) (w.alloc (.cells #[sv x.p, .bool x.r, sv x.t] 24)) x5) := more_below HX4.out rfl hb5
          have HLT5 : Hid (LiesAt x5 aT T) := HLT.out.below hb5
          have HLV : Hid (LiesAt x5 aV (underL T dir)) := hlV
          have hVf : (underL T dir).length ≤ 100000 := by
            unfold underL
            rw [List.length_map]
            exact Nat.le_trans (List.length_filter_le _ _) hTf
          clear htv hb5 hlV HB4 HX4 HLT
          have hn1 : ((T.length : Int) != (l.length : Int) + (m.length : Int)) = false := by
            have := HG.out.length
            simp; omega
          have hn2 : (((underL T dir).length : Int) != ((underL l dir).length : Int) + (m.length : Int)) = false := by
            have := HG.out.under
            simp; omega
          go_wp2_with fail
          refine (checkTree_any p T aT cT _ (HE.out.below HB5.out) HLT5.out hcT HST.out).mono ?_
          rintro e x6 ⟨⟨v, rfl, hv⟩, hb6⟩
          rw [HG.out.tree] at hv
          have := hv.isNil
          subst this
          have HB6 : Hid (Below w.heap.size w x6) := HB5.out.trans (hb6.mono HB5.out.size)
          have HX6 : Hid (Below (w.heap.size + 1) (w.alloc (.cells #[sv x.p, .bool x.r, sv x.t] 24)) x6) := more_below HX5.out rfl hb6
          have HLV6 : Hid (LiesAt x6 aV (underL T dir)) := HLV.out.below hb6
          clear hv hb6 HB5 HX5 HLT5 HLV
          by_cases hu : (underL l dir).length = 0
          · have hu' : (((underL l dir).length : Int) == 0) = true := by rw [hu]; rfl
            have HEQ : Hid (underL T dir = m) := HG.out.here (tree_rise HTM.out) (List.length_eq_zero_iff.1 hu)
            clear hu
            go_wp2_with fail
            rw [HEQ.out] at HLV6 ⊢
            refine (same_any m m aV a' cV ca' _ HLV6.out (HM.out.lies.below HB6.out) hmf hmf).mono ?_
            rintro e wz ⟨rfl, hb7⟩
            rw [decide_eq_true rfl]
            have HBZ : Hid (Below w.heap.size w wz) := HB6.out.trans (hb7.mono HB6.out.size)
            have HXZ : Hid (Below (w.heap.size + 1) (w.alloc (.cells #[sv x.p, .bool x.r, sv x.t] 24)) wz) := more_below HX6.out rfl hb7
            obtain ⟨k0, k1, k2, _⟩ := box_three HXZ.out
            clear hb7 HB6 HX6 HLV6 hu' hn1 hn2 hVf
            go_wp2_with fail
            refine (putTree_any p l a ca x _ (HE.out.below HBZ.out) (HL.out.lies.below HBZ.out) HL.out.cap HSL.out hxp hxt).mono ?_
            rintro e y1 ⟨htp, hbp⟩
            have HXP : Hid (Below (w.heap.size + 1) (w.alloc (.cells #[sv x.p, .bool x.r, sv x.t] 24)) y1) := more_below HXZ.out rfl hbp
            have HBP : Hid (Below w.heap.size w y1) := HBZ.out.trans (hbp.mono HBZ.out.size)
            clear hbp
            by_cases hp : (putT l x).2.1 = 0
            · obtain ⟨hpP, hP0⟩ := put_fine hp
              obtain ⟨aP, cP, rfl, hlP, hcP⟩ := htp.fine hpP
              have HLP : Hid (LiesAt y1 aP (withF l x)) := hlP
              have HP0 : Hid ((treeFault (withF l x)).1 = 0) := hP0
              have HSP : Hid (Small (withF l x)) := tree_small hP0
              have hPf := HSP.out.few
              have HW : Hid (without (withF l x) x.p = without l x.p) := without_with l x
              have HIN : Hid (x ∈ withF l x) := mem_with l x
              clear hp hpP hP0 hlP htp
              generalize withF l x = P at HLP HP0 HSP hPf HW HIN hcP
              have HND : Hid ((P.map (·.p)).Nodup) := rise_nodup (tree_rise HP0.out)
              obtain ⟨k0, k1, k2, _⟩ := box_three HXP.out
              go_wp2_with fail
              go_loopw [16, 17] (fun mn i wr => ∃ q : Nat, q ≤ P.length ∧ i = .int .i64 q ∧ mn = .int .i64 (((P.take q).countP fun f => f.p == x.p : Nat) : Int) ∧ Below y1.heap.size y1 wr) (fun _ i _ => P.length - (intOf i).toNat)
              case atStart => exact ⟨0, by omega, rfl, by simp, Below.refl _ _⟩
              case round =>
                obtain ⟨q, hq, rfl, rfl, hb⟩ := hrel
                have HB : Hid (Below y1.heap.size y1 wr) := hb
                have HXR : Hid (Below (w.heap.size + 1) (w.alloc (.cells #[sv x.p, .bool x.r, sv x.t] 24)) wr) := more_below HXP.out rfl hb
                obtain ⟨j0, j1, j2, hBR⟩ := box_three HXR.out
                have HBR : Hid (Below w.heap.size w wr) := hBR
                clear hb hBR k0 k1 k2
                by_cases hlt : q < P.length
                · have hlt' : (q : Int) < (P.length : Int) := by omega
                  obtain ⟨b, o, rfl, c0, c1, c2⟩ := (HLP.out.below HB.out).at hlt
                  have hcq : ((P.take q).countP fun f => f.p == x.p) ≤ q := Nat.le_trans List.countP_le_length (by rw [List.length_take]; omega)
                  by_cases he : P[q].p = x.p
                  · have hex : P[q] = x := inj_of_nodup HND.out (List.getElem_mem hlt) HIN.out he
                    have HCN : Hid (((P.take (q + 1)).countP fun f => f.p == x.p) = ((P.take q).countP fun f => f.p == x.p) + 1) := by
                      show _ = _
                      rw [List.take_succ_eq_append_getElem hlt, List.countP_append]
                      simp [he]
                    have hne := file_neq x x true (by simp)
                    have hg := fun op s t w => run_eqGuard_agg (P := Tryz.prog) w op 24 s t #[sv x.p, .bool x.r, sv x.t] #[sv x.p, .bool x.r, sv x.t] Tryz.guardFile
                    rw [hex] at c0 c1 c2
                    clear he hex
                    generalize ((P.take q).countP fun f => f.p == x.p) = cn at HCN hcq
                    go_wp2_with fail
                    go_quiet (fail)
                    go_wp2_with fail
                    go_quiet (fail)
                    go_wp2
                    go_roundw
                    case rel => exact ⟨q + 1, by omega, by go_num, by rw [HCN.out]; go_num, below_drewN HB.out _⟩
                    case measure => simp [intOf]; omega
                  · have HCN : Hid (((P.take (q + 1)).countP fun f => f.p == x.p) = ((P.take q).countP fun f => f.p == x.p)) := by
                      show _ = _
                      rw [List.take_succ_eq_append_getElem hlt, List.countP_append]
                      simp [he]
                    have he' : (P[q].p == x.p) = false := by simp [he]
                    clear he
                    generalize P[q] = f at c0 c1 c2 he'
                    generalize ((P.take q).countP fun f => f.p == x.p) = cn at HCN hcq
                    go_wp2_with fail
                    go_quiet (fail)
                    go_wp2
                    go_roundw
                    case rel => exact ⟨q + 1, by omega, by go_num, by rw [HCN.out], below_drewN HB.out _⟩
                    case measure => simp [intOf]; omega
                · obtain rfl : q = P.length := by omega
                  have hc1 : ((P.take P.length).countP fun f => f.p == x.p) = 1 := by rw [List.take_length]; exact count_one HND.out HIN.out
                  rw [hc1]
                  clear hc1
                  have HLPR : Hid (LiesAt wr aP P) := HLP.out.below HB.out
                  have HD1 : Hid (dropT P x.p = (without P x.p, 0, -1)) := drop_in HP0.out HND.out HIN.out
                  have hlt' : ¬ (P.length : Int) < (P.length : Int) := by omega
                  go_wp2_with fail
                  refine (dropTree_any p P aP cP x.p _ (HE.out.below HBR.out) HLPR.out hcP HSP.out).mono ?_
                  rintro e y2 ⟨htd, hbd⟩
                  obtain ⟨aD, cD, rfl, hlD, hcD⟩ := htd.fine HD1.out
                  have HLEN : Hid ((without P x.p).length + 1 = P.length) := length_without HND.out HIN.out
                  have HD0 : Hid ((treeFault (without P x.p)).1 = 0) := tree_sub List.filter_sublist HP0.out
                  have HDD : Hid (dropT (without P x.p) x.p = ([], 6, -1)) := drop_gone HD0.out
                  have HSD : Hid (Small (without P x.p)) := tree_small HD0.out
                  have hDf := HSD.out.few
                  have HLD : Hid (LiesAt y2 aD (without P x.p)) := hlD
                  have HBD : Hid (Below w.heap.size w y2) := HBR.out.trans (hbd.mono HBR.out.size)
                  have HXD : Hid (Below (w.heap.size + 1) (w.alloc (.cells #[sv x.p, .bool x.r, sv x.t] 24)) y2) := more_below HXR.out rfl hbd
                  clear htd hbd hlD j0 j1 j2 HD1
                  generalize without P x.p = D at HW HLEN HD0 HDD HSD hDf HLD hcD
                  have hlen' : ((D.length : Int) != (P.length : Int) - 1) = false := by
                    have := HLEN.out
                    simp; omega
                  go_wp2_with fail
                  refine (checkTree_any p D aD cD _ (HE.out.below HBD.out) HLD.out hcD HSD.out).mono ?_
                  rintro e y3 ⟨⟨v, rfl, hv⟩, hbc⟩
                  rw [HD0.out] at hv
                  have := hv.isNil
                  subst this
                  have HBC : Hid (Below w.heap.size w y3) := HBD.out.trans (hbc.mono HBD.out.size)
                  have HXC : Hid (Below (w.heap.size + 1) (w.alloc (.cells #[sv x.p, .bool x.r, sv x.t] 24)) y3) := more_below HXD.out rfl hbc
                  have HLDC : Hid (LiesAt y3 aD D) := HLD.out.below hbc
                  obtain ⟨i0, i1, i2, _⟩ := box_three HXC.out
                  clear hv hbc hlen'
                  go_wp2_with fail
                  refine (dropTree_any p D aD cD x.p _ (HE.out.below HBC.out) HLDC.out hcD HSD.out).mono ?_
                  rintro e y4 ⟨hta, hba⟩
                  obtain ⟨aA, cA, T4, u4, rfl, _⟩ := hta.bad HDD.out (by omega)
                  have HBA : Hid (Below w.heap.size w y4) := HBC.out.trans (hba.mono HBC.out.size)
                  have HXA : Hid (Below (w.heap.size + 1) (w.alloc (.cells #[sv x.p, .bool x.r, sv x.t] 24)) y4) := more_below HXC.out rfl hba
                  have HLDA : Hid (LiesAt y4 aD D) := HLDC.out.below hba
                  obtain ⟨h0, h1, h2, _⟩ := box_three HXA.out
                  clear hta hba i0 i1 i2
                  go_wp2_with fail
                  refine (dropTree_any p l a ca x.p _ (HE.out.below HBA.out) (HL.out.lies.below HBA.out) HL.out.cap HSL.out).mono ?_
                  rintro e y5 ⟨hte, hbe⟩
                  have HBE : Hid (Below w.heap.size w y5) := HBA.out.trans (hbe.mono HBA.out.size)
                  have HLDE : Hid (LiesAt y5 aD D) := HLDA.out.below hbe
                  clear hbe h0 h1 h2
                  by_cases hall : (without l x.p).length = l.length
                  · have hd : dropT l x.p = ([], 6, -1) := by simp [dropT, HTL.out, hall]
                    obtain ⟨aE, cE, T5, u5, rfl, _⟩ := hte.bad hd (by omega)
                    have HEQ : Hid (decide (D = l) = true) := by
                      show _ = true
                      rw [decide_eq_true_iff, HW.out]
                      exact without_all hall
                    clear hd hte hall
                    go_wp2_with fail
                    refine (same_any D l aD a cD ca _ HLDE.out (HL.out.lies.below HBE.out) hDf hlf).mono ?_
                    rintro e y6 ⟨rfl, hb6⟩
                    rw [HEQ.out]
                    go_wp2
                    go_ret
                    exact ⟨rfl, HBE.out.trans (hb6.mono HBE.out.size)⟩
                  · have hd : dropT l x.p = (without l x.p, 0, -1) := by simp [dropT, HTL.out, hall]
                    obtain ⟨aE, cE, rfl, hlE, hcE⟩ := hte.fine hd
                    have hEf : (without l x.p).length ≤ 100000 := Nat.le_trans (List.length_filter_le _ _) hlf
                    have HLE : Hid (LiesAt y5 aE (without l x.p)) := hlE
                    clear hd hte hall hlE
                    rw [← HW.out] at HLE hEf hcE ⊢
                    go_wp2_with fail
                    refine (same_any D D aD aE cD cE _ HLDE.out HLE.out hDf hEf).mono ?_
                    rintro e y6 ⟨rfl, hb6⟩
                    rw [decide_eq_true rfl]
                    go_wp2
                    go_ret
                    exact ⟨rfl, HBE.out.trans (hb6.mono HBE.out.size)⟩
            · obtain ⟨c, i, hpP, hc⟩ := put_none hp
              obtain ⟨aP, cP, T, u, rfl, _⟩ := htp.bad hpP hc
              clear hp hpP hc htp
              go_wp2
              go_ret
              exact ⟨rfl, HBP.out⟩
          · have hu' : (((underL l dir).length : Int) == 0) = false := beq_eq_false_iff_ne.2 (by omega)
            have HBZ : Hid (Below w.heap.size w x6) := HB6.out
            have HXZ : Hid (Below (w.heap.size + 1) (w.alloc (.cells #[sv x.p, .bool x.r, sv x.t] 24)) x6) := HX6.out
            obtain ⟨k0, k1, k2, _⟩ := box_three HXZ.out
            clear hu HB6 HX6 HLV6
            go_wp2_with fail
            clear hn1 hn2 hu'
            refine (putTree_any p l a ca x _ (HE.out.below HBZ.out) (HL.out.lies.below HBZ.out) HL.out.cap HSL.out hxp hxt).mono ?_
            rintro e y1 ⟨htp, hbp⟩
            have HXP : Hid (Below (w.heap.size + 1) (w.alloc (.cells #[sv x.p, .bool x.r, sv x.t] 24)) y1) := more_below HXZ.out rfl hbp
            have HBP : Hid (Below w.heap.size w y1) := HBZ.out.trans (hbp.mono HBZ.out.size)
            clear hbp
            by_cases hp : (putT l x).2.1 = 0
            · obtain ⟨hpP, hP0⟩ := put_fine hp
              obtain ⟨aP, cP, rfl, hlP, hcP⟩ := htp.fine hpP
              have HLP : Hid (LiesAt y1 aP (withF l x)) := hlP
              have HP0 : Hid ((treeFault (withF l x)).1 = 0) := hP0
              have HSP : Hid (Small (withF l x)) := tree_small hP0
              have hPf := HSP.out.few
              have HW : Hid (without (withF l x) x.p = without l x.p) := without_with l x
              have HIN : Hid (x ∈ withF l x) := mem_with l x
              clear hp hpP hP0 hlP htp
              generalize withF l x = P at HLP HP0 HSP hPf HW HIN hcP
              have HND : Hid ((P.map (·.p)).Nodup) := rise_nodup (tree_rise HP0.out)
              obtain ⟨k0, k1, k2, _⟩ := box_three HXP.out
              go_wp2_with fail
              go_loopw [16, 17] (fun mn i wr => ∃ q : Nat, q ≤ P.length ∧ i = .int .i64 q ∧ mn = .int .i64 (((P.take q).countP fun f => f.p == x.p : Nat) : Int) ∧ Below y1.heap.size y1 wr) (fun _ i _ => P.length - (intOf i).toNat)
              case atStart => exact ⟨0, by omega, rfl, by simp, Below.refl _ _⟩
              case round =>
                obtain ⟨q, hq, rfl, rfl, hb⟩ := hrel
                have HB : Hid (Below y1.heap.size y1 wr) := hb
                have HXR : Hid (Below (w.heap.size + 1) (w.alloc (.cells #[sv x.p, .bool x.r, sv x.t] 24)) wr) := more_below HXP.out rfl hb
                obtain ⟨j0, j1, j2, hBR⟩ := box_three HXR.out
                have HBR : Hid (Below w.heap.size w wr) := hBR
                clear hb hBR k0 k1 k2
                by_cases hlt : q < P.length
                · have hlt' : (q : Int) < (P.length : Int) := by omega
                  obtain ⟨b, o, rfl, c0, c1, c2⟩ := (HLP.out.below HB.out).at hlt
                  have hcq : ((P.take q).countP fun f => f.p == x.p) ≤ q := Nat.le_trans List.countP_le_length (by rw [List.length_take]; omega)
                  by_cases he : P[q].p = x.p
                  · have hex : P[q] = x := inj_of_nodup HND.out (List.getElem_mem hlt) HIN.out he
                    have HCN : Hid (((P.take (q + 1)).countP fun f => f.p == x.p) = ((P.take q).countP fun f => f.p == x.p) + 1) := by
                      show _ = _
                      rw [List.take_succ_eq_append_getElem hlt, List.countP_append]
                      simp [he]
                    have hne := file_neq x x true (by simp)
                    have hg := fun op s t w => run_eqGuard_agg (P := Tryz.prog) w op 24 s t #[sv x.p, .bool x.r, sv x.t] #[sv x.p, .bool x.r, sv x.t] Tryz.guardFile
                    rw [hex] at c0 c1 c2
                    clear he hex
                    generalize ((P.take q).countP fun f => f.p == x.p) = cn at HCN hcq
                    go_wp2_with fail
                    go_quiet (fail)
                    go_wp2_with fail
                    go_quiet (fail)
                    go_wp2
                    go_roundw
                    case rel => exact ⟨q + 1, by omega, by go_num, by rw [HCN.out]; go_num, below_drewN HB.out _⟩
                    case measure => simp [intOf]; omega
                  · have HCN : Hid (((P.take (q + 1)).countP fun f => f.p == x.p) = ((P.take q).countP fun f => f.p == x.p)) := by
                      show _ = _
                      rw [List.take_succ_eq_append_getElem hlt, List.countP_append]
                      simp [he]
                    have he' : (P[q].p == x.p) = false := by simp [he]
                    clear he
                    generalize P[q] = f at c0 c1 c2 he'
                    generalize ((P.take q).countP fun f => f.p == x.p) = cn at HCN hcq
                    go_wp2_with fail
                    go_quiet (fail)
                    go_wp2
                    go_roundw
                    case rel => exact ⟨q + 1, by omega, by go_num, by rw [HCN.out], below_drewN HB.out _⟩
                    case measure => simp [intOf]; omega
                · obtain rfl : q = P.length := by omega
                  have hc1 : ((P.take P.length).countP fun f => f.p == x.p) = 1 := by rw [List.take_length]; exact count_one HND.out HIN.out
                  rw [hc1]
                  clear hc1
                  have HLPR : Hid (LiesAt wr aP P) := HLP.out.below HB.out
                  have HD1 : Hid (dropT P x.p = (without P x.p, 0, -1)) := drop_in HP0.out HND.out HIN.out
                  have hlt' : ¬ (P.length : Int) < (P.length : Int) := by omega
                  go_wp2_with fail
                  refine (dropTree_any p P aP cP x.p _ (HE.out.below HBR.out) HLPR.out hcP HSP.out).mono ?_
                  rintro e y2 ⟨htd, hbd⟩
                  obtain ⟨aD, cD, rfl, hlD, hcD⟩ := htd.fine HD1.out
                  have HLEN : Hid ((without P x.p).length + 1 = P.length) := length_without HND.out HIN.out
                  have HD0 : Hid ((treeFault (without P x.p)).1 = 0) := tree_sub List.filter_sublist HP0.out
                  have HDD : Hid (dropT (without P x.p) x.p = ([], 6, -1)) := drop_gone HD0.out
                  have HSD : Hid (Small (without P x.p)) := tree_small HD0.out
                  have hDf := HSD.out.few
                  have HLD : Hid (LiesAt y2 aD (without P x.p)) := hlD
                  have HBD : Hid (Below w.heap.size w y2) := HBR.out.trans (hbd.mono HBR.out.size)
                  have HXD : Hid (Below (w.heap.size + 1) (w.alloc (.cells #[sv x.p, .bool x.r, sv x.t] 24)) y2) := more_below HXR.out rfl hbd
                  clear htd hbd hlD j0 j1 j2 HD1
                  generalize without P x.p = D at HW HLEN HD0 HDD HSD hDf HLD hcD
                  have hlen' : ((D.length : Int) != (P.length : Int) - 1) = false := by
                    have := HLEN.out
                    simp; omega
                  go_wp2_with fail
                  refine (checkTree_any p D aD cD _ (HE.out.below HBD.out) HLD.out hcD HSD.out).mono ?_
                  rintro e y3 ⟨⟨v, rfl, hv⟩, hbc⟩
                  rw [HD0.out] at hv
                  have := hv.isNil
                  subst this
                  have HBC : Hid (Below w.heap.size w y3) := HBD.out.trans (hbc.mono HBD.out.size)
                  have HXC : Hid (Below (w.heap.size + 1) (w.alloc (.cells #[sv x.p, .bool x.r, sv x.t] 24)) y3) := more_below HXD.out rfl hbc
                  have HLDC : Hid (LiesAt y3 aD D) := HLD.out.below hbc
                  obtain ⟨i0, i1, i2, _⟩ := box_three HXC.out
                  clear hv hbc hlen'
                  go_wp2_with fail
                  refine (dropTree_any p D aD cD x.p _ (HE.out.below HBC.out) HLDC.out hcD HSD.out).mono ?_
                  rintro e y4 ⟨hta, hba⟩
                  obtain ⟨aA, cA, T4, u4, rfl, _⟩ := hta.bad HDD.out (by omega)
                  have HBA : Hid (Below w.heap.size w y4) := HBC.out.trans (hba.mono HBC.out.size)
                  have HXA : Hid (Below (w.heap.size + 1) (w.alloc (.cells #[sv x.p, .bool x.r, sv x.t] 24)) y4) := more_below HXC.out rfl hba
                  have HLDA : Hid (LiesAt y4 aD D) := HLDC.out.below hba
                  obtain ⟨h0, h1, h2, _⟩ := box_three HXA.out
                  clear hta hba i0 i1 i2
                  go_wp2_with fail
                  refine (dropTree_any p l a ca x.p _ (HE.out.below HBA.out) (HL.out.lies.below HBA.out) HL.out.cap HSL.out).mono ?_
                  rintro e y5 ⟨hte, hbe⟩
                  have HBE : Hid (Below w.heap.size w y5) := HBA.out.trans (hbe.mono HBA.out.size)
                  have HLDE : Hid (LiesAt y5 aD D) := HLDA.out.below hbe
                  clear hbe h0 h1 h2
                  by_cases hall : (without l x.p).length = l.length
                  · have hd : dropT l x.p = ([], 6, -1) := by simp [dropT, HTL.out, hall]
                    obtain ⟨aE, cE, T5, u5, rfl, _⟩ := hte.bad hd (by omega)
                    have HEQ : Hid (decide (D = l) = true) := by
                      show _ = true
                      rw [decide_eq_true_iff, HW.out]
                      exact without_all hall
                    clear hd hte hall
                    go_wp2_with fail
                    refine (same_any D l aD a cD ca _ HLDE.out (HL.out.lies.below HBE.out) hDf hlf).mono ?_
                    rintro e y6 ⟨rfl, hb6⟩
                    rw [HEQ.out]
                    go_wp2
                    go_ret
                    exact ⟨rfl, HBE.out.trans (hb6.mono HBE.out.size)⟩
                  · have hd : dropT l x.p = (without l x.p, 0, -1) := by simp [dropT, HTL.out, hall]
                    obtain ⟨aE, cE, rfl, hlE, hcE⟩ := hte.fine hd
                    have hEf : (without l x.p).length ≤ 100000 := Nat.le_trans (List.length_filter_le _ _) hlf
                    have HLE : Hid (LiesAt y5 aE (without l x.p)) := hlE
                    clear hd hte hall hlE
                    rw [← HW.out] at HLE hEf hcE ⊢
                    go_wp2_with fail
                    refine (same_any D D aD aE cD cE _ HLDE.out HLE.out hDf hEf).mono ?_
                    rintro e y6 ⟨rfl, hb6⟩
                    rw [decide_eq_true rfl]
                    go_wp2
                    go_ret
                    exact ⟨rfl, HBE.out.trans (hb6.mono HBE.out.size)⟩
            · obtain ⟨c, i, hpP, hc⟩ := put_none hp
              obtain ⟨aP, cP, T, u, rfl, _⟩ := htp.bad hpP hc
              clear hp hpP hc htp
              go_wp2
              go_ret
              exact ⟨rfl, HBP.out⟩
        · obtain ⟨c, i, hgT, hc⟩ := graft_none hg
          obtain ⟨aT, cT, T0, u0, rfl, _⟩ := htg.bad hgT hc
          have HBZ : Hid (Below w.heap.size w x4) := HB4.out
          have HXZ : Hid (Below (w.heap.size + 1) (w.alloc (.cells #[sv x.p, .bool x.r, sv x.t] 24)) x4) := HX4.out
          obtain ⟨k0, k1, k2, _⟩ := box_three HXZ.out
          clear hg hgT hc htg HB4 HX4
          go_wp2_with fail
          refine (putTree_any p l a ca x _ (HE.out.below HBZ.out) (HL.out.lies.below HBZ.out) HL.out.cap HSL.out hxp hxt).mono ?_
          rintro e y1 ⟨htp, hbp⟩
          have HXP : Hid (Below (w.heap.size + 1) (w.alloc (.cells #[sv x.p, .bool x.r, sv x.t] 24)) y1) := more_below HXZ.out rfl hbp
          have HBP : Hid (Below w.heap.size w y1) := HBZ.out.trans (hbp.mono HBZ.out.size)
          clear hbp
          by_cases hp : (putT l x).2.1 = 0
          · obtain ⟨hpP, hP0⟩ := put_fine hp
            obtain ⟨aP, cP, rfl, hlP, hcP⟩ := htp.fine hpP
            have HLP : Hid (LiesAt y1 aP (withF l x)) := hlP
            have HP0 : Hid ((treeFault (withF l x)).1 = 0) := hP0
            have HSP : Hid (Small (withF l x)) := tree_small hP0
            have hPf := HSP.out.few
            have HW : Hid (without (withF l x) x.p = without l x.p) := without_with l x
            have HIN : Hid (x ∈ withF l x) := mem_with l x
            clear hp hpP hP0 hlP htp
            generalize withF l x = P at HLP HP0 HSP hPf HW HIN hcP
            have HND : Hid ((P.map (·.p)).Nodup) := rise_nodup (tree_rise HP0.out)
            obtain ⟨k0, k1, k2, _⟩ := box_three HXP.out
            go_wp2_with fail
            go_loopw [16, 17] (fun mn i wr => ∃ q : Nat, q ≤ P.length ∧ i = .int .i64 q ∧ mn = .int .i64 (((P.take q).countP fun f => f.p == x.p : Nat) : Int) ∧ Below y1.heap.size y1 wr) (fun _ i _ => P.length - (intOf i).toNat)
            case atStart => exact ⟨0, by omega, rfl, by simp, Below.refl _ _⟩
            case round =>
              obtain ⟨q, hq, rfl, rfl, hb⟩ := hrel
              have HB : Hid (Below y1.heap.size y1 wr) := hb
              have HXR : Hid (Below (w.heap.size + 1) (w.alloc (.cells #[sv x.p, .bool x.r, sv x.t] 24)) wr) := more_below HXP.out rfl hb
              obtain ⟨j0, j1, j2, hBR⟩ := box_three HXR.out
              have HBR : Hid (Below w.heap.size w wr) := hBR
              clear hb hBR k0 k1 k2
              by_cases hlt : q < P.length
              · have hlt' : (q : Int) < (P.length : Int) := by omega
                obtain ⟨b, o, rfl, c0, c1, c2⟩ := (HLP.out.below HB.out).at hlt
                have hcq : ((P.take q).countP fun f => f.p == x.p) ≤ q := Nat.le_trans List.countP_le_length (by rw [List.length_take]; omega)
                by_cases he : P[q].p = x.p
                · have hex : P[q] = x := inj_of_nodup HND.out (List.getElem_mem hlt) HIN.out he
                  have HCN : Hid (((P.take (q + 1)).countP fun f => f.p == x.p) = ((P.take q).countP fun f => f.p == x.p) + 1) := by
                    show _ = _
                    rw [List.take_succ_eq_append_getElem hlt, List.countP_append]
                    simp [he]
                  have hne := file_neq x x true (by simp)
                  have hg := fun op s t w => run_eqGuard_agg (P := Tryz.prog) w op 24 s t #[sv x.p, .bool x.r, sv x.t] #[sv x.p, .bool x.r, sv x.t] Tryz.guardFile
                  rw [hex] at c0 c1 c2
                  clear he hex
                  generalize ((P.take q).countP fun f => f.p == x.p) = cn at HCN hcq
                  go_wp2_with fail
                  go_quiet (fail)
                  go_wp2_with fail
                  go_quiet (fail)
                  go_wp2
                  go_roundw
                  case rel => exact ⟨q + 1, by omega, by go_num, by rw [HCN.out]; go_num, below_drewN HB.out _⟩
                  case measure => simp [intOf]; omega
                · have HCN : Hid (((P.take (q + 1)).countP fun f => f.p == x.p) = ((P.take q).countP fun f => f.p == x.p)) := by
                    show _ = _
                    rw [List.take_succ_eq_append_getElem hlt, List.countP_append]
                    simp [he]
                  have he' : (P[q].p == x.p) = false := by simp [he]
                  clear he
                  generalize P[q] = f at c0 c1 c2 he'
                  generalize ((P.take q).countP fun f => f.p == x.p) = cn at HCN hcq
                  go_wp2_with fail
                  go_quiet (fail)
                  go_wp2
                  go_roundw
                  case rel => exact ⟨q + 1, by omega, by go_num, by rw [HCN.out], below_drewN HB.out _⟩
                  case measure => simp [intOf]; omega
              · obtain rfl : q = P.length := by omega
                have hc1 : ((P.take P.length).countP fun f => f.p == x.p) = 1 := by rw [List.take_length]; exact count_one HND.out HIN.out
                rw [hc1]
                clear hc1
                have HLPR : Hid (LiesAt wr aP P) := HLP.out.below HB.out
                have HD1 : Hid (dropT P x.p = (without P x.p, 0, -1)) := drop_in HP0.out HND.out HIN.out
                have hlt' : ¬ (P.length : Int) < (P.length : Int) := by omega
                go_wp2_with fail
                refine (dropTree_any p P aP cP x.p _ (HE.out.below HBR.out) HLPR.out hcP HSP.out).mono ?_
                rintro e y2 ⟨htd, hbd⟩
                obtain ⟨aD, cD, rfl, hlD, hcD⟩ := htd.fine HD1.out
                have HLEN : Hid ((without P x.p).length + 1 = P.length) := length_without HND.out HIN.out
                have HD0 : Hid ((treeFault (without P x.p)).1 = 0) := tree_sub List.filter_sublist HP0.out
                have HDD : Hid (dropT (without P x.p) x.p = ([], 6, -1)) := drop_gone HD0.out
                have HSD : Hid (Small (without P x.p)) := tree_small HD0.out
                have hDf := HSD.out.few
                have HLD : Hid (LiesAt y2 aD (without P x.p)) := hlD
                have HBD : Hid (Below w.heap.size w y2) := HBR.out.trans (hbd.mono HBR.out.size)
                have HXD : Hid (Below (w.heap.size + 1) (w.alloc (.cells #[sv x.p, .bool x.r, sv x.t] 24)) y2) := more_below HXR.out rfl hbd
                clear htd hbd hlD j0 j1 j2 HD1
                generalize without P x.p = D at HW HLEN HD0 HDD HSD hDf HLD hcD
                have hlen' : ((D.length : Int) != (P.length : Int) - 1) = false := by
                  have := HLEN.out
                  simp; omega
                go_wp2_with fail
                refine (checkTree_any p D aD cD _ (HE.out.below HBD.out) HLD.out hcD HSD.out).mono ?_
                rintro e y3 ⟨⟨v, rfl, hv⟩, hbc⟩
                rw [HD0.out] at hv
                have := hv.isNil
                subst this
                have HBC : Hid (Below w.heap.size w y3) := HBD.out.trans (hbc.mono HBD.out.size)
                have HXC : Hid (Below (w.heap.size + 1) (w.alloc (.cells #[sv x.p, .bool x.r, sv x.t] 24)) y3) := more_below HXD.out rfl hbc
                have HLDC : Hid (LiesAt y3 aD D) := HLD.out.below hbc
                obtain ⟨i0, i1, i2, _⟩ := box_three HXC.out
                clear hv hbc hlen'
                go_wp2_with fail
                refine (dropTree_any p D aD cD x.p _ (HE.out.below HBC.out) HLDC.out hcD HSD.out).mono ?_
                rintro e y4 ⟨hta, hba⟩
                obtain ⟨aA, cA, T4, u4, rfl, _⟩ := hta.bad HDD.out (by omega)
                have HBA : Hid (Below w.heap.size w y4) := HBC.out.trans (hba.mono HBC.out.size)
                have HXA : Hid (Below (w.heap.size + 1) (w.alloc (.cells #[sv x.p, .bool x.r, sv x.t] 24)) y4) := more_below HXC.out rfl hba
                have HLDA : Hid (LiesAt y4 aD D) := HLDC.out.below hba
                obtain ⟨h0, h1, h2, _⟩ := box_three HXA.out
                clear hta hba i0 i1 i2
                go_wp2_with fail
                refine (dropTree_any p l a ca x.p _ (HE.out.below HBA.out) (HL.out.lies.below HBA.out) HL.out.cap HSL.out).mono ?_
                rintro e y5 ⟨hte, hbe⟩
                have HBE : Hid (Below w.heap.size w y5) := HBA.out.trans (hbe.mono HBA.out.size)
                have HLDE : Hid (LiesAt y5 aD D) := HLDA.out.below hbe
                clear hbe h0 h1 h2
                by_cases hall : (without l x.p).length = l.length
                · have hd : dropT l x.p = ([], 6, -1) := by simp [dropT, HTL.out, hall]
                  obtain ⟨aE, cE, T5, u5, rfl, _⟩ := hte.bad hd (by omega)
                  have HEQ : Hid (decide (D = l) = true) := by
                    show _ = true
                    rw [decide_eq_true_iff, HW.out]
                    exact without_all hall
                  clear hd hte hall
                  go_wp2_with fail
                  refine (same_any D l aD a cD ca _ HLDE.out (HL.out.lies.below HBE.out) hDf hlf).mono ?_
                  rintro e y6 ⟨rfl, hb6⟩
                  rw [HEQ.out]
                  go_wp2
                  go_ret
                  exact ⟨rfl, HBE.out.trans (hb6.mono HBE.out.size)⟩
                · have hd : dropT l x.p = (without l x.p, 0, -1) := by simp [dropT, HTL.out, hall]
                  obtain ⟨aE, cE, rfl, hlE, hcE⟩ := hte.fine hd
                  have hEf : (without l x.p).length ≤ 100000 := Nat.le_trans (List.length_filter_le _ _) hlf
                  have HLE : Hid (LiesAt y5 aE (without l x.p)) := hlE
                  clear hd hte hall hlE
                  rw [← HW.out] at HLE hEf hcE ⊢
                  go_wp2_with fail
                  refine (same_any D D aD aE cD cE _ HLDE.out HLE.out hDf hEf).mono ?_
                  rintro e y6 ⟨rfl, hb6⟩
                  rw [decide_eq_true rfl]
                  go_wp2
                  go_ret
                  exact ⟨rfl, HBE.out.trans (hb6.mono HBE.out.size)⟩
          · obtain ⟨c, i, hpP, hc⟩ := put_none hp
            obtain ⟨aP, cP, T, u, rfl, _⟩ := htp.bad hpP hc
            clear hp hpP hc htp
            go_wp2
            go_ret
            exact ⟨rfl, HBP.out⟩
      · have HC : Hid ((treeFault m).1 ≠ 0) := hfm
        clear hfm
        go_wp2_with fail
        refine (checkTree_any p m a' ca' _ (HE.out.below HB1.out) (HM.out.lies.below HB1.out) HM.out.cap HSM.out).mono ?_
        rintro e x2 ⟨⟨v, rfl, hv⟩, hb2⟩
        obtain ⟨T, u, rfl⟩ := hv.some HC.out
        clear hv
        go_wp2
        go_ret
        exact ⟨rfl, HB1.out.trans (hb2.mono HB1.out.size)⟩
    · have HC : Hid ((treeFault l).1 ≠ 0) := hfl
      clear hfl
      go_wp2_with fail
      refine (checkTree_any p l a ca _ (HE.out.below HBX.out) (HL.out.lies.below HBX.out) HL.out.cap HSL.out).mono ?_
      rintro e x1 ⟨⟨v, rfl, hv⟩, hb1⟩
      obtain ⟨T, u, rfl⟩ := hv.some HC.out
      clear hv
      go_wp2
      go_ret
      exact ⟨rfl, HBX.out.trans (hb1.mono HBX.out.size)⟩
end Go.Proofs.YtpogcedghbokbaaGreatDoor
