/-
  Own texts of the proof, joined by program: HeldLast, LawHeldActs.
-/
import Derived.Test.YtcnejkbbheihiaaGreatDoorCode
import Derived.StillTailTactics
import Derived.Test.YtcnejkbbheihiaaGreatDoorHeldBoth
import Derived.Test.YtcnejkbbheihiaaGreatDoorPkHeldMemPkHeldPkHeldPutPkHeldDoHeldTwoPkHeldTwo
import Derived.Test.YtcnejkbbheihiaaGreatDoorSumTreeHeldPureHeldFacts
import Derived.Test.YtcnejkbbheihiaaGreatDoorLawHeld
import Derived.Test.YtcnejkbbheihiaaGreatDoorRefPackTextRefPackOfRefTreeSumRefHeldPutRefHeldIn
import Derived.Test.YtcnejkbbheihiaaGreatDoorRefSame
/-
  The operations of the law HeldActs' last region, one by one: what each yields: over this seat's translation.
-/
namespace Go.Proofs.YtcnejkbbheihiaaGreatDoor
open Go.RowKit

/-- A list of operations, laid out. -/
theorem list_laid {P : Program} {ops : Array Oper} {Q : Exit → Act → World → Prop} {l rest : List Oper} {o : Oper} {a : Act} {w : World} (h : l = o :: rest) (hw : wpList P ops Q (o :: rest) a w) : wpList P ops Q l a w := h ▸ hw

/-- One operation that only reads, in a region that draws: what it yields; the frame behind it is laid out. -/
theorem still_yields {P : Program} {ops : Array Oper} {w : World} {Q : Act → Prop} {o : Oper} {rest : List Oper} {t t' : Array Value} {ds : List Deferred} (d : Nat) (v : Value) (hd : o.dst = some d) (ht : t.setIfInBounds d v = t') (hw : Region.wanted o (yielded ops t) = true)
    (hr : (execOp (Act.eval ⟨t, ds⟩) o).run P w = .ok (.value v) w) (h : wpStill P ops w Q rest ⟨t', ds⟩) : wpStill P ops w Q (o :: rest) ⟨t, ds⟩ := by
  refine wpStill_step (fun K hK => ?_)
  have hw' : Region.wanted o (yielded ops (Act.mk t ds).tmps) = true := hw
  rw [if_pos hw']
  unfold Oper.still
  rw [hr]
  refine ⟨rfl, hK _ ?_⟩
  have : (Act.mk t ds).put o.dst v = ⟨t', ds⟩ := by rw [hd, ← ht]; rfl
  rw [this]
  exact h
/-- .. a call that changes nothing. -/
theorem still_calls {P : Program} {ops : Array Oper} {w : World} {Q : Act → Prop} {o : Oper} {rest : List Oper} {t t' : Array Value} {ds : List Deferred} {f : FuncId} {args : Array Value} (d : Nat) (v : Value) (hd : o.dst = some d) (ht : t.setIfInBounds d v = t') (hw : Region.wanted o (yielded ops t) = true)
    (hr : (execOp (Act.eval ⟨t, ds⟩) o).run P w = .ok (.enter f args) w) (hc : Calls P f args w fun e w' => e = .returned v ∧ w' = w) (h : wpStill P ops w Q rest ⟨t', ds⟩) : wpStill P ops w Q (o :: rest) ⟨t, ds⟩ := by
  refine wpStill_step (fun K hK => ?_)
  have hw' : Region.wanted o (yielded ops (Act.mk t ds).tmps) = true := hw
  rw [if_pos hw']
  unfold Oper.still
  rw [hr]
  refine ⟨rfl, v, hc, hK _ ?_⟩
  have : (Act.mk t ds).put o.dst v = ⟨t', ds⟩ := by rw [hd, ← ht]; rfl
  rw [this]
  exact h

theorem exec_nil {ev : Operand → Value} {o : Oper} {x : Operand} {T : TypeId} {u : Value} {w : World} (ho : o.op = .binOp .eql 33 x (.const .nilIface) 33) (hx : ev x = .iface T u) (hn : ev (.const .nilIface) = .nilIface) : (execOp ev o).run Tryz.prog w = .ok (.value (.bool false)) w := by
  unfold execOp
  rw [ho]
  go_simp
theorem exec_geq {ev : Operand → Value} {o : Oper} {x : Operand} {w : World} (ho : o.op = .binOp .geq 3 x (.const (.int .i64 0)) 3) (hx : ev x = .int .i64 (-1)) (hn : ev (.const (.int .i64 0)) = .int .i64 0) : (execOp ev o).run Tryz.prog w = .ok (.value (.bool false)) w := by
  unfold execOp
  rw [ho]
  go_simp
theorem exec_same {ev : Operand → Value} {o : Oper} {x y : Operand} {w : World} (ho : o.op = .binOp .eql 4 x y 4) (hx : ev x = .bool false) (hy : ev y = .bool false) : (execOp ev o).run Tryz.prog w = .ok (.value (.bool true)) w := by
  unfold execOp
  rw [ho]
  go_simp
theorem exec_find {ev : Operand → Value} {o : Oper} {x y : Operand} {v u : Value} {s t : TypeId} {w : World} (ho : o.op = .call { callee := .value (.func 22), args := #[x, y], argTypes := #[s, t] }) (hf : ev (.func 22) = .func (.func 22) #[] #[]) (hx : ev x = v) (hy : ev y = u) : (execOp ev o).run Tryz.prog w = .ok (.enter 22 #[v, u]) w := by
  unfold execOp
  rw [ho]
  go_simp
end Go.Proofs.YtcnejkbbheihiaaGreatDoor
/-
  The law HeldActs, whatever it is called with: over whatever the program's is (HeldProg), and this seat's translation.
-/
namespace Go.Proofs.YtcnejkbbheihiaaGreatDoor
open Go.RowKit Go.Shelf

set_option maxRecDepth 100000 in
set_option maxHeartbeats 2000000 in
theorem heldActs_long {p : Nat → Addr} {At : HeldIs} (P : HeldProg p At) (m n : Int) (l : List Hd) (a : Option Addr) (ca : Nat) (w : World) (hE : HEnv p w) (hl : CameH w a l) (h : longH l = true) :
    Calls Tryz.prog 3 #[.int .i64 m, .slice a l.length ca, .int .i64 n] w fun e w' => e = .returned (.bool true) ∧ Below w.heap.size w w' := by
  have HE := Lib.hid hE
  have HL := Lib.hid hl
  have HF := Lib.hid h
  clear hE hl h
  go_enter Tryz.func3, Tryz.ntmps3
  go_wp2_with fail
  refine (holds_any P _ HE.out).mono ?_
  rintro e w1 ⟨rfl, hb1⟩
  have HB1 := Lib.hid hb1
  clear hb1
  go_wp2_with fail
  refine (longHoldings_any l a ca _ (HL.out.below HB1.out)).mono ?_
  rintro e w2 ⟨rfl, hw2⟩
  obtain rfl : w1 = w2 := hw2.symm
  rw [HF.out]
  go_wp2
  go_ret
  exact ⟨rfl, HB1.out⟩

set_option maxRecDepth 100000 in
set_option maxHeartbeats 8000000 in
theorem heldActs_main {p : Nat → Addr} {At : HeldIs} (P : HeldProg p At) (P2 : HeldTwo p At) (m n : Int) (hnw : (Lit.int .i64 n).wf = true) (l : List Hd) (a : Option Addr) (ca : Nat) (w : World) (hE : HEnv p w) (hl : CameH w a l) (h : longH l = false) :
    Calls Tryz.prog 3 #[.int .i64 m, .slice a l.length ca, .int .i64 n] w fun e w' => e = .returned (.bool true) ∧ Below w.heap.size w w' := by
  have HE : Hid (∀ {V}, Below w.heap.size w V → HEnv p V) := fun h => hE.below h
  have HE0 := Lib.hid hE
  have HL := Lib.hid hl
  have HF := Lib.hid h
  obtain ⟨hlen, hall⟩ := longH_no h
  have HA := Lib.hid hall
  clear hE hl h hall
  go_enter Tryz.func3, Tryz.ntmps3
  go_wp2_with fail
  refine (holds_any P _ HE0.out).mono ?_
  rintro e w1 ⟨rfl, hb1⟩
  have HB1 := Lib.hid hb1
  clear hb1
  go_wp2_with fail
  refine (longHoldings_any l a ca _ (HL.out.below HB1.out)).mono ?_
  rintro e w2 ⟨rfl, hw2⟩
  obtain rfl : w1 = w2 := hw2.symm
  rw [HF.out]
  go_wp2_with fail
  refine (P.new _ m).mono ?_
  rintro e w3 ⟨nb, S, R, rfl, hn, hs, hb3⟩
  have I3 : Hid (InH At w w3 nb S R (Hs.none (mostH m))) := ⟨HB1.out.trans (hb3.mono HB1.out.size), hn, fun b hb => Nat.le_trans HB1.out.size (hs b hb), OkH.zero m⟩
  clear hn hs hb3
  go_wp2_with fail
  refine (refHNew_any m _).mono ?_
  rintro e w4 ⟨mb, rfl, hr4, hm4, hb4⟩
  have B4 : Hid (BothH At w w4 nb mb S R (.slice none 0 0) (mostH m) []) := ⟨I3.out.quiet P hb4, hr4, Nat.le_trans I3.out.below.size hm4, fun h => by have := P.lt I3.out.held mb h; omega, fun g h => by simp [Value.ownBlock] at h, fun r hr => by simp at hr⟩
  clear hr4 hm4 hb4 I3 HB1 HF
  go_wp2_with fail
  go_loopw [10] (fun i wr => ∃ (q : Nat) (S' R' : Nat → Prop) (v : Value) (rs : List Rt), q ≤ l.length ∧ i = .int .i64 q ∧ BothH At w wr nb mb S' R' v (mostH m) rs) (fun i _ => l.length - (intOf i).toNat)
  case atStart => exact ⟨0, S, R, _, [], by omega, rfl, B4.out⟩
  case round =>
    obtain ⟨q, S', R', v, rs, hq, rfl, hboth⟩ := hrel
    have HB := Lib.hid hboth
    have hfew := hboth.few
    clear hboth B4
    by_cases hlt : q < l.length
    · have hlt' : (q : Int) < (l.length : Int) := by omega
      obtain ⟨b, o, hb, j0, j1, j2⟩ := HL.out.lies.at hlt
      have HC := Lib.hid (HL.out.each _ (List.getElem_mem hlt))
      have HLG := Lib.hid (HA.out _ (List.getElem_mem hlt))
      subst hb
      generalize l[q] = x at j0 j1 j2 HC HLG
      obtain ⟨xp, xl, xa, xc, xn⟩ := x
      simp only at j0 j1 j2
      have hbl : b < w.heap.size := block_lt_of_cell j0
      have J0 : Hid (∀ {V}, Below w.heap.size w V → V.cell? ⟨b, o + q * 3, none⟩ = some (.bool xp)) := fun h => (h.cell (p := ⟨b, o + q * 3, none⟩) hbl).trans j0
      have J1 : Hid (∀ {V}, Below w.heap.size w V → V.cell? ⟨b, o + q * 3 + 1, none⟩ = some (.slice xa xl.length xc)) := fun h => (h.cell (p := ⟨b, o + q * 3 + 1, none⟩) hbl).trans j1
      have J2 : Hid (∀ {V}, Below w.heap.size w V → V.cell? ⟨b, o + q * 3 + 2, none⟩ = some (.int .i64 xn)) := fun h => (h.cell (p := ⟨b, o + q * 3 + 2, none⟩) hbl).trans j2
      have k0 := J0.out HB.out.prog.below
      have k1 := J1.out HB.out.prog.below
      have k2 := J2.out HB.out.prog.below
      clear j0 j1 j2
      have hxs := small_of_long HLG.out
      have hxl : xl.length ≤ 100000 := by have := hxs.few; omega
      have HX := Lib.hid hxs
      clear hxs
      cases xp with
      | true =>
        go_wp2_with fail
        refine (ownFiles_any xl xa xc _ (HC.out.lies.below HB.out.prog.below) HC.out.nil hxl).mono ?_
        rintro e w5 ⟨⟨v5, rfl, ho5⟩, hb5⟩
        obtain ⟨a5, c5, rfl, n5⟩ := new_files ho5
        have HN5 := Lib.hid n5
        have B5 := Lib.hid (HB.out.quiet P hb5)
        clear ho5 n5 hb5
        go_wp2_with fail
        refine (P.put _ nb S' R' ⟨mostH m, rs.map Rt.tr⟩ xl a5 c5 B5.out.prog.held (HE.out B5.out.prog.below) B5.out.prog.ok HN5.out.lies HN5.out.cap HN5.out.nil HX.out (fun _ => HB.out.prog.apart P HN5.out)).mono ?_
        rintro e w6 ⟨⟨v6, rfl, hv6⟩, S6, R6, l6⟩
        have HF6 := Lib.hid (B5.out.prog_step l6 (B5.out.prog.ok.put xl))
        have HV6 := Lib.hid hv6
        have d1 : w6.cell? ⟨b, o + q * 3 + 1, none⟩ = some (.slice xa xl.length xc) := J1.out HF6.out.prog.below
        clear l6 hv6 k0 k1 k2
        go_wp2_with fail
        refine (refHPut_any mb (mostH m) v rs xl xa xc _ HF6.out.ref (by omega) (HC.out.lies.below HF6.out.prog.below) HX.out).mono ?_
        rintro e w7 ⟨rfl, v7, rs7, l7, ht7, hr7⟩
        have B7 := Lib.hid (HF6.out.ref_step P l7 (putH_most _ _) ht7.symm (fun r hr => (hr7 r hr).elim (HB.out.lies r) (fun e => by subst e; exact ⟨HC.out.lies, HC.out.cap, HX.out⟩)))
        have HV7 := Lib.hid (err_apart_held HV6.out HF6.out.ref l7.kept)
        clear l7 ht7 hr7 HF6 HV6
        generalize (putH ⟨mostH m, rs.map Rt.tr⟩ xl).2.1 = sm at *
        generalize (putH ⟨mostH m, rs.map Rt.tr⟩ xl).2.2.1 = cc at *
        generalize (putH ⟨mostH m, rs.map Rt.tr⟩ xl).2.2.2 = ii at *
        go_wp2_with fail
        have B8 := Lib.hid (B7.out.quiet P ((Below.refl _ _).alloc (Nat.le_refl _) (.cells #[.int .i64 cc, .int .i64 ii] 38)))
        have HV8 := Lib.hid (HV7.out.below ((Below.refl _ _).alloc (Nat.le_refl _) (.cells #[.int .i64 cc, .int .i64 ii] 38)))
        refine (faulted_err HV8.out (HE.out B8.out.prog.below).env).mono ?_
        rintro e w9 ⟨rfl, hb9⟩
        have B9 := Lib.hid (B8.out.quiet P hb9)
        clear hb9 B7 B8 HV7 HV8 d1
        go_wp2
        go_roundw
        case rel => exact ⟨q + 1, S6, R6, v7, rs7, by omega, by go_num, B9.out⟩
        case measure => simp [intOf]; omega
      | false =>
        have HSTEP : Hid (∀ (z : Int) (V : World), BothH At w V nb mb S' R' v (mostH m) rs → Calls Tryz.prog 13 #[.pointer (some ⟨nb, 0, none⟩), .int .i64 z] V fun e w' => e = .returned (errV p (dropH ⟨mostH m, rs.map Rt.tr⟩ z).2) ∧ ∃ S2 R2, HalfH At w w' nb mb S2 R2 v (mostH m) (dropH ⟨mostH m, rs.map Rt.tr⟩ z).1 rs) := fun z V hV => (P.drop V nb S' R' ⟨mostH m, rs.map Rt.tr⟩ z hV.prog.held (HE.out hV.prog.below) hV.prog.ok).mono fun e w' ⟨he, S2, R2, l2⟩ => ⟨he, S2, R2, hV.prog_step l2 (hV.prog.ok.drop z)⟩
        by_cases h0 : 0 ≤ xn
        · by_cases h1 : xn < (rs.length : Int)
          · obtain ⟨j, rfl⟩ := Int.eq_ofNat_of_zero_le h0
            have hj : j < rs.length := by omega
            have c1 := HB.out.ref.c1
            obtain ⟨g, cap, hv, hcap, g0, _⟩ := HB.out.ref.site hj
            subst hv
            have hj' : (j : Int) < (rs.length : Int) := by omega
            generalize (rs[j].n : Int) = z at g0
            go_wp2_with fail
            clear c1 g0
            refine (HSTEP.out z _ HB.out).mono ?_
            rintro e w5 ⟨rfl, S5, R5, h5⟩
            have HF5 := Lib.hid h5
            clear h5 k0 k1 k2
            go_wp2_with fail
            refine (refHDrop_any mb (mostH m) _ rs z _ HF5.out.ref (by omega)).mono ?_
            rintro e w6 ⟨rfl, v6, rs6, l6, ht6, hr6⟩
            have B6 := Lib.hid (HF5.out.ref_step P l6 (dropH_most _ _) ht6.symm (fun r hr => HB.out.lies r (hr6 r hr)))
            have hle := dropH_le ⟨mostH m, rs.map Rt.tr⟩ z
            clear l6 ht6 hr6 HF5 HSTEP
            generalize (dropH ⟨mostH m, rs.map Rt.tr⟩ z).2 = cc at *
            go_wp2_with fail
            refine (coded_errV p cc _ (HE.out B6.out.prog.below).env hle).mono ?_
            rintro e w7 ⟨rfl, hb7⟩
            have B7 := Lib.hid (B6.out.quiet P hb7)
            clear hb7 B6
            go_wp2
            go_roundw
            case rel => exact ⟨q + 1, S5, R5, v6, rs6, by omega, by go_num, B7.out⟩
            case measure => simp [intOf]; omega
          · have c1 := HB.out.ref.c1
            obtain ⟨av, cv, hv⟩ := owns_slice HB.out.ref.row
            subst hv
            have h1' : decide (xn < (rs.length : Int)) = false := by simp; omega
            clear h1
            obtain ⟨z, rfl⟩ : ∃ z, z = xn := ⟨_, rfl⟩
            go_wp2_with fail
            clear c1
            refine (HSTEP.out z _ HB.out).mono ?_
            rintro e w5 ⟨rfl, S5, R5, h5⟩
            have HF5 := Lib.hid h5
            clear h5 k0 k1 k2
            go_wp2_with fail
            refine (refHDrop_any mb (mostH m) _ rs z _ HF5.out.ref (by omega)).mono ?_
            rintro e w6 ⟨rfl, v6, rs6, l6, ht6, hr6⟩
            have B6 := Lib.hid (HF5.out.ref_step P l6 (dropH_most _ _) ht6.symm (fun r hr => HB.out.lies r (hr6 r hr)))
            have hle := dropH_le ⟨mostH m, rs.map Rt.tr⟩ z
            clear l6 ht6 hr6 HF5 HSTEP
            generalize (dropH ⟨mostH m, rs.map Rt.tr⟩ z).2 = cc at *
            go_wp2_with fail
            refine (coded_errV p cc _ (HE.out B6.out.prog.below).env hle).mono ?_
            rintro e w7 ⟨rfl, hb7⟩
            have B7 := Lib.hid (B6.out.quiet P hb7)
            clear hb7 B6
            go_wp2
            go_roundw
            case rel => exact ⟨q + 1, S5, R5, v6, rs6, by omega, by go_num, B7.out⟩
            case measure => simp [intOf]; omega
        · have h0' : decide (0 ≤ xn) = false := by simp; omega
          clear h0
          obtain ⟨z, rfl⟩ : ∃ z, z = xn := ⟨_, rfl⟩
          go_wp2_with fail
          refine (HSTEP.out z _ HB.out).mono ?_
          rintro e w5 ⟨rfl, S5, R5, h5⟩
          have HF5 := Lib.hid h5
          clear h5 k0 k1 k2
          go_wp2_with fail
          refine (refHDrop_any mb (mostH m) _ rs z _ HF5.out.ref (by omega)).mono ?_
          rintro e w6 ⟨rfl, v6, rs6, l6, ht6, hr6⟩
          have B6 := Lib.hid (HF5.out.ref_step P l6 (dropH_most _ _) ht6.symm (fun r hr => HB.out.lies r (hr6 r hr)))
          have hle := dropH_le ⟨mostH m, rs.map Rt.tr⟩ z
          clear l6 ht6 hr6 HF5 HSTEP
          generalize (dropH ⟨mostH m, rs.map Rt.tr⟩ z).2 = cc at *
          go_wp2_with fail
          refine (coded_errV p cc _ (HE.out B6.out.prog.below).env hle).mono ?_
          rintro e w7 ⟨rfl, hb7⟩
          have B7 := Lib.hid (B6.out.quiet P hb7)
          clear hb7 B6
          go_wp2
          go_roundw
          case rel => exact ⟨q + 1, S5, R5, v6, rs6, by omega, by go_num, B7.out⟩
          case measure => simp [intOf]; omega
    · have hge : ¬ ((q : Int) < (l.length : Int)) := by omega
      have HSM : Hid (((rs.map Rt.tr).map fun x => (x.n : Int)) = rs.map fun x => (x.n : Int)) := by
        show List.map _ (List.map _ _) = _
        rw [List.map_map]
        rfl
      have hsl : (rs.map fun x => (x.n : Int)).length ≤ 100000 := by simp; omega
      go_wp2_with fail
      refine (P2.copy _ nb S' R' _ HB.out.prog.held HB.out.prog.ok).mono ?_
      rintro e w5 ⟨⟨nb2, S2, R2, rfl, hc2, hs2, _⟩, hb5⟩
      have B5 := Lib.hid (HB.out.quiet P hb5)
      have HC5 := Lib.hid hc2
      clear hc2 hs2 hb5
      go_wp2_with fail
      refine (P.sums _ nb S' R' _ B5.out.prog.held B5.out.prog.ok).mono ?_
      rintro e w6 ⟨⟨u6, rfl, ho6⟩, hb6⟩
      rw [show ((Hs.mk (mostH m) (rs.map Rt.tr)).l.map fun x => (x.n : Int)) = rs.map fun x => (x.n : Int) from HSM.out] at ho6
      obtain ⟨a6, c6, rfl, n6, _, _, _⟩ := ints_of_row ho6
      have B6 := Lib.hid (B5.out.quiet P hb6)
      have HC6 := Lib.hid (P.keep (T := fun _ => False) HC5.out (Kept.of_below hb6) (fun _ _ f => f))
      have N6 := Lib.hid n6
      clear ho6 n6 hb6 B5 HC5
      go_wp2_with fail
      refine (refHSums_any mb (mostH m) v rs _ B6.out.ref (by omega)).mono ?_
      rintro e w7 ⟨⟨u7, rfl, ho7⟩, hb7⟩
      obtain ⟨a7, c7, rfl, n7, _, _, _⟩ := ints_of_row ho7
      have B7 := Lib.hid (B6.out.quiet P hb7)
      have HC7 := Lib.hid (P.keep (T := fun _ => False) HC6.out (Kept.of_below hb7) (fun _ _ f => f))
      have N7 := Lib.hid n7
      have N67 := Lib.hid (N6.out.below hb7)
      clear ho7 n7 hb7 B6 HC6 N6
      go_wp2_with fail
      refine (sameInts_len (rs.map fun x => (x.n : Int)) (rs.map fun x => (x.n : Int)) a6 a7 rs.length rs.length c6 c7 _ (List.length_map _) (List.length_map _) N67.out N7.out (by omega) (by omega)).mono ?_
      rintro e w8 ⟨rfl, hb8⟩
      have B8 := Lib.hid (B7.out.quiet P hb8)
      have HC8 := Lib.hid (P.keep (T := fun _ => False) HC7.out (Kept.of_below hb8) (fun _ _ f => f))
      rw [decide_eq_true (rfl : (rs.map fun x => (x.n : Int)) = rs.map fun x => (x.n : Int))]
      clear hb8 B7 HC7 N67 N7
      go_wp2_with fail
      refine (P.sums _ nb2 S2 R2 _ HC8.out B8.out.prog.ok).mono ?_
      rintro e w9 ⟨⟨u9, rfl, ho9⟩, hb9⟩
      rw [show ((Hs.mk (mostH m) (rs.map Rt.tr)).l.map fun x => (x.n : Int)) = rs.map fun x => (x.n : Int) from HSM.out] at ho9
      obtain ⟨a9, c9, rfl, n9, _, _, _⟩ := ints_of_row ho9
      have B9 := Lib.hid (B8.out.quiet P hb9)
      have HC9 := Lib.hid (P.keep (T := fun _ => False) HC8.out (Kept.of_below hb9) (fun _ _ f => f))
      have N9 := Lib.hid n9
      clear ho9 n9 hb9 B8 HC8
      go_wp2_with fail
      refine (refHSums_any mb (mostH m) v rs _ B9.out.ref (by omega)).mono ?_
      rintro e w10 ⟨⟨u10, rfl, ho10⟩, hb10⟩
      obtain ⟨a10, c10, rfl, n10, _, _, _⟩ := ints_of_row ho10
      have B10 := Lib.hid (B9.out.quiet P hb10)
      have HC10 := Lib.hid (P.keep (T := fun _ => False) HC9.out (Kept.of_below hb10) (fun _ _ f => f))
      have N10 := Lib.hid n10
      have N910 := Lib.hid (N9.out.below hb10)
      clear ho10 n10 hb10 B9 HC9 N9
      go_wp2_with fail
      refine (sameInts_len (rs.map fun x => (x.n : Int)) (rs.map fun x => (x.n : Int)) a9 a10 rs.length rs.length c9 c10 _ (List.length_map _) (List.length_map _) N910.out N10.out (by omega) (by omega)).mono ?_
      rintro e w11 ⟨rfl, hb11⟩
      have B11 := Lib.hid (B10.out.quiet P hb11)
      have HC11 := Lib.hid (P.keep (T := fun _ => False) HC10.out (Kept.of_below hb11) (fun _ _ f => f))
      rw [decide_eq_true (rfl : (rs.map fun x => (x.n : Int)) = rs.map fun x => (x.n : Int))]
      clear hb11 B10 HC10 N910 N10
      go_wp2_with fail
      refine (P2.same _ nb2 S2 R2 _ nb S' R' _ HC11.out B11.out.prog.held B11.out.prog.ok B11.out.prog.ok).mono ?_
      rintro e w12 ⟨rfl, hb12⟩
      have B12 := Lib.hid (B11.out.quiet P hb12)
      rw [decide_eq_true rfl]
      clear hb12 B11 HC11
      go_wp2_with fail
      refine (P2.same_none _ nb S' R' _ B12.out.prog.held).mono ?_
      rintro e w13 ⟨rfl, hb13⟩
      have B13 := Lib.hid (B12.out.quiet P hb13)
      clear hb13 B12
      go_wp2_with fail
      refine (P2.none_same _).mono ?_
      rintro e w14 ⟨rfl, hb14⟩
      have B14 := Lib.hid (B13.out.quiet P hb14)
      clear hb14 B13 HB HL HA
      have c1 := B14.out.ref.c1
      obtain ⟨av, cv, hv⟩ := owns_slice B14.out.ref.row
      subst hv
      go_wp2_with fail
      go_loopw [17] (fun i wx => ∃ k : Nat, k ≤ rs.length ∧ i = .int .i64 k ∧ BothH At w wx nb mb S' R' (.slice av rs.length cv) (mostH m) rs) (fun i _ => rs.length - (intOf i).toNat)
      case atStart => exact ⟨0, by omega, rfl, B14.out⟩
      case round =>
        obtain ⟨k, hk, rfl, hbo⟩ := hrel
        have HBx := Lib.hid hbo
        clear hbo B14 c1
        have c1 := HBx.out.ref.c1
        by_cases hkl : k < rs.length
        · have hkl' : (k : Int) < (rs.length : Int) := by omega
          obtain ⟨g, cap, hv, hcap, g0, g1⟩ := HBx.out.ref.site hkl
          cases hv
          have hkm : k < (Hs.mk (mostH m) (rs.map Rt.tr)).l.length := by simpa using hkl
          have HG : Hid (getH ⟨mostH m, rs.map Rt.tr⟩ (rs[k].n : Int) = (rs[k].l, 0)) := by
            show getH ⟨mostH m, rs.map Rt.tr⟩ (rs[k].n : Int) = (rs[k].l, 0)
            have := getH_at HBx.out.prog.ok hkm
            simpa [Rt.tr] using this
          obtain ⟨hla, hlc, hls⟩ := HBx.out.lies _ (List.getElem_mem hkl)
          have HLA := Lib.hid (hla.below HBx.out.prog.below)
          have hln : rs[k].l.length ≤ 100000 := by have := hls.few; omega
          have HFIT : Hid ((Lit.int .i64 (rs[k].n : Int)).wf = true) := HBx.out.prog.ok.fit (x := rs[k].tr) (List.mem_map_of_mem (List.getElem_mem hkl))
          clear hla hlc hls hkm
          generalize rs[k] = x at g0 g1 HG HLA hln HFIT
          obtain ⟨xn, xl, xa, xc⟩ := x
          simp only at g0 g1 hln
          go_wp2_with fail
          refine (P.get _ nb S' R' _ (xn : Int) HBx.out.prog.held (HE.out HBx.out.prog.below) HBx.out.prog.ok HFIT.out).mono ?_
          rintro e w15 ⟨⟨a15, c15, rfl, n15⟩, hb15⟩
          rw [HG.out] at n15
          rw [HG.out, errV_zero]
          have B15 := Lib.hid (HBx.out.quiet P hb15)
          have HLA15 := Lib.hid (HLA.out.below hb15)
          have N15 := Lib.hid n15.lies
          have c15' := B15.out.ref.c1
          have g1' : w15.cell? ⟨g, k * 2 + 1, none⟩ = some (.slice xa xl.length xc) := (hb15.cell (p := ⟨g, k * 2 + 1, none⟩) (block_lt_of_cell g1)).trans g1
          clear n15 hb15 HLA HBx c1 g0 g1 HG
          go_wp2_with fail
          refine ((sameTrees_any xl xl a15 xa c15 xc _ N15.out HLA15.out hln hln).mono (fun e w' (h : _ ∧ _) => (⟨h.1.trans (by simp), h.2⟩ : e = .returned (.bool true) ∧ Below _ _ w'))).mono ?_
          rintro e w16 ⟨rfl, hb16⟩
          have B16 := Lib.hid (B15.out.quiet P hb16)
          clear hb16 B15
          go_wp2
          go_roundw
          case rel => exact ⟨k + 1, by omega, by go_num, B16.out⟩
          case measure => simp [intOf]; omega
        · have hkl' : ¬ ((k : Int) < (rs.length : Int)) := by omega
          go_wp2_with fail
          refine (P.get _ nb S' R' _ n HBx.out.prog.held (HE.out HBx.out.prog.below) HBx.out.prog.ok hnw).mono ?_
          rintro e w15 ⟨⟨a15, c15, rfl, n15⟩, hb15⟩
          have B15 := Lib.hid (HBx.out.quiet P hb15)
          have B15d : Hid (BothH At w wr nb mb S' R' (.slice av rs.length cv) (mostH m) rs → True) := fun _ => trivial
          clear n15 hb15 HBx c1 B15d
          cases hs : spotH (rs.map Rt.tr) n with
          | none =>
            have HF := Lib.hid (atH_none hs)
            have h6 : ∃ T u, errV p 6 = .iface T u := ⟨_, _, errV_some p (by decide : (6 : Nat) ≠ 0)⟩
            obtain ⟨T6, u6, hv6⟩ := h6
            rw [getH_none (s := ⟨mostH m, rs.map Rt.tr⟩) hs, hv6]
            have hcd := coded_errV p 6 w15.drew (HE.out (B15.out.prog.below.drew)).env (by decide)
            rw [hv6] at hcd
            have HCD := Lib.hid hcd
            clear hs hv6 hcd
            have HQ : Hid (Calls Tryz.prog 22 #[.pointer (some ⟨mb, 0, none⟩), .int .i64 n] w15.drew fun e w' => e = .returned (.int .i64 (-1)) ∧ w' = w15.drew) := refHFind_is mb (mostH m) _ rs n _ w15.drew (B15.out.quiet P (Below.refl _ _).drew).ref (by omega) HF.out
            have hmx : Tryz.prog.follows .mixedOrders = true := by kernel_rfl
            go_wp2_with fail
            refine wp_region_still_tail 12 hmx (by kernel_rfl) ?_
            refine still_yields 186 (.iface T6 u6) rfl (by simp only [List.setIfInBounds_toArray, List.set_cons_zero, List.set_cons_succ]; rfl) (by kernel_rfl) (by rfl) ?_
            refine still_yields 187 (.bool false) rfl (by simp only [List.setIfInBounds_toArray, List.set_cons_zero, List.set_cons_succ]; rfl) (by kernel_rfl) (exec_nil rfl rfl rfl) ?_
            refine still_yields 188 (.pointer (some ⟨mb, 0, none⟩)) rfl (by simp only [List.setIfInBounds_toArray, List.set_cons_zero, List.set_cons_succ]; rfl) (by kernel_rfl) (by rfl) ?_
            refine still_yields 189 (.int .i64 n) rfl (by simp only [List.setIfInBounds_toArray, List.set_cons_zero, List.set_cons_succ]; rfl) (by kernel_rfl) (by rfl) ?_
            refine still_calls 190 (.int .i64 (-1)) rfl (by simp only [List.setIfInBounds_toArray, List.set_cons_zero, List.set_cons_succ]; rfl) (by kernel_rfl) (exec_find rfl rfl rfl rfl) HQ.out ?_
            refine still_yields 191 (.bool false) rfl (by simp only [List.setIfInBounds_toArray, List.set_cons_zero, List.set_cons_succ]; rfl) (by kernel_rfl) (exec_geq rfl rfl rfl) ?_
            refine still_yields 192 (.bool true) rfl (by simp only [List.setIfInBounds_toArray, List.set_cons_zero, List.set_cons_succ]; rfl) (by kernel_rfl) (exec_same rfl rfl rfl) ?_
            refine still_yields 193 (.bool true) rfl (by simp only [List.setIfInBounds_toArray, List.set_cons_zero, List.set_cons_succ]; rfl) (by kernel_rfl) (by rfl) ?_
            refine still_yields 194 (.iface T6 u6) rfl (by simp only [List.setIfInBounds_toArray, List.set_cons_zero, List.set_cons_succ]; rfl) (by kernel_rfl) (by rfl) ?_
            refine still_yields 195 (.bool false) rfl (by simp only [List.setIfInBounds_toArray, List.set_cons_zero, List.set_cons_succ]; rfl) (by kernel_rfl) (exec_nil rfl rfl rfl) ?_
            refine still_yields 196 (.bool false) rfl (by simp only [List.setIfInBounds_toArray, List.set_cons_zero, List.set_cons_succ]; rfl) (by kernel_rfl) (by rfl) ?_
            refine still_yields 197 (.iface T6 u6) rfl (by simp only [List.setIfInBounds_toArray, List.set_cons_zero, List.set_cons_succ]; rfl) (by kernel_rfl) (by rfl) ?_
            refine wpStill_nil ?_
            refine list_laid rfl ?_
            go_wp2_with fail
            refine HCD.out.mono ?_
            rintro e w16 ⟨rfl, hb16⟩
            have HB16 := Lib.hid (B15.out.prog.below.drew.trans (hb16.mono (B15.out.prog.below.drew).size))
            clear hb16
            go_wp2
            go_ret
            exact ⟨by rfl, HB16.out⟩
          | some k =>
            obtain ⟨hk2, _⟩ := spotH_some hs
            have HF := Lib.hid (atH_some hs)
            rw [getH_some (s := ⟨mostH m, rs.map Rt.tr⟩) hs hk2, errV_zero]
            clear hs
            have HQ : Hid (∀ V, BothH At w V nb mb S' R' (.slice av rs.length cv) (mostH m) rs → Calls Tryz.prog 22 #[.pointer (some ⟨mb, 0, none⟩), .int .i64 n] V fun e w' => e = .returned (.int .i64 (k : Int)) ∧ w' = V) := fun V hV => refHFind_is mb (mostH m) _ rs n _ V hV.ref (by omega) HF.out
            go_wp2_with fail
            go_quiet ((go_at_call 22; refine Calls.quiet_of_same (HQ.out _ (B15.out.quiet P (below_drewN (Below.refl _ _) _)))))
            go_wp2
            go_ret
            exact ⟨by rfl, below_drewN B15.out.prog.below _⟩
end Go.Proofs.YtcnejkbbheihiaaGreatDoor
