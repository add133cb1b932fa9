/-
  The law FetchTells, whatever it is called with: over whatever the program's net is and what it holds (by their contracts), and this seat's translation.
-/
import Derived.Test.YtmcfkoenpikldaaGreatDoorRefFetchOfLawFetchLawFetchAllLawFetchAnsPkFetchNilRefSameOwnRules
import Derived.Test.YtmcfkoenpikldaaGreatDoorOpenedHeldMemCameRulesWantOpened
import Derived.Test.YtmcfkoenpikldaaGreatDoorSlotsFaultedErrAt
import Derived.Deep.RegionHeld3
namespace Go.Proofs.YtmcfkoenpikldaaGreatDoor
open Go.RowKit Go.Shelf

/-- One operation taken first; the frame behind it is laid out. -/
theorem take_op {P : Program} {md : Region.Mode} {ops : Array Oper} {Q : Exit → Act → World → Prop} {S : World → Prop} (i d : Nat) {oi : Oper} (v : Value) {t t' : Array Value} {ds : List Deferred} {fuel : Nat} {listed : Array Bool} {w : World} (hi : ops[i]? = some oi) (hd : oi.dst = some d) (ht : t.setIfInBounds d v = t')
    (hs : Region.noSelect ops = true) (hf : Region.free md ops listed i = true) (hr : (Region.ready md ops listed).contains i = true)
    (hQ : ∀ c a w, Q (.panic c) (a.put oi.dst v) w → Q (.panic c) a w) (hy : YieldsIf P ops S oi v ⟨t, ds⟩) (hS : S w)
    (h : wpAnyH P md ops Q S fuel (listed.setIfInBounds i true) ⟨t', ds⟩ w) : wpAnyH P md ops Q S (fuel + 1) listed ⟨t, ds⟩ w :=
  wpAnyH_take hi hs hf hr hQ hy hS (by subst ht; rw [hd]; exact h)

/-- One call next, alone: its run is given. -/
theorem call_op {P : Program} {md : Region.Mode} {ops : Array Oper} {Q : Exit → Act → World → Prop} {S : World → Prop} (i d : Nat) {oi : Oper} {f : FuncId} {args : Array Value} {t : Array Value} {ds : List Deferred} {fuel : Nat} {listed : Array Bool} {w : World} (hi : ops[i]? = some oi) (hd : oi.dst = some d)
    (hr : Region.ready md ops listed = [i]) (hw : Region.wanted oi (yielded ops t) = true) (hx : (execOp (Act.eval ⟨t, ds⟩) oi).run P w = .ok (.enter f args) w)
    (h : Calls P f args w fun e w' => ∃ v t', e = .returned v ∧ t.setIfInBounds d v = t' ∧ S w' ∧ (S w' → wpAnyH P md ops Q S fuel (listed.setIfInBounds i true) ⟨t', ds⟩ w')) : wpAnyH P md ops Q S (fuel + 1) listed ⟨t, ds⟩ w := by
  refine wpAnyH_ready hr (by simp) (AllReadyH.cons hi (fun K hK => ?_) AllReadyH.nil)
  have hw' : Region.wanted oi (yielded ops (Act.mk t ds).tmps) = true := hw
  rw [if_pos hw']
  show Oper.upon P oi ⟨t, ds⟩ K Q ((execOp (Act.eval ⟨t, ds⟩) oi).run P w)
  rw [hx, Oper.upon_enter]
  refine h.mono ?_
  rintro e w' ⟨v, t', rfl, ht, hS, hn⟩
  refine hK.out _ _ hS (fun h => ?_)
  have e2 : (Act.mk t ds).put oi.dst v = ⟨t', ds⟩ := by rw [hd, ← ht]; rfl
  rw [e2]
  exact hn h
theorem exec_sums {ev : Operand → Value} {o : Oper} {x : Operand} {v : Value} {s : TypeId} {w : World} (ho : o.op = .call { callee := .value (.func 24), args := #[x], argTypes := #[s] }) (hf : ev (.func 24) = .func (.func 24) #[] #[]) (hx : ev x = v) : (execOp ev o).run Tryz.prog w = .ok (.enter 24 #[v]) w := by
  unfold execOp
  rw [ho]
  go_simp
theorem exec_refSums {ev : Operand → Value} {o : Oper} {x : Operand} {v : Value} {s : TypeId} {w : World} (ho : o.op = .call { callee := .value (.func 25), args := #[x], argTypes := #[s] }) (hf : ev (.func 25) = .func (.func 25) #[] #[]) (hx : ev x = v) : (execOp ev o).run Tryz.prog w = .ok (.enter 25 #[v]) w := by
  unfold execOp
  rw [ho]
  go_simp
theorem exec_ints {ev : Operand → Value} {o : Oper} {x y : Operand} {v u : Value} {s t : TypeId} {w : World} (ho : o.op = .call { callee := .value (.func 23), args := #[x, y], argTypes := #[s, t] }) (hf : ev (.func 23) = .func (.func 23) #[] #[]) (hx : ev x = v) (hy : ev y = u) : (execOp ev o).run Tryz.prog w = .ok (.enter 23 #[v, u]) w := by
  unfold execOp
  rw [ho]
  go_simp
theorem exec_calls {ev : Operand → Value} {o : Oper} {x : Operand} {v : Value} {s : TypeId} {w : World} (ho : o.op = .call { callee := .value (.func 26), args := #[x], argTypes := #[s] }) (hf : ev (.func 26) = .func (.func 26) #[] #[]) (hx : ev x = v) : (execOp ev o).run Tryz.prog w = .ok (.enter 26 #[v]) w := by
  unfold execOp
  rw [ho]
  go_simp
theorem exec_coded {ev : Operand → Value} {o : Oper} {x y : Operand} {v u : Value} {s t : TypeId} {w : World} (ho : o.op = .call { callee := .value (.func 27), args := #[x, y], argTypes := #[s, t] }) (hf : ev (.func 27) = .func (.func 27) #[] #[]) (hx : ev x = v) (hy : ev y = u) : (execOp ev o).run Tryz.prog w = .ok (.enter 27 #[v, u]) w := by
  unfold execOp
  rw [ho]
  go_simp

theorem exec_move {P : Program} {ev : Operand → Value} {o : Oper} {x : Operand} {v : Value} {w : World} (ho : o.op = .move x) (hx : ev x = v) : (execOp ev o).run P w = .ok (.value v) w := by
  unfold execOp
  rw [ho]
  go_simp
theorem exec_assign {P : Program} {ev : Operand → Value} {o : Oper} {x : Operand} {v : Value} {w : World} (ho : o.op = .assign x) (hx : ev x = v) : (execOp ev o).run P w = .ok (.value v) w := by
  unfold execOp
  rw [ho]
  go_simp
theorem exec_pick {P : Program} {ev : Operand → Value} {o : Oper} {c x y : Operand} {v : Value} {w : World} (ho : o.op = .pick c x y) (hc : ev c = .bool true) (hx : ev x = v) : (execOp ev o).run P w = .ok (.value v) w := by
  unfold execOp
  rw [ho]
  go_simp
theorem exec_eqInt {ev : Operand → Value} {o : Oper} {x y : Operand} {z : Int} {w : World} (ho : o.op = .binOp .eql 3 x y 3) (hx : ev x = .int .i64 z) (hy : ev y = .int .i64 z) : (execOp ev o).run Tryz.prog w = .ok (.value (.bool true)) w := by
  unfold execOp
  rw [ho]
  go_simp
theorem exec_nilCheck {ev : Operand → Value} {o : Oper} {x : Operand} {a : Addr} {w : World} (ho : o.op = .nilCheck x) (hx : ev x = .pointer (some a)) : (execOp ev o).run Tryz.prog w = .ok (.value (.pointer (some a))) w := by
  unfold execOp
  rw [ho]
  go_simp
theorem exec_field {ev : Operand → Value} {o : Oper} {x : Operand} {b : Nat} {w : World} (ho : o.op = .fieldAddr 37 x 2) (hx : ev x = .pointer (some ⟨b, 0, none⟩)) : (execOp ev o).run Tryz.prog w = .ok (.value (.pointer (some ⟨b, 2, none⟩))) w := by
  unfold execOp
  rw [ho]
  go_simp
theorem exec_load {ev : Operand → Value} {o : Oper} {x : Operand} {a : Addr} {z : Int} {w : World} (ho : o.op = .load 3 x) (hx : ev x = .pointer (some a)) (hc : w.cell? a = some (.int .i64 z)) : (execOp ev o).run Tryz.prog w = .ok (.value (.int .i64 z)) w := by
  unfold execOp
  rw [ho]
  go_simp

theorem CameR.under {w w' : World} {a : Option Addr} {ca : Nat} {l : List Ru} (h : CameR w a ca l) (hb : Below w.heap.size w w') : CameR w' a ca l := ⟨h.lies.below hb, h.cap, h.len, h.texts, h.nil⟩

set_option maxRecDepth 100000 in
set_option maxHeartbeats 2000000 in
theorem fetchTells_long {p : Nat → Addr} {NA : NetIs} {HA : HeldIs} (P : NetProg p NA) (P2 : HeldCore p HA) (l : List Ac) (a : Option Addr) (ca : Nat) (most : Int) (rl : List Ru) (ra : Option Addr) (rc : Nat) (n u k : List UInt8) (g m : Int) (w : World) (hE : FEnv p w) (hl : CameA w a l) (hr : CameR w ra rc rl) (h : longAs l 40 = 1 ∨ (longAs l 40 = 0 ∧ longAskB rl n u k = true)) :
    Calls Tryz.prog 3 #[.slice a l.length ca, .int .i64 most, .slice ra rl.length rc, wv ⟨n, u, k, g, m⟩] w fun e w' => e = .returned (.bool true) ∧ Below w.heap.size w w' := by
  have hb0 : Below w.heap.size w (w.alloc (wo n u k g m)) := (Below.refl _ _).alloc (Nat.le_refl _) _
  have HE := Lib.hid (hE.below hb0)
  have HL := Lib.hid (hl.below hb0)
  have HR := Lib.hid (hr.under hb0)
  have HW0 := Lib.hid (WantAt.new w n u k g m)
  have HB0 := Lib.hid hb0
  have HF := Lib.hid h
  clear hE hl hr h hb0
  go_enter Tryz.func3, Tryz.ntmps3
  go_wp2_with fail
  refine (fetched_any P P2 _ HE.out).mono ?_
  rintro e w1 ⟨rfl, hb1⟩
  have HB1 := Lib.hid hb1
  clear hb1
  rcases HF.out with h1 | ⟨h1, h2⟩
  · have H1 := Lib.hid h1
    clear h1
    go_wp2_with fail
    refine (longActs_any l a ca 40 _ (HL.out.below HB1.out).lies HL.out.len HL.out.texts).mono ?_
    rintro e w2 ⟨rfl, hw2⟩
    obtain rfl : w1 = w2 := hw2.symm
    rw [H1.out]
    go_wp2
    go_ret
    exact ⟨rfl, HB0.out.trans (HB1.out.mono HB0.out.size)⟩
  · have H1 := Lib.hid h1
    have H2 := Lib.hid h2
    obtain ⟨d0, d1, d2, d3, d4⟩ := HW0.out.below HB1.out
    clear h1 h2
    go_wp2_with fail
    refine (longActs_any l a ca 40 _ (HL.out.below HB1.out).lies HL.out.len HL.out.texts).mono ?_
    rintro e w2 ⟨rfl, hw2⟩
    obtain rfl : w1 = w2 := hw2.symm
    rw [H1.out]
    go_wp2_with fail
    refine (longAsk_any rl ra rc n u k g m _ (HR.out.under HB1.out).lies HR.out.len HR.out.texts).mono ?_
    rintro e w3 ⟨rfl, hb3⟩
    rw [H2.out]
    have HB3 := Lib.hid ((HB0.out.trans (HB1.out.mono HB0.out.size)).trans (hb3.mono (Nat.le_trans HB0.out.size HB1.out.size)))
    clear hb3 d0 d1 d2 d3 d4
    go_wp2
    go_ret
    exact ⟨rfl, HB3.out⟩

set_option maxRecDepth 100000 in
set_option maxHeartbeats 8000000 in
theorem fetchTells_main {p : Nat → Addr} {NA : NetIs} {HA : HeldIs} (P : NetProg p NA) (P2 : HeldCore p HA) (l : List Ac) (a : Option Addr) (ca : Nat) (most : Int) (rl : List Ru) (ra : Option Addr) (rc : Nat) (n u k : List UInt8) (g m : Int) (w : World) (hE : FEnv p w) (hl : CameA w a l) (hr : CameR w ra rc rl) (h1 : longAs l 40 = 0) (h2 : longAskB rl n u k = false) :
    Calls Tryz.prog 3 #[.slice a l.length ca, .int .i64 most, .slice ra rl.length rc, wv ⟨n, u, k, g, m⟩] w fun e w' => e = .returned (.bool true) ∧ Below w.heap.size w w' := by
  have hb0 : Below w.heap.size w (w.alloc (wo n u k g m)) := (Below.refl _ _).alloc (Nat.le_refl _) _
  have HE := Lib.hid (hE.below hb0)
  have HL := Lib.hid (hl.below hb0)
  have HR := Lib.hid (hr.under hb0)
  have HW0 := Lib.hid (WantAt.new w n u k g m)
  have HB0 := Lib.hid hb0
  obtain ⟨hlen, hall⟩ := longAs_zero h1
  have HALL := Lib.hid hall
  have H1 := Lib.hid h1
  have H2 := Lib.hid h2
  obtain ⟨hq1, hq2⟩ := longAsk_no h2
  have HRS := Lib.hid (longR_small hq1).1
  obtain ⟨hnl, hul, hkl⟩ := longW_zero hq2
  clear hE hl hr hb0 h1 h2 hall hq1 hq2 hkl
  go_enter Tryz.func3, Tryz.ntmps3
  obtain ⟨W0, hW0⟩ : ∃ W0, W0 = w.alloc (wo n u k g m) := ⟨_, rfl⟩
  rw [← hW0] at HE HL HR HW0 HB0
  go_wp2_with fail
  rw [← hW0]
  clear hW0
  refine (fetched_any P P2 _ HE.out).mono ?_
  rintro e w1 ⟨rfl, hb1⟩
  have HB1 := Lib.hid hb1
  obtain ⟨d0, d1, d2, d3, d4⟩ := HW0.out.below HB1.out
  clear hb1
  go_wp2_with fail
  refine (longActs_any l a ca 40 _ (HL.out.below HB1.out).lies HL.out.len HL.out.texts).mono ?_
  rintro e w2 ⟨rfl, hw2⟩
  obtain rfl : w1 = w2 := hw2.symm
  rw [H1.out]
  go_wp2_with fail
  refine (longAsk_any rl ra rc n u k g m _ (HR.out.under HB1.out).lies HR.out.len HR.out.texts).mono ?_
  rintro e w3 ⟨rfl, hb3⟩
  rw [H2.out]
  have HB3 := Lib.hid (HB1.out.trans (hb3.mono HB1.out.size))
  clear hb3 d0 d1 d2 d3 d4
  go_wp2_with fail
  refine (P.new _).mono ?_
  rintro e w4 ⟨nb, S, rfl, hn, hs, hb4⟩
  have I4 : Hid (InN NA W0 w4 nb S Ns.none) := ⟨HB3.out.trans (hb4.mono HB3.out.size), hn, fun b hb => Nat.le_trans HB3.out.size (hs b hb)⟩
  clear hn hs hb4
  go_wp2_with fail
  refine (P2.new _ most).mono ?_
  rintro e w5 ⟨hb, Sh, Rh, rfl, hh5, hs5, hb5⟩
  have I5 : Hid (InF NA HA W0 w5 nb hb S Sh Rh Ns.none (Hs.none (mostH most))) := InF.new P.acts I4.out hh5 hs5 hb5 (OkH.zero most)
  clear hh5 hs5 hb5 I4
  obtain ⟨w6, hw6⟩ : ∃ w6, w6 = w5.alloc (.cells #[.slice none 0 0, .slice none 0 0, .int .i64 0] 37) := ⟨_, rfl⟩
  have hrn : RefAt w6 w5.heap.size (.slice none 0 0) (.slice none 0 0) Ns.none := by rw [hw6]; exact ref_new w5
  have hbq : Below w5.heap.size w5 w6 := by rw [hw6]; exact (Below.refl _ _).alloc (Nat.le_refl _) _
  have hz5 := I5.out.net.below.size
  have I6 := Lib.hid (I5.out.quiet P.acts P2 hbq)
  have HLT5 : Hid (∀ b, S b ∨ Sh b ∨ Rh b → b < w5.heap.size) := fun b h => h.elim (P.lt I5.out.net.net b) (P2.lt I5.out.held.held b)
  have HRN := Lib.hid hrn
  go_wp2_with fail
  rw [← hw6]
  clear hw6 hrn hbq I5
  have hm6 := HRN.out.lt
  generalize w5.heap.size = mb at HLT5 HRN hz5 hm6 ⊢
  refine (refHNew_any most w6).mono ?_
  rintro e w7 ⟨kb, rfl, hk7, hkb, hb7⟩
  have hz7 := hb7.size
  have hkl := hk7.lt
  have hz0 : W0.heap.size ≤ mb := hz5
  have I7 := Lib.hid (I6.out.quiet P.acts P2 hb7)
  have HF7 : Hid (AllF NA HA W0 w7 nb hb S Sh Rh Ns.none (Hs.none (mostH most)) mb kb (.slice none 0 0) (.slice none 0 0) (.slice none 0 0) Ns.none (mostH most) []) :=
    ⟨I7.out, ⟨HRN.out.below hb7, hk7, by omega, fun g e => by simp [Value.ownBlock] at e, fun g e => by simp [Value.ownBlock] at e, fun r hr => by simp at hr, fun r hr => by simp at hr⟩, hz0, by omega, fun b h => ⟨by have := HLT5.out b h; omega, by have := HLT5.out b h; omega, by simp [Value.ownBlock], by simp [Value.ownBlock], by simp [Value.ownBlock]⟩, fun r hr => by simp at hr⟩
  have ST := Lib.hid (bothStill P2 hb Sh Rh (Hs.none (mostH most)) kb (mostH most))
  have HB0' := Lib.hid HF7.out.acts
  have HSH : Hid (∀ b, Sh b ∨ Rh b → W0.heap.size ≤ b) := I7.out.held.base
  have HSK : Hid (∀ b, Sh b ∨ Rh b → b ≠ kb) := fun b e => (HF7.out.sep b (.inr e)).2.1
  have hne7 := HF7.out.ref.ne
  have hkb0 := HF7.out.kbase
  clear I6 I7 HLT5 HRN hk7 hb7 HF7 hm6 hz5 hz7 hkl hz0 hkb
  go_wp2_with fail
  go_loopw [14] (fun i wr => ∃ (q : Nat) (S' : Nat → Prop) (vL vO : Value) (s : Ns), q ≤ l.length ∧ i = .int .i64 q ∧ Both (WithQ NA (fun W => HA W hb Sh Rh (Hs.none (mostH most)) ∧ RefHAt W kb (.slice none 0 0) (mostH most) []) (fun b => Sh b ∨ Rh b ∨ b = kb)) W0 wr nb mb S' vL vO s s ∧ s.l.length ≤ q ∧ s.off.length ≤ q ∧ s.calls ≤ q ∧ (∀ x ∈ s.l, x.t.length ≤ 90000)) (fun i _ => l.length - (intOf i).toNat)
  case atStart => exact ⟨0, _, _, _, Ns.none, by omega, rfl, HB0'.out, by simp [Ns.none], by simp [Ns.none], by simp [Ns.none], by simp [Ns.none]⟩
  case round =>
    obtain ⟨q, S', vL, vO, s, hq, rfl, hboth, r1, r2, r3, r4⟩ := hrel
    have HBo := Lib.hid hboth
    have HTX := Lib.hid r4
    clear hboth r4 HB0'
    by_cases hlt : q < l.length
    · have hlt' : (q : Int) < (l.length : Int) := by omega
      obtain ⟨b, o, hbb, k0, k1, k2, k3, k4⟩ := (HL.out.below HBo.out.below).lies.at hlt
      obtain ⟨x1, x2⟩ := HALL.out _ (List.getElem_mem hlt)
      subst hbb
      generalize l[q] = x at *
      go_wp2_with fail
      refine (do_any (withQ P.acts ST.out) W0 wr nb mb S' vL vO s x HE.out.net HBo.out (by omega) (by omega) (by omega) (by omega) (by omega)).mono ?_
      rintro e w7 ⟨rfl, S5, vL5, vO5, hb5⟩
      have HB5 := Lib.hid hb5
      obtain ⟨y1, y2, y3⟩ := act_bounds s x
      have HTY := Lib.hid (act_texts (a := x) HTX.out (by omega))
      clear hb5 k0 k1 k2 k3 k4
      generalize actN s x = s5 at *
      go_wp2
      go_roundw
      case rel => exact ⟨q + 1, S5, vL5, vO5, s5, by omega, by go_num, HB5.out, by omega, by omega, by omega, HTY.out⟩
      case measure => simp [intOf]; omega
    · have hge : ¬ ((q : Int) < (l.length : Int)) := by omega
      obtain ⟨S0, hall⟩ := AllF.of_acts (OkH.zero most) hne7 hkb0 HSH.out HSK.out HBo.out
      have A6 := Lib.hid hall
      have hcalls : s.calls ≤ 40 := by omega
      have hsl : s.l.length ≤ 1000 := by omega
      have hso : s.off.length ≤ 1000 := by omega
      obtain ⟨e0, e1, e2, e3, e4⟩ := HW0.out.below A6.out.prog.net.below
      have d0' := fun (W : World) (hb : Below W0.heap.size W0 W) => HW0.out.below hb
      have HWW := Lib.hid d0'
      clear hall HBo ST r1 r2 r3 HSH HSK hne7 hkb0 d0'
      have A6d : Hid (AllF NA HA W0 wr.drew nb hb S0 Sh Rh s (Hs.none (mostH most)) mb kb vL vO (.slice none 0 0) s (mostH most) []) := A6.out.quiet P.acts P2 (Below.refl _ wr).drew
      have hfew := tryF_few (l := rl.map Ru.q) (x := ⟨n, u, k, g, m⟩) (s := s)
      have hsame := try_same (l := rl.map Ru.q) (x := ⟨n, u, k, g, m⟩) (s := s)
      obtain ⟨r, hr⟩ : ∃ y, tryF (rl.map Ru.q) ⟨n, u, k, g, m⟩ s = y := ⟨_, rfl⟩
      rw [hr] at hfew hsame
      obtain ⟨s7, T, ls, c, i7⟩ := r
      simp only at hfew hsame
      obtain ⟨hT, hls⟩ := hfew
      have HTR := Lib.hid hr
      have HSM := Lib.hid hsame
      clear hr hsame
      go_wp2_with fail
      go_region_held3 (fun w' => w'.cell? ⟨w.heap.size, 0, none⟩ = some (.string ⟨n.toArray⟩) ∧ w'.cell? ⟨w.heap.size, 1, none⟩ = some (.string ⟨u.toArray⟩) ∧ w'.cell? ⟨w.heap.size, 2, none⟩ = some (.string ⟨k.toArray⟩) ∧ w'.cell? ⟨w.heap.size, 3, none⟩ = some (.int .i64 g) ∧ w'.cell? ⟨w.heap.size, 4, none⟩ = some (.int .i64 m)) (go_keep) (first
        | (go_at_call 16; (refine (ownRules_any rl ra rc _ (HR.out.under A6d.out.prog.net.below).lies HRS.out).mono ?_); rintro e w7 ⟨⟨v7, m7, rfl, hm7, hown7⟩, hb7⟩; obtain ⟨va, vc, rfl, hra, _, _⟩ := hown7.rules; have HRA := Lib.hid hra; have HSQ := Lib.hid (small_of_q hm7 HRS.out); have HMQ := Lib.hid hm7; have A7 := Lib.hid (A6d.out.quiet P.acts P2 hb7); obtain ⟨d0, d1, d2, d3, d4⟩ := HW0.out.below A7.out.prog.net.below; clear hb7 hown7 hm7 hra)
        | (go_at_call 15; (refine (progTry_any P.acts P2 A7.out HE.out m7 va vc n u k g m (by omega) HTX.out HRA.out HSQ.out (by omega) (by omega)).mono ?_); rw [HMQ.out, HTR.out]; rintro e w8 ⟨a8, c8, al8, cl8, v8, S8, Sh8, Rh8, rfl, q1, q3, q5, q6, qe, q7, _, _⟩; simp only at q1 q3 q5 q6 qe q7; have HVE := Lib.hid qe; have HT8 := Lib.hid q1; have HN8 := Lib.hid q3; have HL8 := Lib.hid q5; have HV8 := Lib.hid q6; have A8 := Lib.hid q7; obtain ⟨f0, f1, f2, f3, f4⟩ := HW0.out.below A8.out.prog.net.below; clear q1 q3 q5 q6 qe q7))
      all_goals
        go_wp2_with fail
        refine (refTry_any P.acts P2 A8.out rl ra rc n u k g m hsl hso (by omega) HTX.out (HR.out.under A8.out.prog.net.below).lies HRS.out (by omega) (by omega)).mono ?_
        rw [HTR.out]
        rintro e w9 ⟨a9, c9, al9, cl9, vL9, vO9, vH9, rs9, rfl, q1, q2, q3, q4, qf, q6, _⟩
        have q5 := qf.kept
        simp only at q1 q2 q3 q4 q5
        have HV9 := Lib.hid (err_both HV8.out HVE.out q6)
        have HT9 := Lib.hid (lies_apart HT8.out HN8.out q5 A7.out.apart)
        have HL9 := Lib.hid (row_apart HL8.out q5 A7.out.apart)
        have HU9 := Lib.hid q1
        have HM9 := Lib.hid q2
        have A9 := Lib.hid q3
        have HRT := Lib.hid q4
        obtain ⟨d0, d1, d2, d3, d4⟩ := HW0.out.below A9.out.prog.net.below
        clear q1 q2 q3 q4 q5 q6 qf f0 f1 f2 f3 f4
        go_wp2_with fail
        have hbf : Below w9.heap.size w9 (w9.alloc (.cells #[.int .i64 c, .int .i64 i7] 50)) := (Below.refl _ _).alloc (Nat.le_refl _) _
        refine (faulted_err (HV9.out.below hbf) (HE.out.below (A9.out.quiet P.acts P2 hbf).prog.net.below).env).mono ?_
        rintro e w10 ⟨rfl, hb10⟩
        have HFR := Lib.hid (Free.new P.acts P2 A9.out)
        have HF90 : Hid (W0.heap.size ≤ w9.heap.size) := A9.out.prog.net.below.size
        have A10 := Lib.hid ((A9.out.quiet P.acts P2 hbf).quiet P.acts P2 hb10)
        have HT10 := Lib.hid ((HT9.out.below hbf).below hb10)
        have HU10 := Lib.hid ((HU9.out.below hbf).below hb10)
        have HL10 := Lib.hid (row_below (row_below HL9.out hbf) hb10)
        have HM10 := Lib.hid (row_below (row_below HM9.out hbf) hb10)
        have HF10 := Lib.hid ((Two.new w9 (.int .i64 c) (.int .i64 i7) 50).below hb10 (Two.new w9 (.int .i64 c) (.int .i64 i7) 50).lt)
        clear hbf hb10 d0 d1 d2 d3 d4 HT9 HU9 HL9 HM9 A9
        go_wp2_with fail
        refine ((sameTrees_any T T a8 a9 c8 c9 _ HT10.out HU10.out (by omega) (by omega)).mono (fun e w' (h : _ ∧ _) => (⟨h.1.trans (by simp), h.2⟩ : e = .returned (.bool true) ∧ Below _ _ w'))).mono ?_
        rintro e w11 ⟨rfl, hb11⟩
        have A11 := Lib.hid (A10.out.quiet P.acts P2 hb11)
        have HL11 := Lib.hid (row_below HL10.out hb11)
        have HM11 := Lib.hid (row_below HM10.out hb11)
        have HF11 := Lib.hid (HF10.out.below hb11 HF10.out.lt)
        clear hb11 HT10 HU10 HL10 HM10 A10 HF10
        go_wp2_with fail
        refine ((sameTexts_at ls ls al8 al9 cl8 cl9 _ (texts_row HL11.out) (texts_row HM11.out) (by omega) (by omega)).mono (fun e w' (h : _ ∧ _) => (⟨h.1.trans (by simp), h.2⟩ : e = .returned (.bool true) ∧ Below _ _ w'))).mono ?_
        rintro e w12 ⟨rfl, hb12⟩
        have A12 := Lib.hid (A11.out.quiet P.acts P2 hb12)
        have HF12 := Lib.hid (HF11.out.below hb12 HF11.out.lt)
        clear hb12 HL11 HM11 A11 HF11 HV8 HVE HV9 HRA HSQ HMQ HT8 HN8 HL8 A8 A7 A6 A6d
        go_wp2_with fail
        have hfb := HF12.out.lt
        have hf0 : W0.heap.size ≤ w9.heap.size := HF90.out
        have H2c := Lib.hid HF12.out
        clear HF90
        generalize w9.heap.size = fb at HFR H2c hfb hf0 ⊢
        have hs1 := HSM.out.1
        have hs2 := HSM.out.2.1
        have hs3 := HSM.out.2.2
        clear HF12 HTR hT hls
        go_loopw [15, 16, 17, 18, 19, 21] (fun _ _ _ _ _ i wx => ∃ (q : Nat) (S1 Sh1 Rh1 : Nat → Prop) (s1 : Ns) (h1 : Hs) (vL1 vO1 vH1 : Value) (rs1 : List Rt) (x1 y1 : Int), q ≤ 2 ∧ i = .int .i64 q ∧ AllF NA HA W0 wx nb hb S1 Sh1 Rh1 s1 h1 mb kb vL1 vO1 vH1 s1 (mostH most) rs1 ∧ rs1.map Rt.tr = h1.l ∧ h1.most = mostH most ∧ (s1.l = s.l ∧ s1.off = s.off ∧ s1.calls ≤ 49 + 9 * q) ∧ Two wx fb (.int .i64 x1) (.int .i64 y1) 50 ∧ Free fb S1 Sh1 Rh1 mb kb vL1 vO1 vH1 rs1) (fun _ _ _ _ _ i _ => 2 - (intOf i).toNat)
        case atStart => exact ⟨0, _, _, _, s7, _, _, _, _, rs9, _, _, by omega, rfl, A12.out, HRT.out, rfl, ⟨hs1, hs2, by omega⟩, H2c.out, HFR.out⟩
        case round =>
          obtain ⟨q1, S1, Sh1, Rh1, s1, h1, vL1, vO1, vH1, rs1, x1, y1, hq1, rfl, hall, hmap, hmo, ⟨z1, z2, z3⟩, htw, hfree⟩ := hrel
          have A13 := Lib.hid hall
          have HTW := Lib.hid htw
          have HFE := Lib.hid hfree
          have hfx := htw.lt
          have hh : (⟨mostH most, rs1.map Rt.tr⟩ : Hs) = h1 := by
            obtain ⟨hm1, hl1⟩ := h1
            simp only at hmap hmo
            rw [hmap, hmo]
          have HH := Lib.hid hh
          have hok := A13.out.prog.held.ok
          have hrl : rs1.length ≤ 1000 := by
            have e1 := hok.few
            have e2 := hok.most
            rw [← hmap, List.length_map] at e1
            omega
          have HMAP := Lib.hid hmap
          have HMO := Lib.hid hmo
          clear hall hmap hmo htw hfree hh H2c HFR A12 HRT
          by_cases hlt1 : q1 < 2
          · have hlt1' : (q1 : Int) < 2 := by omega
            have A13d : Hid (AllF NA HA W0 wr.drew nb hb S1 Sh1 Rh1 s1 h1 mb kb vL1 vO1 vH1 s1 (mostH most) rs1) := A13.out.quiet P.acts P2 (Below.refl _ wr).drew
            have hfew := fetchF_few (l := rl.map Ru.q) (x := ⟨n, u, k, g, m⟩) (s := s1) hok
            have hsame := fetch_same (l := rl.map Ru.q) (x := ⟨n, u, k, g, m⟩) (h := h1) (s := s1)
            obtain ⟨r, hr⟩ : ∃ y, fetchF (rl.map Ru.q) ⟨n, u, k, g, m⟩ h1 s1 = y := ⟨_, rfl⟩
            rw [hr] at hfew hsame
            obtain ⟨h2, s2, T2, ls2, c2, i2⟩ := r
            simp only at hfew hsame
            obtain ⟨hT2, hls2, hok2, hmo2⟩ := hfew
            have HTR2 := Lib.hid hr
            have HSM2 := Lib.hid hsame
            have HTX2 : Hid (∀ x ∈ s1.l, x.t.length ≤ 90000) := by
              show ∀ x ∈ s1.l, x.t.length ≤ 90000
              rw [z1]
              exact HTX.out
            obtain ⟨e0, e1, e2, e3, e4⟩ := HW0.out.below A13.out.prog.net.below
            clear hr hsame
            go_wp2_with fail
            go_region_held3 (fun w' => w'.cell? ⟨w.heap.size, 0, none⟩ = some (.string ⟨n.toArray⟩) ∧ w'.cell? ⟨w.heap.size, 1, none⟩ = some (.string ⟨u.toArray⟩) ∧ w'.cell? ⟨w.heap.size, 2, none⟩ = some (.string ⟨k.toArray⟩) ∧ w'.cell? ⟨w.heap.size, 3, none⟩ = some (.int .i64 g) ∧ w'.cell? ⟨w.heap.size, 4, none⟩ = some (.int .i64 m)) (go_keep) (first
              | (go_at_call 16; (refine (ownRules_any rl ra rc _ (HR.out.under A13d.out.prog.net.below).lies HRS.out).mono ?_); rintro e w7 ⟨⟨v7, m7, rfl, hm7, hown7⟩, hb7⟩; obtain ⟨va, vc, rfl, hra, _, _⟩ := hown7.rules; have HRA := Lib.hid hra; have HSQ := Lib.hid (small_of_q hm7 HRS.out); have HMQ := Lib.hid hm7; have A7 := Lib.hid (A13d.out.quiet P.acts P2 hb7); obtain ⟨d0, d1, d2, d3, d4⟩ := HW0.out.below A7.out.prog.net.below; have HT7 := Lib.hid (HTW.out.below (show Below wr.heap.size wr w7 from ((Below.refl _ wr).drew).trans hb7) HTW.out.lt); clear hb7 hown7 hm7 hra)
              | (go_at_call 21; (refine (progFetch_any P.acts P2 A7.out HE.out m7 va vc n u k g m (by omega) HTX2.out HRA.out HSQ.out (by omega) (by omega)).mono ?_); rw [HMQ.out, HTR2.out]; rintro e w8 ⟨a8, c8, al8, cl8, v8, S8, Sh8, Rh8, rfl, q1', q3, q5, q6, qe, q7, qk, qo⟩; simp only at q1' q3 q5 q6 qe q7; have HVE := Lib.hid qe; have HT8 := Lib.hid q1'; have HN8 := Lib.hid q3; have HL8 := Lib.hid q5; have HV8 := Lib.hid q6; have A8 := Lib.hid q7; have HF8 := Lib.hid (HFE.out.prog_step HT7.out.lt qo); have HT8w := Lib.hid (HT7.out.keep (qk.block fb HT7.out.lt HFE.out.not_prog)); obtain ⟨f0, f1, f2, f3, f4⟩ := HW0.out.below A8.out.prog.net.below; clear q1' q3 q5 q6 qe q7 qk qo))
            all_goals
              go_wp2_with fail
              refine (refFetch_any P.acts P2 A8.out rl ra rc n u k g m hrl (by rw [z1]; omega) (by rw [z2]; omega) (by omega) HTX2.out (HR.out.under A8.out.prog.net.below).lies HRS.out (by omega) (by omega)).mono ?_
              rw [HH.out, HTR2.out]
              rintro e w9 ⟨a9, c9, al9, cl9, vL9, vO9, vH9, rs9, rfl, q1', q2, q3, q4, q8, q6, qn⟩
              have q5 := q8.kept
              simp only at q1' q2 q3 q4 q5 qn
              have HUN := Lib.hid qn
              have HV9 := Lib.hid (err_both HV8.out HVE.out q6)
              have HT9 := Lib.hid (lies_apart HT8.out HN8.out q5 A7.out.apart)
              have HL9 := Lib.hid (row_apart HL8.out q5 A7.out.apart)
              have HU9 := Lib.hid q1'
              have HM9 := Lib.hid q2
              have A9 := Lib.hid q3
              have HRT := Lib.hid q4
              have HF9 := Lib.hid (HF8.out.ref_step HT8w.out.lt q8)
              have hT9w := HT8w.out.keep (q5.block fb HT8w.out.lt HF8.out.not_ref)
              have HT9w := Lib.hid hT9w
              obtain ⟨d0, d1, d2, d3, d4⟩ := HW0.out.below A9.out.prog.net.below
              obtain ⟨g0, g1, g2, g3⟩ := hT9w.cells
              clear q1' q2 q3 q4 q5 q6 q8 qn f0 f1 f2 f3 f4 hT9w
              have A9s := Lib.hid (A9.out.store P.acts P2 HF9.out hf0 (.int .i64 c2) (.int .i64 i2))
              have HN9 : Hid (NewL w7.heap.size a8 c8 T2) := HN8.out
              have hfb7 : fb < w7.heap.size := HT7.out.lt
              have HVS := Lib.hid (err_store (.int .i64 c2) (.int .i64 i2) HV9.out HT9w.out)
              have HTS := Lib.hid (lies_store (.int .i64 c2) (.int .i64 i2) HT9.out HN8.out hfb7)
              have HLS := Lib.hid (row_slot (b := fb) (.int .i64 c2) (.int .i64 i2) HL9.out hfb7)
              have HMS := Lib.hid (row_slot (b := fb) (.int .i64 c2) (.int .i64 i2) HM9.out HT8w.out.lt)
              have HUS := Lib.hid (lies_free (.int .i64 c2) (.int .i64 i2) HF8.out HT8w.out.lt HU9.out HUN.out)
              have HTWS := Lib.hid (HT9w.out.store (.int .i64 c2) (.int .i64 i2))
              go_wp2_with fail
              clear g0 g1 g2 g3 d0 d1 d2 d3 d4
              generalize (w9.setCell ⟨fb, 0, none⟩ (.int .i64 c2)).setCell ⟨fb, 1, none⟩ (.int .i64 i2) = V at A9s HVS HTS HLS HMS HUS HTWS ⊢
              refine (faulted_err HVS.out (HE.out.below A9s.out.prog.net.below).env).mono ?_
              rintro e w10 ⟨rfl, hb10⟩
              have A10 := Lib.hid (A9s.out.quiet P.acts P2 hb10)
              have HT10 := Lib.hid (HTS.out.below hb10)
              have HU10 := Lib.hid (HUS.out.below hb10)
              have HL10 := Lib.hid (row_below HLS.out hb10)
              have HM10 := Lib.hid (row_below HMS.out hb10)
              have HF10 := Lib.hid (HTWS.out.below hb10 HTWS.out.lt)
              clear hb10 HTS HUS HLS HMS A9s HTWS
              go_wp2_with fail
              refine ((sameTrees_any T2 T2 a8 a9 c8 c9 _ HT10.out HU10.out (by omega) (by omega)).mono (fun e w' (h : _ ∧ _) => (⟨h.1.trans (by simp), h.2⟩ : e = .returned (.bool true) ∧ Below _ _ w'))).mono ?_
              rintro e w11 ⟨rfl, hb11⟩
              have A11 := Lib.hid (A10.out.quiet P.acts P2 hb11)
              have HL11 := Lib.hid (row_below HL10.out hb11)
              have HM11 := Lib.hid (row_below HM10.out hb11)
              have HF11 := Lib.hid (HF10.out.below hb11 HF10.out.lt)
              clear hb11 HT10 HU10 HL10 HM10 A10 HF10
              go_wp2_with fail
              refine ((sameTexts_at ls2 ls2 al8 al9 cl8 cl9 _ (texts_row HL11.out) (texts_row HM11.out) (by omega) (by omega)).mono (fun e w' (h : _ ∧ _) => (⟨h.1.trans (by simp), h.2⟩ : e = .returned (.bool true) ∧ Below _ _ w'))).mono ?_
              rintro e w12 ⟨rfl, hb12⟩
              have A12 := Lib.hid (A11.out.quiet P.acts P2 hb12)
              have HF12 := Lib.hid (HF11.out.below hb12 HF11.out.lt)
              have y1' := HSM2.out.1
              have y2' := HSM2.out.2.1
              have y3' := HSM2.out.2.2
              clear hb12 HL11 HM11 A11 HF11
              go_wp2
              go_roundw
              case rel => exact ⟨q1 + 1, _, _, _, s2, h2, vL9, vO9, vH9, rs9, _, _, by omega, by go_num, A12.out, HRT.out, hmo2.trans HMO.out, ⟨y1'.trans z1, y2'.trans z2, by omega⟩, HF12.out, HF9.out⟩
              case measure => simp [intOf]; omega
          · have hge1 : ¬ ((q1 : Int) < 2) := by omega
            obtain ⟨e0, e1, e2, e3, e4⟩ := HW0.out.below A13.out.prog.net.below
            go_wp2_with fail
            refine (fetchTry_nil p _ n u k g m _ (HE.out.below A13.out.prog.net.below)).mono ?_
            rintro e w14 ⟨rfl, hb14⟩
            have A14 := Lib.hid (A13.out.quiet P.acts P2 hb14)
            clear hb14 e0 e1 e2 e3 e4
            obtain ⟨e0, e1, e2, e3, e4⟩ := HW0.out.below A14.out.prog.net.below
            go_wp2_with fail
            refine (fetchFetch_nil p _ _ n u k g m _ (HE.out.below A14.out.prog.net.below)).mono ?_
            rintro e w15 ⟨rfl, hb15⟩
            have A15 := Lib.hid (A14.out.quiet P.acts P2 hb15)
            clear hb15 e0 e1 e2 e3 e4
            obtain ⟨e0, e1, e2, e3, e4⟩ := HW0.out.below A15.out.prog.net.below
            go_wp2_with fail
            refine (fetchFetch_none p hb _ n u k g m _ (HE.out.below A15.out.prog.net.below)).mono ?_
            rintro e w16 ⟨rfl, hb16⟩
            have A16 := Lib.hid (A15.out.quiet P.acts P2 hb16)
            clear hb16 e0 e1 e2 e3 e4
            have HSUM : Hid (h1.l.map (fun x => (x.n : Int)) = rs1.map fun x => (x.n : Int)) := by
              show h1.l.map (fun x => (x.n : Int)) = rs1.map fun x => (x.n : Int)
              rw [← HMAP.out, List.map_map]
              rfl
            have hrl2 : rs1.length ≤ 100000 := by omega
            obtain ⟨L, hL⟩ : ∃ L, (rs1.map fun x => (x.n : Int)) = L := ⟨_, rfl⟩
            have hLl : L.length ≤ 100000 := by rw [← hL, List.length_map]; exact hrl2
            rw [hL] at HSUM
            have HL2 := Lib.hid hL
            obtain ⟨zc, hzc⟩ : ∃ z : Int, (s1.calls : Int) = z := ⟨_, rfl⟩
            have HZC := Lib.hid hzc
            clear hL
            have AX : Hid (AllF NA HA W0 w16.drew nb hb S1 Sh1 Rh1 s1 h1 mb kb vL1 vO1 vH1 s1 (mostH most) rs1) := A16.out.quiet P.acts P2 (Below.refl _ w16).drew
            have k2 := A16.out.ref.net.c2
            rw [hzc] at k2
            clear A13 A14 A15 A16 hzc
            go_wp2_with fail
            refine wp_region_noPanic ?_
            refine wp_region_held_drew (S := (fun w' => w'.cell? ⟨mb, 2, none⟩ = some (.int .i64 zc))) (by kernel_rfl) (by (try dsimp only); go_keep) (fun hHeld => ?_)
            refine take_op 0 167 (.pointer (some ⟨hb, 0, none⟩)) rfl rfl (by simp only [List.setIfInBounds_toArray, List.set_cons_zero, List.set_cons_succ]; rfl) (by kernel_rfl) (by kernel_rfl) (by kernel_rfl) (fun _ _ _ h => h) (Or.inl ⟨by rfl, fun w hSw => exec_move rfl rfl⟩) (by assumption) ?_
            refine take_op 2 169 (.pointer (some ⟨kb, 0, none⟩)) rfl rfl (by simp only [List.setIfInBounds_toArray, List.set_cons_zero, List.set_cons_succ]; rfl) (by kernel_rfl) (by kernel_rfl) (by kernel_rfl) (fun _ _ _ h => h) (Or.inl ⟨by rfl, fun w hSw => exec_move rfl rfl⟩) (by assumption) ?_
            refine call_op 1 168 rfl rfl (by kernel_rfl) (by kernel_rfl) (exec_sums rfl rfl rfl) ?_
            refine (P2.sums _ hb Sh1 Rh1 h1 AX.out.prog.held.held AX.out.prog.held.ok).mono ?_
            rintro e w5 ⟨⟨z5, rfl, ho5⟩, hb5⟩
            rw [HSUM.out] at ho5
            obtain ⟨a5, c5, rfl, n5, _, _, _⟩ := ints_of_row ho5
            have N5 := Lib.hid n5
            have AX := Lib.hid (AX.out.quiet P.acts P2 hb5)
            have d0 := AX.out.ref.net.c2
            rw [HZC.out] at d0
            clear ho5 n5 hb5
            refine ⟨_, _, rfl, by simp only [List.setIfInBounds_toArray, List.set_cons_zero, List.set_cons_succ]; rfl, by (try dsimp only); exact d0, fun hHeld => ?_⟩
            refine call_op 3 170 rfl rfl (by kernel_rfl) (by kernel_rfl) (exec_refSums rfl rfl rfl) ?_
            refine (refHSums_any kb (mostH most) vH1 rs1 _ AX.out.ref.held hrl2).mono ?_
            rintro e w6 ⟨⟨z6, rfl, ho6⟩, hb6⟩
            rw [HL2.out] at ho6
            obtain ⟨a6, c6, rfl, n6, _, _, _⟩ := ints_of_row ho6
            have N6 := Lib.hid n6
            have N56 := Lib.hid (N5.out.below hb6)
            have AX := Lib.hid (AX.out.quiet P.acts P2 hb6)
            have d1 := AX.out.ref.net.c2
            rw [HZC.out] at d1
            clear ho6 n6 hb6
            refine ⟨_, _, rfl, by simp only [List.setIfInBounds_toArray, List.set_cons_zero, List.set_cons_succ]; rfl, by (try dsimp only); exact d1, fun hHeld => ?_⟩
            refine call_op 4 171 rfl rfl (by kernel_rfl) (by kernel_rfl) (exec_ints rfl rfl rfl rfl) ?_
            refine (sameInts_len L L a5 a6 _ _ c5 c6 _ rfl rfl N56.out N6.out hLl hLl).mono ?_
            rintro e w7 ⟨rfl, hb7⟩
            rw [decide_eq_true (rfl : L = L)]
            have AX := Lib.hid (AX.out.quiet P.acts P2 hb7)
            have d2 := AX.out.ref.net.c2
            rw [HZC.out] at d2
            clear hb7
            refine ⟨_, _, rfl, by simp only [List.setIfInBounds_toArray, List.set_cons_zero, List.set_cons_succ]; rfl, by (try dsimp only); exact d2, fun hHeld => ?_⟩
            refine take_op 5 172 (.bool true) rfl rfl (by simp only [List.setIfInBounds_toArray, List.set_cons_zero, List.set_cons_succ]; rfl) (by kernel_rfl) (by kernel_rfl) (by kernel_rfl) (fun _ _ _ h => h) (Or.inl ⟨by rfl, fun w hSw => exec_move rfl rfl⟩) (by assumption) ?_
            refine take_op 6 173 (.pointer (some ⟨nb, 0, none⟩)) rfl rfl (by simp only [List.setIfInBounds_toArray, List.set_cons_zero, List.set_cons_succ]; rfl) (by kernel_rfl) (by kernel_rfl) (by kernel_rfl) (fun _ _ _ h => h) (Or.inl ⟨by rfl, fun w hSw => exec_move rfl rfl⟩) (by assumption) ?_
            refine take_op 8 175 (.pointer (some ⟨mb, 0, none⟩)) rfl rfl (by simp only [List.setIfInBounds_toArray, List.set_cons_zero, List.set_cons_succ]; rfl) (by kernel_rfl) (by kernel_rfl) (by kernel_rfl) (fun _ _ _ h => h) (Or.inl ⟨by rfl, fun w hSw => exec_move rfl rfl⟩) (by assumption) ?_
            refine take_op 9 176 (.pointer (some ⟨mb, 0, none⟩)) rfl rfl (by simp only [List.setIfInBounds_toArray, List.set_cons_zero, List.set_cons_succ]; rfl) (by kernel_rfl) (by kernel_rfl) (by kernel_rfl) (fun _ _ _ h => h) (Or.inl ⟨by rfl, fun w hSw => exec_nilCheck rfl rfl⟩) (by assumption) ?_
            refine take_op 10 177 (.pointer (some ⟨mb, 2, none⟩)) rfl rfl (by simp only [List.setIfInBounds_toArray, List.set_cons_zero, List.set_cons_succ]; rfl) (by kernel_rfl) (by kernel_rfl) (by kernel_rfl) (fun _ _ _ h => h) (Or.inl ⟨by rfl, fun w hSw => exec_field rfl rfl⟩) (by assumption) ?_
            refine take_op 11 178 (.int .i64 zc) rfl rfl (by simp only [List.setIfInBounds_toArray, List.set_cons_zero, List.set_cons_succ]; rfl) (by kernel_rfl) (by kernel_rfl) (by kernel_rfl) (fun _ _ _ h => h) (Or.inl ⟨by rfl, fun w hSw => exec_load rfl rfl hSw⟩) (by assumption) ?_
            refine call_op 7 174 rfl rfl (by kernel_rfl) (by kernel_rfl) (exec_calls rfl rfl rfl) ?_
            refine (P.calls _ nb S1 s1 AX.out.prog.net.net).mono ?_
            rintro e w8 ⟨rfl, hb8⟩
            rw [HZC.out]
            have AX := Lib.hid (AX.out.quiet P.acts P2 hb8)
            have d3 := AX.out.ref.net.c2
            rw [HZC.out] at d3
            clear hb8
            refine ⟨_, _, rfl, by simp only [List.setIfInBounds_toArray, List.set_cons_zero, List.set_cons_succ]; rfl, by (try dsimp only); exact d3, fun hHeld => ?_⟩
            refine take_op 12 179 (.bool true) rfl rfl (by simp only [List.setIfInBounds_toArray, List.set_cons_zero, List.set_cons_succ]; rfl) (by kernel_rfl) (by kernel_rfl) (by kernel_rfl) (fun _ _ _ h => h) (Or.inl ⟨by rfl, fun w hSw => exec_eqInt rfl rfl rfl⟩) (by assumption) ?_
            refine take_op 13 180 (.bool true) rfl rfl (by simp only [List.setIfInBounds_toArray, List.set_cons_zero, List.set_cons_succ]; rfl) (by kernel_rfl) (by kernel_rfl) (by kernel_rfl) (fun _ _ _ h => h) (Or.inl ⟨by rfl, fun w hSw => exec_pick rfl rfl rfl⟩) (by assumption) ?_
            refine take_op 14 181 (.bool true) rfl rfl (by simp only [List.setIfInBounds_toArray, List.set_cons_zero, List.set_cons_succ]; rfl) (by kernel_rfl) (by kernel_rfl) (by kernel_rfl) (fun _ _ _ h => h) (Or.inl ⟨by rfl, fun w hSw => exec_move rfl rfl⟩) (by assumption) ?_
            refine take_op 15 182 (errV p 3) rfl rfl (by simp only [List.setIfInBounds_toArray, List.set_cons_zero, List.set_cons_succ]; rfl) (by kernel_rfl) (by kernel_rfl) (by kernel_rfl) (fun _ _ _ h => h) (Or.inl ⟨by rfl, fun w hSw => exec_move rfl rfl⟩) (by assumption) ?_
            refine call_op 16 183 rfl rfl (by kernel_rfl) (by kernel_rfl) (exec_coded rfl rfl rfl rfl) ?_
            refine (coded_errV p 3 _ (HE.out.below AX.out.prog.net.below).env (by decide)).mono ?_
            rintro e w20 ⟨rfl, hb9⟩
            have AX := Lib.hid (AX.out.quiet P.acts P2 hb9)
            have e0' := AX.out.ref.net.c2
            rw [HZC.out] at e0'
            clear hb9
            refine ⟨_, _, rfl, by simp only [List.setIfInBounds_toArray, List.set_cons_zero, List.set_cons_succ]; rfl, by (try dsimp only); exact e0', fun hHeld => ?_⟩
            refine take_op 17 184 (.bool true) rfl rfl (by simp only [List.setIfInBounds_toArray, List.set_cons_zero, List.set_cons_succ]; rfl) (by kernel_rfl) (by kernel_rfl) (by kernel_rfl) (fun _ _ _ h => h) (Or.inl ⟨by rfl, fun w hSw => exec_pick rfl rfl rfl⟩) (by assumption) ?_
            refine take_op 18 185 (.bool true) rfl rfl (by simp only [List.setIfInBounds_toArray, List.set_cons_zero, List.set_cons_succ]; rfl) (by kernel_rfl) (by kernel_rfl) (by kernel_rfl) (fun _ _ _ h => h) (Or.inl ⟨by rfl, fun w hSw => exec_move rfl rfl⟩) (by assumption) ?_
            refine take_op 19 186 (errV p 3) rfl rfl (by simp only [List.setIfInBounds_toArray, List.set_cons_zero, List.set_cons_succ]; rfl) (by kernel_rfl) (by kernel_rfl) (by kernel_rfl) (fun _ _ _ h => h) (Or.inl ⟨by rfl, fun w hSw => exec_move rfl rfl⟩) (by assumption) ?_
            refine call_op 20 187 rfl rfl (by kernel_rfl) (by kernel_rfl) (exec_coded rfl rfl rfl rfl) ?_
            refine (coded_errV p 3 _ (HE.out.below AX.out.prog.net.below).env (by decide)).mono ?_
            rintro e w21 ⟨rfl, hb9⟩
            have AX := Lib.hid (AX.out.quiet P.acts P2 hb9)
            have e1' := AX.out.ref.net.c2
            rw [HZC.out] at e1'
            clear hb9
            refine ⟨_, _, rfl, by simp only [List.setIfInBounds_toArray, List.set_cons_zero, List.set_cons_succ]; rfl, by (try dsimp only); exact e1', fun hHeld => ?_⟩
            refine take_op 21 188 (.bool true) rfl rfl (by simp only [List.setIfInBounds_toArray, List.set_cons_zero, List.set_cons_succ]; rfl) (by kernel_rfl) (by kernel_rfl) (by kernel_rfl) (fun _ _ _ h => h) (Or.inl ⟨by rfl, fun w hSw => exec_pick rfl rfl rfl⟩) (by assumption) ?_
            refine take_op 22 189 (.bool true) rfl rfl (by simp only [List.setIfInBounds_toArray, List.set_cons_zero, List.set_cons_succ]; rfl) (by kernel_rfl) (by kernel_rfl) (by kernel_rfl) (fun _ _ _ h => h) (Or.inl ⟨by rfl, fun w hSw => exec_move rfl rfl⟩) (by assumption) ?_
            refine take_op 23 190 (errV p 3) rfl rfl (by simp only [List.setIfInBounds_toArray, List.set_cons_zero, List.set_cons_succ]; rfl) (by kernel_rfl) (by kernel_rfl) (by kernel_rfl) (fun _ _ _ h => h) (Or.inl ⟨by rfl, fun w hSw => exec_move rfl rfl⟩) (by assumption) ?_
            refine call_op 24 191 rfl rfl (by kernel_rfl) (by kernel_rfl) (exec_coded rfl rfl rfl rfl) ?_
            refine (coded_errV p 3 _ (HE.out.below AX.out.prog.net.below).env (by decide)).mono ?_
            rintro e w22 ⟨rfl, hb9⟩
            have AX := Lib.hid (AX.out.quiet P.acts P2 hb9)
            have e2' := AX.out.ref.net.c2
            rw [HZC.out] at e2'
            clear hb9
            refine ⟨_, _, rfl, by simp only [List.setIfInBounds_toArray, List.set_cons_zero, List.set_cons_succ]; rfl, by (try dsimp only); exact e2', fun hHeld => ?_⟩
            refine take_op 25 192 (.bool true) rfl rfl (by simp only [List.setIfInBounds_toArray, List.set_cons_zero, List.set_cons_succ]; rfl) (by kernel_rfl) (by kernel_rfl) (by kernel_rfl) (fun _ _ _ h => h) (Or.inl ⟨by rfl, fun w hSw => exec_pick rfl rfl rfl⟩) (by assumption) ?_
            refine take_op 26 8 (.bool true) rfl rfl (by simp only [List.setIfInBounds_toArray, List.set_cons_zero, List.set_cons_succ]; rfl) (by kernel_rfl) (by kernel_rfl) (by kernel_rfl) (fun _ _ _ h => h) (Or.inl ⟨by rfl, fun w hSw => exec_assign rfl rfl⟩) (by assumption) ?_
            refine wpAnyH_done (by kernel_rfl) ?_ _
            refine NoPanic.normal ?_
            go_wp2
            go_ret
            exact ⟨rfl, HB0.out.trans (AX.out.prog.net.below.mono HB0.out.size)⟩
end Go.Proofs.YtmcfkoenpikldaaGreatDoor
