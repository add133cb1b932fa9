/-
  The law NetBegins, whatever acts it is called with: over whatever the program's net is (NetProg), and this seat's translation.
-/
import Derived.Test.YtkokdpidgikdkaaDoorLawNetActs
import Derived.Test.YtkokdpidgikdkaaDoorNetLast
namespace Go.Proofs.YtkokdpidgikdkaaDoor
open Go.RowKit Go.Shelf

/-- The program's net, and the two rows of what was put: all apart. -/
structure InB (At : World → Nat → (Nat → Prop) → Ns → Prop) (w0 W : World) (nb : Nat) (S : Nat → Prop) (vU vT : Value) (us ts : List (List UInt8)) (s : Ns) : Prop where
  below : Below w0.heap.size w0 W
  prog : At W nb S s
  base : ∀ b, S b → w0.heap.size ≤ b
  rowU : W.ownsRow w0.heap.size 9 1 vU us.length (us.map sv)
  rowT : W.ownsRow w0.heap.size 9 1 vT ts.length (ts.map sv)
  sepU : ∀ g, vU.ownBlock = some g → ¬ S g
  sepT : ∀ g, vT.ownBlock = some g → ¬ S g
  apart : ∀ g, vU.ownBlock = some g → vT.ownBlock ≠ some g
theorem InB.prog_step {At : World → Nat → (Nat → Prop) → Ns → Prop} {w0 W W' : World} {nb : Nat} {S S' : Nat → Prop} {vU vT : Value} {us ts : List (List UInt8)} {s s' : Ns} (h : InB At w0 W nb S vU vT us ts s) (l : ProgLeft At W nb S s' W' S') : InB At w0 W' nb S' vU vT us ts s' :=
  ⟨h.below.trans (l.below _ h.below.size h.base), l.net, fun b hb => (l.own b hb).elim (h.base b) (Nat.le_trans h.below.size),
    owns_kept h.rowU (fun g hg => l.kept.block g (h.rowU.lt g hg).2 (h.sepU g hg)), owns_kept h.rowT (fun g hg => l.kept.block g (h.rowT.lt g hg).2 (h.sepT g hg)),
    fun g hg hb => (l.own _ hb).elim (h.sepU g hg) (fun e => by have := h.rowU.lt g hg; omega), fun g hg hb => (l.own _ hb).elim (h.sepT g hg) (fun e => by have := h.rowT.lt g hg; omega), h.apart⟩
theorem InB.quiet {p : Nat → Addr} {At : World → Nat → (Nat → Prop) → Ns → Prop} {w0 W W' : World} {nb : Nat} {S : Nat → Prop} {vU vT : Value} {us ts : List (List UInt8)} {s : Ns} (P : NetProg p At) (h : InB At w0 W nb S vU vT us ts s) (hb : Below W.heap.size W W') : InB At w0 W' nb S vU vT us ts s :=
  ⟨h.below.trans (hb.mono h.below.size), P.keep (T := fun _ => False) h.prog (Kept.of_below hb) (fun _ _ f => f), h.base, owns_kept h.rowU (fun g hg => hb.block g (h.rowU.lt g hg).2), owns_kept h.rowT (fun g hg => hb.block g (h.rowT.lt g hg).2), h.sepU, h.sepT, h.apart⟩

theorem InB.swap {At : World → Nat → (Nat → Prop) → Ns → Prop} {w0 W : World} {nb : Nat} {S : Nat → Prop} {vU vT : Value} {us ts : List (List UInt8)} {s : Ns} (h : InB At w0 W nb S vU vT us ts s) : InB At w0 W nb S vT vU ts us s :=
  ⟨h.below, h.prog, h.base, h.rowT, h.rowU, h.sepT, h.sepU, fun g h1 h2 => h.apart g h2 h1⟩
/-- One more text in the first row. -/
theorem InB.push {p : Nat → Addr} {At : World → Nat → (Nat → Prop) → Ns → Prop} {w0 W w2 : World} {nb : Nat} {S : Nat → Prop} {vU vT v' : Value} {us ts : List (List UInt8)} {s : Ns} (P : NetProg p At) (h : InB At w0 W nb S vU vT us ts s) (o : Obj) (u : List UInt8) (hown : w2.ownsRow w0.heap.size 9 1 v' (us.length + 1) (us.map sv ++ [sv u])) (hgrow : (W.alloc o).grownBy w2 vU.ownBlock)
    (hloc : v'.ownBlock = vU.ownBlock ∨ v'.ownBlock = some (W.alloc o).heap.size) : InB At w0 w2 nb S v' vT (us ++ [u]) ts s ∧ Kept (fun b => vU.ownBlock = some b) W w2 := by
  have hsz : (W.alloc o).heap.size = W.heap.size + 1 := by simp
  have hK : Kept (fun b => vU.ownBlock = some b) W w2 := by
    have k1 : Kept (fun b => vU.ownBlock = some b) W (W.alloc o) := Kept.of_below ((Below.refl _ _).alloc (Nat.le_refl _) _)
    have k2 : Kept (fun b => vU.ownBlock = some b) (W.alloc o) w2 := ⟨hgrow.size, fun b hb hs => hgrow.block b hb fun e => hs e.symm⟩
    exact k1.trans k2
  refine ⟨⟨?_, P.keep h.prog hK (fun b hS hT => h.sepU b hT hS), h.base, by simpa using hown, ?_, fun g hg hS => ?_, h.sepT, fun g hg e => ?_⟩, hK⟩
  · exact (h.below.alloc h.below.size o).grown hgrow (by have := h.below.size; omega) (fun k e => (h.rowU.lt k e).1)
  · exact (h.rowT.alloc o).kept hgrow (by
      cases e : vT.ownBlock with
      | none => exact .inl rfl
      | some g => exact .inr fun e' => h.apart g e'.symm e)
  · rcases hloc with hl | hl
    · exact h.sepU g (hl ▸ hg) hS
    · rw [hl] at hg
      cases hg
      have := P.lt h.prog _ hS
      omega
  · rcases hloc with hl | hl
    · exact h.apart g (hl ▸ hg) e
    · rw [hl] at hg
      cases hg
      have := h.rowT.lt _ e
      omega

/-- And an act, apart from them. -/
structure InX (At : World → Nat → (Nat → Prop) → Ns → Prop) (w0 W : World) (nb X : Nat) (S : Nat → Prop) (vU vT : Value) (us ts : List (List UInt8)) (a : Ac) (s : Ns) : Prop where
  inb : InB At w0 W nb S vU vT us ts s
  act : ActAt W X a
  sepX : ¬ S X
  uX : vU.ownBlock ≠ some X
theorem InX.prog_step {At : World → Nat → (Nat → Prop) → Ns → Prop} {w0 W W' : World} {nb X : Nat} {S S' : Nat → Prop} {vU vT : Value} {us ts : List (List UInt8)} {a : Ac} {s s' : Ns} (h : InX At w0 W nb X S vU vT us ts a s) (l : ProgLeft At W nb S s' W' S') : InX At w0 W' nb X S' vU vT us ts a s' :=
  ⟨h.inb.prog_step l, h.act.kept l.kept h.sepX, fun hb => (l.own _ hb).elim h.sepX (fun e => by have := block_lt_of_cell h.act.c0; simp at this; omega), h.uX⟩
theorem InX.quiet {p : Nat → Addr} {At : World → Nat → (Nat → Prop) → Ns → Prop} {w0 W W' : World} {nb X : Nat} {S : Nat → Prop} {vU vT : Value} {us ts : List (List UInt8)} {a : Ac} {s : Ns} (P : NetProg p At) (h : InX At w0 W nb X S vU vT us ts a s) (hb : Below W.heap.size W W') : InX At w0 W' nb X S vU vT us ts a s :=
  ⟨h.inb.quiet P hb, h.act.kept (T := fun _ => False) (Kept.of_below hb) (fun f => f), h.sepX, h.uX⟩
theorem InX.new {p : Nat → Addr} {At : World → Nat → (Nat → Prop) → Ns → Prop} {w0 W : World} {nb : Nat} {S : Nat → Prop} {vU vT : Value} {us ts : List (List UInt8)} {s : Ns} (P : NetProg p At) (h : InB At w0 W nb S vU vT us ts s) (a : Ac) : InX At w0 (W.alloc (ao a)) nb W.heap.size S vU vT us ts a s :=
  ⟨h.quiet P ((Below.refl _ _).alloc (Nat.le_refl _) _), ActAt.new W a, fun hS => by have := P.lt h.prog _ hS; omega, fun e => by have := h.rowU.lt _ e; omega⟩

theorem host_calls (s : Ns) (u : List UInt8) (on : Bool) : (hostN s u on).1.calls = s.calls := by
  unfold hostN
  split <;> rfl
theorem get_keeps (s : Ns) (u : List UInt8) : (getN s u).1.l = s.l ∧ (getN s u).1.calls ≤ s.calls + 1 ∧ (getN s u).1.off = s.off := by
  unfold getN
  repeat' split
  all_goals simp
theorem atHost_cat (u : List UInt8) : ((⟨#[104, 116, 116, 112, 58, 47, 47]⟩ : ByteArray) ++ ⟨u.toArray⟩ ++ ⟨#[47, 120]⟩) = ⟨(atHost u).toArray⟩ := by
  apply ByteArray.ext
  simp [atHost]

theorem netBegins_long {p : Nat → Addr} {At : World → Nat → (Nat → Prop) → Ns → Prop} (P : NetProg p At) (l : List Ac) (a : Option Addr) (ca : Nat) (w : World) (hE : NEnv p w) (hl : CameA w a l) (h : longAs l 100 = 1) :
    Calls Tryd.prog 3 #[.slice a l.length ca] w fun e w' => e = .returned (.bool true) ∧ Below w.heap.size w w' := by
  have HE := Lib.hid hE
  have HL := Lib.hid hl
  have HF := Lib.hid h
  clear hE hl h
  go_enter Tryd.func3, Tryd.ntmps3
  go_wp2_with fail
  refine (netted_any P _ HE.out).mono ?_
  rintro e w1 ⟨rfl, hb1⟩
  have HB1 := Lib.hid hb1
  clear hb1
  go_wp2_with fail
  refine (longActs_any l a ca 100 _ (HL.out.below HB1.out).lies HL.out.len HL.out.texts).mono ?_
  rintro e w2 ⟨rfl, hw2⟩
  obtain rfl : w1 = w2 := hw2.symm
  rw [HF.out]
  go_wp2
  go_ret
  exact ⟨rfl, HB1.out⟩

set_option maxRecDepth 100000 in
set_option maxHeartbeats 4000000 in
theorem netBegins_main {p : Nat → Addr} {At : World → Nat → (Nat → Prop) → Ns → Prop} (P : NetProg p At) (l : List Ac) (a : Option Addr) (ca : Nat) (w : World) (hE : NEnv p w) (hl : CameA w a l) (h : longAs l 100 = 0) :
    Calls Tryd.prog 3 #[.slice a l.length ca] w fun e w' => e = .returned (.bool true) ∧ Below w.heap.size w w' := by
  obtain ⟨i0, hi, hz0, hz1, hz2⟩ := info_parts Tryd.info9
  have HE : Hid (∀ {V}, Below w.heap.size w V → NEnv p V) := fun h => hE.below h
  have HE0 := Lib.hid hE
  have HL := Lib.hid hl
  have HF := Lib.hid h
  obtain ⟨hlen, hall⟩ := longAs_zero h
  have HA := Lib.hid hall
  clear hE hl h hall
  go_enter Tryd.func3, Tryd.ntmps3
  go_wp2_with fail
  refine (netted_any P _ HE0.out).mono ?_
  rintro e w1 ⟨rfl, hb1⟩
  have HB1 := Lib.hid hb1
  clear hb1
  go_wp2_with fail
  refine (longActs_any l a ca 100 _ (HL.out.below HB1.out).lies HL.out.len HL.out.texts).mono ?_
  rintro e w2 ⟨rfl, hw2⟩
  obtain rfl : w1 = w2 := hw2.symm
  rw [HF.out]
  go_wp2_with fail
  refine (P.new _).mono ?_
  rintro e w3 ⟨nb, S, rfl, hn, hs, hb3⟩
  have HB0 : Hid (InB At w w3 nb S (.slice none 0 0) (.slice none 0 0) [] [] Ns.none) :=
    ⟨HB1.out.trans (hb3.mono HB1.out.size), hn, fun b hb => Nat.le_trans HB1.out.size (hs b hb), World.ownsRow_nil _ _ _ _, World.ownsRow_nil _ _ _ _, fun g h => by simp [Value.ownBlock] at h, fun g h => by simp [Value.ownBlock] at h, fun g h => by simp [Value.ownBlock] at h⟩
  clear hn hs hb3
  go_wp2_with fail
  go_loopw [5, 6, 7] (fun vU vT i wr => ∃ (q : Nat) (S' : Nat → Prop) (us ts : List (List UInt8)) (s : Ns), q ≤ l.length ∧ i = .int .i64 q ∧ InB At w wr nb S' vU vT us ts s ∧ Tracks us ts s ∧ us.length ≤ q ∧ s.l.length ≤ q ∧ s.calls ≤ q ∧ s.off.length ≤ q ∧ (∀ t ∈ ts, t.length ≤ 20001)) (fun _ _ i _ => l.length - (intOf i).toNat)
  case atStart => exact ⟨0, S, [], [], Ns.none, by omega, rfl, HB0.out, Tracks.zero, by simp, by simp [Ns.none], by simp [Ns.none], by simp [Ns.none], by simp⟩
  case round =>
    obtain ⟨q, S', us, ts, s, hq, rfl, hin, htr, r1, r2, r3, r5, r4⟩ := hrel
    have HTL := Lib.hid r4
    clear r4
    have HIn := Lib.hid hin
    have HTr := Lib.hid htr
    clear hin htr
    by_cases hlt : q < l.length
    · have hlt' : (q : Int) < (l.length : Int) := by omega
      obtain ⟨b, o, hb, k0, k1, k2, k3, k4⟩ := (HL.out.below HIn.out.below).lies.at hlt
      obtain ⟨x1, x2⟩ := HA.out _ (List.getElem_mem hlt)
      subst hb
      generalize l[q] = x at *
      have IX0 := Lib.hid (InX.new P HIn.out x)
      obtain ⟨ak, au, ad, an, aon⟩ := x
      simp only at x1 x2 k0 k1 k2 k3 k4
      by_cases h1 : ak = [112, 117, 116]
      · subst h1
        obtain ⟨c0, c1, c2, c3, c4⟩ := IX0.out.act
        generalize hXX : wr.heap.size = X at *
        go_wp2_with fail
        refine (P.put _ nb S' s au ad IX0.out.inb.prog (HE.out IX0.out.inb.below) (by omega) (by omega) (by omega)).mono ?_
        rintro e w5 ⟨rfl, S5, l5⟩
        have IX5 := Lib.hid (IX0.out.prog_step l5)
        clear l5 c0 c1 c2 c3 c4 k0 k1 k2 k3 k4
        cases hr : (putN s au ad).2 with
        | succ e =>
          have H0 := Lib.hid (putN_same (show (putN s au ad).2 ≠ 0 by rw [hr]; exact Nat.succ_ne_zero e))
          rw [errV_some p (Nat.succ_ne_zero e)]
          clear hr
          go_wp2
          go_roundw
          case rel => exact ⟨q + 1, S5, us, ts, s, by omega, by go_num, by rw [← H0.out]; exact IX5.out.inb, HTr.out, by omega, by omega, by omega, by omega, HTL.out⟩
          case measure => simp [intOf]; omega
        | zero =>
          have HTr5 := Lib.hid (HTr.out.put hr)
          rw [errV_zero]
          clear hr
          obtain ⟨av, cv, hv⟩ := owns_slice IX5.out.inb.rowU
          obtain ⟨at2, ct2, hv2⟩ := owns_slice IX5.out.inb.rowT
          subst hv hv2
          have d1 : w5.cell? ⟨X, 1, none⟩ = some (.string ⟨au.toArray⟩) := IX5.out.act.c1
          have d2 : w5.cell? ⟨X, 2, none⟩ = some (.string ⟨ad.toArray⟩) := IX5.out.act.c2
          have htb : ts.length ≤ q := by rw [← HTr.out.1]; exact r1
          have hws : w.heap.size ≤ w5.heap.size := IX5.out.inb.below.size
          have hrU := IX5.out.inb.rowU
          go_wp2_with (at_builtin; first
            | (refine wpList_append_own_at _ rfl _ _ 27 rfl w.heap.size 9 i0 (.string ⟨#[]⟩) 1 16 Tryd.underlying27 hi hz0 hz1 hz2 rfl (by decide) _ _ _ rfl (hrU.alloc _) ⟨w5.heap.size, 0, none⟩ 1 1 [.string ⟨au.toArray⟩] rfl rfl (cell_one_new _ _ _) (by simp [Value.oneCell']) (by unfold maxLen; omega) (by omega) (by simp; omega) ?_; intro v6 w6 hown6 hgrow6 _ hloc6; have PU := IX5.out.inb.push P _ au hown6 hgrow6 hloc6; have e2 : w6.cell? ⟨X, 2, none⟩ = some (.string ⟨ad.toArray⟩) := (IX5.out.act.kept PU.2 IX5.out.uX).c2; have IB6 := Lib.hid PU.1; have hrT := IB6.out.rowT; have hw6 : w.heap.size ≤ w6.heap.size := IB6.out.below.size; clear PU hown6 hgrow6 hloc6)
            | (refine wpList_append_own_at _ rfl _ _ 27 rfl w.heap.size 9 i0 (.string ⟨#[]⟩) 1 16 Tryd.underlying27 hi hz0 hz1 hz2 rfl (by decide) _ _ _ rfl (hrT.alloc _) ⟨w6.heap.size, 0, none⟩ 1 1 [.string ⟨ad.toArray⟩] rfl rfl (cell_one_new _ _ _) (by simp [Value.oneCell']) (by unfold maxLen; omega) (by omega) (by simp; omega) ?_; intro v7 w7 hown7 hgrow7 _ hloc7; have IB7 := Lib.hid (IB6.out.swap.push P _ ad hown7 hgrow7 hloc7).1.swap; clear hown7 hgrow7 hloc7))
          go_roundw
          case rel => exact ⟨q + 1, S5, us ++ [au], ts ++ [ad], (putN s au ad).1, by omega, by go_num, IB7.out, HTr5.out, by simp; omega, by have := (act_bounds s ⟨[112, 117, 116], au, ad, an, aon⟩).1; simp [actN] at this; omega, by have := (act_bounds s ⟨[112, 117, 116], au, ad, an, aon⟩).2.2; simp [actN] at this; omega, by have := (act_bounds s ⟨[112, 117, 116], au, ad, an, aon⟩).2.1; simp [actN] at this; omega, fun t ht => (List.mem_append.1 ht).elim (HTL.out t) (fun e => by simp at e; subst e; exact x2)⟩
          case measure => simp [intOf]; omega
      by_cases h2 : ak = [104, 111, 115, 116]
      · subst h2
        clear h1
        have HAB : Hid (_ ∧ _ ∧ _) := act_bounds s ⟨[104, 111, 115, 116], au, ad, an, aon⟩
        have HAN : Hid (actN s ⟨[104, 111, 115, 116], au, ad, an, aon⟩ = (hostN s au aon).1) := by
          show actN s ⟨[104, 111, 115, 116], au, ad, an, aon⟩ = _
          unfold actN
          rw [if_neg (by simp)]; rw [if_pos rfl]
        obtain ⟨y1, y2, y3⟩ := HAN.out ▸ HAB.out
        obtain ⟨c0, c1, c2, c3, c4⟩ := IX0.out.act
        generalize hXX : wr.heap.size = X at *
        go_wp2_with fail
        refine (P.host _ nb S' s au aon IX0.out.inb.prog (HE.out IX0.out.inb.below) (by omega) (by omega)).mono ?_
        rintro e w5 ⟨rfl, S5, l5⟩
        have IX5 := Lib.hid (IX0.out.prog_step l5)
        have HT5 := Lib.hid (HTr.out.host au aon)
        clear l5 c0 c1 c2 c3 c4 k0 k1 k2 k3 k4 HAB HAN
        have d1 : w5.cell? ⟨X, 1, none⟩ = some (.string ⟨au.toArray⟩) := IX5.out.act.c1
        have d4 : w5.cell? ⟨X, 4, none⟩ = some (.bool aon) := IX5.out.act.c4
        cases hr : (hostN s au aon).2 with
        | succ e =>
          rw [errV_some p (Nat.succ_ne_zero e)]
          clear hr
          generalize (hostN s au aon).1 = s5 at *
          go_wp2
          go_roundw
          case rel => exact ⟨q + 1, S5, us, ts, s5, by omega, by go_num, IX5.out.inb, HT5.out, by omega, by omega, by omega, by omega, HTL.out⟩
          case measure => simp [intOf]; omega
        | zero =>
          rw [errV_zero]
          cases aon with
          | true =>
            clear hr
            generalize (hostN s au true).1 = s5 at *
            go_wp2
            go_roundw
            case rel => exact ⟨q + 1, S5, us, ts, s5, by omega, by go_num, IX5.out.inb, HT5.out, by omega, by omega, by omega, by omega, HTL.out⟩
            case measure => simp [intOf]; omega
          | false =>
            have HR := Lib.hid hr
            clear hr
            have hcal := host_calls s au false
            have HCAT := Lib.hid (atHost_cat au)
            have hal : (atHost au).length ≤ 90000 := by simp [atHost]; omega
            go_wp2_with fail
            rw [HCAT.out]
            refine (linkCheck_any p (atHost au) _ (HE.out IX5.out.inb.below).link hal).mono ?_
            rintro e w6 ⟨rfl, hb6⟩
            have IX6 := Lib.hid (IX5.out.quiet P hb6)
            have e1 : w6.cell? ⟨X, 1, none⟩ = some (.string ⟨au.toArray⟩) := IX6.out.act.c1
            clear hb6
            cases hck : checkK (atHost au) with
            | succ e =>
              rw [errV_some p (Nat.succ_ne_zero e)]
              clear hck
              generalize (hostN s au false).1 = s5 at *
              go_wp2
              go_roundw
              case rel => exact ⟨q + 1, S5, us, ts, s5, by omega, by go_num, IX6.out.inb, HT5.out, by omega, by omega, by omega, by omega, HTL.out⟩
              case measure => simp [intOf]; omega
            | zero =>
              have HG := Lib.hid (host_off HR.out hck)
              rw [errV_zero]
              clear hck HR
              generalize (hostN s au false).1 = s5 at *
              go_wp2_with fail
              rw [HCAT.out]
              refine (P.get _ nb S5 s5 (atHost au) IX6.out.inb.prog (HE.out IX6.out.inb.below) (by omega) hal).mono ?_
              rintro e w7 ⟨rfl, S7, l7⟩
              have IB7 := Lib.hid (IX6.out.inb.prog_step l7)
              have HT7 := Lib.hid (HT5.out.get (atHost au))
              obtain ⟨z1, z2, z3⟩ := get_keeps s5 (atHost au)
              rw [HG.out]
              clear l7
              generalize (getN s5 (atHost au)).1 = s7 at *
              go_wp2_with fail
              refine (coded_errV p 13 _ (HE.out IB7.out.below).env (by decide)).mono ?_
              rintro e w8 ⟨rfl, hb8⟩
              have IB8 := Lib.hid (IB7.out.quiet P hb8)
              clear hb8
              go_wp2
              go_roundw
              case rel => exact ⟨q + 1, S7, us, ts, s7, by omega, by go_num, IB8.out, HT7.out, by omega, by rw [z1]; omega, by omega, by rw [z3]; omega, HTL.out⟩
              case measure => simp [intOf]; omega
      by_cases h3 : ak = [99, 117, 116]
      · subst h3
        clear h1 h2
        have HAB : Hid (_ ∧ _ ∧ _) := act_bounds s ⟨[99, 117, 116], au, ad, an, aon⟩
        have HAN : Hid (actN s ⟨[99, 117, 116], au, ad, an, aon⟩ = (cutN s au an).1) := by
          show actN s ⟨[99, 117, 116], au, ad, an, aon⟩ = _
          unfold actN
          rw [if_neg (by simp), if_neg (by simp)]; rw [if_pos rfl]
        obtain ⟨y1, y2, y3⟩ := HAN.out ▸ HAB.out
        obtain ⟨c0, c1, c2, c3, c4⟩ := IX0.out.act
        generalize hXX : wr.heap.size = X at *
        go_wp2_with fail
        refine (P.cut _ nb S' s au an IX0.out.inb.prog (HE.out IX0.out.inb.below) (by omega)).mono ?_
        rintro e w5 ⟨rfl, S5, l5⟩
        have IX5 := Lib.hid (IX0.out.prog_step l5)
        have HT5 := Lib.hid (HTr.out.cut au an)
        clear l5 c0 c1 c2 c3 c4 k0 k1 k2 k3 k4 HAB HAN
        generalize (cutN s au an).1 = s5 at *
        go_wp2
        go_roundw
        case rel => exact ⟨q + 1, S5, us, ts, s5, by omega, by go_num, IX5.out.inb, HT5.out, by omega, by omega, by omega, by omega, HTL.out⟩
        case measure => simp [intOf]; omega
      have HAB : Hid (_ ∧ _ ∧ _) := act_bounds s ⟨ak, au, ad, an, aon⟩
      have HAN : Hid (actN s ⟨ak, au, ad, an, aon⟩ = (getN s au).1) := by
        show actN s ⟨ak, au, ad, an, aon⟩ = _
        unfold actN
        rw [if_neg h1, if_neg h2, if_neg h3]
      obtain ⟨y1, y2, y3⟩ := HAN.out ▸ HAB.out
      have b1 : (ak == [112, 117, 116]) = false := by simpa using h1
      have b2 : (ak == [104, 111, 115, 116]) = false := by simpa using h2
      have b3 : (ak == [99, 117, 116]) = false := by simpa using h3
      clear h1 h2 h3 HAB HAN
      obtain ⟨c0, c1, c2, c3, c4⟩ := IX0.out.act
      generalize hXX : wr.heap.size = X at *
      go_wp2_with fail
      refine (P.get _ nb S' s au IX0.out.inb.prog (HE.out IX0.out.inb.below) (by omega) (by omega)).mono ?_
      rintro e w5 ⟨rfl, S5, l5⟩
      have IX5 := Lib.hid (IX0.out.prog_step l5)
      have HT5 := Lib.hid (HTr.out.get au)
      clear l5 c0 c1 c2 c3 c4 k0 k1 k2 k3 k4
      have d1 : w5.cell? ⟨X, 1, none⟩ = some (.string ⟨au.toArray⟩) := IX5.out.act.c1
      cases hr : (getN s au).2.2 with
      | succ e =>
        rw [errV_some p (Nat.succ_ne_zero e)]
        clear hr
        generalize (getN s au).1 = s5 at *
        generalize (getN s au).2.1 = tx at *
        go_wp2
        go_roundw
        case rel => exact ⟨q + 1, S5, us, ts, s5, by omega, by go_num, IX5.out.inb, HT5.out, by omega, by omega, by omega, by omega, HTL.out⟩
        case measure => simp [intOf]; omega
      | zero =>
        have HC : Hid (∀ j, IsLast us au j → ∃ k : Nat, j = (k : Int) ∧ ∃ hk : k < ts.length, Lib.hasPrefix ts[k] (getN s au).2.1 = true) := fun j hj => HTr.out.comes hr hj
        rw [errV_zero]
        clear hr
        generalize (getN s au).1 = s5 at *
        generalize (getN s au).2.1 = tx at *
        have htb : ts.length ≤ q := by rw [← HTr.out.1]; exact r1
        obtain ⟨av, cv, hv⟩ := owns_slice IX5.out.inb.rowU
        subst hv
        go_wp2_with fail
        go_loopw [14, 15] (fun lv kv wx => ∃ (j : Int) (k : Nat), k ≤ us.length ∧ lv = .int .i64 j ∧ kv = .int .i64 k ∧ IsLast (us.take k) au j ∧ InX At w wx nb X S5 (.slice av us.length cv) u6 us ts ⟨ak, au, ad, an, aon⟩ s5) (fun _ kv _ => us.length - (intOf kv).toNat)
        case atStart => exact ⟨-1, 0, by omega, rfl, rfl, by simpa using IsLast.zero au, IX5.out⟩
        case round =>
          obtain ⟨j, k, hk, rfl, rfl, hj, hix⟩ := hrel
          have HJ := Lib.hid hj
          have HIX := Lib.hid hix
          clear hj hix
          by_cases hku : k < us.length
          · have hku' : (k : Int) < (us.length : Int) := by omega
            obtain ⟨g, cap, hv, hcap, _⟩ := owns_at HIX.out.inb.rowU (by omega)
            cases hv
            have f0 : wr.cell? ⟨g, k, none⟩ = some (.string ⟨(us[k]).toArray⟩) := by
              rw [HIX.out.inb.rowU.cellAt k (by simp; omega), List.getElem?_map, List.getElem?_eq_getElem hku]
              rfl
            have f1 : wr.cell? ⟨X, 1, none⟩ = some (.string ⟨au.toArray⟩) := HIX.out.act.c1
            by_cases e : us[k] = au
            · have HJ2 := Lib.hid (IsLast.hit hku e)
              have e' : (us[k] == au) = true := by simp [e]
              clear e
              generalize us[k] = x at f0 e'
              go_wp2_with fail
              go_quiet (fail)
              go_wp2
              go_roundw
              case rel => exact ⟨k, k + 1, by omega, rfl, by go_num, HJ2.out, HIX.out.quiet P (below_drewN (Below.refl _ _) _)⟩
              case measure => simp [intOf]; omega
            · have HJ2 := Lib.hid (IsLast.miss hku e HJ.out)
              have e' : (us[k] == au) = false := by simpa using e
              clear e
              generalize us[k] = x at f0 e'
              go_wp2_with fail
              go_quiet (fail)
              go_wp2
              go_roundw
              case rel => exact ⟨j, k + 1, by omega, rfl, by go_num, HJ2.out, HIX.out.quiet P (below_drewN (Below.refl _ _) _)⟩
              case measure => simp [intOf]; omega
          · have hkl : k = us.length := by omega
            subst hkl
            obtain ⟨i, rfl, hi1, hpre⟩ := HC.out j (by have := HJ.out; rwa [List.take_length] at this)
            have hi' : (i : Int) < (ts.length : Int) := by omega
            have hi0 : ¬ ((i : Int) < 0) := by omega
            obtain ⟨g, cap, hv, hcap, _⟩ := owns_at HIX.out.inb.rowT (by omega)
            subst hv
            have f0 : wr.cell? ⟨g, i, none⟩ = some (.string ⟨(ts[i]).toArray⟩) := by
              rw [HIX.out.inb.rowT.cellAt i (by simp; omega), List.getElem?_map, List.getElem?_eq_getElem hi1]
              rfl
            have htsl := HTL.out _ (List.getElem_mem hi1)
            have htx : tx.length ≤ (ts[i]).length := by
              simp only [Lib.hasPrefix, List.isPrefixOf_iff_prefix] at hpre
              exact hpre.length_le
            generalize ts[i] = y at f0 htsl htx hpre
            clear HJ HC
            go_wp2_with fail
            refine (begins_any y tx _ (by omega) (by omega)).mono ?_
            rintro e w' ⟨rfl, hw'⟩
            rw [hpre]
            go_wp2
            go_roundw
            case rel => exact ⟨q + 1, S5, us, ts, s5, by omega, by go_num, HIX.out.inb, HT5.out, by omega, by omega, by omega, by omega, HTL.out⟩
            case measure => simp [intOf]; omega
    · have hge : ¬ ((q : Int) < (l.length : Int)) := by omega
      go_wp2
      go_ret
      exact ⟨rfl, HIn.out.below⟩
end Go.Proofs.YtkokdpidgikdkaaDoor
