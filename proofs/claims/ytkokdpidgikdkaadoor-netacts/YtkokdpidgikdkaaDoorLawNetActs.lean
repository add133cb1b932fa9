/-
  The closed fact of the laws on nets, and the law NetActs, whatever acts it is called with: over whatever the program's net is (NetProg), and this seat's translation.
-/
import Derived.Test.YtkokdpidgikdkaaDoorNetDo
namespace Go.Proofs.YtkokdpidgikdkaaDoor
open Go.RowKit Go.Shelf

theorem act_bounds (s : Ns) (a : Ac) : (actN s a).l.length ≤ s.l.length + 1 ∧ (actN s a).off.length ≤ s.off.length + 1 ∧ (actN s a).calls ≤ s.calls + 1 := by
  unfold actN
  split
  · unfold putN
    repeat' split
    all_goals simp
  split
  · unfold hostN
    split
    · simp
    · have h1 : (s.off.filter (fun x => !(x == a.u))).length ≤ s.off.length := List.length_filter_le _ _
      refine ⟨Nat.le_succ _, ?_, Nat.le_succ _⟩
      show (s.off.filter (fun x => !(x == a.u)) ++ _).length ≤ _
      rw [List.length_append]
      split <;> simp <;> omega
  split
  · unfold cutN
    repeat' split
    all_goals simp
  · unfold getN
    repeat' split
    all_goals simp

theorem netted_put : (putN Ns.none [104, 116, 116, 112, 58, 47, 47, 97, 47, 120] [104, 101, 108, 108, 111]).2 = 0 := by decide +kernel
theorem netted_cut : (cutN (putN Ns.none [104, 116, 116, 112, 58, 47, 47, 97, 47, 120] [104, 101, 108, 108, 111]).1 [104, 116, 116, 112, 58, 47, 47, 97, 47, 120] 3).2 = 0 := by decide +kernel
theorem netted_get : (getN (cutN (putN Ns.none [104, 116, 116, 112, 58, 47, 47, 97, 47, 120] [104, 101, 108, 108, 111]).1 [104, 116, 116, 112, 58, 47, 47, 97, 47, 120] 3).1 [104, 116, 116, 112, 58, 47, 47, 97, 47, 120]).2 = ([104, 101, 108], 0) := by decide +kernel
theorem netted_calls : (getN (cutN (putN Ns.none [104, 116, 116, 112, 58, 47, 47, 97, 47, 120] [104, 101, 108, 108, 111]).1 [104, 116, 116, 112, 58, 47, 47, 97, 47, 120] 3).1 [104, 116, 116, 112, 58, 47, 47, 97, 47, 120]).1.calls = 1 := by decide +kernel
theorem netted_first : (cutN (putN Ns.none [104, 116, 116, 112, 58, 47, 47, 97, 47, 120] [104, 101, 108, 108, 111]).1 [104, 116, 116, 112, 58, 47, 47, 97, 47, 120] 3).1.calls = 0 := by decide +kernel

set_option maxRecDepth 100000 in
set_option maxHeartbeats 4000000 in
theorem netted_any {p : Nat → Addr} {At : World → Nat → (Nat → Prop) → Ns → Prop} (P : NetProg p At) (w : World) (hE : NEnv p w) : Calls Tryd.prog 5 #[] w fun e w' => e = .returned (.bool true) ∧ Below w.heap.size w w' := by
  have HE : Hid (∀ {V}, Below w.heap.size w V → NEnv p V) := fun h => hE.below h
  have F1 := Lib.hid netted_put
  have F2 := Lib.hid netted_cut
  have F3 := Lib.hid netted_get
  have F4 := Lib.hid netted_calls
  have F5 := Lib.hid netted_first
  clear hE
  go_enter Tryd.func5, Tryd.ntmps5
  go_wp2_with fail
  refine (P.new _).mono ?_
  rintro e w1 ⟨nb, S1, rfl, hn1, hs1, hb1⟩
  have H1 := Lib.hid (And.intro hn1 (And.intro hs1 hb1))
  clear hn1 hs1 hb1
  go_wp2_with fail
  refine (P.put _ nb S1 Ns.none [104, 116, 116, 112, 58, 47, 47, 97, 47, 120] [104, 101, 108, 108, 111] H1.out.1 (HE.out H1.out.2.2) (by decide) (by decide) (by decide)).mono ?_
  rintro e w2 ⟨rfl, S2, l2⟩
  have H2 : Hid (At w2 nb S2 _ ∧ (∀ b, S2 b → w.heap.size ≤ b) ∧ Below w.heap.size w w2) := ⟨l2.net, fun b hb => (l2.own b hb).elim (H1.out.2.1 b) (fun h => Nat.le_trans H1.out.2.2.size h), H1.out.2.2.trans (l2.below _ H1.out.2.2.size H1.out.2.1)⟩
  clear l2 H1
  rw [F1.out, errV_zero]
  generalize (putN Ns.none [104, 116, 116, 112, 58, 47, 47, 97, 47, 120] [104, 101, 108, 108, 111]).1 = s1 at *
  go_wp2_with fail
  refine (P.cut _ nb S2 s1 [104, 116, 116, 112, 58, 47, 47, 97, 47, 120] 3 H2.out.1 (HE.out H2.out.2.2) (by decide)).mono ?_
  rintro e w3 ⟨rfl, S3, l3⟩
  have H3 : Hid (At w3 nb S3 _ ∧ (∀ b, S3 b → w.heap.size ≤ b) ∧ Below w.heap.size w w3) := ⟨l3.net, fun b hb => (l3.own b hb).elim (H2.out.2.1 b) (fun h => Nat.le_trans H2.out.2.2.size h), H2.out.2.2.trans (l3.below _ H2.out.2.2.size H2.out.2.1)⟩
  clear l3 H2
  rw [F2.out, errV_zero]
  generalize (cutN s1 [104, 116, 116, 112, 58, 47, 47, 97, 47, 120] 3).1 = s2 at *
  go_wp2_with fail
  refine (P.get _ nb S3 s2 [104, 116, 116, 112, 58, 47, 47, 97, 47, 120] H3.out.1 (HE.out H3.out.2.2) (by rw [F5.out]; decide) (by decide)).mono ?_
  rintro e w4 ⟨rfl, S4, l4⟩
  have H4 : Hid (At w4 nb S4 _ ∧ (∀ b, S4 b → w.heap.size ≤ b) ∧ Below w.heap.size w w4) := ⟨l4.net, fun b hb => (l4.own b hb).elim (H3.out.2.1 b) (fun h => Nat.le_trans H3.out.2.2.size h), H3.out.2.2.trans (l4.below _ H3.out.2.2.size H3.out.2.1)⟩
  clear l4 H3
  rw [F3.out, errV_zero]
  generalize (getN s2 [104, 116, 116, 112, 58, 47, 47, 97, 47, 120]).1 = s3 at *
  go_wp2_with fail
  refine (P.calls _ nb S4 s3 H4.out.1).mono ?_
  rintro e w5 ⟨rfl, hb5⟩
  have H5 := Lib.hid (H4.out.2.2.trans (hb5.mono H4.out.2.2.size))
  clear hb5
  rw [F4.out]
  go_wp2
  go_ret
  exact ⟨rfl, H5.out⟩

/-- The document's net, new. -/
theorem ref_new (w : World) : RefAt (w.alloc (.cells #[.slice none 0 0, .slice none 0 0, .int .i64 0] 44)) w.heap.size (.slice none 0 0) (.slice none 0 0) Ns.none := by
  have e := heap_new w (.cells #[.slice none 0 0, .slice none 0 0, .int .i64 0] 44)
  generalize hV : w.alloc (.cells #[.slice none 0 0, .slice none 0 0, .int .i64 0] 44) = V at e ⊢
  exact ⟨by simp [World.cell?, e], by simp [World.cell?, e], by simp [World.cell?, e, Ns.none], fun j => by simp [World.frozen?, e], World.ownsRow_nil _ _ _ _, World.ownsRow_nil _ _ _ _, fun g h => by simp [Value.ownBlock] at h⟩

theorem netActs_long {p : Nat → Addr} {At : World → Nat → (Nat → Prop) → Ns → Prop} (P : NetProg p At) (l : List Ac) (a : Option Addr) (ca : Nat) (w : World) (hE : NEnv p w) (hl : CameA w a l) (h : longAs l 100 = 1) :
    Calls Tryd.prog 4 #[.slice a l.length ca] w fun e w' => e = .returned (.bool true) ∧ Below w.heap.size w w' := by
  have HE := Lib.hid hE
  have HL := Lib.hid hl
  have HF := Lib.hid h
  clear hE hl h
  go_enter Tryd.func4, Tryd.ntmps4
  go_wp2_with fail
  refine (netted_any P _ HE.out).mono ?_
  rintro e w1 ⟨rfl, hb1⟩
  have HB1 := Lib.hid hb1
  clear hb1
  go_wp2_with fail
  refine (longActs_any l a ca 100 _ (HL.out.below HB1.out).lies HL.out.len HL.out.texts).mono ?_
  rintro e w2 ⟨rfl, hw2⟩
  obtain rfl : w1 = w2 := hw2.symm
  rw [HF.out]
  go_wp2
  go_ret
  exact ⟨rfl, HB1.out⟩

set_option maxRecDepth 100000 in
set_option maxHeartbeats 4000000 in
theorem netActs_main {p : Nat → Addr} {At : World → Nat → (Nat → Prop) → Ns → Prop} (P : NetProg p At) (l : List Ac) (a : Option Addr) (ca : Nat) (w : World) (hE : NEnv p w) (hl : CameA w a l) (h : longAs l 100 = 0) :
    Calls Tryd.prog 4 #[.slice a l.length ca] w fun e w' => e = .returned (.bool true) ∧ Below w.heap.size w w' := by
  have HE : Hid (∀ {V}, Below w.heap.size w V → NEnv p V) := fun h => hE.below h
  have HE0 := Lib.hid hE
  have HL := Lib.hid hl
  have HF := Lib.hid h
  obtain ⟨hlen, hall⟩ := longAs_zero h
  have HA := Lib.hid hall
  clear hE hl h hall
  go_enter Tryd.func4, Tryd.ntmps4
  go_wp2_with fail
  refine (netted_any P _ HE0.out).mono ?_
  rintro e w1 ⟨rfl, hb1⟩
  have HB1 := Lib.hid hb1
  clear hb1
  go_wp2_with fail
  refine (longActs_any l a ca 100 _ (HL.out.below HB1.out).lies HL.out.len HL.out.texts).mono ?_
  rintro e w2 ⟨rfl, hw2⟩
  obtain rfl : w1 = w2 := hw2.symm
  rw [HF.out]
  go_wp2_with fail
  refine (P.new _).mono ?_
  rintro e w3 ⟨nb, S, rfl, hn, hs, hb3⟩
  have HB3 := Lib.hid (HB1.out.trans (hb3.mono HB1.out.size))
  have HN := Lib.hid hn
  have HS : Hid (∀ b, S b → w.heap.size ≤ b) := fun b hb => Nat.le_trans HB1.out.size (hs b hb)
  clear hn hs hb3
  have HB0 : Hid (Both At w (w3.alloc (.cells #[.slice none 0 0, .slice none 0 0, .int .i64 0] 44)) nb w3.heap.size S (.slice none 0 0) (.slice none 0 0) Ns.none Ns.none) :=
    ⟨HB3.out.alloc HB3.out.size _, P.keep (T := fun _ => False) HN.out (Kept.of_below ((Below.refl _ _).alloc (Nat.le_refl _) _)) (fun _ _ f => f), ref_new w3, HS.out, HB3.out.size, fun h => by have := P.lt HN.out _ h; omega, fun g h => by simp [Value.ownBlock] at h, fun g h => by simp [Value.ownBlock] at h⟩
  go_wp2_with fail
  generalize w3.alloc (.cells #[.slice none 0 0, .slice none 0 0, .int .i64 0] 44) = w4 at HB0 ⊢
  generalize w3.heap.size = mb at HB0 ⊢
  go_loopw [6] (fun i wr => ∃ (q : Nat) (S' : Nat → Prop) (vL vO : Value) (s : Ns), q ≤ l.length ∧ i = .int .i64 q ∧ Both At w wr nb mb S' vL vO s s ∧ s.l.length ≤ q ∧ s.off.length ≤ q ∧ s.calls ≤ q) (fun i _ => l.length - (intOf i).toNat)
  case atStart => exact ⟨0, S, _, _, Ns.none, by omega, rfl, HB0.out, by simp [Ns.none], by simp [Ns.none], by simp [Ns.none]⟩
  case round =>
    obtain ⟨q, S', vL, vO, s, hq, rfl, hboth, r1, r2, r3⟩ := hrel
    have HBo := Lib.hid hboth
    clear hboth
    by_cases hlt : q < l.length
    · have hlt' : (q : Int) < (l.length : Int) := by omega
      obtain ⟨b, o, hb, k0, k1, k2, k3, k4⟩ := (HL.out.below HBo.out.below).lies.at hlt
      obtain ⟨x1, x2⟩ := HA.out _ (List.getElem_mem hlt)
      subst hb
      generalize l[q] = x at *
      go_wp2_with fail
      refine (do_any P w wr nb mb S' vL vO s x HE0.out HBo.out (by omega) (by omega) (by omega) (by omega) (by omega)).mono ?_
      rintro e w5 ⟨rfl, S5, vL5, vO5, hb5⟩
      have HB5 := Lib.hid hb5
      obtain ⟨y1, y2, y3⟩ := act_bounds s x
      clear hb5 k0 k1 k2 k3 k4
      generalize actN s x = s5 at *
      go_wp2
      go_roundw
      case rel => exact ⟨q + 1, S5, vL5, vO5, s5, by omega, by go_num, HB5.out, by omega, by omega, by omega⟩
      case measure => simp [intOf]; omega
    · have hge : ¬ ((q : Int) < (l.length : Int)) := by omega
      go_wp2
      go_ret
      exact ⟨rfl, HBo.out.below⟩
end Go.Proofs.YtkokdpidgikdkaaDoor
