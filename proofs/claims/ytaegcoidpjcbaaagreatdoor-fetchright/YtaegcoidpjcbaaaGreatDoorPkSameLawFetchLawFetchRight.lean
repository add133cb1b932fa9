/-
  Own texts of the proof, joined by program: PkSame, LawFetch, LawFetchRight.
-/
import Derived.Test.YtaegcoidpjcbaaaGreatDoorTreeMemTreeSlotsTreeErr
import Derived.Test.YtaegcoidpjcbaaaGreatDoorFetchPureFetchMemPkFetchPkFetchWaysPkFetchDoFetchAt
import Derived.Test.YtaegcoidpjcbaaaGreatDoorRefRulesLawRules
import Derived.Test.YtaegcoidpjcbaaaGreatDoorPkHasPkWantReadWantBox
import Derived.Test.YtaegcoidpjcbaaaGreatDoorOpenedHeldMemCameRulesWantOpened
/-
  Package tree's Same, by package slices' Equal: over this seat's translation.
-/
namespace Go.Proofs.YtaegcoidpjcbaaaGreatDoor
open Go.RowKit Go.Shelf

set_option maxHeartbeats 1000000 in
open Classical in
theorem equal_any (l m : List F) (a b : Option Addr) (ca cb : Nat) (w : World) (hl : LiesAt w a l) (hm : LiesAt w b m) (hll : l.length ≤ 100000) (hml : m.length ≤ 100000) :
    Calls Tryz.prog 45 #[.slice a l.length ca, .slice b m.length cb] w fun e w' => e = .returned (.bool (decide (l = m))) ∧ Below w.heap.size w w' := by
  by_cases hlen : l.length = m.length
  · have HL : Hid (LiesAt w a l) := hl
    have HM : Hid (LiesAt w b m) := hm
    clear hl hm
    have HLEN : Hid (l.length = m.length) := hlen
    rw [← hlen]
    clear hlen
    go_enter Tryz.func45, Tryz.ntmps45
    go_wp2_with fail
    go_loopw [13] (fun i wr => ∃ q : Nat, q ≤ l.length ∧ i = .int .i64 q ∧ l.take q = m.take q ∧ Below w.heap.size w wr) (fun i _ => l.length - (intOf i).toNat)
    case atStart => exact ⟨0, by omega, rfl, by simp, Below.refl _ _⟩
    case round =>
      obtain ⟨q, hq, rfl, ht, hb⟩ := hrel
      have HB : Hid (Below w.heap.size w wr) := hb
      have HT : Hid (l.take q = m.take q) := ht
      clear hb ht
      by_cases hlt : q < l.length
      · have hlt2 : q < m.length := HLEN.out ▸ hlt
        obtain ⟨b1, o1, rfl, c0, c1, c2⟩ := (HL.out.below HB.out).at hlt
        obtain ⟨b2, o2, rfl, d0, d1, d2⟩ := (HM.out.below HB.out).at hlt2
        have hlt' : (q : Int) < (l.length : Int) := by omega
        by_cases he : l[q] = m[q]
        · have hne := file_neq l[q] m[q] true (by simp [he])
          have hg := fun op x y w => run_eqGuard_agg (P := Tryz.prog) w op 68 x y #[sv l[q].p, .bool l[q].r, sv l[q].t] #[sv m[q].p, .bool m[q].r, sv m[q].t] Tryz.guardFile
          have HN : Hid (l.take (q + 1) = m.take (q + 1)) := by
            show l.take (q + 1) = m.take (q + 1)
            rw [List.take_succ_eq_append_getElem hlt, List.take_succ_eq_append_getElem hlt2, HT.out, he]
          clear he
          generalize l[q] = x at hne c0 c1 c2 hg
          generalize m[q] = y at hne d0 d1 d2 hg
          go_wp2_with fail
          go_quiet (fail)
          go_wp2
          go_roundw
          case rel => exact ⟨q + 1, by omega, by go_num, HN.out, below_drewN HB.out _⟩
          case measure => simp [intOf]; omega
        · have hne := file_neq l[q] m[q] false (by simp [he])
          have hg := fun op x y w => run_eqGuard_agg (P := Tryz.prog) w op 68 x y #[sv l[q].p, .bool l[q].r, sv l[q].t] #[sv m[q].p, .bool m[q].r, sv m[q].t] Tryz.guardFile
          have HN : Hid (decide (l = m) = false) := by
            show decide (l = m) = false
            rw [decide_eq_false_iff_not]
            intro e
            subst e
            exact he rfl
          clear he
          generalize l[q] = x at hne c0 c1 c2 hg
          generalize m[q] = y at hne d0 d1 d2 hg
          go_wp2_with fail
          go_quiet (fail)
          go_wp2
          go_ret
          exact ⟨ret_bool HN.out.symm, below_drewN HB.out _⟩
      · have hql : q = l.length := by omega
        have HN : Hid (decide (l = m) = true) := by
          show decide (l = m) = true
          rw [decide_eq_true_iff]
          have := HT.out
          rw [hql, List.take_length, HLEN.out, List.take_length] at this
          exact this
        clear hql
        go_wp2
        go_ret
        exact ⟨ret_bool HN.out.symm, HB.out⟩
  · have HN : Hid (decide (l = m) = false) := by
      show decide (l = m) = false
      rw [decide_eq_false_iff_not]
      intro e
      exact hlen (by rw [e])
    have hlen' : ((l.length : Int) == (m.length : Int)) = false := by simp; omega
    clear hl hm
    go_enter Tryz.func45, Tryz.ntmps45
    go_wp2
    go_ret
    exact ⟨ret_bool HN.out.symm, Below.refl _ _⟩

open Classical in
theorem same_any (l m : List F) (a b : Option Addr) (ca cb : Nat) (w : World) (hl : LiesAt w a l) (hm : LiesAt w b m) (hll : l.length ≤ 100000) (hml : m.length ≤ 100000) :
    Calls Tryz.prog 16 #[.slice a l.length ca, .slice b m.length cb] w fun e w' => e = .returned (.bool (decide (l = m))) ∧ Below w.heap.size w w' := by
  have HL : Hid (LiesAt w a l) := hl
  have HM : Hid (LiesAt w b m) := hm
  clear hl hm
  go_enter Tryz.func16, Tryz.ntmps16
  go_wp2_with fail
  refine (equal_any l m a b ca cb _ HL.out HM.out hll hml).mono ?_
  rintro e w1 ⟨rfl, hb1⟩
  go_wp2
  go_ret
  exact ⟨rfl, hb1⟩
end Go.Proofs.YtaegcoidpjcbaaaGreatDoor
/-
  The closed fact of the laws on fetching, and what is too long to be asked: over whatever the program's net is and what it holds (by their contracts), and this seat's translation.
-/
namespace Go.Proofs.YtaegcoidpjcbaaaGreatDoor
open Go.RowKit Go.Shelf

/-- Too long, to be asked? -/
def longAskB (l : List Ru) (n u k : List UInt8) : Bool := decide (longR l ≠ 0) || decide (longW n u k ≠ 0)
theorem longAsk_no {l : List Ru} {n u k : List UInt8} (h : longAskB l n u k = false) : (longR l : Int) = 0 ∧ longW n u k = 0 := by
  simp only [longAskB, Bool.or_eq_false_iff, decide_eq_false_iff_not] at h
  omega
set_option maxRecDepth 100000 in
set_option maxHeartbeats 1000000 in
theorem longAsk_any (l : List Ru) (a : Option Addr) (ca : Nat) (n u k : List UInt8) (g m : Int) (w : World) (hl : RulesAt w a l) (hm : l.length ≤ maxLen) (hf : ∀ r ∈ l, r.f.length ≤ maxLen ∧ r.t.length ≤ maxLen ∧ ∀ t ∈ r.t, t.length ≤ maxLen) :
    Calls Tryz.prog 7 #[.slice a l.length ca, wv ⟨n, u, k, g, m⟩] w fun e w' => e = .returned (.bool (longAskB l n u k)) ∧ Below w.heap.size w w' := by
  have hb0 : Below w.heap.size w (w.alloc (wo n u k g m)) := (Below.refl _ _).alloc (Nat.le_refl _) _
  have HL := Lib.hid (hl.below hb0)
  have HB := Lib.hid hb0
  have HF := Lib.hid hf
  obtain ⟨c0, c1, c2, c3, c4⟩ := WantAt.new w n u k g m
  clear hl hb0 hf
  rcases longR_or l with h0 | h0
  · obtain ⟨z, hz⟩ : ∃ z : Int, ((longW n u k : Nat) : Int) = z := ⟨_, rfl⟩
    have HZ : Hid (longAskB l n u k = decide (z > 0)) := by
      show longAskB l n u k = _
      unfold longAskB
      rw [decide_eq_false (by omega), Bool.false_or]
      exact decide_eq_decide.2 (by omega)
    have H0 := Lib.hid h0
    have HW := Lib.hid hz
    clear h0 hz
    go_enter Tryz.func7, Tryz.ntmps7
    go_wp2_with fail
    refine (longRules_is l a ca 0 _ HL.out hm HF.out H0.out).mono ?_
    rintro e w' ⟨rfl, rfl⟩
    go_wp2_with fail
    refine (longWant_is n u k g m z _ HW.out).mono ?_
    rintro e w2 ⟨rfl, hb2⟩
    have HB2 := Lib.hid (HB.out.trans (hb2.mono HB.out.size))
    clear hb2 c0 c1 c2 c3 c4
    go_wp2
    go_ret
    exact ⟨by rw [HZ.out]; rfl, HB2.out⟩
  · have HZ : Hid (longAskB l n u k = true) := by
      show longAskB l n u k = _
      unfold longAskB
      rw [decide_eq_true (by omega), Bool.true_or]
    have H0 := Lib.hid h0
    clear h0
    go_enter Tryz.func7, Tryz.ntmps7
    go_wp2_with fail
    refine (longRules_is l a ca 1 _ HL.out hm HF.out H0.out).mono ?_
    rintro e w' ⟨rfl, rfl⟩
    clear c0 c1 c2 c3 c4
    go_wp2
    go_ret
    exact ⟨by rw [HZ.out]; rfl, HB.out⟩

def fUrl : List UInt8 := [104, 116, 116, 112, 58, 47, 47, 104, 47, 120]
def fHi : List UInt8 := [104, 105]
abbrev fetA : F := ⟨[97], false, [104, 105]⟩
def fW : Wt := ⟨[97], fUrl, kPlain, 0, (sumT [fetA] : Int)⟩
theorem fet_tree : treeFault [fetA] = (0, -1) := by kernel_rfl
theorem fet_sum : isS (sumT [fetA] : Int) = true := by
  rw [sum_yes (by rw [fet_tree])]
  have := sumL_lt (packL [fetA])
  unfold Mo at this
  simp only [isS, decide_eq_true_eq]
  omega
theorem fet_code : wantCode fW = 0 := by
  rw [want_sum (x := fW) (by decide) (by decide +kernel) (by decide) (by decide) (by decide)]
  show (if isS (sumT [fetA] : Int) = false then 2 else 0) = 0
  rw [fet_sum]
  rfl
theorem fet_rules : rulesF [] = (0, -1) := by decide
theorem fet_ask : (askF [] fW).1 = 0 := by
  rw [ask_want (by rw [fet_rules])]
  exact fet_code
theorem fet_ways : waysL (closestQ fW.u []) fW.u = [fUrl] := by decide +kernel
theorem fet_put : (putN Ns.none fUrl fHi).2 = 0 := by decide +kernel
theorem fet_get : (getN (putN Ns.none fUrl fHi).1 fUrl).2 = (fHi, 0) := by decide +kernel
theorem fet_calls : (putN Ns.none fUrl fHi).1.calls ≤ 900 := by decide +kernel
theorem fet_texts : ∀ x ∈ (putN Ns.none fUrl fHi).1.l, x.t.length ≤ 90000 := by
  have h : (putN Ns.none fUrl fHi).1.l.all (fun x => decide (x.t.length ≤ 90000)) = true := by decide +kernel
  intro x hx
  simpa using List.all_eq_true.1 h x hx
theorem fet_right : rightW fW fHi = ([fetA], 0) := by
  have h1 : plainT fW fHi = ([fetA], 0) := by
    show (if (treeFault [fetA]).1 = 0 then ([fetA], 0) else ([], (treeFault [fetA]).1)) = _
    rw [fet_tree]
    rfl
  have h2 : openW fW fHi = ([fetA], 0) := by rw [openW_plain fet_code (by decide) rfl, h1]
  unfold rightW
  rw [h2, if_neg (by simp), if_pos]
  show (treeFault [fetA]).1 = 0 ∧ ((sumL (packL [fetA]) : Nat) : Int) = (sumT [fetA] : Int)
  rw [sum_yes (by rw [fet_tree]), fet_tree]
  exact ⟨rfl, rfl⟩
theorem fet_way : (wayF fW (putN Ns.none fUrl fHi).1 fUrl).2 = ([fetA], 0) := by
  unfold wayF
  rw [if_neg (by rw [fet_get]; simp), fet_get]
  exact fet_right
theorem fet_tried : waysF fW (putN Ns.none fUrl fHi).1 [fUrl] 0 = ((wayF fW (putN Ns.none fUrl fHi).1 fUrl).1, [fetA], [lineF fUrl 0], 0) := by
  have h := fet_way
  generalize hx : wayF fW (putN Ns.none fUrl fHi).1 fUrl = x at h
  obtain ⟨x1, x2⟩ := x
  simp only at h
  subst h
  rw [waysF, hx, if_pos rfl]
theorem fet_fetch : (fetchF [] fW (Hs.none (mostH 3)) (putN Ns.none fUrl fHi).1).2.2 = ([fetA], [lineF fUrl 0], 0, -1) := by
  have hx : waysF fW (putN Ns.none fUrl fHi).1 (waysL (closestQ fW.u []) fW.u) 0 = ((wayF fW (putN Ns.none fUrl fHi).1 fUrl).1, [fetA], [lineF fUrl 0], 0) := by
    rw [fet_ways]
    exact fet_tried
  rw [fetch_tried fet_ask rfl, try_ways fet_ask hx]
theorem fet_line : lineF fUrl 0 = [104, 116, 116, 112, 58, 47, 47, 104, 47, 120, 32, 111, 107] := by decide
theorem fetA_lies (w : World) (T : TypeId) : LiesAt (w.alloc (.cells #[.string ⟨#[97]⟩, .bool false, .string ⟨#[104, 105]⟩] T)) (some ⟨w.heap.size, 0, none⟩) [fetA] := fun _ => by
  have e := heap_new w (.cells #[.string ⟨#[97]⟩, .bool false, .string ⟨#[104, 105]⟩] T)
  generalize w.alloc (.cells #[.string ⟨#[97]⟩, .bool false, .string ⟨#[104, 105]⟩] T) = V at e ⊢
  refine ⟨_, _, rfl, fun k hk => ?_⟩
  obtain rfl : k = 0 := by simp at hk; omega
  exact ⟨by simp [World.cell?, e], by simp [World.cell?, e], by simp [World.cell?, e]⟩
theorem line_texts (w : World) (x : List UInt8) : TextsAt (w.alloc (.cells #[sv x] 9)) (some ⟨w.heap.size, 0, none⟩) [x] := fun _ => ⟨w.heap.size, 0, rfl, fun k hk => by
  have h0 := heap_new w (.cells #[sv x] 9)
  generalize w.alloc (.cells #[sv x] 9) = V at h0 ⊢
  obtain rfl : k = 0 := by simp at hk; omega
  simp [World.cell?, h0]⟩

theorem fet_got {p : Nat → Addr} {NA : NetIs} {HA : HeldIs} (P : NetActs p NA) (P2 : HeldCore p HA) (nb hb : Nat) (S Sh Rh : Nat → Prop) (w0 w : World) (hI : InF NA HA w0 w nb hb S Sh Rh (putN Ns.none fUrl fHi).1 (Hs.none (mostH 3))) (hE : FEnv p w0) :
    Calls Tryz.prog 11 #[.pointer (some ⟨hb, 0, none⟩), .pointer (some ⟨nb, 0, none⟩), .slice none 0 0, .agg #[.string ⟨#[97]⟩, .string ⟨#[104, 116, 116, 112, 58, 47, 47, 104, 47, 120]⟩, .string ⟨#[112, 108, 97, 105, 110]⟩, .int .i64 0, .int .i64 (sumT [fetA])]] w fun e w' => (∃ a ca al cl, e = .returned (.tuple #[.slice a 1 ca, .slice al 1 cl, .nilIface]) ∧ LiesAt w' a [fetA] ∧ 1 ≤ ca ∧ TextsAt w' al [[104, 116, 116, 112, 58, 47, 47, 104, 47, 120, 32, 111, 107]]) ∧ Below w0.heap.size w0 w' := by
  have hc := fetchFetch_good P P2 nb hb S Sh Rh _ _ [] none 0 [97] fUrl kPlain 0 (sumT [fetA] : Int) w0 w hI hE fet_calls fet_texts ⟨fun r hr => by simp at hr, fun h => absurd rfl h⟩ ⟨by simp, fun r hr => by simp at hr, fun r hr => by simp at hr, fun r hr => by simp at hr⟩ (by decide) (by decide) fet_ask
  have hf : (fetchF (([] : List Ru).map Ru.q) ⟨[97], fUrl, kPlain, 0, (sumT [fetA] : Int)⟩ (Hs.none (mostH 3)) (putN Ns.none fUrl fHi).1).2.2 = ([fetA], [lineF fUrl 0], 0, -1) := fet_fetch
  generalize fetchF (([] : List Ru).map Ru.q) ⟨[97], fUrl, kPlain, 0, (sumT [fetA] : Int)⟩ (Hs.none (mostH 3)) (putN Ns.none fUrl fHi).1 = r at hc hf
  obtain ⟨r1, r2, r3⟩ := r
  simp only at hf
  subst hf
  refine hc.mono ?_
  rintro e w' ⟨a, ca, al, cl, S', Sh', Rh', he, q1, q2, q3, q4, q5, q6⟩
  obtain ⟨a2, c2, hv, ht, _, _⟩ := texts_of_owns q5
  cases hv
  exact ⟨⟨a, ca, al, cl, he, q1, q2, by rw [← fet_line]; exact ht⟩, q6.both.net.below⟩

set_option maxRecDepth 100000 in
set_option maxHeartbeats 4000000 in
theorem fetched_any {p : Nat → Addr} {NA : NetIs} {HA : HeldIs} (P : NetProg p NA) (P2 : HeldCore p HA) (w : World) (hE : FEnv p w) : Calls Tryz.prog 5 #[] w fun e w' => e = .returned (.bool true) ∧ Below w.heap.size w w' := by
  have HE := Lib.hid hE
  clear hE
  go_enter Tryz.func5, Tryz.ntmps5
  go_wp2_with fail
  refine (P.new _).mono ?_
  rintro e w1 ⟨nb, S1, rfl, hn1, hs1, hb1⟩
  have I1 : Hid (InN NA w w1 nb S1 Ns.none) := ⟨hb1, hn1, hs1⟩
  clear hn1 hs1 hb1
  go_wp2_with fail
  have hb2 : Below w1.heap.size w1 (w1.alloc (.cells #[.string ⟨#[97]⟩, .bool false, .string ⟨#[104, 105]⟩] 68)) := (Below.refl _ _).alloc (Nat.le_refl _) _
  have I2 := Lib.hid (I1.out.quiet P.acts hb2)
  refine (packSum_any p [fetA] (some ⟨w1.heap.size, 0, none⟩) 1 _ (HE.out.below I2.out.below).env (HE.out.below I2.out.below).sum (fetA_lies w1 _) (Nat.le_refl _) (tree_small (by rw [fet_tree]))).mono ?_
  rintro e w3 ⟨⟨v, rfl, hv⟩, hb3⟩
  rw [fet_tree] at hv
  obtain rfl := hv.isNil
  have I3 := Lib.hid (I2.out.quiet P.acts hb3)
  clear hv hb2 hb3 I1 I2
  go_wp2_with fail
  refine (P.put _ nb S1 Ns.none fUrl fHi I3.out.net (HE.out.below I3.out.below).net (by decide) (by decide) (by decide)).mono ?_
  rintro e w4 ⟨rfl, S4, l4⟩
  rw [fet_put, errV_zero]
  have I4 := Lib.hid (I3.out.step l4)
  clear l4 I3
  go_wp2_with fail
  refine (P2.new _ 3).mono ?_
  rintro e w5 ⟨hb, Sh, Rh, rfl, hh5, hs5, hb5⟩
  have I5 : Hid (InF NA HA w w5 nb hb S4 Sh Rh _ _) := InF.new P.acts I4.out hh5 hs5 hb5 (OkH.zero 3)
  clear hh5 hs5 hb5 I4
  go_wp2_with fail
  refine (fet_got P.acts P2 nb hb S4 Sh Rh w w5 I5.out HE.out).mono ?_
  rintro e w6 ⟨⟨a6, c6, al, cl, rfl, h6, hc6, ht6⟩, hb6⟩
  obtain ⟨b, o, rfl, k0, k1, k2⟩ := h6.at (k := 0) (by simp)
  have k2' : w6.cell? ⟨b, o + 2, none⟩ = some (.string ⟨#[104, 105]⟩) := by simpa using k2
  have HT6 := Lib.hid ht6
  have HB6 := Lib.hid hb6
  clear h6 ht6 hb6 k0 k1 k2 I5
  go_wp2_with fail
  have hb7 : Below w6.heap.size w6 (w6.alloc (.cells #[sv [104, 116, 116, 112, 58, 47, 47, 104, 47, 120, 32, 111, 107]] 9)) := (Below.refl _ _).alloc (Nat.le_refl _) _
  refine (sameTexts_at _ _ al (some ⟨w6.heap.size, 0, none⟩) cl 1 _ (HT6.out.below hb7) (line_texts w6 [104, 116, 116, 112, 58, 47, 47, 104, 47, 120, 32, 111, 107]) (by decide) (by decide)).mono ?_
  rintro e w7 ⟨rfl, hb8⟩
  have HB8 := Lib.hid ((HB6.out.trans (hb7.mono HB6.out.size)).trans (hb8.mono (Nat.le_trans HB6.out.size hb7.size)))
  rw [decide_eq_true rfl]
  clear hb7 hb8 k2'
  go_wp2
  go_ret
  exact ⟨rfl, HB8.out⟩
end Go.Proofs.YtaegcoidpjcbaaaGreatDoor
/-
  The law FetchRight, whatever it is called with: over whatever the program's net is and what it holds (by their contracts), and this seat's translation.
-/
namespace Go.Proofs.YtaegcoidpjcbaaaGreatDoor
open Go.RowKit Go.Shelf

theorem one_int (w : World) (z : Int) (T : TypeId) : IntsAt (w.alloc (.cells #[.int .i64 z] T)) (some ⟨w.heap.size, 0, none⟩) [z] := fun _ => ⟨w.heap.size, 0, rfl, fun k hk => by
  have h0 := heap_new w (.cells #[.int .i64 z] T)
  generalize w.alloc (.cells #[.int .i64 z] T) = V at h0 ⊢
  obtain rfl : k = 0 := by simp at hk; omega
  simp [World.cell?, h0]⟩
theorem CameR.below {w w' : World} {a : Option Addr} {ca : Nat} {l : List Ru} (h : CameR w a ca l) (hb : Below w.heap.size w w') : CameR w' a ca l := ⟨h.lies.below hb, h.cap, h.len, h.texts, h.nil⟩

set_option maxRecDepth 100000 in
set_option maxHeartbeats 2000000 in
theorem fetchRight_long {p : Nat → Addr} {NA : NetIs} {HA : HeldIs} (P : NetProg p NA) (P2 : HeldCore p HA) (l : List Ac) (a : Option Addr) (ca : Nat) (rl : List Ru) (ra : Option Addr) (rc : Nat) (n u k : List UInt8) (g m : Int) (w : World) (hE : FEnv p w) (hl : CameA w a l) (hr : CameR w ra rc rl) (h : longAs l 40 = 1 ∨ (longAs l 40 = 0 ∧ longAskB rl n u k = true)) :
    Calls Tryz.prog 3 #[.slice a l.length ca, .slice ra rl.length rc, wv ⟨n, u, k, g, m⟩] w fun e w' => e = .returned (.bool true) ∧ Below w.heap.size w w' := by
  have hb0 : Below w.heap.size w (w.alloc (wo n u k g m)) := (Below.refl _ _).alloc (Nat.le_refl _) _
  have HE := Lib.hid (hE.below hb0)
  have HL := Lib.hid (hl.below hb0)
  have HR := Lib.hid (hr.below hb0)
  have HW0 := Lib.hid (WantAt.new w n u k g m)
  have HB0 := Lib.hid hb0
  have HF := Lib.hid h
  clear hE hl hr h hb0
  go_enter Tryz.func3, Tryz.ntmps3
  go_wp2_with fail
  refine (fetched_any P P2 _ HE.out).mono ?_
  rintro e w1 ⟨rfl, hb1⟩
  have HB1 := Lib.hid hb1
  clear hb1
  rcases HF.out with h1 | ⟨h1, h2⟩
  · have H1 := Lib.hid h1
    clear h1
    go_wp2_with fail
    refine (longActs_any l a ca 40 _ (HL.out.below HB1.out).lies HL.out.len HL.out.texts).mono ?_
    rintro e w2 ⟨rfl, hw2⟩
    obtain rfl : w1 = w2 := hw2.symm
    rw [H1.out]
    go_wp2
    go_ret
    exact ⟨rfl, HB0.out.trans (HB1.out.mono HB0.out.size)⟩
  · have H1 := Lib.hid h1
    have H2 := Lib.hid h2
    obtain ⟨d0, d1, d2, d3, d4⟩ := HW0.out.below HB1.out
    clear h1 h2
    go_wp2_with fail
    refine (longActs_any l a ca 40 _ (HL.out.below HB1.out).lies HL.out.len HL.out.texts).mono ?_
    rintro e w2 ⟨rfl, hw2⟩
    obtain rfl : w1 = w2 := hw2.symm
    rw [H1.out]
    go_wp2_with fail
    refine (longAsk_any rl ra rc n u k g m _ (HR.out.below HB1.out).lies HR.out.len HR.out.texts).mono ?_
    rintro e w3 ⟨rfl, hb3⟩
    rw [H2.out]
    have HB3 := Lib.hid ((HB0.out.trans (HB1.out.mono HB0.out.size)).trans (hb3.mono (Nat.le_trans HB0.out.size HB1.out.size)))
    clear hb3 d0 d1 d2 d3 d4
    go_wp2
    go_ret
    exact ⟨rfl, HB3.out⟩

set_option maxRecDepth 100000 in
set_option maxHeartbeats 8000000 in
theorem fetchRight_main {p : Nat → Addr} {NA : NetIs} {HA : HeldIs} (P : NetProg p NA) (P2 : HeldCore p HA) (l : List Ac) (a : Option Addr) (ca : Nat) (rl : List Ru) (ra : Option Addr) (rc : Nat) (n u k : List UInt8) (g m : Int) (w : World) (hE : FEnv p w) (hl : CameA w a l) (hr : CameR w ra rc rl) (h1 : longAs l 40 = 0) (h2 : longAskB rl n u k = false) :
    Calls Tryz.prog 3 #[.slice a l.length ca, .slice ra rl.length rc, wv ⟨n, u, k, g, m⟩] w fun e w' => e = .returned (.bool true) ∧ Below w.heap.size w w' := by
  have hb0 : Below w.heap.size w (w.alloc (wo n u k g m)) := (Below.refl _ _).alloc (Nat.le_refl _) _
  have HE := Lib.hid (hE.below hb0)
  have HL := Lib.hid (hl.below hb0)
  have HR := Lib.hid (hr.below hb0)
  have HW0 := Lib.hid (WantAt.new w n u k g m)
  have HB0 := Lib.hid hb0
  obtain ⟨hlen, hall⟩ := longAs_zero h1
  have HALL := Lib.hid hall
  have H1 := Lib.hid h1
  have H2 := Lib.hid h2
  obtain ⟨hq1, hq2⟩ := longAsk_no h2
  have HRS := Lib.hid (longR_small hq1).1
  obtain ⟨hnl, hul, hkl⟩ := longW_zero hq2
  clear hE hl hr hb0 h1 h2 hall hq1 hq2 hkl
  go_enter Tryz.func3, Tryz.ntmps3
  obtain ⟨W0, hW0⟩ : ∃ W0, W0 = w.alloc (wo n u k g m) := ⟨_, rfl⟩
  rw [← hW0] at HE HL HR HW0 HB0
  go_wp2_with fail
  rw [← hW0]
  clear hW0
  refine (fetched_any P P2 _ HE.out).mono ?_
  rintro e w1 ⟨rfl, hb1⟩
  have HB1 := Lib.hid hb1
  obtain ⟨d0, d1, d2, d3, d4⟩ := HW0.out.below HB1.out
  clear hb1
  go_wp2_with fail
  refine (longActs_any l a ca 40 _ (HL.out.below HB1.out).lies HL.out.len HL.out.texts).mono ?_
  rintro e w2 ⟨rfl, hw2⟩
  obtain rfl : w1 = w2 := hw2.symm
  rw [H1.out]
  go_wp2_with fail
  refine (longAsk_any rl ra rc n u k g m _ (HR.out.below HB1.out).lies HR.out.len HR.out.texts).mono ?_
  rintro e w3 ⟨rfl, hb3⟩
  rw [H2.out]
  have HB3 := Lib.hid (HB1.out.trans (hb3.mono HB1.out.size))
  clear hb3 d0 d1 d2 d3 d4
  go_wp2_with fail
  refine (P.new _).mono ?_
  rintro e w4 ⟨nb, S, rfl, hn, hs, hb4⟩
  have I4 : Hid (InN NA W0 w4 nb S Ns.none) := ⟨HB3.out.trans (hb4.mono HB3.out.size), hn, fun b hb => Nat.le_trans HB3.out.size (hs b hb)⟩
  clear hn hs hb4
  go_wp2_with fail
  refine (P2.new _ 5).mono ?_
  rintro e w5 ⟨hb, Sh, Rh, rfl, hh5, hs5, hb5⟩
  have I5 : Hid (InF NA HA W0 w5 nb hb S Sh Rh Ns.none (Hs.none (mostH 5))) := InF.new P.acts I4.out hh5 hs5 hb5 (OkH.zero 5)
  clear hh5 hs5 hb5 I4
  have ST := Lib.hid (heldStill P2 hb Sh Rh (Hs.none (mostH 5)))
  have HB0' : Hid (Both (WithQ NA (fun W => HA W hb Sh Rh (Hs.none (mostH 5))) (fun b => Sh b ∨ Rh b)) W0 (w5.alloc (.cells #[.slice none 0 0, .slice none 0 0, .int .i64 0] 37)) nb w5.heap.size (fun b => S b ∨ (Sh b ∨ Rh b)) (.slice none 0 0) (.slice none 0 0) Ns.none Ns.none) := by
    have hbq : Below w5.heap.size w5 (w5.alloc (.cells #[.slice none 0 0, .slice none 0 0, .int .i64 0] 37)) := (Below.refl _ _).alloc (Nat.le_refl _) _
    have i := I5.out.quiet P.acts P2 hbq
    have hz := I5.out.net.below.size
    refine ⟨i.net.below, ⟨S, i.net.net, i.held.held, fun _ => Iff.rfl, i.apart⟩, ref_new w5, fun b h => h.elim (i.net.base b) (i.held.base b), hz, fun h => ?_, fun g h => by simp [Value.ownBlock] at h, fun g h => by simp [Value.ownBlock] at h⟩
    rcases h with h | h
    · have := P.lt I5.out.net.net _ h; omega
    · have := P2.lt I5.out.held.held _ h; omega
  go_wp2_with fail
  generalize w5.alloc (.cells #[.slice none 0 0, .slice none 0 0, .int .i64 0] 37) = w6 at HB0' ⊢
  generalize w5.heap.size = mb at HB0' ⊢
  clear I5
  go_loopw [11] (fun i wr => ∃ (q : Nat) (S' : Nat → Prop) (vL vO : Value) (s : Ns), q ≤ l.length ∧ i = .int .i64 q ∧ Both (WithQ NA (fun W => HA W hb Sh Rh (Hs.none (mostH 5))) (fun b => Sh b ∨ Rh b)) W0 wr nb mb S' vL vO s s ∧ s.l.length ≤ q ∧ s.off.length ≤ q ∧ s.calls ≤ q ∧ (∀ x ∈ s.l, x.t.length ≤ 90000)) (fun i _ => l.length - (intOf i).toNat)
  case atStart => exact ⟨0, _, _, _, Ns.none, by omega, rfl, HB0'.out, by simp [Ns.none], by simp [Ns.none], by simp [Ns.none], by simp [Ns.none]⟩
  case round =>
    obtain ⟨q, S', vL, vO, s, hq, rfl, hboth, r1, r2, r3, r4⟩ := hrel
    have HBo := Lib.hid hboth
    have HTX := Lib.hid r4
    clear hboth r4 HB0'
    by_cases hlt : q < l.length
    · have hlt' : (q : Int) < (l.length : Int) := by omega
      obtain ⟨b, o, hbb, k0, k1, k2, k3, k4⟩ := (HL.out.below HBo.out.below).lies.at hlt
      obtain ⟨x1, x2⟩ := HALL.out _ (List.getElem_mem hlt)
      subst hbb
      generalize l[q] = x at *
      go_wp2_with fail
      refine (do_any (withQ P.acts ST.out) W0 wr nb mb S' vL vO s x HE.out.net HBo.out (by omega) (by omega) (by omega) (by omega) (by omega)).mono ?_
      rintro e w7 ⟨rfl, S5, vL5, vO5, hb5⟩
      have HB5 := Lib.hid hb5
      obtain ⟨y1, y2, y3⟩ := act_bounds s x
      have HTY := Lib.hid (act_texts (a := x) HTX.out (by omega))
      clear hb5 k0 k1 k2 k3 k4
      generalize actN s x = s5 at *
      go_wp2
      go_roundw
      case rel => exact ⟨q + 1, S5, vL5, vO5, s5, by omega, by go_num, HB5.out, by omega, by omega, by omega, HTY.out⟩
      case measure => simp [intOf]; omega
    · have hge : ¬ ((q : Int) < (l.length : Int)) := by omega
      obtain ⟨S0, hp1, hp2, hp3, hp4⟩ := HBo.out.prog
      have I6 : Hid (InF NA HA W0 wr nb hb S0 Sh Rh s (Hs.none (mostH 5))) := ⟨⟨HBo.out.below, hp1, fun b h => HBo.out.base b ((hp3 b).2 (.inl h))⟩, ⟨HBo.out.below, hp2, fun b h => HBo.out.base b ((hp3 b).2 (.inr h)), OkH.zero 5⟩, hp4⟩
      have hcalls : s.calls ≤ 40 := by omega
      obtain ⟨e0, e1, e2, e3, e4⟩ := HW0.out.below HBo.out.below
      clear hp1 hp2 hp3 hp4 HBo ST r1 r2 r3
      by_cases hask : (askF (rl.map Ru.q) ⟨n, u, k, g, m⟩).1 = 0
      · have HASK := Lib.hid hask
        have hff := fetch_first (l := rl.map Ru.q) (x := ⟨n, u, k, g, m⟩) (s := s) (m := mostH 5) (by decide)
        have hsame := fetch_same (l := rl.map Ru.q) (x := ⟨n, u, k, g, m⟩) (h := Hs.none (mostH 5)) (s := s)
        obtain ⟨r, hr⟩ : ∃ y, fetchF (rl.map Ru.q) ⟨n, u, k, g, m⟩ (Hs.none (mostH 5)) s = y := ⟨_, rfl⟩
        rw [hr] at hff hsame
        have HFR := Lib.hid hr
        have HFF := Lib.hid hff
        have HSM := Lib.hid hsame
        clear hask hr hff hsame
        go_wp2_with fail
        refine (fetchFetch_good P.acts P2 nb hb S0 Sh Rh s _ rl ra rc n u k g m W0 _ I6.out HE.out (by omega) HTX.out (HR.out.below I6.out.net.below).lies HRS.out (by omega) (by omega) HASK.out).mono ?_
        rw [HFR.out]
        obtain ⟨h7, s7, T, ls, c, i7⟩ := r
        rintro e w7 ⟨a7, c7, al, cl, S7, Sh7, Rh7, rfl, q1, q2, q3, q4, q5, q6⟩
        simp only at q1 q2 q3 q4 q5 q6 HFF HSM
        have I7 := Lib.hid q6.both
        have HT7 := Lib.hid q1
        have HA7 := Lib.hid q4
        have hw7 := HW0.out.below I7.out.net.below
        clear q1 q3 q4 q5 q6 e0 e1 e2 e3 e4 HFR I6
        cases c with
        | succ c =>
          obtain ⟨hT, hL⟩ := HFF.out.1 (by simp)
          have HLL := Lib.hid hL
          subst hT
          rw [errV_some p (Nat.succ_ne_zero c)]
          clear hL hw7
          go_wp2_with fail
          refine (P2.sums _ hb Sh7 Rh7 h7 I7.out.held.held I7.out.held.ok).mono ?_
          rintro e w8 ⟨⟨z, rfl, ho⟩, hb8⟩
          rw [HLL.out] at ho
          obtain ⟨az, cz, rfl, _, _, _, _⟩ := ints_of_row (l := []) ho
          have I8 := Lib.hid (I7.out.quiet P.acts P2 hb8)
          clear ho hb8
          go_wp2
          go_ret
          exact ⟨rfl, HB0.out.trans (I8.out.net.below.mono HB0.out.size)⟩
        | zero =>
          obtain ⟨ht, hsum, hls, hl7, _⟩ := HFF.out.2 rfl
          obtain ⟨N, hN⟩ : ∃ N, sumT T = N := ⟨_, rfl⟩
          rw [hN] at hsum hl7
          have HN := Lib.hid hN
          have HL7 := Lib.hid hl7
          have HFT := Lib.hid (treeFault_zero ht)
          have HST := Lib.hid (tree_small ht)
          have hsz : T.length ≤ 100000 := by have := (tree_small ht).few; omega
          have hlz : ((ls.length : Int) == 0) = false := by
            have := List.length_pos_iff.2 hls
            simp
            omega
          have HAG := Lib.hid (fetch_again (l := rl.map Ru.q) (x := ⟨n, u, k, g, m⟩) (h := h7) (s := s7) (t := T) HASK.out (by rw [hl7, hN]) (by rw [hN]; exact hsum))
          subst hsum
          rw [errV_zero]
          clear hN hl7 ht hls HFF
          obtain ⟨f0, f1, f2, f3, f4⟩ := hw7
          go_wp2_with fail
          refine (packSum_any p T a7 c7 _ (HE.out.below I7.out.net.below).env (HE.out.below I7.out.net.below).sum HT7.out q2 HST.out).mono ?_
          rintro e w8 ⟨⟨v, rfl, hv⟩, hb8⟩
          rw [HFT.out] at hv
          obtain rfl := hv.isNil
          rw [HN.out]
          have I8 := Lib.hid (I7.out.quiet P.acts P2 hb8)
          have HT8 := Lib.hid (HT7.out.below hb8)
          have HW8 := Lib.hid (HW0.out.below I8.out.net.below)
          clear hv hb8 f0 f1 f2 f3 f4 I7 HT7
          obtain ⟨f0, f1, f2, f3, f4⟩ := HW8.out
          go_wp2_with fail
          refine (P2.sums _ hb Sh7 Rh7 h7 I8.out.held.held I8.out.held.ok).mono ?_
          rintro e w9 ⟨⟨z, rfl, ho⟩, hb9⟩
          rw [HL7.out] at ho
          obtain ⟨az, cz, rfl, hz, _, _, _⟩ := ints_of_row (l := [(N : Int)]) ho
          have I9 := Lib.hid (I8.out.quiet P.acts P2 hb9)
          have HT9 := Lib.hid (HT8.out.below hb9)
          have HZ9 := Lib.hid hz
          clear ho hb9 hz f0 f1 f2 f3 f4 I8 HT8 HW8
          go_wp2_with fail
          have hba : Below w9.heap.size w9 (w9.alloc (.cells #[.int .i64 (N : Int)] 3)) := (Below.refl _ _).alloc (Nat.le_refl _) _
          refine (sameInts_len [(N : Int)] [(N : Int)] az (some ⟨w9.heap.size, 0, none⟩) 1 1 cz 1 _ rfl rfl (HZ9.out.below hba) (one_int w9 N _) (by omega) (by omega)).mono ?_
          rintro e w10 ⟨rfl, hb10⟩
          rw [decide_eq_true rfl]
          have I10 := Lib.hid ((I9.out.quiet P.acts P2 hba).quiet P.acts P2 hb10)
          have HT10 := Lib.hid ((HT9.out.below hba).below hb10)
          clear hba hb10 I9 HT9 HZ9
          go_wp2_with fail
          refine (P.calls _ nb S7 s7 I10.out.net.net).mono ?_
          rintro e w11 ⟨rfl, hb11⟩
          have I11 := Lib.hid (I10.out.quiet P.acts P2 hb11)
          have HT11 := Lib.hid (HT10.out.below hb11)
          have hs7 := HSM.out.2.2
          obtain ⟨f0, f1, f2, f3, f4⟩ := HW0.out.below I11.out.net.below
          clear hb11 I10 HT10
          go_wp2_with fail
          refine (fetchFetch_good P.acts P2 nb hb S7 Sh7 Rh7 s7 h7 rl ra rc n u k g (N : Int) W0 _ I11.out HE.out (by omega) (by rw [HSM.out.1]; exact HTX.out) (HR.out.below I11.out.net.below).lies HRS.out (by omega) (by omega) HASK.out).mono ?_
          rw [HAG.out]
          rintro e w12 ⟨a12, c12, al2, cl2, S12, Sh12, Rh12, rfl, q1, q3, q4, q5, q6, q7⟩
          simp only at q1 q3 q4 q5 q6 q7
          have I12 := Lib.hid q7.both
          have HT12 := Lib.hid (lies_left HT11.out q7.kept HA7.out)
          have HY12 := Lib.hid q1
          obtain ⟨at2, ct2, hve, htt, _, _⟩ := texts_of_owns q6
          have hva : al2 = at2 := by
            simp only [Value.slice.injEq] at hve
            exact hve.1
          subst hva
          have HX12 := Lib.hid htt
          rw [errV_zero]
          clear q1 q4 q5 q6 q7 htt f0 f1 f2 f3 f4 I11 HT11 HA7
          go_wp2_with fail
          refine ((same_any T T a7 a12 c7 c12 _ HT12.out HY12.out hsz hsz).mono (fun e w' (h : _ ∧ _) => (⟨h.1.trans (by simp), h.2⟩ : e = .returned (.bool true) ∧ Below _ _ w'))).mono ?_
          rintro e w13 ⟨rfl, hb13⟩
          have I13 := Lib.hid (I12.out.quiet P.acts P2 hb13)
          have HX13 := Lib.hid (HX12.out.below hb13)
          clear hb13 I12 HX12 HT12 HY12
          go_wp2_with fail
          refine (P.calls _ nb S12 s7 I13.out.net.net).mono ?_
          rintro e w14 ⟨rfl, hb14⟩
          have I14 := Lib.hid (I13.out.quiet P.acts P2 hb14)
          have HX14 := Lib.hid (HX13.out.below hb14)
          clear hb14 I13 HX13
          go_wp2_with fail
          have hbc : Below w14.heap.size w14 (w14.alloc (.cells #[sv [104, 101, 108, 100]] 9)) := (Below.refl _ _).alloc (Nat.le_refl _) _
          refine (sameTexts_at heldF [[104, 101, 108, 100]] al2 (some ⟨w14.heap.size, 0, none⟩) cl2 1 _ (HX14.out.below hbc) (line_texts w14 [104, 101, 108, 100]) (by decide) (by decide)).mono ?_
          rintro e w15 ⟨rfl, hb15⟩
          have I15 := Lib.hid ((I14.out.quiet P.acts P2 hbc).quiet P.acts P2 hb15)
          rw [show decide (heldF = [[104, 101, 108, 100]]) = true from by decide]
          clear hbc hb15 I14 HX14
          go_wp2
          go_ret
          exact ⟨rfl, HB0.out.trans (I15.out.net.below.mono HB0.out.size)⟩
      · have HBAD := Lib.hid hask
        clear hask
        go_wp2_with fail
        refine (fetchFetch_bad p hb nb rl ra rc n u k g m _ (HE.out.below I6.out.net.below) (HR.out.below I6.out.net.below).lies HRS.out (by omega) (by omega) HBAD.out).mono ?_
        rintro e w7 ⟨⟨v, rfl, hv⟩, hb7⟩
        obtain ⟨T, y, rfl⟩ := hv.some HBAD.out
        have I7 := Lib.hid (I6.out.quiet P.acts P2 hb7)
        clear hv hb7 e0 e1 e2 e3 e4
        go_wp2_with fail
        refine (P2.sums _ hb Sh Rh _ I7.out.held.held I7.out.held.ok).mono ?_
        rintro e w8 ⟨⟨z, rfl, ho⟩, hb8⟩
        obtain ⟨az, cz, rfl, _, _, _, _⟩ := ints_of_row ho
        have I8 := Lib.hid (I7.out.quiet P.acts P2 hb8)
        clear ho hb8
        go_wp2
        go_ret
        exact ⟨rfl, HB0.out.trans (I8.out.net.below.mono HB0.out.size)⟩
end Go.Proofs.YtaegcoidpjcbaaaGreatDoor
