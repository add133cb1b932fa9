/-
  Own texts of the proof, joined by program: PkOpen, PkWantOpen, PkWantRight.
-/
import Derived.Test.YtmcfkoenpikldaaGreatDoorPkTimesPkEachPkSize
import Derived.Test.YtmcfkoenpikldaaGreatDoorWrittenWrittenByte
import Derived.Defers
import Derived.Recover
import Derived.Test.YtmcfkoenpikldaaGreatDoorPkWantPkWantText
import Derived.Test.YtmcfkoenpikldaaGreatDoorToldPkPackRead
import Derived.Test.YtmcfkoenpikldaaGreatDoorPkMakePkPackMakePkPackSum
import Derived.Test.YtmcfkoenpikldaaGreatDoorPkUnderPkStrip
import Derived.Test.YtmcfkoenpikldaaGreatDoorLawTreeCame
/-
  Package press: room, Open: contracts, over this seat's translation.
-/
namespace Go.Proofs.YtmcfkoenpikldaaGreatDoor
open Go.RowKit Go.Shelf

theorem Built.keep {B b : Nat} {l : List UInt8} {w w' : World} (h : Built B b l w) (hk : ∀ g, B ≤ g → g < w.heap.size → w'.heap[g]? = w.heap[g]?) : Built B b l w' := by
  have go : ∀ q, Lib.BuilderAtF 148 5 B b q (Lib.byteCells l) w → Lib.BuilderAtF 148 5 B b q (Lib.byteCells l) w' := by
    rintro q ⟨h1, v, h2, h3, h4⟩
    refine ⟨h1, v, (hk b h1 (Array.getElem?_eq_some_iff.1 h2).1).trans h2, ⟨h3.1, ?_⟩, h4⟩
    rcases h3.2 with h0 | ⟨g, cap, cur, fz, hv, hg, hh, r⟩
    · exact .inl h0
    · exact .inr ⟨g, cap, cur, fz, hv, hg, (hk g hg (Array.getElem?_eq_some_iff.1 hh).1).trans hh, r⟩
  exact h.imp (go _) (go _)

/-- The deferred function of room, of a frame that returns: nothing is recovered. -/
theorem room_idle (p : Addr) (v : Value) (w : World) (hc : w.cell? p = some v) (hz : w.frozen? p = false) :
    CallsD Tryz.prog 322 #[.pointer (some p)] .returning w fun e u' w' => e = .returned (.tuple #[]) ∧ u' = .returning ∧ w' = w.setCell p (.bool true) := by
  refine callsD_of_wpS Tryz.func322 rfl fun c₀ cs hu => ?_
  apply wpS_region
  simp [wpOpsS, go_sem, recoverD, hu, Tryz.ntmps322, hc, hz, bodyPostS, results, Tryz.results322]
  cases c₀
  simp_all

set_option maxRecDepth 100000 in
theorem room_any (n : Nat) (w : World) (hn : n ≤ 281474976710656) :
    Calls Tryz.prog 307 #[.int .i64 n] w fun e w' => e = .returned (.tuple #[.pointer (some ⟨w.heap.size + 1, 0, none⟩), .bool true]) ∧ Built (w.heap.size + 1) (w.heap.size + 1) [] w' ∧ Below w.heap.size w w' := by
  have hmf : ∀ (fn : Fn) (first cap : Array Value) (w : World), (Instr.makeFunc fn first cap).run Tryz.prog w = .ok (.func fn first cap) w := fun _ _ _ _ => rfl
  go_enter_defers Tryz.func307, Tryz.ntmps307
  go_wp2_with fail
  have hsz : (w.alloc (.cells #[.bool false] 4)).heap.size = w.heap.size + 1 := by simp
  have hbk : ((w.alloc (.cells #[.bool false] 4)).alloc (.cells #[.pointer none, .slice none 0 0] 148)).heap[w.heap.size + 1]? = some (.cells #[.pointer none, .slice none 0 0] 148 (0, 0)) := by
    have := heap_new (w.alloc (.cells #[.bool false] 4)) (.cells #[.pointer none, .slice none 0 0] 148)
    rw [hsz] at this
    exact this
  refine (built_grow (w.heap.size + 1) n _ hbk hn).mono ?_
  rintro e w1 ⟨rfl, hk, hb⟩
  have hb' : Below (w.heap.size + 1) (w.alloc (.cells #[.bool false] 4)) w1 := ((Below.refl _ _).alloc (by simp) _).trans hb
  have hone : w1.heap[w.heap.size]? = some (.cells #[.bool false] 4 (0, 0)) := (hb'.block w.heap.size (Nat.lt_succ_self _)).trans (heap_new w _)
  have HB := Lib.hid (((Below.refl _ w).alloc (Nat.le_refl _) (.cells #[.bool false] 4)).trans (hb'.mono (Nat.le_succ _)))
  have HK := Lib.hid hk
  have HO := Lib.hid hone
  have hc := cell_of_one hone
  have hz := free_of_one hone
  clear hb hb' hk hone hbk
  go_wp2
  have ho2 := one_setCell (u := .bool true) HO.out
  have hc2 := cell_of_one ho2
  have hz2 := free_of_one ho2
  have ho3 := one_setCell (u := .bool true) ho2
  have hc3 := cell_of_one ho3
  refine leaves_cons (f := 322) (args := #[.pointer (some ⟨w.heap.size, 0, none⟩)]) (by simp) (by simp [go_sem]) ?_
  refine (room_idle ⟨w.heap.size, 0, none⟩ (.bool true) _ hc2 hz2).mono ?_
  rintro e u' w'' ⟨rfl, rfl, rfl⟩
  have hfin : Built (w.heap.size + 1) (w.heap.size + 1) [] ((w1.setCell ⟨w.heap.size, 0, none⟩ (.bool true)).setCell ⟨w.heap.size, 0, none⟩ (.bool true)) ∧ Below w.heap.size w ((w1.setCell ⟨w.heap.size, 0, none⟩ (.bool true)).setCell ⟨w.heap.size, 0, none⟩ (.bool true)) := by
    refine ⟨HK.out.keep fun g hg _ => ?_, (HB.out.setCell (Nat.le_refl _) _).setCell (Nat.le_refl _) _⟩
    exact (Below.heap_setCell _ _ _ _ (by show g ≠ w.heap.size; omega)).trans (Below.heap_setCell _ _ _ _ (by show g ≠ w.heap.size; omega))
  generalize (w1.setCell ⟨w.heap.size, 0, none⟩ (.bool true)).setCell ⟨w.heap.size, 0, none⟩ (.bool true) = W at hc3 hfin ⊢
  simp [Leaves, settle, results, Tryz.results307, go_sem, hc3, hfin]

theorem openHand_any (B bb bx n : Nat) (b : UInt8) (l : List UInt8) (w : World) (h : Built B bb l w) (hB : B ≤ bb) (hl : l.length + n ≤ 140737488355328) (hn : n ≤ 999999999)
    (hbx : w.heap[bx]? = some (.cells #[.pointer (some ⟨bb, 0, none⟩)] 145 (0, 0))) (hne : bx ≠ bb) :
    Calls Tryz.prog 309 #[.int .i64 n, .int .u8 b.toNat, .pointer (some ⟨bx, 0, none⟩)] w fun e w' => e = .returned (.tuple #[]) ∧ Built B bb (l ++ List.replicate n b) w' ∧ Below B w w' ∧ w'.heap[bx]? = some (.cells #[.pointer (some ⟨bb, 0, none⟩)] 145 (0, 0)) := by
  have HK := Lib.hid h
  have HX := Lib.hid hbx
  have hBw : B ≤ w.heap.size := Nat.le_trans hB (Nat.le_of_lt h.lt)
  clear h hbx
  go_enter Tryz.func309, Tryz.ntmps309
  go_wp2_with fail
  go_loopw [6] (fun iv wr => ∃ i : Nat, i ≤ n ∧ iv = .int .i64 (i : Int) ∧ Built B bb (l ++ List.replicate i b) wr ∧ Below B w wr ∧ wr.heap[bx]? = some (.cells #[.pointer (some ⟨bb, 0, none⟩)] 145 (0, 0))) (fun iv _ => n - (intOf iv).toNat)
  case atStart => exact ⟨0, by omega, rfl, by simpa using HK.out, Below.refl _ _, HX.out⟩
  case round =>
    obtain ⟨i, hi, rfl, hk, hb, hx⟩ := hrel
    have HK1 := Lib.hid hk
    have HB1 := Lib.hid hb
    have HX1 := Lib.hid hx
    have hc := cell_of_one hx
    clear hk hb hx
    by_cases hlt : i < n
    · have hlt' : (i : Int) < (n : Int) := by omega
      go_wp2_with fail
      refine (built_byte B bb _ b _ HK1.out (by simp; omega) (Nat.le_trans hBw HB1.out.size)).mono ?_
      rintro e w2 ⟨rfl, hk2, hb2, ho2⟩
      have HX2 := Lib.hid (ho2 bx _ HX1.out (fun e => hne (Option.some.inj e)) (fun c' fz' e => by cases e))
      have HK2 := Lib.hid hk2
      have HB2 := Lib.hid (HB1.out.trans hb2)
      clear hk2 hb2 ho2 hc
      go_wp2
      go_roundw
      case rel =>
        refine ⟨i + 1, by omega, by go_num, ?_, HB2.out, HX2.out⟩
        rw [List.replicate_succ', ← List.append_assoc]
        exact HK2.out
      case measure => simp [intOf]; omega
    · obtain rfl : i = n := by omega
      go_wp2
      go_end0
      exact ⟨rfl, HK1.out, HB1.out, HX1.out⟩

set_option maxRecDepth 100000 in
set_option maxHeartbeats 2000000 in
theorem open_any (p : Nat → Addr) (s : List UInt8) (most : Int) (w : World) (hs : s.length ≤ 1000000000) (hm : most ≤ 140737488355328) (hE : Env p w) :
    Calls Tryz.prog 286 #[.string ⟨s.toArray⟩, .int .i64 most] w fun e w' => ∃ v, e = .returned (.tuple #[.string ⟨(openS s most).1.toArray⟩, v]) ∧ ErrAt p w' v (openS s most).2.1 (openS s most).2.2 ∧ Below w.heap.size w w' := by
  have eg : ∀ args w, (callFunc 309 args).run Tryz.prog w = .ok (.enter 309 args) w := enters_of Tryz.func309 (by kernel_rfl) rfl
  have hmf : ∀ (fn : Fn) (first cap : Array Value) (w : World), (Instr.makeFunc fn first cap).run Tryz.prog w = .ok (.func fn first cap) w := fun _ _ _ _ => rfl
  have HE := Lib.hid hE
  have HE0 : Hid (∀ W, Below w.heap.size w W → Env p W) := fun _ h => hE.below h
  clear hE
  go_enter Tryz.func286, Tryz.ntmps286
  go_wp2_with fail
  refine (size_any p s _ hs HE.out).mono ?_
  rintro e w1 ⟨v, rfl, hv, hb1⟩
  have HB1 := Lib.hid hb1
  have HE1 := Lib.hid (HE.out.below hb1)
  clear hb1 HE
  cases hr : (readL s).2 with
  | some k =>
    have HO := Lib.hid (openS_some most hr)
    rw [hr] at hv
    obtain ⟨T, u, rfl⟩ := hv.some (by simp [placeE])
    have HV := Lib.hid hv
    clear hr hv
    go_wp2
    go_ret2
    exact ⟨_, by rw [HO.out]; rfl, by rw [HO.out]; exact HV.out, HB1.out⟩
  | none =>
    have HR := Lib.hid hr
    rw [runsS_none hr]
    rw [hr] at hv
    obtain rfl := hv.isNil
    clear hv
    by_cases hfull : most < (sizeL (readL s).1 : Int)
    · have HO := Lib.hid (openS_full hr hfull)
      have g7 := HE1.out.s7
      clear hr
      go_wp2_with fail
      go_quiet (fail)
      go_wp2
      go_ret2
      exact ⟨_, by rw [HO.out]; rfl, by rw [HO.out]; exact .inr (.inl ⟨7, rfl, by decide, rfl, rfl⟩), below_drewN HB1.out _⟩
    · have HO := Lib.hid (openS_fine hr hfull)
      have hfull' : ¬ most < (sizeL (readL s).1 : Int) := hfull
      clear hr
      go_wp2_with fail
      refine (room_any (sizeL (readL s).1) _ (by omega)).mono ?_
      rintro e w2 ⟨rfl, hk2, hb2⟩
      have hsz2 : w1.heap.size + 1 < w2.heap.size := hk2.lt
      have HK2 := Lib.hid hk2
      have HB2 := Lib.hid hb2
      clear hk2 hb2
      go_wp2_with fail
      obtain ⟨W0, hW0⟩ : ∃ W0, W0 = w2.alloc (.cells #[.pointer (some ⟨w1.heap.size + 1, 0, none⟩)] 145) := ⟨_, rfl⟩
      have hx0 : W0.heap[w2.heap.size]? = some (.cells #[.pointer (some ⟨w1.heap.size + 1, 0, none⟩)] 145 (0, 0)) := by rw [hW0]; exact heap_new _ _
      have hB0 : Below w2.heap.size w2 W0 := by rw [hW0]; exact (Below.refl _ _).alloc (Nat.le_refl _) _
      have hK0 := HK2.out.below hB0
      have hBw : Below w.heap.size w W0 := HB1.out.trans ((HB2.out.trans (hB0.mono HB2.out.size)).mono HB1.out.size)
      rw [← hW0]
      have hne : w2.heap.size ≠ w1.heap.size + 1 := by omega
      clear hW0 hB0 HK2 HB2
      have hws := HB1.out.size
      refine (eachPressed_any p s 309 #[.pointer (some ⟨w2.heap.size, 0, none⟩)] eg (fun d W => Built (w1.heap.size + 1) (w1.heap.size + 1) (openL d) W ∧ Below w.heap.size w W ∧ W.heap[w2.heap.size]? = some (.cells #[.pointer (some ⟨w1.heap.size + 1, 0, none⟩)] 145 (0, 0))) _ hs ⟨hK0, hBw, hx0⟩ (fun d W h => ?_) ?_).mono ?_
      · exact HE0.out _ h.2.1
      · rintro d n b tl W hp ⟨hk, hb, hx⟩
        obtain ⟨h1, h2, h3⟩ := read_prefix hp hs
        refine (openHand_any (w1.heap.size + 1) (w1.heap.size + 1) w2.heap.size n b (openL d) W hk (Nat.le_refl _) (by rw [openL_length]; omega) h2 hx hne).mono ?_
        rintro e W' ⟨rfl, hk', hb', hx'⟩
        exact ⟨rfl, by rw [openL_snoc]; exact hk', hb.trans (hb'.mono (by omega)), hx'⟩
      rintro e w3 ⟨v, w4, rfl, ⟨hk, hb, hx⟩, hb3, hv⟩
      rw [HR.out] at hv
      obtain rfl := hv.isNil
      have hx3 := (hb3.block w2.heap.size (Array.getElem?_eq_some_iff.1 hx).1).trans hx
      have HK3 := Lib.hid (hk.below hb3)
      have HB3 := Lib.hid (hb.trans (hb3.mono hb.size))
      have hc := cell_of_one hx3
      clear hk hb hx hb3 hv hx3 hx0 hK0 hBw
      go_wp2_with fail
      refine (built_string (w1.heap.size + 1) (w1.heap.size + 1) _ _ HK3.out (Nat.le_of_lt HK3.out.lt)).mono ?_
      rintro e w5 ⟨rfl, hb5⟩
      have HB5 := Lib.hid (HB3.out.trans (hb5.mono (by omega)))
      clear hb5
      go_wp2
      go_ret2
      exact ⟨_, by rw [HO.out]; rfl, by rw [HO.out]; exact ErrAt.fine p _, HB5.out⟩
end Go.Proofs.YtmcfkoenpikldaaGreatDoor
/-
  Package want: openPlain, openPack, openPress, Open, Right: contracts, over this seat's translation.
-/
namespace Go.Proofs.YtmcfkoenpikldaaGreatDoor
open Go.RowKit Go.Shelf

/-- What a call tells that makes a tree, its error bare: the files, and an error's number. -/
def ToldB (p : Nat → Addr) (w : World) (e : Ending) (r : List F × Nat) : Prop :=
  ∃ a c, e = .returned (.tuple #[.slice a r.1.length c, errV p r.2]) ∧ LiesAt w a r.1 ∧ r.1.length ≤ c
theorem toldB_none (p : Nat → Addr) (w : World) (c : Nat) : ToldB p w (.returned (.tuple #[.slice none 0 0, errV p c])) ([], c) :=
  ⟨none, 0, rfl, fun h => absurd rfl h, Nat.le_refl _⟩
theorem toldB_open {f : Nat} {args : Array Value} {p : Nat → Addr} {W : World} {r : List F × Nat} {T : List F} {c : Nat} (h : Calls Tryz.prog f args W fun e w' => ToldB p w' e r ∧ Below W.heap.size W w') (hr : r = (T, c)) :
    Calls Tryz.prog f args W fun e w' => (∃ a ca, e = .returned (.tuple #[.slice a T.length ca, errV p c]) ∧ LiesAt w' a T ∧ T.length ≤ ca) ∧ Below W.heap.size W w' := by
  subst hr
  exact h

/-- The same, in memory that is new. -/
def ToldBN (p : Nat → Addr) (B : Nat) (w : World) (e : Ending) (r : List F × Nat) : Prop :=
  ∃ a c, e = .returned (.tuple #[.slice a r.1.length c, errV p r.2]) ∧ LiesAt w a r.1 ∧ r.1.length ≤ c ∧ NewL B a c r.1
theorem ToldBN.told {p : Nat → Addr} {B : Nat} {w : World} {e : Ending} {r : List F × Nat} (h : ToldBN p B w e r) : ToldB p w e r := by
  obtain ⟨a, c, h1, h2, h3, _⟩ := h
  exact ⟨a, c, h1, h2, h3⟩
theorem toldBN_open {f : Nat} {args : Array Value} {p : Nat → Addr} {B : Nat} {W : World} {r : List F × Nat} {T : List F} {c : Nat} (h : Calls Tryz.prog f args W fun e w' => ToldBN p B w' e r ∧ Below W.heap.size W w') (hr : r = (T, c)) :
    Calls Tryz.prog f args W fun e w' => (∃ a ca, e = .returned (.tuple #[.slice a T.length ca, errV p c]) ∧ LiesAt w' a T ∧ T.length ≤ ca ∧ NewL B a ca T) ∧ Below W.heap.size W w' := by
  subst hr
  exact h
/-- What a call told, at its end, in memory that is new. -/
theorem toldN_end {p : Nat → Addr} {B : Nat} {w : World} {a : Option Addr} {ca c : Nat} {v : Value} {i : Int} {l : List F} {r : List F × Nat × Int} (hr : r = (l, c, i)) (hl : LiesAt w a l) (hc : l.length ≤ ca) (hv : ErrAt p w v c i) (hn : NewL B a ca l) : ToldN p B w (.returned (.tuple #[.slice a l.length ca, v])) r := by
  subst hr
  exact ⟨a, ca, v, rfl, hl, hc, hv, hn⟩
/-- What a call told, at its end. -/
theorem told_end {p : Nat → Addr} {w : World} {a : Option Addr} {ca c : Nat} {v : Value} {i : Int} {l : List F} {r : List F × Nat × Int} (hr : r = (l, c, i)) (hl : LiesAt w a l) (hc : l.length ≤ ca) (hv : ErrAt p w v c i) : Told p w (.returned (.tuple #[.slice a l.length ca, v])) r := by
  subst hr
  exact ⟨a, ca, v, rfl, hl, hc, hv⟩

theorem packT_bad {n : Int} {s : List UInt8} {c : Nat} {i : Int} (h : readP s = ([], c, i)) (hc : c ≠ 0) : packT n s = ([], c, i) := by unfold packT; rw [h, if_pos hc]
theorem packT_fine {n : Int} {s : List UInt8} {r : List F} (h : readP s = (r, 0, -1)) : packT n s = stripT r n := by unfold packT; rw [h, if_neg (by simp)]

set_option maxRecDepth 100000 in
set_option maxHeartbeats 2000000 in
theorem openPack_any (p : Nat → Addr) (n u k : List UInt8) (g m : Int) (s : List UInt8) (w : World) (hE : WEnv p w) (hs : s.length ≤ 90000) :
    Calls Tryz.prog 261 #[wv ⟨n, u, k, g, m⟩, .string ⟨s.toArray⟩] w fun e w' => ToldN p w.heap.size w' e (packT g s) ∧ Below w.heap.size w w' := by
  have HE := Lib.hid hE
  have HE0 : Hid (WEnv p (w.alloc (wo n u k g m))) := hE.below ((Below.refl _ _).alloc (Nat.le_refl _) _)
  clear hE
  rcases readP_cases s with ⟨r, hr, hrs, hrt⟩ | ⟨c, i, hr, hc⟩
  · have HR := Lib.hid hr
    have HT := Lib.hid (packT_fine (n := g) hr)
    have HS := Lib.hid (tree_small hrt)
    clear hr hrs hrt
    go_enter Tryz.func261, Tryz.ntmps261
    go_wp2_with fail
    refine (packRead_any p s _ HE0.out.env HE0.out.sum hs).mono ?_
    rintro e w1 ⟨ht, hb1⟩
    obtain ⟨a, ca, rfl, hl, hca⟩ := ht.fine HR.out
    obtain ⟨hw1, hB1⟩ := want_box hb1
    have HL := Lib.hid hl
    have HB1 := Lib.hid hB1
    have HE1 := Lib.hid (HE.out.below hB1)
    obtain ⟨c0, c1, c2, c3, c4⟩ := hw1
    clear ht hl hb1 hB1 HE0
    go_wp2_with fail
    refine (stripTree_new p r a ca g _ HE1.out.env HL.out hca HS.out).mono ?_
    rintro e w2 ⟨ht2, hb2⟩
    obtain ⟨⟨T, c, i⟩, hr2⟩ : ∃ y, stripT r g = y := ⟨_, rfl⟩
    obtain ⟨a2, ca2, v, rfl, hl2, hc2, hv2, hn2⟩ := ht2.open hr2
    have HX := Lib.hid (toldN_end (HT.out.trans hr2) hl2 hc2 hv2 (hn2.mono HB1.out.size))
    have HB2 := Lib.hid (HB1.out.trans (hb2.mono HB1.out.size))
    clear ht2 hr2 hl2 hc2 hv2 hn2 hb2
    go_wp2
    go_ret2
    exact ⟨HX.out, HB2.out⟩
  · have HR := Lib.hid hr
    have HT := Lib.hid (packT_bad (n := g) hr hc)
    go_enter Tryz.func261, Tryz.ntmps261
    go_wp2_with fail
    refine (packRead_any p s _ HE0.out.env HE0.out.sum hs).mono ?_
    rintro e w1 ⟨ht, hb1⟩
    obtain ⟨a, ca, T, v, rfl, hv⟩ := ht.bad HR.out hc
    obtain ⟨hw1, hB1⟩ := want_box hb1
    have HV := Lib.hid hv
    have HB1 := Lib.hid hB1
    clear ht hv hb1 hB1 hw1 hr
    go_wp2
    go_ret2
    exact ⟨by rw [HT.out]; exact toldN_none HV.out, HB1.out⟩

theorem pressT_bad {n : Int} {s : List UInt8} {c : Nat} {i : Int} {t : List UInt8} (h : openS s 20000 = (t, c, i)) (hc : c ≠ 0) : pressT n s = ([], c, i) := by unfold pressT; rw [h, if_pos hc]
theorem pressT_fine {n : Int} {s t : List UInt8} {i : Int} (h : openS s 20000 = (t, 0, i)) : pressT n s = packT n t := by unfold pressT; rw [h, if_neg (by simp)]
theorem openS_short (s : List UInt8) : (openS s 20000).1.length ≤ 20000 := by
  unfold openS
  split
  · simp
  · split
    · simp
    · rename_i h1 h2
      show (openL _).length ≤ 20000
      rw [openL_length]
      omega

set_option maxRecDepth 100000 in
set_option maxHeartbeats 2000000 in
theorem openPress_any (p : Nat → Addr) (n u k : List UInt8) (g m : Int) (s : List UInt8) (w : World) (hE : WEnv p w) (hs : s.length ≤ 90000) :
    Calls Tryz.prog 262 #[wv ⟨n, u, k, g, m⟩, .string ⟨s.toArray⟩] w fun e w' => ToldN p w.heap.size w' e (pressT g s) ∧ Below w.heap.size w w' := by
  have HE := Lib.hid hE
  have HE0 : Hid (WEnv p (w.alloc (wo n u k g m))) := hE.below ((Below.refl _ _).alloc (Nat.le_refl _) _)
  have hsh := openS_short s
  clear hE
  obtain ⟨⟨t, c, i⟩, hr⟩ : ∃ y, openS s 20000 = y := ⟨_, rfl⟩
  rw [hr] at hsh
  simp only at hsh
  have HR := Lib.hid hr
  by_cases hc : c = 0
  · subst hc
    have HT := Lib.hid (pressT_fine (n := g) hr)
    clear hr
    go_enter Tryz.func262, Tryz.ntmps262
    go_wp2_with fail
    refine (open_any p s 20000 _ (by omega) (by decide) HE0.out.env).mono ?_
    rw [HR.out]
    rintro e w1 ⟨v, rfl, hv, hb1⟩
    have := hv.isNil
    subst this
    obtain ⟨hw1, hB1⟩ := want_box hb1
    have HB1 := Lib.hid hB1
    have HE1 := Lib.hid (HE.out.below hB1)
    obtain ⟨c0, c1, c2, c3, c4⟩ := hw1
    clear hv hb1 hB1 HE0
    go_wp2_with fail
    refine (openPack_any p n u k g m t _ HE1.out (by omega)).mono ?_
    rintro e w2 ⟨ht2, hb2⟩
    obtain ⟨⟨T, c, i⟩, hr2⟩ : ∃ y, packT g t = y := ⟨_, rfl⟩
    obtain ⟨a2, ca2, v, rfl, hl2, hc2, hv2, hn2⟩ := ht2.open hr2
    have HX := Lib.hid (toldN_end (HT.out.trans hr2) hl2 hc2 hv2 (hn2.mono HB1.out.size))
    have HB2 := Lib.hid (HB1.out.trans (hb2.mono HB1.out.size))
    clear ht2 hr2 hl2 hc2 hv2 hn2 hb2
    go_wp2
    go_ret2
    exact ⟨HX.out, HB2.out⟩
  · have HT := Lib.hid (pressT_bad (n := g) hr hc)
    clear hr
    go_enter Tryz.func262, Tryz.ntmps262
    go_wp2_with fail
    refine (open_any p s 20000 _ (by omega) (by decide) HE0.out.env).mono ?_
    rw [HR.out]
    rintro e w1 ⟨v, rfl, hv, hb1⟩
    obtain ⟨T, y, rfl⟩ := hv.some hc
    obtain ⟨hw1, hB1⟩ := want_box hb1
    have HV := Lib.hid hv
    have HB1 := Lib.hid hB1
    clear hv hb1 hB1 hw1
    go_wp2
    go_ret2
    exact ⟨by rw [HT.out]; exact toldN_none HV.out, HB1.out⟩

theorem one_lies (w : World) (n s : List UInt8) : LiesAt (w.alloc (.cells #[.string ⟨n.toArray⟩, .bool false, .string ⟨s.toArray⟩] 103)) (some ⟨w.heap.size, 0, none⟩) [⟨n, false, s⟩] := by
  have e := heap_new w (.cells #[.string ⟨n.toArray⟩, .bool false, .string ⟨s.toArray⟩] 103)
  generalize w.alloc (.cells #[.string ⟨n.toArray⟩, .bool false, .string ⟨s.toArray⟩] 103) = W at e ⊢
  refine fun _ => ⟨w.heap.size, 0, rfl, fun j hj => ?_⟩
  obtain rfl : j = 0 := by simp at hj; omega
  exact ⟨by simp [World.cell?, e], by simp [World.cell?, e], by simp [World.cell?, e]⟩

set_option maxRecDepth 100000 in
set_option maxHeartbeats 2000000 in
theorem openPlain_any (p : Nat → Addr) (n u k : List UInt8) (g m : Int) (s : List UInt8) (w : World) (hE : WEnv p w) (hn : n.length ≤ 40000) (hs : s.length ≤ 90000) :
    Calls Tryz.prog 260 #[wv ⟨n, u, k, g, m⟩, .string ⟨s.toArray⟩] w fun e w' => ToldN p w.heap.size w' e ((plainT ⟨n, u, k, g, m⟩ s).1, treeFault [⟨n, false, s⟩]) ∧ Below w.heap.size w w' := by
  have HE0 : Hid (WEnv p ((w.alloc (wo n u k g m)).alloc (.cells #[.string ⟨n.toArray⟩, .bool false, .string ⟨s.toArray⟩] 103))) := hE.below (((Below.refl _ _).alloc (Nat.le_refl _) _).alloc (by simp) _)
  have HB0 : Hid (Below w.heap.size w ((w.alloc (wo n u k g m)).alloc (.cells #[.string ⟨n.toArray⟩, .bool false, .string ⟨s.toArray⟩] 103))) := ((Below.refl _ _).alloc (Nat.le_refl _) _).alloc (by simp) _
  have HL : Hid (LiesAt ((w.alloc (wo n u k g m)).alloc (.cells #[.string ⟨n.toArray⟩, .bool false, .string ⟨s.toArray⟩] 103)) (some ⟨w.heap.size + 1, 0, none⟩) [⟨n, false, s⟩]) := by
    have := one_lies (w.alloc (wo n u k g m)) n s
    rwa [show (w.alloc (wo n u k g m)).heap.size = w.heap.size + 1 by simp] at this
  have HS : Hid (Small [(⟨n, false, s⟩ : F)]) := ⟨by simp, fun f hf => by simp at hf; subst hf; exact hn, fun f hf => by simp at hf; subst hf; show s.length ≤ 500000; omega⟩
  have HC : Hid (Calls Tryz.prog 159 #[.slice (some ⟨w.heap.size + 1, 0, none⟩) 1 1] ((w.alloc (wo n u k g m)).alloc (.cells #[.string ⟨n.toArray⟩, .bool false, .string ⟨s.toArray⟩] 103)) fun e w' => (∃ v, e = .returned v ∧ ErrAt p w' v (treeFault [⟨n, false, s⟩]).1 (treeFault [⟨n, false, s⟩]).2) ∧ Below ((w.alloc (wo n u k g m)).alloc (.cells #[.string ⟨n.toArray⟩, .bool false, .string ⟨s.toArray⟩] 103)).heap.size ((w.alloc (wo n u k g m)).alloc (.cells #[.string ⟨n.toArray⟩, .bool false, .string ⟨s.toArray⟩] 103)) w') := checkTree_any p [⟨n, false, s⟩] _ 1 _ HE0.out.env HL.out (by simp) HS.out
  clear hE
  go_enter Tryz.func260, Tryz.ntmps260
  go_wp2_with fail
  refine HC.out.mono ?_
  rintro e w1 ⟨⟨v, rfl, hv⟩, hb1⟩
  have HB1 := Lib.hid (HB0.out.trans (hb1.mono HB0.out.size))
  have HL1 := Lib.hid (HL.out.below hb1)
  clear hb1 HE0 HL HB0 HS HC
  by_cases hc : (treeFault [⟨n, false, s⟩]).1 = 0
  · have HF := Lib.hid (treeFault_zero hc)
    have HT : Hid (plainT ⟨n, u, k, g, m⟩ s = ([⟨n, false, s⟩], 0)) := by show plainT ⟨n, u, k, g, m⟩ s = _; unfold plainT; rw [if_pos hc]
    rw [hc] at hv
    have := hv.isNil
    subst this
    clear hv hc
    go_wp2
    go_ret2
    exact ⟨toldN_end (l := [⟨n, false, s⟩]) (by rw [HT.out, HF.out]) HL1.out (by simp) (ErrAt.fine p _) ⟨fun _ b o t e => by cases e; omega, fun e => by cases e⟩, HB1.out⟩
  · have HT : Hid (plainT ⟨n, u, k, g, m⟩ s = ([], (treeFault [⟨n, false, s⟩]).1)) := by show plainT ⟨n, u, k, g, m⟩ s = _; unfold plainT; rw [if_neg hc]
    obtain ⟨T, y, rfl⟩ := hv.some hc
    have HV := Lib.hid hv
    clear hv hc
    go_wp2
    go_ret2
    exact ⟨by rw [HT.out]; exact toldN_none HV.out, HB1.out⟩
end Go.Proofs.YtmcfkoenpikldaaGreatDoor
/-
  Package want: Open, Right: contracts, over this seat's translation.
-/
namespace Go.Proofs.YtmcfkoenpikldaaGreatDoor
open Go.RowKit Go.Shelf

theorem stripT_tree {l : List F} {n : Int} (h : (stripT l n).2.1 = 0) : (treeFault (stripT l n).1).1 = 0 := by
  unfold stripT at h ⊢
  split at h
  · rename_i h1
    exact absurd h h1
  · rename_i h1
    split at h
    · rename_i h2
      exact absurd h h2
    · rename_i h2
      rw [if_neg h1, if_neg h2, (sortT_zero h).1]
      exact (sortT_zero h).2.2
theorem packT_tree {s : List UInt8} {n : Int} (h : (packT n s).2.1 = 0) : (treeFault (packT n s).1).1 = 0 := by
  unfold packT at h ⊢
  split at h
  · rename_i h1
    exact absurd h h1
  · rename_i h1
    rw [if_neg h1]
    exact stripT_tree h
theorem pressT_tree {s : List UInt8} {n : Int} (h : (pressT n s).2.1 = 0) : (treeFault (pressT n s).1).1 = 0 := by
  unfold pressT at h ⊢
  split at h
  · rename_i h1
    exact absurd h h1
  · rename_i h1
    rw [if_neg h1]
    exact packT_tree h
/-- What is opened is a tree. -/
theorem openW_tree {x : Wt} {s : List UInt8} (h : (openW x s).2 = 0) : (treeFault (openW x s).1).1 = 0 := by
  unfold openW at h ⊢
  split at h
  · rename_i h1
    exact absurd h h1
  · rename_i h1
    rw [if_neg h1]
    split at h
    · cases h
    · rename_i h2
      rw [if_neg h2]
      split at h
      · rename_i h3
        rw [if_pos h3]
        unfold plainT at h ⊢
        split at h
        · rename_i h4
          rw [if_pos h4]
          exact h4
        · rename_i h4
          exact absurd h h4
      · rename_i h3
        rw [if_neg h3]
        split at h
        · rename_i h4
          rw [if_pos h4]
          exact packT_tree h
        · rename_i h4
          rw [if_neg h4]
          exact pressT_tree h
theorem plainT_code (x : Wt) (s : List UInt8) : plainT x s = ((plainT x s).1, (treeFault [⟨x.n, false, s⟩]).1) := by
  unfold plainT
  split
  · rename_i h
    rw [h]
  · rfl
theorem toldBN_some (p : Nat → Addr) (B : Nat) (w : World) (k : Nat) : ToldBN p B w (.returned (.tuple #[.slice none 0 0, .iface 379 (.pointer (some (p k)))])) ([], k + 1) :=
  ⟨none, 0, rfl, fun h => absurd rfl h, Nat.le_refl _, NewL.none _⟩
theorem toldBN_end {p : Nat → Addr} {B : Nat} {w : World} {a : Option Addr} {ca c : Nat} {l : List F} {r : List F × Nat} (hr : r = (l, c)) (hl : LiesAt w a l) (hc : l.length ≤ ca) (hn : NewL B a ca l) : ToldBN p B w (.returned (.tuple #[.slice a l.length ca, errV p c])) r := by
  subst hr
  exact ⟨a, ca, rfl, hl, hc, hn⟩
theorem toldB_some (p : Nat → Addr) (w : World) (k : Nat) : ToldB p w (.returned (.tuple #[.slice none 0 0, .iface 379 (.pointer (some (p k)))])) ([], k + 1) :=
  ⟨none, 0, rfl, fun h => absurd rfl h, Nat.le_refl _⟩
theorem toldB_end {p : Nat → Addr} {w : World} {a : Option Addr} {ca c : Nat} {l : List F} {r : List F × Nat} (hr : r = (l, c)) (hl : LiesAt w a l) (hc : l.length ≤ ca) : ToldB p w (.returned (.tuple #[.slice a l.length ca, errV p c])) r := by
  subst hr
  exact ⟨a, ca, rfl, hl, hc⟩

set_option maxRecDepth 100000 in
set_option maxHeartbeats 4000000 in
theorem wantOpen_new (p : Nat → Addr) (n u k : List UInt8) (g m : Int) (s : List UInt8) (w : World) (hE : WEnv p w) (hn : n.length ≤ 40000) (hu : u.length ≤ 90000) (hs : s.length ≤ 90000) :
    Calls Tryz.prog 228 #[wv ⟨n, u, k, g, m⟩, .string ⟨s.toArray⟩] w fun e w' => ToldBN p w.heap.size w' e (openW ⟨n, u, k, g, m⟩ s) ∧ Below w.heap.size w w' := by
  have HE := Lib.hid hE
  have HE0 : Hid (WEnv p (w.alloc (wo n u k g m))) := hE.below ((Below.refl _ _).alloc (Nat.le_refl _) _)
  clear hE
  go_enter Tryz.func228, Tryz.ntmps228
  go_wp2_with fail
  refine (wantCheck_any p n u k g m _ HE0.out (by omega) hu).mono ?_
  rintro e w1 ⟨rfl, hb1⟩
  obtain ⟨hw1, hB1⟩ := want_box hb1
  have HW1 := Lib.hid hw1
  have HB1 := Lib.hid hB1
  have HE1 := Lib.hid (HE.out.below hB1)
  clear hb1 hw1 hB1 HE0
  cases hc : wantCode ⟨n, u, k, g, m⟩ with
  | succ j =>
    have HO := Lib.hid (openW_bad (s := s) hc)
    rw [errV_some p (Nat.succ_ne_zero j)]
    clear hc
    go_wp2
    go_ret2
    exact ⟨by rw [HO.out]; exact toldBN_some p _ _ _, HB1.out⟩
  | zero =>
    rw [errV_zero]
    by_cases hl : 20000 < s.length
    · have HO := Lib.hid (openW_long hc hl)
      have hl' : (20000 : Int) < (s.length : Int) := by omega
      have hg := HE1.out.env.s1
      clear hc hl
      go_wp2_with fail
      go_region
      go_wp2
      go_ret2
      exact ⟨by rw [HO.out]; exact toldBN_some p _ _ 1, HB1.out.drew⟩
    · have hl' : ¬ (20000 : Int) < (s.length : Int) := by omega
      rcases kind_cases (want_zero hc).2.2.1 with hk | hk | hk
      · replace hk : k = [112, 108, 97, 105, 110] := hk
        subst hk
        obtain ⟨⟨tc, ti⟩, hF⟩ : ∃ y, treeFault [⟨n, false, s⟩] = y := ⟨_, rfl⟩
        have HO : Hid (openW ⟨n, u, [112, 108, 97, 105, 110], g, m⟩ s = ((plainT ⟨n, u, [112, 108, 97, 105, 110], g, m⟩ s).1, tc)) := by
          have e := (openW_plain hc hl rfl).trans (plainT_code _ _)
          rw [hF] at e
          exact e
        have HF := Lib.hid hF
        clear hF
        obtain ⟨c0, c1, c2, c3, c4⟩ := HW1.out
        clear hc hl
        go_wp2_with fail
        refine (openPlain_any p n u [112, 108, 97, 105, 110] g m s _ HE1.out hn hs).mono ?_
        rw [HF.out]
        generalize (plainT ⟨n, u, [112, 108, 97, 105, 110], g, m⟩ s).1 = T at HO ⊢
        rintro e w2 ⟨ht, hb2⟩
        obtain ⟨a, ca, v, rfl, hlt, hct, hv, hnw⟩ := ht.open rfl
        have HNW := Lib.hid (hnw.mono HB1.out.size)
        have HL := Lib.hid hlt
        have HB2 := Lib.hid (HB1.out.trans (hb2.mono HB1.out.size))
        have HE2 := Lib.hid (HE1.out.below hb2)
        have HV := Lib.hid hv
        clear ht hlt hb2 hv hnw c0 c1 c2 c3 c4
        go_wp2_with fail
        refine (bare_of HV.out HE2.out.env).mono ?_
        rintro e w3 ⟨rfl, hb3⟩
        have HL3 := Lib.hid (HL.out.below hb3)
        have HB3 := Lib.hid (HB2.out.trans (hb3.mono HB2.out.size))
        clear hb3
        go_wp2
        go_ret2
        exact ⟨toldBN_end HO.out HL3.out hct HNW.out, HB3.out⟩
      · replace hk : k = [112, 97, 99, 107] := hk
        subst hk
        obtain ⟨⟨T, tc, ti⟩, hF⟩ : ∃ y, packT g s = y := ⟨_, rfl⟩
        have HO : Hid (openW ⟨n, u, [112, 97, 99, 107], g, m⟩ s = (T, tc)) := by
          have e := openW_pack hc hl rfl
          rw [hF] at e
          exact e
        have HF := Lib.hid hF
        clear hF
        obtain ⟨c0, c1, c2, c3, c4⟩ := HW1.out
        clear hc hl
        go_wp2_with fail
        refine (openPack_any p n u [112, 97, 99, 107] g m s _ HE1.out hs).mono ?_
        rw [HF.out]
        rintro e w2 ⟨ht, hb2⟩
        obtain ⟨a, ca, v, rfl, hlt, hct, hv, hnw⟩ := ht.open rfl
        have HNW := Lib.hid (hnw.mono HB1.out.size)
        have HL := Lib.hid hlt
        have HB2 := Lib.hid (HB1.out.trans (hb2.mono HB1.out.size))
        have HE2 := Lib.hid (HE1.out.below hb2)
        have HV := Lib.hid hv
        clear ht hlt hb2 hv hnw c0 c1 c2 c3 c4
        go_wp2_with fail
        refine (bare_of HV.out HE2.out.env).mono ?_
        rintro e w3 ⟨rfl, hb3⟩
        have HL3 := Lib.hid (HL.out.below hb3)
        have HB3 := Lib.hid (HB2.out.trans (hb3.mono HB2.out.size))
        clear hb3
        go_wp2
        go_ret2
        exact ⟨toldBN_end HO.out HL3.out hct HNW.out, HB3.out⟩
      · replace hk : k = [112, 114, 101, 115, 115] := hk
        subst hk
        obtain ⟨⟨T, tc, ti⟩, hF⟩ : ∃ y, pressT g s = y := ⟨_, rfl⟩
        have HO : Hid (openW ⟨n, u, [112, 114, 101, 115, 115], g, m⟩ s = (T, tc)) := by
          have e := openW_press hc hl rfl
          rw [hF] at e
          exact e
        have HF := Lib.hid hF
        clear hF
        obtain ⟨c0, c1, c2, c3, c4⟩ := HW1.out
        clear hc hl
        go_wp2_with fail
        refine (openPress_any p n u [112, 114, 101, 115, 115] g m s _ HE1.out hs).mono ?_
        rw [HF.out]
        rintro e w2 ⟨ht, hb2⟩
        obtain ⟨a, ca, v, rfl, hlt, hct, hv, hnw⟩ := ht.open rfl
        have HNW := Lib.hid (hnw.mono HB1.out.size)
        have HL := Lib.hid hlt
        have HB2 := Lib.hid (HB1.out.trans (hb2.mono HB1.out.size))
        have HE2 := Lib.hid (HE1.out.below hb2)
        have HV := Lib.hid hv
        clear ht hlt hb2 hv hnw c0 c1 c2 c3 c4
        go_wp2_with fail
        refine (bare_of HV.out HE2.out.env).mono ?_
        rintro e w3 ⟨rfl, hb3⟩
        have HL3 := Lib.hid (HL.out.below hb3)
        have HB3 := Lib.hid (HB2.out.trans (hb3.mono HB2.out.size))
        clear hb3
        go_wp2
        go_ret2
        exact ⟨toldBN_end HO.out HL3.out hct HNW.out, HB3.out⟩
theorem wantOpen_any (p : Nat → Addr) (n u k : List UInt8) (g m : Int) (s : List UInt8) (w : World) (hE : WEnv p w) (hn : n.length ≤ 40000) (hu : u.length ≤ 90000) (hs : s.length ≤ 90000) :
    Calls Tryz.prog 228 #[wv ⟨n, u, k, g, m⟩, .string ⟨s.toArray⟩] w fun e w' => ToldB p w' e (openW ⟨n, u, k, g, m⟩ s) ∧ Below w.heap.size w w' :=
  (wantOpen_new p n u k g m s w hE hn hu hs).mono fun _ _ h => ⟨h.1.told, h.2⟩

theorem rightW_bad {x : Wt} {s : List UInt8} {T : List F} {c : Nat} (h : openW x s = (T, c + 1)) : rightW x s = ([], c + 1) := by unfold rightW; rw [h, if_pos (by simp)]

set_option maxRecDepth 100000 in
set_option maxHeartbeats 4000000 in
theorem wantRight_new (p : Nat → Addr) (n u k : List UInt8) (g m : Int) (s : List UInt8) (w : World) (hE : WEnv p w) (hn : n.length ≤ 40000) (hu : u.length ≤ 90000) (hs : s.length ≤ 90000) :
    Calls Tryz.prog 178 #[wv ⟨n, u, k, g, m⟩, .string ⟨s.toArray⟩] w fun e w' => ToldBN p w.heap.size w' e (rightW ⟨n, u, k, g, m⟩ s) ∧ Below w.heap.size w w' := by
  have HE := Lib.hid hE
  have HE0 : Hid (WEnv p (w.alloc (wo n u k g m))) := hE.below ((Below.refl _ _).alloc (Nat.le_refl _) _)
  clear hE
  obtain ⟨⟨T, c⟩, ho⟩ : ∃ y, openW ⟨n, u, k, g, m⟩ s = y := ⟨_, rfl⟩
  have HO := Lib.hid ho
  go_enter Tryz.func178, Tryz.ntmps178
  go_wp2_with fail
  refine (toldBN_open (wantOpen_new p n u k g m s _ HE0.out hn hu hs) HO.out).mono ?_
  rintro e w1 ⟨⟨a, ca, rfl, hl, hca, hnw⟩, hb1⟩
  obtain ⟨hw1, hB1⟩ := want_box hb1
  have HW1 := Lib.hid hw1
  have HB1 := Lib.hid hB1
  have HE1 := Lib.hid (HE.out.below hB1)
  have HL1 := Lib.hid hl
  have HNW : Hid (NewL w.heap.size a ca T) := hnw.mono (by simp)
  clear hb1 hw1 hB1 HE0 hl hnw
  cases c with
  | succ c =>
    have HR := Lib.hid (rightW_bad ho)
    rw [errV_some p (Nat.succ_ne_zero c)]
    clear ho
    go_wp2
    go_ret2
    exact ⟨by rw [HR.out]; exact toldBN_some p _ _ _, HB1.out⟩
  | zero =>
    have ht : (treeFault T).1 = 0 := by
      have := openW_tree (x := ⟨n, u, k, g, m⟩) (s := s) (by rw [ho])
      rwa [ho] at this
    have HR := Lib.hid (rightW_is ho ht)
    have HS := Lib.hid (tree_small ht)
    have HF := Lib.hid (treeFault_zero ht)
    have HU := Lib.hid (sum_yes ht)
    rw [errV_zero]
    clear ho ht
    go_wp2_with fail
    refine (packSum_any p T a ca _ HE1.out.env HE1.out.sum HL1.out hca HS.out).mono ?_
    rintro e w2 ⟨⟨v, rfl, hv⟩, hb2⟩
    rw [HF.out] at hv
    have := hv.isNil
    subst this
    have HB2 := Lib.hid (HB1.out.trans (hb2.mono HB1.out.size))
    have hg := (HE1.out.below hb2).env.s11
    obtain ⟨c0, c1, c2, c3, c4⟩ := HW1.out.below hb2
    have HL2 := Lib.hid (HL1.out.below hb2)
    rw [HU.out]
    generalize sumL (packL T) = t at HR ⊢
    clear hv hb2 HL1
    by_cases hm : (t : Int) = m
    · have HX : Hid (rightW ⟨n, u, k, g, m⟩ s = (T, 0)) := HR.out.trans (if_pos hm)
      subst hm
      go_wp2
      go_ret2
      exact ⟨toldBN_end HX.out HL2.out hca HNW.out, HB2.out⟩
    · have HX : Hid (rightW ⟨n, u, k, g, m⟩ s = ([], 12)) := HR.out.trans (if_neg hm)
      go_wp2_with fail
      go_region
      go_wp2
      go_ret2
      exact ⟨by rw [HX.out]; exact toldBN_some p _ _ 11, HB2.out.drew⟩
theorem wantRight_any (p : Nat → Addr) (n u k : List UInt8) (g m : Int) (s : List UInt8) (w : World) (hE : WEnv p w) (hn : n.length ≤ 40000) (hu : u.length ≤ 90000) (hs : s.length ≤ 90000) :
    Calls Tryz.prog 178 #[wv ⟨n, u, k, g, m⟩, .string ⟨s.toArray⟩] w fun e w' => ToldB p w' e (rightW ⟨n, u, k, g, m⟩ s) ∧ Below w.heap.size w w' :=
  (wantRight_new p n u k g m s w hE hn hu hs).mono fun _ _ h => ⟨h.1.told, h.2⟩
end Go.Proofs.YtmcfkoenpikldaaGreatDoor
