/-
  Own texts of the proof, joined by program: RefOpenWant, RefRightWant, RefTryOf.
-/
import Derived.Test.YtmcfkoenpikldaaGreatDoorRefRulesLawRulesRefWantRefWaysRefAsk
import Derived.Test.YtmcfkoenpikldaaGreatDoorRefPackTextRefTreeRefPackOfRefTreeSumRefCutBlankRefNumberRefReadPackRefDropRefSortRefStrip
import Derived.Test.YtmcfkoenpikldaaGreatDoorPkPressRefPressRefRunsRefOpen
import Derived.Test.YtmcfkoenpikldaaGreatDoorPkOpenPkWantOpenPkWantRight
import Derived.Deep.QuietTactic
import Derived.BigQuiet
import Derived.Deep.RegionHeld3
import Derived.Test.YtmcfkoenpikldaaGreatDoorNetRowRefNetRefNetGetRefNetPutRefNetHostNetActsMem
import Derived.Test.YtmcfkoenpikldaaGreatDoorFetchPureFetchMemPkFetchPkFetchWaysPkFetchDoFetchAt
import Derived.Deep.AppendLies
import Derived.Deep.CutRange
/-
  The document's answer for what is wanted: OpenWant: a contract, over this seat's translation.
-/
namespace Go.Proofs.YtmcfkoenpikldaaGreatDoor
open Go.RowKit Go.Shelf

theorem sortT_no {l : List F} (h : (sortT l).2.1 ≠ 0) : (sortT l).1 = [] := by
  unfold sortT at h ⊢
  split
  · rename_i h1
    rw [if_pos h1] at h
    split
    · rename_i h2
      rw [if_pos h2] at h
      exact absurd rfl h
    · rfl
  · rfl
theorem stripT_no {l : List F} {n : Int} (h : (stripT l n).2.1 ≠ 0) : (stripT l n).1 = [] := by
  unfold stripT at h ⊢
  split
  · rfl
  · rename_i h1
    rw [if_neg h1] at h
    split
    · rfl
    · rename_i h2
      rw [if_neg h2] at h
      exact sortT_no h
/-- What the document opens. -/
def OpenedR (w : World) (r : List F × Nat) (e : Ending) (w' : World) : Prop :=
  (∃ v, e = .returned (.tuple #[v, .int .i64 r.2]) ∧ w'.ownsRow w.heap.size 103 3 v r.1.length (lcells r.1)) ∧ Below w.heap.size w w'
theorem OpenedR.none {w w' : World} {r : List F × Nat} {c : Nat} {z : Int} (hr : r = ([], c)) (hz : (c : Int) = z) (hb : Below w.heap.size w w') : OpenedR w r (.returned (.tuple #[.slice Option.none 0 0, .int .i64 z])) w' := by
  subst hr hz
  exact ⟨⟨_, rfl, World.ownsRow_nil _ _ _ _⟩, hb⟩

set_option maxRecDepth 100000 in
set_option maxHeartbeats 4000000 in
theorem refOpenWant_bad (n u k : List UInt8) (g m : Int) (s : List UInt8) (w : World) (hn : n.length ≤ 40000) (hu : u.length ≤ 90000) (h : wantCode ⟨n, u, k, g, m⟩ ≠ 0 ∨ 20000 < s.length) (hs : s.length ≤ 90000) :
    Calls Tryz.prog 133 #[wv ⟨n, u, k, g, m⟩, .string ⟨s.toArray⟩] w fun e w' => OpenedR w (openW ⟨n, u, k, g, m⟩ s) e w' := by
  have hb0 : Below w.heap.size w (w.alloc (wo n u k g m)) := (Below.refl _ _).alloc (Nat.le_refl _) _
  have HB0 := Lib.hid hb0
  obtain ⟨c0, c1, c2, c3, c4⟩ := WantAt.new w n u k g m
  obtain ⟨z, hz⟩ : ∃ z : Int, ((wantCode ⟨n, u, k, g, m⟩ : Nat) : Int) = z := ⟨_, rfl⟩
  clear hb0
  by_cases hc : wantCode ⟨n, u, k, g, m⟩ = 0
  · have hl : 20000 < s.length := h.resolve_left (fun e => e hc)
    have HO := Lib.hid (openW_long hc hl)
    have hl' : (20000 : Int) < (s.length : Int) := by omega
    have hz0 : z = 0 := by omega
    subst hz0
    have HZ := Lib.hid hz
    clear hz h hc hl
    go_enter Tryz.func133, Tryz.ntmps133
    go_wp2_with fail
    refine (wantError_is n u k g m 0 _ (by omega) hu HZ.out).mono ?_
    rintro e w1 ⟨rfl, hb1⟩
    have HB1 := Lib.hid (HB0.out.trans (hb1.mono HB0.out.size))
    clear hb1 c0 c1 c2 c3 c4
    go_wp2
    go_ret2
    exact OpenedR.none HO.out (by rfl) HB1.out
  · obtain ⟨j, hj⟩ : ∃ j, wantCode ⟨n, u, k, g, m⟩ = j + 1 := ⟨_, (Nat.succ_pred_eq_of_ne_zero hc).symm⟩
    have HO := Lib.hid (openW_bad (s := s) hj)
    have hz0 : 0 < z := by omega
    have HZ := Lib.hid hz
    have HJ : Hid (((j + 1 : Nat) : Int) = z) := by show ((j + 1 : Nat) : Int) = z; omega
    clear hz h hc hj
    go_enter Tryz.func133, Tryz.ntmps133
    go_wp2_with fail
    refine (wantError_is n u k g m z _ (by omega) hu HZ.out).mono ?_
    rintro e w1 ⟨rfl, hb1⟩
    have HB1 := Lib.hid (HB0.out.trans (hb1.mono HB0.out.size))
    clear hb1 c0 c1 c2 c3 c4
    go_wp2
    go_ret2
    exact OpenedR.none HO.out HJ.out HB1.out

/- by program -/
theorem plain_row (w : World) (n s : List UInt8) (B : Nat) (hB : B ≤ w.heap.size) : (w.alloc (.cells #[.string ⟨n.toArray⟩, .bool false, .string ⟨s.toArray⟩] 103)).ownsRow B 103 3 (.slice (some ⟨w.heap.size, 0, none⟩) 1 1) 1 (lcells [⟨n, false, s⟩]) :=
  ⟨rfl, .inr ⟨w.heap.size, 1, #[.string ⟨n.toArray⟩, .bool false, .string ⟨s.toArray⟩], rfl, hB, heap_new w _, Nat.le_refl _, by unfold maxLen; omega, rfl, rfl⟩⟩
set_option maxRecDepth 100000 in
set_option maxHeartbeats 8000000 in
theorem refOpenWant_plain (n u : List UInt8) (g m : Int) (s : List UInt8) (w : World) (hn : n.length ≤ 40000) (hu : u.length ≤ 90000) (hc : wantCode ⟨n, u, kPlain, g, m⟩ = 0) (hs : ¬ 20000 < s.length) :
    Calls Tryz.prog 133 #[wv ⟨n, u, kPlain, g, m⟩, .string ⟨s.toArray⟩] w fun e w' => OpenedR w (openW ⟨n, u, kPlain, g, m⟩ s) e w' := by
  have hb0 : Below w.heap.size w (w.alloc (wo n u kPlain g m)) := (Below.refl _ _).alloc (Nat.le_refl _) _
  have HB0 := Lib.hid hb0
  have HW0 := Lib.hid (WantAt.new w n u kPlain g m)
  obtain ⟨c0, c1, c2, c3, c4⟩ := WantAt.new w n u kPlain g m
  obtain ⟨⟨tc, ti⟩, hF⟩ : ∃ y, treeFault [⟨n, false, s⟩] = y := ⟨_, rfl⟩
  have HO : Hid (openW ⟨n, u, kPlain, g, m⟩ s = if tc = 0 then ([⟨n, false, s⟩], 0) else ([], tc)) := by
    have e := openW_plain hc hs rfl
    unfold plainT at e
    have e2 := congrArg Prod.fst hF
    simp only at e e2
    rw [e2] at e
    exact e
  have HF := Lib.hid hF
  have HZ : Hid (((wantCode ⟨n, u, kPlain, g, m⟩ : Nat) : Int) = 0) := by show ((wantCode ⟨n, u, kPlain, g, m⟩ : Nat) : Int) = 0; omega
  have hs' : ¬ (20000 : Int) < (s.length : Int) := by omega
  have HS : Hid (Small [(⟨n, false, s⟩ : F)]) := ⟨by simp, fun f hf => by simp at hf; subst hf; exact hn, fun f hf => by simp at hf; subst hf; show s.length ≤ 500000; omega⟩
  clear hb0 hc hs hF
  unfold kPlain at *
  go_enter Tryz.func133, Tryz.ntmps133
  go_wp2_with fail
  refine (wantError_is n u _ g m 0 _ (by omega) hu HZ.out).mono ?_
  rintro e w1 ⟨rfl, hb1⟩
  have HB := Lib.hid (HB0.out.trans (hb1.mono HB0.out.size))
  have hz1 := HB.out.size
  have HW := Lib.hid (HW0.out.below hb1)
  clear hb1 c0 c1 c2 c3 c4 HB0 HW0
  obtain ⟨c0, c1, c2, c3, c4⟩ := HW.out
  have HL := Lib.hid (one_lies w1 n s)
  have HR := Lib.hid (plain_row w1 n s w.heap.size hz1)
  have HB1 : Hid (Below w.heap.size w (w1.alloc (.cells #[.string ⟨n.toArray⟩, .bool false, .string ⟨s.toArray⟩] 103))) := HB.out.alloc hz1 _
  go_wp2_with fail
  refine (refTreeFault_is [⟨n, false, s⟩] (some ⟨w1.heap.size, 0, none⟩) 1 ((tc : Nat) : Int) ti _ HL.out HS.out (by rw [HF.out]) (by rw [HF.out])).mono ?_
  rintro e w2 ⟨rfl, hb2⟩
  have HR2 := Lib.hid (row_below HR.out hb2)
  have HB2 := Lib.hid (HB1.out.trans (hb2.mono HB1.out.size))
  have hT0 : Two (w2.alloc (.cells #[.int .i64 ((tc : Nat) : Int), .int .i64 ti] 50)) w2.heap.size (.int .i64 ((tc : Nat) : Int)) (.int .i64 ti) 50 := Two.new _ _ _ _
  have hb3 : Below w2.heap.size w2 (w2.alloc (.cells #[.int .i64 ((tc : Nat) : Int), .int .i64 ti] 50)) := (Below.refl _ _).alloc (Nat.le_refl _) _
  have HR3 := Lib.hid (row_below HR2.out hb3)
  have HB3 := Lib.hid (HB2.out.trans (hb3.mono HB2.out.size))
  obtain ⟨x0, x1, _, _⟩ := hT0.cells
  clear hb2 hb3 hT0 c0 c1 c2 c3 c4 HB HW HL HR HB1 HR2 HB2
  rcases Nat.eq_zero_or_pos tc with h5 | h5
  · subst h5
    go_wp2
    go_ret2
    exact ⟨⟨_, by rw [HO.out]; rfl, by rw [HO.out]; exact HR3.out⟩, HB3.out⟩
  · have h5' : (0 : Int) < (tc : Int) := by omega
    have HO2 : Hid (openW ⟨n, u, [112, 108, 97, 105, 110], g, m⟩ s = ([], tc)) := by
      show openW _ _ = _
      rw [HO.out, if_neg (by omega)]
    clear h5
    obtain ⟨W, hW⟩ : ∃ W, W = w2.alloc (.cells #[.int .i64 ((tc : Nat) : Int), .int .i64 ti] 50) := ⟨_, rfl⟩
    rw [← hW] at x0 x1 HB3
    go_wp2_with fail
    rw [← hW]
    clear hW HR3
    generalize w2.heap.size = fb at x0 x1 ⊢
    go_quiet (fail)
    go_wp2
    go_ret2
    exact OpenedR.none HO2.out rfl (below_drewN HB3.out _)

set_option maxRecDepth 100000 in
set_option maxHeartbeats 8000000 in
theorem refOpenWant_pack (n u : List UInt8) (g m : Int) (s : List UInt8) (w : World) (hn : n.length ≤ 40000) (hu : u.length ≤ 90000) (hc : wantCode ⟨n, u, kPack, g, m⟩ = 0) (hs : ¬ 20000 < s.length) :
    Calls Tryz.prog 133 #[wv ⟨n, u, kPack, g, m⟩, .string ⟨s.toArray⟩] w fun e w' => OpenedR w (openW ⟨n, u, kPack, g, m⟩ s) e w' := by
  have hb0 : Below w.heap.size w (w.alloc (wo n u kPack g m)) := (Below.refl _ _).alloc (Nat.le_refl _) _
  have HB0 := Lib.hid hb0
  have HW0 := Lib.hid (WantAt.new w n u kPack g m)
  obtain ⟨c0, c1, c2, c3, c4⟩ := WantAt.new w n u kPack g m
  have HO := Lib.hid (openW_pack hc hs rfl)
  have HZ : Hid (((wantCode ⟨n, u, kPack, g, m⟩ : Nat) : Int) = 0) := by show ((wantCode ⟨n, u, kPack, g, m⟩ : Nat) : Int) = 0; omega
  have hs' : ¬ (20000 : Int) < (s.length : Int) := by omega
  have hsl : s.length ≤ 90000 := by omega
  clear hb0 hc hs
  unfold kPack at *
  go_enter Tryz.func133, Tryz.ntmps133
  go_wp2_with fail
  refine (wantError_is n u _ g m 0 _ (by omega) hu HZ.out).mono ?_
  rintro e w1 ⟨rfl, hb1⟩
  have HB := Lib.hid (HB0.out.trans (hb1.mono HB0.out.size))
  have HW := Lib.hid (HW0.out.below hb1)
  clear hb1 c0 c1 c2 c3 c4 HB0 HW0
  obtain ⟨c0, c1, c2, c3, c4⟩ := HW.out
  rcases readP_cases s with ⟨r, hr, _, hrt⟩ | ⟨c, i, hr, hc⟩
  · have HP := Lib.hid (packT_fine (n := g) hr)
    have HR := Lib.hid hr
    have HSM := Lib.hid (tree_small hrt)
    clear hr hrt
    go_wp2_with fail
    refine (refReadPack_any s _ hsl).mono ?_
    rw [HR.out]
    rintro e w2 ⟨⟨v, rfl, hrow⟩, hb2⟩
    obtain ⟨a2, ca2, rfl, hl2, _⟩ := owns_lies hrow
    have hB2 := HB.out.trans (hb2.mono HB.out.size)
    have hz2 := hB2.size
    have hT0 : Two (w2.alloc (.cells #[.int .i64 0, .int .i64 (-1)] 50)) w2.heap.size (.int .i64 0) (.int .i64 (-1)) 50 := Two.new _ _ _ _
    have hb3 : Below w2.heap.size w2 (w2.alloc (.cells #[.int .i64 0, .int .i64 (-1)] 50)) := (Below.refl _ _).alloc (Nat.le_refl _) _
    have HW3 := Lib.hid ((HW.out.below hb2).below hb3)
    have HL3 := Lib.hid (hl2.below hb3)
    have HB3 := Lib.hid (hB2.trans (hb3.mono hz2))
    obtain ⟨x0, x1, _, _⟩ := hT0.cells
    clear c0 c1 c2 c3 c4 hb2 hb3 hrow hl2 hB2 HB HW
    obtain ⟨c0, c1, c2, c3, c4⟩ := HW3.out
    obtain ⟨W, hW⟩ : ∃ W, W = w2.alloc (.cells #[.int .i64 0, .int .i64 (-1)] 50) := ⟨_, rfl⟩
    have hsz : W.heap.size = w2.heap.size + 1 := by rw [hW, World.size_alloc]
    rw [← hW] at hT0 HL3 HB3
    go_wp2_with fail
    rw [← hW]
    clear hW x0 x1 c0 c1 c2 c3 c4 HW3
    obtain ⟨fb, hfb⟩ : ∃ fb, fb = w2.heap.size := ⟨_, rfl⟩
    rw [← hfb] at hT0 hsz hz2 ⊢
    clear hfb
    refine (refStripTree_any r a2 ca2 g W HL3.out HSM.out).mono ?_
    rintro e w4 ⟨⟨v4, rfl, hrow4⟩, hb4⟩
    obtain ⟨⟨T4, c5, i4⟩, hr4⟩ : ∃ y, stripT r g = y := ⟨_, rfl⟩
    rw [hr4] at hrow4 ⊢
    have HP4 := Lib.hid (HP.out.trans hr4)
    have hn4 := stripT_no (l := r) (n := g)
    rw [hr4] at hn4
    have HN4 := Lib.hid hn4
    clear hn4
    have hT4 := hT0.below hb4 hT0.lt
    have hB4 := HB3.out.trans (hb4.mono HB3.out.size)
    obtain ⟨z0, z1, z2, z3⟩ := hT4.cells
    obtain ⟨y0, y1, _, _⟩ := (hT4.store (.int .i64 ((c5 : Nat) : Int)) (.int .i64 i4)).cells
    have HROW : Hid (((w4.setCell ⟨fb, 0, none⟩ (.int .i64 ((c5 : Nat) : Int))).setCell ⟨fb, 1, none⟩ (.int .i64 i4)).ownsRow w.heap.size 103 3 v4 T4.length (lcells T4)) := (row_slot (.int .i64 ((c5 : Nat) : Int)) (.int .i64 i4) hrow4 (by omega)).mono (by omega)
    have HB5 : Hid (Below w.heap.size w ((w4.setCell ⟨fb, 0, none⟩ (.int .i64 ((c5 : Nat) : Int))).setCell ⟨fb, 1, none⟩ (.int .i64 i4))) := (hB4.setCell (p := ⟨fb, 0, none⟩) hz2 _).setCell (p := ⟨fb, 1, none⟩) hz2 _
    clear hr4 hrow4 hb4 hT0 hT4 hB4 HB3 HL3
    rcases Nat.eq_zero_or_pos c5 with h5 | h5
    · subst h5
      go_wp2
      go_ret2
      exact ⟨⟨_, by rw [HO.out, HP4.out]; rfl, by rw [HO.out, HP4.out]; exact HROW.out⟩, HB5.out⟩
    · have h5' : (0 : Int) < (c5 : Int) := by omega
      have HT4 := Lib.hid (HN4.out (by show c5 ≠ 0; omega))
      clear h5
      go_wp2_with fail
      go_quiet (fail)
      go_wp2
      go_ret2
      exact OpenedR.none (by rw [HO.out, HP4.out, HT4.out]) rfl (below_drewN HB5.out _)
  · have HP := Lib.hid (packT_bad (n := g) hr hc)
    have HR := Lib.hid hr
    have hc' : (0 : Int) < (c : Int) := by omega
    have hcz : ((c : Int) == 0) = false := by simp; omega
    clear hr hc
    go_wp2_with fail
    refine (refReadPack_any s _ hsl).mono ?_
    rw [HR.out]
    rintro e w2 ⟨⟨v, rfl, hrow⟩, hb2⟩
    have hB2 := HB.out.trans (hb2.mono HB.out.size)
    have hT0 : Two (w2.alloc (.cells #[.int .i64 ((c : Nat) : Int), .int .i64 i] 50)) w2.heap.size (.int .i64 ((c : Nat) : Int)) (.int .i64 i) 50 := Two.new _ _ _ _
    have HB3 : Hid (Below w.heap.size w (w2.alloc (.cells #[.int .i64 ((c : Nat) : Int), .int .i64 i] 50))) := hB2.alloc hB2.size _
    obtain ⟨W, hW⟩ : ∃ W, W = w2.alloc (.cells #[.int .i64 ((c : Nat) : Int), .int .i64 i] 50) := ⟨_, rfl⟩
    rw [← hW] at hT0 HB3
    obtain ⟨x0, x1, _, _⟩ := hT0.cells
    clear hb2 hrow hB2 hT0 c0 c1 c2 c3 c4
    go_wp2_with fail
    rw [← hW]
    clear hW
    generalize w2.heap.size = fb at x0 x1 ⊢
    go_quiet (fail)
    go_wp2
    go_ret2
    exact OpenedR.none (by rw [HO.out, HP.out]) rfl (below_drewN HB3.out _)

set_option maxRecDepth 100000 in
set_option maxHeartbeats 8000000 in
theorem refOpenWant_press (n u : List UInt8) (g m : Int) (s : List UInt8) (w : World) (hn : n.length ≤ 40000) (hu : u.length ≤ 90000) (hc : wantCode ⟨n, u, kPress, g, m⟩ = 0) (hs : ¬ 20000 < s.length) :
    Calls Tryz.prog 133 #[wv ⟨n, u, kPress, g, m⟩, .string ⟨s.toArray⟩] w fun e w' => OpenedR w (openW ⟨n, u, kPress, g, m⟩ s) e w' := by
  have hb0 : Below w.heap.size w (w.alloc (wo n u kPress g m)) := (Below.refl _ _).alloc (Nat.le_refl _) _
  have HB0 := Lib.hid hb0
  have HW0 := Lib.hid (WantAt.new w n u kPress g m)
  obtain ⟨c0, c1, c2, c3, c4⟩ := WantAt.new w n u kPress g m
  have ho := openW_press hc hs rfl
  have hsh := openS_short s
  obtain ⟨⟨t, pc, pi⟩, hp⟩ : ∃ y, openS s 20000 = y := ⟨_, rfl⟩
  rw [hp] at hsh
  simp only at hsh
  have tl : t.length ≤ 90000 := by omega
  have HZ : Hid (((wantCode ⟨n, u, kPress, g, m⟩ : Nat) : Int) = 0) := by show ((wantCode ⟨n, u, kPress, g, m⟩ : Nat) : Int) = 0; omega
  have hs' : ¬ (20000 : Int) < (s.length : Int) := by omega
  have HO0 := Lib.hid ho
  have HPS := Lib.hid hp
  have hsl : s.length ≤ 300000 := by omega
  clear hb0 hc hs ho hp hsh
  unfold kPress at *
  go_enter Tryz.func133, Tryz.ntmps133
  go_wp2_with fail
  refine (wantError_is n u _ g m 0 _ (by omega) hu HZ.out).mono ?_
  rintro e w1 ⟨rfl, hb1⟩
  have HB1 := Lib.hid (HB0.out.trans (hb1.mono HB0.out.size))
  have HW1 := Lib.hid (HW0.out.below hb1)
  clear hb1 c0 c1 c2 c3 c4 HB0 HW0
  obtain ⟨c0, c1, c2, c3, c4⟩ := HW1.out
  go_wp2_with fail
  refine (openOf_any s 20000 _ hsl (by decide)).mono ?_
  rw [HPS.out]
  rintro e w1b ⟨rfl, hb1⟩
  have hbB := HB1.out.trans (hb1.mono HB1.out.size)
  have hT9 : Two (w1b.alloc (.cells #[.int .i64 ((pc : Nat) : Int), .int .i64 pi] 50)) w1b.heap.size (.int .i64 ((pc : Nat) : Int)) (.int .i64 pi) 50 := Two.new _ _ _ _
  have hb9 : Below w1b.heap.size w1b (w1b.alloc (.cells #[.int .i64 ((pc : Nat) : Int), .int .i64 pi] 50)) := (Below.refl _ _).alloc (Nat.le_refl _) _
  have HW := Lib.hid ((HW1.out.below hb1).below hb9)
  have HB := Lib.hid (hbB.trans (hb9.mono hbB.size))
  obtain ⟨p0, p1, _, _⟩ := hT9.cells
  clear hb1 hb9 hbB hT9 c0 c1 c2 c3 c4 HW1 HB1
  rcases Nat.eq_zero_or_pos pc with h5 | h5
  · subst h5
    have HO := Lib.hid (HO0.out.trans (by rw [pressT_fine (n := g) HPS.out] : _ = ((packT g t).1, (packT g t).2.1)))
    clear HO0
    obtain ⟨c0, c1, c2, c3, c4⟩ := HW.out
    rcases readP_cases t with ⟨r, hr, _, hrt⟩ | ⟨c, i, hr, hc⟩
    · have HP := Lib.hid (packT_fine (n := g) hr)
      have HR := Lib.hid hr
      have HSM := Lib.hid (tree_small hrt)
      clear hr hrt
      go_wp2_with fail
      refine (refReadPack_any t _ tl).mono ?_
      rw [HR.out]
      rintro e w2 ⟨⟨v, rfl, hrow⟩, hb2⟩
      obtain ⟨a2, ca2, rfl, hl2, _⟩ := owns_lies hrow
      have hB2 := HB.out.trans (hb2.mono HB.out.size)
      have hz2 := hB2.size
      have hT0 : Two (w2.alloc (.cells #[.int .i64 0, .int .i64 (-1)] 50)) w2.heap.size (.int .i64 0) (.int .i64 (-1)) 50 := Two.new _ _ _ _
      have hb3 : Below w2.heap.size w2 (w2.alloc (.cells #[.int .i64 0, .int .i64 (-1)] 50)) := (Below.refl _ _).alloc (Nat.le_refl _) _
      have HW3 := Lib.hid ((HW.out.below hb2).below hb3)
      have HL3 := Lib.hid (hl2.below hb3)
      have HB3 := Lib.hid (hB2.trans (hb3.mono hz2))
      obtain ⟨x0, x1, _, _⟩ := hT0.cells
      clear p0 p1 c0 c1 c2 c3 c4 hb2 hb3 hrow hl2 hB2 HB HW
      obtain ⟨c0, c1, c2, c3, c4⟩ := HW3.out
      obtain ⟨W, hW⟩ : ∃ W, W = w2.alloc (.cells #[.int .i64 0, .int .i64 (-1)] 50) := ⟨_, rfl⟩
      have hsz : W.heap.size = w2.heap.size + 1 := by rw [hW, World.size_alloc]
      rw [← hW] at hT0 HL3 HB3
      go_wp2_with fail
      rw [← hW]
      clear hW x0 x1 c0 c1 c2 c3 c4 HW3
      obtain ⟨fb, hfb⟩ : ∃ fb, fb = w2.heap.size := ⟨_, rfl⟩
      rw [← hfb] at hT0 hsz hz2 ⊢
      clear hfb
      refine (refStripTree_any r a2 ca2 g W HL3.out HSM.out).mono ?_
      rintro e w4 ⟨⟨v4, rfl, hrow4⟩, hb4⟩
      obtain ⟨⟨T4, c5, i4⟩, hr4⟩ : ∃ y, stripT r g = y := ⟨_, rfl⟩
      rw [hr4] at hrow4 ⊢
      have HP4 := Lib.hid (HP.out.trans hr4)
      have hn4 := stripT_no (l := r) (n := g)
      rw [hr4] at hn4
      have HN4 := Lib.hid hn4
      clear hn4
      have hT4 := hT0.below hb4 hT0.lt
      have hB4 := HB3.out.trans (hb4.mono HB3.out.size)
      obtain ⟨z0, z1, z2, z3⟩ := hT4.cells
      obtain ⟨y0, y1, _, _⟩ := (hT4.store (.int .i64 ((c5 : Nat) : Int)) (.int .i64 i4)).cells
      have HROW : Hid (((w4.setCell ⟨fb, 0, none⟩ (.int .i64 ((c5 : Nat) : Int))).setCell ⟨fb, 1, none⟩ (.int .i64 i4)).ownsRow w.heap.size 103 3 v4 T4.length (lcells T4)) := (row_slot (.int .i64 ((c5 : Nat) : Int)) (.int .i64 i4) hrow4 (by omega)).mono (by omega)
      have HB5 : Hid (Below w.heap.size w ((w4.setCell ⟨fb, 0, none⟩ (.int .i64 ((c5 : Nat) : Int))).setCell ⟨fb, 1, none⟩ (.int .i64 i4))) := (hB4.setCell (p := ⟨fb, 0, none⟩) hz2 _).setCell (p := ⟨fb, 1, none⟩) hz2 _
      clear hr4 hrow4 hb4 hT0 hT4 hB4 HB3 HL3
      rcases Nat.eq_zero_or_pos c5 with h5 | h5
      · subst h5
        go_wp2
        go_ret2
        exact ⟨⟨_, by rw [HO.out, HP4.out]; rfl, by rw [HO.out, HP4.out]; exact HROW.out⟩, HB5.out⟩
      · have h5' : (0 : Int) < (c5 : Int) := by omega
        have HT4 := Lib.hid (HN4.out (by show c5 ≠ 0; omega))
        clear h5
        go_wp2_with fail
        go_quiet (fail)
        go_wp2
        go_ret2
        exact OpenedR.none (by rw [HO.out, HP4.out, HT4.out]) rfl (below_drewN HB5.out _)
    · have HP := Lib.hid (packT_bad (n := g) hr hc)
      have HR := Lib.hid hr
      have hc' : (0 : Int) < (c : Int) := by omega
      have hcz : ((c : Int) == 0) = false := by simp; omega
      clear hr hc
      go_wp2_with fail
      refine (refReadPack_any t _ tl).mono ?_
      rw [HR.out]
      rintro e w2 ⟨⟨v, rfl, hrow⟩, hb2⟩
      have hB2 := HB.out.trans (hb2.mono HB.out.size)
      have hT0 : Two (w2.alloc (.cells #[.int .i64 ((c : Nat) : Int), .int .i64 i] 50)) w2.heap.size (.int .i64 ((c : Nat) : Int)) (.int .i64 i) 50 := Two.new _ _ _ _
      have HB3 : Hid (Below w.heap.size w (w2.alloc (.cells #[.int .i64 ((c : Nat) : Int), .int .i64 i] 50))) := hB2.alloc hB2.size _
      obtain ⟨W, hW⟩ : ∃ W, W = w2.alloc (.cells #[.int .i64 ((c : Nat) : Int), .int .i64 i] 50) := ⟨_, rfl⟩
      rw [← hW] at hT0 HB3
      obtain ⟨x0, x1, _, _⟩ := hT0.cells
      clear hb2 hrow hB2 hT0 c0 c1 c2 c3 c4
      go_wp2_with fail
      rw [← hW]
      clear hW
      generalize w2.heap.size = fb at x0 x1 ⊢
      go_quiet (fail)
      go_wp2
      go_ret2
      exact OpenedR.none (by rw [HO.out, HP.out]) rfl (below_drewN HB3.out _)

  · have h5' : (0 : Int) < (pc : Int) := by omega
    have HO := Lib.hid (HO0.out.trans (by rw [pressT_bad (n := g) HPS.out (by omega)] : _ = (([] : List F), pc)))
    clear h5 HO0 HW
    obtain ⟨W, hW⟩ : ∃ W, W = w1b.alloc (.cells #[.int .i64 ((pc : Nat) : Int), .int .i64 pi] 50) := ⟨_, rfl⟩
    rw [← hW] at p0 p1 HB
    go_wp2_with fail
    rw [← hW]
    clear hW
    generalize w1b.heap.size = fb at p0 p1 ⊢
    go_quiet (fail)
    go_wp2
    go_ret2
    exact OpenedR.none HO.out rfl (below_drewN HB.out _)
end Go.Proofs.YtmcfkoenpikldaaGreatDoor
/-
  The document's answer for what is wanted: RightWant: a contract, over this seat's translation.
-/
namespace Go.Proofs.YtmcfkoenpikldaaGreatDoor
open Go.RowKit Go.Shelf

theorem refOpenWant_any (n u k : List UInt8) (g m : Int) (s : List UInt8) (w : World) (hn : n.length ≤ 40000) (hu : u.length ≤ 90000) (hs : s.length ≤ 90000) :
    Calls Tryz.prog 133 #[wv ⟨n, u, k, g, m⟩, .string ⟨s.toArray⟩] w fun e w' => OpenedR w (openW ⟨n, u, k, g, m⟩ s) e w' := by
  by_cases hc : wantCode ⟨n, u, k, g, m⟩ = 0
  · by_cases hl : 20000 < s.length
    · exact refOpenWant_bad n u k g m s w hn hu (.inr hl) hs
    · rcases kind_cases (want_zero hc).2.2.1 with hk | hk | hk
      · have hk' : k = kPlain := hk
        subst hk'
        exact refOpenWant_plain n u g m s w hn hu hc hl
      · have hk' : k = kPack := hk
        subst hk'
        exact refOpenWant_pack n u g m s w hn hu hc hl
      · have hk' : k = kPress := hk
        subst hk'
        exact refOpenWant_press n u g m s w hn hu hc hl
  · exact refOpenWant_bad n u k g m s w hn hu (.inl hc) hs

set_option maxRecDepth 100000 in
set_option maxHeartbeats 4000000 in
theorem refRightWant_any (n u k : List UInt8) (g m : Int) (s : List UInt8) (w : World) (hn : n.length ≤ 40000) (hu : u.length ≤ 90000) (hs : s.length ≤ 90000) :
    Calls Tryz.prog 71 #[wv ⟨n, u, k, g, m⟩, .string ⟨s.toArray⟩] w fun e w' => OpenedR w (rightW ⟨n, u, k, g, m⟩ s) e w' := by
  have hb0 : Below w.heap.size w (w.alloc (wo n u k g m)) := (Below.refl _ _).alloc (Nat.le_refl _) _
  have HB0 := Lib.hid hb0
  have HW0 := Lib.hid (WantAt.new w n u k g m)
  obtain ⟨c0, c1, c2, c3, c4⟩ := WantAt.new w n u k g m
  obtain ⟨⟨T, c⟩, ho⟩ : ∃ y, openW ⟨n, u, k, g, m⟩ s = y := ⟨_, rfl⟩
  have HO := Lib.hid ho
  clear hb0
  go_enter Tryz.func71, Tryz.ntmps71
  go_wp2_with fail
  refine (refOpenWant_any n u k g m s _ hn hu hs).mono ?_
  rw [HO.out]
  rintro e w1 ⟨⟨v, rfl, hrow⟩, hb1⟩
  simp only at hrow
  have HB1 := Lib.hid (HB0.out.trans (hb1.mono HB0.out.size))
  have hw1 := HW0.out.below hb1
  obtain ⟨av, cv, rfl, hl1, _⟩ := owns_lies hrow
  have HROW := Lib.hid (hrow.mono (show w.heap.size ≤ _ by simp))
  have HL1 := Lib.hid hl1
  clear hb1 hl1 hrow c0 c1 c2 c3 c4
  cases c with
  | succ c =>
    have HR := Lib.hid (rightW_bad ho)
    have hc' : (0 : Int) < ((c + 1 : Nat) : Int) := by omega
    obtain ⟨z, hz⟩ : ∃ z : Int, ((c + 1 : Nat) : Int) = z := ⟨_, rfl⟩
    rw [hz] at hc' ⊢
    have HZ := Lib.hid hz
    clear ho hw1 hz
    go_wp2
    go_ret2
    exact OpenedR.none HR.out HZ.out HB1.out
  | zero =>
    have ht : (treeFault T).1 = 0 := by
      have := openW_tree (x := ⟨n, u, k, g, m⟩) (s := s) (by rw [ho])
      rwa [ho] at this
    have HR := Lib.hid (rightW_is ho ht)
    have HS := Lib.hid (tree_small ht)
    have hpk := pack_small ht
    have c4 := hw1.c4
    clear ho ht
    have HLD : Hid (LiesAt w1.drew av T) := HL1.out.below ((Below.refl _ _).drew)
    have hX : w.heap.size < w1.drew.heap.size := block_lt_of_cell c4
    have HPK : Hid (Calls Tryz.prog 116 #[.slice av T.length cv] w1.drew fun e w' => e = .returned (.string ⟨(packL T).toArray⟩) ∧ Below w1.drew.heap.size w1.drew w') := packText_any T av cv _ HLD.out HS.out hpk
    generalize packL T = pk at HR HPK hpk
    have HSU : Hid (∀ V, Calls Tryz.prog 134 #[.string ⟨pk.toArray⟩] V fun e w' => e = .returned (.int .i64 (sumL pk)) ∧ w' = V) := fun V => refSumOf_any pk V (by omega)
    generalize (sumL pk : Nat) = sm at HR HSU
    have HB1D : Hid (Below w.heap.size w w1.drew) := HB1.out.drew
    go_wp2_with fail
    go_region_held3 (fun w' => w'.cell? ⟨w.heap.size, 4, none⟩ = some (.int .i64 m)) (go_keep) (first
      | (go_at_call 116; (refine HPK.out.mono ?_); rintro e w2 ⟨rfl, hb2⟩; have HB2 := Lib.hid (HB1D.out.trans (hb2.mono HB1D.out.size)); have HRW2 := Lib.hid (owns_below HROW.out (show Below w1.heap.size w1 w2 from ((Below.refl _ _).drew).trans hb2)); have d4 : w2.cell? ⟨w.heap.size, 4, none⟩ = some (.int .i64 m) := (hb2.cell (p := ⟨w.heap.size, 4, none⟩) hX).trans c4; clear hb2)
      | (go_at_call 134; (refine (HSU.out _).mono ?_); rintro e w3 ⟨rfl, hw3⟩; obtain rfl : w2 = w3 := hw3.symm))
    all_goals
      by_cases hm : ((sm : Nat) : Int) = m
      · have HX : Hid (rightW ⟨n, u, k, g, m⟩ s = (T, 0)) := HR.out.trans (if_pos hm)
        subst hm
        go_wp2
        go_ret2
        exact ⟨⟨_, by rw [HX.out]; rfl, by rw [HX.out]; exact HRW2.out⟩, HB2.out⟩
      · have HX : Hid (rightW ⟨n, u, k, g, m⟩ s = ([], 12)) := HR.out.trans (if_neg hm)
        have hm' : (((sm : Nat) : Int) != m) = true := by simpa using hm
        clear hm
        go_wp2
        go_ret2
        exact OpenedR.none HX.out rfl HB2.out
end Go.Proofs.YtmcfkoenpikldaaGreatDoor
/-
  The document's answer for fetching: TryOf: contracts, over this seat's translation.
-/
namespace Go.Proofs.YtmcfkoenpikldaaGreatDoor
open Go.RowKit Go.Shelf

/-- What lies between two worlds' sizes is kept. -/
def Mid (B : Nat) (w w' : World) : Prop := w.heap.size ≤ w'.heap.size ∧ ∀ g, B ≤ g → g < w.heap.size → w'.heap[g]? = w.heap[g]?
theorem Mid.refl (B : Nat) (w : World) : Mid B w w := ⟨Nat.le_refl _, fun _ _ _ => rfl⟩
theorem Mid.cell {B : Nat} {w w' : World} (h : Mid B w w') {a : Addr} {v : Value} (hB : B ≤ a.block) (hc : w.cell? a = some v) : w'.cell? a = some v := (World.cell?_of_block (h.2 a.block hB (block_lt_of_cell hc))).trans hc
theorem Mid.frozen {B : Nat} {w w' : World} (h : Mid B w w') {a : Addr} {x : Bool} (hB : B ≤ a.block) (hl : a.block < w.heap.size) (hc : w.frozen? a = x) : w'.frozen? a = x := (World.frozen?_of_block (h.2 a.block hB hl)).trans hc
theorem Mid.below {B : Nat} {w w1 w2 : World} (h : Mid B w w1) (hb : Below w.heap.size w1 w2) : Mid B w w2 := ⟨Nat.le_trans h.1 hb.size, fun g hg hl => (hb.block g hl).trans (h.2 g hg hl)⟩
theorem Mid.kept {B : Nat} {w w1 w2 : World} {T : Nat → Prop} (h : Mid B w w1) (hk : Kept T w1 w2) (hT : ∀ g, B ≤ g → g < w.heap.size → ¬ T g) : Mid B w w2 := ⟨Nat.le_trans h.1 hk.size, fun g hg hl => (hk.block g (Nat.lt_of_lt_of_le hl h.1) (hT g hg hl)).trans (h.2 g hg hl)⟩
theorem Mid.want {B b : Nat} {w w' : World} {n u k : List UInt8} {s m : Int} (h : Mid B w w') (hB : B ≤ b) (hw : WantAt w b n u k s m) : WantAt w' b n u k s m := ⟨h.cell hB hw.c0, h.cell hB hw.c1, h.cell hB hw.c2, h.cell hB hw.c3, h.cell hB hw.c4⟩

/-- A block that is not the row's, behind an append. -/
theorem grown_block {w w5 : World} {o : Obj} {v : Value} {g : Nat} (hg : (w.alloc o).grownBy w5 v.ownBlock) (hl : g < w.heap.size) (hne : v.ownBlock ≠ some g) : w5.heap[g]? = w.heap[g]? :=
  (hg.block g (by simp; omega) (fun e => hne e.symm)).trans (Below.heap_alloc _ _ _ hl)
theorem owns_grown {w w5 : World} {o : Obj} {v u : Value} {base : Nat} {e : TypeId} {size n : Nat} {xs : List Value} (h : w.ownsRow base e size u n xs) (hg : (w.alloc o).grownBy w5 v.ownBlock) (hne : ∀ g, u.ownBlock = some g → v.ownBlock ≠ some g) : w5.ownsRow base e size u n xs :=
  owns_kept h fun g e => grown_block hg (h.lt g e).2 (hne g e)
/-- The document's net, where other blocks are written. -/
theorem RefLeft.write {w w1 w2 : World} {mb : Nat} {vL vO vL' vO' : Value} {s' : Ns} (h : RefLeft w mb vL vO s' w1 vL' vO') (hm : mb < w.heap.size) (hr : RefAt w2 mb vL' vO' s') (hb : Below w.heap.size w1 w2) : RefLeft w mb vL vO s' w2 vL' vO' :=
  ⟨hr, h.below.trans (hb.mono (Nat.le_of_lt hm)), ⟨Nat.le_trans h.kept.size hb.size, fun b hb' hn => (hb.block b hb').trans (h.kept.block b hb' hn)⟩, h.rowL, h.rowO⟩
/-- What all ways give, the document's. -/
def GotR (w : World) (mb : Nat) (vL vO : Value) (r : Ns × List F × List (List UInt8) × Nat × Int) (e : Ending) (w' : World) : Prop :=
  ∃ v al cl vL' vO', e = .returned (.tuple #[v, .slice al r.2.2.1.length cl, .agg #[.int .i64 (r.2.2.2.1 : Nat), .int .i64 r.2.2.2.2]]) ∧ w'.ownsRow w.heap.size 103 3 v r.2.1.length (lcells r.2.1) ∧
    w'.ownsRow w.heap.size 9 1 (.slice al r.2.2.1.length cl) r.2.2.1.length (r.2.2.1.map sv) ∧ RefLeft w mb vL vO r.1 w' vL' vO' ∧ ∀ gg, v.ownBlock = some gg → vL'.ownBlock ≠ some gg ∧ vO'.ownBlock ≠ some gg

set_option maxRecDepth 100000 in
set_option maxHeartbeats 4000000 in
theorem tryOf_bad (mb : Nat) (l : List Ru) (a : Option Addr) (ca : Nat) (n u k : List UInt8) (g m : Int) (w : World) (hl : RulesAt w a l) (hs : RuSmall l) (hn : n.length ≤ 40000) (hu : u.length ≤ 20000) (h : (askF (l.map Ru.q) ⟨n, u, k, g, m⟩).1 ≠ 0) :
    Calls Tryz.prog 17 #[.pointer (some ⟨mb, 0, none⟩), .slice a l.length ca, wv ⟨n, u, k, g, m⟩] w fun e w' => e = .returned (.tuple #[.slice none 0 0, .slice none 0 0, .agg #[.int .i64 ((askF (l.map Ru.q) ⟨n, u, k, g, m⟩).1 : Nat), .int .i64 (askF (l.map Ru.q) ⟨n, u, k, g, m⟩).2]]) ∧ Below w.heap.size w w' := by
  obtain ⟨W0, hW0⟩ : ∃ W0, W0 = (w.alloc (wo n u k g m)).alloc (.cells #[.int .i64 0, .int .i64 0] 50) := ⟨_, rfl⟩
  have hr0 : Two W0 (w.heap.size + 1) (.int .i64 0) (.int .i64 0) 50 := by
    rw [hW0]
    have := Two.new (w.alloc (wo n u k g m)) (.int .i64 0) (.int .i64 0) 50
    rwa [World.size_alloc] at this
  have hw0 : WantAt W0 w.heap.size n u k g m := by rw [hW0]; exact (WantAt.new w n u k g m).below ((Below.refl _ _).alloc (Nat.le_refl _) _)
  have hb0 : Below w.heap.size w W0 := by rw [hW0]; exact ((Below.refl _ _).alloc (Nat.le_refl _) _).alloc (by simp) _
  have hz0 : W0.heap.size = w.heap.size + 2 := by rw [hW0]; simp
  have HAF := Lib.hid (askFault_any l a ca n u k g m W0 (hl.below hb0) hs hn hu)
  have HR0 := Lib.hid hr0
  have HB0 := Lib.hid hb0
  obtain ⟨c0, c1, c2, c3, c4⟩ := hw0
  obtain ⟨⟨c, i⟩, hci⟩ : ∃ y, askF (l.map Ru.q) ⟨n, u, k, g, m⟩ = y := ⟨_, rfl⟩
  rw [hci] at h HAF ⊢
  obtain ⟨zc, hzc⟩ : ∃ z : Int, ((c : Nat) : Int) = z := ⟨_, rfl⟩
  simp only at h HAF ⊢
  rw [hzc] at HAF ⊢
  have hpos : (0 : Int) < zc := by omega
  clear hl hs hb0 hr0 h hzc hci
  go_enter Tryz.func17, Tryz.ntmps17
  go_wp2_with fail
  rw [← hW0]
  clear hW0
  refine HAF.out.mono ?_
  rintro e w1 ⟨rfl, hb1⟩
  have hR1 := HR0.out.below hb1 HR0.out.lt
  have hz1 := hb1.size
  have hB1 := HB0.out.trans (hb1.mono HB0.out.size)
  obtain ⟨W, hW⟩ : ∃ W, W = w1.alloc (.cells #[.int .i64 zc, .int .i64 i] 50) := ⟨_, rfl⟩
  have hT : Two W w1.heap.size (.int .i64 zc) (.int .i64 i) 50 := by rw [hW]; exact Two.new _ _ _ _
  have hbW : Below w1.heap.size w1 W := by rw [hW]; exact (Below.refl _ _).alloc (Nat.le_refl _) _
  have hRW := hR1.below hbW hR1.lt
  have HBW := Lib.hid (hB1.trans (hbW.mono hB1.size))
  obtain ⟨x0, x1, x2, x3⟩ := (Two.new w1 (.int .i64 zc) (.int .i64 i) 50).cells
  clear hb1 hbW hR1 hB1 c0 c1 c2 c3 c4 HR0 HB0 HAF
  go_upto_region 3 with fail
  rw [← hW]
  clear hW x0 x1 x2 x3
  obtain ⟨x0, x1, x2, x3⟩ := hT.cells
  obtain ⟨r0, r1, r2, r3⟩ := hRW.cells
  go_region
  all_goals go_wp2
  all_goals
    obtain ⟨q0, q1, _, _⟩ := (hRW.store (.int .i64 zc) (.int .i64 i)).cells
    exact bodyPost_ret (v := .tuple #[.slice none 0 0, .slice none 0 0, .agg #[.int .i64 zc, .int .i64 i]]) (by simp [results, Tryz.results17, go_sem, q0, q1]) rfl ⟨rfl, (below_store _ _ HBW.out (by omega)).drew⟩

set_option maxRecDepth 100000 in
set_option maxHeartbeats 16000000 in
theorem tryOf_good (mb : Nat) (vL vO : Value) (s : Ns) (l : List Ru) (a : Option Addr) (ca : Nat) (n u k : List UInt8) (g m : Int) (w : World) (hR : RefAt w mb vL vO s) (hsl : s.l.length ≤ 1000) (hso : s.off.length ≤ 1000) (hc : s.calls ≤ 900) (ht : ∀ x ∈ s.l, x.t.length ≤ 90000) (hl : RulesAt w a l) (hs : RuSmall l) (hn : n.length ≤ 40000) (hu : u.length ≤ 20000) (h : (askF (l.map Ru.q) ⟨n, u, k, g, m⟩).1 = 0) :
    Calls Tryz.prog 17 #[.pointer (some ⟨mb, 0, none⟩), .slice a l.length ca, wv ⟨n, u, k, g, m⟩] w fun e w' => GotR w mb vL vO (tryF (l.map Ru.q) ⟨n, u, k, g, m⟩ s) e w' := by
  obtain ⟨i0, hi, hy0, hy1, hy2⟩ := info_parts Tryz.info9
  obtain ⟨W0, hW0⟩ : ∃ W0, W0 = (w.alloc (wo n u k g m)).alloc (.cells #[.int .i64 0, .int .i64 0] 50) := ⟨_, rfl⟩
  have hr0 : Two W0 (w.heap.size + 1) (.int .i64 0) (.int .i64 0) 50 := by
    rw [hW0]
    have := Two.new (w.alloc (wo n u k g m)) (.int .i64 0) (.int .i64 0) 50
    rwa [World.size_alloc] at this
  have hw0 : WantAt W0 w.heap.size n u k g m := by rw [hW0]; exact (WantAt.new w n u k g m).below ((Below.refl _ _).alloc (Nat.le_refl _) _)
  have hb0 : Below w.heap.size w W0 := by rw [hW0]; exact ((Below.refl _ _).alloc (Nat.le_refl _) _).alloc (by simp) _
  have hsz0 : W0.heap.size = w.heap.size + 2 := by rw [hW0]; simp
  have haf := askFault_any l a ca n u k g m W0 (hl.below hb0) hs hn hu
  rw [ask_fine h] at haf
  have HAF := Lib.hid haf
  have HR0 := Lib.hid hr0
  have HB0 := Lib.hid hb0
  have HW0 := Lib.hid hw0
  have HRF := Lib.hid hR
  have HLL := Lib.hid hl
  have HS := Lib.hid hs
  have HTX := Lib.hid ht
  have hmlt := hR.lt
  have HVL : Hid (∀ gg, vL.ownBlock = some gg → gg < w.heap.size) := fun gg e => (hR.rows.lt gg e).2
  have HVO0 : Hid (∀ gg, vO.ownBlock = some gg → gg < w.heap.size) := fun gg e => (hR.offs.lt gg e).2
  have HRF0 := Lib.hid hR
  obtain ⟨hq1, hq2⟩ := ask_zero h
  have hwq := waysQ_ok (s := u) hq1 (want_zero hq2).2.1
  have hfew := ways_few hq1 u
  have hsh := ways_short hs u
  have htw : tryF (l.map Ru.q) ⟨n, u, k, g, m⟩ s = ((waysF ⟨n, u, k, g, m⟩ s (waysL (closestQ u (l.map Ru.q)) u) 0).1, (waysF ⟨n, u, k, g, m⟩ s (waysL (closestQ u (l.map Ru.q)) u) 0).2.1, (waysF ⟨n, u, k, g, m⟩ s (waysL (closestQ u (l.map Ru.q)) u) 0).2.2.1, (waysF ⟨n, u, k, g, m⟩ s (waysL (closestQ u (l.map Ru.q)) u) 0).2.2.2, -1) := try_ways h rfl
  obtain ⟨ways, hways⟩ : ∃ y, waysL (closestQ u (l.map Ru.q)) u = y := ⟨_, rfl⟩
  rw [hways] at hwq hfew hsh htw
  rw [htw]
  have HWQ := Lib.hid hwq
  have HSH := Lib.hid hsh
  obtain ⟨c0, c1, c2, c3, c4⟩ := hw0
  clear hl hs hb0 hr0 h hR ht haf hq1 hq2 hwq hsh htw hways
  go_enter Tryz.func17, Tryz.ntmps17
  go_wp2_with fail
  rw [← hW0]
  clear hW0
  refine HAF.out.mono ?_
  rintro e w1 ⟨rfl, hb1⟩
  have hz1 := hb1.size
  have hB1 := HB0.out.trans (hb1.mono HB0.out.size)
  have hbx : Below w1.heap.size w1 (w1.alloc (.cells #[.int .i64 0, .int .i64 (-1)] 50)) := (Below.refl _ _).alloc (Nat.le_refl _) _
  obtain ⟨x0, x1, _, _⟩ := (Two.new w1 (.int .i64 0) (.int .i64 (-1)) 50).cells
  clear c0 c1 c2 c3 c4
  obtain ⟨c0, c1, c2, c3, c4⟩ := (HW0.out.below hb1).below hbx
  obtain ⟨W, hW⟩ : ∃ W, W = w1.alloc (.cells #[.int .i64 0, .int .i64 (-1)] 50) := ⟨_, rfl⟩
  have hTW : Two W w1.heap.size (.int .i64 0) (.int .i64 (-1)) 50 := by rw [hW]; exact Two.new _ _ _ _
  have hRW : Two W (w.heap.size + 1) (.int .i64 0) (.int .i64 0) 50 := by rw [hW]; exact (HR0.out.below hb1 HR0.out.lt).below hbx (by omega)
  have hWW : WantAt W w.heap.size n u k g m := by rw [hW]; exact (HW0.out.below hb1).below hbx
  have hBW : Below w.heap.size w W := by rw [hW]; exact hB1.trans (hbx.mono hB1.size)
  have hfl : w.heap.size + 1 < w1.heap.size ∧ w1.heap.size < W.heap.size := ⟨by omega, hTW.lt⟩
  have HWL := Lib.hid (HLL.out.below hBW)
  go_wp2_with fail
  rw [← hW]
  clear hb1 hbx hB1 hz1 hsz0 x0 x1 c0 c1 c2 c3 c4 hW HR0 HB0 HW0 HAF HLL
  generalize w1.heap.size = fb at *
  refine (waysOf_any u l a ca W HWL.out HS.out hu).mono ?_
  rw [HWQ.out]
  rintro e w2 ⟨⟨vw, rfl, hrow⟩, hb2⟩
  obtain ⟨aw, cw, rfl, hta, hcw, _⟩ := texts_of_owns hrow
  have hbv : Below w2.heap.size w2 (w2.alloc (.cells #[.int .i64 0, .int .i64 (-1)] 50)) := (Below.refl _ _).alloc (Nat.le_refl _) _
  obtain ⟨V, hV⟩ : ∃ V, V = w2.alloc (.cells #[.int .i64 0, .int .i64 (-1)] 50) := ⟨_, rfl⟩
  have hWV : Below W.heap.size W V := by rw [hV]; exact hb2.trans (hbv.mono hb2.size)
  have hVW := hWV.size
  have HVT := Lib.hid (hTW.below hWV hTW.lt)
  have HVR := Lib.hid (hRW.below hWV hRW.lt)
  have HVW := Lib.hid (hWW.below hWV)
  have HVB := Lib.hid (hBW.trans (hWV.mono hBW.size))
  have HVA : Hid (TextsAt V aw ways) := by
    show TextsAt V aw ways
    rw [hV]
    exact hta.below hbv
  have HVF : Hid (RefAt V mb vL vO s) := HRF.out.below HVB.out
  have HOW : Hid (∀ b o t, aw = some ⟨b, o, t⟩ → w.heap.size + 1 < b) := fun b o t e => by
    have := (hrow.lt b (by rw [e]; rfl)).1
    omega
  go_wp2_with fail
  rw [← hV]
  clear hb2 hbv hrow hta hV hTW hRW hWW hBW hWV HWQ HRF HWL HS
  go_loopw [12, 13, 14] (fun lv last i wr => ∃ (q : Nat) (vL' vO' : Value) (s' : Ns) (ls : List (List UInt8)) (c : Nat), q ≤ ways.length ∧ i = .int .i64 q ∧ last = .int .i64 (c : Nat) ∧ (AfterW ⟨n, u, k, g, m⟩ ways s q s' ls c ∧ ls.length = q ∧ s'.calls ≤ s.calls + q ∧ s'.l = s.l ∧ s'.off = s.off) ∧ wr.ownsRow V.heap.size 9 1 lv ls.length (ls.map sv) ∧ (∀ gg, lv.ownBlock = some gg → vL'.ownBlock ≠ some gg ∧ vO'.ownBlock ≠ some gg) ∧ RefLeft V mb vL vO s' wr vL' vO' ∧ Mid w.heap.size V wr) (fun _ _ i _ => ways.length - (intOf i).toNat)
  case atStart => exact ⟨0, vL, vO, s, [], 0, Nat.zero_le _, rfl, rfl, ⟨AfterW.zero _ _ _, rfl, Nat.le_refl _, rfl, rfl⟩, World.ownsRow_nil _ _ _ _, fun gg h => by simp [Value.ownBlock] at h, RefLeft.same HVF.out, Mid.refl _ _⟩
  case round =>
    obtain ⟨q, vL1, vO1, s1, ls, c, hq, rfl, rfl, ⟨haf, hls, hcl, hsl1, hso1⟩, hown, hap, hleft, hmid⟩ := hrel
    have HAF := Lib.hid haf
    have HLS := Lib.hid hls
    have HOWN := Lib.hid hown
    have HAP := Lib.hid hap
    have HLF := Lib.hid hleft
    have HMD := Lib.hid hmid
    have HSM : Hid (s1.l = s.l ∧ s1.off = s.off) := ⟨hsl1, hso1⟩
    have hlq : ls.length ≤ 9 := by omega
    have hz1 := hmid.1
    have HOL : Hid (∀ gg, u12.ownBlock = some gg → V.heap.size ≤ gg ∧ gg < wr.heap.size) := fun gg e => HOWN.out.lt gg e
    have HVO : Hid (∀ gg, vL1.ownBlock = some gg → gg < w.heap.size ∨ V.heap.size ≤ gg) := fun gg e => (HLF.out.rowL gg e).imp (HVL.out gg) id
    have hb1 := hsl1
    have hb2 := hso1
    clear haf hls hown hap hleft hmid hsl1 hso1
    by_cases hlt : q < ways.length
    · have hlt' : (q : Int) < (ways.length : Int) := by omega
      obtain ⟨b, o, hbo, k0⟩ := HVA.out.at hlt
      have hbw2 := HOW.out b o none hbo
      have hbw : w.heap.size ≤ b := by omega
      subst hbo
      have hkv := HMD.out.cell (a := ⟨b, o + q, none⟩) hbw k0
      have hvl := HSH.out _ (List.getElem_mem hlt)
      have HBAD := Lib.hid (fun h => HAF.out.bad hlt h)
      have HGOOD := Lib.hid (fun h => HAF.out.good hlt h)
      have hle := wayF_le ⟨n, u, k, g, m⟩ s1 ways[q]
      generalize ways[q] = v at k0 hkv hvl HBAD HGOOD hle
      have hg1 := get_short (s := s1) v (by rw [hb1]; exact HTX.out)
      have hgl := get_same s1 v
      have hwf : ∀ c, (getN s1 v).2.2 = c + 1 → wayF ⟨n, u, k, g, m⟩ s1 v = ((getN s1 v).1, [], c + 1) := fun c h => wayF_none h
      have hwc := wayF_came (x := ⟨n, u, k, g, m⟩) (s := s1) (u := v)
      go_wp2_with fail
      refine (refGet_any mb vL1 vO1 s1 v _ HLF.out.ref (by rw [hb1]; omega) (by rw [hb2]; omega) (by omega) (by omega)).mono ?_
      rintro e w3 ⟨rfl, vL3, vO3, l3⟩
      obtain ⟨⟨s3, t3, e3⟩, hg3⟩ : ∃ y, getN s1 v = y := ⟨_, rfl⟩
      rw [hg3] at hg1 hgl hwf hwc l3 ⊢
      simp only at hg1 hgl hwf hwc l3
      have HL3 := Lib.hid (HLF.out.trans l3)
      have hk3 := l3.kept
      have HM3 : Hid (Mid w.heap.size V w3) := HMD.out.kept hk3 fun gg h1 h2 h3 => by
        rcases h3 with h3 | h3
        · omega
        · have := HVO.out gg h3
          omega
      have HO3 : Hid (w3.ownsRow V.heap.size 9 1 u12 ls.length (ls.map sv)) := owns_kept HOWN.out fun gg e => hk3.block gg (HOL.out gg e).2 fun h3 => by
        rcases h3 with h3 | h3
        · have := (HOL.out gg e).1
          omega
        · exact (HAP.out gg e).1 h3
      have HAP3 : Hid (∀ gg, u12.ownBlock = some gg → vL3.ownBlock ≠ some gg ∧ vO3.ownBlock ≠ some gg) := fun gg e => ⟨fun h3 => by
        rcases l3.rowL gg h3 with h4 | h4
        · exact (HAP.out gg e).1 h4
        · have := (HOL.out gg e).2
          omega, fun h3 => by
        rcases l3.rowO gg h3 with h4 | h4
        · exact (HAP.out gg e).2 h4
        · have := (HOL.out gg e).2
          omega⟩
      have hz3 : wr.heap.size ≤ w3.heap.size := hk3.size
      have HGL := Lib.hid hgl
      have HWF := Lib.hid hwf
      have HWC := Lib.hid hwc
      clear hg3 l3 hk3 hgl hwf hwc hkv HAP HLF HMD HOWN
      have hkv := HM3.out.cell (a := ⟨b, o + q, none⟩) hbw k0
      have HKV := Lib.hid k0
      have HBL : Hid (b < V.heap.size) := block_lt_of_cell k0
      clear k0
      go_upto_if 48 with fail
      go_cut [16, 17] from 49 to 54 (fun ev tv wx => ∃ (T : List F) (cc : Nat), wayF ⟨n, u, k, g, m⟩ s1 v = (s3, T, cc) ∧ ev = .int .i64 (cc : Nat) ∧ wx.ownsRow w3.heap.size 103 3 tv T.length (lcells T) ∧ Below w3.heap.size w3 wx)
      case first =>
        cases e3 with
        | zero =>
          obtain ⟨c0, c1, c2, c3, c4⟩ := HM3.out.want (Nat.le_refl _) HVW.out
          have HWC2 := Lib.hid (HWC.out rfl)
          go_wp2_with fail
          refine (refRightWant_any n u k g m t3 _ hn (by omega) hg1).mono ?_
          rintro e w4 ⟨⟨v4, rfl, hr4⟩, hb4⟩
          have HR4 := Lib.hid hr4
          have HB4 := Lib.hid hb4
          clear hr4 hb4 c0 c1 c2 c3 c4
          go_wp2
          go_meet
          case rel => exact ⟨_, _, HWC2.out, rfl, HR4.out, HB4.out⟩
        | succ e3 =>
          have HWF2 := Lib.hid (HWF.out e3 rfl)
          have hez : (((e3 + 1 : Nat) : Int) == 0) = false := by simp; omega
          go_wp2
          go_meet
          case rel => exact ⟨[], e3 + 1, HWF2.out, rfl, World.ownsRow_nil _ _ _ _, Below.refl _ _⟩
      case rest =>
        obtain ⟨T, cc, hway, rfl, hrowT, hbx⟩ := hcut
        have hzc := hbx.size
        have HMc := Lib.hid (HM3.out.below (hbx.mono (by omega)))
        have HOc := Lib.hid (owns_below HO3.out hbx)
        have HLc := Lib.hid (HL3.out.trans (RefLeft.of_below HL3.out.ref hbx))
        have HRT := Lib.hid hrowT
        have HV3L : Hid (∀ gg, vL3.ownBlock = some gg → gg < w3.heap.size) := fun gg e => (HL3.out.ref.rows.lt gg e).2
        have HV3O : Hid (∀ gg, vO3.ownBlock = some gg → gg < w3.heap.size) := fun gg e => (HL3.out.ref.offs.lt gg e).2
        have HVLT : Hid (∀ gg, vL3.ownBlock = some gg → gg < wc.heap.size) := fun gg e => (HLc.out.ref.rows.lt gg e).2
        have HVOT : Hid (∀ gg, vO3.ownBlock = some gg → gg < wc.heap.size) := fun gg e => (HLc.out.ref.offs.lt gg e).2
        have hTc := HVT.out.keep (HMc.out.2 fb (by omega) HVT.out.lt)
        have hRc := HVR.out.keep (HMc.out.2 (w.heap.size + 1) (by omega) HVR.out.lt)
        have hkc := HMc.out.cell (a := ⟨b, o + q, none⟩) hbw HKV.out
        have hbl : b < V.heap.size := HBL.out
        have hfV := HVT.out.lt
        have hrV := HVR.out.lt
        have HNB : Hid (∀ gg, gg < V.heap.size → u12.ownBlock ≠ some gg) := fun gg h1 e => by have := (HOL.out gg e).1; omega
        clear hrowT hbx hkv
        obtain ⟨au, cu, hau⟩ := owns_slice HOc.out
        subst hau
        rw [hway] at hle HBAD HGOOD
        simp only at hle HBAD HGOOD
        cases cc with
        | zero =>
          have HX : Hid (∀ W, (Op.stringOp .add ⟨v.toArray⟩ ⟨#[32, 111, 107]⟩).run Tryz.prog W = .ok (.string ⟨(lineF v 0).toArray⟩) W) := fun W => by
            have := run_string_add_lists (P := Tryz.prog) W v [32, 111, 107] (by omega) (by simp)
            exact this
          have hx := HX.out
          have hnew := fun W => text_new W (lineF v 0) 9
          have HGD := Lib.hid (HGOOD.out (by trivial))
          generalize lineF v 0 = x1 at hx hnew HGD
          obtain ⟨f0, f1, f2, f3⟩ := hTc.cells
          obtain ⟨r0, r1, r2, r3⟩ := hRc.cells
          clear HX HWC HWF HBAD HGOOD
          have hq0 : (0 : Int) ≤ (q : Int) := by omega
          have hfw : fb < wc.heap.size := by omega
          have hrw' : w.heap.size + 1 < wc.heap.size := by omega
          have hbw' : b < wc.heap.size := by omega
          have hVc : V.heap.size ≤ wc.heap.size := by omega
          obtain ⟨WA, hWA⟩ : ∃ WA, WA = (wc.alloc (.cells #[sv x1] 9)).drew := ⟨_, rfl⟩
          have HOA : Hid ((wc.alloc (.cells #[sv x1] 9)).drew.ownsRow V.heap.size 9 1 (.slice au ls.length cu) ls.length (ls.map sv)) := HOc.out.alloc _
          have HNW : Hid (∀ j y, [sv x1][j]? = some y → (wc.alloc (.cells #[sv x1] 9)).drew.cell? ((⟨wc.heap.size, 0, none⟩ : Addr).add j) = some y) := hnew wc
          have HSA : Hid (V.heap.size ≤ (wc.alloc (.cells #[sv x1] 9)).drew.heap.size) := by show V.heap.size ≤ (wc.alloc (.cells #[sv x1] 9)).heap.size; simp; omega
          have HSE : Hid ((wc.alloc (.cells #[sv x1] 9)).drew.heap.size = wc.heap.size + 1) := by show (wc.alloc (.cells #[sv x1] 9)).heap.size = wc.heap.size + 1; simp
          have HSW : Hid (wc.heap.size ≤ (wc.alloc (.cells #[sv x1] 9)).drew.heap.size) := by show wc.heap.size ≤ (wc.alloc (.cells #[sv x1] 9)).heap.size; simp
          have HBA : Hid (∀ gg, gg < wc.heap.size → (wc.alloc (.cells #[sv x1] 9)).drew.heap[gg]? = wc.heap[gg]?) := fun gg h1 => Below.heap_alloc wc _ _ h1
          have HFAR : Hid (∀ (W : World) (x y : Value) (gg j : Nat) (z : Value), gg ≠ w.heap.size + 1 → W.cell? ⟨gg, j, none⟩ = some z → ((W.setCell ⟨w.heap.size + 1, 0, none⟩ x).setCell ⟨w.heap.size + 1, 1, none⟩ y).cell? ⟨gg, j, none⟩ = some z) := fun W x y gg j z h1 h2 => (World.cell?_of_block (heap_store x y h1)).trans h2
          have hnb : b ≠ w.heap.size + 1 := by omega
          have hnf : fb ≠ w.heap.size + 1 := by omega
          clear hWA WA
          go_wp2_with fail
          go_region_held3 (fun w' => w'.cell? ⟨b, o + q, none⟩ = some (sv v) ∧ w'.cell? ⟨fb, 0, none⟩ = some (.int .i64 0) ∧ w'.cell? ⟨fb, 1, none⟩ = some (.int .i64 (-1))) (first | go_keep | (exact ⟨HFAR.out _ _ _ _ _ _ hnb d0, HFAR.out _ _ _ _ _ _ hnf d1, HFAR.out _ _ _ _ _ _ hnf d2⟩))
            ((refine step_append_lies _ (by rfl) _ _ _ (by rfl) V.heap.size 9 i0 (.string ⟨#[]⟩) 1 16 Tryz.underlying35 hi hy0 hy1 hy2 rfl (by decide) _ _ _ (by rfl) (HOA.out) ⟨wc.heap.size, 0, none⟩ 1 1 [sv x1] (by rfl) rfl (HNW.out) (by simp [Value.oneCell']) (by decide) (by unfold maxLen; omega) (by omega) (HSA.out) (wc.heap.size + 1) (HSE.out) ?_; intro g' cap' w5 hown5 hgrow5 hat5 hlt5; have hB5 : ∀ gg, gg < wc.heap.size → (Value.slice au ls.length cu).ownBlock ≠ some gg → w5.heap[gg]? = wc.heap[gg]? := fun gg h1 h2 => (hgrow5.block gg (Nat.lt_of_lt_of_le h1 HSW.out) (fun e => h2 e.symm)).trans (HBA.out gg h1); have d0 : w5.cell? ⟨b, o + q, none⟩ = some (sv v) := (World.cell?_of_block (hB5 b hbw' (HNB.out b hbl))).trans hkc; have d1 : w5.cell? ⟨fb, 0, none⟩ = some (.int .i64 0) := (World.cell?_of_block (hB5 fb hfw (HNB.out fb hfV))).trans f0; have d2 : w5.cell? ⟨fb, 1, none⟩ = some (.int .i64 (-1)) := (World.cell?_of_block (hB5 fb hfw (HNB.out fb hfV))).trans f1; have d3 : w5.cell? ⟨w.heap.size + 1, 0, none⟩ = some (.int .i64 0) := (World.cell?_of_block (hB5 _ hrw' (HNB.out _ hrV))).trans r0; have d4 : w5.cell? ⟨w.heap.size + 1, 1, none⟩ = some (.int .i64 0) := (World.cell?_of_block (hB5 _ hrw' (HNB.out _ hrV))).trans r1; have d5 : w5.frozen? ⟨w.heap.size + 1, 0, none⟩ = false := (World.frozen?_of_block (hB5 _ hrw' (HNB.out _ hrV))).trans r2; have d6 : w5.frozen? ⟨w.heap.size + 1, 1, none⟩ = false := (World.frozen?_of_block (hB5 _ hrw' (HNB.out _ hrV))).trans r3; have HOWN5 := Lib.hid hown5; have HGR5 := Lib.hid hgrow5; have HB5 := Lib.hid hB5; clear hown5 hgrow5 hat5 hlt5 hB5))
          all_goals
            have hb6 : Below w.heap.size wc ((w5.setCell ⟨w.heap.size + 1, 0, none⟩ (.int .i64 0)).setCell ⟨w.heap.size + 1, 1, none⟩ (.int .i64 (-1))) := by
              refine below_store _ _ ?_ (by omega)
              exact ((Below.refl _ wc).alloc (by omega) (.cells #[sv x1] 9)).drew.grown HGR5.out (by show w.heap.size ≤ (wc.alloc (.cells #[sv x1] 9)).heap.size; simp; omega) (fun gg e => by have := (HOL.out gg e).1; omega)
            have hk6 : Kept (fun gg => (Value.slice au ls.length cu).ownBlock = some gg ∨ gg = w.heap.size + 1) wc ((w5.setCell ⟨w.heap.size + 1, 0, none⟩ (.int .i64 0)).setCell ⟨w.heap.size + 1, 1, none⟩ (.int .i64 (-1))) := ⟨hb6.size, fun gg h1 h2 => (heap_store _ _ (fun e => h2 (.inr e))).trans (HB5.out gg h1 (fun e => h2 (.inl e)))⟩
            have hr6 := HLc.out.ref.kept hk6 (fun h1 => by
              rcases h1 with h1 | h1
              · have := (HOL.out _ h1).1; omega
              · omega) (fun gg e h1 => by
              rcases h1 with h1 | h1
              · exact (HAP3.out gg h1).1 e
              · rcases HLc.out.rowL gg e with h2 | h2
                · have := HVL.out gg h2; omega
                · omega) (fun gg e h1 => by
              rcases h1 with h1 | h1
              · exact (HAP3.out gg h1).2 e
              · rcases HLc.out.rowO gg e with h2 | h2
                · have := HVO0.out gg h2; omega
                · omega)
            have hl6 := ((RefLeft.of_below HRF0.out HVB.out).trans HLc.out).write hmlt hr6 hb6
            have hrT6 : ((w5.setCell ⟨w.heap.size + 1, 0, none⟩ (.int .i64 0)).setCell ⟨w.heap.size + 1, 1, none⟩ (.int .i64 (-1))).ownsRow w.heap.size 103 3 u17 T.length (lcells T) := (owns_kept HRT.out fun gg e => hk6.block gg (HRT.out.lt gg e).2 (fun h1 => by
              have h2 := (HRT.out.lt gg e).1
              rcases h1 with h1 | h1
              · have := (HOL.out gg h1).2; omega
              · omega)).mono (by omega)
            have hrL6 := (row_slot (b := w.heap.size + 1) (.int .i64 0) (.int .i64 (-1)) HOWN5.out (by omega)).mono (show w.heap.size ≤ V.heap.size by omega)
            obtain ⟨q0, q1, _, _⟩ := ((Two.keep hRc (HB5.out _ hrw' (HNB.out _ hrV))).store (.int .i64 0) (.int .i64 (-1))).cells
            have HG : Hid (GotR w mb vL vO ((waysF ⟨n, u, k, g, m⟩ s ways 0).1, (waysF ⟨n, u, k, g, m⟩ s ways 0).2.1, (waysF ⟨n, u, k, g, m⟩ s ways 0).2.2.1, (waysF ⟨n, u, k, g, m⟩ s ways 0).2.2.2, -1) (.returned (.tuple #[u17, .slice (some ⟨g', 0, none⟩) (ls.length + 1) cap', .agg #[.int .i64 0, .int .i64 (-1)]])) ((w5.setCell ⟨w.heap.size + 1, 0, none⟩ (.int .i64 0)).setCell ⟨w.heap.size + 1, 1, none⟩ (.int .i64 (-1)))) := by
              show GotR w mb vL vO _ _ _
              rw [HGD.out]
              exact ⟨u17, some ⟨g', 0, none⟩, cap', vL3, vO3, by simp, hrT6, by simpa using hrL6, hl6, fun gg e => ⟨fun h => by have := (HRT.out.lt gg e).1; have := HV3L.out gg h; omega, fun h => by have := (HRT.out.lt gg e).1; have := HV3O.out gg h; omega⟩⟩
            clear hb6 hk6 hr6 hl6 hrT6 hrL6
            go_wp2
            exact bodyPost_ret (v := .tuple #[u17, .slice (some ⟨g', 0, none⟩) (ls.length + 1) cap', .agg #[.int .i64 0, .int .i64 (-1)]]) (by simp [results, Tryz.results17, go_sem, q0, q1]) rfl HG.out
        | succ cc =>
          have hte := textE_short (cc + 1)
          have HX1 : Hid (∀ W, (Op.stringOp .add ⟨v.toArray⟩ ⟨#[32]⟩).run Tryz.prog W = .ok (.string ⟨(v ++ [32]).toArray⟩) W) := fun W => run_string_add_lists (P := Tryz.prog) W v [32] (by omega) (by simp)
          have HX2 : Hid (∀ W, (Op.stringOp .add ⟨(v ++ [32]).toArray⟩ ⟨(textE (cc + 1)).toArray⟩).run Tryz.prog W = .ok (.string ⟨(lineF v (cc + 1)).toArray⟩) W) := fun W => by
            have := run_string_add_lists (P := Tryz.prog) W (v ++ [32]) (textE (cc + 1)) (by simp; omega) (by omega)
            rw [this]
            congr 3
            simp [lineF]
          have hx1 := HX1.out
          have hx2 := HX2.out
          have hnew := fun W => text_new W (lineF v (cc + 1)) 9
          have HBD := Lib.hid (HBAD.out (by simp))
          have HET := fun W => errorText_any (cc + 1) W (by omega) hle
          have HETX := Lib.hid HET
          generalize lineF v (cc + 1) = x2 at hx2 hnew HBD
          generalize v ++ [32] = x1 at hx1 hx2
          generalize textE (cc + 1) = te at hx2 HETX
          have hcz : (((cc + 1 : Nat) : Int) == 0) = false := by simp; omega
          have hq0 : (0 : Int) ≤ (q : Int) := by omega
          have hbw' : b < wc.heap.size := by omega
          have hVc : V.heap.size ≤ wc.heap.size := by omega
          have HNW := Lib.hid hnew
          obtain ⟨zc, hzc'⟩ : ∃ z : Int, ((cc + 1 : Nat) : Int) = z := ⟨_, rfl⟩
          rw [hzc'] at hcz HETX ⊢
          have HZC := Lib.hid hzc'
          clear HX1 HX2 HWC HWF HBAD HGOOD HET hnew hzc' hte
          go_wp2_with fail
          go_region_held3 (fun w' => w'.cell? ⟨b, o + q, none⟩ = some (sv v)) (go_keep) (first
            | (go_at_call 72; (refine (HETX.out _).mono ?_); rintro e w5 ⟨rfl, hb5⟩; have HB5 : Hid (Below wc.heap.size wc w5) := ((Below.refl _ wc).drew).trans hb5; have d0 : w5.cell? ⟨b, o + q, none⟩ = some (sv v) := (HB5.out.cell (p := ⟨b, o + q, none⟩) hbw').trans hkc; have HO5 := Lib.hid ((owns_below HOc.out HB5.out).alloc (.cells #[sv x2] 9)); have hs5 : wc.heap.size ≤ w5.heap.size := HB5.out.size; clear hb5)
            | (refine step_append_lies _ (by rfl) _ _ _ (by rfl) V.heap.size 9 i0 (.string ⟨#[]⟩) 1 16 Tryz.underlying35 hi hy0 hy1 hy2 rfl (by decide) _ _ _ (by rfl) (HO5.out) ⟨w5.heap.size, 0, none⟩ 1 1 [sv x2] (by rfl) rfl (HNW.out w5) (by simp [Value.oneCell']) (by decide) (by unfold maxLen; omega) (by omega) (by simp; omega) (w5.heap.size + 1) (by simp) ?_; intro g' cap' w7 hown7 hgrow7 hat7 hlt7; have d1 : w7.cell? ⟨b, o + q, none⟩ = some (sv v) := (World.cell?_of_block (grown_block hgrow7 (by show b < w5.heap.size; omega) (HNB.out b hbl))).trans d0; have HOWN7 := Lib.hid hown7; have HGR7 := Lib.hid hgrow7; have HAT7 := Lib.hid hat7; clear hown7 hgrow7 hat7 hlt7))
          all_goals
            have hb7 : Below V.heap.size wc w7 := (HB5.out.mono hVc).trans (((Below.refl _ w5).alloc (by omega) (.cells #[sv x2] 9)).grown HGR7.out (by simp; omega) (fun gg e => (HOL.out gg e).1))
            have hk7 : Kept (fun gg => (Value.slice au ls.length cu).ownBlock = some gg) wc w7 := ⟨hb7.size, fun gg h1 h2 => (grown_block HGR7.out (by omega) h2).trans (HB5.out.block gg h1)⟩
            have hr7 := HLc.out.ref.kept hk7 (fun h1 => by have := (HOL.out _ h1).1; omega) (fun gg e h1 => (HAP3.out gg h1).1 e) (fun gg e h1 => (HAP3.out gg h1).2 e)
            have HL7 := Lib.hid (HLc.out.write (by omega) hr7 hb7)
            have HM7 := Lib.hid (HMc.out.below hb7)
            have HO7 : Hid (w7.ownsRow V.heap.size 9 1 (.slice (some ⟨g', 0, none⟩) (ls.length + 1) cap') (ls ++ [x2]).length ((ls ++ [x2]).map sv)) := by
              have := HOWN7.out
              show w7.ownsRow _ _ _ _ _ _
              simpa using this
            have HAP7 : Hid (∀ gg, (Value.slice (some ⟨g', 0, none⟩) (ls.length + 1) cap').ownBlock = some gg → vL3.ownBlock ≠ some gg ∧ vO3.ownBlock ≠ some gg) := fun gg e => by
              have e : g' = gg := by simpa [Value.ownBlock] using e
              subst e
              rcases HAT7.out with h1 | h1
              · exact HAP3.out g' h1
              · exact ⟨fun h2 => by have := HVLT.out _ h2; omega, fun h2 => by have := HVOT.out _ h2; omega⟩
            have HSS : Hid ((ls ++ [x2]).length = q + 1 ∧ s3.calls ≤ s.calls + (q + 1) ∧ s3.l = s.l ∧ s3.off = s.off) := by
              have h1 := HGL.out
              have h2 := HSM.out
              have h3 := HLS.out
              exact ⟨by simp; omega, by omega, h1.1.trans h2.1, h1.2.1.trans h2.2⟩
            clear hb7 hk7 hr7
            go_wp2
            go_roundw
            case rel => exact ⟨q + 1, vL3, vO3, s3, ls ++ [x2], cc + 1, by omega, by go_num, by rw [HZC.out], ⟨HBD.out, HSS.out.1, HSS.out.2.1, HSS.out.2.2.1, HSS.out.2.2.2⟩, HO7.out, HAP7.out, HL7.out, HM7.out⟩
            case measure => simp [intOf]; omega
    · have hqe : q = ways.length := by omega
      subst hqe
      have hge : ¬ ((ways.length : Int) < (ways.length : Int)) := by omega
      have HALL := Lib.hid (HAF.out.all)
      obtain ⟨au, cu, hau⟩ := owns_slice HOWN.out
      subst hau
      obtain ⟨zc, hzc⟩ : ∃ z : Int, ((c : Nat) : Int) = z := ⟨_, rfl⟩
      rw [hzc]
      clear HAF
      go_wp2_with fail
      refine (rBare_any zc wr).mono ?_
      rintro e wc ⟨rfl, hbc⟩
      have hzB := hbc.size
      have hrV := HVR.out.lt
      have hR1 := (HVR.out.keep (HMD.out.2 (w.heap.size + 1) (by omega) hrV)).keep (hbc.block (w.heap.size + 1) (by omega))
      obtain ⟨r0, r1, r2, r3⟩ := hR1.cells
      have hb6 : Below w.heap.size wc ((wc.setCell ⟨w.heap.size + 1, 0, none⟩ (.int .i64 zc)).setCell ⟨w.heap.size + 1, 1, none⟩ (.int .i64 (-1))) := below_store _ _ (Below.refl _ _) (by omega)
      have hk6 : Kept (fun gg => gg = w.heap.size + 1) wr ((wc.setCell ⟨w.heap.size + 1, 0, none⟩ (.int .i64 zc)).setCell ⟨w.heap.size + 1, 1, none⟩ (.int .i64 (-1))) := ⟨Nat.le_trans hzB hb6.size, fun gg h1 h2 => (heap_store _ _ h2).trans (hbc.block gg h1)⟩
      have hr6 := HLF.out.ref.kept hk6 (fun h1 => by omega) (fun gg e h1 => by
        rcases HLF.out.rowL gg e with h2 | h2
        · have := HVL.out gg h2; omega
        · omega) (fun gg e h1 => by
        rcases HLF.out.rowO gg e with h2 | h2
        · have := HVO0.out gg h2; omega
        · omega)
      have hl6 := ((RefLeft.of_below HRF0.out HVB.out).trans HLF.out).write hmlt hr6 ((hbc.mono (by omega)).trans hb6)
      have hrL6 : ((wc.setCell ⟨w.heap.size + 1, 0, none⟩ (.int .i64 zc)).setCell ⟨w.heap.size + 1, 1, none⟩ (.int .i64 (-1))).ownsRow w.heap.size 9 1 (.slice au ls.length cu) ls.length (ls.map sv) := (owns_kept HOWN.out fun gg e => hk6.block gg (HOL.out gg e).2 (fun h1 => by have := (HOL.out gg e).1; omega)).mono (by omega)
      obtain ⟨q0, q1, _, _⟩ := (hR1.store (.int .i64 zc) (.int .i64 (-1))).cells
      have HG : Hid (GotR w mb vL vO ((waysF ⟨n, u, k, g, m⟩ s ways 0).1, (waysF ⟨n, u, k, g, m⟩ s ways 0).2.1, (waysF ⟨n, u, k, g, m⟩ s ways 0).2.2.1, (waysF ⟨n, u, k, g, m⟩ s ways 0).2.2.2, -1) (.returned (.tuple #[.slice none 0 0, .slice au ls.length cu, .agg #[.int .i64 zc, .int .i64 (-1)]])) ((wc.setCell ⟨w.heap.size + 1, 0, none⟩ (.int .i64 zc)).setCell ⟨w.heap.size + 1, 1, none⟩ (.int .i64 (-1)))) := by
        show GotR w mb vL vO _ _ _
        rw [HALL.out]
        exact ⟨.slice none 0 0, au, cu, vL1, vO1, by simp [hzc], World.ownsRow_nil _ _ _ _, hrL6, hl6, fun gg e => by simp [Value.ownBlock] at e⟩
      clear hb6 hk6 hr6 hl6 hrL6 hbc
      go_wp2
      exact bodyPost_ret (v := .tuple #[.slice none 0 0, .slice au ls.length cu, .agg #[.int .i64 zc, .int .i64 (-1)]]) (by simp [results, Tryz.results17, go_sem, q0, q1]) rfl HG.out
end Go.Proofs.YtmcfkoenpikldaaGreatDoor
