/-
  Own texts of the proof, joined by program: RefGraft, RefPut, RefUnder, RefSame.
-/
import Derived.Test.YtpogcedghbokbaaGreatDoorRefDropRefSortRefStripRefClean
import Derived.Test.YtpogcedghbokbaaGreatDoorPkGraft
import Derived.Test.YtpogcedghbokbaaGreatDoorPkDeletePkInsertPkInsertGrowPkDropPkPut
import Derived.Test.YtpogcedghbokbaaGreatDoorTreeMem
/-
  The document's answer for trees: GraftOf: over this seat's translation.
-/
namespace Go.Proofs.YtpogcedghbokbaaGreatDoor
open Go.RowKit Go.Shelf

theorem joinOf_is (dir s c : List UInt8) (k : Int) (w : World) (hd : dir.length ≤ 40000) (hs : s.length ≤ 40000) (h0 : (cleanL (joinTo dir s)).1 = c) (h1 : ((cleanL (joinTo dir s)).2 : Int) = k) :
    Calls Tryz.prog 47 #[.string ⟨dir.toArray⟩, .string ⟨s.toArray⟩] w fun e w' => e = .returned (.tuple #[.string ⟨c.toArray⟩, .int .i64 k]) ∧ Below w.heap.size w w' := by
  have := joinOf_any dir s w hd hs
  rwa [h0, h1] at this

/-- A fault that is kept in a block of its own: what the block holds, and where nothing else has turned. -/
structure Kept (w wx : World) (fb : Nat) (c i : Int) : Prop where
  slot : Below (w.heap.size + 1) (w.alloc (.cells #[.int .i64 0, .int .i64 0] 38)) wx
  far : w.heap.size + 1 ≤ fb
  c0 : wx.cell? ⟨fb, 0, none⟩ = some (.int .i64 c)
  c1 : wx.cell? ⟨fb, 1, none⟩ = some (.int .i64 i)
  f0 : wx.frozen? ⟨fb, 0, none⟩ = false
  f1 : wx.frozen? ⟨fb, 1, none⟩ = false

theorem Kept.below {w wx wy : World} {fb : Nat} {c i : Int} (h : Kept w wx fb c i) (hb : Below wx.heap.size wx wy) : Kept w wy fb c i := by
  have hf : fb < wx.heap.size := block_lt_of_cell h.c0
  exact ⟨more_below h.slot rfl hb, h.far, (hb.cell (p := ⟨fb, 0, none⟩) hf).trans h.c0, (hb.cell (p := ⟨fb, 1, none⟩) hf).trans h.c1, (hb.frozen (p := ⟨fb, 0, none⟩) hf).trans h.f0, (hb.frozen (p := ⟨fb, 1, none⟩) hf).trans h.f1⟩
theorem Kept.set {w wx : World} {fb : Nat} {c i : Int} (h : Kept w wx fb c i) (c' i' : Int) : Kept w ((wx.setCell ⟨fb, 0, none⟩ (.int .i64 c')).setCell ⟨fb, 1, none⟩ (.int .i64 i')) fb c' i' := by
  refine ⟨(h.slot.setCell (p := ⟨fb, 0, none⟩) h.far _).setCell (p := ⟨fb, 1, none⟩) h.far _, h.far, ?_, ?_, ?_, ?_⟩
  · rw [World.cell?_setCell_other (h := by simp)]
    exact World.cell?_setCell_same' _ _ _ (by rw [h.c0]; rfl)
  · refine World.cell?_setCell_same' _ _ _ ?_
    rw [World.cell?_setCell_other (h := by simp), h.c1]
    rfl
  · rw [World.frozen?_setCell, World.frozen?_setCell]; exact h.f0
  · rw [World.frozen?_setCell, World.frozen?_setCell]; exact h.f1
theorem Kept.new {w wx : World} {c i : Int} (h : Below (w.heap.size + 1) (w.alloc (.cells #[.int .i64 0, .int .i64 0] 38)) wx) : Kept w (wx.alloc (.cells #[.int .i64 c, .int .i64 i] 38)) wx.heap.size c i := by
  have hs : w.heap.size + 1 ≤ wx.heap.size := by have := h.size; simpa using this
  obtain ⟨a0, a1, a2, a3, _⟩ := slot_two (w := wx) (u := .int .i64 c) (v := .int .i64 i) (T := 38) (Below.refl _ _)
  exact ⟨h.alloc hs _, hs, a0, a1, a2, a3⟩
theorem Kept.past {w wx wy : World} {fb : Nat} {c i : Int} (h : Kept w wx fb c i) (hb : Below (fb + 1) wx wy) : Kept w wy fb c i :=
  ⟨h.slot.trans (hb.mono (by have := h.far; omega)), h.far, (hb.cell (p := ⟨fb, 0, none⟩) (Nat.lt_succ_self _)).trans h.c0, (hb.cell (p := ⟨fb, 1, none⟩) (Nat.lt_succ_self _)).trans h.c1, (hb.frozen (p := ⟨fb, 0, none⟩) (Nat.lt_succ_self _)).trans h.f0, (hb.frozen (p := ⟨fb, 1, none⟩) (Nat.lt_succ_self _)).trans h.f1⟩
theorem Kept.base {w wx : World} {fb : Nat} {c i : Int} (h : Kept w wx fb c i) : Below w.heap.size w wx := (slot_two h.slot).2.2.2.2
theorem Kept.size {w wx : World} {fb : Nat} {c i : Int} (h : Kept w wx fb c i) : w.heap.size + 1 ≤ wx.heap.size := by have := h.slot.size; simpa using this

set_option maxRecDepth 100000 in
set_option maxHeartbeats 8000000 in
theorem refGraft_any (l m : List F) (a a' : Option Addr) (ca ca' : Nat) (dir : List UInt8) (w : World) (hl : LiesAt w a l) (hm : LiesAt w a' m) (hn : a = none → ca = 0 ∧ l = []) (hs : Small l) (hs' : Small m) (hd : dir.length ≤ 40000) :
    Calls Tryz.prog 23 #[.slice a l.length ca, .string ⟨dir.toArray⟩, .slice a' m.length ca'] w fun e w' => (∃ v, e = .returned (.tuple #[v, .agg #[.int .i64 (graftT l dir m).2.1, .int .i64 (graftT l dir m).2.2]]) ∧ w'.ownsRow w.heap.size 24 3 v (graftT l dir m).1.length (lcells (graftT l dir m).1)) ∧ Below w.heap.size w w' := by
  have hfew := hs.few
  have hfew' := hs'.few
  have HL : Hid (LiesAt w a l) := hl
  have HM : Hid (LiesAt w a' m) := hm
  have HS : Hid (Small l) := hs
  have HS' : Hid (Small m) := hs'
  have HN : Hid (a = none → ca = 0 ∧ l = []) := hn
  clear hl hm hs hs' hn
  obtain ⟨i0, hi, hz0, hz1, hz2⟩ := info_parts Tryz.infoFile
  go_enter Tryz.func23, Tryz.ntmps23
  go_wp2_with fail
  refine (refTreeFault_any l a ca _ (HL.out.below ((Below.refl _ _).alloc (Nat.le_refl _) _)) HS.out).mono ?_
  rintro e w1 ⟨rfl, hb1⟩
  have HK1 : Hid (Kept w (w1.alloc (.cells #[.int .i64 (treeFault l).1, .int .i64 (treeFault l).2] 38)) w1.heap.size (treeFault l).1 (treeFault l).2) := Kept.new (hb1.mono (by simp))
  clear hb1
  by_cases hc : (treeFault l).1 = 0
  · have HC0 : Hid ((treeFault l).1 = 0) := hc
    have hz : treeFault l = (0, -1) := treeFault_zero hc
    rw [hz] at HK1 ⊢
    clear hc hz
    generalize hfb : w1.heap.size = fb at HK1
    go_wp2_with fail
    clear hfb
    refine (refTreeFault_any m a' ca' _ (HM.out.below HK1.out.base) HS'.out).mono ?_
    rintro e w2 ⟨rfl, hb2⟩
    have hk2 := HK1.out.below hb2
    have HK2 : Hid (Kept w ((w2.setCell ⟨fb, 0, none⟩ (.int .i64 (treeFault m).1)).setCell ⟨fb, 1, none⟩ (.int .i64 (treeFault m).2)) fb (treeFault m).1 (treeFault m).2) := hk2.set _ _
    obtain ⟨_, _, t0, t1, t2, t3⟩ := hk2
    clear hb2
    by_cases hcm : (treeFault m).1 = 0
    · have HCM : Hid ((treeFault m).1 = 0) := hcm
      have hz : treeFault m = (0, -1) := treeFault_zero hcm
      rw [hz] at HK2 ⊢
      obtain ⟨_, _, u0, u1, u2, u3⟩ := HK2.out
      clear hcm hz
      go_wp2_with fail
      obtain ⟨W2, hW2⟩ : ∃ W2, W2 = (w2.setCell ⟨fb, 0, none⟩ (.int .i64 0)).setCell ⟨fb, 1, none⟩ (.int .i64 (-1)) := ⟨_, rfl⟩
      have HKW : Hid (Kept w W2 fb 0 (-1)) := by show Kept _ _ _ _ _; rw [hW2]; exact HK2.out
      rw [← hW2]
      clear hW2 HK2 t0 t1 t2 t3 u0 u1 u2 u3
      by_cases hcd : checkCode dir = 0
      · have HCD : Hid (checkCode dir = 0) := hcd
        have HG : Hid (graftT l dir m = if (joinAll dir m).2.1 ≠ 0 then ([], (joinAll dir m).2.1, -1) else ((sortT (l ++ (joinAll dir m).1)).1, (sortT (l ++ (joinAll dir m).1)).2.1, -1)) := by
          show graftT l dir m = _
          unfold graftT
          rw [if_neg (by simp [HC0.out]), if_neg (by simp [HCM.out]), if_neg (by simp [hcd])]
        refine (pathError_is dir 0 _ (by omega) (by rw [hcd]; rfl)).mono ?_
        rintro e w3 ⟨rfl, hb3⟩
        have HK3 : Hid (Kept w w3 fb 0 (-1)) := HKW.out.below hb3
        clear hb3 hcd
        go_wp2_with fail
        refine (bare_any 0 _).mono ?_
        rintro e w4 ⟨rfl, hb4⟩
        have hk4 := HK3.out.below hb4
        have HK5' : Hid (Kept w ((w4.setCell ⟨fb, 0, none⟩ (.int .i64 0)).setCell ⟨fb, 1, none⟩ (.int .i64 (-1))) fb 0 (-1)) := hk4.set _ _
        obtain ⟨_, _, t0, t1, t2, t3⟩ := hk4
        obtain ⟨_, _, u0, u1, u2, u3⟩ := HK5'.out
        clear hb4
        rcases (show (∃ ad, a = some ad) ∨ a = none by cases a with | none => exact .inr rfl | some ad => exact .inl ⟨ad, rfl⟩) with ⟨ad, rfl⟩ | rfl
        · have HNW : Hid (∀ j u, (lcells l)[j]? = some u → ((w4.setCell ⟨fb, 0, none⟩ (.int .i64 0)).setCell ⟨fb, 1, none⟩ (.int .i64 (-1))).cell? (ad.add j) = some u) := (HL.out.below HK5'.out.base).news
          have hf5 : fb + 1 ≤ ((w4.setCell ⟨fb, 0, none⟩ (.int .i64 0)).setCell ⟨fb, 1, none⟩ (.int .i64 (-1))).heap.size := block_lt_of_cell HK5'.out.c0
          go_wp2_with (at_builtin; refine wpList_append_own _ rfl _ _ 22 rfl (fb + 1) 24 i0 (.agg #[.string ⟨#[]⟩, .bool false, .string ⟨#[]⟩]) 3 40 Tryz.underlying22 hi hz0 hz1 hz2 rfl (by decide) (.slice none 0 0) 0 [] rfl (World.ownsRow_nil _ _ _ _) ad l.length ca (lcells l) rfl (lcells_length l) HNW.out (lcells_one l) (by unfold maxLen; omega) (by omega) hf5 ?_; intro v6 w6 hown6 hgrow6 _)
          obtain ⟨W5, hW5⟩ : ∃ W5, W5 = (w4.setCell ⟨fb, 0, none⟩ (.int .i64 0)).setCell ⟨fb, 1, none⟩ (.int .i64 (-1)) := ⟨_, rfl⟩
          rw [← hW5] at hgrow6 HK5' hf5
          have HK5 : Hid (Kept w W5 fb 0 (-1)) := HK5'.out
          have HB6 : Hid (Below (fb + 1) W5 w6) := (Below.refl _ _).grown hgrow6 hf5 (fun k e => by cases e)
          have HOWN : Hid (w6.ownsRow (fb + 1) 24 3 v6 l.length (lcells l)) := by show World.ownsRow _ _ _ _ _ _ _; simpa using hown6
          clear hW5 hgrow6 hown6 HNW HK5' t0 t1 t2 t3 u0 u1 u2 u3 hf5
          go_loopw [9, 10] (fun out i wr => ∃ k : Nat, k ≤ m.length ∧ i = .int .i64 k ∧ ((∀ j (h : j < m.length), j < k → (cleanL (joinTo dir m[j].p)).2 = 0) ∧ wr.ownsRow (fb + 1) 24 3 out (l ++ joined dir (m.take k)).length (lcells (l ++ joined dir (m.take k)))) ∧ Below (fb + 1) W5 wr) (fun _ i _ => m.length - (intOf i).toNat)
          case atStart => exact ⟨0, by omega, rfl, ⟨fun _ _ h => by omega, by simpa [joined] using HOWN.out⟩, HB6.out⟩
          case round =>
            obtain ⟨k, hk, rfl, ⟨hz, hrow⟩, hb⟩ := hrel
            have HB : Hid (Below (fb + 1) W5 wr) := hb
            have HKR : Hid (Kept w wr fb 0 (-1)) := HK5.out.past hb
            have HZ : Hid (∀ j (h : j < m.length), j < k → (cleanL (joinTo dir m[j].p)).2 = 0) := hz
            have HROW : Hid (wr.ownsRow (fb + 1) 24 3 _ (l ++ joined dir (m.take k)).length (lcells (l ++ joined dir (m.take k)))) := hrow
            have hfr : fb + 1 ≤ wr.heap.size := by have := block_lt_of_cell HKR.out.c0; exact this
            clear hb hrow hz
            have hwl : (l ++ joined dir (m.take k)).length ≤ 200000 := by
              rw [List.length_append, joined, List.length_map, List.length_take]; omega
            by_cases hlt : k < m.length
            · have hlt' : (k : Int) < (m.length : Int) := by omega
              obtain ⟨b, o, rfl, c0, c1, c2⟩ := (HM.out.below HKR.out.base).at hlt
              have hpl := HS'.out.path _ (List.getElem_mem hlt)
              cases hst : cleanL (joinTo dir m[k].p) with
              | mk c kk =>
              by_cases hkk : kk = 0
              · subst hkk
                have HNX : Hid (∀ j (h : j < m.length), j < k + 1 → (cleanL (joinTo dir m[j].p)).2 = 0) := by
                  intro j hj hjk
                  by_cases e : j = k
                  · subst e; rw [hst]
                  · exact HZ.out j hj (by omega)
                have HW : Hid (l ++ joined dir (m.take (k + 1)) = l ++ joined dir (m.take k) ++ [{ m[k] with p := c }]) := by
                  show _ = _
                  rw [joined_take hlt, hst, List.append_assoc]
                have HST : Hid ((cleanL (joinTo dir m[k].p)).1 = c ∧ ((cleanL (joinTo dir m[k].p)).2 : Int) = 0) := by rw [hst]; exact ⟨rfl, rfl⟩
                clear hst
                generalize m[k] = f at c0 c1 c2 hpl HST HW
                go_wp2_with fail
                refine (joinOf_is dir f.p c 0 _ (by omega) (by omega) HST.out.1 HST.out.2).mono ?_
                rintro e w7 ⟨rfl, hb7⟩
                have hbx : Below (wr.heap.size + 1) (wr.alloc (.cells #[sv f.p, .bool f.r, sv f.t] 24)) w7 := hb7.mono (by simp)
                obtain ⟨g0, g1, g2, hB7⟩ := box_three hbx
                have gf := box_frozen hbx
                have hsz7 : wr.heap.size + 1 ≤ w7.heap.size := by have := hb7.size; simpa using this
                have hrow2 := owns_later (j := 0) (sv c) HROW.out hB7 (Nat.le_refl _)
                have HB7 : Hid (Below (fb + 1) W5 w7) := HB.out.trans (hB7.mono hfr)
                clear hb7 hbx hB7
                obtain ⟨j0, j1, j2⟩ := box_set (sv c) g0 g1 g2
                go_wp2_with (at_builtin; refine wpList_append_own _ rfl _ _ 22 rfl (fb + 1) 24 i0 (.agg #[.string ⟨#[]⟩, .bool false, .string ⟨#[]⟩]) 3 40 Tryz.underlying22 hi hz0 hz1 hz2 rfl (by decide) _ _ _ rfl (hrow2.alloc _) ⟨w7.heap.size, 0, none⟩ 1 1 [sv c, .bool f.r, sv f.t] rfl rfl (three_new _ _ _ _ _ _ (by simp)) (by simp [Value.oneCell']) (by unfold maxLen; omega) (by omega) (by simp; omega) ?_; intro v' w8 hown' hgrow _)
                have HB8 : Below (fb + 1) W5 w8 := ((HB7.out.setCell (p := ⟨wr.heap.size, 0, none⟩) hfr _).alloc (by simp; omega) _).grown hgrow (by simp; omega) (fun j ej => (hrow2.lt j ej).1)
                refine ⟨⟨k + 1, by omega, by go_num, ⟨HNX.out, ?_⟩, HB8⟩, by simp [intOf]; omega⟩
                rw [HW.out, lcells_app, List.length_append]
                simpa [lcells, fcells] using hown'
              · have HT : Hid (graftT l dir m = ([], kk, -1)) := by
                  show graftT l dir m = _
                  have := mapPaths_at (fun s => cleanL (joinTo dir s)) m k 0 hlt HZ.out (by show (cleanL (joinTo dir m[k].p)).2 ≠ 0; rw [hst]; exact hkk)
                  have e : (joinAll dir m).2.1 = kk := by
                    show (mapPaths _ 0 m).2.1 = _
                    rw [this]
                    show (cleanL (joinTo dir m[k].p)).2 = _
                    rw [hst]
                  rw [HG.out, e, if_pos hkk]
                have hpos : (0 : Int) < (kk : Int) := by omega
                have HST : Hid ((cleanL (joinTo dir m[k].p)).1 = c ∧ ((cleanL (joinTo dir m[k].p)).2 : Int) = kk) := by rw [hst]; exact ⟨rfl, rfl⟩
                clear hst hkk
                generalize m[k] = f at c0 c1 c2 hpl HST
                go_wp2_with fail
                refine (joinOf_is dir f.p c kk _ (by omega) (by omega) HST.out.1 HST.out.2).mono ?_
                rintro e w7 ⟨rfl, hb7⟩
                have hB7 : Below wr.heap.size wr w7 := ((Below.refl _ wr).alloc (Nat.le_refl _) _).trans (hb7.mono (by simp))
                have HK7 : Hid (Kept w w7 fb 0 (-1)) := HKR.out.below hB7
                clear hb7 hB7
                go_wp2_with fail
                refine (bare_any kk _).mono ?_
                rintro e w8 ⟨rfl, hb8⟩
                obtain ⟨s0, s1, s2, s3, s4⟩ := slot_two (HK7.out.below hb8).slot
                clear hb8
                go_wp2
                obtain ⟨q0, q1, q2⟩ := slot_set (w := w) (.int .i64 kk) (.int .i64 (-1)) s0 s1 s4
                exact bodyPost_ret (v := .tuple #[.slice none 0 0, .agg #[.int .i64 kk, .int .i64 (-1)]]) (by simp [results, Tryz.results23, go_sem, q0, q1]) rfl ⟨⟨_, by rw [HT.out], by rw [HT.out]; exact World.ownsRow_nil _ _ _ _⟩, q2⟩
            · obtain rfl : k = m.length := by omega
              have hall : ∀ f ∈ m, (cleanL (joinTo dir f.p)).2 = 0 := fun f hf => by
                obtain ⟨j, hj, rfl⟩ := List.getElem_of_mem hf
                exact HZ.out j hj hj
              have hst : joinAll dir m = (joined dir m, 0, 0) := mapPaths_all (fun s => cleanL (joinTo dir s)) m 0 hall
              have HT : Hid (graftT l dir m = ((sortT (l ++ joined dir m)).1, (sortT (l ++ joined dir m)).2.1, -1)) := by
                show graftT l dir m = _
                rw [HG.out, hst]
                rfl
              have HSM := graft_small HC0.out HCM.out HCD.out hall
              have hrow := HROW.out
              rw [List.take_length] at hrow
              obtain ⟨av, cv, rfl, hlies, _⟩ := owns_lies hrow
              have HLI : Hid (LiesAt wr av (l ++ joined dir m)) := hlies
              clear hrow hlies hst hall hwl
              generalize (l ++ joined dir m) = t at HT HLI HSM
              obtain ⟨R, rc, ri, hr⟩ : ∃ R rc ri, sortT t = (R, rc, ri) := ⟨_, _, _, rfl⟩
              have HR : Hid (sortT t = (R, rc, ri)) := hr
              have HTR : Hid (graftT l dir m = (R, rc, -1)) := by show graftT l dir m = _; rw [HT.out, hr]
              clear hr HT
              go_wp2_with fail
              refine (refSort_is t (R, rc, ri) rc ri av cv _ HLI.out HSM HR.out rfl rfl).mono ?_
              rintro e w7 ⟨⟨v, rfl, hown⟩, hb7⟩
              have hk7 := HKR.out.below hb7
              have HK8 : Hid (Kept w ((w7.setCell ⟨fb, 0, none⟩ (.int .i64 rc)).setCell ⟨fb, 1, none⟩ (.int .i64 ri)) fb rc ri) := hk7.set _ _
              have HOW8 : Hid (((w7.setCell ⟨fb, 0, none⟩ (.int .i64 rc)).setCell ⟨fb, 1, none⟩ (.int .i64 ri)).ownsRow wr.heap.size 24 3 v R.length (lcells R)) :=
                owns_keep hown fun g hg _ => (Below.heap_setCell _ _ _ _ (by show g ≠ fb; omega)).trans (Below.heap_setCell _ _ _ _ (by show g ≠ fb; omega))
              obtain ⟨_, _, t0, t1, t2, t3⟩ := hk7
              obtain ⟨_, _, u0, u1, u2, u3⟩ := HK8.out
              clear hb7 hown
              go_wp2_with fail
              refine (bare_any rc _).mono ?_
              rintro e w9 ⟨rfl, hb9⟩
              have hrow9 : w9.ownsRow (w.heap.size + 1) 24 3 v R.length (lcells R) := (owns_below HOW8.out hb9).mono HKR.out.size
              obtain ⟨s0, s1, s2, s3, s4⟩ := slot_two (HK8.out.below hb9).slot
              clear hb9 t0 t1 t2 t3 u0 u1 u2 u3
              go_wp2
              obtain ⟨q0, q1, q2⟩ := slot_set (w := w) (.int .i64 rc) (.int .i64 (-1)) s0 s1 s4
              exact bodyPost_ret (v := .tuple #[v, .agg #[.int .i64 rc, .int .i64 (-1)]]) (by simp [results, Tryz.results23, go_sem, q0, q1]) rfl ⟨⟨_, by rw [HTR.out], by rw [HTR.out]; exact owns_slot _ _ hrow9⟩, q2⟩
        · obtain ⟨rfl, rfl⟩ := HN.out rfl
          go_wp2_with fail
          obtain ⟨W5, hW5⟩ : ∃ W5, W5 = (w4.setCell ⟨fb, 0, none⟩ (.int .i64 0)).setCell ⟨fb, 1, none⟩ (.int .i64 (-1)) := ⟨_, rfl⟩
          rw [← hW5] at HK5' ⊢
          have HK5 : Hid (Kept w W5 fb 0 (-1)) := HK5'.out
          have HB6 : Hid (Below (fb + 1) W5 W5) := Below.refl _ _
          have HOWN : Hid (W5.ownsRow (fb + 1) 24 3 (.slice none 0 0) 0 (lcells [])) := World.ownsRow_nil _ _ _ _
          clear hW5 HK5' t0 t1 t2 t3 u0 u1 u2 u3
          go_loopw [9, 10] (fun out i wr => ∃ k : Nat, k ≤ m.length ∧ i = .int .i64 k ∧ ((∀ j (h : j < m.length), j < k → (cleanL (joinTo dir m[j].p)).2 = 0) ∧ wr.ownsRow (fb + 1) 24 3 out (([] : List F) ++ joined dir (m.take k)).length (lcells (([] : List F) ++ joined dir (m.take k)))) ∧ Below (fb + 1) W5 wr) (fun _ i _ => m.length - (intOf i).toNat)
          case atStart => exact ⟨0, by omega, rfl, ⟨fun _ _ h => by omega, by simpa [joined] using HOWN.out⟩, HB6.out⟩
          case round =>
            obtain ⟨k, hk, rfl, ⟨hz, hrow⟩, hb⟩ := hrel
            have HB : Hid (Below (fb + 1) W5 wr) := hb
            have HKR : Hid (Kept w wr fb 0 (-1)) := HK5.out.past hb
            have HZ : Hid (∀ j (h : j < m.length), j < k → (cleanL (joinTo dir m[j].p)).2 = 0) := hz
            have HROW : Hid (wr.ownsRow (fb + 1) 24 3 _ (([] : List F) ++ joined dir (m.take k)).length (lcells (([] : List F) ++ joined dir (m.take k)))) := hrow
            have hfr : fb + 1 ≤ wr.heap.size := by have := block_lt_of_cell HKR.out.c0; exact this
            clear hb hrow hz
            have hwl : (([] : List F) ++ joined dir (m.take k)).length ≤ 200000 := by
              rw [List.length_append, joined, List.length_map, List.length_take]; omega
            by_cases hlt : k < m.length
            · have hlt' : (k : Int) < (m.length : Int) := by omega
              obtain ⟨b, o, rfl, c0, c1, c2⟩ := (HM.out.below HKR.out.base).at hlt
              have hpl := HS'.out.path _ (List.getElem_mem hlt)
              cases hst : cleanL (joinTo dir m[k].p) with
              | mk c kk =>
              by_cases hkk : kk = 0
              · subst hkk
                have HNX : Hid (∀ j (h : j < m.length), j < k + 1 → (cleanL (joinTo dir m[j].p)).2 = 0) := by
                  intro j hj hjk
                  by_cases e : j = k
                  · subst e; rw [hst]
                  · exact HZ.out j hj (by omega)
                have HW : Hid (([] : List F) ++ joined dir (m.take (k + 1)) = ([] : List F) ++ joined dir (m.take k) ++ [{ m[k] with p := c }]) := by
                  show _ = _
                  rw [joined_take hlt, hst, List.append_assoc]
                have HST : Hid ((cleanL (joinTo dir m[k].p)).1 = c ∧ ((cleanL (joinTo dir m[k].p)).2 : Int) = 0) := by rw [hst]; exact ⟨rfl, rfl⟩
                clear hst
                generalize m[k] = f at c0 c1 c2 hpl HST HW
                go_wp2_with fail
                refine (joinOf_is dir f.p c 0 _ (by omega) (by omega) HST.out.1 HST.out.2).mono ?_
                rintro e w7 ⟨rfl, hb7⟩
                have hbx : Below (wr.heap.size + 1) (wr.alloc (.cells #[sv f.p, .bool f.r, sv f.t] 24)) w7 := hb7.mono (by simp)
                obtain ⟨g0, g1, g2, hB7⟩ := box_three hbx
                have gf := box_frozen hbx
                have hsz7 : wr.heap.size + 1 ≤ w7.heap.size := by have := hb7.size; simpa using this
                have hrow2 := owns_later (j := 0) (sv c) HROW.out hB7 (Nat.le_refl _)
                have HB7 : Hid (Below (fb + 1) W5 w7) := HB.out.trans (hB7.mono hfr)
                clear hb7 hbx hB7
                obtain ⟨j0, j1, j2⟩ := box_set (sv c) g0 g1 g2
                go_wp2_with (at_builtin; refine wpList_append_own _ rfl _ _ 22 rfl (fb + 1) 24 i0 (.agg #[.string ⟨#[]⟩, .bool false, .string ⟨#[]⟩]) 3 40 Tryz.underlying22 hi hz0 hz1 hz2 rfl (by decide) _ _ _ rfl (hrow2.alloc _) ⟨w7.heap.size, 0, none⟩ 1 1 [sv c, .bool f.r, sv f.t] rfl rfl (three_new _ _ _ _ _ _ (by simp)) (by simp [Value.oneCell']) (by unfold maxLen; omega) (by omega) (by simp; omega) ?_; intro v' w8 hown' hgrow _)
                have HB8 : Below (fb + 1) W5 w8 := ((HB7.out.setCell (p := ⟨wr.heap.size, 0, none⟩) hfr _).alloc (by simp; omega) _).grown hgrow (by simp; omega) (fun j ej => (hrow2.lt j ej).1)
                refine ⟨⟨k + 1, by omega, by go_num, ⟨HNX.out, ?_⟩, HB8⟩, by simp [intOf]; omega⟩
                rw [HW.out, lcells_app, List.length_append]
                simpa [lcells, fcells] using hown'
              · have HT : Hid (graftT ([] : List F) dir m = ([], kk, -1)) := by
                  show graftT ([] : List F) dir m = _
                  have := mapPaths_at (fun s => cleanL (joinTo dir s)) m k 0 hlt HZ.out (by show (cleanL (joinTo dir m[k].p)).2 ≠ 0; rw [hst]; exact hkk)
                  have e : (joinAll dir m).2.1 = kk := by
                    show (mapPaths _ 0 m).2.1 = _
                    rw [this]
                    show (cleanL (joinTo dir m[k].p)).2 = _
                    rw [hst]
                  rw [HG.out, e, if_pos hkk]
                have hpos : (0 : Int) < (kk : Int) := by omega
                have HST : Hid ((cleanL (joinTo dir m[k].p)).1 = c ∧ ((cleanL (joinTo dir m[k].p)).2 : Int) = kk) := by rw [hst]; exact ⟨rfl, rfl⟩
                clear hst hkk
                generalize m[k] = f at c0 c1 c2 hpl HST
                go_wp2_with fail
                refine (joinOf_is dir f.p c kk _ (by omega) (by omega) HST.out.1 HST.out.2).mono ?_
                rintro e w7 ⟨rfl, hb7⟩
                have hB7 : Below wr.heap.size wr w7 := ((Below.refl _ wr).alloc (Nat.le_refl _) _).trans (hb7.mono (by simp))
                have HK7 : Hid (Kept w w7 fb 0 (-1)) := HKR.out.below hB7
                clear hb7 hB7
                go_wp2_with fail
                refine (bare_any kk _).mono ?_
                rintro e w8 ⟨rfl, hb8⟩
                obtain ⟨s0, s1, s2, s3, s4⟩ := slot_two (HK7.out.below hb8).slot
                clear hb8
                go_wp2
                obtain ⟨q0, q1, q2⟩ := slot_set (w := w) (.int .i64 kk) (.int .i64 (-1)) s0 s1 s4
                exact bodyPost_ret (v := .tuple #[.slice none 0 0, .agg #[.int .i64 kk, .int .i64 (-1)]]) (by simp [results, Tryz.results23, go_sem, q0, q1]) rfl ⟨⟨_, by rw [HT.out], by rw [HT.out]; exact World.ownsRow_nil _ _ _ _⟩, q2⟩
            · obtain rfl : k = m.length := by omega
              have hall : ∀ f ∈ m, (cleanL (joinTo dir f.p)).2 = 0 := fun f hf => by
                obtain ⟨j, hj, rfl⟩ := List.getElem_of_mem hf
                exact HZ.out j hj hj
              have hst : joinAll dir m = (joined dir m, 0, 0) := mapPaths_all (fun s => cleanL (joinTo dir s)) m 0 hall
              have HT : Hid (graftT ([] : List F) dir m = ((sortT (([] : List F) ++ joined dir m)).1, (sortT (([] : List F) ++ joined dir m)).2.1, -1)) := by
                show graftT ([] : List F) dir m = _
                rw [HG.out, hst]
                rfl
              have HSM := graft_small HC0.out HCM.out HCD.out hall
              have hrow := HROW.out
              rw [List.take_length] at hrow
              obtain ⟨av, cv, rfl, hlies, _⟩ := owns_lies hrow
              have HLI : Hid (LiesAt wr av (([] : List F) ++ joined dir m)) := hlies
              clear hrow hlies hst hall hwl
              generalize (([] : List F) ++ joined dir m) = t at HT HLI HSM
              obtain ⟨R, rc, ri, hr⟩ : ∃ R rc ri, sortT t = (R, rc, ri) := ⟨_, _, _, rfl⟩
              have HR : Hid (sortT t = (R, rc, ri)) := hr
              have HTR : Hid (graftT ([] : List F) dir m = (R, rc, -1)) := by show graftT ([] : List F) dir m = _; rw [HT.out, hr]
              clear hr HT
              go_wp2_with fail
              refine (refSort_is t (R, rc, ri) rc ri av cv _ HLI.out HSM HR.out rfl rfl).mono ?_
              rintro e w7 ⟨⟨v, rfl, hown⟩, hb7⟩
              have hk7 := HKR.out.below hb7
              have HK8 : Hid (Kept w ((w7.setCell ⟨fb, 0, none⟩ (.int .i64 rc)).setCell ⟨fb, 1, none⟩ (.int .i64 ri)) fb rc ri) := hk7.set _ _
              have HOW8 : Hid (((w7.setCell ⟨fb, 0, none⟩ (.int .i64 rc)).setCell ⟨fb, 1, none⟩ (.int .i64 ri)).ownsRow wr.heap.size 24 3 v R.length (lcells R)) :=
                owns_keep hown fun g hg _ => (Below.heap_setCell _ _ _ _ (by show g ≠ fb; omega)).trans (Below.heap_setCell _ _ _ _ (by show g ≠ fb; omega))
              obtain ⟨_, _, t0, t1, t2, t3⟩ := hk7
              obtain ⟨_, _, u0, u1, u2, u3⟩ := HK8.out
              clear hb7 hown
              go_wp2_with fail
              refine (bare_any rc _).mono ?_
              rintro e w9 ⟨rfl, hb9⟩
              have hrow9 : w9.ownsRow (w.heap.size + 1) 24 3 v R.length (lcells R) := (owns_below HOW8.out hb9).mono HKR.out.size
              obtain ⟨s0, s1, s2, s3, s4⟩ := slot_two (HK8.out.below hb9).slot
              clear hb9 t0 t1 t2 t3 u0 u1 u2 u3
              go_wp2
              obtain ⟨q0, q1, q2⟩ := slot_set (w := w) (.int .i64 rc) (.int .i64 (-1)) s0 s1 s4
              exact bodyPost_ret (v := .tuple #[v, .agg #[.int .i64 rc, .int .i64 (-1)]]) (by simp [results, Tryz.results23, go_sem, q0, q1]) rfl ⟨⟨_, by rw [HTR.out], by rw [HTR.out]; exact owns_slot _ _ hrow9⟩, q2⟩
      · have HD : Hid (graftT l dir m = ([], checkCode dir, -1)) := by
          show graftT l dir m = _
          simp [graftT, HC0.out, HCM.out, hcd]
        have hpos : (0 : Int) < (checkCode dir : Int) := by omega
        refine (pathError_any dir _ (by omega)).mono ?_
        rintro e w3 ⟨rfl, hb3⟩
        have HK3 : Hid (Kept w w3 fb 0 (-1)) := HKW.out.below hb3
        clear hb3 hcd
        generalize checkCode dir = cc at hpos HD
        go_wp2_with fail
        refine (bare_any cc _).mono ?_
        rintro e w4 ⟨rfl, hb4⟩
        have hk4 := HK3.out.below hb4
        have HK5 : Hid (Kept w ((w4.setCell ⟨fb, 0, none⟩ (.int .i64 cc)).setCell ⟨fb, 1, none⟩ (.int .i64 (-1))) fb cc (-1)) := hk4.set _ _
        obtain ⟨_, _, t0, t1, t2, t3⟩ := hk4
        obtain ⟨_, _, u0, u1, u2, u3⟩ := HK5.out
        obtain ⟨s0, s1, s2, s3, s4⟩ := slot_two HK5.out.slot
        clear hb4
        go_wp2
        go_region
        all_goals go_wp2
        all_goals
          obtain ⟨q0, q1, q2⟩ := slot_set (w := w) (.int .i64 cc) (.int .i64 (-1)) s0 s1 s4
          exact bodyPost_ret (v := .tuple #[.slice none 0 0, .agg #[.int .i64 cc, .int .i64 (-1)]]) (by simp [results, Tryz.results23, go_sem, q0, q1]) rfl ⟨⟨_, by rw [HD.out], by rw [HD.out]; exact World.ownsRow_nil _ _ _ _⟩, q2.drew⟩
    · have HD : Hid (graftT l dir m = ([], treeFault m)) := by
        show graftT l dir m = _
        simp [graftT, HC0.out, hcm]
      obtain ⟨_, _, u0, u1, u2, u3⟩ := HK2.out
      obtain ⟨s0, s1, s2, s3, s4⟩ := slot_two HK2.out.slot
      generalize treeFault m = tf at *
      have hne : ((tf.1 : Int) == 0) = false := by simp; omega
      have hpos : (0 : Int) < (tf.1 : Int) := by omega
      go_wp2
      go_region
      all_goals go_wp2
      all_goals
        obtain ⟨q0, q1, q2⟩ := slot_set (w := w) (.int .i64 tf.1) (.int .i64 tf.2) s0 s1 s4
        exact bodyPost_ret (v := .tuple #[.slice none 0 0, .agg #[.int .i64 tf.1, .int .i64 tf.2]]) (by simp [results, Tryz.results23, go_sem, q0, q1]) rfl ⟨⟨_, by rw [HD.out], by rw [HD.out]; exact World.ownsRow_nil _ _ _ _⟩, q2.drew⟩
  · have HD : Hid (graftT l dir m = ([], treeFault l)) := by
      show graftT l dir m = _
      simp [graftT, hc]
    obtain ⟨s0, s1, s2, s3, s4⟩ := slot_two HK1.out.slot
    clear HK1
    generalize treeFault l = tf at *
    have hne : ((tf.1 : Int) == 0) = false := by simp; omega
    have hpos : (0 : Int) < (tf.1 : Int) := by omega
    go_wp2
    go_region
    all_goals go_wp2
    all_goals
      obtain ⟨q0, q1, q2⟩ := slot_set (w := w) (.int .i64 tf.1) (.int .i64 tf.2) s0 s1 s4
      exact bodyPost_ret (v := .tuple #[.slice none 0 0, .agg #[.int .i64 tf.1, .int .i64 tf.2]]) (by simp [results, Tryz.results23, go_sem, q0, q1]) rfl ⟨⟨_, by rw [HD.out], by rw [HD.out]; exact World.ownsRow_nil _ _ _ _⟩, q2.drew⟩
end Go.Proofs.YtpogcedghbokbaaGreatDoor
/-
  The document's answer for trees: PutFile: over this seat's translation.
-/
namespace Go.Proofs.YtpogcedghbokbaaGreatDoor
open Go.RowKit Go.Shelf

theorem kept_box {w wx : World} {x : F} {fb : Nat} {c i : Int} (h : Kept (w.alloc (.cells #[sv x.p, .bool x.r, sv x.t] 24)) wx fb c i) :
    wx.cell? ⟨w.heap.size, 0, none⟩ = some (sv x.p) ∧ wx.cell? ⟨w.heap.size, 1, none⟩ = some (.bool x.r) ∧ wx.cell? ⟨w.heap.size, 2, none⟩ = some (sv x.t) ∧ Below w.heap.size w wx :=
  box_three (h.base.mono (by simp))

/-- The two cells of a result that lies behind a box. -/
theorem kept_slot {w wx : World} {x : F} {fb : Nat} {c i : Int} (h : Kept (w.alloc (.cells #[sv x.p, .bool x.r, sv x.t] 24)) wx fb c i) :
    wx.cell? ⟨w.heap.size + 1, 0, none⟩ = some (.int .i64 0) ∧ wx.cell? ⟨w.heap.size + 1, 1, none⟩ = some (.int .i64 0) ∧ wx.frozen? ⟨w.heap.size + 1, 0, none⟩ = false ∧ wx.frozen? ⟨w.heap.size + 1, 1, none⟩ = false := by
  have := slot_two h.slot
  rw [World.size_alloc] at this
  exact ⟨this.1, this.2.1, this.2.2.1, this.2.2.2.1⟩

theorem slot_far {w wr : World} {b : Nat} {u v : Value} (x y : Value) (h0 : wr.cell? ⟨b, 0, none⟩ = some u) (h1 : wr.cell? ⟨b, 1, none⟩ = some v) (hw : w.heap.size ≤ b) (hb : Below w.heap.size w wr) :
    (wr.setCell ⟨b, 0, none⟩ x).cell? ⟨b, 0, none⟩ = some x ∧ ((wr.setCell ⟨b, 0, none⟩ x).setCell ⟨b, 1, none⟩ y).cell? ⟨b, 1, none⟩ = some y ∧ Below w.heap.size w ((wr.setCell ⟨b, 0, none⟩ x).setCell ⟨b, 1, none⟩ y) := by
  refine ⟨World.cell?_setCell_same' _ _ _ (by rw [h0]; rfl), World.cell?_setCell_same' _ _ _ ?_, (hb.setCell (p := ⟨b, 0, none⟩) hw _).setCell (p := ⟨b, 1, none⟩) hw _⟩
  rw [World.cell?_setCell_other (h := by simp), h1]
  rfl

theorem owns_far {w : World} {b base : Nat} {e : TypeId} {size : Nat} {v : Value} {n : Nat} {xs : List Value} (x y : Value) (h : w.ownsRow base e size v n xs) (hb : b < base) : ((w.setCell ⟨b, 0, none⟩ x).setCell ⟨b, 1, none⟩ y).ownsRow base e size v n xs :=
  owns_keep h fun g hg _ => (Below.heap_setCell _ _ _ _ (by show g ≠ b; omega)).trans (Below.heap_setCell _ _ _ _ (by show g ≠ b; omega))

theorem tail_src' {w : World} {b o cap j : Nat} {s : List F} (hl : LiesAt w (some ⟨b, o, none⟩) s) (hj : j ≤ s.length) (hcap : s.length ≤ cap) :
    ∃ A : Addr, (if cap = j then some (⟨b, o, none⟩ : Addr) else some ⟨b, o + j * 3, none⟩) = some A ∧ Hid (∀ t u, (lcells (s.drop j))[t]? = some u → w.cell? (A.add t) = some u) := by
  have hld : (lcells (s.drop j)).length = (s.length - j) * 3 := by rw [lcells_length, List.length_drop]
  have hlt : (lcells (s.take j)).length = j * 3 := by rw [lcells_length, List.length_take]; congr 1; omega
  by_cases hcj : cap = j
  · refine ⟨⟨b, o, none⟩, by simp [hcj], fun t u hu => ?_⟩
    have ht := (List.getElem?_eq_some_iff.1 hu).1
    omega
  · refine ⟨⟨b, o + j * 3, none⟩, by simp [hcj], fun t u hu => ?_⟩
    have hn := hl.news (j * 3 + t) u (by
      have : lcells s = lcells (s.take j) ++ lcells (s.drop j) := by rw [← lcells_app, List.take_append_drop]
      rw [this, List.getElem?_append_right (by omega), hlt, Nat.add_sub_cancel_left]
      exact hu)
    rw [Addr.add_lit, ← Nat.add_assoc] at hn
    rw [Addr.add_lit]
    exact hn

theorem head_src' {w : World} {b o j : Nat} {s : List F} (hl : LiesAt w (some ⟨b, o, none⟩) s) : ∀ t u, (lcells (s.take j))[t]? = some u → w.cell? ((⟨b, o, none⟩ : Addr).add t) = some u := fun t u hu => by
  refine hl.news t u ?_
  have ht := (List.getElem?_eq_some_iff.1 hu).1
  have : lcells s = lcells (s.take j) ++ lcells (s.drop j) := by rw [← lcells_app, List.take_append_drop]
  rw [this, List.getElem?_append_left ht]
  exact hu

set_option maxRecDepth 100000 in
set_option maxHeartbeats 8000000 in
theorem refPut_any (l : List F) (a : Option Addr) (ca : Nat) (x : F) (w : World) (hl : LiesAt w a l) (hca : l.length ≤ ca) (hn : a = none → ca = 0 ∧ l = []) (hs : Small l) (hxp : x.p.length ≤ 40000) (hxt : x.t.length ≤ 500000) :
    Calls Tryz.prog 20 #[.slice a l.length ca, fv x] w fun e w' => (∃ v, e = .returned (.tuple #[v, .agg #[.int .i64 (putT l x).2.1, .int .i64 (putT l x).2.2]]) ∧ w'.ownsRow w.heap.size 24 3 v (putT l x).1.length (lcells (putT l x).1)) ∧ Below w.heap.size w w' := by
  have hfew := hs.few
  have HL : Hid (LiesAt w a l) := hl
  have HS : Hid (Small l) := hs
  have HN : Hid (a = none → ca = 0 ∧ l = []) := hn
  have hB0 : Below w.heap.size w ((w.alloc (.cells #[sv x.p, .bool x.r, sv x.t] 24)).alloc (.cells #[.int .i64 0, .int .i64 0] 38)) := ((Below.refl _ _).alloc (Nat.le_refl _) _).alloc (by simp) _
  clear hl hs hn
  obtain ⟨i0, hi, hz0, hz1, hz2⟩ := info_parts Tryz.infoFile
  go_enter Tryz.func20, Tryz.ntmps20
  go_wp2_with fail
  refine (refTreeFault_any l a ca _ (HL.out.below hB0) HS.out).mono ?_
  rintro e w1 ⟨rfl, hb1⟩
  have HK1 : Hid (Kept (w.alloc (.cells #[sv x.p, .bool x.r, sv x.t] 24)) (w1.alloc (.cells #[.int .i64 (treeFault l).1, .int .i64 (treeFault l).2] 38)) w1.heap.size (treeFault l).1 (treeFault l).2) := Kept.new (hb1.mono (by simp))
  clear hb1 hB0
  by_cases hc : (treeFault l).1 = 0
  · have HC0 : Hid ((treeFault l).1 = 0) := hc
    have hl30 : l.length ≤ 30 := (tree_good.1 hc).2.1
    have HSW : Hid (Small (withF l x)) := with_small HS.out (by omega) hxp hxt
    have HPUT : Hid (putT l x = if (treeFault (withF l x)).1 ≠ 0 then ([], (treeFault (withF l x)).1, -1) else (withF l x, 0, -1)) := by
      show putT l x = _
      unfold putT
      rw [if_neg (by simp [hc])]
    have hz : treeFault l = (0, -1) := treeFault_zero hc
    rw [hz] at HK1 ⊢
    clear hc hz
    obtain ⟨WA, hWA⟩ : ∃ WA, WA = w1.alloc (.cells #[.int .i64 0, .int .i64 (-1)] 38) := ⟨_, rfl⟩
    have hfa : WA.cell? ⟨w1.heap.size, 0, none⟩ = some (.int .i64 0) := by rw [hWA]; exact HK1.out.c0
    generalize hfb : w1.heap.size = fb at HK1 hfa
    have HKA : Hid (Kept (w.alloc (.cells #[sv x.p, .bool x.r, sv x.t] 24)) WA fb 0 (-1)) := by show Kept _ _ _ _ _; rw [hWA]; exact HK1.out
    have hsA : fb + 1 ≤ WA.heap.size := block_lt_of_cell HKA.out.c0
    clear HK1
    go_wp2_with fail
    try rw [← hWA]
    clear hfb hWA hfa
    by_cases hl0 : l = []
    · subst hl0
      have HW : Hid (withF [] x = [x]) := by show withF [] x = [x]; simp [withF, behind]
      obtain ⟨wr, hwr⟩ : ∃ wr, wr = WA := ⟨_, rfl⟩
      have HKR : Hid (Kept (w.alloc (.cells #[sv x.p, .bool x.r, sv x.t] 24)) wr fb 0 (-1)) := by show Kept _ _ _ _ _; rw [hwr]; exact HKA.out
      have hsR : fb + 1 ≤ wr.heap.size := block_lt_of_cell HKR.out.c0
      obtain ⟨x0, x1, x2, _⟩ := kept_box HKR.out
      rw [← hwr]
      clear hwr
      refine wp_loop_rounds 1 ?_
      rw [rounds_succ]
      go_wp2_with fail
      go_quiet (fail)
      rcases (show (∃ ad, a = some ad) ∨ a = none by cases a with | none => exact .inr rfl | some ad => exact .inl ⟨ad, rfl⟩) with ⟨ad, rfl⟩ | rfl
      · go_wp2_with (at_builtin; first
          | (refine wpList_append_own _ rfl _ _ 22 rfl wr.heap.size 24 i0 (.agg #[.string ⟨#[]⟩, .bool false, .string ⟨#[]⟩]) 3 40 Tryz.underlying22 hi hz0 hz1 hz2 rfl (by decide) _ _ _ rfl hown2 _ 0 _ [] rfl rfl (fun t u hu => by simp at hu) (fun u hu => by simp at hu) (by unfold maxLen; omega) (by omega) HB2.size ?_; intro v3 w3 hown3 hgrow3 _)
          | (refine wpList_append_own _ rfl _ _ 22 rfl wr.heap.size 24 i0 (.agg #[.string ⟨#[]⟩, .bool false, .string ⟨#[]⟩]) 3 40 Tryz.underlying22 hi hz0 hz1 hz2 rfl (by decide) _ _ _ rfl (hown1.alloc _) ⟨w1'.heap.size, 0, none⟩ 1 1 (fcells x) rfl rfl (cells_new w1' x _) (by simp [fcells, Value.oneCell']) (by unfold maxLen; omega) (by omega) (Nat.le_trans HB1.size (by simp)) ?_; intro v2 w2 hown2 hgrow2 _; have HB2 : Below wr.heap.size wr w2 := (HB1.alloc HB1.size _).grown hgrow2 (Nat.le_trans HB1.size (by simp)) (fun j ej => (hown1.lt j ej).1))
          | (refine wpList_append_own _ rfl _ _ 22 rfl wr.heap.size 24 i0 (.agg #[.string ⟨#[]⟩, .bool false, .string ⟨#[]⟩]) 3 40 Tryz.underlying22 hi hz0 hz1 hz2 rfl (by decide) (.slice none 0 0) 0 [] rfl (World.ownsRow_nil _ _ _ _) ad 0 ca [] rfl rfl (fun t u hu => by simp at hu) (fun u hu => by simp at hu) (by unfold maxLen; omega) (by omega) (Nat.le_refl _) ?_; intro v1 w1' hown1 hgrow1 _; have HB1 : Below wr.heap.size wr w1' := (below_drewN (Below.refl _ wr) _).grown hgrow1 (Nat.le_refl _) (fun k e => by cases e); obtain ⟨e0, e1, e2, _⟩ := kept_box (HKR.out.below HB1)))
        have HB3 : Below wr.heap.size wr w3 := HB2.grown hgrow3 HB2.size (fun j ej => (hown2.lt j ej).1)
        have HOW3 : w3.ownsRow wr.heap.size 24 3 v3 (withF [] x).length (lcells (withF [] x)) := by
          rw [HW.out]
          simpa [lcells] using hown3
        clear HB1 HB2 hown1 hown2 hown3 hgrow1 hgrow2 hgrow3 e0 e1 e2
        have HBZ : Hid (Below wr.heap.size wr w3) := HB3
        have hrow : w3.ownsRow wr.heap.size 24 3 v3 (withF ([] : List F) x).length (lcells (withF ([] : List F) x)) := HOW3
        obtain ⟨av, cv, rfl, hlies, _⟩ := owns_lies hrow
        have HROW : Hid (w3.ownsRow wr.heap.size 24 3 (.slice av (withF ([] : List F) x).length cv) (withF ([] : List F) x).length (lcells (withF ([] : List F) x))) := hrow
        have HLI : Hid (LiesAt w3 av (withF ([] : List F) x)) := hlies
        have HK3 : Hid (Kept (w.alloc (.cells #[sv x.p, .bool x.r, sv x.t] 24)) w3 fb 0 (-1)) := HKR.out.below HB3
        have hwr1 : w.heap.size + 1 < wr.heap.size := by
          have := HKR.out.far
          rw [World.size_alloc] at this
          omega
        clear hrow hlies HB3 HOW3
        by_cases hcw : (treeFault (withF ([] : List F) x)).1 = 0
        · have HT : Hid (putT ([] : List F) x = (withF ([] : List F) x, 0, -1)) := by show putT ([] : List F) x = _; rw [HPUT.out, if_neg (by simp [hcw])]
          have HF : Hid (treeFault (withF ([] : List F) x) = (0, -1)) := treeFault_zero hcw
          clear hcw
          refine (refTreeFault_is (withF ([] : List F) x) av cv 0 (-1) _ HLI.out HSW.out (by rw [HF.out]; rfl) (by rw [HF.out])).mono ?_
          rintro e w4 ⟨rfl, hb4⟩
          have hk4 := HK3.out.below hb4
          have HK5 : Hid (Kept (w.alloc (.cells #[sv x.p, .bool x.r, sv x.t] 24)) ((w4.setCell ⟨fb, 0, none⟩ (.int .i64 0)).setCell ⟨fb, 1, none⟩ (.int .i64 (-1))) fb 0 (-1)) := hk4.set _ _
          have HROW5 : Hid (((w4.setCell ⟨fb, 0, none⟩ (.int .i64 0)).setCell ⟨fb, 1, none⟩ (.int .i64 (-1))).ownsRow wr.heap.size 24 3 (.slice av (withF ([] : List F) x).length cv) (withF ([] : List F) x).length (lcells (withF ([] : List F) x))) := owns_far _ _ (owns_below HROW.out hb4) (by omega)
          obtain ⟨_, _, t0, t1, t2, t3⟩ := hk4
          obtain ⟨_, _, u0, u1, u2, u3⟩ := HK5.out
          clear hb4
          go_wp2_with fail
          refine (fine_any _).mono ?_
          rintro e w6 ⟨rfl, hb6⟩
          have hk6 := HK5.out.below hb6
          obtain ⟨s0, s1, s2, s3⟩ := kept_slot hk6
          have HBW : Hid (Below w.heap.size w w6) := (kept_box hk6).2.2.2
          have hrow6 := owns_far (b := w.heap.size + 1) (.int .i64 0) (.int .i64 (-1)) (owns_below HROW5.out hb6) hwr1
          clear hb6 hk6 t0 t1 t2 t3 u0 u1 u2 u3
          go_wp2
          obtain ⟨q0, q1, q2⟩ := slot_far (w := w) (.int .i64 0) (.int .i64 (-1)) s0 s1 (by omega) HBW.out
          exact bodyPost_ret (v := .tuple #[.slice av (withF ([] : List F) x).length cv, .agg #[.int .i64 0, .int .i64 (-1)]]) (by simp [results, Tryz.results20, go_sem, q0, q1]) rfl ⟨⟨_, by rw [HT.out]; rfl, by rw [HT.out]; exact hrow6.mono (by omega)⟩, q2⟩
        · have HT : Hid (putT ([] : List F) x = ([], (treeFault (withF ([] : List F) x)).1, -1)) := by show putT ([] : List F) x = _; rw [HPUT.out, if_pos hcw]
          have hpos : (0 : Int) < ((treeFault (withF ([] : List F) x)).1 : Int) := by omega
          clear hcw
          refine (refTreeFault_any (withF ([] : List F) x) av cv _ HLI.out HSW.out).mono ?_
          rintro e w4 ⟨rfl, hb4⟩
          have hk4 := HK3.out.below hb4
          clear HLI HROW HSW HPUT HW
          generalize treeFault (withF ([] : List F) x) = tf at hpos HT
          have HK5 : Hid (Kept (w.alloc (.cells #[sv x.p, .bool x.r, sv x.t] 24)) ((w4.setCell ⟨fb, 0, none⟩ (.int .i64 tf.1)).setCell ⟨fb, 1, none⟩ (.int .i64 tf.2)) fb tf.1 tf.2) := hk4.set _ _
          obtain ⟨_, _, t0, t1, t2, t3⟩ := hk4
          obtain ⟨_, _, u0, u1, u2, u3⟩ := HK5.out
          clear hb4
          go_wp2_with fail
          refine (bare_any tf.1 _).mono ?_
          rintro e w6 ⟨rfl, hb6⟩
          have hk6 := HK5.out.below hb6
          obtain ⟨s0, s1, s2, s3⟩ := kept_slot hk6
          have HBW : Hid (Below w.heap.size w w6) := (kept_box hk6).2.2.2
          clear hb6 hk6 t0 t1 t2 t3 u0 u1 u2 u3
          go_wp2
          obtain ⟨q0, q1, q2⟩ := slot_far (w := w) (.int .i64 tf.1) (.int .i64 (-1)) s0 s1 (by omega) HBW.out
          exact bodyPost_ret (v := .tuple #[.slice none 0 0, .agg #[.int .i64 tf.1, .int .i64 (-1)]]) (by simp [results, Tryz.results20, go_sem, q0, q1]) rfl ⟨⟨_, by rw [HT.out], by rw [HT.out]; exact World.ownsRow_nil _ _ _ _⟩, q2⟩
      · obtain ⟨rfl, _⟩ := HN.out rfl
        go_wp2_with (at_builtin; first
          | (refine wpList_append_own_none rfl _ _ 22 rfl wr.heap.size 24 i0 3 Tryz.underlying22 hi _ _ _ rfl hown2 rfl ?_)
          | (refine wpList_append_own_none rfl _ _ 22 rfl wr.heap.size 24 i0 3 Tryz.underlying22 hi _ 0 [] rfl (World.ownsRow_nil _ _ _ _) rfl ?_)
          | (refine wpList_append_own _ rfl _ _ 22 rfl wr.heap.size 24 i0 (.agg #[.string ⟨#[]⟩, .bool false, .string ⟨#[]⟩]) 3 40 Tryz.underlying22 hi hz0 hz1 hz2 rfl (by decide) (.slice none 0 0) 0 [] rfl (World.ownsRow_nil _ _ _ _) ⟨wr.heap.size, 0, none⟩ 1 1 (fcells x) rfl rfl (cells_new wr x _) (by simp [fcells, Value.oneCell']) (by unfold maxLen; omega) (by omega) (by simp) ?_; intro v2 w2 hown2 hgrow2 _))
        obtain ⟨v3, hv3⟩ : ∃ v3, v3 = v2 := ⟨_, rfl⟩
        obtain ⟨w3, hw3⟩ : ∃ w3, w3 = w2 := ⟨_, rfl⟩
        have HB3 : Below wr.heap.size wr w3 := by rw [hw3]; exact ((below_drewN (Below.refl _ wr) _).alloc (Nat.le_refl _) _).grown hgrow2 (by simp) (fun j ej => by cases ej)
        have HOW3 : w3.ownsRow wr.heap.size 24 3 v3 (withF [] x).length (lcells (withF [] x)) := by
          rw [HW.out, hw3, hv3]
          simpa [lcells] using hown2
        rw [← hv3, ← hw3]
        clear hown2 hgrow2 hv3 hw3
        have HBZ : Hid (Below wr.heap.size wr w3) := HB3
        have hrow : w3.ownsRow wr.heap.size 24 3 v3 (withF ([] : List F) x).length (lcells (withF ([] : List F) x)) := HOW3
        obtain ⟨av, cv, rfl, hlies, _⟩ := owns_lies hrow
        have HROW : Hid (w3.ownsRow wr.heap.size 24 3 (.slice av (withF ([] : List F) x).length cv) (withF ([] : List F) x).length (lcells (withF ([] : List F) x))) := hrow
        have HLI : Hid (LiesAt w3 av (withF ([] : List F) x)) := hlies
        have HK3 : Hid (Kept (w.alloc (.cells #[sv x.p, .bool x.r, sv x.t] 24)) w3 fb 0 (-1)) := HKR.out.below HB3
        have hwr1 : w.heap.size + 1 < wr.heap.size := by
          have := HKR.out.far
          rw [World.size_alloc] at this
          omega
        clear hrow hlies HB3 HOW3
        by_cases hcw : (treeFault (withF ([] : List F) x)).1 = 0
        · have HT : Hid (putT ([] : List F) x = (withF ([] : List F) x, 0, -1)) := by show putT ([] : List F) x = _; rw [HPUT.out, if_neg (by simp [hcw])]
          have HF : Hid (treeFault (withF ([] : List F) x) = (0, -1)) := treeFault_zero hcw
          clear hcw
          refine (refTreeFault_is (withF ([] : List F) x) av cv 0 (-1) _ HLI.out HSW.out (by rw [HF.out]; rfl) (by rw [HF.out])).mono ?_
          rintro e w4 ⟨rfl, hb4⟩
          have hk4 := HK3.out.below hb4
          have HK5 : Hid (Kept (w.alloc (.cells #[sv x.p, .bool x.r, sv x.t] 24)) ((w4.setCell ⟨fb, 0, none⟩ (.int .i64 0)).setCell ⟨fb, 1, none⟩ (.int .i64 (-1))) fb 0 (-1)) := hk4.set _ _
          have HROW5 : Hid (((w4.setCell ⟨fb, 0, none⟩ (.int .i64 0)).setCell ⟨fb, 1, none⟩ (.int .i64 (-1))).ownsRow wr.heap.size 24 3 (.slice av (withF ([] : List F) x).length cv) (withF ([] : List F) x).length (lcells (withF ([] : List F) x))) := owns_far _ _ (owns_below HROW.out hb4) (by omega)
          obtain ⟨_, _, t0, t1, t2, t3⟩ := hk4
          obtain ⟨_, _, u0, u1, u2, u3⟩ := HK5.out
          clear hb4
          go_wp2_with fail
          refine (fine_any _).mono ?_
          rintro e w6 ⟨rfl, hb6⟩
          have hk6 := HK5.out.below hb6
          obtain ⟨s0, s1, s2, s3⟩ := kept_slot hk6
          have HBW : Hid (Below w.heap.size w w6) := (kept_box hk6).2.2.2
          have hrow6 := owns_far (b := w.heap.size + 1) (.int .i64 0) (.int .i64 (-1)) (owns_below HROW5.out hb6) hwr1
          clear hb6 hk6 t0 t1 t2 t3 u0 u1 u2 u3
          go_wp2
          obtain ⟨q0, q1, q2⟩ := slot_far (w := w) (.int .i64 0) (.int .i64 (-1)) s0 s1 (by omega) HBW.out
          exact bodyPost_ret (v := .tuple #[.slice av (withF ([] : List F) x).length cv, .agg #[.int .i64 0, .int .i64 (-1)]]) (by simp [results, Tryz.results20, go_sem, q0, q1]) rfl ⟨⟨_, by rw [HT.out]; rfl, by rw [HT.out]; exact hrow6.mono (by omega)⟩, q2⟩
        · have HT : Hid (putT ([] : List F) x = ([], (treeFault (withF ([] : List F) x)).1, -1)) := by show putT ([] : List F) x = _; rw [HPUT.out, if_pos hcw]
          have hpos : (0 : Int) < ((treeFault (withF ([] : List F) x)).1 : Int) := by omega
          clear hcw
          refine (refTreeFault_any (withF ([] : List F) x) av cv _ HLI.out HSW.out).mono ?_
          rintro e w4 ⟨rfl, hb4⟩
          have hk4 := HK3.out.below hb4
          clear HLI HROW HSW HPUT HW
          generalize treeFault (withF ([] : List F) x) = tf at hpos HT
          have HK5 : Hid (Kept (w.alloc (.cells #[sv x.p, .bool x.r, sv x.t] 24)) ((w4.setCell ⟨fb, 0, none⟩ (.int .i64 tf.1)).setCell ⟨fb, 1, none⟩ (.int .i64 tf.2)) fb tf.1 tf.2) := hk4.set _ _
          obtain ⟨_, _, t0, t1, t2, t3⟩ := hk4
          obtain ⟨_, _, u0, u1, u2, u3⟩ := HK5.out
          clear hb4
          go_wp2_with fail
          refine (bare_any tf.1 _).mono ?_
          rintro e w6 ⟨rfl, hb6⟩
          have hk6 := HK5.out.below hb6
          obtain ⟨s0, s1, s2, s3⟩ := kept_slot hk6
          have HBW : Hid (Below w.heap.size w w6) := (kept_box hk6).2.2.2
          clear hb6 hk6 t0 t1 t2 t3 u0 u1 u2 u3
          go_wp2
          obtain ⟨q0, q1, q2⟩ := slot_far (w := w) (.int .i64 tf.1) (.int .i64 (-1)) s0 s1 (by omega) HBW.out
          exact bodyPost_ret (v := .tuple #[.slice none 0 0, .agg #[.int .i64 tf.1, .int .i64 (-1)]]) (by simp [results, Tryz.results20, go_sem, q0, q1]) rfl ⟨⟨_, by rw [HT.out], by rw [HT.out]; exact World.ownsRow_nil _ _ _ _⟩, q2⟩
    · obtain ⟨b, o, rfl, _⟩ := HL.out hl0
      go_loopw [7] (fun ja wr => ∃ j : Nat, j ≤ l.length ∧ ja = .int .i64 j ∧ (∀ i (h : i < l.length), i < j → less l[i].p x.p = true) ∧ Below WA.heap.size WA wr) (fun ja _ => l.length - (intOf ja).toNat)
      case atStart => exact ⟨0, by omega, rfl, fun _ _ h => by omega, Below.refl _ _⟩
      case round =>
        obtain ⟨j, hj, rfl, hlo, hb⟩ := hrel
        have HLO : Hid (∀ i (h : i < l.length), i < j → less l[i].p x.p = true) := hlo
        have HB : Hid (Below WA.heap.size WA wr) := hb
        have HKR : Hid (Kept (w.alloc (.cells #[sv x.p, .bool x.r, sv x.t] 24)) wr fb 0 (-1)) := HKA.out.below hb
        have hsR : fb + 1 ≤ wr.heap.size := block_lt_of_cell HKR.out.c0
        obtain ⟨x0, x1, x2, hBR⟩ := kept_box HKR.out
        have HLR : Hid (LiesAt wr (some ⟨b, o, none⟩) l) := HL.out.below hBR
        clear hlo hb hBR
        have hj0 : (0 : Int) ≤ (j : Int) := by omega
        by_cases hlt : j < l.length
        · have hlt' : (j : Int) < (l.length : Int) := by omega
          obtain ⟨b', o', e', c0, c1, c2⟩ := HLR.out.at hlt
          cases e'
          cases hle : less l[j].p x.p with
          | true =>
            have HLO2 : Hid (∀ i (h : i < l.length), i < j + 1 → less l[i].p x.p = true) := by
              intro i hi hij
              by_cases e : i = j
              · subst e; exact hle
              · exact HLO.out i hi (by omega)
            have hle' : Op.bytesLess l[j].p x.p = true := hle
            clear hle
            generalize l[j] = y at c0 c1 c2 hle'
            go_wp2_with fail
            go_quiet (fail)
            go_wp2
            go_roundw
            case rel => exact ⟨j + 1, by omega, by go_num, HLO2.out, below_drewN HB.out _⟩
            case measure => simp [intOf]; omega
          | false =>
            have HP : Hid (Place l x.p j) := ⟨hj, HLO.out, fun _ => hle⟩
            have hle' : Op.bytesLess l[j].p x.p = false := hle
            clear hle
            by_cases he : l[j].p = x.p
            · have ht : there l x.p j = true := by rw [there_at hlt]; simp [he]
              have HW : Hid (withF l x = l.take j ++ x :: l.drop (j + 1)) := with_there HP.out ht
              have he' : (l[j].p == x.p) = true := by simp [he]
              clear he ht
              generalize l[j] = y at c0 c1 c2 hle' he'
              go_wp2_with fail
              go_quiet (fail)
              have HLT : Hid ((lcells (l.take j)).length = j * 3) := by show _ = _; rw [lcells_length, List.length_take]; congr 1; omega
              have HLD : Hid ((lcells (l.drop (j + 1))).length = (l.length - (j + 1)) * 3) := by show _ = _; rw [lcells_length, List.length_drop]
              have HSRC1 : Hid (∀ t u, (lcells (l.take j))[t]? = some u → wr.cell? ((⟨b, o, none⟩ : Addr).add t) = some u) := head_src' HLR.out
              obtain ⟨A, hA, hsrc⟩ := tail_src' (cap := ca) (j := j + 1) HLR.out (by omega) hca
              have hjl : (j : Int) ≤ (l.length : Int) := by omega
              have hjc : (j : Int) ≤ (ca : Int) := by omega
              have hcj : ¬ (ca = j) := by omega
              have hj1 : (j : Int) + 1 ≤ (l.length : Int) := by omega
              have hj2 : (0 : Int) ≤ (j : Int) + 1 := by omega
              have hj3 : ((j : Int) + 1).toNat = j + 1 := by omega
              go_wp2_with fail
              go_quiet (fail)

              go_wp2_with (at_builtin; first
                | (refine wpList_append_own _ rfl _ _ 22 rfl wr.heap.size 24 i0 (.agg #[.string ⟨#[]⟩, .bool false, .string ⟨#[]⟩]) 3 40 Tryz.underlying22 hi hz0 hz1 hz2 rfl (by decide) _ _ _ rfl hown2 A (l.length - (j + 1)) (ca - (j + 1)) (lcells (l.drop (j + 1))) rfl HLD.out (fun t u hu => (HB2.cell (p := A.add t) (block_lt_of_cell (hsrc.out t u hu))).trans (hsrc.out t u hu)) (lcells_one _) (by unfold maxLen; omega) (by omega) HB2.size ?_; intro v3 w3 hown3 hgrow3 _)
                | (refine wpList_append_own _ rfl _ _ 22 rfl wr.heap.size 24 i0 (.agg #[.string ⟨#[]⟩, .bool false, .string ⟨#[]⟩]) 3 40 Tryz.underlying22 hi hz0 hz1 hz2 rfl (by decide) _ _ _ rfl (hown1.alloc _) ⟨w1'.heap.size, 0, none⟩ 1 1 (fcells x) rfl rfl (cells_new w1' x _) (by simp [fcells, Value.oneCell']) (by unfold maxLen; omega) (by omega) (Nat.le_trans HB1.size (by simp)) ?_; intro v2 w2 hown2 hgrow2 _; have HB2 : Below wr.heap.size wr w2 := (HB1.alloc HB1.size _).grown hgrow2 (Nat.le_trans HB1.size (by simp)) (fun j ej => (hown1.lt j ej).1))
                | (refine wpList_append_own _ rfl _ _ 22 rfl wr.heap.size 24 i0 (.agg #[.string ⟨#[]⟩, .bool false, .string ⟨#[]⟩]) 3 40 Tryz.underlying22 hi hz0 hz1 hz2 rfl (by decide) (.slice none 0 0) 0 [] rfl (World.ownsRow_nil _ _ _ _) ⟨b, o, none⟩ j ca (lcells (l.take j)) rfl HLT.out HSRC1.out (lcells_one _) (by unfold maxLen; omega) (by omega) (Nat.le_refl _) ?_; intro v1 w1' hown1 hgrow1 _; have HB1 : Below wr.heap.size wr w1' := (below_drewN (Below.refl _ wr) _).grown hgrow1 (Nat.le_refl _) (fun k e => by cases e); obtain ⟨e0, e1, e2, _⟩ := kept_box (HKR.out.below HB1)))
              have HB3 : Below wr.heap.size wr w3 := HB2.grown hgrow3 HB2.size (fun j ej => (hown2.lt j ej).1)
              have HOW3 : w3.ownsRow wr.heap.size 24 3 v3 (withF l x).length (lcells (withF l x)) := by
                have e1 : (withF l x).length = 0 + j + 1 + (l.length - (j + 1)) := by rw [HW.out, List.length_append, List.length_cons, List.length_take, List.length_drop]; omega
                have e2 : lcells (withF l x) = [] ++ lcells (l.take j) ++ fcells x ++ lcells (l.drop (j + 1)) := by rw [HW.out, lcells_app, List.nil_append, List.append_assoc]; rfl
                rw [e1, e2]
                exact hown3
              clear HB1 HB2 hown1 hown2 hown3 hgrow1 hgrow2 hgrow3 hsrc HSRC1 e0 e1 e2

              have HBZ : Hid (Below wr.heap.size wr w3) := HB3
              have hrow : w3.ownsRow wr.heap.size 24 3 v3 (withF l x).length (lcells (withF l x)) := HOW3
              obtain ⟨av, cv, rfl, hlies, _⟩ := owns_lies hrow
              have HROW : Hid (w3.ownsRow wr.heap.size 24 3 (.slice av (withF l x).length cv) (withF l x).length (lcells (withF l x))) := hrow
              have HLI : Hid (LiesAt w3 av (withF l x)) := hlies
              have HK3 : Hid (Kept (w.alloc (.cells #[sv x.p, .bool x.r, sv x.t] 24)) w3 fb 0 (-1)) := HKR.out.below HB3
              have hwr1 : w.heap.size + 1 < wr.heap.size := by
                have := HKR.out.far
                rw [World.size_alloc] at this
                omega
              clear hrow hlies HB3 HOW3
              by_cases hcw : (treeFault (withF l x)).1 = 0
              · have HT : Hid (putT l x = (withF l x, 0, -1)) := by show putT l x = _; rw [HPUT.out, if_neg (by simp [hcw])]
                have HF : Hid (treeFault (withF l x) = (0, -1)) := treeFault_zero hcw
                clear hcw
                refine (refTreeFault_is (withF l x) av cv 0 (-1) _ HLI.out HSW.out (by rw [HF.out]; rfl) (by rw [HF.out])).mono ?_
                rintro e w4 ⟨rfl, hb4⟩
                have hk4 := HK3.out.below hb4
                have HK5 : Hid (Kept (w.alloc (.cells #[sv x.p, .bool x.r, sv x.t] 24)) ((w4.setCell ⟨fb, 0, none⟩ (.int .i64 0)).setCell ⟨fb, 1, none⟩ (.int .i64 (-1))) fb 0 (-1)) := hk4.set _ _
                have HROW5 : Hid (((w4.setCell ⟨fb, 0, none⟩ (.int .i64 0)).setCell ⟨fb, 1, none⟩ (.int .i64 (-1))).ownsRow wr.heap.size 24 3 (.slice av (withF l x).length cv) (withF l x).length (lcells (withF l x))) := owns_far _ _ (owns_below HROW.out hb4) (by omega)
                obtain ⟨_, _, t0, t1, t2, t3⟩ := hk4
                obtain ⟨_, _, u0, u1, u2, u3⟩ := HK5.out
                clear hb4
                go_wp2_with fail
                refine (fine_any _).mono ?_
                rintro e w6 ⟨rfl, hb6⟩
                have hk6 := HK5.out.below hb6
                obtain ⟨s0, s1, s2, s3⟩ := kept_slot hk6
                have HBW : Hid (Below w.heap.size w w6) := (kept_box hk6).2.2.2
                have hrow6 := owns_far (b := w.heap.size + 1) (.int .i64 0) (.int .i64 (-1)) (owns_below HROW5.out hb6) hwr1
                clear hb6 hk6 t0 t1 t2 t3 u0 u1 u2 u3
                go_wp2
                obtain ⟨q0, q1, q2⟩ := slot_far (w := w) (.int .i64 0) (.int .i64 (-1)) s0 s1 (by omega) HBW.out
                exact bodyPost_ret (v := .tuple #[.slice av (withF l x).length cv, .agg #[.int .i64 0, .int .i64 (-1)]]) (by simp [results, Tryz.results20, go_sem, q0, q1]) rfl ⟨⟨_, by rw [HT.out]; rfl, by rw [HT.out]; exact hrow6.mono (by omega)⟩, q2⟩
              · have HT : Hid (putT l x = ([], (treeFault (withF l x)).1, -1)) := by show putT l x = _; rw [HPUT.out, if_pos hcw]
                have hpos : (0 : Int) < ((treeFault (withF l x)).1 : Int) := by omega
                clear hcw
                refine (refTreeFault_any (withF l x) av cv _ HLI.out HSW.out).mono ?_
                rintro e w4 ⟨rfl, hb4⟩
                have hk4 := HK3.out.below hb4
                clear HLI HROW HSW HPUT HW
                generalize treeFault (withF l x) = tf at hpos HT
                have HK5 : Hid (Kept (w.alloc (.cells #[sv x.p, .bool x.r, sv x.t] 24)) ((w4.setCell ⟨fb, 0, none⟩ (.int .i64 tf.1)).setCell ⟨fb, 1, none⟩ (.int .i64 tf.2)) fb tf.1 tf.2) := hk4.set _ _
                obtain ⟨_, _, t0, t1, t2, t3⟩ := hk4
                obtain ⟨_, _, u0, u1, u2, u3⟩ := HK5.out
                clear hb4
                go_wp2_with fail
                refine (bare_any tf.1 _).mono ?_
                rintro e w6 ⟨rfl, hb6⟩
                have hk6 := HK5.out.below hb6
                obtain ⟨s0, s1, s2, s3⟩ := kept_slot hk6
                have HBW : Hid (Below w.heap.size w w6) := (kept_box hk6).2.2.2
                clear hb6 hk6 t0 t1 t2 t3 u0 u1 u2 u3
                go_wp2
                obtain ⟨q0, q1, q2⟩ := slot_far (w := w) (.int .i64 tf.1) (.int .i64 (-1)) s0 s1 (by omega) HBW.out
                exact bodyPost_ret (v := .tuple #[.slice none 0 0, .agg #[.int .i64 tf.1, .int .i64 (-1)]]) (by simp [results, Tryz.results20, go_sem, q0, q1]) rfl ⟨⟨_, by rw [HT.out], by rw [HT.out]; exact World.ownsRow_nil _ _ _ _⟩, q2⟩
            · have ht : there l x.p j = false := by rw [there_at hlt]; simp [he]
              have HW : Hid (withF l x = l.take j ++ x :: l.drop j) := with_absent HP.out ht
              have he' : (l[j].p == x.p) = false := by simp [he]
              clear he ht
              generalize l[j] = y at c0 c1 c2 hle' he'
              go_wp2_with fail
              go_quiet (fail)
              have HLT : Hid ((lcells (l.take j)).length = j * 3) := by show _ = _; rw [lcells_length, List.length_take]; congr 1; omega
              have HLD : Hid ((lcells (l.drop (j))).length = (l.length - (j)) * 3) := by show _ = _; rw [lcells_length, List.length_drop]
              have HSRC1 : Hid (∀ t u, (lcells (l.take j))[t]? = some u → wr.cell? ((⟨b, o, none⟩ : Addr).add t) = some u) := head_src' HLR.out
              obtain ⟨A, hA, hsrc⟩ := tail_src' (cap := ca) (j := j) HLR.out (by omega) hca
              have hjl : (j : Int) ≤ (l.length : Int) := by omega
              have hjc : (j : Int) ≤ (ca : Int) := by omega
              have hcj : ¬ (ca = j) := by omega
              rw [if_neg hcj] at hA
              cases hA
              go_wp2_with fail
              go_quiet (fail)

              go_wp2_with (at_builtin; first
                | (refine wpList_append_own _ rfl _ _ 22 rfl wr.heap.size 24 i0 (.agg #[.string ⟨#[]⟩, .bool false, .string ⟨#[]⟩]) 3 40 Tryz.underlying22 hi hz0 hz1 hz2 rfl (by decide) _ _ _ rfl hown2 (⟨b, o + j * 3, none⟩ : Addr) (l.length - (j)) (ca - (j)) (lcells (l.drop (j))) rfl HLD.out (fun t u hu => (HB2.cell (p := (⟨b, o + j * 3, none⟩ : Addr).add t) (block_lt_of_cell (hsrc.out t u hu))).trans (hsrc.out t u hu)) (lcells_one _) (by unfold maxLen; omega) (by omega) HB2.size ?_; intro v3 w3 hown3 hgrow3 _)
                | (refine wpList_append_own _ rfl _ _ 22 rfl wr.heap.size 24 i0 (.agg #[.string ⟨#[]⟩, .bool false, .string ⟨#[]⟩]) 3 40 Tryz.underlying22 hi hz0 hz1 hz2 rfl (by decide) _ _ _ rfl (hown1.alloc _) ⟨w1'.heap.size, 0, none⟩ 1 1 (fcells x) rfl rfl (cells_new w1' x _) (by simp [fcells, Value.oneCell']) (by unfold maxLen; omega) (by omega) (Nat.le_trans HB1.size (by simp)) ?_; intro v2 w2 hown2 hgrow2 _; have HB2 : Below wr.heap.size wr w2 := (HB1.alloc HB1.size _).grown hgrow2 (Nat.le_trans HB1.size (by simp)) (fun j ej => (hown1.lt j ej).1))
                | (refine wpList_append_own _ rfl _ _ 22 rfl wr.heap.size 24 i0 (.agg #[.string ⟨#[]⟩, .bool false, .string ⟨#[]⟩]) 3 40 Tryz.underlying22 hi hz0 hz1 hz2 rfl (by decide) (.slice none 0 0) 0 [] rfl (World.ownsRow_nil _ _ _ _) ⟨b, o, none⟩ j ca (lcells (l.take j)) rfl HLT.out HSRC1.out (lcells_one _) (by unfold maxLen; omega) (by omega) (Nat.le_refl _) ?_; intro v1 w1' hown1 hgrow1 _; have HB1 : Below wr.heap.size wr w1' := (below_drewN (Below.refl _ wr) _).grown hgrow1 (Nat.le_refl _) (fun k e => by cases e); obtain ⟨e0, e1, e2, _⟩ := kept_box (HKR.out.below HB1)))
              have HB3 : Below wr.heap.size wr w3 := HB2.grown hgrow3 HB2.size (fun j ej => (hown2.lt j ej).1)
              have HOW3 : w3.ownsRow wr.heap.size 24 3 v3 (withF l x).length (lcells (withF l x)) := by
                have e1 : (withF l x).length = 0 + j + 1 + (l.length - (j)) := by rw [HW.out, List.length_append, List.length_cons, List.length_take, List.length_drop]; omega
                have e2 : lcells (withF l x) = [] ++ lcells (l.take j) ++ fcells x ++ lcells (l.drop (j)) := by rw [HW.out, lcells_app, List.nil_append, List.append_assoc]; rfl
                rw [e1, e2]
                exact hown3
              clear HB1 HB2 hown1 hown2 hown3 hgrow1 hgrow2 hgrow3 hsrc HSRC1 e0 e1 e2

              have HBZ : Hid (Below wr.heap.size wr w3) := HB3
              have hrow : w3.ownsRow wr.heap.size 24 3 v3 (withF l x).length (lcells (withF l x)) := HOW3
              obtain ⟨av, cv, rfl, hlies, _⟩ := owns_lies hrow
              have HROW : Hid (w3.ownsRow wr.heap.size 24 3 (.slice av (withF l x).length cv) (withF l x).length (lcells (withF l x))) := hrow
              have HLI : Hid (LiesAt w3 av (withF l x)) := hlies
              have HK3 : Hid (Kept (w.alloc (.cells #[sv x.p, .bool x.r, sv x.t] 24)) w3 fb 0 (-1)) := HKR.out.below HB3
              have hwr1 : w.heap.size + 1 < wr.heap.size := by
                have := HKR.out.far
                rw [World.size_alloc] at this
                omega
              clear hrow hlies HB3 HOW3
              by_cases hcw : (treeFault (withF l x)).1 = 0
              · have HT : Hid (putT l x = (withF l x, 0, -1)) := by show putT l x = _; rw [HPUT.out, if_neg (by simp [hcw])]
                have HF : Hid (treeFault (withF l x) = (0, -1)) := treeFault_zero hcw
                clear hcw
                refine (refTreeFault_is (withF l x) av cv 0 (-1) _ HLI.out HSW.out (by rw [HF.out]; rfl) (by rw [HF.out])).mono ?_
                rintro e w4 ⟨rfl, hb4⟩
                have hk4 := HK3.out.below hb4
                have HK5 : Hid (Kept (w.alloc (.cells #[sv x.p, .bool x.r, sv x.t] 24)) ((w4.setCell ⟨fb, 0, none⟩ (.int .i64 0)).setCell ⟨fb, 1, none⟩ (.int .i64 (-1))) fb 0 (-1)) := hk4.set _ _
                have HROW5 : Hid (((w4.setCell ⟨fb, 0, none⟩ (.int .i64 0)).setCell ⟨fb, 1, none⟩ (.int .i64 (-1))).ownsRow wr.heap.size 24 3 (.slice av (withF l x).length cv) (withF l x).length (lcells (withF l x))) := owns_far _ _ (owns_below HROW.out hb4) (by omega)
                obtain ⟨_, _, t0, t1, t2, t3⟩ := hk4
                obtain ⟨_, _, u0, u1, u2, u3⟩ := HK5.out
                clear hb4
                go_wp2_with fail
                refine (fine_any _).mono ?_
                rintro e w6 ⟨rfl, hb6⟩
                have hk6 := HK5.out.below hb6
                obtain ⟨s0, s1, s2, s3⟩ := kept_slot hk6
                have HBW : Hid (Below w.heap.size w w6) := (kept_box hk6).2.2.2
                have hrow6 := owns_far (b := w.heap.size + 1) (.int .i64 0) (.int .i64 (-1)) (owns_below HROW5.out hb6) hwr1
                clear hb6 hk6 t0 t1 t2 t3 u0 u1 u2 u3
                go_wp2
                obtain ⟨q0, q1, q2⟩ := slot_far (w := w) (.int .i64 0) (.int .i64 (-1)) s0 s1 (by omega) HBW.out
                exact bodyPost_ret (v := .tuple #[.slice av (withF l x).length cv, .agg #[.int .i64 0, .int .i64 (-1)]]) (by simp [results, Tryz.results20, go_sem, q0, q1]) rfl ⟨⟨_, by rw [HT.out]; rfl, by rw [HT.out]; exact hrow6.mono (by omega)⟩, q2⟩
              · have HT : Hid (putT l x = ([], (treeFault (withF l x)).1, -1)) := by show putT l x = _; rw [HPUT.out, if_pos hcw]
                have hpos : (0 : Int) < ((treeFault (withF l x)).1 : Int) := by omega
                clear hcw
                refine (refTreeFault_any (withF l x) av cv _ HLI.out HSW.out).mono ?_
                rintro e w4 ⟨rfl, hb4⟩
                have hk4 := HK3.out.below hb4
                clear HLI HROW HSW HPUT HW
                generalize treeFault (withF l x) = tf at hpos HT
                have HK5 : Hid (Kept (w.alloc (.cells #[sv x.p, .bool x.r, sv x.t] 24)) ((w4.setCell ⟨fb, 0, none⟩ (.int .i64 tf.1)).setCell ⟨fb, 1, none⟩ (.int .i64 tf.2)) fb tf.1 tf.2) := hk4.set _ _
                obtain ⟨_, _, t0, t1, t2, t3⟩ := hk4
                obtain ⟨_, _, u0, u1, u2, u3⟩ := HK5.out
                clear hb4
                go_wp2_with fail
                refine (bare_any tf.1 _).mono ?_
                rintro e w6 ⟨rfl, hb6⟩
                have hk6 := HK5.out.below hb6
                obtain ⟨s0, s1, s2, s3⟩ := kept_slot hk6
                have HBW : Hid (Below w.heap.size w w6) := (kept_box hk6).2.2.2
                clear hb6 hk6 t0 t1 t2 t3 u0 u1 u2 u3
                go_wp2
                obtain ⟨q0, q1, q2⟩ := slot_far (w := w) (.int .i64 tf.1) (.int .i64 (-1)) s0 s1 (by omega) HBW.out
                exact bodyPost_ret (v := .tuple #[.slice none 0 0, .agg #[.int .i64 tf.1, .int .i64 (-1)]]) (by simp [results, Tryz.results20, go_sem, q0, q1]) rfl ⟨⟨_, by rw [HT.out], by rw [HT.out]; exact World.ownsRow_nil _ _ _ _⟩, q2⟩
        · have HP : Hid (Place l x.p j) := ⟨hj, HLO.out, fun h => absurd h hlt⟩
          have HW : Hid (withF l x = l.take j ++ x :: l.drop j) := with_absent HP.out (there_end hlt)
          have hlt' : decide ((j : Int) < (l.length : Int)) = false := by simp; omega
          go_wp2_with fail
          go_quiet (fail)
          have HLT : Hid ((lcells (l.take j)).length = j * 3) := by show _ = _; rw [lcells_length, List.length_take]; congr 1; omega
          have HLD : Hid ((lcells (l.drop (j))).length = (l.length - (j)) * 3) := by show _ = _; rw [lcells_length, List.length_drop]
          have HSRC1 : Hid (∀ t u, (lcells (l.take j))[t]? = some u → wr.cell? ((⟨b, o, none⟩ : Addr).add t) = some u) := head_src' HLR.out
          obtain ⟨A, hA, hsrc⟩ := tail_src' (cap := ca) (j := j) HLR.out (by omega) hca
          have hjl : (j : Int) ≤ (l.length : Int) := by omega
          have hjc : (j : Int) ≤ (ca : Int) := by omega

          go_wp2_with (at_builtin; first
            | (refine wpList_append_own _ rfl _ _ 22 rfl wr.heap.size 24 i0 (.agg #[.string ⟨#[]⟩, .bool false, .string ⟨#[]⟩]) 3 40 Tryz.underlying22 hi hz0 hz1 hz2 rfl (by decide) _ _ _ rfl hown2 A (l.length - (j)) (ca - (j)) (lcells (l.drop (j))) rfl HLD.out (fun t u hu => (HB2.cell (p := A.add t) (block_lt_of_cell (hsrc.out t u hu))).trans (hsrc.out t u hu)) (lcells_one _) (by unfold maxLen; omega) (by omega) HB2.size ?_; intro v3 w3 hown3 hgrow3 _)
            | (refine wpList_append_own _ rfl _ _ 22 rfl wr.heap.size 24 i0 (.agg #[.string ⟨#[]⟩, .bool false, .string ⟨#[]⟩]) 3 40 Tryz.underlying22 hi hz0 hz1 hz2 rfl (by decide) _ _ _ rfl (hown1.alloc _) ⟨w1'.heap.size, 0, none⟩ 1 1 (fcells x) rfl rfl (cells_new w1' x _) (by simp [fcells, Value.oneCell']) (by unfold maxLen; omega) (by omega) (Nat.le_trans HB1.size (by simp)) ?_; intro v2 w2 hown2 hgrow2 _; have HB2 : Below wr.heap.size wr w2 := (HB1.alloc HB1.size _).grown hgrow2 (Nat.le_trans HB1.size (by simp)) (fun j ej => (hown1.lt j ej).1))
            | (refine wpList_append_own _ rfl _ _ 22 rfl wr.heap.size 24 i0 (.agg #[.string ⟨#[]⟩, .bool false, .string ⟨#[]⟩]) 3 40 Tryz.underlying22 hi hz0 hz1 hz2 rfl (by decide) (.slice none 0 0) 0 [] rfl (World.ownsRow_nil _ _ _ _) ⟨b, o, none⟩ j ca (lcells (l.take j)) rfl HLT.out HSRC1.out (lcells_one _) (by unfold maxLen; omega) (by omega) (Nat.le_refl _) ?_; intro v1 w1' hown1 hgrow1 _; have HB1 : Below wr.heap.size wr w1' := (below_drewN (Below.refl _ wr) _).grown hgrow1 (Nat.le_refl _) (fun k e => by cases e); obtain ⟨e0, e1, e2, _⟩ := kept_box (HKR.out.below HB1)))
          have HB3 : Below wr.heap.size wr w3 := HB2.grown hgrow3 HB2.size (fun j ej => (hown2.lt j ej).1)
          have HOW3 : w3.ownsRow wr.heap.size 24 3 v3 (withF l x).length (lcells (withF l x)) := by
            have e1 : (withF l x).length = 0 + j + 1 + (l.length - (j)) := by rw [HW.out, List.length_append, List.length_cons, List.length_take, List.length_drop]; omega
            have e2 : lcells (withF l x) = [] ++ lcells (l.take j) ++ fcells x ++ lcells (l.drop (j)) := by rw [HW.out, lcells_app, List.nil_append, List.append_assoc]; rfl
            rw [e1, e2]
            exact hown3
          clear HB1 HB2 hown1 hown2 hown3 hgrow1 hgrow2 hgrow3 hsrc HSRC1 e0 e1 e2

          have HBZ : Hid (Below wr.heap.size wr w3) := HB3
          have hrow : w3.ownsRow wr.heap.size 24 3 v3 (withF l x).length (lcells (withF l x)) := HOW3
          obtain ⟨av, cv, rfl, hlies, _⟩ := owns_lies hrow
          have HROW : Hid (w3.ownsRow wr.heap.size 24 3 (.slice av (withF l x).length cv) (withF l x).length (lcells (withF l x))) := hrow
          have HLI : Hid (LiesAt w3 av (withF l x)) := hlies
          have HK3 : Hid (Kept (w.alloc (.cells #[sv x.p, .bool x.r, sv x.t] 24)) w3 fb 0 (-1)) := HKR.out.below HB3
          have hwr1 : w.heap.size + 1 < wr.heap.size := by
            have := HKR.out.far
            rw [World.size_alloc] at this
            omega
          clear hrow hlies HB3 HOW3
          by_cases hcw : (treeFault (withF l x)).1 = 0
          · have HT : Hid (putT l x = (withF l x, 0, -1)) := by show putT l x = _; rw [HPUT.out, if_neg (by simp [hcw])]
            have HF : Hid (treeFault (withF l x) = (0, -1)) := treeFault_zero hcw
            clear hcw
            refine (refTreeFault_is (withF l x) av cv 0 (-1) _ HLI.out HSW.out (by rw [HF.out]; rfl) (by rw [HF.out])).mono ?_
            rintro e w4 ⟨rfl, hb4⟩
            have hk4 := HK3.out.below hb4
            have HK5 : Hid (Kept (w.alloc (.cells #[sv x.p, .bool x.r, sv x.t] 24)) ((w4.setCell ⟨fb, 0, none⟩ (.int .i64 0)).setCell ⟨fb, 1, none⟩ (.int .i64 (-1))) fb 0 (-1)) := hk4.set _ _
            have HROW5 : Hid (((w4.setCell ⟨fb, 0, none⟩ (.int .i64 0)).setCell ⟨fb, 1, none⟩ (.int .i64 (-1))).ownsRow wr.heap.size 24 3 (.slice av (withF l x).length cv) (withF l x).length (lcells (withF l x))) := owns_far _ _ (owns_below HROW.out hb4) (by omega)
            obtain ⟨_, _, t0, t1, t2, t3⟩ := hk4
            obtain ⟨_, _, u0, u1, u2, u3⟩ := HK5.out
            clear hb4
            go_wp2_with fail
            refine (fine_any _).mono ?_
            rintro e w6 ⟨rfl, hb6⟩
            have hk6 := HK5.out.below hb6
            obtain ⟨s0, s1, s2, s3⟩ := kept_slot hk6
            have HBW : Hid (Below w.heap.size w w6) := (kept_box hk6).2.2.2
            have hrow6 := owns_far (b := w.heap.size + 1) (.int .i64 0) (.int .i64 (-1)) (owns_below HROW5.out hb6) hwr1
            clear hb6 hk6 t0 t1 t2 t3 u0 u1 u2 u3
            go_wp2
            obtain ⟨q0, q1, q2⟩ := slot_far (w := w) (.int .i64 0) (.int .i64 (-1)) s0 s1 (by omega) HBW.out
            exact bodyPost_ret (v := .tuple #[.slice av (withF l x).length cv, .agg #[.int .i64 0, .int .i64 (-1)]]) (by simp [results, Tryz.results20, go_sem, q0, q1]) rfl ⟨⟨_, by rw [HT.out]; rfl, by rw [HT.out]; exact hrow6.mono (by omega)⟩, q2⟩
          · have HT : Hid (putT l x = ([], (treeFault (withF l x)).1, -1)) := by show putT l x = _; rw [HPUT.out, if_pos hcw]
            have hpos : (0 : Int) < ((treeFault (withF l x)).1 : Int) := by omega
            clear hcw
            refine (refTreeFault_any (withF l x) av cv _ HLI.out HSW.out).mono ?_
            rintro e w4 ⟨rfl, hb4⟩
            have hk4 := HK3.out.below hb4
            clear HLI HROW HSW HPUT HW
            generalize treeFault (withF l x) = tf at hpos HT
            have HK5 : Hid (Kept (w.alloc (.cells #[sv x.p, .bool x.r, sv x.t] 24)) ((w4.setCell ⟨fb, 0, none⟩ (.int .i64 tf.1)).setCell ⟨fb, 1, none⟩ (.int .i64 tf.2)) fb tf.1 tf.2) := hk4.set _ _
            obtain ⟨_, _, t0, t1, t2, t3⟩ := hk4
            obtain ⟨_, _, u0, u1, u2, u3⟩ := HK5.out
            clear hb4
            go_wp2_with fail
            refine (bare_any tf.1 _).mono ?_
            rintro e w6 ⟨rfl, hb6⟩
            have hk6 := HK5.out.below hb6
            obtain ⟨s0, s1, s2, s3⟩ := kept_slot hk6
            have HBW : Hid (Below w.heap.size w w6) := (kept_box hk6).2.2.2
            clear hb6 hk6 t0 t1 t2 t3 u0 u1 u2 u3
            go_wp2
            obtain ⟨q0, q1, q2⟩ := slot_far (w := w) (.int .i64 tf.1) (.int .i64 (-1)) s0 s1 (by omega) HBW.out
            exact bodyPost_ret (v := .tuple #[.slice none 0 0, .agg #[.int .i64 tf.1, .int .i64 (-1)]]) (by simp [results, Tryz.results20, go_sem, q0, q1]) rfl ⟨⟨_, by rw [HT.out], by rw [HT.out]; exact World.ownsRow_nil _ _ _ _⟩, q2⟩
  · have HD : Hid (putT l x = ([], treeFault l)) := by
      show putT l x = _
      simp [putT, hc]
    obtain ⟨s0, s1, s2, s3⟩ := kept_slot HK1.out
    obtain ⟨_, _, _, hBW⟩ := kept_box HK1.out
    have HBW : Hid (Below w.heap.size w (w1.alloc (.cells #[.int .i64 (treeFault l).1, .int .i64 (treeFault l).2] 38))) := hBW
    clear HK1 hBW
    generalize treeFault l = tf at *
    have hpos : (0 : Int) < (tf.1 : Int) := by omega
    go_wp2
    go_region
    all_goals go_wp2
    all_goals
      obtain ⟨q0, q1, q2⟩ := slot_far (w := w) (.int .i64 tf.1) (.int .i64 tf.2) s0 s1 (by omega) HBW.out
      exact bodyPost_ret (v := .tuple #[.slice none 0 0, .agg #[.int .i64 tf.1, .int .i64 tf.2]]) (by simp [results, Tryz.results20, go_sem, q0, q1]) rfl ⟨⟨_, by rw [HD.out], by rw [HD.out]; exact World.ownsRow_nil _ _ _ _⟩, q2.drew⟩
end Go.Proofs.YtpogcedghbokbaaGreatDoor
/-
  The document's answer for trees: UnderOf: over this seat's translation.
-/
namespace Go.Proofs.YtpogcedghbokbaaGreatDoor
open Go.RowKit Go.Shelf

theorem under_take {l : List F} {k : Nat} (dir : List UInt8) (hk : k < l.length) : underL (l.take (k + 1)) dir = underL (l.take k) dir ++ (if isIn l[k].p dir = true then [cutF dir l[k]] else []) := by
  rw [List.take_succ_eq_append_getElem hk]
  unfold underL
  rw [List.filter_append, List.map_append]
  by_cases h : isIn l[k].p dir = true
  · rw [if_pos h, List.filter_cons, if_pos h]; rfl
  · rw [if_neg h, List.filter_cons, if_neg h]; rfl

theorem isIn_length {s dir : List UInt8} (h : isIn s dir = true) (hd : dir ≠ []) : dir.length + 1 ≤ s.length := by
  simp only [isIn, Bool.and_eq_true, Bool.or_eq_true] at h
  rcases h.2 with h | h
  · exact absurd (List.isEmpty_iff.1 h) hd
  · have h' : dir ++ [47] <+: s := by simpa [Lib.hasPrefix] using h
    have := h'.length_le
    simpa using this

theorem cells_at_new (W : World) (f : F) (T : TypeId) (n : Nat) (hn : n = W.heap.size) : ∀ j u, (fcells f)[j]? = some u → (W.alloc (.cells #[sv f.p, .bool f.r, sv f.t] T)).cell? ((⟨n, 0, none⟩ : Addr).add j) = some u := by
  subst hn
  exact cells_new W f T

theorem cells_three (W : World) (x y z : Value) (T : TypeId) (n : Nat) (hn : n = W.heap.size) : ∀ j u, [x, y, z][j]? = some u → (W.alloc (.cells #[x, y, z] T)).cell? ((⟨n, 0, none⟩ : Addr).add j) = some u := by
  subst hn
  intro j u h
  have hn := heap_new W (.cells #[x, y, z] T)
  have hc : ∀ k, (W.alloc (.cells #[x, y, z] T)).cell? ⟨W.heap.size, k, none⟩ = #[x, y, z][k]? := fun k => by
    unfold World.cell?
    rw [hn]
    rfl
  rcases j with _ | _ | _ | j
  · exact (hc 0).trans h
  · exact (hc (0 + 1)).trans h
  · exact (hc (0 + 2)).trans h
  · simp at h

theorem rest_list (l : List UInt8) (n : Nat) : ({ data := l.toArray } : ByteArray).extract n l.length = ⟨(l.drop n).toArray⟩ := by
  rw [extract_list]
  congr 2
  rw [List.take_of_length_le (by simp)]

set_option maxRecDepth 100000 in
set_option maxHeartbeats 4000000 in
theorem refUnder_any (l : List F) (a : Option Addr) (ca : Nat) (dir : List UInt8) (w : World) (hl : LiesAt w a l) (hs : Small l) (hd : dir.length ≤ 40000) :
    Calls Tryz.prog 22 #[.slice a l.length ca, .string ⟨dir.toArray⟩] w fun e w' => (∃ v, e = .returned v ∧ w'.ownsRow w.heap.size 24 3 v (underL l dir).length (lcells (underL l dir))) ∧ Below w.heap.size w w' := by
  have hfew := hs.few
  have HL : Hid (LiesAt w a l) := hl
  have HPATH : Hid (∀ f ∈ l, f.p.length ≤ 40000) := hs.path
  clear hl hs
  obtain ⟨i0, hi, hz0, hz1, hz2⟩ := info_parts Tryz.infoFile
  go_enter Tryz.func22, Tryz.ntmps22
  go_wp2_with fail
  go_loopw [5, 6] (fun out i wr => ∃ k : Nat, k ≤ l.length ∧ i = .int .i64 k ∧ wr.ownsRow w.heap.size 24 3 out (underL (l.take k) dir).length (lcells (underL (l.take k) dir)) ∧ Below w.heap.size w wr) (fun _ i _ => l.length - (intOf i).toNat)
  case atStart => exact ⟨0, by omega, rfl, World.ownsRow_nil _ _ _ _, Below.refl _ _⟩
  case round =>
    obtain ⟨k, hk, rfl, hrow, hb⟩ := hrel
    have HB : Hid (Below w.heap.size w wr) := hb
    clear hb
    have hwl : (underL (l.take k) dir).length ≤ k := by
      unfold underL
      rw [List.length_map]
      refine Nat.le_trans (List.length_filter_le _ _) ?_
      simp; omega
    by_cases hlt : k < l.length
    · have hlt' : (k : Int) < (l.length : Int) := by omega
      obtain ⟨b, o, rfl, c0, c1, c2⟩ := (HL.out.below HB.out).at hlt
      have hpl := HPATH.out _ (List.getElem_mem hlt)
      cases hin : isIn l[k].p dir with
      | false =>
        have HW : Hid (underL (l.take (k + 1)) dir = underL (l.take k) dir) := by
          show underL _ _ = underL _ _
          rw [under_take dir hlt, if_neg (by simp [hin]), List.append_nil]
        have HI : Hid (isIn l[k].p dir = false) := hin
        clear hin
        generalize l[k] = f at c0 c1 c2 hpl HI
        go_wp2_with fail
        refine (refIsIn_is f.p dir false _ (by omega) (by omega) HI.out).mono ?_
        rintro e w1 ⟨rfl, hb1⟩
        have hrow1 := owns_below hrow hb1
        have HB1 : Hid (Below w.heap.size w w1) := HB.out.trans (hb1.mono HB.out.size)
        clear hb1
        go_wp2
        go_roundw
        case rel => exact ⟨k + 1, by omega, by go_num, by rw [HW.out]; exact hrow1, HB1.out⟩
        case measure => simp [intOf]; omega
      | true =>
        have HW : Hid (underL (l.take (k + 1)) dir = underL (l.take k) dir ++ [cutF dir l[k]]) := by
          show underL _ _ = _
          rw [under_take dir hlt, if_pos hin]
        have HI : Hid (isIn l[k].p dir = true) := hin
        by_cases hne : dir = []
        · subst hne
          clear hin
          generalize l[k] = f at c0 c1 c2 hpl HI HW
          go_wp2_with fail
          refine (refIsIn_is f.p [] true _ (by omega) (by simp) HI.out).mono ?_
          rintro e w1 ⟨rfl, hb1⟩
          have hrow1 := owns_below hrow hb1
          have d0 : w1.cell? ⟨b, o + k * 3, none⟩ = some (sv f.p) := (hb1.cell (p := ⟨b, o + k * 3, none⟩) (block_lt_of_cell c0)).trans c0
          have d1 : w1.cell? ⟨b, o + k * 3 + 1, none⟩ = some (.bool f.r) := (hb1.cell (p := ⟨b, o + k * 3 + 1, none⟩) (block_lt_of_cell c1)).trans c1
          have d2 : w1.cell? ⟨b, o + k * 3 + 2, none⟩ = some (sv f.t) := (hb1.cell (p := ⟨b, o + k * 3 + 2, none⟩) (block_lt_of_cell c2)).trans c2
          have HB1 : Hid (Below w.heap.size w w1) := HB.out.trans (hb1.mono HB.out.size)
          have hs1 := HB1.out.size
          clear hb1
          go_wp2_with (at_builtin; refine wpList_append_own _ rfl _ _ 22 rfl w.heap.size 24 i0 (.agg #[.string ⟨#[]⟩, .bool false, .string ⟨#[]⟩]) 3 40 Tryz.underlying22 hi hz0 hz1 hz2 rfl (by decide) _ _ _ rfl ((hrow1.alloc _).alloc _) ⟨w1.heap.size + 1, 0, none⟩ 1 1 (fcells f) rfl rfl (cells_at_new (w1.alloc _) f _ _ (by simp)) (by simp [fcells, Value.oneCell']) (by unfold maxLen; omega) (by omega) (by simp; omega) ?_; intro v' w2 hown' hgrow _)
          have HB2 : Below w.heap.size w w2 := ((HB1.out.alloc hs1 _).alloc (by simp; omega) _).grown hgrow (by simp; omega) (fun j ej => (hrow1.lt j ej).1)
          refine ⟨⟨k + 1, by omega, by go_num, ?_, HB2⟩, by simp [intOf]; omega⟩
          rw [HW.out, lcells_app, List.length_append]
          simpa [lcells, cutF] using hown'
        · have hlen := isIn_length hin hne
          have hne' : dir.isEmpty = false := by simpa using hne
          clear hin
          generalize l[k] = f at c0 c1 c2 hpl HI HW hlen
          have hlen' : (dir.length : Int) + 1 ≤ (f.p.length : Int) := by omega
          go_wp2_with fail
          refine (refIsIn_is f.p dir true _ (by omega) (by omega) HI.out).mono ?_
          rintro e w1 ⟨rfl, hb1⟩
          have hrow1 := owns_below hrow hb1
          have d0 : w1.cell? ⟨b, o + k * 3, none⟩ = some (sv f.p) := (hb1.cell (p := ⟨b, o + k * 3, none⟩) (block_lt_of_cell c0)).trans c0
          have d1 : w1.cell? ⟨b, o + k * 3 + 1, none⟩ = some (.bool f.r) := (hb1.cell (p := ⟨b, o + k * 3 + 1, none⟩) (block_lt_of_cell c1)).trans c1
          have d2 : w1.cell? ⟨b, o + k * 3 + 2, none⟩ = some (sv f.t) := (hb1.cell (p := ⟨b, o + k * 3 + 2, none⟩) (block_lt_of_cell c2)).trans c2
          have HB1 : Hid (Below w.heap.size w w1) := HB.out.trans (hb1.mono HB.out.size)
          have hs1 := HB1.out.size
          clear hb1
          go_wp2_with (at_builtin; refine wpList_append_own _ rfl _ _ 22 rfl w.heap.size 24 i0 (.agg #[.string ⟨#[]⟩, .bool false, .string ⟨#[]⟩]) 3 40 Tryz.underlying22 hi hz0 hz1 hz2 rfl (by decide) _ _ _ rfl ((hrow1.alloc _).alloc _) ⟨w1.heap.size + 1, 0, none⟩ 1 1 [.string (({ data := f.p.toArray } : ByteArray).extract (dir.length + 1) f.p.length), .bool f.r, .string ⟨f.t.toArray⟩] rfl rfl (cells_three (w1.alloc _) _ _ _ _ _ (by simp)) (by simp [Value.oneCell']) (by unfold maxLen; omega) (by omega) (by simp; omega) ?_; intro v' w2 hown' hgrow _)
          have HB2 : Below w.heap.size w w2 := ((HB1.out.alloc hs1 _).alloc (by simp; omega) _).grown hgrow (by simp; omega) (fun j ej => (hrow1.lt j ej).1)
          refine ⟨⟨k + 1, by omega, by go_num, ?_, HB2⟩, by simp [intOf]; omega⟩
          rw [rest_list] at hown'
          rw [HW.out, lcells_app, List.length_append]
          simpa [lcells, cutF, hne, fcells] using hown'
    · obtain rfl : k = l.length := by omega
      rw [List.take_length] at hrow
      go_wp2
      go_ret
      exact ⟨⟨_, rfl, hrow⟩, HB.out⟩
end Go.Proofs.YtpogcedghbokbaaGreatDoor
/-
  The document's answer's SameTrees: over this seat's translation.
-/
namespace Go.Proofs.YtpogcedghbokbaaGreatDoor
open Go.RowKit Go.Shelf

set_option maxHeartbeats 1000000 in
open Classical in
theorem sameTrees_any (l m : List F) (a b : Option Addr) (ca cb : Nat) (w : World) (hl : LiesAt w a l) (hm : LiesAt w b m) (hll : l.length ≤ 100000) (hml : m.length ≤ 100000) :
    Calls Tryz.prog 19 #[.slice a l.length ca, .slice b m.length cb] w fun e w' => e = .returned (.bool (decide (l = m))) ∧ Below w.heap.size w w' := by
  by_cases hlen : l.length = m.length
  · have HL : Hid (LiesAt w a l) := hl
    have HM : Hid (LiesAt w b m) := hm
    clear hl hm
    have HLEN : Hid (l.length = m.length) := hlen
    rw [← hlen]
    clear hlen
    go_enter Tryz.func19, Tryz.ntmps19
    go_wp2_with fail
    go_loopw [5] (fun i wr => ∃ q : Nat, q ≤ l.length ∧ i = .int .i64 q ∧ l.take q = m.take q ∧ Below w.heap.size w wr) (fun i _ => l.length - (intOf i).toNat)
    case atStart => exact ⟨0, by omega, rfl, by simp, Below.refl _ _⟩
    case round =>
      obtain ⟨q, hq, rfl, ht, hb⟩ := hrel
      have HB : Hid (Below w.heap.size w wr) := hb
      have HT : Hid (l.take q = m.take q) := ht
      clear hb ht
      by_cases hlt : q < l.length
      · have hlt2 : q < m.length := HLEN.out ▸ hlt
        obtain ⟨b1, o1, rfl, c0, c1, c2⟩ := (HL.out.below HB.out).at hlt
        obtain ⟨b2, o2, rfl, d0, d1, d2⟩ := (HM.out.below HB.out).at hlt2
        have hlt' : (q : Int) < (l.length : Int) := by omega
        by_cases he : l[q] = m[q]
        · have hne := file_neq l[q] m[q] true (by simp [he])
          have hg := fun op x y w => run_eqGuard_agg (P := Tryz.prog) w op 24 x y #[sv l[q].p, .bool l[q].r, sv l[q].t] #[sv m[q].p, .bool m[q].r, sv m[q].t] Tryz.guardFile
          have HN : Hid (l.take (q + 1) = m.take (q + 1)) := by
            show l.take (q + 1) = m.take (q + 1)
            rw [List.take_succ_eq_append_getElem hlt, List.take_succ_eq_append_getElem hlt2, HT.out, he]
          clear he
          generalize l[q] = x at hne c0 c1 c2 hg
          generalize m[q] = y at hne d0 d1 d2 hg
          go_wp2_with fail
          go_quiet (fail)
          go_wp2
          go_roundw
          case rel => exact ⟨q + 1, by omega, by go_num, HN.out, below_drewN HB.out _⟩
          case measure => simp [intOf]; omega
        · have hne := file_neq l[q] m[q] false (by simp [he])
          have hg := fun op x y w => run_eqGuard_agg (P := Tryz.prog) w op 24 x y #[sv l[q].p, .bool l[q].r, sv l[q].t] #[sv m[q].p, .bool m[q].r, sv m[q].t] Tryz.guardFile
          have HN : Hid (decide (l = m) = false) := by
            show decide (l = m) = false
            rw [decide_eq_false_iff_not]
            intro e
            subst e
            exact he rfl
          clear he
          generalize l[q] = x at hne c0 c1 c2 hg
          generalize m[q] = y at hne d0 d1 d2 hg
          go_wp2_with fail
          go_quiet (fail)
          go_wp2
          go_ret
          exact ⟨ret_bool HN.out.symm, below_drewN HB.out _⟩
      · have hql : q = l.length := by omega
        have HN : Hid (decide (l = m) = true) := by
          show decide (l = m) = true
          rw [decide_eq_true_iff]
          have := HT.out
          rw [hql, List.take_length, HLEN.out, List.take_length] at this
          exact this
        clear hql
        go_wp2
        go_ret
        exact ⟨ret_bool HN.out.symm, HB.out⟩
  · have HN : Hid (decide (l = m) = false) := by
      show decide (l = m) = false
      rw [decide_eq_false_iff_not]
      intro e
      exact hlen (by rw [e])
    have hlen' : ((l.length : Int) == (m.length : Int)) = false := by simp; omega
    clear hl hm
    go_enter Tryz.func19, Tryz.ntmps19
    go_wp2
    go_ret
    exact ⟨ret_bool HN.out.symm, Below.refl _ _⟩
end Go.Proofs.YtpogcedghbokbaaGreatDoor
