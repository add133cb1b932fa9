/-
  The document's answer for trees: GraftOf: over this seat's translation.
-/
import Derived.Test.YtpogcedghbokbaaGreatDoorRefStrip
import Derived.Test.YtpogcedghbokbaaGreatDoorPkGraft
import Derived.Test.YtpogcedghbokbaaGreatDoorRefClean
namespace Go.Proofs.YtpogcedghbokbaaGreatDoor
open Go.RowKit Go.Shelf

theorem joinOf_is (dir s c : List UInt8) (k : Int) (w : World) (hd : dir.length ≤ 40000) (hs : s.length ≤ 40000) (h0 : (cleanL (joinTo dir s)).1 = c) (h1 : ((cleanL (joinTo dir s)).2 : Int) = k) :
    Calls Tryz.prog 47 #[.string ⟨dir.toArray⟩, .string ⟨s.toArray⟩] w fun e w' => e = .returned (.tuple #[.string ⟨c.toArray⟩, .int .i64 k]) ∧ Below w.heap.size w w' := by
  have := joinOf_any dir s w hd hs
  rwa [h0, h1] at this

/-- A fault that is kept in a block of its own: what the block holds, and where nothing else has turned. -/
structure Kept (w wx : World) (fb : Nat) (c i : Int) : Prop where
  slot : Below (w.heap.size + 1) (w.alloc (.cells #[.int .i64 0, .int .i64 0] 38)) wx
  far : w.heap.size + 1 ≤ fb
  c0 : wx.cell? ⟨fb, 0, none⟩ = some (.int .i64 c)
  c1 : wx.cell? ⟨fb, 1, none⟩ = some (.int .i64 i)
  f0 : wx.frozen? ⟨fb, 0, none⟩ = false
  f1 : wx.frozen? ⟨fb, 1, none⟩ = false

theorem Kept.below {w wx wy : World} {fb : Nat} {c i : Int} (h : Kept w wx fb c i) (hb : Below wx.heap.size wx wy) : Kept w wy fb c i := by
  have hf : fb < wx.heap.size := block_lt_of_cell h.c0
  exact ⟨more_below h.slot rfl hb, h.far, (hb.cell (p := ⟨fb, 0, none⟩) hf).trans h.c0, (hb.cell (p := ⟨fb, 1, none⟩) hf).trans h.c1, (hb.frozen (p := ⟨fb, 0, none⟩) hf).trans h.f0, (hb.frozen (p := ⟨fb, 1, none⟩) hf).trans h.f1⟩
theorem Kept.set {w wx : World} {fb : Nat} {c i : Int} (h : Kept w wx fb c i) (c' i' : Int) : Kept w ((wx.setCell ⟨fb, 0, none⟩ (.int .i64 c')).setCell ⟨fb, 1, none⟩ (.int .i64 i')) fb c' i' := by
  refine ⟨(h.slot.setCell (p := ⟨fb, 0, none⟩) h.far _).setCell (p := ⟨fb, 1, none⟩) h.far _, h.far, ?_, ?_, ?_, ?_⟩
  · rw [World.cell?_setCell_other (h := by simp)]
    exact World.cell?_setCell_same' _ _ _ (by rw [h.c0]; rfl)
  · refine World.cell?_setCell_same' _ _ _ ?_
    rw [World.cell?_setCell_other (h := by simp), h.c1]
    rfl
  · rw [World.frozen?_setCell, World.frozen?_setCell]; exact h.f0
  · rw [World.frozen?_setCell, World.frozen?_setCell]; exact h.f1
theorem Kept.new {w wx : World} {c i : Int} (h : Below (w.heap.size + 1) (w.alloc (.cells #[.int .i64 0, .int .i64 0] 38)) wx) : Kept w (wx.alloc (.cells #[.int .i64 c, .int .i64 i] 38)) wx.heap.size c i := by
  have hs : w.heap.size + 1 ≤ wx.heap.size := by have := h.size; simpa using this
  obtain ⟨a0, a1, a2, a3, _⟩ := slot_two (w := wx) (u := .int .i64 c) (v := .int .i64 i) (T := 38) (Below.refl _ _)
  exact ⟨h.alloc hs _, hs, a0, a1, a2, a3⟩
theorem Kept.past {w wx wy : World} {fb : Nat} {c i : Int} (h : Kept w wx fb c i) (hb : Below (fb + 1) wx wy) : Kept w wy fb c i :=
  ⟨h.slot.trans (hb.mono (by have := h.far; omega)), h.far, (hb.cell (p := ⟨fb, 0, none⟩) (Nat.lt_succ_self _)).trans h.c0, (hb.cell (p := ⟨fb, 1, none⟩) (Nat.lt_succ_self _)).trans h.c1, (hb.frozen (p := ⟨fb, 0, none⟩) (Nat.lt_succ_self _)).trans h.f0, (hb.frozen (p := ⟨fb, 1, none⟩) (Nat.lt_succ_self _)).trans h.f1⟩
theorem Kept.base {w wx : World} {fb : Nat} {c i : Int} (h : Kept w wx fb c i) : Below w.heap.size w wx := (slot_two h.slot).2.2.2.2
theorem Kept.size {w wx : World} {fb : Nat} {c i : Int} (h : Kept w wx fb c i) : w.heap.size + 1 ≤ wx.heap.size := by have := h.slot.size; simpa using this

set_option maxRecDepth 100000 in
set_option maxHeartbeats 8000000 in
theorem refGraft_any (l m : List F) (a a' : Option Addr) (ca ca' : Nat) (dir : List UInt8) (w : World) (hl : LiesAt w a l) (hm : LiesAt w a' m) (hn : a = none → ca = 0 ∧ l = []) (hs : Small l) (hs' : Small m) (hd : dir.length ≤ 40000) :
    Calls Tryz.prog 23 #[.slice a l.length ca, .string ⟨dir.toArray⟩, .slice a' m.length ca'] w fun e w' => (∃ v, e = .returned (.tuple #[v, .agg #[.int .i64 (graftT l dir m).2.1, .int .i64 (graftT l dir m).2.2]]) ∧ w'.ownsRow w.heap.size 24 3 v (graftT l dir m).1.length (lcells (graftT l dir m).1)) ∧ Below w.heap.size w w' := by
  have hfew := hs.few
  have hfew' := hs'.few
  have HL : Hid (LiesAt w a l) := hl
  have HM : Hid (LiesAt w a' m) := hm
  have HS : Hid (Small l) := hs
  have HS' : Hid (Small m) := hs'
  have HN : Hid (a = none → ca = 0 ∧ l = []) := hn
  clear hl hm hs hs' hn
  obtain ⟨i0, hi, hz0, hz1, hz2⟩ := info_parts Tryz.infoFile
  go_enter Tryz.func23, Tryz.ntmps23
  go_wp2_with fail
  refine (refTreeFault_any l a ca _ (HL.out.below ((Below.refl _ _).alloc (Nat.le_refl _) _)) HS.out).mono ?_
  rintro e w1 ⟨rfl, hb1⟩
  have HK1 : Hid (Kept w (w1.alloc (.cells #[.int .i64 (treeFault l).1, .int .i64 (treeFault l).2] 38)) w1.heap.size (treeFault l).1 (treeFault l).2) := Kept.new (hb1.mono (by simp))
  clear hb1
  by_cases hc : (treeFault l).1 = 0
  · have HC0 : Hid ((treeFault l).1 = 0) := hc
    have hz : treeFault l = (0, -1) := treeFault_zero hc
    rw [hz] at HK1 ⊢
    clear hc hz
    generalize hfb : w1.heap.size = fb at HK1
    go_wp2_with fail
    clear hfb
    refine (refTreeFault_any m a' ca' _ (HM.out.below HK1.out.base) HS'.out).mono ?_
    rintro e w2 ⟨rfl, hb2⟩
    have hk2 := HK1.out.below hb2
    have HK2 : Hid (Kept w ((w2.setCell ⟨fb, 0, none⟩ (.int .i64 (treeFault m).1)).setCell ⟨fb, 1, none⟩ (.int .i64 (treeFault m).2)) fb (treeFault m).1 (treeFault m).2) := hk2.set _ _
    obtain ⟨_, _, t0, t1, t2, t3⟩ := hk2
    clear hb2
    by_cases hcm : (treeFault m).1 = 0
    · have HCM : Hid ((treeFault m).1 = 0) := hcm
      have hz : treeFault m = (0, -1) := treeFault_zero hcm
      rw [hz] at HK2 ⊢
      obtain ⟨_, _, u0, u1, u2, u3⟩ := HK2.out
      clear hcm hz
      go_wp2_with fail
      obtain ⟨W2, hW2⟩ : ∃ W2, W2 = (w2.setCell ⟨fb, 0, none⟩ (.int .i64 0)).setCell ⟨fb, 1, none⟩ (.int .i64 (-1)) := ⟨_, rfl⟩
      have HKW : Hid (Kept w W2 fb 0 (-1)) := by show Kept _ _ _ _ _; rw [hW2]; exact HK2.out
      rw [← hW2]
      clear hW2 HK2 t0 t1 t2 t3 u0 u1 u2 u3
      by_cases hcd : checkCode dir = 0
      · have HCD : Hid (checkCode dir = 0) := hcd
        have HG : Hid (graftT l dir m = if (joinAll dir m).2.1 ≠ 0 then ([], (joinAll dir m).2.1, -1) else ((sortT (l ++ (joinAll dir m).1)).1, (sortT (l ++ (joinAll dir m).1)).2.1, -1)) := by
          show graftT l dir m = _
          unfold graftT
          rw [if_neg (by simp [HC0.out]), if_neg (by simp [HCM.out]), if_neg (by simp [hcd])]
        refine (pathError_is dir 0 _ (by omega) (by rw [hcd]; rfl)).mono ?_
        rintro e w3 ⟨rfl, hb3⟩
        have HK3 : Hid (Kept w w3 fb 0 (-1)) := HKW.out.below hb3
        clear hb3 hcd
        go_wp2_with fail
        refine (bare_any 0 _).mono ?_
        rintro e w4 ⟨rfl, hb4⟩
        have hk4 := HK3.out.below hb4
        have HK5' : Hid (Kept w ((w4.setCell ⟨fb, 0, none⟩ (.int .i64 0)).setCell ⟨fb, 1, none⟩ (.int .i64 (-1))) fb 0 (-1)) := hk4.set _ _
        obtain ⟨_, _, t0, t1, t2, t3⟩ := hk4
        obtain ⟨_, _, u0, u1, u2, u3⟩ := HK5'.out
        clear hb4
        rcases (show (∃ ad, a = some ad) ∨ a = none by cases a with | none => exact .inr rfl | some ad => exact .inl ⟨ad, rfl⟩) with ⟨ad, rfl⟩ | rfl
        · have HNW : Hid (∀ j u, (lcells l)[j]? = some u → ((w4.setCell ⟨fb, 0, none⟩ (.int .i64 0)).setCell ⟨fb, 1, none⟩ (.int .i64 (-1))).cell? (ad.add j) = some u) := (HL.out.below HK5'.out.base).news
          have hf5 : fb + 1 ≤ ((w4.setCell ⟨fb, 0, none⟩ (.int .i64 0)).setCell ⟨fb, 1, none⟩ (.int .i64 (-1))).heap.size := block_lt_of_cell HK5'.out.c0
          go_wp2_with (at_builtin; refine wpList_append_own _ rfl _ _ 22 rfl (fb + 1) 24 i0 (.agg #[.string ⟨#[]⟩, .bool false, .string ⟨#[]⟩]) 3 40 Tryz.underlying22 hi hz0 hz1 hz2 rfl (by decide) (.slice none 0 0) 0 [] rfl (World.ownsRow_nil _ _ _ _) ad l.length ca (lcells l) rfl (lcells_length l) HNW.out (lcells_one l) (by unfold maxLen; omega) (by omega) hf5 ?_; intro v6 w6 hown6 hgrow6 _)
          obtain ⟨W5, hW5⟩ : ∃ W5, W5 = (w4.setCell ⟨fb, 0, none⟩ (.int .i64 0)).setCell ⟨fb, 1, none⟩ (.int .i64 (-1)) := ⟨_, rfl⟩
          rw [← hW5] at hgrow6 HK5' hf5
          have HK5 : Hid (Kept w W5 fb 0 (-1)) := HK5'.out
          have HB6 : Hid (Below (fb + 1) W5 w6) := (Below.refl _ _).grown hgrow6 hf5 (fun k e => by cases e)
          have HOWN : Hid (w6.ownsRow (fb + 1) 24 3 v6 l.length (lcells l)) := by show World.ownsRow _ _ _ _ _ _ _; simpa using hown6
          clear hW5 hgrow6 hown6 HNW HK5' t0 t1 t2 t3 u0 u1 u2 u3 hf5
          go_loopw [9, 10] (fun out i wr => ∃ k : Nat, k ≤ m.length ∧ i = .int .i64 k ∧ ((∀ j (h : j < m.length), j < k → (cleanL (joinTo dir m[j].p)).2 = 0) ∧ wr.ownsRow (fb + 1) 24 3 out (l ++ joined dir (m.take k)).length (lcells (l ++ joined dir (m.take k)))) ∧ Below (fb + 1) W5 wr) (fun _ i _ => m.length - (intOf i).toNat)
          case atStart => exact ⟨0, by omega, rfl, ⟨fun _ _ h => by omega, by simpa [joined] using HOWN.out⟩, HB6.out⟩
          case round =>
            obtain ⟨k, hk, rfl, ⟨hz, hrow⟩, hb⟩ := hrel
            have HB : Hid (Below (fb + 1) W5 wr) := hb
            have HKR : Hid (Kept w wr fb 0 (-1)) := HK5.out.past hb
            have HZ : Hid (∀ j (h : j < m.length), j < k → (cleanL (joinTo dir m[j].p)).2 = 0) := hz
            have HROW : Hid (wr.ownsRow (fb + 1) 24 3 _ (l ++ joined dir (m.take k)).length (lcells (l ++ joined dir (m.take k)))) := hrow
            have hfr : fb + 1 ≤ wr.heap.size := by have := block_lt_of_cell HKR.out.c0; exact this
            clear hb hrow hz
            have hwl : (l ++ joined dir (m.take k)).length ≤ 200000 := by
              rw [List.length_append, joined, List.length_map, List.length_take]; omega
            by_cases hlt : k < m.length
            · have hlt' : (k : Int) < (m.length : Int) := by omega
              obtain ⟨b, o, rfl, c0, c1, c2⟩ := (HM.out.below HKR.out.base).at hlt
              have hpl := HS'.out.path _ (List.getElem_mem hlt)
              cases hst : cleanL (joinTo dir m[k].p) with
              | mk c kk =>
              by_cases hkk : kk = 0
              · subst hkk
                have HNX : Hid (∀ j (h : j < m.length), j < k + 1 → (cleanL (joinTo dir m[j].p)).2 = 0) := by
                  intro j hj hjk
                  by_cases e : j = k
                  · subst e; rw [hst]
                  · exact HZ.out j hj (by omega)
                have HW : Hid (l ++ joined dir (m.take (k + 1)) = l ++ joined dir (m.take k) ++ [{ m[k] with p := c }]) := by
                  show _ = _
                  rw [joined_take hlt, hst, List.append_assoc]
                have HST : Hid ((cleanL (joinTo dir m[k].p)).1 = c ∧ ((cleanL (joinTo dir m[k].p)).2 : Int) = 0) := by rw [hst]; exact ⟨rfl, rfl⟩
                clear hst
                generalize m[k] = f at c0 c1 c2 hpl HST HW
                go_wp2_with fail
                refine (joinOf_is dir f.p c 0 _ (by omega) (by omega) HST.out.1 HST.out.2).mono ?_
                rintro e w7 ⟨rfl, hb7⟩
                have hbx : Below (wr.heap.size + 1) (wr.alloc (.cells #[sv f.p, .bool f.r, sv f.t] 24)) w7 := hb7.mono (by simp)
                obtain ⟨g0, g1, g2, hB7⟩ := box_three hbx
                have gf := box_frozen hbx
                have hsz7 : wr.heap.size + 1 ≤ w7.heap.size := by have := hb7.size; simpa using this
                have hrow2 := owns_later (j := 0) (sv c) HROW.out hB7 (Nat.le_refl _)
                have HB7 : Hid (Below (fb + 1) W5 w7) := HB.out.trans (hB7.mono hfr)
                clear hb7 hbx hB7
                obtain ⟨j0, j1, j2⟩ := box_set (sv c) g0 g1 g2
                go_wp2_with (at_builtin; refine wpList_append_own _ rfl _ _ 22 rfl (fb + 1) 24 i0 (.agg #[.string ⟨#[]⟩, .bool false, .string ⟨#[]⟩]) 3 40 Tryz.underlying22 hi hz0 hz1 hz2 rfl (by decide) _ _ _ rfl (hrow2.alloc _) ⟨w7.heap.size, 0, none⟩ 1 1 [sv c, .bool f.r, sv f.t] rfl rfl (three_new _ _ _ _ _ _ (by simp)) (by simp [Value.oneCell']) (by unfold maxLen; omega) (by omega) (by simp; omega) ?_; intro v' w8 hown' hgrow _)
                have HB8 : Below (fb + 1) W5 w8 := ((HB7.out.setCell (p := ⟨wr.heap.size, 0, none⟩) hfr _).alloc (by simp; omega) _).grown hgrow (by simp; omega) (fun j ej => (hrow2.lt j ej).1)
                refine ⟨⟨k + 1, by omega, by go_num, ⟨HNX.out, ?_⟩, HB8⟩, by simp [intOf]; omega⟩
                rw [HW.out, lcells_app, List.length_append]
                simpa [lcells, fcells] using hown'
              · have HT : Hid (graftT l dir m = ([], kk, -1)) := by
                  show graftT l dir m = _
                  have := mapPaths_at (fun s => cleanL (joinTo dir s)) m k 0 hlt HZ.out (by show (cleanL (joinTo dir m[k].p)).2 ≠ 0; rw [hst]; exact hkk)
                  have e : (joinAll dir m).2.1 = kk := by
                    show (mapPaths _ 0 m).2.1 = _
                    rw [this]
                    show (cleanL (joinTo dir m[k].p)).2 = _
                    rw [hst]
                  rw [HG.out, e, if_pos hkk]
                have hpos : (0 : Int) < (kk : Int) := by omega
                have HST : Hid ((cleanL (joinTo dir m[k].p)).1 = c ∧ ((cleanL (joinTo dir m[k].p)).2 : Int) = kk) := by rw [hst]; exact ⟨rfl, rfl⟩
                clear hst hkk
                generalize m[k] = f at c0 c1 c2 hpl HST
                go_wp2_with fail
                refine (joinOf_is dir f.p c kk _ (by omega) (by omega) HST.out.1 HST.out.2).mono ?_
                rintro e w7 ⟨rfl, hb7⟩
                have hB7 : Below wr.heap.size wr w7 := ((Below.refl _ wr).alloc (Nat.le_refl _) _).trans (hb7.mono (by simp))
                have HK7 : Hid (Kept w w7 fb 0 (-1)) := HKR.out.below hB7
                clear hb7 hB7
                go_wp2_with fail
                refine (bare_any kk _).mono ?_
                rintro e w8 ⟨rfl, hb8⟩
                obtain ⟨s0, s1, s2, s3, s4⟩ := slot_two (HK7.out.below hb8).slot
                clear hb8
                go_wp2
                obtain ⟨q0, q1, q2⟩ := slot_set (w := w) (.int .i64 kk) (.int .i64 (-1)) s0 s1 s4
                exact bodyPost_ret (v := .tuple #[.slice none 0 0, .agg #[.int .i64 kk, .int .i64 (-1)]]) (by simp [results, Tryz.results23, go_sem, q0, q1]) rfl ⟨⟨_, by rw [HT.out], by rw [HT.out]; exact World.ownsRow_nil _ _ _ _⟩, q2⟩
            · obtain rfl : k = m.length := by omega
              have hall : ∀ f ∈ m, (cleanL (joinTo dir f.p)).2 = 0 := fun f hf => by
                obtain ⟨j, hj, rfl⟩ := List.getElem_of_mem hf
                exact HZ.out j hj hj
              have hst : joinAll dir m = (joined dir m, 0, 0) := mapPaths_all (fun s => cleanL (joinTo dir s)) m 0 hall
              have HT : Hid (graftT l dir m = ((sortT (l ++ joined dir m)).1, (sortT (l ++ joined dir m)).2.1, -1)) := by
                show graftT l dir m = _
                rw [HG.out, hst]
                rfl
              have HSM := graft_small HC0.out HCM.out HCD.out hall
              have hrow := HROW.out
              rw [List.take_length] at hrow
              obtain ⟨av, cv, rfl, hlies, _⟩ := owns_lies hrow
              have HLI : Hid (LiesAt wr av (l ++ joined dir m)) := hlies
              clear hrow hlies hst hall hwl
              generalize (l ++ joined dir m) = t at HT HLI HSM
              obtain ⟨R, rc, ri, hr⟩ : ∃ R rc ri, sortT t = (R, rc, ri) := ⟨_, _, _, rfl⟩
              have HR : Hid (sortT t = (R, rc, ri)) := hr
              have HTR : Hid (graftT l dir m = (R, rc, -1)) := by show graftT l dir m = _; rw [HT.out, hr]
              clear hr HT
              go_wp2_with fail
              refine (refSort_is t (R, rc, ri) rc ri av cv _ HLI.out HSM HR.out rfl rfl).mono ?_
              rintro e w7 ⟨⟨v, rfl, hown⟩, hb7⟩
              have hk7 := HKR.out.below hb7
              have HK8 : Hid (Kept w ((w7.setCell ⟨fb, 0, none⟩ (.int .i64 rc)).setCell ⟨fb, 1, none⟩ (.int .i64 ri)) fb rc ri) := hk7.set _ _
              have HOW8 : Hid (((w7.setCell ⟨fb, 0, none⟩ (.int .i64 rc)).setCell ⟨fb, 1, none⟩ (.int .i64 ri)).ownsRow wr.heap.size 24 3 v R.length (lcells R)) :=
                owns_keep hown fun g hg _ => (Below.heap_setCell _ _ _ _ (by show g ≠ fb; omega)).trans (Below.heap_setCell _ _ _ _ (by show g ≠ fb; omega))
              obtain ⟨_, _, t0, t1, t2, t3⟩ := hk7
              obtain ⟨_, _, u0, u1, u2, u3⟩ := HK8.out
              clear hb7 hown
              go_wp2_with fail
              refine (bare_any rc _).mono ?_
              rintro e w9 ⟨rfl, hb9⟩
              have hrow9 : w9.ownsRow (w.heap.size + 1) 24 3 v R.length (lcells R) := (owns_below HOW8.out hb9).mono HKR.out.size
              obtain ⟨s0, s1, s2, s3, s4⟩ := slot_two (HK8.out.below hb9).slot
              clear hb9 t0 t1 t2 t3 u0 u1 u2 u3
              go_wp2
              obtain ⟨q0, q1, q2⟩ := slot_set (w := w) (.int .i64 rc) (.int .i64 (-1)) s0 s1 s4
              exact bodyPost_ret (v := .tuple #[v, .agg #[.int .i64 rc, .int .i64 (-1)]]) (by simp [results, Tryz.results23, go_sem, q0, q1]) rfl ⟨⟨_, by rw [HTR.out], by rw [HTR.out]; exact owns_slot _ _ hrow9⟩, q2⟩
        · obtain ⟨rfl, rfl⟩ := HN.out rfl
          go_wp2_with fail
          obtain ⟨W5, hW5⟩ : ∃ W5, W5 = (w4.setCell ⟨fb, 0, none⟩ (.int .i64 0)).setCell ⟨fb, 1, none⟩ (.int .i64 (-1)) := ⟨_, rfl⟩
          rw [← hW5] at HK5' ⊢
          have HK5 : Hid (Kept w W5 fb 0 (-1)) := HK5'.out
          have HB6 : Hid (Below (fb + 1) W5 W5) := Below.refl _ _
          have HOWN : Hid (W5.ownsRow (fb + 1) 24 3 (.slice none 0 0) 0 (lcells [])) := World.ownsRow_nil _ _ _ _
          clear hW5 HK5' t0 t1 t2 t3 u0 u1 u2 u3
          go_loopw [9, 10] (fun out i wr => ∃ k : Nat, k ≤ m.length ∧ i = .int .i64 k ∧ ((∀ j (h : j < m.length), j < k → (cleanL (joinTo dir m[j].p)).2 = 0) ∧ wr.ownsRow (fb + 1) 24 3 out (([] : List F) ++ joined dir (m.take k)).length (lcells (([] : List F) ++ joined dir (m.take k)))) ∧ Below (fb + 1) W5 wr) (fun _ i _ => m.length - (intOf i).toNat)
          case atStart => exact ⟨0, by omega, rfl, ⟨fun _ _ h => by omega, by simpa [joined] using HOWN.out⟩, HB6.out⟩
          case round =>
            obtain ⟨k, hk, rfl, ⟨hz, hrow⟩, hb⟩ := hrel
            have HB : Hid (Below (fb + 1) W5 wr) := hb
            have HKR : Hid (Kept w wr fb 0 (-1)) := HK5.out.past hb
            have HZ : Hid (∀ j (h : j < m.length), j < k → (cleanL (joinTo dir m[j].p)).2 = 0) := hz
            have HROW : Hid (wr.ownsRow (fb + 1) 24 3 _ (([] : List F) ++ joined dir (m.take k)).length (lcells (([] : List F) ++ joined dir (m.take k)))) := hrow
            have hfr : fb + 1 ≤ wr.heap.size := by have := block_lt_of_cell HKR.out.c0; exact this
            clear hb hrow hz
            have hwl : (([] : List F) ++ joined dir (m.take k)).length ≤ 200000 := by
              rw [List.length_append, joined, List.length_map, List.length_take]; omega
            by_cases hlt : k < m.length
            · have hlt' : (k : Int) < (m.length : Int) := by omega
              obtain ⟨b, o, rfl, c0, c1, c2⟩ := (HM.out.below HKR.out.base).at hlt
              have hpl := HS'.out.path _ (List.getElem_mem hlt)
              cases hst : cleanL (joinTo dir m[k].p) with
              | mk c kk =>
              by_cases hkk : kk = 0
              · subst hkk
                have HNX : Hid (∀ j (h : j < m.length), j < k + 1 → (cleanL (joinTo dir m[j].p)).2 = 0) := by
                  intro j hj hjk
                  by_cases e : j = k
                  · subst e; rw [hst]
                  · exact HZ.out j hj (by omega)
                have HW : Hid (([] : List F) ++ joined dir (m.take (k + 1)) = ([] : List F) ++ joined dir (m.take k) ++ [{ m[k] with p := c }]) := by
                  show _ = _
                  rw [joined_take hlt, hst, List.append_assoc]
                have HST : Hid ((cleanL (joinTo dir m[k].p)).1 = c ∧ ((cleanL (joinTo dir m[k].p)).2 : Int) = 0) := by rw [hst]; exact ⟨rfl, rfl⟩
                clear hst
                generalize m[k] = f at c0 c1 c2 hpl HST HW
                go_wp2_with fail
                refine (joinOf_is dir f.p c 0 _ (by omega) (by omega) HST.out.1 HST.out.2).mono ?_
                rintro e w7 ⟨rfl, hb7⟩
                have hbx : Below (wr.heap.size + 1) (wr.alloc (.cells #[sv f.p, .bool f.r, sv f.t] 24)) w7 := hb7.mono (by simp)
                obtain ⟨g0, g1, g2, hB7⟩ := box_three hbx
                have gf := box_frozen hbx
                have hsz7 : wr.heap.size + 1 ≤ w7.heap.size := by have := hb7.size; simpa using this
                have hrow2 := owns_later (j := 0) (sv c) HROW.out hB7 (Nat.le_refl _)
                have HB7 : Hid (Below (fb + 1) W5 w7) := HB.out.trans (hB7.mono hfr)
                clear hb7 hbx hB7
                obtain ⟨j0, j1, j2⟩ := box_set (sv c) g0 g1 g2
                go_wp2_with (at_builtin; refine wpList_append_own _ rfl _ _ 22 rfl (fb + 1) 24 i0 (.agg #[.string ⟨#[]⟩, .bool false, .string ⟨#[]⟩]) 3 40 Tryz.underlying22 hi hz0 hz1 hz2 rfl (by decide) _ _ _ rfl (hrow2.alloc _) ⟨w7.heap.size, 0, none⟩ 1 1 [sv c, .bool f.r, sv f.t] rfl rfl (three_new _ _ _ _ _ _ (by simp)) (by simp [Value.oneCell']) (by unfold maxLen; omega) (by omega) (by simp; omega) ?_; intro v' w8 hown' hgrow _)
                have HB8 : Below (fb + 1) W5 w8 := ((HB7.out.setCell (p := ⟨wr.heap.size, 0, none⟩) hfr _).alloc (by simp; omega) _).grown hgrow (by simp; omega) (fun j ej => (hrow2.lt j ej).1)
                refine ⟨⟨k + 1, by omega, by go_num, ⟨HNX.out, ?_⟩, HB8⟩, by simp [intOf]; omega⟩
                rw [HW.out, lcells_app, List.length_append]
                simpa [lcells, fcells] using hown'
              · have HT : Hid (graftT ([] : List F) dir m = ([], kk, -1)) := by
                  show graftT ([] : List F) dir m = _
                  have := mapPaths_at (fun s => cleanL (joinTo dir s)) m k 0 hlt HZ.out (by show (cleanL (joinTo dir m[k].p)).2 ≠ 0; rw [hst]; exact hkk)
                  have e : (joinAll dir m).2.1 = kk := by
                    show (mapPaths _ 0 m).2.1 = _
                    rw [this]
                    show (cleanL (joinTo dir m[k].p)).2 = _
                    rw [hst]
                  rw [HG.out, e, if_pos hkk]
                have hpos : (0 : Int) < (kk : Int) := by omega
                have HST : Hid ((cleanL (joinTo dir m[k].p)).1 = c ∧ ((cleanL (joinTo dir m[k].p)).2 : Int) = kk) := by rw [hst]; exact ⟨rfl, rfl⟩
                clear hst hkk
                generalize m[k] = f at c0 c1 c2 hpl HST
                go_wp2_with fail
                refine (joinOf_is dir f.p c kk _ (by omega) (by omega) HST.out.1 HST.out.2).mono ?_
                rintro e w7 ⟨rfl, hb7⟩
                have hB7 : Below wr.heap.size wr w7 := ((Below.refl _ wr).alloc (Nat.le_refl _) _).trans (hb7.mono (by simp))
                have HK7 : Hid (Kept w w7 fb 0 (-1)) := HKR.out.below hB7
                clear hb7 hB7
                go_wp2_with fail
                refine (bare_any kk _).mono ?_
                rintro e w8 ⟨rfl, hb8⟩
                obtain ⟨s0, s1, s2, s3, s4⟩ := slot_two (HK7.out.below hb8).slot
                clear hb8
                go_wp2
                obtain ⟨q0, q1, q2⟩ := slot_set (w := w) (.int .i64 kk) (.int .i64 (-1)) s0 s1 s4
                exact bodyPost_ret (v := .tuple #[.slice none 0 0, .agg #[.int .i64 kk, .int .i64 (-1)]]) (by simp [results, Tryz.results23, go_sem, q0, q1]) rfl ⟨⟨_, by rw [HT.out], by rw [HT.out]; exact World.ownsRow_nil _ _ _ _⟩, q2⟩
            · obtain rfl : k = m.length := by omega
              have hall : ∀ f ∈ m, (cleanL (joinTo dir f.p)).2 = 0 := fun f hf => by
                obtain ⟨j, hj, rfl⟩ := List.getElem_of_mem hf
                exact HZ.out j hj hj
              have hst : joinAll dir m = (joined dir m, 0, 0) := mapPaths_all (fun s => cleanL (joinTo dir s)) m 0 hall
              have HT : Hid (graftT ([] : List F) dir m = ((sortT (([] : List F) ++ joined dir m)).1, (sortT (([] : List F) ++ joined dir m)).2.1, -1)) := by
                show graftT ([] : List F) dir m = _
                rw [HG.out, hst]
                rfl
              have HSM := graft_small HC0.out HCM.out HCD.out hall
              have hrow := HROW.out
              rw [List.take_length] at hrow
              obtain ⟨av, cv, rfl, hlies, _⟩ := owns_lies hrow
              have HLI : Hid (LiesAt wr av (([] : List F) ++ joined dir m)) := hlies
              clear hrow hlies hst hall hwl
              generalize (([] : List F) ++ joined dir m) = t at HT HLI HSM
              obtain ⟨R, rc, ri, hr⟩ : ∃ R rc ri, sortT t = (R, rc, ri) := ⟨_, _, _, rfl⟩
              have HR : Hid (sortT t = (R, rc, ri)) := hr
              have HTR : Hid (graftT ([] : List F) dir m = (R, rc, -1)) := by show graftT ([] : List F) dir m = _; rw [HT.out, hr]
              clear hr HT
              go_wp2_with fail
              refine (refSort_is t (R, rc, ri) rc ri av cv _ HLI.out HSM HR.out rfl rfl).mono ?_
              rintro e w7 ⟨⟨v, rfl, hown⟩, hb7⟩
              have hk7 := HKR.out.below hb7
              have HK8 : Hid (Kept w ((w7.setCell ⟨fb, 0, none⟩ (.int .i64 rc)).setCell ⟨fb, 1, none⟩ (.int .i64 ri)) fb rc ri) := hk7.set _ _
              have HOW8 : Hid (((w7.setCell ⟨fb, 0, none⟩ (.int .i64 rc)).setCell ⟨fb, 1, none⟩ (.int .i64 ri)).ownsRow wr.heap.size 24 3 v R.length (lcells R)) :=
                owns_keep hown fun g hg _ => (Below.heap_setCell _ _ _ _ (by show g ≠ fb; omega)).trans (Below.heap_setCell _ _ _ _ (by show g ≠ fb; omega))
              obtain ⟨_, _, t0, t1, t2, t3⟩ := hk7
              obtain ⟨_, _, u0, u1, u2, u3⟩ := HK8.out
              clear hb7 hown
              go_wp2_with fail
              refine (bare_any rc _).mono ?_
              rintro e w9 ⟨rfl, hb9⟩
              have hrow9 : w9.ownsRow (w.heap.size + 1) 24 3 v R.length (lcells R) := (owns_below HOW8.out hb9).mono HKR.out.size
              obtain ⟨s0, s1, s2, s3, s4⟩ := slot_two (HK8.out.below hb9).slot
              clear hb9 t0 t1 t2 t3 u0 u1 u2 u3
              go_wp2
              obtain ⟨q0, q1, q2⟩ := slot_set (w := w) (.int .i64 rc) (.int .i64 (-1)) s0 s1 s4
              exact bodyPost_ret (v := .tuple #[v, .agg #[.int .i64 rc, .int .i64 (-1)]]) (by simp [results, Tryz.results23, go_sem, q0, q1]) rfl ⟨⟨_, by rw [HTR.out], by rw [HTR.out]; exact owns_slot _ _ hrow9⟩, q2⟩
      · have HD : Hid (graftT l dir m = ([], checkCode dir, -1)) := by
          show graftT l dir m = _
          simp [graftT, HC0.out, HCM.out, hcd]
        have hpos : (0 : Int) < (checkCode dir : Int) := by omega
        refine (pathError_any dir _ (by omega)).mono ?_
        rintro e w3 ⟨rfl, hb3⟩
        have HK3 : Hid (Kept w w3 fb 0 (-1)) := HKW.out.below hb3
        clear hb3 hcd
        generalize checkCode dir = cc at hpos HD
        go_wp2_with fail
        refine (bare_any cc _).mono ?_
        rintro e w4 ⟨rfl, hb4⟩
        have hk4 := HK3.out.below hb4
        have HK5 : Hid (Kept w ((w4.setCell ⟨fb, 0, none⟩ (.int .i64 cc)).setCell ⟨fb, 1, none⟩ (.int .i64 (-1))) fb cc (-1)) := hk4.set _ _
        obtain ⟨_, _, t0, t1, t2, t3⟩ := hk4
        obtain ⟨_, _, u0, u1, u2, u3⟩ := HK5.out
        obtain ⟨s0, s1, s2, s3, s4⟩ := slot_two HK5.out.slot
        clear hb4
        go_wp2
        go_region
        all_goals go_wp2
        all_goals
          obtain ⟨q0, q1, q2⟩ := slot_set (w := w) (.int .i64 cc) (.int .i64 (-1)) s0 s1 s4
          exact bodyPost_ret (v := .tuple #[.slice none 0 0, .agg #[.int .i64 cc, .int .i64 (-1)]]) (by simp [results, Tryz.results23, go_sem, q0, q1]) rfl ⟨⟨_, by rw [HD.out], by rw [HD.out]; exact World.ownsRow_nil _ _ _ _⟩, q2.drew⟩
    · have HD : Hid (graftT l dir m = ([], treeFault m)) := by
        show graftT l dir m = _
        simp [graftT, HC0.out, hcm]
      obtain ⟨_, _, u0, u1, u2, u3⟩ := HK2.out
      obtain ⟨s0, s1, s2, s3, s4⟩ := slot_two HK2.out.slot
      generalize treeFault m = tf at *
      have hne : ((tf.1 : Int) == 0) = false := by simp; omega
      have hpos : (0 : Int) < (tf.1 : Int) := by omega
      go_wp2
      go_region
      all_goals go_wp2
      all_goals
        obtain ⟨q0, q1, q2⟩ := slot_set (w := w) (.int .i64 tf.1) (.int .i64 tf.2) s0 s1 s4
        exact bodyPost_ret (v := .tuple #[.slice none 0 0, .agg #[.int .i64 tf.1, .int .i64 tf.2]]) (by simp [results, Tryz.results23, go_sem, q0, q1]) rfl ⟨⟨_, by rw [HD.out], by rw [HD.out]; exact World.ownsRow_nil _ _ _ _⟩, q2.drew⟩
  · have HD : Hid (graftT l dir m = ([], treeFault l)) := by
      show graftT l dir m = _
      simp [graftT, hc]
    obtain ⟨s0, s1, s2, s3, s4⟩ := slot_two HK1.out.slot
    clear HK1
    generalize treeFault l = tf at *
    have hne : ((tf.1 : Int) == 0) = false := by simp; omega
    have hpos : (0 : Int) < (tf.1 : Int) := by omega
    go_wp2
    go_region
    all_goals go_wp2
    all_goals
      obtain ⟨q0, q1, q2⟩ := slot_set (w := w) (.int .i64 tf.1) (.int .i64 tf.2) s0 s1 s4
      exact bodyPost_ret (v := .tuple #[.slice none 0 0, .agg #[.int .i64 tf.1, .int .i64 tf.2]]) (by simp [results, Tryz.results23, go_sem, q0, q1]) rfl ⟨⟨_, by rw [HD.out], by rw [HD.out]; exact World.ownsRow_nil _ _ _ _⟩, q2.drew⟩
end Go.Proofs.YtpogcedghbokbaaGreatDoor
