/-
  The document's answer for trees: PutFile: over this seat's translation.
-/
import Derived.Test.YtpogcedghbokbaaGreatDoorRefGraft
import Derived.Test.YtpogcedghbokbaaGreatDoorPkPut
namespace Go.Proofs.YtpogcedghbokbaaGreatDoor
open Go.RowKit Go.Shelf

theorem kept_box {w wx : World} {x : F} {fb : Nat} {c i : Int} (h : Kept (w.alloc (.cells #[sv x.p, .bool x.r, sv x.t] 24)) wx fb c i) :
    wx.cell? ⟨w.heap.size, 0, none⟩ = some (sv x.p) ∧ wx.cell? ⟨w.heap.size, 1, none⟩ = some (.bool x.r) ∧ wx.cell? ⟨w.heap.size, 2, none⟩ = some (sv x.t) ∧ Below w.heap.size w wx :=
  box_three (h.base.mono (by simp))

/-- The two cells of a result that lies behind a box. -/
theorem kept_slot {w wx : World} {x : F} {fb : Nat} {c i : Int} (h : Kept (w.alloc (.cells #[sv x.p, .bool x.r, sv x.t] 24)) wx fb c i) :
    wx.cell? ⟨w.heap.size + 1, 0, none⟩ = some (.int .i64 0) ∧ wx.cell? ⟨w.heap.size + 1, 1, none⟩ = some (.int .i64 0) ∧ wx.frozen? ⟨w.heap.size + 1, 0, none⟩ = false ∧ wx.frozen? ⟨w.heap.size + 1, 1, none⟩ = false := by
  have := slot_two h.slot
  rw [World.size_alloc] at this
  exact ⟨this.1, this.2.1, this.2.2.1, this.2.2.2.1⟩

theorem slot_far {w wr : World} {b : Nat} {u v : Value} (x y : Value) (h0 : wr.cell? ⟨b, 0, none⟩ = some u) (h1 : wr.cell? ⟨b, 1, none⟩ = some v) (hw : w.heap.size ≤ b) (hb : Below w.heap.size w wr) :
    (wr.setCell ⟨b, 0, none⟩ x).cell? ⟨b, 0, none⟩ = some x ∧ ((wr.setCell ⟨b, 0, none⟩ x).setCell ⟨b, 1, none⟩ y).cell? ⟨b, 1, none⟩ = some y ∧ Below w.heap.size w ((wr.setCell ⟨b, 0, none⟩ x).setCell ⟨b, 1, none⟩ y) := by
  refine ⟨World.cell?_setCell_same' _ _ _ (by rw [h0]; rfl), World.cell?_setCell_same' _ _ _ ?_, (hb.setCell (p := ⟨b, 0, none⟩) hw _).setCell (p := ⟨b, 1, none⟩) hw _⟩
  rw [World.cell?_setCell_other (h := by simp), h1]
  rfl

theorem owns_far {w : World} {b base : Nat} {e : TypeId} {size : Nat} {v : Value} {n : Nat} {xs : List Value} (x y : Value) (h : w.ownsRow base e size v n xs) (hb : b < base) : ((w.setCell ⟨b, 0, none⟩ x).setCell ⟨b, 1, none⟩ y).ownsRow base e size v n xs :=
  owns_keep h fun g hg _ => (Below.heap_setCell _ _ _ _ (by show g ≠ b; omega)).trans (Below.heap_setCell _ _ _ _ (by show g ≠ b; omega))

theorem tail_src' {w : World} {b o cap j : Nat} {s : List F} (hl : LiesAt w (some ⟨b, o, none⟩) s) (hj : j ≤ s.length) (hcap : s.length ≤ cap) :
    ∃ A : Addr, (if cap = j then some (⟨b, o, none⟩ : Addr) else some ⟨b, o + j * 3, none⟩) = some A ∧ Hid (∀ t u, (lcells (s.drop j))[t]? = some u → w.cell? (A.add t) = some u) := by
  have hld : (lcells (s.drop j)).length = (s.length - j) * 3 := by rw [lcells_length, List.length_drop]
  have hlt : (lcells (s.take j)).length = j * 3 := by rw [lcells_length, List.length_take]; congr 1; omega
  by_cases hcj : cap = j
  · refine ⟨⟨b, o, none⟩, by simp [hcj], fun t u hu => ?_⟩
    have ht := (List.getElem?_eq_some_iff.1 hu).1
    omega
  · refine ⟨⟨b, o + j * 3, none⟩, by simp [hcj], fun t u hu => ?_⟩
    have hn := hl.news (j * 3 + t) u (by
      have : lcells s = lcells (s.take j) ++ lcells (s.drop j) := by rw [← lcells_app, List.take_append_drop]
      rw [this, List.getElem?_append_right (by omega), hlt, Nat.add_sub_cancel_left]
      exact hu)
    rw [Addr.add_lit, ← Nat.add_assoc] at hn
    rw [Addr.add_lit]
    exact hn

theorem head_src' {w : World} {b o j : Nat} {s : List F} (hl : LiesAt w (some ⟨b, o, none⟩) s) : ∀ t u, (lcells (s.take j))[t]? = some u → w.cell? ((⟨b, o, none⟩ : Addr).add t) = some u := fun t u hu => by
  refine hl.news t u ?_
  have ht := (List.getElem?_eq_some_iff.1 hu).1
  have : lcells s = lcells (s.take j) ++ lcells (s.drop j) := by rw [← lcells_app, List.take_append_drop]
  rw [this, List.getElem?_append_left ht]
  exact hu

set_option maxRecDepth 100000 in
set_option maxHeartbeats 8000000 in
theorem refPut_any (l : List F) (a : Option Addr) (ca : Nat) (x : F) (w : World) (hl : LiesAt w a l) (hca : l.length ≤ ca) (hn : a = none → ca = 0 ∧ l = []) (hs : Small l) (hxp : x.p.length ≤ 40000) (hxt : x.t.length ≤ 500000) :
    Calls Tryz.prog 20 #[.slice a l.length ca, fv x] w fun e w' => (∃ v, e = .returned (.tuple #[v, .agg #[.int .i64 (putT l x).2.1, .int .i64 (putT l x).2.2]]) ∧ w'.ownsRow w.heap.size 24 3 v (putT l x).1.length (lcells (putT l x).1)) ∧ Below w.heap.size w w' := by
  have hfew := hs.few
  have HL : Hid (LiesAt w a l) := hl
  have HS : Hid (Small l) := hs
  have HN : Hid (a = none → ca = 0 ∧ l = []) := hn
  have hB0 : Below w.heap.size w ((w.alloc (.cells #[sv x.p, .bool x.r, sv x.t] 24)).alloc (.cells #[.int .i64 0, .int .i64 0] 38)) := ((Below.refl _ _).alloc (Nat.le_refl _) _).alloc (by simp) _
  clear hl hs hn
  obtain ⟨i0, hi, hz0, hz1, hz2⟩ := info_parts Tryz.infoFile
  go_enter Tryz.func20, Tryz.ntmps20
  go_wp2_with fail
  refine (refTreeFault_any l a ca _ (HL.out.below hB0) HS.out).mono ?_
  rintro e w1 ⟨rfl, hb1⟩
  have HK1 : Hid (Kept (w.alloc (.cells #[sv x.p, .bool x.r, sv x.t] 24)) (w1.alloc (.cells #[.int .i64 (treeFault l).1, .int .i64 (treeFault l).2] 38)) w1.heap.size (treeFault l).1 (treeFault l).2) := Kept.new (hb1.mono (by simp))
  clear hb1 hB0
  by_cases hc : (treeFault l).1 = 0
  · have HC0 : Hid ((treeFault l).1 = 0) := hc
    have hl30 : l.length ≤ 30 := (tree_good.1 hc).2.1
    have HSW : Hid (Small (withF l x)) := with_small HS.out (by omega) hxp hxt
    have HPUT : Hid (putT l x = if (treeFault (withF l x)).1 ≠ 0 then ([], (treeFault (withF l x)).1, -1) else (withF l x, 0, -1)) := by
      show putT l x = _
      unfold putT
      rw [if_neg (by simp [hc])]
    have hz : treeFault l = (0, -1) := treeFault_zero hc
    rw [hz] at HK1 ⊢
    clear hc hz
    obtain ⟨WA, hWA⟩ : ∃ WA, WA = w1.alloc (.cells #[.int .i64 0, .int .i64 (-1)] 38) := ⟨_, rfl⟩
    have hfa : WA.cell? ⟨w1.heap.size, 0, none⟩ = some (.int .i64 0) := by rw [hWA]; exact HK1.out.c0
    generalize hfb : w1.heap.size = fb at HK1 hfa
    have HKA : Hid (Kept (w.alloc (.cells #[sv x.p, .bool x.r, sv x.t] 24)) WA fb 0 (-1)) := by show Kept _ _ _ _ _; rw [hWA]; exact HK1.out
    have hsA : fb + 1 ≤ WA.heap.size := block_lt_of_cell HKA.out.c0
    clear HK1
    go_wp2_with fail
    try rw [← hWA]
    clear hfb hWA hfa
    by_cases hl0 : l = []
    · subst hl0
      have HW : Hid (withF [] x = [x]) := by show withF [] x = [x]; simp [withF, behind]
      obtain ⟨wr, hwr⟩ : ∃ wr, wr = WA := ⟨_, rfl⟩
      have HKR : Hid (Kept (w.alloc (.cells #[sv x.p, .bool x.r, sv x.t] 24)) wr fb 0 (-1)) := by show Kept _ _ _ _ _; rw [hwr]; exact HKA.out
      have hsR : fb + 1 ≤ wr.heap.size := block_lt_of_cell HKR.out.c0
      obtain ⟨x0, x1, x2, _⟩ := kept_box HKR.out
      rw [← hwr]
      clear hwr
      refine wp_loop_rounds 1 ?_
      rw [rounds_succ]
      go_wp2_with fail
      go_quiet (fail)
      rcases (show (∃ ad, a = some ad) ∨ a = none by cases a with | none => exact .inr rfl | some ad => exact .inl ⟨ad, rfl⟩) with ⟨ad, rfl⟩ | rfl
      · go_wp2_with (at_builtin; first
          | (refine wpList_append_own _ rfl _ _ 22 rfl wr.heap.size 24 i0 (.agg #[.string ⟨#[]⟩, .bool false, .string ⟨#[]⟩]) 3 40 Tryz.underlying22 hi hz0 hz1 hz2 rfl (by decide) _ _ _ rfl hown2 _ 0 _ [] rfl rfl (fun t u hu => by simp at hu) (fun u hu => by simp at hu) (by unfold maxLen; omega) (by omega) HB2.size ?_; intro v3 w3 hown3 hgrow3 _)
          | (refine wpList_append_own _ rfl _ _ 22 rfl wr.heap.size 24 i0 (.agg #[.string ⟨#[]⟩, .bool false, .string ⟨#[]⟩]) 3 40 Tryz.underlying22 hi hz0 hz1 hz2 rfl (by decide) _ _ _ rfl (hown1.alloc _) ⟨w1'.heap.size, 0, none⟩ 1 1 (fcells x) rfl rfl (cells_new w1' x _) (by simp [fcells, Value.oneCell']) (by unfold maxLen; omega) (by omega) (Nat.le_trans HB1.size (by simp)) ?_; intro v2 w2 hown2 hgrow2 _; have HB2 : Below wr.heap.size wr w2 := (HB1.alloc HB1.size _).grown hgrow2 (Nat.le_trans HB1.size (by simp)) (fun j ej => (hown1.lt j ej).1))
          | (refine wpList_append_own _ rfl _ _ 22 rfl wr.heap.size 24 i0 (.agg #[.string ⟨#[]⟩, .bool false, .string ⟨#[]⟩]) 3 40 Tryz.underlying22 hi hz0 hz1 hz2 rfl (by decide) (.slice none 0 0) 0 [] rfl (World.ownsRow_nil _ _ _ _) ad 0 ca [] rfl rfl (fun t u hu => by simp at hu) (fun u hu => by simp at hu) (by unfold maxLen; omega) (by omega) (Nat.le_refl _) ?_; intro v1 w1' hown1 hgrow1 _; have HB1 : Below wr.heap.size wr w1' := (below_drewN (Below.refl _ wr) _).grown hgrow1 (Nat.le_refl _) (fun k e => by cases e); obtain ⟨e0, e1, e2, _⟩ := kept_box (HKR.out.below HB1)))
        have HB3 : Below wr.heap.size wr w3 := HB2.grown hgrow3 HB2.size (fun j ej => (hown2.lt j ej).1)
        have HOW3 : w3.ownsRow wr.heap.size 24 3 v3 (withF [] x).length (lcells (withF [] x)) := by
          rw [HW.out]
          simpa [lcells] using hown3
        clear HB1 HB2 hown1 hown2 hown3 hgrow1 hgrow2 hgrow3 e0 e1 e2
        have HBZ : Hid (Below wr.heap.size wr w3) := HB3
        have hrow : w3.ownsRow wr.heap.size 24 3 v3 (withF ([] : List F) x).length (lcells (withF ([] : List F) x)) := HOW3
        obtain ⟨av, cv, rfl, hlies, _⟩ := owns_lies hrow
        have HROW : Hid (w3.ownsRow wr.heap.size 24 3 (.slice av (withF ([] : List F) x).length cv) (withF ([] : List F) x).length (lcells (withF ([] : List F) x))) := hrow
        have HLI : Hid (LiesAt w3 av (withF ([] : List F) x)) := hlies
        have HK3 : Hid (Kept (w.alloc (.cells #[sv x.p, .bool x.r, sv x.t] 24)) w3 fb 0 (-1)) := HKR.out.below HB3
        have hwr1 : w.heap.size + 1 < wr.heap.size := by
          have := HKR.out.far
          rw [World.size_alloc] at this
          omega
        clear hrow hlies HB3 HOW3
        by_cases hcw : (treeFault (withF ([] : List F) x)).1 = 0
        · have HT : Hid (putT ([] : List F) x = (withF ([] : List F) x, 0, -1)) := by show putT ([] : List F) x = _; rw [HPUT.out, if_neg (by simp [hcw])]
          have HF : Hid (treeFault (withF ([] : List F) x) = (0, -1)) := treeFault_zero hcw
          clear hcw
          refine (refTreeFault_is (withF ([] : List F) x) av cv 0 (-1) _ HLI.out HSW.out (by rw [HF.out]; rfl) (by rw [HF.out])).mono ?_
          rintro e w4 ⟨rfl, hb4⟩
          have hk4 := HK3.out.below hb4
          have HK5 : Hid (Kept (w.alloc (.cells #[sv x.p, .bool x.r, sv x.t] 24)) ((w4.setCell ⟨fb, 0, none⟩ (.int .i64 0)).setCell ⟨fb, 1, none⟩ (.int .i64 (-1))) fb 0 (-1)) := hk4.set _ _
          have HROW5 : Hid (((w4.setCell ⟨fb, 0, none⟩ (.int .i64 0)).setCell ⟨fb, 1, none⟩ (.int .i64 (-1))).ownsRow wr.heap.size 24 3 (.slice av (withF ([] : List F) x).length cv) (withF ([] : List F) x).length (lcells (withF ([] : List F) x))) := owns_far _ _ (owns_below HROW.out hb4) (by omega)
          obtain ⟨_, _, t0, t1, t2, t3⟩ := hk4
          obtain ⟨_, _, u0, u1, u2, u3⟩ := HK5.out
          clear hb4
          go_wp2_with fail
          refine (fine_any _).mono ?_
          rintro e w6 ⟨rfl, hb6⟩
          have hk6 := HK5.out.below hb6
          obtain ⟨s0, s1, s2, s3⟩ := kept_slot hk6
          have HBW : Hid (Below w.heap.size w w6) := (kept_box hk6).2.2.2
          have hrow6 := owns_far (b := w.heap.size + 1) (.int .i64 0) (.int .i64 (-1)) (owns_below HROW5.out hb6) hwr1
          clear hb6 hk6 t0 t1 t2 t3 u0 u1 u2 u3
          go_wp2
          obtain ⟨q0, q1, q2⟩ := slot_far (w := w) (.int .i64 0) (.int .i64 (-1)) s0 s1 (by omega) HBW.out
          exact bodyPost_ret (v := .tuple #[.slice av (withF ([] : List F) x).length cv, .agg #[.int .i64 0, .int .i64 (-1)]]) (by simp [results, Tryz.results20, go_sem, q0, q1]) rfl ⟨⟨_, by rw [HT.out]; rfl, by rw [HT.out]; exact hrow6.mono (by omega)⟩, q2⟩
        · have HT : Hid (putT ([] : List F) x = ([], (treeFault (withF ([] : List F) x)).1, -1)) := by show putT ([] : List F) x = _; rw [HPUT.out, if_pos hcw]
          have hpos : (0 : Int) < ((treeFault (withF ([] : List F) x)).1 : Int) := by omega
          clear hcw
          refine (refTreeFault_any (withF ([] : List F) x) av cv _ HLI.out HSW.out).mono ?_
          rintro e w4 ⟨rfl, hb4⟩
          have hk4 := HK3.out.below hb4
          clear HLI HROW HSW HPUT HW
          generalize treeFault (withF ([] : List F) x) = tf at hpos HT
          have HK5 : Hid (Kept (w.alloc (.cells #[sv x.p, .bool x.r, sv x.t] 24)) ((w4.setCell ⟨fb, 0, none⟩ (.int .i64 tf.1)).setCell ⟨fb, 1, none⟩ (.int .i64 tf.2)) fb tf.1 tf.2) := hk4.set _ _
          obtain ⟨_, _, t0, t1, t2, t3⟩ := hk4
          obtain ⟨_, _, u0, u1, u2, u3⟩ := HK5.out
          clear hb4
          go_wp2_with fail
          refine (bare_any tf.1 _).mono ?_
          rintro e w6 ⟨rfl, hb6⟩
          have hk6 := HK5.out.below hb6
          obtain ⟨s0, s1, s2, s3⟩ := kept_slot hk6
          have HBW : Hid (Below w.heap.size w w6) := (kept_box hk6).2.2.2
          clear hb6 hk6 t0 t1 t2 t3 u0 u1 u2 u3
          go_wp2
          obtain ⟨q0, q1, q2⟩ := slot_far (w := w) (.int .i64 tf.1) (.int .i64 (-1)) s0 s1 (by omega) HBW.out
          exact bodyPost_ret (v := .tuple #[.slice none 0 0, .agg #[.int .i64 tf.1, .int .i64 (-1)]]) (by simp [results, Tryz.results20, go_sem, q0, q1]) rfl ⟨⟨_, by rw [HT.out], by rw [HT.out]; exact World.ownsRow_nil _ _ _ _⟩, q2⟩
      · obtain ⟨rfl, _⟩ := HN.out rfl
        go_wp2_with (at_builtin; first
          | (refine wpList_append_own_none rfl _ _ 22 rfl wr.heap.size 24 i0 3 Tryz.underlying22 hi _ _ _ rfl hown2 rfl ?_)
          | (refine wpList_append_own_none rfl _ _ 22 rfl wr.heap.size 24 i0 3 Tryz.underlying22 hi _ 0 [] rfl (World.ownsRow_nil _ _ _ _) rfl ?_)
          | (refine wpList_append_own _ rfl _ _ 22 rfl wr.heap.size 24 i0 (.agg #[.string ⟨#[]⟩, .bool false, .string ⟨#[]⟩]) 3 40 Tryz.underlying22 hi hz0 hz1 hz2 rfl (by decide) (.slice none 0 0) 0 [] rfl (World.ownsRow_nil _ _ _ _) ⟨wr.heap.size, 0, none⟩ 1 1 (fcells x) rfl rfl (cells_new wr x _) (by simp [fcells, Value.oneCell']) (by unfold maxLen; omega) (by omega) (by simp) ?_; intro v2 w2 hown2 hgrow2 _))
        obtain ⟨v3, hv3⟩ : ∃ v3, v3 = v2 := ⟨_, rfl⟩
        obtain ⟨w3, hw3⟩ : ∃ w3, w3 = w2 := ⟨_, rfl⟩
        have HB3 : Below wr.heap.size wr w3 := by rw [hw3]; exact ((below_drewN (Below.refl _ wr) _).alloc (Nat.le_refl _) _).grown hgrow2 (by simp) (fun j ej => by cases ej)
        have HOW3 : w3.ownsRow wr.heap.size 24 3 v3 (withF [] x).length (lcells (withF [] x)) := by
          rw [HW.out, hw3, hv3]
          simpa [lcells] using hown2
        rw [← hv3, ← hw3]
        clear hown2 hgrow2 hv3 hw3
        have HBZ : Hid (Below wr.heap.size wr w3) := HB3
        have hrow : w3.ownsRow wr.heap.size 24 3 v3 (withF ([] : List F) x).length (lcells (withF ([] : List F) x)) := HOW3
        obtain ⟨av, cv, rfl, hlies, _⟩ := owns_lies hrow
        have HROW : Hid (w3.ownsRow wr.heap.size 24 3 (.slice av (withF ([] : List F) x).length cv) (withF ([] : List F) x).length (lcells (withF ([] : List F) x))) := hrow
        have HLI : Hid (LiesAt w3 av (withF ([] : List F) x)) := hlies
        have HK3 : Hid (Kept (w.alloc (.cells #[sv x.p, .bool x.r, sv x.t] 24)) w3 fb 0 (-1)) := HKR.out.below HB3
        have hwr1 : w.heap.size + 1 < wr.heap.size := by
          have := HKR.out.far
          rw [World.size_alloc] at this
          omega
        clear hrow hlies HB3 HOW3
        by_cases hcw : (treeFault (withF ([] : List F) x)).1 = 0
        · have HT : Hid (putT ([] : List F) x = (withF ([] : List F) x, 0, -1)) := by show putT ([] : List F) x = _; rw [HPUT.out, if_neg (by simp [hcw])]
          have HF : Hid (treeFault (withF ([] : List F) x) = (0, -1)) := treeFault_zero hcw
          clear hcw
          refine (refTreeFault_is (withF ([] : List F) x) av cv 0 (-1) _ HLI.out HSW.out (by rw [HF.out]; rfl) (by rw [HF.out])).mono ?_
          rintro e w4 ⟨rfl, hb4⟩
          have hk4 := HK3.out.below hb4
          have HK5 : Hid (Kept (w.alloc (.cells #[sv x.p, .bool x.r, sv x.t] 24)) ((w4.setCell ⟨fb, 0, none⟩ (.int .i64 0)).setCell ⟨fb, 1, none⟩ (.int .i64 (-1))) fb 0 (-1)) := hk4.set _ _
          have HROW5 : Hid (((w4.setCell ⟨fb, 0, none⟩ (.int .i64 0)).setCell ⟨fb, 1, none⟩ (.int .i64 (-1))).ownsRow wr.heap.size 24 3 (.slice av (withF ([] : List F) x).length cv) (withF ([] : List F) x).length (lcells (withF ([] : List F) x))) := owns_far _ _ (owns_below HROW.out hb4) (by omega)
          obtain ⟨_, _, t0, t1, t2, t3⟩ := hk4
          obtain ⟨_, _, u0, u1, u2, u3⟩ := HK5.out
          clear hb4
          go_wp2_with fail
          refine (fine_any _).mono ?_
          rintro e w6 ⟨rfl, hb6⟩
          have hk6 := HK5.out.below hb6
          obtain ⟨s0, s1, s2, s3⟩ := kept_slot hk6
          have HBW : Hid (Below w.heap.size w w6) := (kept_box hk6).2.2.2
          have hrow6 := owns_far (b := w.heap.size + 1) (.int .i64 0) (.int .i64 (-1)) (owns_below HROW5.out hb6) hwr1
          clear hb6 hk6 t0 t1 t2 t3 u0 u1 u2 u3
          go_wp2
          obtain ⟨q0, q1, q2⟩ := slot_far (w := w) (.int .i64 0) (.int .i64 (-1)) s0 s1 (by omega) HBW.out
          exact bodyPost_ret (v := .tuple #[.slice av (withF ([] : List F) x).length cv, .agg #[.int .i64 0, .int .i64 (-1)]]) (by simp [results, Tryz.results20, go_sem, q0, q1]) rfl ⟨⟨_, by rw [HT.out]; rfl, by rw [HT.out]; exact hrow6.mono (by omega)⟩, q2⟩
        · have HT : Hid (putT ([] : List F) x = ([], (treeFault (withF ([] : List F) x)).1, -1)) := by show putT ([] : List F) x = _; rw [HPUT.out, if_pos hcw]
          have hpos : (0 : Int) < ((treeFault (withF ([] : List F) x)).1 : Int) := by omega
          clear hcw
          refine (refTreeFault_any (withF ([] : List F) x) av cv _ HLI.out HSW.out).mono ?_
          rintro e w4 ⟨rfl, hb4⟩
          have hk4 := HK3.out.below hb4
          clear HLI HROW HSW HPUT HW
          generalize treeFault (withF ([] : List F) x) = tf at hpos HT
          have HK5 : Hid (Kept (w.alloc (.cells #[sv x.p, .bool x.r, sv x.t] 24)) ((w4.setCell ⟨fb, 0, none⟩ (.int .i64 tf.1)).setCell ⟨fb, 1, none⟩ (.int .i64 tf.2)) fb tf.1 tf.2) := hk4.set _ _
          obtain ⟨_, _, t0, t1, t2, t3⟩ := hk4
          obtain ⟨_, _, u0, u1, u2, u3⟩ := HK5.out
          clear hb4
          go_wp2_with fail
          refine (bare_any tf.1 _).mono ?_
          rintro e w6 ⟨rfl, hb6⟩
          have hk6 := HK5.out.below hb6
          obtain ⟨s0, s1, s2, s3⟩ := kept_slot hk6
          have HBW : Hid (Below w.heap.size w w6) := (kept_box hk6).2.2.2
          clear hb6 hk6 t0 t1 t2 t3 u0 u1 u2 u3
          go_wp2
          obtain ⟨q0, q1, q2⟩ := slot_far (w := w) (.int .i64 tf.1) (.int .i64 (-1)) s0 s1 (by omega) HBW.out
          exact bodyPost_ret (v := .tuple #[.slice none 0 0, .agg #[.int .i64 tf.1, .int .i64 (-1)]]) (by simp [results, Tryz.results20, go_sem, q0, q1]) rfl ⟨⟨_, by rw [HT.out], by rw [HT.out]; exact World.ownsRow_nil _ _ _ _⟩, q2⟩
    · obtain ⟨b, o, rfl, _⟩ := HL.out hl0
      go_loopw [7] (fun ja wr => ∃ j : Nat, j ≤ l.length ∧ ja = .int .i64 j ∧ (∀ i (h : i < l.length), i < j → less l[i].p x.p = true) ∧ Below WA.heap.size WA wr) (fun ja _ => l.length - (intOf ja).toNat)
      case atStart => exact ⟨0, by omega, rfl, fun _ _ h => by omega, Below.refl _ _⟩
      case round =>
        obtain ⟨j, hj, rfl, hlo, hb⟩ := hrel
        have HLO : Hid (∀ i (h : i < l.length), i < j → less l[i].p x.p = true) := hlo
        have HB : Hid (Below WA.heap.size WA wr) := hb
        have HKR : Hid (Kept (w.alloc (.cells #[sv x.p, .bool x.r, sv x.t] 24)) wr fb 0 (-1)) := HKA.out.below hb
        have hsR : fb + 1 ≤ wr.heap.size := block_lt_of_cell HKR.out.c0
        obtain ⟨x0, x1, x2, hBR⟩ := kept_box HKR.out
        have HLR : Hid (LiesAt wr (some ⟨b, o, none⟩) l) := HL.out.below hBR
        clear hlo hb hBR
        have hj0 : (0 : Int) ≤ (j : Int) := by omega
        by_cases hlt : j < l.length
        · have hlt' : (j : Int) < (l.length : Int) := by omega
          obtain ⟨b', o', e', c0, c1, c2⟩ := HLR.out.at hlt
          cases e'
          cases hle : less l[j].p x.p with
          | true =>
            have HLO2 : Hid (∀ i (h : i < l.length), i < j + 1 → less l[i].p x.p = true) := by
              intro i hi hij
              by_cases e : i = j
              · subst e; exact hle
              · exact HLO.out i hi (by omega)
            have hle' : Op.bytesLess l[j].p x.p = true := hle
            clear hle
            generalize l[j] = y at c0 c1 c2 hle'
            go_wp2_with fail
            go_quiet (fail)
            go_wp2
            go_roundw
            case rel => exact ⟨j + 1, by omega, by go_num, HLO2.out, below_drewN HB.out _⟩
            case measure => simp [intOf]; omega
          | false =>
            have HP : Hid (Place l x.p j) := ⟨hj, HLO.out, fun _ => hle⟩
            have hle' : Op.bytesLess l[j].p x.p = false := hle
            clear hle
            by_cases he : l[j].p = x.p
            · have ht : there l x.p j = true := by rw [there_at hlt]; simp [he]
              have HW : Hid (withF l x = l.take j ++ x :: l.drop (j + 1)) := with_there HP.out ht
              have he' : (l[j].p == x.p) = true := by simp [he]
              clear he ht
              generalize l[j] = y at c0 c1 c2 hle' he'
              go_wp2_with fail
              go_quiet (fail)
              have HLT : Hid ((lcells (l.take j)).length = j * 3) := by show _ = _; rw [lcells_length, List.length_take]; congr 1; omega
              have HLD : Hid ((lcells (l.drop (j + 1))).length = (l.length - (j + 1)) * 3) := by show _ = _; rw [lcells_length, List.length_drop]
              have HSRC1 : Hid (∀ t u, (lcells (l.take j))[t]? = some u → wr.cell? ((⟨b, o, none⟩ : Addr).add t) = some u) := head_src' HLR.out
              obtain ⟨A, hA, hsrc⟩ := tail_src' (cap := ca) (j := j + 1) HLR.out (by omega) hca
              have hjl : (j : Int) ≤ (l.length : Int) := by omega
              have hjc : (j : Int) ≤ (ca : Int) := by omega
              have hcj : ¬ (ca = j) := by omega
              have hj1 : (j : Int) + 1 ≤ (l.length : Int) := by omega
              have hj2 : (0 : Int) ≤ (j : Int) + 1 := by omega
              have hj3 : ((j : Int) + 1).toNat = j + 1 := by omega
              go_wp2_with fail
              go_quiet (fail)

              go_wp2_with (at_builtin; first
                | (refine wpList_append_own _ rfl _ _ 22 rfl wr.heap.size 24 i0 (.agg #[.string ⟨#[]⟩, .bool false, .string ⟨#[]⟩]) 3 40 Tryz.underlying22 hi hz0 hz1 hz2 rfl (by decide) _ _ _ rfl hown2 A (l.length - (j + 1)) (ca - (j + 1)) (lcells (l.drop (j + 1))) rfl HLD.out (fun t u hu => (HB2.cell (p := A.add t) (block_lt_of_cell (hsrc.out t u hu))).trans (hsrc.out t u hu)) (lcells_one _) (by unfold maxLen; omega) (by omega) HB2.size ?_; intro v3 w3 hown3 hgrow3 _)
                | (refine wpList_append_own _ rfl _ _ 22 rfl wr.heap.size 24 i0 (.agg #[.string ⟨#[]⟩, .bool false, .string ⟨#[]⟩]) 3 40 Tryz.underlying22 hi hz0 hz1 hz2 rfl (by decide) _ _ _ rfl (hown1.alloc _) ⟨w1'.heap.size, 0, none⟩ 1 1 (fcells x) rfl rfl (cells_new w1' x _) (by simp [fcells, Value.oneCell']) (by unfold maxLen; omega) (by omega) (Nat.le_trans HB1.size (by simp)) ?_; intro v2 w2 hown2 hgrow2 _; have HB2 : Below wr.heap.size wr w2 := (HB1.alloc HB1.size _).grown hgrow2 (Nat.le_trans HB1.size (by simp)) (fun j ej => (hown1.lt j ej).1))
                | (refine wpList_append_own _ rfl _ _ 22 rfl wr.heap.size 24 i0 (.agg #[.string ⟨#[]⟩, .bool false, .string ⟨#[]⟩]) 3 40 Tryz.underlying22 hi hz0 hz1 hz2 rfl (by decide) (.slice none 0 0) 0 [] rfl (World.ownsRow_nil _ _ _ _) ⟨b, o, none⟩ j ca (lcells (l.take j)) rfl HLT.out HSRC1.out (lcells_one _) (by unfold maxLen; omega) (by omega) (Nat.le_refl _) ?_; intro v1 w1' hown1 hgrow1 _; have HB1 : Below wr.heap.size wr w1' := (below_drewN (Below.refl _ wr) _).grown hgrow1 (Nat.le_refl _) (fun k e => by cases e); obtain ⟨e0, e1, e2, _⟩ := kept_box (HKR.out.below HB1)))
              have HB3 : Below wr.heap.size wr w3 := HB2.grown hgrow3 HB2.size (fun j ej => (hown2.lt j ej).1)
              have HOW3 : w3.ownsRow wr.heap.size 24 3 v3 (withF l x).length (lcells (withF l x)) := by
                have e1 : (withF l x).length = 0 + j + 1 + (l.length - (j + 1)) := by rw [HW.out, List.length_append, List.length_cons, List.length_take, List.length_drop]; omega
                have e2 : lcells (withF l x) = [] ++ lcells (l.take j) ++ fcells x ++ lcells (l.drop (j + 1)) := by rw [HW.out, lcells_app, List.nil_append, List.append_assoc]; rfl
                rw [e1, e2]
                exact hown3
              clear HB1 HB2 hown1 hown2 hown3 hgrow1 hgrow2 hgrow3 hsrc HSRC1 e0 e1 e2

              have HBZ : Hid (Below wr.heap.size wr w3) := HB3
              have hrow : w3.ownsRow wr.heap.size 24 3 v3 (withF l x).length (lcells (withF l x)) := HOW3
              obtain ⟨av, cv, rfl, hlies, _⟩ := owns_lies hrow
              have HROW : Hid (w3.ownsRow wr.heap.size 24 3 (.slice av (withF l x).length cv) (withF l x).length (lcells (withF l x))) := hrow
              have HLI : Hid (LiesAt w3 av (withF l x)) := hlies
              have HK3 : Hid (Kept (w.alloc (.cells #[sv x.p, .bool x.r, sv x.t] 24)) w3 fb 0 (-1)) := HKR.out.below HB3
              have hwr1 : w.heap.size + 1 < wr.heap.size := by
                have := HKR.out.far
                rw [World.size_alloc] at this
                omega
              clear hrow hlies HB3 HOW3
              by_cases hcw : (treeFault (withF l x)).1 = 0
              · have HT : Hid (putT l x = (withF l x, 0, -1)) := by show putT l x = _; rw [HPUT.out, if_neg (by simp [hcw])]
                have HF : Hid (treeFault (withF l x) = (0, -1)) := treeFault_zero hcw
                clear hcw
                refine (refTreeFault_is (withF l x) av cv 0 (-1) _ HLI.out HSW.out (by rw [HF.out]; rfl) (by rw [HF.out])).mono ?_
                rintro e w4 ⟨rfl, hb4⟩
                have hk4 := HK3.out.below hb4
                have HK5 : Hid (Kept (w.alloc (.cells #[sv x.p, .bool x.r, sv x.t] 24)) ((w4.setCell ⟨fb, 0, none⟩ (.int .i64 0)).setCell ⟨fb, 1, none⟩ (.int .i64 (-1))) fb 0 (-1)) := hk4.set _ _
                have HROW5 : Hid (((w4.setCell ⟨fb, 0, none⟩ (.int .i64 0)).setCell ⟨fb, 1, none⟩ (.int .i64 (-1))).ownsRow wr.heap.size 24 3 (.slice av (withF l x).length cv) (withF l x).length (lcells (withF l x))) := owns_far _ _ (owns_below HROW.out hb4) (by omega)
                obtain ⟨_, _, t0, t1, t2, t3⟩ := hk4
                obtain ⟨_, _, u0, u1, u2, u3⟩ := HK5.out
                clear hb4
                go_wp2_with fail
                refine (fine_any _).mono ?_
                rintro e w6 ⟨rfl, hb6⟩
                have hk6 := HK5.out.below hb6
                obtain ⟨s0, s1, s2, s3⟩ := kept_slot hk6
                have HBW : Hid (Below w.heap.size w w6) := (kept_box hk6).2.2.2
                have hrow6 := owns_far (b := w.heap.size + 1) (.int .i64 0) (.int .i64 (-1)) (owns_below HROW5.out hb6) hwr1
                clear hb6 hk6 t0 t1 t2 t3 u0 u1 u2 u3
                go_wp2
                obtain ⟨q0, q1, q2⟩ := slot_far (w := w) (.int .i64 0) (.int .i64 (-1)) s0 s1 (by omega) HBW.out
                exact bodyPost_ret (v := .tuple #[.slice av (withF l x).length cv, .agg #[.int .i64 0, .int .i64 (-1)]]) (by simp [results, Tryz.results20, go_sem, q0, q1]) rfl ⟨⟨_, by rw [HT.out]; rfl, by rw [HT.out]; exact hrow6.mono (by omega)⟩, q2⟩
              · have HT : Hid (putT l x = ([], (treeFault (withF l x)).1, -1)) := by show putT l x = _; rw [HPUT.out, if_pos hcw]
                have hpos : (0 : Int) < ((treeFault (withF l x)).1 : Int) := by omega
                clear hcw
                refine (refTreeFault_any (withF l x) av cv _ HLI.out HSW.out).mono ?_
                rintro e w4 ⟨rfl, hb4⟩
                have hk4 := HK3.out.below hb4
                clear HLI HROW HSW HPUT HW
                generalize treeFault (withF l x) = tf at hpos HT
                have HK5 : Hid (Kept (w.alloc (.cells #[sv x.p, .bool x.r, sv x.t] 24)) ((w4.setCell ⟨fb, 0, none⟩ (.int .i64 tf.1)).setCell ⟨fb, 1, none⟩ (.int .i64 tf.2)) fb tf.1 tf.2) := hk4.set _ _
                obtain ⟨_, _, t0, t1, t2, t3⟩ := hk4
                obtain ⟨_, _, u0, u1, u2, u3⟩ := HK5.out
                clear hb4
                go_wp2_with fail
                refine (bare_any tf.1 _).mono ?_
                rintro e w6 ⟨rfl, hb6⟩
                have hk6 := HK5.out.below hb6
                obtain ⟨s0, s1, s2, s3⟩ := kept_slot hk6
                have HBW : Hid (Below w.heap.size w w6) := (kept_box hk6).2.2.2
                clear hb6 hk6 t0 t1 t2 t3 u0 u1 u2 u3
                go_wp2
                obtain ⟨q0, q1, q2⟩ := slot_far (w := w) (.int .i64 tf.1) (.int .i64 (-1)) s0 s1 (by omega) HBW.out
                exact bodyPost_ret (v := .tuple #[.slice none 0 0, .agg #[.int .i64 tf.1, .int .i64 (-1)]]) (by simp [results, Tryz.results20, go_sem, q0, q1]) rfl ⟨⟨_, by rw [HT.out], by rw [HT.out]; exact World.ownsRow_nil _ _ _ _⟩, q2⟩
            · have ht : there l x.p j = false := by rw [there_at hlt]; simp [he]
              have HW : Hid (withF l x = l.take j ++ x :: l.drop j) := with_absent HP.out ht
              have he' : (l[j].p == x.p) = false := by simp [he]
              clear he ht
              generalize l[j] = y at c0 c1 c2 hle' he'
              go_wp2_with fail
              go_quiet (fail)
              have HLT : Hid ((lcells (l.take j)).length = j * 3) := by show _ = _; rw [lcells_length, List.length_take]; congr 1; omega
              have HLD : Hid ((lcells (l.drop (j))).length = (l.length - (j)) * 3) := by show _ = _; rw [lcells_length, List.length_drop]
              have HSRC1 : Hid (∀ t u, (lcells (l.take j))[t]? = some u → wr.cell? ((⟨b, o, none⟩ : Addr).add t) = some u) := head_src' HLR.out
              obtain ⟨A, hA, hsrc⟩ := tail_src' (cap := ca) (j := j) HLR.out (by omega) hca
              have hjl : (j : Int) ≤ (l.length : Int) := by omega
              have hjc : (j : Int) ≤ (ca : Int) := by omega
              have hcj : ¬ (ca = j) := by omega
              rw [if_neg hcj] at hA
              cases hA
              go_wp2_with fail
              go_quiet (fail)

              go_wp2_with (at_builtin; first
                | (refine wpList_append_own _ rfl _ _ 22 rfl wr.heap.size 24 i0 (.agg #[.string ⟨#[]⟩, .bool false, .string ⟨#[]⟩]) 3 40 Tryz.underlying22 hi hz0 hz1 hz2 rfl (by decide) _ _ _ rfl hown2 (⟨b, o + j * 3, none⟩ : Addr) (l.length - (j)) (ca - (j)) (lcells (l.drop (j))) rfl HLD.out (fun t u hu => (HB2.cell (p := (⟨b, o + j * 3, none⟩ : Addr).add t) (block_lt_of_cell (hsrc.out t u hu))).trans (hsrc.out t u hu)) (lcells_one _) (by unfold maxLen; omega) (by omega) HB2.size ?_; intro v3 w3 hown3 hgrow3 _)
                | (refine wpList_append_own _ rfl _ _ 22 rfl wr.heap.size 24 i0 (.agg #[.string ⟨#[]⟩, .bool false, .string ⟨#[]⟩]) 3 40 Tryz.underlying22 hi hz0 hz1 hz2 rfl (by decide) _ _ _ rfl (hown1.alloc _) ⟨w1'.heap.size, 0, none⟩ 1 1 (fcells x) rfl rfl (cells_new w1' x _) (by simp [fcells, Value.oneCell']) (by unfold maxLen; omega) (by omega) (Nat.le_trans HB1.size (by simp)) ?_; intro v2 w2 hown2 hgrow2 _; have HB2 : Below wr.heap.size wr w2 := (HB1.alloc HB1.size _).grown hgrow2 (Nat.le_trans HB1.size (by simp)) (fun j ej => (hown1.lt j ej).1))
                | (refine wpList_append_own _ rfl _ _ 22 rfl wr.heap.size 24 i0 (.agg #[.string ⟨#[]⟩, .bool false, .string ⟨#[]⟩]) 3 40 Tryz.underlying22 hi hz0 hz1 hz2 rfl (by decide) (.slice none 0 0) 0 [] rfl (World.ownsRow_nil _ _ _ _) ⟨b, o, none⟩ j ca (lcells (l.take j)) rfl HLT.out HSRC1.out (lcells_one _) (by unfold maxLen; omega) (by omega) (Nat.le_refl _) ?_; intro v1 w1' hown1 hgrow1 _; have HB1 : Below wr.heap.size wr w1' := (below_drewN (Below.refl _ wr) _).grown hgrow1 (Nat.le_refl _) (fun k e => by cases e); obtain ⟨e0, e1, e2, _⟩ := kept_box (HKR.out.below HB1)))
              have HB3 : Below wr.heap.size wr w3 := HB2.grown hgrow3 HB2.size (fun j ej => (hown2.lt j ej).1)
              have HOW3 : w3.ownsRow wr.heap.size 24 3 v3 (withF l x).length (lcells (withF l x)) := by
                have e1 : (withF l x).length = 0 + j + 1 + (l.length - (j)) := by rw [HW.out, List.length_append, List.length_cons, List.length_take, List.length_drop]; omega
                have e2 : lcells (withF l x) = [] ++ lcells (l.take j) ++ fcells x ++ lcells (l.drop (j)) := by rw [HW.out, lcells_app, List.nil_append, List.append_assoc]; rfl
                rw [e1, e2]
                exact hown3
              clear HB1 HB2 hown1 hown2 hown3 hgrow1 hgrow2 hgrow3 hsrc HSRC1 e0 e1 e2

              have HBZ : Hid (Below wr.heap.size wr w3) := HB3
              have hrow : w3.ownsRow wr.heap.size 24 3 v3 (withF l x).length (lcells (withF l x)) := HOW3
              obtain ⟨av, cv, rfl, hlies, _⟩ := owns_lies hrow
              have HROW : Hid (w3.ownsRow wr.heap.size 24 3 (.slice av (withF l x).length cv) (withF l x).length (lcells (withF l x))) := hrow
              have HLI : Hid (LiesAt w3 av (withF l x)) := hlies
              have HK3 : Hid (Kept (w.alloc (.cells #[sv x.p, .bool x.r, sv x.t] 24)) w3 fb 0 (-1)) := HKR.out.below HB3
              have hwr1 : w.heap.size + 1 < wr.heap.size := by
                have := HKR.out.far
                rw [World.size_alloc] at this
                omega
              clear hrow hlies HB3 HOW3
              by_cases hcw : (treeFault (withF l x)).1 = 0
              · have HT : Hid (putT l x = (withF l x, 0, -1)) := by show putT l x = _; rw [HPUT.out, if_neg (by simp [hcw])]
                have HF : Hid (treeFault (withF l x) = (0, -1)) := treeFault_zero hcw
                clear hcw
                refine (refTreeFault_is (withF l x) av cv 0 (-1) _ HLI.out HSW.out (by rw [HF.out]; rfl) (by rw [HF.out])).mono ?_
                rintro e w4 ⟨rfl, hb4⟩
                have hk4 := HK3.out.below hb4
                have HK5 : Hid (Kept (w.alloc (.cells #[sv x.p, .bool x.r, sv x.t] 24)) ((w4.setCell ⟨fb, 0, none⟩ (.int .i64 0)).setCell ⟨fb, 1, none⟩ (.int .i64 (-1))) fb 0 (-1)) := hk4.set _ _
                have HROW5 : Hid (((w4.setCell ⟨fb, 0, none⟩ (.int .i64 0)).setCell ⟨fb, 1, none⟩ (.int .i64 (-1))).ownsRow wr.heap.size 24 3 (.slice av (withF l x).length cv) (withF l x).length (lcells (withF l x))) := owns_far _ _ (owns_below HROW.out hb4) (by omega)
                obtain ⟨_, _, t0, t1, t2, t3⟩ := hk4
                obtain ⟨_, _, u0, u1, u2, u3⟩ := HK5.out
                clear hb4
                go_wp2_with fail
                refine (fine_any _).mono ?_
                rintro e w6 ⟨rfl, hb6⟩
                have hk6 := HK5.out.below hb6
                obtain ⟨s0, s1, s2, s3⟩ := kept_slot hk6
                have HBW : Hid (Below w.heap.size w w6) := (kept_box hk6).2.2.2
                have hrow6 := owns_far (b := w.heap.size + 1) (.int .i64 0) (.int .i64 (-1)) (owns_below HROW5.out hb6) hwr1
                clear hb6 hk6 t0 t1 t2 t3 u0 u1 u2 u3
                go_wp2
                obtain ⟨q0, q1, q2⟩ := slot_far (w := w) (.int .i64 0) (.int .i64 (-1)) s0 s1 (by omega) HBW.out
                exact bodyPost_ret (v := .tuple #[.slice av (withF l x).length cv, .agg #[.int .i64 0, .int .i64 (-1)]]) (by simp [results, Tryz.results20, go_sem, q0, q1]) rfl ⟨⟨_, by rw [HT.out]; rfl, by rw [HT.out]; exact hrow6.mono (by omega)⟩, q2⟩
              · have HT : Hid (putT l x = ([], (treeFault (withF l x)).1, -1)) := by show putT l x = _; rw [HPUT.out, if_pos hcw]
                have hpos : (0 : Int) < ((treeFault (withF l x)).1 : Int) := by omega
                clear hcw
                refine (refTreeFault_any (withF l x) av cv _ HLI.out HSW.out).mono ?_
                rintro e w4 ⟨rfl, hb4⟩
                have hk4 := HK3.out.below hb4
                clear HLI HROW HSW HPUT HW
                generalize treeFault (withF l x) = tf at hpos HT
                have HK5 : Hid (Kept (w.alloc (.cells #[sv x.p, .bool x.r, sv x.t] 24)) ((w4.setCell ⟨fb, 0, none⟩ (.int .i64 tf.1)).setCell ⟨fb, 1, none⟩ (.int .i64 tf.2)) fb tf.1 tf.2) := hk4.set _ _
                obtain ⟨_, _, t0, t1, t2, t3⟩ := hk4
                obtain ⟨_, _, u0, u1, u2, u3⟩ := HK5.out
                clear hb4
                go_wp2_with fail
                refine (bare_any tf.1 _).mono ?_
                rintro e w6 ⟨rfl, hb6⟩
                have hk6 := HK5.out.below hb6
                obtain ⟨s0, s1, s2, s3⟩ := kept_slot hk6
                have HBW : Hid (Below w.heap.size w w6) := (kept_box hk6).2.2.2
                clear hb6 hk6 t0 t1 t2 t3 u0 u1 u2 u3
                go_wp2
                obtain ⟨q0, q1, q2⟩ := slot_far (w := w) (.int .i64 tf.1) (.int .i64 (-1)) s0 s1 (by omega) HBW.out
                exact bodyPost_ret (v := .tuple #[.slice none 0 0, .agg #[.int .i64 tf.1, .int .i64 (-1)]]) (by simp [results, Tryz.results20, go_sem, q0, q1]) rfl ⟨⟨_, by rw [HT.out], by rw [HT.out]; exact World.ownsRow_nil _ _ _ _⟩, q2⟩
        · have HP : Hid (Place l x.p j) := ⟨hj, HLO.out, fun h => absurd h hlt⟩
          have HW : Hid (withF l x = l.take j ++ x :: l.drop j) := with_absent HP.out (there_end hlt)
          have hlt' : decide ((j : Int) < (l.length : Int)) = false := by simp; omega
          go_wp2_with fail
          go_quiet (fail)
          have HLT : Hid ((lcells (l.take j)).length = j * 3) := by show _ = _; rw [lcells_length, List.length_take]; congr 1; omega
          have HLD : Hid ((lcells (l.drop (j))).length = (l.length - (j)) * 3) := by show _ = _; rw [lcells_length, List.length_drop]
          have HSRC1 : Hid (∀ t u, (lcells (l.take j))[t]? = some u → wr.cell? ((⟨b, o, none⟩ : Addr).add t) = some u) := head_src' HLR.out
          obtain ⟨A, hA, hsrc⟩ := tail_src' (cap := ca) (j := j) HLR.out (by omega) hca
          have hjl : (j : Int) ≤ (l.length : Int) := by omega
          have hjc : (j : Int) ≤ (ca : Int) := by omega

          go_wp2_with (at_builtin; first
            | (refine wpList_append_own _ rfl _ _ 22 rfl wr.heap.size 24 i0 (.agg #[.string ⟨#[]⟩, .bool false, .string ⟨#[]⟩]) 3 40 Tryz.underlying22 hi hz0 hz1 hz2 rfl (by decide) _ _ _ rfl hown2 A (l.length - (j)) (ca - (j)) (lcells (l.drop (j))) rfl HLD.out (fun t u hu => (HB2.cell (p := A.add t) (block_lt_of_cell (hsrc.out t u hu))).trans (hsrc.out t u hu)) (lcells_one _) (by unfold maxLen; omega) (by omega) HB2.size ?_; intro v3 w3 hown3 hgrow3 _)
            | (refine wpList_append_own _ rfl _ _ 22 rfl wr.heap.size 24 i0 (.agg #[.string ⟨#[]⟩, .bool false, .string ⟨#[]⟩]) 3 40 Tryz.underlying22 hi hz0 hz1 hz2 rfl (by decide) _ _ _ rfl (hown1.alloc _) ⟨w1'.heap.size, 0, none⟩ 1 1 (fcells x) rfl rfl (cells_new w1' x _) (by simp [fcells, Value.oneCell']) (by unfold maxLen; omega) (by omega) (Nat.le_trans HB1.size (by simp)) ?_; intro v2 w2 hown2 hgrow2 _; have HB2 : Below wr.heap.size wr w2 := (HB1.alloc HB1.size _).grown hgrow2 (Nat.le_trans HB1.size (by simp)) (fun j ej => (hown1.lt j ej).1))
            | (refine wpList_append_own _ rfl _ _ 22 rfl wr.heap.size 24 i0 (.agg #[.string ⟨#[]⟩, .bool false, .string ⟨#[]⟩]) 3 40 Tryz.underlying22 hi hz0 hz1 hz2 rfl (by decide) (.slice none 0 0) 0 [] rfl (World.ownsRow_nil _ _ _ _) ⟨b, o, none⟩ j ca (lcells (l.take j)) rfl HLT.out HSRC1.out (lcells_one _) (by unfold maxLen; omega) (by omega) (Nat.le_refl _) ?_; intro v1 w1' hown1 hgrow1 _; have HB1 : Below wr.heap.size wr w1' := (below_drewN (Below.refl _ wr) _).grown hgrow1 (Nat.le_refl _) (fun k e => by cases e); obtain ⟨e0, e1, e2, _⟩ := kept_box (HKR.out.below HB1)))
          have HB3 : Below wr.heap.size wr w3 := HB2.grown hgrow3 HB2.size (fun j ej => (hown2.lt j ej).1)
          have HOW3 : w3.ownsRow wr.heap.size 24 3 v3 (withF l x).length (lcells (withF l x)) := by
            have e1 : (withF l x).length = 0 + j + 1 + (l.length - (j)) := by rw [HW.out, List.length_append, List.length_cons, List.length_take, List.length_drop]; omega
            have e2 : lcells (withF l x) = [] ++ lcells (l.take j) ++ fcells x ++ lcells (l.drop (j)) := by rw [HW.out, lcells_app, List.nil_append, List.append_assoc]; rfl
            rw [e1, e2]
            exact hown3
          clear HB1 HB2 hown1 hown2 hown3 hgrow1 hgrow2 hgrow3 hsrc HSRC1 e0 e1 e2

          have HBZ : Hid (Below wr.heap.size wr w3) := HB3
          have hrow : w3.ownsRow wr.heap.size 24 3 v3 (withF l x).length (lcells (withF l x)) := HOW3
          obtain ⟨av, cv, rfl, hlies, _⟩ := owns_lies hrow
          have HROW : Hid (w3.ownsRow wr.heap.size 24 3 (.slice av (withF l x).length cv) (withF l x).length (lcells (withF l x))) := hrow
          have HLI : Hid (LiesAt w3 av (withF l x)) := hlies
          have HK3 : Hid (Kept (w.alloc (.cells #[sv x.p, .bool x.r, sv x.t] 24)) w3 fb 0 (-1)) := HKR.out.below HB3
          have hwr1 : w.heap.size + 1 < wr.heap.size := by
            have := HKR.out.far
            rw [World.size_alloc] at this
            omega
          clear hrow hlies HB3 HOW3
          by_cases hcw : (treeFault (withF l x)).1 = 0
          · have HT : Hid (putT l x = (withF l x, 0, -1)) := by show putT l x = _; rw [HPUT.out, if_neg (by simp [hcw])]
            have HF : Hid (treeFault (withF l x) = (0, -1)) := treeFault_zero hcw
            clear hcw
            refine (refTreeFault_is (withF l x) av cv 0 (-1) _ HLI.out HSW.out (by rw [HF.out]; rfl) (by rw [HF.out])).mono ?_
            rintro e w4 ⟨rfl, hb4⟩
            have hk4 := HK3.out.below hb4
            have HK5 : Hid (Kept (w.alloc (.cells #[sv x.p, .bool x.r, sv x.t] 24)) ((w4.setCell ⟨fb, 0, none⟩ (.int .i64 0)).setCell ⟨fb, 1, none⟩ (.int .i64 (-1))) fb 0 (-1)) := hk4.set _ _
            have HROW5 : Hid (((w4.setCell ⟨fb, 0, none⟩ (.int .i64 0)).setCell ⟨fb, 1, none⟩ (.int .i64 (-1))).ownsRow wr.heap.size 24 3 (.slice av (withF l x).length cv) (withF l x).length (lcells (withF l x))) := owns_far _ _ (owns_below HROW.out hb4) (by omega)
            obtain ⟨_, _, t0, t1, t2, t3⟩ := hk4
            obtain ⟨_, _, u0, u1, u2, u3⟩ := HK5.out
            clear hb4
            go_wp2_with fail
            refine (fine_any _).mono ?_
            rintro e w6 ⟨rfl, hb6⟩
            have hk6 := HK5.out.below hb6
            obtain ⟨s0, s1, s2, s3⟩ := kept_slot hk6
            have HBW : Hid (Below w.heap.size w w6) := (kept_box hk6).2.2.2
            have hrow6 := owns_far (b := w.heap.size + 1) (.int .i64 0) (.int .i64 (-1)) (owns_below HROW5.out hb6) hwr1
            clear hb6 hk6 t0 t1 t2 t3 u0 u1 u2 u3
            go_wp2
            obtain ⟨q0, q1, q2⟩ := slot_far (w := w) (.int .i64 0) (.int .i64 (-1)) s0 s1 (by omega) HBW.out
            exact bodyPost_ret (v := .tuple #[.slice av (withF l x).length cv, .agg #[.int .i64 0, .int .i64 (-1)]]) (by simp [results, Tryz.results20, go_sem, q0, q1]) rfl ⟨⟨_, by rw [HT.out]; rfl, by rw [HT.out]; exact hrow6.mono (by omega)⟩, q2⟩
          · have HT : Hid (putT l x = ([], (treeFault (withF l x)).1, -1)) := by show putT l x = _; rw [HPUT.out, if_pos hcw]
            have hpos : (0 : Int) < ((treeFault (withF l x)).1 : Int) := by omega
            clear hcw
            refine (refTreeFault_any (withF l x) av cv _ HLI.out HSW.out).mono ?_
            rintro e w4 ⟨rfl, hb4⟩
            have hk4 := HK3.out.below hb4
            clear HLI HROW HSW HPUT HW
            generalize treeFault (withF l x) = tf at hpos HT
            have HK5 : Hid (Kept (w.alloc (.cells #[sv x.p, .bool x.r, sv x.t] 24)) ((w4.setCell ⟨fb, 0, none⟩ (.int .i64 tf.1)).setCell ⟨fb, 1, none⟩ (.int .i64 tf.2)) fb tf.1 tf.2) := hk4.set _ _
            obtain ⟨_, _, t0, t1, t2, t3⟩ := hk4
            obtain ⟨_, _, u0, u1, u2, u3⟩ := HK5.out
            clear hb4
            go_wp2_with fail
            refine (bare_any tf.1 _).mono ?_
            rintro e w6 ⟨rfl, hb6⟩
            have hk6 := HK5.out.below hb6
            obtain ⟨s0, s1, s2, s3⟩ := kept_slot hk6
            have HBW : Hid (Below w.heap.size w w6) := (kept_box hk6).2.2.2
            clear hb6 hk6 t0 t1 t2 t3 u0 u1 u2 u3
            go_wp2
            obtain ⟨q0, q1, q2⟩ := slot_far (w := w) (.int .i64 tf.1) (.int .i64 (-1)) s0 s1 (by omega) HBW.out
            exact bodyPost_ret (v := .tuple #[.slice none 0 0, .agg #[.int .i64 tf.1, .int .i64 (-1)]]) (by simp [results, Tryz.results20, go_sem, q0, q1]) rfl ⟨⟨_, by rw [HT.out], by rw [HT.out]; exact World.ownsRow_nil _ _ _ _⟩, q2⟩
  · have HD : Hid (putT l x = ([], treeFault l)) := by
      show putT l x = _
      simp [putT, hc]
    obtain ⟨s0, s1, s2, s3⟩ := kept_slot HK1.out
    obtain ⟨_, _, _, hBW⟩ := kept_box HK1.out
    have HBW : Hid (Below w.heap.size w (w1.alloc (.cells #[.int .i64 (treeFault l).1, .int .i64 (treeFault l).2] 38))) := hBW
    clear HK1 hBW
    generalize treeFault l = tf at *
    have hpos : (0 : Int) < (tf.1 : Int) := by omega
    go_wp2
    go_region
    all_goals go_wp2
    all_goals
      obtain ⟨q0, q1, q2⟩ := slot_far (w := w) (.int .i64 tf.1) (.int .i64 tf.2) s0 s1 (by omega) HBW.out
      exact bodyPost_ret (v := .tuple #[.slice none 0 0, .agg #[.int .i64 tf.1, .int .i64 tf.2]]) (by simp [results, Tryz.results20, go_sem, q0, q1]) rfl ⟨⟨_, by rw [HD.out], by rw [HD.out]; exact World.ownsRow_nil _ _ _ _⟩, q2.drew⟩
end Go.Proofs.YtpogcedghbokbaaGreatDoor
