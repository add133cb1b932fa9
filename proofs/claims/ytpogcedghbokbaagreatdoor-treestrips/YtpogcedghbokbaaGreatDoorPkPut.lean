/-
  Package tree's Put: over this seat's translation.
-/
import Derived.Test.YtpogcedghbokbaaGreatDoorPkInsertGrow
import Derived.Test.YtpogcedghbokbaaGreatDoorPkDrop
import Derived.Laws.OwnMore
namespace Go.Proofs.YtpogcedghbokbaaGreatDoor
open Go.RowKit Go.Shelf

theorem put_cells {l : List F} {j : Nat} (hj : j < l.length) (x : F) : (((lcells l).set (j * 3) (sv x.p)).set (j * 3 + 1) (.bool x.r)).set (j * 3 + 2) (sv x.t) = lcells (l.take j ++ x :: l.drop (j + 1)) := by
  have hl := lcells_take_length (l := l) (j := j) (by omega)
  have e : lcells l = lcells (l.take j) ++ (fcells l[j] ++ lcells (l.drop (j + 1))) := by
    have : l = l.take j ++ l[j] :: l.drop (j + 1) := by rw [← List.drop_eq_getElem_cons hj, List.take_append_drop]
    conv => lhs; rw [this]
    rw [lcells_app]
    rfl
  rw [e, List.set_append_right _ _ (by omega), List.set_append_right _ _ (by omega), List.set_append_right _ _ (by omega), hl, lcells_app]
  rw [show j * 3 - j * 3 = 0 by omega, show j * 3 + 1 - j * 3 = 1 by omega, show j * 3 + 2 - j * 3 = 2 by omega]
  rfl

theorem behind_cons (q : List UInt8) (g : F) (r : List F) : behind q (g :: r) = if g.p = q then r else g :: r := rfl

theorem with_small {l : List F} {x : F} (h : Small l) (hn : l.length ≤ 90000) (hp : x.p.length ≤ 40000) (ht : x.t.length ≤ 500000) : Small (withF l x) := by
  have hm : ∀ f ∈ withF l x, f = x ∨ f ∈ l := fun f hf => by
    unfold withF at hf
    rcases List.mem_append.1 hf with hf | hf
    · exact .inr ((List.takeWhile_sublist _).subset hf)
    · rcases List.mem_cons.1 hf with hf | hf
      · exact .inl hf
      · right
        have hb : ∀ r : List F, f ∈ behind x.p r → f ∈ r := fun r hr => by
          cases r with
          | nil => exact hr
          | cons g r =>
            rw [behind_cons] at hr
            split at hr
            · exact List.mem_cons_of_mem _ hr
            · exact hr
        exact (List.dropWhile_sublist _).subset (hb _ hf)
  refine ⟨?_, fun f hf => ?_, fun f hf => ?_⟩
  · have h1 := (List.takeWhile_sublist (fun f : F => less f.p x.p) (l := l)).length_le
    have h2 : (behind x.p (l.dropWhile fun f => less f.p x.p)).length ≤ (l.dropWhile fun f => less f.p x.p).length := by
      cases l.dropWhile fun f => less f.p x.p with
      | nil => simp [behind]
      | cons g r => rw [behind_cons]; split <;> simp
    have h3 := (List.dropWhile_sublist (fun f : F => less f.p x.p) (l := l)).length_le
    have h4 : (l.takeWhile fun f => less f.p x.p).length + (l.dropWhile fun f => less f.p x.p).length = l.length := by rw [← List.length_append, List.takeWhile_append_dropWhile]
    unfold withF
    rw [List.length_append, List.length_cons]
    omega
  · rcases hm f hf with rfl | hf
    · exact hp
    · exact h.path f hf
  · rcases hm f hf with rfl | hf
    · exact ht
    · exact h.text f hf

set_option maxRecDepth 100000 in
set_option maxHeartbeats 8000000 in
theorem putTree_any (p : Nat → Addr) (l : List F) (a : Option Addr) (ca : Nat) (x : F) (w : World) (hE : Env p w) (hl : LiesAt w a l) (hca : l.length ≤ ca) (hs : Small l) (hxp : x.p.length ≤ 40000) (hxt : x.t.length ≤ 500000) :
    Calls Tryz.prog 12 #[.slice a l.length ca, fv x] w fun e w' => Told p w' e (putT l x) ∧ Below w.heap.size w w' := by
  have hfew := hs.few
  have HE : Hid (Env p w) := hE
  have HL : Hid (LiesAt w a l) := hl
  have HS : Hid (Small l) := hs
  have hBx : Below w.heap.size w (w.alloc (.cells #[sv x.p, .bool x.r, sv x.t] 24)) := (Below.refl _ _).alloc (Nat.le_refl _) _
  have HE0 : Hid (Env p (w.alloc (.cells #[sv x.p, .bool x.r, sv x.t] 24))) := hE.below hBx
  have HL0 : Hid (LiesAt (w.alloc (.cells #[sv x.p, .bool x.r, sv x.t] 24)) a l) := hl.below hBx
  clear hE hl hs hBx
  by_cases hc : (treeFault l).1 = 0
  · have HF : Hid (treeFault l = (0, -1)) := treeFault_zero hc
    have HR : Hid (Rise l) := tree_rise hc
    have hl30 : l.length ≤ 30 := (tree_good.1 hc).2.1
    have HPUT : Hid (putT l x = if (treeFault (withF l x)).1 ≠ 0 then ([], (treeFault (withF l x)).1, -1) else (withF l x, 0, -1)) := by
      show putT l x = _
      unfold putT
      rw [if_neg (by simp [hc])]
    have HSW : Hid (Small (withF l x)) := with_small HS.out (by omega) hxp hxt
    clear hc
    go_enter Tryz.func12, Tryz.ntmps12
    go_wp2_with fail
    refine (checkTree_any p l a ca _ HE0.out HL0.out hca HS.out).mono ?_
    rintro e w0 ⟨⟨v, rfl, hv⟩, hb0⟩
    rw [HF.out] at hv
    have := hv.isNil
    subst this
    have HX0 : Hid (Below (w.heap.size + 1) (w.alloc (.cells #[sv x.p, .bool x.r, sv x.t] 24)) w0) := hb0.mono (by simp)
    have HB0 : Hid (Below w.heap.size w w0) := (box_three HX0.out).2.2.2
    clear hv hb0
    go_wp2_with fail
    refine (clone_any l a ca _ (HL.out.below HB0.out) hfew).mono ?_
    rintro e w1 ⟨⟨v, rfl, hown⟩, hb1⟩
    have hs01 : w.heap.size + 1 ≤ w0.heap.size := by have := HX0.out.size; simpa using this
    have HOWN : Hid (w1.ownsRow (w.heap.size + 1) 24 3 v l.length (lcells l)) := hown.mono hs01
    have HX1 : Hid (Below (w.heap.size + 1) (w.alloc (.cells #[sv x.p, .bool x.r, sv x.t] 24)) w1) := HX0.out.trans (hb1.mono hs01)
    obtain ⟨g0, g1, g2, hB1⟩ := box_three HX1.out
    have HB1 : Hid (Below w.heap.size w w1) := hB1
    clear hown hb1 hs01 hB1
    go_wp2_with fail
    refine (find_any l a ca x.p _ (HL.out.below HB1.out) hfew HR.out).mono ?_
    rintro e w2 ⟨⟨j, rfl, hp⟩, hb2⟩
    have HP : Hid (Place l x.p j) := hp
    have hs12 : w.heap.size + 1 ≤ w1.heap.size := by have := HX1.out.size; simpa using this
    have HX2 : Hid (Below (w.heap.size + 1) (w.alloc (.cells #[sv x.p, .bool x.r, sv x.t] 24)) w2) := HX1.out.trans (hb2.mono hs12)
    have HOWN2 : Hid (w2.ownsRow (w.heap.size + 1) 24 3 v l.length (lcells l)) := owns_below HOWN.out hb2
    obtain ⟨k0, k1, k2, hB2⟩ := box_three HX2.out
    have HB2 : Hid (Below w.heap.size w w2) := hB2
    have hs2 : w.heap.size + 1 ≤ w2.heap.size := by have := HX2.out.size; simpa using this
    clear hb2 hp g0 g1 g2 HX0 HX1 HOWN hs12 hB2
    -- what comes behind the file's place
    cases ht : there l x.p j with
    | true =>
      obtain ⟨hj, _⟩ := there_true ht
      have HW : Hid (withF l x = l.take j ++ x :: l.drop (j + 1)) := with_there HP.out ht
      have HLEN : Hid ((l.take j ++ x :: l.drop (j + 1)).length = l.length) := by
        show _ = _
        rw [List.length_append, List.length_cons, List.length_take, List.length_drop]; omega
      obtain ⟨g, cap, rfl, hcap⟩ := owns_some HOWN2.out (by omega)
      have hrow := HOWN2.out
      have hgw := hrow.lt g rfl
      have m0 : w2.cell? ⟨g, j * 3, none⟩ = some (sv l[j].p) := by
        rw [hrow.cellAt (j * 3) (by omega)]
        have := lcells_at l j hj 0 (by decide)
        rw [Nat.add_zero] at this
        exact this
      have m1 : w2.cell? ⟨g, j * 3 + 1, none⟩ = some (.bool l[j].r) := by
        rw [hrow.cellAt (j * 3 + 1) (by omega)]
        exact lcells_at l j hj 1 (by decide)
      have m2 : w2.cell? ⟨g, j * 3 + 2, none⟩ = some (sv l[j].t) := by
        rw [hrow.cellAt (j * 3 + 2) (by omega)]
        exact lcells_at l j hj 2 (by decide)
      have f0 := hrow.frozenAt (j * 3)
      have f1 := hrow.frozenAt (j * 3 + 1)
      have f2 := hrow.frozenAt (j * 3 + 2)
      have hr3 := (((hrow.stored (j * 3) (sv x.p)).1.stored (j * 3 + 1) (.bool x.r)).1.stored (j * 3 + 2) (sv x.t)).1
      rw [put_cells hj x, ← HLEN.out] at hr3
      obtain ⟨a3, c3, e3, hlies3, _⟩ := owns_lies hr3
      rw [HLEN.out] at e3
      cases e3
      have HLI : Hid (LiesAt (((w2.setCell ⟨g, j * 3, none⟩ (sv x.p)).setCell ⟨g, j * 3 + 1, none⟩ (.bool x.r)).setCell ⟨g, j * 3 + 2, none⟩ (sv x.t)) (some ⟨g, 0, none⟩) (withF l x)) := by
        show LiesAt _ _ _
        rw [HW.out]; exact hlies3
      have HB3 : Hid (Below w.heap.size w (((w2.setCell ⟨g, j * 3, none⟩ (sv x.p)).setCell ⟨g, j * 3 + 1, none⟩ (.bool x.r)).setCell ⟨g, j * 3 + 2, none⟩ (sv x.t))) :=
        ((HB2.out.setCell (p := ⟨g, j * 3, none⟩) (by show _ ≤ g; omega) _).setCell (p := ⟨g, j * 3 + 1, none⟩) (by show _ ≤ g; omega) _).setCell (p := ⟨g, j * 3 + 2, none⟩) (by show _ ≤ g; omega) _
      have HLW : Hid (l.length = (withF l x).length) := by show _ = _; rw [HW.out, HLEN.out]
      have hj' : (j : Int) < (l.length : Int) := by omega
      clear ht hr3 hlies3 hrow HOWN2 HX2 hgw
      generalize l[j] = y at m0 m1 m2
      go_wp2_with fail
      rw [HLW.out] at hcap ⊢
      obtain ⟨W, hW⟩ : ∃ W, W = ((w2.setCell ⟨g, j * 3, none⟩ (sv x.p)).setCell ⟨g, j * 3 + 1, none⟩ (.bool x.r)).setCell ⟨g, j * 3 + 2, none⟩ (sv x.t) := ⟨_, rfl⟩
      rw [← hW] at HLI HB3 ⊢
      refine (checkTree_any p (withF l x) (some ⟨g, 0, none⟩) cap W (HE.out.below HB3.out) HLI.out hcap HSW.out).mono ?_
      clear hW m0 m1 m2 f0 f1 f2 k0 k1 k2
      rintro e w4 ⟨⟨v, rfl, hv⟩, hb4⟩
      have HB4 : Hid (Below w.heap.size w w4) := HB3.out.trans (hb4.mono HB3.out.size)
      have HLI4 : Hid (LiesAt w4 (some ⟨g, 0, none⟩) (withF l x)) := HLI.out.below hb4
      by_cases hcw : (treeFault (withF l x)).1 = 0
      · have HT : Hid (putT l x = (withF l x, 0, -1)) := by show putT l x = _; rw [HPUT.out, if_neg (by simp [hcw])]
        rw [hcw] at hv
        have := hv.isNil
        subst this
        clear hv hcw hb4
        go_wp2
        go_ret2
        exact ⟨by rw [HT.out]; exact ⟨_, cap, _, rfl, HLI4.out, hcap, ErrAt.fine p w4⟩, HB4.out⟩
      · have HT : Hid (putT l x = ([], (treeFault (withF l x)).1, -1)) := by show putT l x = _; rw [HPUT.out, if_pos hcw]
        obtain ⟨T, u, rfl⟩ := hv.some hcw
        have HV : Hid (ErrAt p w4 (.iface T u) (treeFault (withF l x)).1 (treeFault (withF l x)).2) := hv
        clear hv hcw hb4
        go_wp2_with fail
        refine (bare_of HV.out (HE.out.below HB4.out)).mono ?_
        rintro e w5 ⟨rfl, hb5⟩
        have HB5 : Hid (Below w4.heap.size w4 w5) := hb5
        clear hb5
        go_wp2
        go_ret2
        exact ⟨by rw [HT.out]; exact told_none (ErrAt.bare (treeFault_le _)), HB4.out.trans (HB5.out.mono HB4.out.size)⟩
    | false =>
      have HW : Hid (withF l x = l.take j ++ x :: l.drop j) := with_absent HP.out ht
      have HLEN : Hid (l.length + 1 = (withF l x).length) := by
        show _ = _
        have := HP.out.le
        rw [HW.out, List.length_append, List.length_cons, List.length_take, List.length_drop]; omega
      have hbx : Below w2.heap.size w2 (w2.alloc (.cells #[sv x.p, .bool x.r, sv x.t] 24)) := (Below.refl _ _).alloc (Nat.le_refl _) _
      have HINS : Hid (Calls Tryz.prog 37 #[v, .int .i64 j, .slice (some ⟨w2.heap.size, 0, none⟩) 1 1] (w2.alloc (.cells #[sv x.p, .bool x.r, sv x.t] 24)) fun e w' => (∃ a c, e = .returned (.slice a (l.length + 1) c) ∧ LiesAt w' a (l.take j ++ x :: l.drop j) ∧ l.length + 1 ≤ c) ∧ Below (w.heap.size + 1) (w2.alloc (.cells #[sv x.p, .bool x.r, sv x.t] 24)) w') :=
        insert_any l v w2.heap.size j (w.heap.size + 1) x _ (HOWN2.out.alloc _) hfew HP.out.le (heap_new _ _) (fun e => by have := (HOWN2.out.lt _ e).2; omega) (by simp; omega)
      clear ht hbx
      go_wp2_with fail
      refine HINS.out.mono ?_
      rintro e w3 ⟨⟨a3, c3, rfl, hlies, hc3⟩, hb3⟩
      rw [← HW.out] at hlies
      rw [HLEN.out] at hc3 ⊢
      have HLI : Hid (LiesAt w3 a3 (withF l x)) := hlies
      have HB3 : Hid (Below w.heap.size w w3) := (HB2.out.alloc (by omega) _).trans (hb3.mono (by omega))
      clear hlies hb3 HINS k0 k1 k2
      go_wp2_with fail
      refine (checkTree_any p (withF l x) a3 c3 _ (HE.out.below HB3.out) HLI.out hc3 HSW.out).mono ?_
      rintro e w4 ⟨⟨v, rfl, hv⟩, hb4⟩
      have HB4 : Hid (Below w.heap.size w w4) := HB3.out.trans (hb4.mono HB3.out.size)
      have HLI4 : Hid (LiesAt w4 a3 (withF l x)) := HLI.out.below hb4
      by_cases hcw : (treeFault (withF l x)).1 = 0
      · have HT : Hid (putT l x = (withF l x, 0, -1)) := by show putT l x = _; rw [HPUT.out, if_neg (by simp [hcw])]
        rw [hcw] at hv
        have := hv.isNil
        subst this
        clear hv hcw hb4
        go_wp2
        go_ret2
        exact ⟨by rw [HT.out]; exact ⟨_, c3, _, rfl, HLI4.out, hc3, ErrAt.fine p w4⟩, HB4.out⟩
      · have HT : Hid (putT l x = ([], (treeFault (withF l x)).1, -1)) := by show putT l x = _; rw [HPUT.out, if_pos hcw]
        obtain ⟨T, u, rfl⟩ := hv.some hcw
        have HV : Hid (ErrAt p w4 (.iface T u) (treeFault (withF l x)).1 (treeFault (withF l x)).2) := hv
        clear hv hcw hb4
        go_wp2_with fail
        refine (bare_of HV.out (HE.out.below HB4.out)).mono ?_
        rintro e w5 ⟨rfl, hb5⟩
        have HB5 : Hid (Below w4.heap.size w4 w5) := hb5
        clear hb5
        go_wp2
        go_ret2
        exact ⟨by rw [HT.out]; exact told_none (ErrAt.bare (treeFault_le _)), HB4.out.trans (HB5.out.mono HB4.out.size)⟩
  · have HT : Hid (putT l x = ([], treeFault l)) := by show putT l x = _; simp [putT, hc]
    have HC : Hid ((treeFault l).1 ≠ 0) := hc
    clear hc
    go_enter Tryz.func12, Tryz.ntmps12
    go_wp2_with fail
    refine (checkTree_any p l a ca _ HE0.out HL0.out hca HS.out).mono ?_
    rintro e w1 ⟨⟨v, rfl, hv⟩, hb1⟩
    obtain ⟨T, u, rfl⟩ := hv.some HC.out
    have HV : Hid (ErrAt p w1 (.iface T u) (treeFault l).1 (treeFault l).2) := hv
    clear hv
    go_wp2
    go_ret2
    exact ⟨by rw [HT.out]; exact told_none HV.out, ((Below.refl _ w).alloc (Nat.le_refl _) _).trans (hb1.mono (by simp))⟩
end Go.Proofs.YtpogcedghbokbaaGreatDoor
