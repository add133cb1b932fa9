/-
  Package tree's Under: over this seat's translation.
-/
import Derived.Test.YtpogcedghbokbaaGreatDoorPkFindPkSortFnPkSort
import Derived.Test.YtpogcedghbokbaaGreatDoorTreeFacts
namespace Go.Proofs.YtpogcedghbokbaaGreatDoor
open Go.RowKit Go.Shelf

theorem underL_take {l : List F} {k : Nat} (dir : List UInt8) (hk : k < l.length) : underL (l.take (k + 1)) dir = underL (l.take k) dir ++ (if isIn l[k].p dir = true then [cutF dir l[k]] else []) := by
  rw [List.take_succ_eq_append_getElem hk]
  unfold underL
  rw [List.filter_append, List.map_append]
  by_cases h : isIn l[k].p dir = true
  · rw [if_pos h, List.filter_cons, if_pos h]; rfl
  · rw [if_neg h, List.filter_cons, if_neg h]; rfl

theorem cut_path {f : F} {dir : List UInt8} (h : isIn f.p dir = true) : Lib.trimPrefix f.p (dir ++ [47]) = (cutF dir f).p := by
  simp only [isIn, Bool.and_eq_true, Bool.or_eq_true, decide_eq_true_eq] at h
  by_cases hd : dir = []
  · subst hd
    have hh := (clean_self h.1).1
    have : Lib.hasPrefix f.p [47] = false := by
      cases hp : Lib.hasPrefix f.p [47] with
      | false => rfl
      | true =>
        have hp' : [47] <+: f.p := by simpa [Lib.hasPrefix] using hp
        obtain ⟨t, ht⟩ := hp'
        rw [← ht] at hh
        simp at hh
    simp [Lib.trimPrefix, cutF, this]
  · have hp : Lib.hasPrefix f.p (dir ++ [47]) = true := by
      rcases h.2 with h' | h'
      · exact absurd (List.isEmpty_iff.1 h') hd
      · exact h'
    simp [Lib.trimPrefix, cutF, hd, hp]

theorem trimL (s q : List UInt8) (w : World) : Calls Tryz.prog 30 #[.string ⟨s.toArray⟩, .string ⟨q.toArray⟩] w fun e w' => e = .returned (.string ⟨(Lib.trimPrefix s q).toArray⟩) ∧ w' = w := Tryz.strings_TrimPrefix ⟨s.toArray⟩ ⟨q.toArray⟩ w

theorem trim_is (f : F) (dir : List UInt8) (w : World) (h : isIn f.p dir = true) :
    Calls Tryz.prog 30 #[.string ⟨f.p.toArray⟩, .string (({ data := dir.toArray } : ByteArray) ++ { data := #[47] })] w fun e w' => e = .returned (.string ⟨(cutF dir f).p.toArray⟩) ∧ w' = w := by
  rw [show ({ data := dir.toArray } : ByteArray) ++ { data := #[47] } = ⟨(dir ++ [47]).toArray⟩ from by
    rw [show ({ data := #[47] } : ByteArray) = ⟨[47].toArray⟩ from rfl, cat_list]]
  have := trimL f.p (dir ++ [47]) w
  rwa [cut_path h] at this

theorem box_set {W : World} {b : Nat} {x y z : Value} (u : Value) (g0 : W.cell? ⟨b, 0, none⟩ = some x) (g1 : W.cell? ⟨b, 1, none⟩ = some y) (g2 : W.cell? ⟨b, 2, none⟩ = some z) :
    (W.setCell ⟨b, 0, none⟩ u).cell? ⟨b, 0, none⟩ = some u ∧ (W.setCell ⟨b, 0, none⟩ u).cell? ⟨b, 1, none⟩ = some y ∧ (W.setCell ⟨b, 0, none⟩ u).cell? ⟨b, 2, none⟩ = some z := by
  refine ⟨World.cell?_setCell_same' _ _ _ (by rw [g0]; rfl), ?_, ?_⟩
  · rw [World.cell?_setCell_other (h := by simp), g1]
  · rw [World.cell?_setCell_other (h := by simp), g2]

theorem box_frozen {w w' : World} {x y z : Value} {T : TypeId} (h : Below (w.heap.size + 1) (w.alloc (.cells #[x, y, z] T)) w') (j : Nat) : w'.frozen? ⟨w.heap.size, j, none⟩ = false := by
  have e := h.block w.heap.size (Nat.lt_succ_self _)
  rw [heap_new] at e
  simp [World.frozen?, e]

/-- A row of the call's own, behind a store into a later block. -/
theorem owns_later {w w1 : World} {base b j : Nat} {e : TypeId} {size : Nat} {v : Value} {n : Nat} {xs : List Value} (u : Value) (h : w.ownsRow base e size v n xs) (hb : Below w.heap.size w w1) (hbb : w.heap.size ≤ b) : (w1.setCell ⟨b, j, none⟩ u).ownsRow base e size v n xs :=
  owns_keep h fun g _ hg => (Below.heap_setCell _ _ _ _ (by show g ≠ b; omega)).trans (hb.block g hg)

theorem three_new (W : World) (x y z : Value) (T : TypeId) (n : Nat) (hn : n = W.heap.size) : ∀ j u, [x, y, z][j]? = some u → (W.alloc (.cells #[x, y, z] T)).cell? ((⟨n, 0, none⟩ : Addr).add j) = some u := by
  subst hn
  intro j u h
  have hn := heap_new W (.cells #[x, y, z] T)
  have hc : ∀ k, (W.alloc (.cells #[x, y, z] T)).cell? ⟨W.heap.size, k, none⟩ = #[x, y, z][k]? := fun k => by
    unfold World.cell?
    rw [hn]
    rfl
  rcases j with _ | _ | _ | j
  · exact (hc 0).trans h
  · exact (hc (0 + 1)).trans h
  · exact (hc (0 + 2)).trans h
  · simp at h

set_option maxRecDepth 100000 in
set_option maxHeartbeats 4000000 in
theorem under_any (p : Nat → Addr) (l : List F) (a : Option Addr) (ca : Nat) (dir : List UInt8) (w : World) (hE : Env p w) (hl : LiesAt w a l) (hca : l.length ≤ ca) (hs : Small l) (hd : dir.length ≤ 40000) :
    Calls Tryz.prog 9 #[.slice a l.length ca, .string ⟨dir.toArray⟩] w fun e w' => Told p w' e (underT l dir) ∧ Below w.heap.size w w' := by
  have hfew := hs.few
  have HE : Hid (Env p w) := hE
  have HL : Hid (LiesAt w a l) := hl
  have HS : Hid (Small l) := hs
  clear hE hl hs
  by_cases hc : (treeFault l).1 = 0
  · have HT : Hid (underT l dir = (underL l dir, 0, -1)) := by show underT l dir = _; simp [underT, hc]
    have HF : Hid (treeFault l = (0, -1)) := treeFault_zero hc
    clear hc
    obtain ⟨i0, hi, hz0, hz1, hz2⟩ := info_parts Tryz.infoFile
    go_enter Tryz.func9, Tryz.ntmps9
    go_wp2_with fail
    refine (checkTree_any p l a ca _ HE.out HL.out hca HS.out).mono ?_
    rintro e w0 ⟨⟨v, rfl, hv⟩, hb0⟩
    rw [HF.out] at hv
    have := hv.isNil
    subst this
    have HB0 : Hid (Below w.heap.size w w0) := hb0
    clear hv hb0
    go_wp2_with fail
    go_loopw [7, 17] (fun out i wr => ∃ k : Nat, k ≤ l.length ∧ i = .int .i64 k ∧ wr.ownsRow w.heap.size 24 3 out (underL (l.take k) dir).length (lcells (underL (l.take k) dir)) ∧ Below w.heap.size w wr) (fun _ i _ => l.length - (intOf i).toNat)
    case atStart => exact ⟨0, by omega, rfl, World.ownsRow_nil _ _ _ _, HB0.out⟩
    case round =>
      obtain ⟨k, hk, rfl, hrow, hb⟩ := hrel
      have HB : Hid (Below w.heap.size w wr) := hb
      have HROW : Hid (wr.ownsRow w.heap.size 24 3 _ (underL (l.take k) dir).length (lcells (underL (l.take k) dir))) := hrow
      clear hb hrow
      have hwl : (underL (l.take k) dir).length ≤ k := by
        unfold underL
        rw [List.length_map]
        refine Nat.le_trans (List.length_filter_le _ _) ?_
        simp; omega
      by_cases hlt : k < l.length
      · have hlt' : (k : Int) < (l.length : Int) := by omega
        obtain ⟨b, o, rfl, c0, c1, c2⟩ := (HL.out.below HB.out).at hlt
        have hpl := HS.out.path _ (List.getElem_mem hlt)
        have hB0 : Below w.heap.size w (wr.alloc (.cells #[sv l[k].p, .bool l[k].r, sv l[k].t] 24)) := HB.out.alloc HB.out.size _
        have HEW : Hid (Env p (wr.alloc (.cells #[sv l[k].p, .bool l[k].r, sv l[k].t] 24))) := HE.out.below hB0
        clear hB0
        cases hin : isIn l[k].p dir with
        | false =>
          have HW : Hid (underL (l.take (k + 1)) dir = underL (l.take k) dir) := by
            show underL _ _ = underL _ _
            rw [underL_take dir hlt, if_neg (by simp [hin]), List.append_nil]
          have HI : Hid (isIn l[k].p dir = false) := hin
          clear hin
          generalize l[k] = f at c0 c1 c2 hpl HI HEW
          go_wp2_with fail
          refine (in_any p f.p dir _ HEW.out (by omega) (by omega)).mono ?_
          rintro e w1 ⟨rfl, hb1⟩
          rw [HI.out]
          have hB1 : Below wr.heap.size wr w1 := ((Below.refl _ wr).alloc (Nat.le_refl _) _).trans (hb1.mono (by simp))
          have HR1 : Hid (w1.ownsRow w.heap.size 24 3 _ (underL (l.take k) dir).length (lcells (underL (l.take k) dir))) := owns_below HROW.out hB1
          have HB1 : Hid (Below w.heap.size w w1) := HB.out.trans (hB1.mono HB.out.size)
          clear hb1 hB1
          go_wp2
          go_roundw
          case rel => exact ⟨k + 1, by omega, by go_num, by rw [HW.out]; exact HR1.out, HB1.out⟩
          case measure => simp [intOf]; omega
        | true =>
          have HW : Hid (underL (l.take (k + 1)) dir = underL (l.take k) dir ++ [cutF dir l[k]]) := by
            show underL _ _ = _
            rw [underL_take dir hlt, if_pos hin]
          have HI : Hid (isIn l[k].p dir = true) := hin
          have hcr : cutF dir l[k] = ⟨(cutF dir l[k]).p, l[k].r, l[k].t⟩ := by unfold cutF; split <;> rfl
          have HCR : Hid (cutF dir l[k] = ⟨(cutF dir l[k]).p, l[k].r, l[k].t⟩) := hcr
          clear hin hcr
          generalize l[k] = f at c0 c1 c2 hpl HI HW HCR HEW
          go_wp2_with fail
          refine (in_any p f.p dir _ HEW.out (by omega) (by omega)).mono ?_
          rintro e w1 ⟨rfl, hb1⟩
          rw [HI.out]
          have hbx : Below (wr.heap.size + 1) (wr.alloc (.cells #[sv f.p, .bool f.r, sv f.t] 24)) w1 := hb1.mono (by simp)
          obtain ⟨g0, g1, g2, hB1⟩ := box_three hbx
          have gf := box_frozen hbx
          have hsz1 : wr.heap.size + 1 ≤ w1.heap.size := by have := hb1.size; simpa using this
          have hrow2 := owns_later (j := 0) (sv (cutF dir f).p) HROW.out hB1 (Nat.le_refl _)
          have HB1 : Hid (Below w.heap.size w w1) := HB.out.trans (hB1.mono HB.out.size)
          have hswr := HB.out.size
          clear hb1 hbx hB1
          obtain ⟨j0, j1, j2⟩ := box_set (sv (cutF dir f).p) g0 g1 g2
          go_wp2_with fail
          refine (trim_is f dir _ HI.out).mono ?_
          rintro e w1' ⟨rfl, rfl⟩
          go_wp2_with (at_builtin; refine wpList_append_own _ rfl _ _ 22 rfl w.heap.size 24 i0 (.agg #[.string ⟨#[]⟩, .bool false, .string ⟨#[]⟩]) 3 40 Tryz.underlying22 hi hz0 hz1 hz2 rfl (by decide) _ _ _ rfl (hrow2.alloc _) ⟨w1'.heap.size, 0, none⟩ 1 1 [sv (cutF dir f).p, .bool f.r, sv f.t] rfl rfl (three_new _ _ _ _ _ _ (by simp)) (by simp [Value.oneCell']) (by unfold maxLen; omega) (by omega) (by simp; omega) ?_; intro v' w2 hown' hgrow _)
          have HB2 : Below w.heap.size w w2 := ((HB1.out.setCell (p := ⟨wr.heap.size, 0, none⟩) hswr _).alloc (by simp; omega) _).grown hgrow (by simp; omega) (fun j ej => (hrow2.lt j ej).1)
          refine ⟨⟨k + 1, by omega, by go_num, ?_, HB2⟩, by simp [intOf]; omega⟩
          rw [HW.out, lcells_app, List.length_append]
          have e1 : lcells [cutF dir f] = [sv (cutF dir f).p, .bool f.r, sv f.t] := by rw [HCR.out]; rfl
          rw [e1]
          simpa using hown'
      · obtain rfl : k = l.length := by omega
        have hrow := HROW.out
        rw [List.take_length] at hrow
        obtain ⟨av, cv, rfl, hlies, _⟩ := owns_lies hrow
        have hcv : (underL l dir).length ≤ cv := by
          rcases hrow.2 with ⟨h', h0⟩ | ⟨g, cap, cur, h', _, _, hc, _⟩
          · omega
          · cases h'; exact hc
        have HLI : Hid (LiesAt wr av (underL l dir)) := hlies
        clear hrow hlies
        go_wp2
        go_ret2
        exact ⟨by rw [HT.out]; exact ⟨av, cv, _, rfl, HLI.out, hcv, ErrAt.fine p wr⟩, HB.out⟩
  · have HT : Hid (underT l dir = ([], treeFault l)) := by show underT l dir = _; simp [underT, hc]
    have HC : Hid ((treeFault l).1 ≠ 0) := hc
    clear hc
    go_enter Tryz.func9, Tryz.ntmps9
    go_wp2_with fail
    refine (checkTree_any p l a ca _ HE.out HL.out hca HS.out).mono ?_
    rintro e w1 ⟨⟨v, rfl, hv⟩, hb1⟩
    obtain ⟨T, u, rfl⟩ := hv.some HC.out
    have HV : Hid (ErrAt p w1 (.iface T u) (treeFault l).1 (treeFault l).2) := hv
    clear hv
    go_wp2
    go_ret2
    exact ⟨by rw [HT.out]; exact told_none HV.out, hb1⟩
end Go.Proofs.YtpogcedghbokbaaGreatDoor
