/-
  Package tree's Graft: over this seat's translation.
-/
import Derived.Test.YtmcfkoenpikldaaGreatDoorPkUnderPkDeletePkInsert
namespace Go.Proofs.YtmcfkoenpikldaaGreatDoor
open Go.RowKit Go.Shelf

theorem ErrAt.le {p : Nat → Addr} {w : World} {v : Value} {c : Nat} {i : Int} (h : ErrAt p w v c i) : c ≤ 13 := by
  rcases h with ⟨h, _⟩ | ⟨j, h, hj, _⟩ | ⟨j, b, o, h, hj, _⟩ <;> omega
theorem ErrAt.zero {p : Nat → Addr} {w : World} {c : Nat} {i : Int} (h : ErrAt p w .nilIface c i) : c = 0 := by
  rcases h with ⟨h, _⟩ | ⟨j, _, _, _, h⟩ | ⟨j, b, o, _, _, h, _⟩
  · exact h
  · cases h
  · cases h

theorem ErrAt.cells {p : Nat → Addr} {w : World} {v : Value} {c : Nat} {i : Int} (h : ErrAt p w v c i) : v.cells = #[v] := by
  rcases h with ⟨_, _, rfl⟩ | ⟨j, _, _, _, rfl⟩ | ⟨j, b, o, _, _, rfl, _⟩ <;> rfl

theorem cleanStep_le (st : List (List UInt8) × Nat) (x : List UInt8) (h : st.2 ≤ 13) : (cleanStep st x).2 ≤ 13 := by
  unfold cleanStep
  repeat' split
  all_goals first | exact h | (simp; done)
theorem cleanL_le (s : List UInt8) : (cleanL s).2 ≤ 13 := by
  have hf : ∀ (ks : List (List UInt8)) (st : List (List UInt8) × Nat), st.2 ≤ 13 → (ks.foldl cleanStep st).2 ≤ 13 := by
    intro ks
    induction ks with
    | nil => intro st h; exact h
    | cons x r ih => intro st h; exact ih _ (cleanStep_le st x h)
  have := hf (pieces s) ([], 0) (by simp)
  unfold cleanL
  repeat' split
  all_goals first | exact this | (simp; done)

/-- Files below a directory. -/
def joined (dir : List UInt8) (m : List F) : List F := m.map fun f => { f with p := (cleanL (joinTo dir f.p)).1 }

theorem joined_take {dir : List UInt8} {m : List F} {k : Nat} (hk : k < m.length) : joined dir (m.take (k + 1)) = joined dir (m.take k) ++ [{ m[k] with p := (cleanL (joinTo dir m[k].p)).1 }] := by
  rw [List.take_succ_eq_append_getElem hk]
  unfold joined
  rw [List.map_append]
  rfl

theorem graft_small {l m : List F} {dir : List UInt8} (hl : (treeFault l).1 = 0) (hm : (treeFault m).1 = 0) (hd : checkCode dir = 0) (hj : ∀ f ∈ m, (cleanL (joinTo dir f.p)).2 = 0) : Small (l ++ joined dir m) := by
  obtain ⟨gl, nl, _⟩ := tree_good.1 hl
  obtain ⟨gm, nm, _⟩ := tree_good.1 hm
  refine ⟨by rw [List.length_append, joined, List.length_map]; omega, fun f hf => ?_, fun f hf => ?_⟩
  · rcases List.mem_append.1 hf with hf | hf
    · have := path_short (gl.right f hf).1; omega
    · obtain ⟨g, hg, rfl⟩ := List.mem_map.1 hf
      have h1 := join_zero hd (gm.right g hg).1 (hj g hg)
      have := path_short h1.2
      show (cleanL (joinTo dir g.p)).1.length ≤ 40000
      rw [h1.1]
      omega
  · rcases List.mem_append.1 hf with hf | hf
    · have := (gl.right f hf).2; omega
    · obtain ⟨g, hg, rfl⟩ := List.mem_map.1 hf
      have := (gm.right g hg).2
      show g.t.length ≤ 500000
      omega

theorem cells_three_g (W : World) (x y z : Value) (T : TypeId) : (W.alloc (.cells #[x, y, z] T)).cell? ⟨W.heap.size, 0, none⟩ = some x ∧ (W.alloc (.cells #[x, y, z] T)).cell? ⟨W.heap.size, 1, none⟩ = some y ∧ (W.alloc (.cells #[x, y, z] T)).cell? ⟨W.heap.size, 2, none⟩ = some z := by
  obtain ⟨h0, h1, h2, _⟩ := box_three (w := W) (x := x) (y := y) (z := z) (T := T) (Below.refl _ _)
  exact ⟨h0, h1, h2⟩

set_option maxRecDepth 100000 in
set_option maxHeartbeats 8000000 in
theorem graft_any (p : Nat → Addr) (l m : List F) (a a' : Option Addr) (ca ca' : Nat) (dir : List UInt8) (w : World) (hE : Env p w) (hl : LiesAt w a l) (hm : LiesAt w a' m) (hca : l.length ≤ ca) (hca' : m.length ≤ ca') (hs : Small l) (hs' : Small m) (hd : dir.length ≤ 40000) :
    Calls Tryz.prog 106 #[.slice a l.length ca, .string ⟨dir.toArray⟩, .slice a' m.length ca'] w fun e w' => Told p w' e (graftT l dir m) ∧ Below w.heap.size w w' := by
  have hfew := hs.few
  have hfew' := hs'.few
  have HE : Hid (Env p w) := hE
  have HL : Hid (LiesAt w a l) := hl
  have HM : Hid (LiesAt w a' m) := hm
  have HS : Hid (Small l) := hs
  have HS' : Hid (Small m) := hs'
  clear hE hl hm hs hs'
  obtain ⟨i0, hi, hz0, hz1, hz2⟩ := info_parts Tryz.infoFile
  go_enter Tryz.func106, Tryz.ntmps106
  go_wp2_with fail
  refine (checkTree_any p l a ca _ HE.out HL.out hca HS.out).mono ?_
  rintro e w1 ⟨⟨v0, rfl, hv0⟩, hb1⟩
  have HV0 : Hid (ErrAt p w1 v0 (treeFault l).1 (treeFault l).2) := hv0
  have HB1 : Hid (Below w.heap.size w w1) := hb1
  clear hv0 hb1
  go_wp2_with fail
  refine (checkTree_any p m a' ca' _ (HE.out.below HB1.out) (HM.out.below HB1.out) hca' HS'.out).mono ?_
  rintro e w2 ⟨⟨v1, rfl, hv1⟩, hb2⟩
  have HV0' : Hid (ErrAt p w2 v0 (treeFault l).1 (treeFault l).2) := HV0.out.below hb2
  have HV1 : Hid (ErrAt p w2 v1 (treeFault m).1 (treeFault m).2) := hv1
  have HB2 : Hid (Below w.heap.size w w2) := HB1.out.trans (hb2.mono HB1.out.size)
  clear hv1 hb2 HV0 HB1
  go_wp2_with fail
  refine (check_any p dir _ (HE.out.below HB2.out) (by omega)).mono ?_
  rintro e w3 ⟨rfl, hb3⟩
  obtain ⟨v2, hv2⟩ : ∃ v2, v2 = errV p (checkCode dir) := ⟨_, rfl⟩
  rw [← hv2]
  have HV0 : Hid (ErrAt p w3 v0 (treeFault l).1 (treeFault l).2) := HV0'.out.below hb3
  have HV1' : Hid (ErrAt p w3 v1 (treeFault m).1 (treeFault m).2) := HV1.out.below hb3
  have HV2 : Hid (ErrAt p w3 v2 (checkCode dir) (-1)) := by
    show ErrAt p w3 v2 (checkCode dir) (-1)
    rw [hv2]
    exact ErrAt.bare (checkCode_le dir)
  have HB3 : Hid (Below w.heap.size w w3) := HB2.out.trans (hb3.mono HB2.out.size)
  clear hb3 hv2 HV0' HV1 HB2
  have k0 := HV0.out.cells
  have k1 := HV1'.out.cells
  have k2 := HV2.out.cells
  simp only [Value.cells] at k0 k1 k2
  go_wp2_with fail
  clear k0 k1 k2
  obtain ⟨W, hW⟩ : ∃ W, W = w3.alloc (.cells #[v0, v1, v2] 45) := ⟨_, rfl⟩
  obtain ⟨e0, e1, e2⟩ := cells_three_g w3 v0 v1 v2 45
  rw [← hW] at e0 e1 e2 ⊢
  have hWB : Below w3.heap.size w3 W := by rw [hW]; exact (Below.refl _ _).alloc (Nat.le_refl _) _
  have HWB : Hid (Below w.heap.size w W) := HB3.out.trans (hWB.mono HB3.out.size)
  have HU0 : Hid (ErrAt p W v0 (treeFault l).1 (treeFault l).2) := HV0.out.below hWB
  have HU1 : Hid (ErrAt p W v1 (treeFault m).1 (treeFault m).2) := HV1'.out.below hWB
  have HU2 : Hid (ErrAt p W v2 (checkCode dir) (-1)) := HV2.out.below hWB
  clear hWB hW HV0 HV1' HV2 HB3
  go_loop [25] (fun i => ∃ q : Nat, q ≤ 3 ∧ i = .int .i64 q ∧ (0 < q → v0 = .nilIface) ∧ (1 < q → v1 = .nilIface) ∧ (2 < q → v2 = .nilIface)) (fun i => 3 - (intOf i).toNat)
  case atStart => exact ⟨0, by omega, rfl, fun h => by omega, fun h => by omega, fun h => by omega⟩
  case round =>
    obtain ⟨q, hq, rfl, h0, h1, h2⟩ := hrel
    rcases (show q = 0 ∨ q = 1 ∨ q = 2 ∨ q = 3 by omega) with rfl | rfl | rfl | rfl
    · clear h0 h1 h2
      by_cases hc : (treeFault l).1 = 0
      · have hv := HU0.out
        rw [hc] at hv
        have := hv.isNil
        subst this
        clear hv
        go_wp2
        go_round
        case rel => exact ⟨1, by omega, by go_num, fun _ => trivial, fun h => by omega, fun h => by omega⟩
        case measure => simp [intOf]
      · obtain ⟨T, u, rfl⟩ := HU0.out.some hc
        have HT : Hid (graftT l dir m = ([], treeFault l)) := by show graftT l dir m = _; simp [graftT, hc]
        clear hc
        go_wp2
        go_ret2
        exact ⟨by rw [HT.out]; exact told_none HU0.out, HWB.out⟩
    · have e0' := h0 (by omega)
      subst e0'
      have hc0 := HU0.out.zero
      clear h0 h1 h2
      by_cases hc : (treeFault m).1 = 0
      · have hv := HU1.out
        rw [hc] at hv
        have := hv.isNil
        subst this
        clear hv
        go_wp2
        go_round
        case rel => exact ⟨2, by omega, by go_num, fun _ => trivial, fun _ => trivial, fun h => by omega⟩
        case measure => simp [intOf]
      · obtain ⟨T, u, rfl⟩ := HU1.out.some hc
        have HT : Hid (graftT l dir m = ([], treeFault m)) := by show graftT l dir m = _; simp [graftT, hc, hc0]
        clear hc hc0
        go_wp2
        go_ret2
        exact ⟨by rw [HT.out]; exact told_none HU1.out, HWB.out⟩
    · have e0' := h0 (by omega)
      have e1' := h1 (by omega)
      subst e0' e1'
      have hc0 := HU0.out.zero
      have hc1 := HU1.out.zero
      clear h0 h1 h2
      by_cases hc : checkCode dir = 0
      · have hv := HU2.out
        rw [hc] at hv
        have := hv.isNil
        subst this
        clear hv
        go_wp2
        go_round
        case rel => exact ⟨3, by omega, by go_num, fun _ => trivial, fun _ => trivial, fun _ => trivial⟩
        case measure => simp [intOf]
      · obtain ⟨T, u, rfl⟩ := HU2.out.some hc
        have HT : Hid (graftT l dir m = ([], checkCode dir, -1)) := by show graftT l dir m = _; simp [graftT, hc, hc0, hc1]
        clear hc hc0 hc1
        go_wp2
        go_ret2
        exact ⟨by rw [HT.out]; exact told_none HU2.out, HWB.out⟩
    · have e0' := h0 (by omega)
      have e1' := h1 (by omega)
      have e2' := h2 (by omega)
      subst e0' e1' e2'
      have hc0 := HU0.out.zero
      have hc1 := HU1.out.zero
      have hcd := HU2.out.zero
      have HG : Hid (graftT l dir m = if (joinAll dir m).2.1 ≠ 0 then ([], (joinAll dir m).2.1, -1) else ((sortT (l ++ (joinAll dir m).1)).1, (sortT (l ++ (joinAll dir m).1)).2.1, -1)) := by
        show graftT l dir m = _
        unfold graftT
        rw [if_neg (by simp [hc0]), if_neg (by simp [hc1]), if_neg (by simp [hcd])]
      clear h0 h1 h2 HU0 HU1 HU2 e0 e1 e2
      go_wp2_with fail
      refine (clone_any l a ca _ (HL.out.below HWB.out) hfew).mono ?_
      rintro e w4 ⟨⟨v, rfl, hown⟩, hb4⟩
      have HB4 : Hid (Below w.heap.size w w4) := HWB.out.trans (hb4.mono HWB.out.size)
      have HOWN : Hid (w4.ownsRow w.heap.size 103 3 v l.length (lcells l)) := hown.mono HWB.out.size
      clear hb4 hown
      go_wp2_with fail
      go_loopw [10, 37] (fun out i wr => ∃ k : Nat, k ≤ m.length ∧ i = .int .i64 k ∧ ((∀ j (h : j < m.length), j < k → (cleanL (joinTo dir m[j].p)).2 = 0) ∧ wr.ownsRow w.heap.size 103 3 out (l ++ joined dir (m.take k)).length (lcells (l ++ joined dir (m.take k)))) ∧ Below w.heap.size w wr) (fun _ i _ => m.length - (intOf i).toNat)
      case atStart => exact ⟨0, by omega, rfl, ⟨fun _ _ h => by omega, by simpa [joined] using HOWN.out⟩, HB4.out⟩
      case round =>
        obtain ⟨k, hk, rfl, ⟨hz, hrow⟩, hb⟩ := hrel
        have HB : Hid (Below w.heap.size w wr) := hb
        have HZ : Hid (∀ j (h : j < m.length), j < k → (cleanL (joinTo dir m[j].p)).2 = 0) := hz
        have HROW : Hid (wr.ownsRow w.heap.size 103 3 _ (l ++ joined dir (m.take k)).length (lcells (l ++ joined dir (m.take k)))) := hrow
        clear hb hrow hz
        have hwl : (l ++ joined dir (m.take k)).length ≤ 200000 := by
          rw [List.length_append, joined, List.length_map, List.length_take]; omega
        by_cases hlt : k < m.length
        · have hlt' : (k : Int) < (m.length : Int) := by omega
          obtain ⟨b, o, rfl, c0, c1, c2⟩ := (HM.out.below HB.out).at hlt
          have hpl := HS'.out.path _ (List.getElem_mem hlt)
          have HEW : Hid (Env p (wr.alloc (.cells #[sv m[k].p, .bool m[k].r, sv m[k].t] 103))) := HE.out.below (HB.out.alloc HB.out.size _)
          cases hst : cleanL (joinTo dir m[k].p) with
          | mk c kk =>
          cases kk with
          | succ kk =>
            have HT : Hid (graftT l dir m = ([], kk + 1, -1)) := by
              show graftT l dir m = _
              have := mapPaths_at (fun s => cleanL (joinTo dir s)) m k 0 hlt HZ.out (by show (cleanL (joinTo dir m[k].p)).2 ≠ 0; rw [hst]; simp)
              have e : (joinAll dir m).2.1 = kk + 1 := by
                show (mapPaths _ 0 m).2.1 = _
                rw [this]
                show (cleanL (joinTo dir m[k].p)).2 = _
                rw [hst]
              rw [HG.out, e]
              rfl
            have hk13 : kk < 13 := by
              have := cleanL_le (joinTo dir m[k].p)
              rw [hst] at this
              have : kk + 1 ≤ 13 := this
              omega
            have HST : Hid (cleanL (joinTo dir m[k].p) = (c, kk + 1)) := hst
            clear hst
            generalize m[k] = f at c0 c1 c2 hpl HST HEW
            go_wp2_with fail
            refine (pathJoin_bad p dir f.p c kk _ HEW.out (by omega) (by omega) HST.out).mono ?_
            rintro e w5 ⟨rfl, hb5⟩
            have hB5 : Below wr.heap.size wr w5 := ((Below.refl _ wr).alloc (Nat.le_refl _) _).trans (hb5.mono (by simp))
            have HB5 : Hid (Below w.heap.size w w5) := HB.out.trans (hB5.mono HB.out.size)
            clear hb5 hB5
            go_wp2
            go_ret2
            exact ⟨by rw [HT.out]; exact told_none (.inr (.inl ⟨kk, rfl, hk13, rfl, rfl⟩)), HB5.out⟩
          | zero =>
            have HN : Hid (∀ j (h : j < m.length), j < k + 1 → (cleanL (joinTo dir m[j].p)).2 = 0) := by
              intro j hj hjk
              by_cases e : j = k
              · subst e; rw [hst]
              · exact HZ.out j hj (by omega)
            have HW : Hid (l ++ joined dir (m.take (k + 1)) = l ++ joined dir (m.take k) ++ [{ m[k] with p := c }]) := by
              show _ = _
              rw [joined_take hlt, hst, List.append_assoc]
            have HST : Hid (cleanL (joinTo dir m[k].p) = (c, 0)) := hst
            clear hst
            generalize m[k] = f at c0 c1 c2 hpl HST HW HEW
            go_wp2_with fail
            refine (pathJoin_ok p dir f.p c _ HEW.out (by omega) (by omega) HST.out).mono ?_
            rintro e w5 ⟨rfl, hb5⟩
            have hbx : Below (wr.heap.size + 1) (wr.alloc (.cells #[sv f.p, .bool f.r, sv f.t] 103)) w5 := hb5.mono (by simp)
            obtain ⟨g0, g1, g2, hB5⟩ := box_three hbx
            have gf := box_frozen hbx
            have hsz5 : wr.heap.size + 1 ≤ w5.heap.size := by have := hb5.size; simpa using this
            have hrow2 := owns_later (j := 0) (sv c) HROW.out hB5 (Nat.le_refl _)
            have HB5 : Hid (Below w.heap.size w w5) := HB.out.trans (hB5.mono HB.out.size)
            have hswr := HB.out.size
            clear hb5 hbx hB5
            obtain ⟨j0, j1, j2⟩ := box_set (sv c) g0 g1 g2
            go_wp2_with (at_builtin; refine wpList_append_own _ rfl _ _ 43 rfl w.heap.size 103 i0 (.agg #[.string ⟨#[]⟩, .bool false, .string ⟨#[]⟩]) 3 40 Tryz.underlying43 hi hz0 hz1 hz2 rfl (by decide) _ _ _ rfl (hrow2.alloc _) ⟨w5.heap.size, 0, none⟩ 1 1 [sv c, .bool f.r, sv f.t] rfl rfl (three_new _ _ _ _ _ _ (by simp)) (by simp [Value.oneCell']) (by unfold maxLen; omega) (by omega) (by simp; omega) ?_; intro v' w6 hown' hgrow _)
            have HB6 : Below w.heap.size w w6 := ((HB5.out.setCell (p := ⟨wr.heap.size, 0, none⟩) hswr _).alloc (by simp; omega) _).grown hgrow (by simp; omega) (fun j ej => (hrow2.lt j ej).1)
            refine ⟨⟨k + 1, by omega, by go_num, ⟨HN.out, ?_⟩, HB6⟩, by simp [intOf]; omega⟩
            rw [HW.out, lcells_app, List.length_append]
            simpa [lcells, fcells] using hown'
        · obtain rfl : k = m.length := by omega
          have hall : ∀ f ∈ m, (cleanL (joinTo dir f.p)).2 = 0 := fun f hf => by
            obtain ⟨j, hj, rfl⟩ := List.getElem_of_mem hf
            exact HZ.out j hj hj
          have hst : joinAll dir m = (joined dir m, 0, 0) := mapPaths_all (fun s => cleanL (joinTo dir s)) m 0 hall
          have HT : Hid (graftT l dir m = ((sortT (l ++ joined dir m)).1, (sortT (l ++ joined dir m)).2.1, -1)) := by
            show graftT l dir m = _
            rw [HG.out, hst]
            rfl
          have HSM := graft_small hc0 hc1 hcd hall
          have hrow := HROW.out
          rw [List.take_length] at hrow
          obtain ⟨av, cv, rfl, hlies, _⟩ := owns_lies hrow
          have HLI : Hid (LiesAt wr av (l ++ joined dir m)) := hlies
          clear hrow hlies hst hall hwl
          generalize (l ++ joined dir m) = t at HT HLI HSM
          go_wp2_with fail
          refine (sortTree_any p t av cv _ (HE.out.below HB.out) HLI.out HSM).mono ?_
          rintro e w5 ⟨⟨a2, c2, v2, rfl, h1, h2, h3⟩, hb5⟩
          have HX : Hid (LiesAt w5 a2 (sortT t).1 ∧ (sortT t).1.length ≤ c2 ∧ ErrAt p w5 v2 (sortT t).2.1 (sortT t).2.2) := ⟨h1, h2, h3⟩
          have HB5 : Hid (Below w.heap.size w w5) := HB.out.trans (hb5.mono HB.out.size)
          clear h1 h2 h3 hb5
          go_wp2_with fail
          refine (bare_of HX.out.2.2 (HE.out.below HB5.out)).mono ?_
          rintro e w6 ⟨rfl, hb6⟩
          have HB6 : Hid (Below w5.heap.size w5 w6) := hb6
          clear hb6
          go_wp2
          go_ret2
          exact ⟨by rw [HT.out]; exact ⟨a2, c2, _, rfl, HX.out.1.below HB6.out, HX.out.2.1, ErrAt.bare HX.out.2.2.le⟩, HB5.out.trans (HB6.out.mono HB5.out.size)⟩
end Go.Proofs.YtmcfkoenpikldaaGreatDoor
