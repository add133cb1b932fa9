/-
  Own texts of the proof, joined by program: HeldRow, RefHeld, RefHeldPut, RefHeldIn.
-/
import Derived.Test.YtmcfkoenpikldaaGreatDoorSumTreeHeldPureHeldFacts
import Derived.Test.YtmcfkoenpikldaaGreatDoorCodedCodedVCodedTwoKept
import Derived.Test.YtmcfkoenpikldaaGreatDoorIntsMemHeldProg
import Derived.Maps.AppendAt
import Derived.Test.YtmcfkoenpikldaaGreatDoorRefPackTextRefTreeRefPackOfRefTreeSumRefCutBlankRefNumberRefReadPackRefDropRefSortRefStrip
import Derived.Laws.AppendOwnNone
/-
  Trees in a row, where their files lie: no Go text.
-/
namespace Go.Proofs.YtmcfkoenpikldaaGreatDoor

/-- A tree in the row: its sum, its files where they lie. -/
structure Rt where
  n : Nat
  l : List F
  a : Option Addr
  c : Nat
def Rt.tr (r : Rt) : Tr := ⟨r.n, r.l⟩
theorem tr_length (rs : List Rt) : (rs.map Rt.tr).length = rs.length := List.length_map _
end Go.Proofs.YtmcfkoenpikldaaGreatDoor
/-
  What the document's answer holds, in memory: its two cells, the row of trees; Find, NewHeld, Sums: over this seat's translation.
-/
namespace Go.Proofs.YtmcfkoenpikldaaGreatDoor
open Go.RowKit Go.Shelf

def rtcells (r : Rt) : List Value := [.int .i64 r.n, .slice r.a r.l.length r.c]
def rscells (l : List Rt) : List Value := l.flatMap rtcells
theorem rscells_length (l : List Rt) : (rscells l).length = l.length * 2 := by
  induction l with
  | nil => rfl
  | cons x r ih =>
    show (rtcells x ++ rscells r).length = _
    rw [List.length_append, ih, List.length_cons]
    show 2 + r.length * 2 = _
    omega
theorem rscells_app (l m : List Rt) : rscells (l ++ m) = rscells l ++ rscells m := by simp [rscells]
theorem rscells_at {l : List Rt} {k j : Nat} (hk : k < l.length) (hj : j < 2) : (rscells l)[k * 2 + j]? = (rtcells l[k])[j]? := by
  have e : l = l.take k ++ l[k] :: l.drop (k + 1) := by rw [← List.drop_eq_getElem_cons hk, List.take_append_drop]
  have e2 : rscells l = rscells (l.take k) ++ (rtcells l[k] ++ rscells (l.drop (k + 1))) := by
    conv => lhs; rw [e]
    rw [rscells_app]
    rfl
  have hlen : (rscells (l.take k)).length = k * 2 := by rw [rscells_length, List.length_take]; congr 1; omega
  have h2 : (rtcells l[k]).length = 2 := rfl
  rw [e2, List.getElem?_append_right (by omega), hlen, Nat.add_sub_cancel_left, List.getElem?_append_left (by omega)]
theorem rscells_one (l : List Rt) : ∀ u ∈ rscells l, u.oneCell' = true := by
  intro u hu
  simp only [rscells, List.mem_flatMap] at hu
  obtain ⟨f, _, hf⟩ := hu
  simp only [rtcells, List.mem_cons, List.not_mem_nil, or_false] at hf
  rcases hf with rfl | rfl <;> rfl

/-- What the document's answer holds, at a block. -/
structure RefHAt (w : World) (mb : Nat) (v : Value) (most : Nat) (rs : List Rt) : Prop where
  c0 : w.cell? ⟨mb, 0, none⟩ = some (.int .i64 most)
  c1 : w.cell? ⟨mb, 1, none⟩ = some v
  two : ∀ j, w.cell? ⟨mb, j + 2, none⟩ = none
  live : ∀ j, w.frozen? ⟨mb, j, none⟩ = false
  row : w.ownsRow (mb + 1) 137 2 v rs.length (rscells rs)
theorem RefHAt.lt {w : World} {mb most : Nat} {v : Value} {rs : List Rt} (h : RefHAt w mb v most rs) : mb < w.heap.size := block_lt_of_cell h.c0
theorem RefHAt.kept {w w' : World} {mb most : Nat} {v : Value} {rs : List Rt} {S : Nat → Prop} (h : RefHAt w mb v most rs) (hk : Kept S w w') (h0 : ¬ S mb) (h1 : ∀ g, v.ownBlock = some g → ¬ S g) : RefHAt w' mb v most rs := by
  have hb : w'.heap[mb]? = w.heap[mb]? := hk.block mb h.lt h0
  have hc : ∀ j, w'.cell? ⟨mb, j, none⟩ = w.cell? ⟨mb, j, none⟩ := fun j => by simp [World.cell?, hb]
  have hf : ∀ j, w'.frozen? ⟨mb, j, none⟩ = w.frozen? ⟨mb, j, none⟩ := fun j => by simp [World.frozen?, hb]
  exact ⟨(hc 0).trans h.c0, (hc 1).trans h.c1, fun j => (hc (j + 2)).trans (h.two j), fun j => (hf j).trans (h.live j), owns_kept h.row fun g hg => hk.block g (h.row.lt g hg).2 (h1 g hg)⟩
theorem RefHAt.below {w w' : World} {mb most : Nat} {v : Value} {rs : List Rt} (h : RefHAt w mb v most rs) (hb : Below w.heap.size w w') : RefHAt w' mb v most rs :=
  h.kept (S := fun _ => False) (Kept.of_below hb) (fun h => h) (fun _ _ h => h)
/-- The two cells of a place. -/
theorem RefHAt.site {w : World} {mb most : Nat} {v : Value} {rs : List Rt} (h : RefHAt w mb v most rs) {k : Nat} (hk : k < rs.length) : ∃ g cap, v = .slice (some ⟨g, 0, none⟩) rs.length cap ∧ rs.length ≤ cap ∧ w.cell? ⟨g, k * 2, none⟩ = some (.int .i64 rs[k].n) ∧ w.cell? ⟨g, k * 2 + 1, none⟩ = some (.slice rs[k].a rs[k].l.length rs[k].c) := by
  obtain ⟨g, cap, rfl, h1, _⟩ := owns_at h.row (by omega)
  have hc : ∀ j, j < 2 → w.cell? ⟨g, k * 2 + j, none⟩ = (rtcells rs[k])[j]? := fun j hj => by
    rw [h.row.cellAt (k * 2 + j) (by omega)]
    exact rscells_at hk hj
  exact ⟨g, cap, rfl, h1, hc 0 (by omega), hc 1 (by omega)⟩
/-- What a call on it leaves: only its own block, and new ones, are written. -/
structure RefHLeft (w : World) (mb most : Nat) (rs' : List Rt) (w' : World) (v' : Value) (v : Value) : Prop where
  ref : RefHAt w' mb v' most rs'
  below : Below mb w w'
  kept : Kept (fun b => b = mb) w w'
  row : ∀ g, v'.ownBlock = some g → v.ownBlock = some g ∨ w.heap.size ≤ g
theorem RefHLeft.of_below {w w' : World} {mb most : Nat} {v : Value} {rs : List Rt} (h : RefHAt w mb v most rs) (hb : Below w.heap.size w w') : RefHLeft w mb most rs w' v v :=
  ⟨h.below hb, hb.mono (Nat.le_of_lt h.lt), Kept.of_below hb, fun _ h => .inl h⟩
/-- Another row, in new memory, stored in its field. -/
theorem RefHAt.stored {w w2 : World} {mb most : Nat} {v v' : Value} {rs rs' : List Rt} (h : RefHAt w mb v most rs) (hb : Below w.heap.size w w2) (hown : w2.ownsRow w.heap.size 137 2 v' rs'.length (rscells rs')) : RefHLeft w mb most rs' (w2.setCell ⟨mb, 1, none⟩ v') v' v := by
  have h2 := h.below hb
  have hlt := h.lt
  have hv' : ∀ g, v'.ownBlock = some g → w.heap.size ≤ g := fun g e => (hown.lt g e).1
  refine ⟨⟨?_, World.cell?_setCell_same' _ _ _ (by rw [h2.c1]; rfl), fun j => ?_, fun j => ?_, ?_⟩, ?_, ?_, fun g hg => .inr (hv' g hg)⟩
  · rw [World.cell?_setCell_other (h := by simp)]; exact h2.c0
  · rw [World.cell?_setCell_other (h := by simp)]; exact h2.two j
  · rw [World.frozen?_setCell]; exact h2.live j
  · exact ownsRow_setCell_other (hown.mono (by omega)) (a := ⟨mb, 1, none⟩) (fun e => by have := hv' mb e; omega) v'
  · exact (hb.mono (Nat.le_of_lt hlt)).setCell (p := ⟨mb, 1, none⟩) (Nat.le_refl _) _
  · exact (Kept.of_below hb).trans (Kept.set (S := fun b => b = mb) w2 (a := ⟨mb, 1, none⟩) rfl v')

theorem atH_some {l : List Tr} {n : Int} {k : Nat} (h : spotH l n = some k) : atH l n = (k : Int) := by unfold atH; rw [h]
theorem atH_none {l : List Tr} {n : Int} (h : spotH l n = .none) : atH l n = -1 := by unfold atH; rw [h]

set_option maxRecDepth 100000 in
set_option maxHeartbeats 1000000 in
theorem refHFind_any (mb most : Nat) (v : Value) (rs : List Rt) (n : Int) (w : World) (h : RefHAt w mb v most rs) (hl : rs.length ≤ 100000) :
    Calls Tryz.prog 75 #[.pointer (some ⟨mb, 0, none⟩), .int .i64 n] w fun e w' => e = .returned (.int .i64 (atH (rs.map Rt.tr) n)) ∧ w' = w := by
  have H := Lib.hid h
  have c1 := h.c1
  obtain ⟨av, cv, hv⟩ := owns_slice h.row
  subst hv
  clear h
  go_enter Tryz.func75, Tryz.ntmps75
  go_wp2_with fail
  go_loop [5] (fun i => ∃ q : Nat, q ≤ rs.length ∧ i = .int .i64 q ∧ ∀ j (h : j < (rs.map Rt.tr).length), j < q → ((rs.map Rt.tr)[j].n : Int) ≠ n) (fun i => rs.length - (intOf i).toNat)
  case atStart => exact ⟨0, by omega, rfl, fun _ _ h => by omega⟩
  case round =>
    obtain ⟨q, hq, rfl, hn⟩ := hrel
    have HN := Lib.hid hn
    clear hn
    by_cases hlt : q < rs.length
    · have hlt' : (q : Int) < (rs.length : Int) := by omega
      have hltm : q < (rs.map Rt.tr).length := by simpa using hlt
      have hg : (rs.map Rt.tr)[q].n = rs[q].n := by simp [Rt.tr]
      obtain ⟨g, cap, hv2, hcap, k0, _⟩ := H.out.site hlt
      cases hv2
      by_cases hx : (rs[q].n : Int) = n
      · have HF : Hid (atH (rs.map Rt.tr) n = (q : Int)) := by
          show atH (rs.map Rt.tr) n = (q : Int)
          exact atH_some (spotH_first hltm (by rw [hg]; exact hx) HN.out)
        rw [hx] at k0
        clear hx hg
        go_wp2
        go_ret
        exact ⟨by rw [HF.out]; rfl, rfl⟩
      · have HF : Hid (∀ j (h : j < (rs.map Rt.tr).length), j < q + 1 → ((rs.map Rt.tr)[j].n : Int) ≠ n) := fun j hj hjq => by
          rcases Nat.lt_or_ge j q with h | h
          · exact HN.out j hj h
          · obtain rfl : j = q := by omega
            rw [hg]
            exact hx
        have hx' : ((rs[q].n : Int) == n) = false := by simpa using hx
        clear hx hg
        generalize (rs[q].n : Int) = x at k0 hx'
        go_wp2
        go_round
        case rel => exact ⟨q + 1, by omega, by go_num, HF.out⟩
        case measure => simp [intOf]; omega
    · have hql : q = rs.length := by omega
      have HF : Hid (atH (rs.map Rt.tr) n = -1) := by
        show atH (rs.map Rt.tr) n = -1
        exact atH_none (spotH_none fun j hj => HN.out j hj (by simp at hj; omega))
      clear hql
      go_wp2
      go_ret
      exact ⟨by rw [HF.out]; rfl, rfl⟩
theorem refHFind_is (mb most : Nat) (v : Value) (rs : List Rt) (n z : Int) (w : World) (h : RefHAt w mb v most rs) (hl : rs.length ≤ 100000) (hz : atH (rs.map Rt.tr) n = z) :
    Calls Tryz.prog 75 #[.pointer (some ⟨mb, 0, none⟩), .int .i64 n] w fun e w' => e = .returned (.int .i64 z) ∧ w' = w := by
  have := refHFind_any mb most v rs n w h hl
  rwa [hz] at this
end Go.Proofs.YtmcfkoenpikldaaGreatDoor
/-
  What the document's answer holds: NewHeld, Sums, Put, Drop: contracts, over this seat's translation.
-/
namespace Go.Proofs.YtmcfkoenpikldaaGreatDoor
open Go.RowKit Go.Shelf

theorem refHNew_any (m : Int) (w : World) : Calls Tryz.prog 13 #[.int .i64 m] w fun e w' => ∃ mb, e = .returned (.pointer (some ⟨mb, 0, none⟩)) ∧ RefHAt w' mb (.slice none 0 0) (mostH m) [] ∧ w.heap.size ≤ mb ∧ Below w.heap.size w w' := by
  have ref_new : ∀ k : Nat, RefHAt (w.alloc (.cells #[.int .i64 k, .slice none 0 0] 115)) w.heap.size (.slice none 0 0) k [] := fun k => by
    have e := heap_new w (.cells #[.int .i64 k, .slice none 0 0] 115)
    generalize w.alloc (.cells #[.int .i64 k, .slice none 0 0] 115) = V at e ⊢
    exact ⟨by simp [World.cell?, e], by simp [World.cell?, e], fun j => by simp [World.cell?, e], fun j => by simp [World.frozen?, e], World.ownsRow_nil _ _ _ _⟩
  have HR := Lib.hid ref_new
  clear ref_new
  by_cases h0 : m < 0
  · have HM : Hid (mostH m = 0) := if_pos h0
    go_enter Tryz.func13, Tryz.ntmps13
    go_wp2
    go_ret
    exact ⟨_, rfl, by rw [HM.out]; exact HR.out 0, Nat.le_refl _, (Below.refl _ _).alloc (Nat.le_refl _) _⟩
  · have h0' : decide (m < 0) = false := by simp; omega
    by_cases h1 : 40 < m
    · have HM : Hid (mostH m = 40) := by show mostH m = 40; unfold mostH; rw [if_neg h0, if_pos h1]
      clear h0
      go_enter Tryz.func13, Tryz.ntmps13
      go_wp2
      go_ret
      exact ⟨_, rfl, by rw [HM.out]; exact HR.out 40, Nat.le_refl _, (Below.refl _ _).alloc (Nat.le_refl _) _⟩
    · have HM : Hid (mostH m = m.toNat) := by show mostH m = m.toNat; unfold mostH; rw [if_neg h0, if_neg h1]
      have h1' : decide (40 < m) = false := by simp; omega
      obtain ⟨k, rfl⟩ := Int.eq_ofNat_of_zero_le (show 0 ≤ m by omega)
      clear h0 h1
      go_enter Tryz.func13, Tryz.ntmps13
      go_wp2
      go_ret
      exact ⟨_, rfl, by rw [HM.out]; exact HR.out k, Nat.le_refl _, (Below.refl _ _).alloc (Nat.le_refl _) _⟩

theorem Tryz.infoIntH : (Tryz.prog.info? 3).map (fun i => (i.zero, i.size, i.bytes)) = some (some (.int .i64 0), 1, 8) := by kernel_rfl
set_option maxRecDepth 100000 in
set_option maxHeartbeats 1000000 in
theorem refHSums_any (mb most : Nat) (v : Value) (rs : List Rt) (w : World) (h : RefHAt w mb v most rs) (hl : rs.length ≤ 100000) :
    Calls Tryz.prog 25 #[.pointer (some ⟨mb, 0, none⟩)] w fun e w' => (∃ u, e = .returned u ∧ w'.ownsRow w.heap.size 3 1 u (rs.map fun x => (x.n : Int)).length ((rs.map fun x => (x.n : Int)).map iv)) ∧ Below w.heap.size w w' := by
  obtain ⟨i0, hi, hz0, hz1, hz2⟩ := info_parts Tryz.infoIntH
  have H := Lib.hid h
  have c1 := h.c1
  obtain ⟨av, cv, hv⟩ := owns_slice h.row
  subst hv
  clear h
  go_enter Tryz.func25, Tryz.ntmps25
  go_wp2_with fail
  go_loopw [3, 4] (fun u i wr => ∃ q : Nat, q ≤ rs.length ∧ i = .int .i64 q ∧ wr.ownsRow w.heap.size 3 1 u ((rs.take q).map fun x => (x.n : Int)).length (((rs.take q).map fun x => (x.n : Int)).map iv) ∧ Below w.heap.size w wr) (fun _ i _ => rs.length - (intOf i).toNat)
  case atStart => exact ⟨0, by omega, rfl, by simpa using World.ownsRow_nil _ _ _ _, Below.refl _ _⟩
  case round =>
    obtain ⟨q, hq, rfl, hrow, hb⟩ := hrel
    have HB := Lib.hid hb
    have HR := Lib.hid (H.out.below hb)
    have hbs := hb.size
    have c1 := HR.out.c1
    have hfl : ((rs.take q).map fun x => (x.n : Int)).length = q := by simp; omega
    clear hb
    by_cases hlt : q < rs.length
    · have hlt' : (q : Int) < (rs.length : Int) := by omega
      obtain ⟨g, cap, hv2, hcap, k0, _⟩ := HR.out.site hlt
      cases hv2
      have HF : Hid (((rs.take (q + 1)).map fun x => (x.n : Int)) = ((rs.take q).map fun x => (x.n : Int)) ++ [(rs[q].n : Int)]) := by
        show _ = _
        rw [List.take_succ_eq_append_getElem hlt, List.map_append]
        rfl
      generalize ((rs.take q).map fun x => (x.n : Int)) = L at hrow HF hfl
      generalize (rs[q].n : Int) = x at k0 HF
      go_wp2_with (at_builtin; refine wpList_append_own _ rfl _ _ 59 rfl w.heap.size 3 i0 (.int .i64 0) 1 8 Tryz.underlying59 hi hz0 hz1 hz2 rfl (by decide) _ _ _ rfl (hrow.alloc _) ⟨wr.heap.size, 0, none⟩ 1 1 [.int .i64 x] rfl rfl (cell_one_new _ _ _) (by simp [Value.oneCell']) (by unfold maxLen; omega) (by omega) (by simp; omega) ?_; intro v' w2 hown' hgrow _)
      have HB2 : Below w.heap.size w w2 := (HB.out.alloc hbs _).grown hgrow (by simp; omega) (fun j ej => (hrow.lt j ej).1)
      refine ⟨⟨q + 1, by omega, by go_num, ?_, HB2⟩, by simp [intOf]; omega⟩
      rw [HF.out, List.length_append]
      simpa using hown'
    · have hql : q = rs.length := by omega
      have HF : Hid (((rs.take q).map fun x => (x.n : Int)) = rs.map fun x => (x.n : Int)) := by
        show _ = _
        rw [hql, List.take_length]
      rw [HF.out] at hrow
      obtain ⟨a2, cap2, hv2⟩ := owns_slice hrow
      clear hql hfl
      go_wp2
      go_ret
      exact ⟨⟨_, rfl, hrow⟩, HB.out⟩

theorem Tryz.infoTreeH : (Tryz.prog.info? 137).map (fun i => (i.zero, i.size, i.bytes)) = some (some (.agg #[.int .i64 0, .slice none 0 0]), 2, 32) := by kernel_rfl
theorem drop_end {w : World} {base g cap : Nat} {rs : List Rt} (h : w.ownsRow base 137 2 (.slice (some ⟨g, 0, none⟩) rs.length cap) rs.length (rscells rs)) (k : Nat) (hk : k ≤ rs.length) : ∀ j u, (rscells (rs.drop k))[j]? = some u → w.cell? ((⟨g, k * 2, none⟩ : Addr).add j) = some u := fun j u hj => by
  have hlt : j < (rscells (rs.drop k)).length := (List.getElem?_eq_some_iff.1 hj).1
  rw [rscells_length, List.length_drop] at hlt
  have e : rscells rs = rscells (rs.take k) ++ rscells (rs.drop k) := by rw [← rscells_app, List.take_append_drop]
  have hl : (rscells (rs.take k)).length = k * 2 := by rw [rscells_length, List.length_take]; congr 1; omega
  rw [Addr.add_lit, h.cellAt (k * 2 + j) (by omega), e, List.getElem?_append_right (by omega), hl, Nat.add_sub_cancel_left]
  exact hj
theorem take_end {w : World} {base g cap : Nat} {rs : List Rt} (h : w.ownsRow base 137 2 (.slice (some ⟨g, 0, none⟩) rs.length cap) rs.length (rscells rs)) (k : Nat) (hk : k ≤ rs.length) : ∀ j u, (rscells (rs.take k))[j]? = some u → w.cell? ((⟨g, 0, none⟩ : Addr).add j) = some u := fun j u hj => by
  have hlt : j < (rscells (rs.take k)).length := (List.getElem?_eq_some_iff.1 hj).1
  have hl : (rscells (rs.take k)).length = k * 2 := by rw [rscells_length, List.length_take]; congr 1; omega
  have e : rscells rs = rscells (rs.take k) ++ rscells (rs.drop k) := by rw [← rscells_app, List.take_append_drop]
  rw [Addr.add_lit, Nat.zero_add, h.cellAt j (by omega), e, List.getElem?_append_left hlt]
  exact hj
theorem erase_tr (rs : List Rt) (k : Nat) : (rs.take k ++ rs.drop (k + 1)).map Rt.tr = (rs.map Rt.tr).eraseIdx k := by
  rw [List.eraseIdx_eq_take_drop_succ, List.map_append, List.map_take, List.map_drop]

end Go.Proofs.YtmcfkoenpikldaaGreatDoor
/-
  What the document's answer holds: Put: a contract, over this seat's translation.
-/
namespace Go.Proofs.YtmcfkoenpikldaaGreatDoor
open Go.RowKit Go.Shelf

theorem RefHLeft.drew {w w' : World} {mb most : Nat} {v v' : Value} {rs' : List Rt} (h : RefHLeft w mb most rs' w' v' v) : RefHLeft w mb most rs' w'.drew v' v :=
  ⟨h.ref.below (Below.refl _ _).drew, h.below.drew, ⟨h.kept.size, h.kept.block⟩, h.row⟩
/-- A result's own cell is written. -/
theorem RefHLeft.slot {w w' : World} {mb most : Nat} {v v' : Value} {rs' : List Rt} (h : RefHLeft w mb most rs' w' v' v) (hm : mb < w.heap.size) (hv : ∀ g, v'.ownBlock = some g → g ≠ w.heap.size) (j : Nat) (x : Value) : RefHLeft w mb most rs' (w'.setCell ⟨w.heap.size, j, none⟩ x) v' v :=
  ⟨h.ref.kept (S := fun b => b = w.heap.size) (Kept.set (S := fun b => b = w.heap.size) w' (a := ⟨w.heap.size, j, none⟩) rfl x) (by omega) hv, h.below.setCell (p := ⟨w.heap.size, j, none⟩) (by show mb ≤ w.heap.size; omega) _,
    ⟨by simp; exact h.kept.size, fun b hb hs => (Below.heap_setCell w' ⟨w.heap.size, j, none⟩ x b (by show b ≠ w.heap.size; omega)).trans (h.kept.block b hb hs)⟩, h.row⟩
/-- The tree that comes last. -/
theorem tree_new (w : World) (r : Rt) (T : TypeId) : ∀ j u, (rtcells r)[j]? = some u → (w.alloc (.cells #[.int .i64 r.n, .slice r.a r.l.length r.c] T)).cell? ((⟨w.heap.size, 0, none⟩ : Addr).add j) = some u := by
  intro j u h
  have hn := heap_new w (.cells #[.int .i64 r.n, .slice r.a r.l.length r.c] T)
  have hc : ∀ k, (w.alloc (.cells #[.int .i64 r.n, .slice r.a r.l.length r.c] T)).cell? ⟨w.heap.size, k, none⟩ = (#[.int .i64 r.n, .slice r.a r.l.length r.c] : Array Value)[k]? := fun k => by
    unfold World.cell?
    rw [hn]
    rfl
  rcases j with _ | _ | j
  · exact (hc 0).trans h
  · exact (hc 1).trans h
  · simp [rtcells] at h

/-- append of whatever lies at whatever address, or of nothing at none. -/
theorem wpList_append_own_opt {P : Program} {w : World} {ops : Array Oper} {rest : List Oper} {o : Oper} {a : Act} {Q : Exit → Act → World → Prop} (hgd : o.guard = none) (s x : Operand) (t : TypeId)
    (ho : o.op = .call { callee := .builtin .append, args := #[s, x], argTypes := #[t, t] })
    (base : Nat) (e : TypeId) (i : TypeInfo) (z : Value) (size bytes : Nat) (ht : P.underlying t = some (.slice e)) (hi : P.info? e = some i) (hz : i.zero = some z)
    (hsize : i.size = size) (hby : i.bytes = bytes) (hzs : z.cells.size = size) (hsz : 0 < size)
    (v : Value) (n : Nat) (xs : List Value) (hs : a.eval s = v) (hown : w.ownsRow base e size v n xs)
    (ao : Option Addr) (m c : Nat) (news : List Value) (hx : a.eval x = .slice ao m c) (hnone : ao = none → m = 0 ∧ c = 0) (hl : news.length = m * size) (hnews : ∀ ad, ao = some ad → ∀ j u, news[j]? = some u → w.cell? (ad.add j) = some u) (h1 : ∀ u ∈ news, u.oneCell' = true)
    (h63 : n + m ≤ maxLen) (hbytes : (n + m) * bytes ≤ 140737488355328) (hbase : base ≤ w.heap.size)
    (h : ∀ v' w', w'.ownsRow base e size v' (n + m) (xs ++ news) → w.grownBy w' v.ownBlock → wpList P ops Q rest (a.put o.dst v') w') : wpList P ops Q (o :: rest) a w := by
  cases ao with
  | some ad => exact wpList_append_own w hgd s x t ho base e i z size bytes ht hi hz hsize hby hzs hsz v n xs hs hown ad m c news hx hl (hnews ad rfl) h1 h63 hbytes hbase fun v' w' h2 h3 _ => h v' w' h2 h3
  | none =>
    obtain ⟨rfl, rfl⟩ := hnone rfl
    have hn : news = [] := List.eq_nil_of_length_eq_zero (by simpa using hl)
    subst hn
    exact wpList_append_own_none hgd s x t ho base e i size ht hi v n xs hs hown hx (h v w (by simpa using hown) ⟨rfl, rfl, rfl, Nat.le_refl _, fun _ _ _ => rfl⟩)

set_option maxRecDepth 100000 in
set_option maxHeartbeats 4000000 in
theorem refHPut_any (mb most : Nat) (v : Value) (rs : List Rt) (l : List F) (a : Option Addr) (ca : Nat) (w : World) (h : RefHAt w mb v most rs) (hl : rs.length ≤ 1000) (hla : LiesAt w a l) (hs : Small l) :
    Calls Tryz.prog 76 #[.pointer (some ⟨mb, 0, none⟩), .slice a l.length ca] w fun e w' => e = .returned (.tuple #[.int .i64 (putH ⟨most, rs.map Rt.tr⟩ l).2.1, .agg #[.int .i64 (putH ⟨most, rs.map Rt.tr⟩ l).2.2.1, .int .i64 (putH ⟨most, rs.map Rt.tr⟩ l).2.2.2]]) ∧
      ∃ v' rs', RefHLeft w mb most rs' w' v' v ∧ rs'.map Rt.tr = (putH ⟨most, rs.map Rt.tr⟩ l).1.l ∧ ∀ r ∈ rs', r ∈ rs ∨ r = ⟨sumT l, l, a, ca⟩ := by
  obtain ⟨i0, hi, hz0, hz1, hz2⟩ := info_parts Tryz.infoTreeH
  obtain ⟨W0, hW0⟩ : ∃ W0, W0 = w.alloc (.cells #[.int .i64 0, .int .i64 0] 50) := ⟨_, rfl⟩
  have hb0 : Below w.heap.size w W0 := by rw [hW0]; exact (Below.refl _ _).alloc (Nat.le_refl _) _
  have HT := Lib.hid (treeSum_any l a ca W0 (hla.below hb0) hs)
  have H := Lib.hid h
  have hmlt := h.lt
  have HS0 : Hid (Below (w.heap.size + 1) (w.alloc (.cells #[.int .i64 0, .int .i64 0] 50)) W0) := by
    show Below _ _ _
    rw [hW0]
    exact Below.refl _ _
  clear hla hs hb0 h
  go_enter Tryz.func76, Tryz.ntmps76
  go_wp2_with fail
  rw [← hW0]
  clear hW0
  refine HT.out.mono ?_
  rintro e w1 ⟨rfl, hb1⟩
  have HS1 := Lib.hid (more_below HS0.out rfl hb1)
  clear hb1 HS0 HT
  by_cases hz : (treeFault l).1 = 0
  · have HZ := Lib.hid hz
    have hzz := treeFault_zero hz
    rw [hzz]
    clear hz hzz
    obtain ⟨W, hW⟩ : ∃ W, W = w1.alloc (.cells #[.int .i64 0, .int .i64 (-1)] 50) := ⟨_, rfl⟩
    have hbW : Below w1.heap.size w1 W := by rw [hW]; exact (Below.refl _ _).alloc (Nat.le_refl _) _
    have HSW := Lib.hid (more_below HS1.out rfl hbW)
    obtain ⟨f0, f1, _, _, _⟩ := slot_two (w := w1) (wr := W) (u := .int .i64 0) (v := .int .i64 (-1)) (T := 50) (by rw [hW]; exact Below.refl _ _)
    have hws : w.heap.size < w1.heap.size := by have := HS1.out.size; simp at this; omega
    have hfl : w1.heap.size < W.heap.size := by rw [hW]; simp
    obtain ⟨s0, s1, z0, z1, sb⟩ := slot_two HSW.out
    have HRW := Lib.hid (H.out.below sb)
    have HSB := Lib.hid sb
    have c0 := HRW.out.c0
    have c1 := HRW.out.c1
    clear hbW HS1 sb
    rw [hW] at c0 c1
    by_cases hm : most = 0
    · subst hm
      have HC := Lib.hid (putH_full (s := ⟨0, rs.map Rt.tr⟩) HZ.out rfl)
      go_wp2_with fail
      rw [← hW]
      clear hW c0 c1
      refine (bare_any 8 _).mono ?_
      rintro e w2 ⟨rfl, hb2⟩
      have HS2 := Lib.hid (more_below HSW.out rfl hb2)
      obtain ⟨s0', s1', z0', z1', sb'⟩ := slot_two HS2.out
      clear s0 s1 z0 z1 f0 f1 hb2
      go_wp2
      obtain ⟨q0, q1, q2⟩ := slot_set (w := w) (wr := w2) (.int .i64 8) (.int .i64 (-1)) s0' s1' sb'
      exact bodyPost_ret (v := .tuple #[.int .i64 0, .agg #[.int .i64 8, .int .i64 (-1)]]) (by simp [results, Tryz.results76, go_sem, q0, q1]) rfl ⟨by rw [HC.out]; rfl, v, rs, RefHLeft.of_below H.out q2, by rw [HC.out], fun _ h => .inl h⟩
    · have hm' : ((most : Int) == 0) = false := by simp; omega
      cases hsp : spotH (rs.map Rt.tr) (sumT l : Int) with
      | some k =>
        have HC := Lib.hid (putH_there (s := ⟨most, rs.map Rt.tr⟩) HZ.out hm hsp)
        have HA := Lib.hid (atH_some hsp)
        clear hsp hm
        go_wp2_with fail
        rw [← hW]
        clear hW c0 c1
        refine (refHFind_is mb most v rs (sumT l : Int) _ _ HRW.out (by omega) HA.out).mono ?_
        rintro e w' ⟨rfl, hw'⟩
        obtain rfl : W = w' := hw'.symm
        have hne : w1.heap.size ≠ w.heap.size := by omega
        generalize w1.heap.size = fb at f0 f1 hne hfl hws ⊢
        go_wp2_with fail
        go_region
        all_goals go_wp2
        all_goals
          obtain ⟨q0, q1, q2⟩ := slot_set (w := w) (wr := W) (.int .i64 0) (.int .i64 (-1)) s0 s1 HSB.out
          exact bodyPost_ret (v := .tuple #[.int .i64 (sumT l), .agg #[.int .i64 0, .int .i64 (-1)]]) (by simp [results, Tryz.results76, go_sem, q0, q1]) rfl ⟨by rw [HC.out]; rfl, v, rs, RefHLeft.of_below H.out (Below.drew q2), by rw [HC.out], fun _ h => .inl h⟩
      | none =>
        have HA := Lib.hid (atH_none hsp)
        obtain ⟨av, cv, hv⟩ := owns_slice HRW.out.row
        subst hv
        by_cases hg : most ≤ rs.length
        · have HC := Lib.hid (putH_goes (s := ⟨most, rs.map Rt.tr⟩) HZ.out hm hsp (by simpa using hg))
          have hpos : 0 < rs.length := by omega
          have hge : (rs.length : Int) ≥ (most : Int) := by omega
          have h1l : (1 : Int) ≤ (rs.length : Int) := by omega
          obtain ⟨g, cap, hv, hcap, _, _⟩ := HRW.out.site hpos
          cases hv
          have HD := Lib.hid (drop_end HRW.out.row 1 (by omega))
          clear hsp hm hg
          by_cases hcv : cv = 1
          · subst hcv
            go_wp2_with fail
            rw [← hW]
            clear hW c0 c1
            have c0 := HRW.out.c0
            have c1 := HRW.out.c1
            have hwl : w.heap.size + 1 ≤ W.heap.size := by omega
            refine (refHFind_is mb most _ rs (sumT l : Int) _ _ HRW.out (by omega) HA.out).mono ?_
            rintro e w' ⟨rfl, hw'⟩
            obtain rfl : W = w' := hw'.symm
            have hne : w1.heap.size ≠ w.heap.size := by omega
            generalize w1.heap.size = fb at f0 f1 hne hfl hws ⊢
            go_wp2_with (at_builtin; first
              | (refine wpList_append_own_opt rfl _ _ 113 rfl W.heap.size 137 i0 (.agg #[.int .i64 0, .slice none 0 0]) 2 32 Tryz.underlying113 hi hz0 hz1 hz2 rfl (by decide) (.slice none 0 0) 0 [] rfl (World.ownsRow_nil _ _ _ _) _ 0 _ [] rfl (fun e => by cases e) rfl (fun ad e j u hj => by simp at hj) (fun u hu => by simp at hu) (by unfold maxLen; omega) (by omega) (Nat.le_refl _) ?_; intro v2 w2 hown2 hgrow2; have HO2 := Lib.hid hown2; have HB2 := Lib.hid (show Below W.heap.size W w2 from (Below.refl _ _).grown hgrow2 (Nat.le_refl _) (fun k e => by cases e)); have hs2 : W.heap.size ≤ w2.heap.size := HB2.out.size; clear hown2 hgrow2)
              | (refine wpList_append_own _ rfl _ _ 113 rfl W.heap.size 137 i0 (.agg #[.int .i64 0, .slice none 0 0]) 2 32 Tryz.underlying113 hi hz0 hz1 hz2 rfl (by decide) v2 _ _ rfl (HO2.out.alloc _) ⟨w2.heap.size, 0, none⟩ 1 1 (rtcells ⟨sumT l, l, a, ca⟩) rfl rfl (tree_new _ ⟨sumT l, l, a, ca⟩ _) (by simp [rtcells, Value.oneCell']) (by unfold maxLen; omega) (by omega) (by simp; omega) ?_; intro v3 w3 hown3 hgrow3 _; have HO3 := Lib.hid hown3; have HB3b := Lib.hid (show Below W.heap.size W w3 from ((HB2.out.alloc hs2 _).grown hgrow3 (by simp; omega) (fun j e => (HO2.out.lt j e).1))); have HB3 := Lib.hid (HB3b.out.mono hwl); obtain ⟨a3, c3, hv3⟩ := owns_slice hown3; subst hv3; clear hown3 hgrow3; have e1 : w3.cell? ⟨mb, 1, none⟩ = some _ := (HB3.out.cell (p := ⟨mb, 1, none⟩) (by show mb < w.heap.size + 1; omega)).trans c1; have HF3 : Hid (w3.cell? ⟨fb, 0, none⟩ = some (.int .i64 0) ∧ w3.cell? ⟨fb, 1, none⟩ = some (.int .i64 (-1))) := ⟨(HB3b.out.cell (p := ⟨fb, 0, none⟩) hfl).trans f0, (HB3b.out.cell (p := ⟨fb, 1, none⟩) hfl).trans f1⟩; have z3 : w3.frozen? ⟨mb, 1, none⟩ = false := (HB3.out.frozen (p := ⟨mb, 1, none⟩) (by show mb < w.heap.size + 1; omega)).trans (HRW.out.live 1)))
            have hown : w3.ownsRow (w.heap.size + 1) 137 2 (.slice a3 (1) c3) (rs.drop 1 ++ [(⟨sumT l, l, a, ca⟩ : Rt)]).length (rscells (rs.drop 1 ++ [(⟨sumT l, l, a, ca⟩ : Rt)])) := by
              have := HO3.out.mono hwl
              rw [rscells_app, List.length_append]
              rw [List.drop_eq_nil_of_le (by omega)]
              simpa [rscells] using this
            have HLW : Hid (Below w.heap.size w w3) := HSB.out.trans (HB3.out.mono (Nat.le_succ _))
            have HST := Lib.hid (H.out.stored HLW.out (hown.mono (Nat.le_succ _)))
            have hv3 : ∀ q, (Value.slice a3 (1) c3).ownBlock = some q → q ≠ w.heap.size := fun q e => by have := (hown.lt q e).1; omega
            have x0 : (w3.setCell ⟨mb, 1, none⟩ (.slice a3 (1) c3)).cell? ⟨w.heap.size, 0, none⟩ = some (.int .i64 0) := by rw [World.cell?_setCell_other (h := by simp)]; exact (HB3.out.cell (p := ⟨w.heap.size, 0, none⟩) (Nat.lt_succ_self _)).trans s0
            have x1 : (w3.setCell ⟨mb, 1, none⟩ (.slice a3 (1) c3)).cell? ⟨w.heap.size, 1, none⟩ = some (.int .i64 0) := by rw [World.cell?_setCell_other (h := by simp)]; exact (HB3.out.cell (p := ⟨w.heap.size, 1, none⟩) (Nat.lt_succ_self _)).trans s1
            have y0 : (w3.setCell ⟨mb, 1, none⟩ (.slice a3 (1) c3)).frozen? ⟨w.heap.size, 0, none⟩ = false := by rw [World.frozen?_setCell]; exact (HB3.out.frozen (p := ⟨w.heap.size, 0, none⟩) (Nat.lt_succ_self _)).trans z0
            have y1 : (w3.setCell ⟨mb, 1, none⟩ (.slice a3 (1) c3)).frozen? ⟨w.heap.size, 1, none⟩ = false := by rw [World.frozen?_setCell]; exact (HB3.out.frozen (p := ⟨w.heap.size, 1, none⟩) (Nat.lt_succ_self _)).trans z1
            have t0 : (w3.setCell ⟨mb, 1, none⟩ (.slice a3 (1) c3)).cell? ⟨fb, 0, none⟩ = some (.int .i64 0) := by rw [World.cell?_setCell_other (h := by simp)]; exact HF3.out.1
            have t1 : (w3.setCell ⟨mb, 1, none⟩ (.slice a3 (1) c3)).cell? ⟨fb, 1, none⟩ = some (.int .i64 (-1)) := by rw [World.cell?_setCell_other (h := by simp)]; exact HF3.out.2
            clear s0 s1 z0 z1 f0 f1 e1 z3 c0 c1 hown
            generalize w3.setCell ⟨mb, 1, none⟩ (.slice a3 (1) c3) = W4 at x0 x1 y0 y1 t0 t1 HST ⊢
            go_region
            all_goals go_wp2
            all_goals
              obtain ⟨q0, q1, _⟩ := slot_set (w := W4) (wr := W4) (b := w.heap.size) (.int .i64 0) (.int .i64 (-1)) x0 x1 (Below.refl _ _)
              exact bodyPost_ret (v := .tuple #[.int .i64 (sumT l), .agg #[.int .i64 0, .int .i64 (-1)]]) (by simp [results, Tryz.results76, go_sem, q0, q1]) rfl ⟨by rw [HC.out]; rfl, _, _, ((HST.out.slot hmlt hv3 0 _).slot hmlt hv3 1 _).drew, by rw [HC.out, List.map_append]; rw [List.map_drop]; rfl, fun r hr => (List.mem_append.1 hr).elim (fun h => .inl (List.mem_of_mem_drop h)) (fun h => .inr (by simpa using h))⟩
          · go_wp2_with fail
            rw [← hW]
            clear hW c0 c1
            have c0 := HRW.out.c0
            have c1 := HRW.out.c1
            have hwl : w.heap.size + 1 ≤ W.heap.size := by omega
            refine (refHFind_is mb most _ rs (sumT l : Int) _ _ HRW.out (by omega) HA.out).mono ?_
            rintro e w' ⟨rfl, hw'⟩
            obtain rfl : W = w' := hw'.symm
            have hne : w1.heap.size ≠ w.heap.size := by omega
            generalize w1.heap.size = fb at f0 f1 hne hfl hws ⊢
            go_wp2_with (at_builtin; first
              | (refine wpList_append_own_opt rfl _ _ 113 rfl W.heap.size 137 i0 (.agg #[.int .i64 0, .slice none 0 0]) 2 32 Tryz.underlying113 hi hz0 hz1 hz2 rfl (by decide) (.slice none 0 0) 0 [] rfl (World.ownsRow_nil _ _ _ _) _ (rs.length - 1) _ (rscells (rs.drop 1)) rfl (fun e => by cases e) (by rw [rscells_length, List.length_drop]) (fun ad e j u hj => by cases e; exact HD.out j u hj) (rscells_one _) (by unfold maxLen; omega) (by omega) (Nat.le_refl _) ?_; intro v2 w2 hown2 hgrow2; have HO2 := Lib.hid hown2; have HB2 := Lib.hid (show Below W.heap.size W w2 from (Below.refl _ _).grown hgrow2 (Nat.le_refl _) (fun k e => by cases e)); have hs2 : W.heap.size ≤ w2.heap.size := HB2.out.size; clear hown2 hgrow2)
              | (refine wpList_append_own _ rfl _ _ 113 rfl W.heap.size 137 i0 (.agg #[.int .i64 0, .slice none 0 0]) 2 32 Tryz.underlying113 hi hz0 hz1 hz2 rfl (by decide) v2 _ _ rfl (HO2.out.alloc _) ⟨w2.heap.size, 0, none⟩ 1 1 (rtcells ⟨sumT l, l, a, ca⟩) rfl rfl (tree_new _ ⟨sumT l, l, a, ca⟩ _) (by simp [rtcells, Value.oneCell']) (by unfold maxLen; omega) (by omega) (by simp; omega) ?_; intro v3 w3 hown3 hgrow3 _; have HO3 := Lib.hid hown3; have HB3b := Lib.hid (show Below W.heap.size W w3 from ((HB2.out.alloc hs2 _).grown hgrow3 (by simp; omega) (fun j e => (HO2.out.lt j e).1))); have HB3 := Lib.hid (HB3b.out.mono hwl); obtain ⟨a3, c3, hv3⟩ := owns_slice hown3; subst hv3; clear hown3 hgrow3; have e1 : w3.cell? ⟨mb, 1, none⟩ = some _ := (HB3.out.cell (p := ⟨mb, 1, none⟩) (by show mb < w.heap.size + 1; omega)).trans c1; have HF3 : Hid (w3.cell? ⟨fb, 0, none⟩ = some (.int .i64 0) ∧ w3.cell? ⟨fb, 1, none⟩ = some (.int .i64 (-1))) := ⟨(HB3b.out.cell (p := ⟨fb, 0, none⟩) hfl).trans f0, (HB3b.out.cell (p := ⟨fb, 1, none⟩) hfl).trans f1⟩; have z3 : w3.frozen? ⟨mb, 1, none⟩ = false := (HB3.out.frozen (p := ⟨mb, 1, none⟩) (by show mb < w.heap.size + 1; omega)).trans (HRW.out.live 1)))
            have hown : w3.ownsRow (w.heap.size + 1) 137 2 (.slice a3 (rs.length - 1 + 1) c3) (rs.drop 1 ++ [(⟨sumT l, l, a, ca⟩ : Rt)]).length (rscells (rs.drop 1 ++ [(⟨sumT l, l, a, ca⟩ : Rt)])) := by
              have := HO3.out.mono hwl
              rw [rscells_app, List.length_append]
              rw [List.length_drop]
              simpa [rscells] using this
            have HLW : Hid (Below w.heap.size w w3) := HSB.out.trans (HB3.out.mono (Nat.le_succ _))
            have HST := Lib.hid (H.out.stored HLW.out (hown.mono (Nat.le_succ _)))
            have hv3 : ∀ q, (Value.slice a3 (rs.length - 1 + 1) c3).ownBlock = some q → q ≠ w.heap.size := fun q e => by have := (hown.lt q e).1; omega
            have x0 : (w3.setCell ⟨mb, 1, none⟩ (.slice a3 (rs.length - 1 + 1) c3)).cell? ⟨w.heap.size, 0, none⟩ = some (.int .i64 0) := by rw [World.cell?_setCell_other (h := by simp)]; exact (HB3.out.cell (p := ⟨w.heap.size, 0, none⟩) (Nat.lt_succ_self _)).trans s0
            have x1 : (w3.setCell ⟨mb, 1, none⟩ (.slice a3 (rs.length - 1 + 1) c3)).cell? ⟨w.heap.size, 1, none⟩ = some (.int .i64 0) := by rw [World.cell?_setCell_other (h := by simp)]; exact (HB3.out.cell (p := ⟨w.heap.size, 1, none⟩) (Nat.lt_succ_self _)).trans s1
            have y0 : (w3.setCell ⟨mb, 1, none⟩ (.slice a3 (rs.length - 1 + 1) c3)).frozen? ⟨w.heap.size, 0, none⟩ = false := by rw [World.frozen?_setCell]; exact (HB3.out.frozen (p := ⟨w.heap.size, 0, none⟩) (Nat.lt_succ_self _)).trans z0
            have y1 : (w3.setCell ⟨mb, 1, none⟩ (.slice a3 (rs.length - 1 + 1) c3)).frozen? ⟨w.heap.size, 1, none⟩ = false := by rw [World.frozen?_setCell]; exact (HB3.out.frozen (p := ⟨w.heap.size, 1, none⟩) (Nat.lt_succ_self _)).trans z1
            have t0 : (w3.setCell ⟨mb, 1, none⟩ (.slice a3 (rs.length - 1 + 1) c3)).cell? ⟨fb, 0, none⟩ = some (.int .i64 0) := by rw [World.cell?_setCell_other (h := by simp)]; exact HF3.out.1
            have t1 : (w3.setCell ⟨mb, 1, none⟩ (.slice a3 (rs.length - 1 + 1) c3)).cell? ⟨fb, 1, none⟩ = some (.int .i64 (-1)) := by rw [World.cell?_setCell_other (h := by simp)]; exact HF3.out.2
            clear s0 s1 z0 z1 f0 f1 e1 z3 c0 c1 hown
            generalize w3.setCell ⟨mb, 1, none⟩ (.slice a3 (rs.length - 1 + 1) c3) = W4 at x0 x1 y0 y1 t0 t1 HST ⊢
            go_region
            all_goals go_wp2
            all_goals
              obtain ⟨q0, q1, _⟩ := slot_set (w := W4) (wr := W4) (b := w.heap.size) (.int .i64 0) (.int .i64 (-1)) x0 x1 (Below.refl _ _)
              exact bodyPost_ret (v := .tuple #[.int .i64 (sumT l), .agg #[.int .i64 0, .int .i64 (-1)]]) (by simp [results, Tryz.results76, go_sem, q0, q1]) rfl ⟨by rw [HC.out]; rfl, _, _, ((HST.out.slot hmlt hv3 0 _).slot hmlt hv3 1 _).drew, by rw [HC.out, List.map_append]; rw [List.map_drop]; rfl, fun r hr => (List.mem_append.1 hr).elim (fun h => .inl (List.mem_of_mem_drop h)) (fun h => .inr (by simpa using h))⟩
        · have HC := Lib.hid (putH_comes (s := ⟨most, rs.map Rt.tr⟩) HZ.out hm hsp (by simpa using hg))
          have hlt : ¬ (rs.length : Int) ≥ (most : Int) := by omega
          have HN : Hid (av = none → rs.length = 0 ∧ cv = 0) := fun e => by
            subst e
            rcases HRW.out.row.2 with ⟨e1, e2⟩ | ⟨g, cap, cur, e1, _⟩
            · simp only [Value.slice.injEq] at e1
              exact ⟨e2, e1.2.2⟩
            · simp at e1
          have HD : Hid (∀ ad, av = some ad → ∀ j u, (rscells rs)[j]? = some u → W.cell? (ad.add j) = some u) := fun ad e j u hj => by
            subst e
            rcases HRW.out.row.2 with ⟨e1, e2⟩ | ⟨g, cap, cur, e1, _⟩
            · simp at e1
            · simp only [Value.slice.injEq, Option.some.injEq] at e1
              obtain ⟨rfl, _, rfl⟩ := e1
              rw [Addr.add_lit, Nat.zero_add, HRW.out.row.cellAt j (by have := (List.getElem?_eq_some_iff.1 hj).1; rw [rscells_length] at this; exact this)]
              exact hj
          clear hsp hm hg
          go_wp2_with fail
          rw [← hW]
          clear hW c0 c1
          have c0 := HRW.out.c0
          have c1 := HRW.out.c1
          have hwl : w.heap.size + 1 ≤ W.heap.size := by omega
          refine (refHFind_is mb most _ rs (sumT l : Int) _ _ HRW.out (by omega) HA.out).mono ?_
          rintro e w' ⟨rfl, hw'⟩
          obtain rfl : W = w' := hw'.symm
          have hne : w1.heap.size ≠ w.heap.size := by omega
          generalize w1.heap.size = fb at f0 f1 hne hfl hws ⊢
          go_wp2_with (at_builtin; first
            | (refine wpList_append_own_opt rfl _ _ 113 rfl W.heap.size 137 i0 (.agg #[.int .i64 0, .slice none 0 0]) 2 32 Tryz.underlying113 hi hz0 hz1 hz2 rfl (by decide) (.slice none 0 0) 0 [] rfl (World.ownsRow_nil _ _ _ _) _ (rs.length) _ (rscells (rs)) rfl (fun e => HN.out e) (rscells_length _) (fun ad e j u hj => HD.out ad e j u hj) (rscells_one _) (by unfold maxLen; omega) (by omega) (Nat.le_refl _) ?_; intro v2 w2 hown2 hgrow2; have HO2 := Lib.hid hown2; have HB2 := Lib.hid (show Below W.heap.size W w2 from (Below.refl _ _).grown hgrow2 (Nat.le_refl _) (fun k e => by cases e)); have hs2 : W.heap.size ≤ w2.heap.size := HB2.out.size; clear hown2 hgrow2)
            | (refine wpList_append_own _ rfl _ _ 113 rfl W.heap.size 137 i0 (.agg #[.int .i64 0, .slice none 0 0]) 2 32 Tryz.underlying113 hi hz0 hz1 hz2 rfl (by decide) v2 _ _ rfl (HO2.out.alloc _) ⟨w2.heap.size, 0, none⟩ 1 1 (rtcells ⟨sumT l, l, a, ca⟩) rfl rfl (tree_new _ ⟨sumT l, l, a, ca⟩ _) (by simp [rtcells, Value.oneCell']) (by unfold maxLen; omega) (by omega) (by simp; omega) ?_; intro v3 w3 hown3 hgrow3 _; have HO3 := Lib.hid hown3; have HB3b := Lib.hid (show Below W.heap.size W w3 from ((HB2.out.alloc hs2 _).grown hgrow3 (by simp; omega) (fun j e => (HO2.out.lt j e).1))); have HB3 := Lib.hid (HB3b.out.mono hwl); obtain ⟨a3, c3, hv3⟩ := owns_slice hown3; subst hv3; clear hown3 hgrow3; have e1 : w3.cell? ⟨mb, 1, none⟩ = some _ := (HB3.out.cell (p := ⟨mb, 1, none⟩) (by show mb < w.heap.size + 1; omega)).trans c1; have HF3 : Hid (w3.cell? ⟨fb, 0, none⟩ = some (.int .i64 0) ∧ w3.cell? ⟨fb, 1, none⟩ = some (.int .i64 (-1))) := ⟨(HB3b.out.cell (p := ⟨fb, 0, none⟩) hfl).trans f0, (HB3b.out.cell (p := ⟨fb, 1, none⟩) hfl).trans f1⟩; have z3 : w3.frozen? ⟨mb, 1, none⟩ = false := (HB3.out.frozen (p := ⟨mb, 1, none⟩) (by show mb < w.heap.size + 1; omega)).trans (HRW.out.live 1)))
          have hown : w3.ownsRow (w.heap.size + 1) 137 2 (.slice a3 (rs.length + 1) c3) (rs ++ [(⟨sumT l, l, a, ca⟩ : Rt)]).length (rscells (rs ++ [(⟨sumT l, l, a, ca⟩ : Rt)])) := by
            have := HO3.out.mono hwl
            rw [rscells_app, List.length_append]
            simpa [rscells] using this
          have HLW : Hid (Below w.heap.size w w3) := HSB.out.trans (HB3.out.mono (Nat.le_succ _))
          have HST := Lib.hid (H.out.stored HLW.out (hown.mono (Nat.le_succ _)))
          have hv3 : ∀ q, (Value.slice a3 (rs.length + 1) c3).ownBlock = some q → q ≠ w.heap.size := fun q e => by have := (hown.lt q e).1; omega
          have x0 : (w3.setCell ⟨mb, 1, none⟩ (.slice a3 (rs.length + 1) c3)).cell? ⟨w.heap.size, 0, none⟩ = some (.int .i64 0) := by rw [World.cell?_setCell_other (h := by simp)]; exact (HB3.out.cell (p := ⟨w.heap.size, 0, none⟩) (Nat.lt_succ_self _)).trans s0
          have x1 : (w3.setCell ⟨mb, 1, none⟩ (.slice a3 (rs.length + 1) c3)).cell? ⟨w.heap.size, 1, none⟩ = some (.int .i64 0) := by rw [World.cell?_setCell_other (h := by simp)]; exact (HB3.out.cell (p := ⟨w.heap.size, 1, none⟩) (Nat.lt_succ_self _)).trans s1
          have y0 : (w3.setCell ⟨mb, 1, none⟩ (.slice a3 (rs.length + 1) c3)).frozen? ⟨w.heap.size, 0, none⟩ = false := by rw [World.frozen?_setCell]; exact (HB3.out.frozen (p := ⟨w.heap.size, 0, none⟩) (Nat.lt_succ_self _)).trans z0
          have y1 : (w3.setCell ⟨mb, 1, none⟩ (.slice a3 (rs.length + 1) c3)).frozen? ⟨w.heap.size, 1, none⟩ = false := by rw [World.frozen?_setCell]; exact (HB3.out.frozen (p := ⟨w.heap.size, 1, none⟩) (Nat.lt_succ_self _)).trans z1
          have t0 : (w3.setCell ⟨mb, 1, none⟩ (.slice a3 (rs.length + 1) c3)).cell? ⟨fb, 0, none⟩ = some (.int .i64 0) := by rw [World.cell?_setCell_other (h := by simp)]; exact HF3.out.1
          have t1 : (w3.setCell ⟨mb, 1, none⟩ (.slice a3 (rs.length + 1) c3)).cell? ⟨fb, 1, none⟩ = some (.int .i64 (-1)) := by rw [World.cell?_setCell_other (h := by simp)]; exact HF3.out.2
          clear s0 s1 z0 z1 f0 f1 e1 z3 c0 c1 hown
          generalize w3.setCell ⟨mb, 1, none⟩ (.slice a3 (rs.length + 1) c3) = W4 at x0 x1 y0 y1 t0 t1 HST ⊢
          go_region
          all_goals go_wp2
          all_goals
            obtain ⟨q0, q1, _⟩ := slot_set (w := W4) (wr := W4) (b := w.heap.size) (.int .i64 0) (.int .i64 (-1)) x0 x1 (Below.refl _ _)
            exact bodyPost_ret (v := .tuple #[.int .i64 (sumT l), .agg #[.int .i64 0, .int .i64 (-1)]]) (by simp [results, Tryz.results76, go_sem, q0, q1]) rfl ⟨by rw [HC.out]; rfl, _, _, ((HST.out.slot hmlt hv3 0 _).slot hmlt hv3 1 _).drew, by rw [HC.out, List.map_append]; rfl, fun r hr => (List.mem_append.1 hr).elim (fun h => .inl (h)) (fun h => .inr (by simpa using h))⟩
  · have HC := Lib.hid (putH_bad (s := ⟨most, rs.map Rt.tr⟩) hz)
    obtain ⟨c, i, hci⟩ := fault_nat l
    have hc : 0 < c := by rw [hci] at hz; simp at hz; omega
    have hc' : (0 : Int) < (c : Int) := by omega
    rw [hci]
    have HCI := Lib.hid hci
    clear hz hci
    go_wp2_with fail
    obtain ⟨W, hW⟩ : ∃ W, W = w1.alloc (.cells #[.int .i64 c, .int .i64 i] 50) := ⟨_, rfl⟩
    have hbW : Below w1.heap.size w1 W := by rw [hW]; exact (Below.refl _ _).alloc (Nat.le_refl _) _
    have HSW := Lib.hid (more_below HS1.out rfl hbW)
    obtain ⟨f0, f1, _, _, _⟩ := slot_two (w := w1) (wr := W) (u := .int .i64 c) (v := .int .i64 i) (T := 50) (by rw [hW]; exact Below.refl _ _)
    have hne : w1.heap.size ≠ w.heap.size := by have := HS1.out.size; simp at this; omega
    rw [← hW]
    clear hW hbW HS1
    generalize w1.heap.size = fb at f0 f1 hne ⊢
    obtain ⟨s0, s1, z0, z1, sb⟩ := slot_two HSW.out
    go_region
    all_goals go_wp2
    all_goals
      obtain ⟨q0, q1, q2⟩ := slot_set (w := w) (wr := W) (.int .i64 c) (.int .i64 i) s0 s1 sb
      exact bodyPost_ret (v := .tuple #[.int .i64 0, .agg #[.int .i64 c, .int .i64 i]]) (by simp [results, Tryz.results76, go_sem, q0, q1]) rfl ⟨by rw [HC.out, HCI.out]; rfl, v, rs, RefHLeft.of_below H.out (Below.drew q2), by rw [HC.out], fun _ h => .inl h⟩
end Go.Proofs.YtmcfkoenpikldaaGreatDoor
