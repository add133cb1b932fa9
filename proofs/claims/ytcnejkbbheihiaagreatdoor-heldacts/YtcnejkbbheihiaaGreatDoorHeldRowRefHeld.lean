/-
  Own texts of the proof, joined by program: HeldRow, RefHeld.
-/
import Derived.Test.YtcnejkbbheihiaaGreatDoorSumTreeHeldPureHeldFacts
import Derived.Test.YtcnejkbbheihiaaGreatDoorKept
import Derived.Test.YtcnejkbbheihiaaGreatDoorIntsMem
import Derived.Maps.AppendAt
/-
  Trees in a row, where their files lie: no Go text.
-/
namespace Go.Proofs.YtcnejkbbheihiaaGreatDoor

/-- A tree in the row: its sum, its files where they lie. -/
structure Rt where
  n : Nat
  l : List F
  a : Option Addr
  c : Nat
def Rt.tr (r : Rt) : Tr := ⟨r.n, r.l⟩
theorem tr_length (rs : List Rt) : (rs.map Rt.tr).length = rs.length := List.length_map _
end Go.Proofs.YtcnejkbbheihiaaGreatDoor
/-
  What the document's answer holds, in memory: its two cells, the row of trees; Find, NewHeld, Sums: over this seat's translation.
-/
namespace Go.Proofs.YtcnejkbbheihiaaGreatDoor
open Go.RowKit Go.Shelf

def rtcells (r : Rt) : List Value := [.int .i64 r.n, .slice r.a r.l.length r.c]
def rscells (l : List Rt) : List Value := l.flatMap rtcells
theorem rscells_length (l : List Rt) : (rscells l).length = l.length * 2 := by
  induction l with
  | nil => rfl
  | cons x r ih =>
    show (rtcells x ++ rscells r).length = _
    rw [List.length_append, ih, List.length_cons]
    show 2 + r.length * 2 = _
    omega
theorem rscells_app (l m : List Rt) : rscells (l ++ m) = rscells l ++ rscells m := by simp [rscells]
theorem rscells_at {l : List Rt} {k j : Nat} (hk : k < l.length) (hj : j < 2) : (rscells l)[k * 2 + j]? = (rtcells l[k])[j]? := by
  have e : l = l.take k ++ l[k] :: l.drop (k + 1) := by rw [← List.drop_eq_getElem_cons hk, List.take_append_drop]
  have e2 : rscells l = rscells (l.take k) ++ (rtcells l[k] ++ rscells (l.drop (k + 1))) := by
    conv => lhs; rw [e]
    rw [rscells_app]
    rfl
  have hlen : (rscells (l.take k)).length = k * 2 := by rw [rscells_length, List.length_take]; congr 1; omega
  have h2 : (rtcells l[k]).length = 2 := rfl
  rw [e2, List.getElem?_append_right (by omega), hlen, Nat.add_sub_cancel_left, List.getElem?_append_left (by omega)]
theorem rscells_one (l : List Rt) : ∀ u ∈ rscells l, u.oneCell' = true := by
  intro u hu
  simp only [rscells, List.mem_flatMap] at hu
  obtain ⟨f, _, hf⟩ := hu
  simp only [rtcells, List.mem_cons, List.not_mem_nil, or_false] at hf
  rcases hf with rfl | rfl <;> rfl

/-- What the document's answer holds, at a block. -/
structure RefHAt (w : World) (mb : Nat) (v : Value) (most : Nat) (rs : List Rt) : Prop where
  c0 : w.cell? ⟨mb, 0, none⟩ = some (.int .i64 most)
  c1 : w.cell? ⟨mb, 1, none⟩ = some v
  two : ∀ j, w.cell? ⟨mb, j + 2, none⟩ = none
  live : ∀ j, w.frozen? ⟨mb, j, none⟩ = false
  row : w.ownsRow (mb + 1) 46 2 v rs.length (rscells rs)
theorem RefHAt.lt {w : World} {mb most : Nat} {v : Value} {rs : List Rt} (h : RefHAt w mb v most rs) : mb < w.heap.size := block_lt_of_cell h.c0
theorem RefHAt.kept {w w' : World} {mb most : Nat} {v : Value} {rs : List Rt} {S : Nat → Prop} (h : RefHAt w mb v most rs) (hk : Kept S w w') (h0 : ¬ S mb) (h1 : ∀ g, v.ownBlock = some g → ¬ S g) : RefHAt w' mb v most rs := by
  have hb : w'.heap[mb]? = w.heap[mb]? := hk.block mb h.lt h0
  have hc : ∀ j, w'.cell? ⟨mb, j, none⟩ = w.cell? ⟨mb, j, none⟩ := fun j => by simp [World.cell?, hb]
  have hf : ∀ j, w'.frozen? ⟨mb, j, none⟩ = w.frozen? ⟨mb, j, none⟩ := fun j => by simp [World.frozen?, hb]
  exact ⟨(hc 0).trans h.c0, (hc 1).trans h.c1, fun j => (hc (j + 2)).trans (h.two j), fun j => (hf j).trans (h.live j), owns_kept h.row fun g hg => hk.block g (h.row.lt g hg).2 (h1 g hg)⟩
theorem RefHAt.below {w w' : World} {mb most : Nat} {v : Value} {rs : List Rt} (h : RefHAt w mb v most rs) (hb : Below w.heap.size w w') : RefHAt w' mb v most rs :=
  h.kept (S := fun _ => False) (Kept.of_below hb) (fun h => h) (fun _ _ h => h)
/-- The two cells of a place. -/
theorem RefHAt.site {w : World} {mb most : Nat} {v : Value} {rs : List Rt} (h : RefHAt w mb v most rs) {k : Nat} (hk : k < rs.length) : ∃ g cap, v = .slice (some ⟨g, 0, none⟩) rs.length cap ∧ rs.length ≤ cap ∧ w.cell? ⟨g, k * 2, none⟩ = some (.int .i64 rs[k].n) ∧ w.cell? ⟨g, k * 2 + 1, none⟩ = some (.slice rs[k].a rs[k].l.length rs[k].c) := by
  obtain ⟨g, cap, rfl, h1, _⟩ := owns_at h.row (by omega)
  have hc : ∀ j, j < 2 → w.cell? ⟨g, k * 2 + j, none⟩ = (rtcells rs[k])[j]? := fun j hj => by
    rw [h.row.cellAt (k * 2 + j) (by omega)]
    exact rscells_at hk hj
  exact ⟨g, cap, rfl, h1, hc 0 (by omega), hc 1 (by omega)⟩
/-- What a call on it leaves: only its own block, and new ones, are written. -/
structure RefHLeft (w : World) (mb most : Nat) (rs' : List Rt) (w' : World) (v' : Value) (v : Value) : Prop where
  ref : RefHAt w' mb v' most rs'
  below : Below mb w w'
  kept : Kept (fun b => b = mb) w w'
  row : ∀ g, v'.ownBlock = some g → v.ownBlock = some g ∨ w.heap.size ≤ g
theorem RefHLeft.of_below {w w' : World} {mb most : Nat} {v : Value} {rs : List Rt} (h : RefHAt w mb v most rs) (hb : Below w.heap.size w w') : RefHLeft w mb most rs w' v v :=
  ⟨h.below hb, hb.mono (Nat.le_of_lt h.lt), Kept.of_below hb, fun _ h => .inl h⟩
/-- Another row, in new memory, stored in its field. -/
theorem RefHAt.stored {w w2 : World} {mb most : Nat} {v v' : Value} {rs rs' : List Rt} (h : RefHAt w mb v most rs) (hb : Below w.heap.size w w2) (hown : w2.ownsRow w.heap.size 46 2 v' rs'.length (rscells rs')) : RefHLeft w mb most rs' (w2.setCell ⟨mb, 1, none⟩ v') v' v := by
  have h2 := h.below hb
  have hlt := h.lt
  have hv' : ∀ g, v'.ownBlock = some g → w.heap.size ≤ g := fun g e => (hown.lt g e).1
  refine ⟨⟨?_, World.cell?_setCell_same' _ _ _ (by rw [h2.c1]; rfl), fun j => ?_, fun j => ?_, ?_⟩, ?_, ?_, fun g hg => .inr (hv' g hg)⟩
  · rw [World.cell?_setCell_other (h := by simp)]; exact h2.c0
  · rw [World.cell?_setCell_other (h := by simp)]; exact h2.two j
  · rw [World.frozen?_setCell]; exact h2.live j
  · exact ownsRow_setCell_other (hown.mono (by omega)) (a := ⟨mb, 1, none⟩) (fun e => by have := hv' mb e; omega) v'
  · exact (hb.mono (Nat.le_of_lt hlt)).setCell (p := ⟨mb, 1, none⟩) (Nat.le_refl _) _
  · exact (Kept.of_below hb).trans (Kept.set (S := fun b => b = mb) w2 (a := ⟨mb, 1, none⟩) rfl v')

theorem atH_some {l : List Tr} {n : Int} {k : Nat} (h : spotH l n = some k) : atH l n = (k : Int) := by unfold atH; rw [h]
theorem atH_none {l : List Tr} {n : Int} (h : spotH l n = .none) : atH l n = -1 := by unfold atH; rw [h]

set_option maxRecDepth 100000 in
set_option maxHeartbeats 1000000 in
theorem refHFind_any (mb most : Nat) (v : Value) (rs : List Rt) (n : Int) (w : World) (h : RefHAt w mb v most rs) (hl : rs.length ≤ 100000) :
    Calls Tryz.prog 22 #[.pointer (some ⟨mb, 0, none⟩), .int .i64 n] w fun e w' => e = .returned (.int .i64 (atH (rs.map Rt.tr) n)) ∧ w' = w := by
  have H := Lib.hid h
  have c1 := h.c1
  obtain ⟨av, cv, hv⟩ := owns_slice h.row
  subst hv
  clear h
  go_enter Tryz.func22, Tryz.ntmps22
  go_wp2_with fail
  go_loop [5] (fun i => ∃ q : Nat, q ≤ rs.length ∧ i = .int .i64 q ∧ ∀ j (h : j < (rs.map Rt.tr).length), j < q → ((rs.map Rt.tr)[j].n : Int) ≠ n) (fun i => rs.length - (intOf i).toNat)
  case atStart => exact ⟨0, by omega, rfl, fun _ _ h => by omega⟩
  case round =>
    obtain ⟨q, hq, rfl, hn⟩ := hrel
    have HN := Lib.hid hn
    clear hn
    by_cases hlt : q < rs.length
    · have hlt' : (q : Int) < (rs.length : Int) := by omega
      have hltm : q < (rs.map Rt.tr).length := by simpa using hlt
      have hg : (rs.map Rt.tr)[q].n = rs[q].n := by simp [Rt.tr]
      obtain ⟨g, cap, hv2, hcap, k0, _⟩ := H.out.site hlt
      cases hv2
      by_cases hx : (rs[q].n : Int) = n
      · have HF : Hid (atH (rs.map Rt.tr) n = (q : Int)) := by
          show atH (rs.map Rt.tr) n = (q : Int)
          exact atH_some (spotH_first hltm (by rw [hg]; exact hx) HN.out)
        rw [hx] at k0
        clear hx hg
        go_wp2
        go_ret
        exact ⟨by rw [HF.out]; rfl, rfl⟩
      · have HF : Hid (∀ j (h : j < (rs.map Rt.tr).length), j < q + 1 → ((rs.map Rt.tr)[j].n : Int) ≠ n) := fun j hj hjq => by
          rcases Nat.lt_or_ge j q with h | h
          · exact HN.out j hj h
          · obtain rfl : j = q := by omega
            rw [hg]
            exact hx
        have hx' : ((rs[q].n : Int) == n) = false := by simpa using hx
        clear hx hg
        generalize (rs[q].n : Int) = x at k0 hx'
        go_wp2
        go_round
        case rel => exact ⟨q + 1, by omega, by go_num, HF.out⟩
        case measure => simp [intOf]; omega
    · have hql : q = rs.length := by omega
      have HF : Hid (atH (rs.map Rt.tr) n = -1) := by
        show atH (rs.map Rt.tr) n = -1
        exact atH_none (spotH_none fun j hj => HN.out j hj (by simp at hj; omega))
      clear hql
      go_wp2
      go_ret
      exact ⟨by rw [HF.out]; rfl, rfl⟩
theorem refHFind_is (mb most : Nat) (v : Value) (rs : List Rt) (n z : Int) (w : World) (h : RefHAt w mb v most rs) (hl : rs.length ≤ 100000) (hz : atH (rs.map Rt.tr) n = z) :
    Calls Tryz.prog 22 #[.pointer (some ⟨mb, 0, none⟩), .int .i64 n] w fun e w' => e = .returned (.int .i64 z) ∧ w' = w := by
  have := refHFind_any mb most v rs n w h hl
  rwa [hz] at this
end Go.Proofs.YtcnejkbbheihiaaGreatDoor
