/-
  path.Check tells of every text that is not too long what the plain function tells: a contract, over this seat's translation.
-/
import Derived.Test.YtaegcoidpjcbaaaGreatDoorCode
import Derived.Test.YtaegcoidpjcbaaaGreatDoorErrV
import Derived.Test.YtaegcoidpjcbaaaGreatDoorPart
import Derived.Test.YtaegcoidpjcbaaaGreatDoorCut
namespace Go.Proofs.YtaegcoidpjcbaaaGreatDoor
open Go.RowKit Go.Shelf

theorem cell_set {w : World} {a : Addr} {v u : Value} (h : w.cell? a = some u) : (w.setCell a v).cell? a = some v := World.cell?_setCell_same' _ _ _ (by rw [h]; rfl)
theorem cell_far {w : World} {a b : Addr} {v : Value} (h : b.block ≠ a.block) : (w.setCell a v).cell? b = w.cell? b := World.cell?_of_block (Below.heap_setCell _ _ _ _ h)

/-- What package path's Check wants of the listed variables: two errors. -/
structure PEnv (p : Nat → Addr) (w : World) : Prop where
  s4 : w.cell? ⟨3, 0, none⟩ = some (.iface 311 (.pointer (some (p 4))))
  s7 : w.cell? ⟨2, 0, none⟩ = some (.iface 311 (.pointer (some (p 7))))
theorem PEnv.below {p : Nat → Addr} {w w' : World} (E : PEnv p w) (hb : Below w.heap.size w w') : PEnv p w' where
  s4 := (hb.cell (p := ⟨3, 0, none⟩) (block_lt_of_cell E.s4)).trans E.s4
  s7 := (hb.cell (p := ⟨2, 0, none⟩) (block_lt_of_cell E.s7)).trans E.s7

attribute [local go_sem] Oper.semAt_some

set_option maxRecDepth 100000 in
set_option maxHeartbeats 2000000 in
theorem check_path (p : Nat → Addr) (s : List UInt8) (w : World) (hE : PEnv p w) (hs : s.length ≤ 90000) :
    Calls Tryz.prog 113 #[.string ⟨s.toArray⟩] w fun e w' => e = .returned (errV p (checkCode s)) ∧ Below w.heap.size w w' := by
  refine (callsIn_wide (n := 3)).1 ?_
  refine callsIn_of_wp_marks Tryz.func113 rfl trivial ?_ rfl
  simp only [Tryz.ntmps113, List.size_toArray, List.length_cons, List.length_nil, Nat.reduceAdd, Nat.reduceSub, Array.replicate_succ, Array.replicate_zero, List.push_toArray, List.append_toArray, List.nil_append, List.cons_append]
  have HE : Hid (PEnv p w) := hE
  clear hE
  gi_wp2_with (refine ⟨trivial, ?_⟩; gi_at_call 138; refine (callsIn_wide.2 (cut_fn s _)).mono ?_; rintro e w' ⟨rfl, rfl⟩)
  have b0 := Boxed.new w 43 .nilIface
  have b1 := Boxed.new (w.alloc (.cells #[.nilIface] 43)) 3 (.int .i64 0)
  have b2 := Boxed.new ((w.alloc (.cells #[.nilIface] 43)).alloc (.cells #[.int .i64 0] 3)) 9 (.string ⟨s.toArray⟩)
  simp only [World.size_alloc] at b1 b2
  have hB0 : Below w.heap.size w (((w.alloc (.cells #[.nilIface] 43)).alloc (.cells #[.int .i64 0] 3)).alloc (.cells #[.string ⟨s.toArray⟩] 9)) := (((Below.refl _ w).alloc (Nat.le_refl _) _).alloc (by simp) _).alloc (by simp; omega) _
  refine wpIn_rangeFunc_ownF rfl (by omega) (gf := 153) (lb := #[.pointer (some ⟨w.heap.size + 1 + 1, 0, none⟩)]) rfl trivial (enters_of Tryz.func153 (by kernel_rfl) rfl)
    (cut_stops _ (by omega) (w.heap.size + 1 + 1) w.heap.size s (by omega) _ (by simp) b2.cell) belowK_t (belowK_b (by simp; omega)) (Below.refl _ _) (fun _ => rfl)
    (fun pre W => ((pre.map (·.1)).all isPart = true ∧ W.cell? ⟨w.heap.size, 0, none⟩ = some .nilIface ∧ W.frozen? ⟨w.heap.size, 0, none⟩ = false ∧ W.cell? ⟨w.heap.size + 1, 0, none⟩ = some (.int .i64 pre.length) ∧ W.frozen? ⟨w.heap.size + 1, 0, none⟩ = false) ∧ Below w.heap.size w W)
    (fun c pre W => (c = .ret ∧ (pre.map (·.1)).all isPart = false ∧ W.cell? ⟨w.heap.size, 0, none⟩ = some (.iface 311 (.pointer (some (p 4))))) ∧ Below w.heap.size w W)
    (OwnFrom.and (Own.from (fun s A B row hs hg hr => ⟨hs.1, cell_kept hs.2.1 hg hr, (frozen_kept hs.2.1 hg hr).trans hs.2.2.1, cell_kept hs.2.2.2.1 hg hr, (frozen_kept hs.2.2.2.1 hg hr).trans hs.2.2.2.2⟩) _) (ownFrom_below (Nat.le_refl _) (by simp; omega)))
    (fun c => OwnFrom.and (Own.from (fun s A B row hs hg hr => ⟨hs.1, hs.2.1, cell_kept hs.2.2 hg hr⟩) _) (ownFrom_below (Nat.le_refl _) (by simp; omega)))
    ⟨⟨by simp, ((b0.alloc _).alloc _).cell, ((b0.alloc _).alloc _).frozen, (b1.alloc _).cell, (b1.alloc _).frozen⟩, hB0⟩
    (fun x => { tmps := #[.string ⟨s.toArray⟩, undef, .pointer (some ⟨w.heap.size, 0, none⟩), .pointer (some ⟨w.heap.size + 1, 0, none⟩), .string ⟨x.1.toArray⟩, .string ⟨s.toArray⟩, .func (.func 153) #[] #[.pointer (some ⟨w.heap.size + 1 + 1, 0, none⟩)], .string ⟨x.1.toArray⟩, undef, undef, undef, undef, undef, undef, undef, undef, undef], defers := [] }) ?assign ?body ?done ?stop
  case assign =>
    intro l x W K hK
    gi_wp2
    exact hK
  case body =>
    rintro l pre x W ⟨⟨hp, hc0, hf0, hc1, hf1⟩, hB⟩ hlt
    have hpl := pieces_length s
    have hg := (HE.out.below hB).s4
    have HP : Hid ((pre.map (·.1)).all isPart = true) := hp
    have HB : Hid (Below w.heap.size w W) := hB
    clear hp hB
    by_cases hx : isPart x.1 = true
    · gi_wp2_with (refine ⟨trivial, ?_⟩; gi_at_call 57; refine (CallsIn.inRound l (callsIn_wide.2 (isPart_any x.1 _ x.2))).mono ?_; rintro e w' ⟨rfl, rfl⟩)
      refine ⟨KeepsOthers.setCell _ _ _, (Below.refl w.heap.size _).setCell (p := ⟨w.heap.size + 1, 0, none⟩) (by simp) _, ⟨?_, ?_, ?_, ?_, ?_⟩, HB.out.setCell (p := ⟨w.heap.size + 1, 0, none⟩) (by simp) _⟩
      · rw [List.map_append, List.all_append, HP.out]; simp [hx]
      · rw [cell_far (by simp)]; exact hc0
      · rw [World.frozen?_setCell]; exact hf0
      · rw [cell_set hc1]; simp
      · rw [World.frozen?_setCell]; exact hf1
    · have hx' : isPart x.1 = false := by simpa using hx
      clear hx
      gi_wp2_with (refine ⟨trivial, ?_⟩; gi_at_call 57; refine (CallsIn.inRound l (callsIn_wide.2 (isPart_any x.1 _ x.2))).mono ?_; rintro e w' ⟨rfl, rfl⟩)
      refine ⟨KeepsOthers.setCell _ _ _, ⟨rfl, ?_, ?_⟩, HB.out.setCell (p := ⟨w.heap.size, 0, none⟩) (by simp) _⟩
      · rw [List.map_append, List.all_append]; simp [hx']
      · rw [cell_set hc0]
  case done =>
    rintro D ys W hD hys ⟨⟨hp, hc0, hf0, hc1, hf1⟩, hB⟩ hK
    have hg := (HE.out.below hB).s7
    have HB : Hid (Below w.heap.size w W) := hB
    have HC : Hid (checkCode s = if 6 < ys.length then 8 else 0) := by
      show checkCode s = _
      unfold checkCode
      rw [← hys, hp]; simp
    clear hp hB hys
    by_cases hl : 6 < ys.length
    · have hl' : (6 : Int) < ys.length := by omega
      gi_wp2
      have hK' := (KeepsOthers.setCell W ⟨w.heap.size, 0, none⟩ (.iface 311 (.pointer (some (p 7))))).same D _ hK rfl
      refine ⟨by simp, .inl ⟨_, _, rfl, run_takeDeferred hK', ?_⟩⟩
      have hc5 := cell_kept (cell_set (v := .iface 311 (.pointer (some (p 7)))) hc0) (grownBy_putObj' _ D (.deferred none)) (fun r e => by cases e; exact ⟨_, hK', rfl⟩)
      refine ⟨.iface 311 (.pointer (some (p 7))), ?_, by rw [HC.out, if_pos hl]; rfl, (HB.out.setCell (p := ⟨w.heap.size, 0, none⟩) (by simp) _).trans (belowK_b (w := w) (Nat.le_refl _) _ D _ _ (by simp at hD; omega) hK' rfl rfl)⟩
      simp [results, Tryz.f113, go_sem, hc5]
    · have hl' : ¬ (6 : Int) < ys.length := by omega
      gi_wp2
      have hK' := (KeepsOthers.setCell W ⟨w.heap.size, 0, none⟩ .nilIface).same D _ hK rfl
      refine ⟨by simp, .inl ⟨_, _, rfl, run_takeDeferred hK', ?_⟩⟩
      have hc5 := cell_kept (cell_set (v := .nilIface) hc0) (grownBy_putObj' _ D (.deferred none)) (fun r e => by cases e; exact ⟨_, hK', rfl⟩)
      refine ⟨.nilIface, ?_, by rw [HC.out, if_neg hl]; rfl, (HB.out.setCell (p := ⟨w.heap.size, 0, none⟩) (by simp) _).trans (belowK_b (w := w) (Nat.le_refl _) _ D _ _ (by simp at hD; omega) hK' rfl rfl)⟩
      simp [results, Tryz.f113, go_sem, hc5]
  case stop =>
    rintro D c pre W hD hpre ⟨⟨rfl, hin, hcr⟩, hB⟩ hK
    have HC : Hid (checkCode s = 5) := by
      show checkCode s = 5
      unfold checkCode
      obtain ⟨r, hr⟩ := hpre
      rw [← hr, List.all_append, hin]; simp
    clear hin hpre
    gi_wp2
    refine ⟨by simp, .inl ⟨_, _, rfl, run_takeDeferred hK, ?_⟩⟩
    have hc5 := cell_kept hcr (grownBy_putObj' _ D (.deferred none)) (fun r e => by cases e; exact ⟨_, hK, rfl⟩)
    refine ⟨.iface 311 (.pointer (some (p 4))), ?_, by rw [HC.out]; rfl, hB.trans (belowK_b (w := w) (Nat.le_refl _) W D _ _ (by simp at hD; omega) hK rfl rfl)⟩
    simp [results, Tryz.f113, go_sem, hc5]

theorem check_any (p : Nat → Addr) (s : List UInt8) (w : World) (hE : Env p w) (hs : s.length ≤ 90000) :
    Calls Tryz.prog 113 #[.string ⟨s.toArray⟩] w fun e w' => e = .returned (errV p (checkCode s)) ∧ Below w.heap.size w w' := check_path p s w ⟨hE.s4, hE.s7⟩ hs
end Go.Proofs.YtaegcoidpjcbaaaGreatDoor
