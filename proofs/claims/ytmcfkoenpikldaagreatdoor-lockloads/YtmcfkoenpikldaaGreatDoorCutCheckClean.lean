/-
  Own texts of the proof, joined by program: Cut, Check, Clean.
-/
import Derived.Test.YtmcfkoenpikldaaGreatDoorShelf
import Derived.Test.YtmcfkoenpikldaaGreatDoorPureFacts
import Derived.RangeFuncNested
import Derived.RangeFuncBound
import Derived.RangeFuncCalls
import Derived.RangeFuncLeaves
import Derived.RangeFuncBox
import Derived.Shelf.Abstract
import Derived.Shelf.RegionOpen
import Derived.OwnWalkIn
import Derived.TacticsInMore
import Derived.LoopNIn
import Derived.LoopIn
import Derived.Maps.AppendAt
import Derived.Deep.QuietTactic
import Derived.BigQuiet
import Derived.WalkKit
import Derived.WalkSmall
import Derived.WalkSpells
import Derived.Test.YtmcfkoenpikldaaGreatDoorErrsAsCode
import Derived.Test.YtmcfkoenpikldaaGreatDoorErrV
import Derived.Test.YtmcfkoenpikldaaGreatDoorPart
import Derived.RegionIn
import Derived.Deep.Onto
/-
  strings.Cut at a slash, and the iterator that path.cut hands back: contracts: each piece between slashes is handed out in its order, till all are or a round says no more. Over this seat's translation.
-/
namespace Go.Proofs.YtmcfkoenpikldaaGreatDoor
open Go.RowKit Go.Shelf

theorem extract_list (l : List UInt8) (i j : Nat) : ({ data := l.toArray } : ByteArray).extract i j = ⟨((l.drop i).take (j - i)).toArray⟩ := by
  have h := Lib.extract_data ⟨l.toArray⟩ i j
  apply ByteArray.ext
  rw [← Array.toArray_toList (xs := (({ data := l.toArray } : ByteArray).extract i j).data), h]

theorem slCut_none (l : List UInt8) (w : World) (h : cutL l = none) : Calls Tryz.prog 252 #[.string ⟨l.toArray⟩, .string ⟨#[47]⟩] w fun e w' => e = .returned (.tuple #[.string ⟨l.toArray⟩, .string ⟨#[]⟩, .bool false]) ∧ w' = w := by
  have HI : Hid (Lib.indexByte l 47 = -1) := index_none h
  clear h
  go_enter Tryz.func252, Tryz.ntmps252
  go_wp2_with fail
  refine (Tryz.stringslite_Index_one _ 47 _).mono ?_
  rintro e w' ⟨rfl, rfl⟩
  rw [show Lib.indexByte ({ data := l.toArray } : ByteArray).data.toList 47 = -1 from by simpa using HI.out]
  go_wp2
  go_ret3
  exact ⟨rfl, rfl⟩

theorem slCut_some (l a b : List UInt8) (w : World) (hl : l.length ≤ 100000) (h : cutL l = some (a, b)) : Calls Tryz.prog 252 #[.string ⟨l.toArray⟩, .string ⟨#[47]⟩] w fun e w' => e = .returned (.tuple #[.string ⟨a.toArray⟩, .string ⟨b.toArray⟩, .bool true]) ∧ ∃ n, w' = w.drewN n := by
  have HI : Hid (Lib.indexByte l 47 = a.length) := index_some h
  have HL : Hid (l = a ++ 47 :: b) := cutL_some h
  have hlen : a.length + b.length + 1 = l.length := by rw [HL.out]; simp; omega
  clear h
  go_enter Tryz.func252, Tryz.ntmps252
  go_wp2_with fail
  refine (Tryz.stringslite_Index_one _ 47 _).mono ?_
  rintro e w' ⟨rfl, rfl⟩
  rw [show Lib.indexByte ({ data := l.toArray } : ByteArray).data.toList 47 = a.length from by simpa using HI.out]
  go_wp2_with fail
  go_quiet (fail)
  go_wp2
  go_ret3
  refine ⟨?_, nq, rfl⟩
  have e1 : ({ data := l.toArray } : ByteArray).extract 0 a.length = ⟨a.toArray⟩ := by
    rw [extract_list, HL.out]; simp
  have e2 : ({ data := l.toArray } : ByteArray).extract (a.length + 1) l.length = ⟨b.toArray⟩ := by
    rw [extract_list, HL.out]
    simp
    rw [List.take_of_length_le (by omega)]
  rw [← e1, ← e2]
  rfl

theorem cut_none (l : List UInt8) (w : World) (h : cutL l = none) : Calls Tryz.prog 217 #[.string ⟨l.toArray⟩, .string ⟨#[47]⟩] w fun e w' => e = .returned (.tuple #[.string ⟨l.toArray⟩, .string ⟨#[]⟩, .bool false]) ∧ w' = w := by
  have H : Hid (cutL l = none) := h
  clear h
  go_enter Tryz.func217, Tryz.ntmps217
  go_wp2_with fail
  refine (slCut_none _ _ H.out).mono ?_
  rintro e w' ⟨rfl, rfl⟩
  go_wp2
  go_ret3
  exact ⟨rfl, rfl⟩

theorem cut_some (l a b : List UInt8) (w : World) (hl : l.length ≤ 100000) (h : cutL l = some (a, b)) : Calls Tryz.prog 217 #[.string ⟨l.toArray⟩, .string ⟨#[47]⟩] w fun e w' => e = .returned (.tuple #[.string ⟨a.toArray⟩, .string ⟨b.toArray⟩, .bool true]) ∧ ∃ n, w' = w.drewN n := by
  have H : Hid (cutL l = some (a, b)) := h
  clear h
  go_enter Tryz.func217, Tryz.ntmps217
  go_wp2_with fail
  refine (slCut_some _ _ _ _ hl H.out).mono ?_
  rintro e w' ⟨rfl, nq, rfl⟩
  go_wp2
  go_ret3
  exact ⟨rfl, nq, rfl⟩

/-- path.cut: the text is boxed; the function value captures the box. -/
theorem cut_fn (l : List UInt8) (w : World) : Calls Tryz.prog 213 #[.string ⟨l.toArray⟩] w fun e w' => e = .returned (.func (.func 250) #[] #[.pointer (some ⟨w.heap.size, 0, none⟩)]) ∧ w' = w.alloc (.cells #[.string ⟨l.toArray⟩] 9) := by
  go_enter Tryz.func213, Tryz.ntmps213
  go_wp2
  go_ret
  exact ⟨rfl, rfl⟩

/-- A piece, no longer than a text may be here. -/
abbrev Pc := { x : List UInt8 // x.length ≤ 100000 }

def strLen : Value → Nat | .string s => s.size | _ => 0
theorem strLen_list (l : List UInt8) : strLen (.string ⟨l.toArray⟩) = l.length := by simp [strLen, ByteArray.size]
def roundsLeft (rest more : Value) : Nat := match more with | .bool true => strLen rest + 1 | _ => 0

theorem grownBy_drewN (w : World) (n : Nat) : w.grownBy (w.drewN n) none := ⟨rfl, rfl, rfl, Nat.le_refl _, fun _ _ _ => rfl⟩

attribute [local go_sem] Oper.semAt_some

set_option maxRecDepth 100000 in
set_option maxHeartbeats 1000000 in
/-- The iterator: every piece in its order, or a prefix of them, where a round says no more. -/
theorem cut1_in (n : Nat) (hn : 1 ≤ n) (l Bn : Nat) (s : List UInt8) (hs : s.length ≤ 100000) (J Jx : List Pc → World → Prop) (n₀ : Nat) (W : World) (hJ : AbidesFrom W.heap.size J)
    (hY : ∀ pre x W1, J pre W1 → pre.length < (pieces s).length → YieldAt Fence.wide (n - 1) Tryz.prog l #[.string ⟨x.1.toArray⟩] W1 fun e W' =>
      (e = .returned (.bool true) ∧ J (pre ++ [x]) W' ∧ Below n₀ W1 W') ∨ (e = .returned (.bool false) ∧ Jx (pre ++ [x]) W'))
    (hB : W.cell? ⟨Bn, 0, none⟩ = some (.string ⟨s.toArray⟩)) (h0 : J [] W) :
    CallsIn Fence.wide n Tryz.prog 250 #[.func (.yield l) #[] #[], .pointer (some ⟨Bn, 0, none⟩)] W fun e W' => (∃ v, e = .returned v) ∧
      ((∃ ys, ys.map (·.1) = pieces s ∧ J ys W') ∨ (∃ pre, pre.map (·.1) <+: pieces s ∧ Jx pre W')) := by
  refine callsIn_of_wp Tryz.func250 rfl trivial ?_ rfl
  simp only [Tryz.ntmps250, List.size_toArray, List.length_cons, List.length_nil, Nat.reduceAdd, Nat.reduceSub, Array.replicate_succ, Array.replicate_zero, List.push_toArray, List.append_toArray, List.nil_append, List.cons_append]
  have HJ : Hid (AbidesFrom W.heap.size J) := hJ
  have HY : Hid (∀ pre x W1, J pre W1 → pre.length < (pieces s).length → YieldAt Fence.wide (n - 1) Tryz.prog l #[.string ⟨x.1.toArray⟩] W1 fun e W' =>
      (e = .returned (.bool true) ∧ J (pre ++ [x]) W' ∧ Below n₀ W1 W') ∨ (e = .returned (.bool false) ∧ Jx (pre ++ [x]) W')) := hY
  clear hJ hY
  gi_wp2
  gi_loopw [3, 4] (fun rest more wr => ∃ pre : List Pc, J pre wr ∧ ((more = .bool false ∧ pre.map (·.1) = pieces s) ∨ (∃ t : List UInt8, more = .bool true ∧ rest = .string ⟨t.toArray⟩ ∧ t.length ≤ 100000 ∧ pieces s = pre.map (·.1) ++ pieces t)))
    (fun rest more _ => roundsLeft rest more)
  case atStart =>
    exact ⟨[], h0, .inr ⟨s, rfl, rfl, hs, by simp⟩⟩
  case round =>
    obtain ⟨pre, hJp, ⟨rfl, hp⟩ | ⟨t, rfl, rfl, ht, hp⟩⟩ := hrel
    · have HP : Hid (pre.map (·.1) = pieces s) := hp
      clear hp
      gi_wp2
      go_end0
      exact ⟨⟨_, rfl⟩, .inl ⟨pre, HP.out, hJp⟩⟩
    · have HP : Hid (pieces s = pre.map (·.1) ++ pieces t) := hp
      clear hp
      cases hc : cutL t with
      | none =>
        have HC : Hid (cutL t = none) := hc
        clear hc
        gi_wp2_with fail
        refine ⟨trivial, (callsIn_wide.2 (cut_none _ _ HC.out)).mono ?_⟩
        rintro e w' ⟨rfl, rfl⟩
        have hlen : pre.length < (pieces s).length := by
          rw [HP.out, pieces_none HC.out]; simp
        obtain ⟨fn, tmps, assign, body, hy, hR⟩ := HY.out pre ⟨t, ht⟩ w' hJp hlen
        gi_wp2
        refine hR.mono ?_
        rintro e W3 (⟨rfl, hJ3, hk3⟩ | ⟨rfl, hJx3⟩)
        · clear hy hR
          gi_wp2
          go_roundw
          case rel => exact ⟨pre ++ [⟨t, ht⟩], hJ3, .inl ⟨rfl, by rw [HP.out, pieces_none HC.out]; simp⟩⟩
          case measure => simp [roundsLeft]
        · clear hy hR
          gi_wp2
          refine bodyPost_ret (results_none rfl _ _ _) rfl ?_
          exact ⟨⟨_, rfl⟩, .inr ⟨pre ++ [⟨t, ht⟩], by rw [HP.out, pieces_none HC.out]; simp, hJx3⟩⟩
      | some ab =>
        obtain ⟨a, b⟩ := ab
        have HC : Hid (cutL t = some (a, b)) := hc
        have hab : a.length + b.length + 1 = t.length := by rw [cutL_some hc]; simp; omega
        have ha : a.length ≤ 100000 := by omega
        clear hc
        gi_wp2_with fail
        refine ⟨trivial, (callsIn_wide.2 (cut_some _ _ _ _ ht HC.out)).mono ?_⟩
        rintro e w' ⟨rfl, nq, rfl⟩
        have hlen : pre.length < (pieces s).length := by
          rw [HP.out, pieces_some HC.out]; simp
        have hJd : J pre (wr.drewN nq) := HJ.out pre wr _ none hJp (grownBy_drewN _ _) (fun _ h => by cases h)
        obtain ⟨fn, tmps, assign, body, hy, hR⟩ := HY.out pre ⟨a, ha⟩ (wr.drewN nq) hJd hlen
        gi_wp2
        refine hR.mono ?_
        rintro e W3 (⟨rfl, hJ3, hk3⟩ | ⟨rfl, hJx3⟩)
        · clear hy hR
          gi_wp2
          go_roundw
          case rel => exact ⟨pre ++ [⟨a, ha⟩], hJ3, .inr ⟨b, rfl, rfl, by omega, by rw [HP.out, pieces_some HC.out]; simp⟩⟩
          case measure => simp only [roundsLeft, strLen_list]; omega
        · clear hy hR
          gi_wp2
          refine bodyPost_ret (results_none rfl _ _ _) rfl ?_
          exact ⟨⟨_, rfl⟩, .inr ⟨pre ++ [⟨a, ha⟩], by rw [HP.out, pieces_some HC.out]; simp, hJx3⟩⟩

/-- The function value that path.cut hands back. -/
theorem cut_stops (n : Nat) (hn : 1 ≤ n) (Bn n₀ : Nat) (s : List UInt8) (hs : s.length ≤ 100000) (w : World) (hBn : Bn < w.heap.size) (hc : w.cell? ⟨Bn, 0, none⟩ = some (.string ⟨s.toArray⟩)) :
    SeqStopsK Fence.wide n Tryz.prog 250 #[.pointer (some ⟨Bn, 0, none⟩)] (fun x : Pc => #[Value.string ⟨x.1.toArray⟩]) (Below n₀) (fun ys => ys.map (·.1) = pieces s) (fun pre => pre.map (·.1) <+: pieces s) (pieces s).length w := fun l J Jx W hW hJ _ hY h0 =>
  cut1_in n hn l Bn s hs J Jx n₀ W hJ hY ((hW.cell (p := ⟨Bn, 0, none⟩) hBn).trans hc) h0
end Go.Proofs.YtmcfkoenpikldaaGreatDoor
/-
  path.Check tells of every text that is not too long what the plain function tells: a contract, over this seat's translation.
-/
namespace Go.Proofs.YtmcfkoenpikldaaGreatDoor
open Go.RowKit Go.Shelf

theorem cell_set {w : World} {a : Addr} {v u : Value} (h : w.cell? a = some u) : (w.setCell a v).cell? a = some v := World.cell?_setCell_same' _ _ _ (by rw [h]; rfl)
theorem cell_far {w : World} {a b : Addr} {v : Value} (h : b.block ≠ a.block) : (w.setCell a v).cell? b = w.cell? b := World.cell?_of_block (Below.heap_setCell _ _ _ _ h)

/-- What package path's Check wants of the listed variables: two errors. -/
structure PEnv (p : Nat → Addr) (w : World) : Prop where
  s4 : w.cell? ⟨4, 0, none⟩ = some (.iface 379 (.pointer (some (p 4))))
  s7 : w.cell? ⟨1, 0, none⟩ = some (.iface 379 (.pointer (some (p 7))))
theorem PEnv.below {p : Nat → Addr} {w w' : World} (E : PEnv p w) (hb : Below w.heap.size w w') : PEnv p w' where
  s4 := (hb.cell (p := ⟨4, 0, none⟩) (block_lt_of_cell E.s4)).trans E.s4
  s7 := (hb.cell (p := ⟨1, 0, none⟩) (block_lt_of_cell E.s7)).trans E.s7

attribute [local go_sem] Oper.semAt_some

set_option maxRecDepth 100000 in
set_option maxHeartbeats 2000000 in
theorem check_path (p : Nat → Addr) (s : List UInt8) (w : World) (hE : PEnv p w) (hs : s.length ≤ 90000) :
    Calls Tryz.prog 160 #[.string ⟨s.toArray⟩] w fun e w' => e = .returned (errV p (checkCode s)) ∧ Below w.heap.size w w' := by
  refine (callsIn_wide (n := 3)).1 ?_
  refine callsIn_of_wp_marks Tryz.func160 rfl trivial ?_ rfl
  simp only [Tryz.ntmps160, List.size_toArray, List.length_cons, List.length_nil, Nat.reduceAdd, Nat.reduceSub, Array.replicate_succ, Array.replicate_zero, List.push_toArray, List.append_toArray, List.nil_append, List.cons_append]
  have HE : Hid (PEnv p w) := hE
  clear hE
  gi_wp2_with (refine ⟨trivial, ?_⟩; gi_at_call 213; refine (callsIn_wide.2 (cut_fn s _)).mono ?_; rintro e w' ⟨rfl, rfl⟩)
  have b0 := Boxed.new w 45 .nilIface
  have b1 := Boxed.new (w.alloc (.cells #[.nilIface] 45)) 3 (.int .i64 0)
  have b2 := Boxed.new ((w.alloc (.cells #[.nilIface] 45)).alloc (.cells #[.int .i64 0] 3)) 9 (.string ⟨s.toArray⟩)
  simp only [World.size_alloc] at b1 b2
  have hB0 : Below w.heap.size w (((w.alloc (.cells #[.nilIface] 45)).alloc (.cells #[.int .i64 0] 3)).alloc (.cells #[.string ⟨s.toArray⟩] 9)) := (((Below.refl _ w).alloc (Nat.le_refl _) _).alloc (by simp) _).alloc (by simp; omega) _
  refine wpIn_rangeFunc_ownF rfl (by omega) (gf := 250) (lb := #[.pointer (some ⟨w.heap.size + 1 + 1, 0, none⟩)]) rfl trivial (enters_of Tryz.func250 (by kernel_rfl) rfl)
    (cut_stops _ (by omega) (w.heap.size + 1 + 1) w.heap.size s (by omega) _ (by simp) b2.cell) belowK_t (belowK_b (by simp; omega)) (Below.refl _ _) (fun _ => rfl)
    (fun pre W => ((pre.map (·.1)).all isPart = true ∧ W.cell? ⟨w.heap.size, 0, none⟩ = some .nilIface ∧ W.frozen? ⟨w.heap.size, 0, none⟩ = false ∧ W.cell? ⟨w.heap.size + 1, 0, none⟩ = some (.int .i64 pre.length) ∧ W.frozen? ⟨w.heap.size + 1, 0, none⟩ = false) ∧ Below w.heap.size w W)
    (fun c pre W => (c = .ret ∧ (pre.map (·.1)).all isPart = false ∧ W.cell? ⟨w.heap.size, 0, none⟩ = some (.iface 379 (.pointer (some (p 4))))) ∧ Below w.heap.size w W)
    (OwnFrom.and (Own.from (fun s A B row hs hg hr => ⟨hs.1, cell_kept hs.2.1 hg hr, (frozen_kept hs.2.1 hg hr).trans hs.2.2.1, cell_kept hs.2.2.2.1 hg hr, (frozen_kept hs.2.2.2.1 hg hr).trans hs.2.2.2.2⟩) _) (ownFrom_below (Nat.le_refl _) (by simp; omega)))
    (fun c => OwnFrom.and (Own.from (fun s A B row hs hg hr => ⟨hs.1, hs.2.1, cell_kept hs.2.2 hg hr⟩) _) (ownFrom_below (Nat.le_refl _) (by simp; omega)))
    ⟨⟨by simp, ((b0.alloc _).alloc _).cell, ((b0.alloc _).alloc _).frozen, (b1.alloc _).cell, (b1.alloc _).frozen⟩, hB0⟩
    (fun x => { tmps := #[.string ⟨s.toArray⟩, undef, .pointer (some ⟨w.heap.size, 0, none⟩), .pointer (some ⟨w.heap.size + 1, 0, none⟩), .string ⟨x.1.toArray⟩, .string ⟨s.toArray⟩, .func (.func 250) #[] #[.pointer (some ⟨w.heap.size + 1 + 1, 0, none⟩)], .string ⟨x.1.toArray⟩, undef, undef, undef, undef, undef, undef, undef, undef, undef], defers := [] }) ?assign ?body ?done ?stop
  case assign =>
    intro l x W K hK
    gi_wp2
    exact hK
  case body =>
    rintro l pre x W ⟨⟨hp, hc0, hf0, hc1, hf1⟩, hB⟩ hlt
    have hpl := pieces_length s
    have hg := (HE.out.below hB).s4
    have HP : Hid ((pre.map (·.1)).all isPart = true) := hp
    have HB : Hid (Below w.heap.size w W) := hB
    clear hp hB
    by_cases hx : isPart x.1 = true
    · gi_wp2_with (refine ⟨trivial, ?_⟩; gi_at_call 122; refine (CallsIn.inRound l (callsIn_wide.2 (isPart_any x.1 _ x.2))).mono ?_; rintro e w' ⟨rfl, rfl⟩)
      refine ⟨KeepsOthers.setCell _ _ _, (Below.refl w.heap.size _).setCell (p := ⟨w.heap.size + 1, 0, none⟩) (by simp) _, ⟨?_, ?_, ?_, ?_, ?_⟩, HB.out.setCell (p := ⟨w.heap.size + 1, 0, none⟩) (by simp) _⟩
      · rw [List.map_append, List.all_append, HP.out]; simp [hx]
      · rw [cell_far (by simp)]; exact hc0
      · rw [World.frozen?_setCell]; exact hf0
      · rw [cell_set hc1]; simp
      · rw [World.frozen?_setCell]; exact hf1
    · have hx' : isPart x.1 = false := by simpa using hx
      clear hx
      gi_wp2_with (refine ⟨trivial, ?_⟩; gi_at_call 122; refine (CallsIn.inRound l (callsIn_wide.2 (isPart_any x.1 _ x.2))).mono ?_; rintro e w' ⟨rfl, rfl⟩)
      refine ⟨KeepsOthers.setCell _ _ _, ⟨rfl, ?_, ?_⟩, HB.out.setCell (p := ⟨w.heap.size, 0, none⟩) (by simp) _⟩
      · rw [List.map_append, List.all_append]; simp [hx']
      · rw [cell_set hc0]
  case done =>
    rintro D ys W hD hys ⟨⟨hp, hc0, hf0, hc1, hf1⟩, hB⟩ hK
    have hg := (HE.out.below hB).s7
    have HB : Hid (Below w.heap.size w W) := hB
    have HC : Hid (checkCode s = if 6 < ys.length then 8 else 0) := by
      show checkCode s = _
      unfold checkCode
      rw [← hys, hp]; simp
    clear hp hB hys
    by_cases hl : 6 < ys.length
    · have hl' : (6 : Int) < ys.length := by omega
      gi_wp2
      have hK' := (KeepsOthers.setCell W ⟨w.heap.size, 0, none⟩ (.iface 379 (.pointer (some (p 7))))).same D _ hK rfl
      refine ⟨by simp, .inl ⟨_, _, rfl, run_takeDeferred hK', ?_⟩⟩
      have hc5 := cell_kept (cell_set (v := .iface 379 (.pointer (some (p 7)))) hc0) (grownBy_putObj' _ D (.deferred none)) (fun r e => by cases e; exact ⟨_, hK', rfl⟩)
      refine ⟨.iface 379 (.pointer (some (p 7))), ?_, by rw [HC.out, if_pos hl]; rfl, (HB.out.setCell (p := ⟨w.heap.size, 0, none⟩) (by simp) _).trans (belowK_b (w := w) (Nat.le_refl _) _ D _ _ (by simp at hD; omega) hK' rfl rfl)⟩
      simp [results, Tryz.f160, go_sem, hc5]
    · have hl' : ¬ (6 : Int) < ys.length := by omega
      gi_wp2
      have hK' := (KeepsOthers.setCell W ⟨w.heap.size, 0, none⟩ .nilIface).same D _ hK rfl
      refine ⟨by simp, .inl ⟨_, _, rfl, run_takeDeferred hK', ?_⟩⟩
      have hc5 := cell_kept (cell_set (v := .nilIface) hc0) (grownBy_putObj' _ D (.deferred none)) (fun r e => by cases e; exact ⟨_, hK', rfl⟩)
      refine ⟨.nilIface, ?_, by rw [HC.out, if_neg hl]; rfl, (HB.out.setCell (p := ⟨w.heap.size, 0, none⟩) (by simp) _).trans (belowK_b (w := w) (Nat.le_refl _) _ D _ _ (by simp at hD; omega) hK' rfl rfl)⟩
      simp [results, Tryz.f160, go_sem, hc5]
  case stop =>
    rintro D c pre W hD hpre ⟨⟨rfl, hin, hcr⟩, hB⟩ hK
    have HC : Hid (checkCode s = 5) := by
      show checkCode s = 5
      unfold checkCode
      obtain ⟨r, hr⟩ := hpre
      rw [← hr, List.all_append, hin]; simp
    clear hin hpre
    gi_wp2
    refine ⟨by simp, .inl ⟨_, _, rfl, run_takeDeferred hK, ?_⟩⟩
    have hc5 := cell_kept hcr (grownBy_putObj' _ D (.deferred none)) (fun r e => by cases e; exact ⟨_, hK, rfl⟩)
    refine ⟨.iface 379 (.pointer (some (p 4))), ?_, by rw [HC.out]; rfl, hB.trans (belowK_b (w := w) (Nat.le_refl _) W D _ _ (by simp at hD; omega) hK rfl rfl)⟩
    simp [results, Tryz.f160, go_sem, hc5]

theorem check_any (p : Nat → Addr) (s : List UInt8) (w : World) (hE : Env p w) (hs : s.length ≤ 90000) :
    Calls Tryz.prog 160 #[.string ⟨s.toArray⟩] w fun e w' => e = .returned (errV p (checkCode s)) ∧ Below w.heap.size w w' := check_path p s w ⟨hE.s4, hE.s7⟩ hs
end Go.Proofs.YtmcfkoenpikldaaGreatDoor
/-
  path.Clean tells of every text that is not too long what the plain function tells: a contract, over this seat's translation.
-/
namespace Go.Proofs.YtmcfkoenpikldaaGreatDoor
open Go.RowKit Go.Shelf

theorem hasPrefix_slash (l : List UInt8) : Lib.hasPrefix l [47] = (l.head? == some 47) := by
  cases l with
  | nil => rfl
  | cons c r =>
    have : ((47 : UInt8) == c) = (c == 47) := by rw [Bool.eq_iff_iff]; simp; exact eq_comm
    simp [Lib.hasPrefix, List.isPrefixOf, this]

theorem hasPrefix_is (l q : List UInt8) (r : Bool) (w : World) (h : Lib.hasPrefix l q = r) : Calls Tryz.prog 227 #[.string ⟨l.toArray⟩, .string ⟨q.toArray⟩] w fun e w' => e = .returned (.bool r) ∧ w' = w := by
  have := Tryz.strings_HasPrefix ⟨l.toArray⟩ ⟨q.toArray⟩ w
  simp only at this
  rwa [h] at this

theorem isPart_is (l : List UInt8) (r : Bool) (w : World) (hl : l.length ≤ 100000) (h : isPart l = r) : Calls Tryz.prog 122 #[.string ⟨l.toArray⟩] w fun e w' => e = .returned (.bool r) ∧ w = w' := by
  have := isPart_any l w hl
  rw [h] at this
  exact this.mono fun _ _ ⟨a, b⟩ => ⟨a, b.symm⟩

theorem Tryz.info9 : (Tryz.prog.info? 9).map (fun i => (i.zero, i.size, i.bytes)) = some (some (.string ⟨#[]⟩), 1, 16) := by kernel_rfl

attribute [local go_sem] Oper.semAt_some

abbrev sv (l : List UInt8) : Value := .string ⟨l.toArray⟩

set_option maxRecDepth 100000 in
set_option maxHeartbeats 2000000 in
theorem clean_root (p : Nat → Addr) (s : List UInt8) (w : World) (hE : Env p w) (h : s.head? = some 47) :
    Calls Tryz.prog 214 #[.string ⟨s.toArray⟩] w fun e w' => e = .returned (.tuple #[.string ⟨#[]⟩, errV p 3]) ∧ Below w.heap.size w w' := by
  have hp : Lib.hasPrefix s [47] = true := by rw [hasPrefix_slash, h]; rfl
  have HP : Hid (Lib.hasPrefix s [47] = true) := hp
  have hg := (hE.below (((Below.refl _ w).alloc (Nat.le_refl _) (.cells #[.string ⟨#[]⟩] 9)).alloc (by simp) (.cells #[.nilIface] 45))).s2
  clear hp h hE
  go_enter Tryz.func214, Tryz.ntmps214
  go_wp2_with fail
  refine (hasPrefix_is s [47] true _ HP.out).mono ?_
  rintro e w' ⟨rfl, rfl⟩
  go_wp2_with fail
  go_region
  go_wp2
  exact bodyPost_ret (v := .tuple #[.string ⟨#[]⟩, .iface 379 (.pointer (some (p 2)))]) (by simp [results, Tryz.f214, go_sem]) rfl ⟨rfl, (((Below.refl _ w).alloc (Nat.le_refl _) _).alloc (by simp) _).drew⟩

/-- The pieces kept and the error's number behind some pieces. -/
def keptOf (pre : List Pc) : List (List UInt8) := (cleanF (pre.map (·.1))).1
def codeAt (pre : List Pc) : Nat := (cleanF (pre.map (·.1))).2

theorem keptOf_snoc (pre : List Pc) (x : Pc) : (keptOf (pre ++ [x]), codeAt (pre ++ [x])) = cleanStep (keptOf pre, codeAt pre) x.1 := by
  simp [keptOf, codeAt, cleanF_snoc]
theorem snoc_of {pre : List Pc} {x : Pc} {k : List (List UInt8)} {c : Nat} (h : cleanStep (keptOf pre, codeAt pre) x.1 = (k, c)) : keptOf (pre ++ [x]) = k ∧ codeAt (pre ++ [x]) = c := by
  have := (keptOf_snoc pre x).trans h
  simpa using this

theorem stored_both {W w : World} {b : Nat} {x y u0 u1 : Value} (hc0 : W.cell? ⟨b, 0, none⟩ = some u0) (hc1 : W.cell? ⟨b + 1, 0, none⟩ = some u1) (hB : Below b w W) :
    (((W.setCell ⟨b, 0, none⟩ x).setCell ⟨b + 1, 0, none⟩ y).cell? ⟨b, 0, none⟩ = some x) ∧ (((W.setCell ⟨b, 0, none⟩ x).setCell ⟨b + 1, 0, none⟩ y).cell? ⟨b + 1, 0, none⟩ = some y) ∧
      Below b w ((W.setCell ⟨b, 0, none⟩ x).setCell ⟨b + 1, 0, none⟩ y) ∧ KeepsOthers W ((W.setCell ⟨b, 0, none⟩ x).setCell ⟨b + 1, 0, none⟩ y) := by
  refine ⟨?_, ?_, (hB.setCell (p := ⟨b, 0, none⟩) (Nat.le_refl _) _).setCell (p := ⟨b + 1, 0, none⟩) (by simp) _, (KeepsOthers.setCell _ _ _).trans (KeepsOthers.setCell _ _ _)⟩
  · rw [cell_far (by simp), cell_set hc0]
  · exact cell_set (u := u1) (by rw [cell_far (by simp)]; exact hc1)

theorem stored_two {W w : World} {b : Nat} {x y u0 u1 : Value} (hc0 : W.cell? ⟨b, 0, none⟩ = some u0) (hc1 : W.cell? ⟨b + 1, 0, none⟩ = some u1) (hB : Below b w W) :
    (((W.setCell ⟨b, 0, none⟩ x).setCell ⟨b + 1, 0, none⟩ y).drew.cell? ⟨b, 0, none⟩ = some x) ∧ (((W.setCell ⟨b, 0, none⟩ x).setCell ⟨b + 1, 0, none⟩ y).drew.cell? ⟨b + 1, 0, none⟩ = some y) ∧
      Below b w ((W.setCell ⟨b, 0, none⟩ x).setCell ⟨b + 1, 0, none⟩ y).drew ∧ KeepsOthers W ((W.setCell ⟨b, 0, none⟩ x).setCell ⟨b + 1, 0, none⟩ y).drew := by
  obtain ⟨q0, q1, q2, q3⟩ := stored_both (x := x) (y := y) hc0 hc1 hB
  exact ⟨q0, q1, q2.drew, q3.trans (KeepsOthers.drew _)⟩

theorem append_keeps {W w1 : World} {n₁ B j k : Nat} {e : TypeId} {size : Nat} {v : Value} {xs : List Value} {tmp : Obj} (hrow : W.ownsRow n₁ e size v k xs) (hgrow : (W.alloc tmp).grownBy w1 v.ownBlock)
    (hj : j < n₁) (hjW : j < W.heap.size) (hne : j ≠ B) (u : Value) : (w1.setCell ⟨B, 0, none⟩ u).heap[j]? = W.heap[j]? := by
  rw [Below.heap_setCell _ _ _ _ (by simpa using hne), hgrow.block j (by simp; omega) (fun h => by have := hrow.lt j h.symm; omega)]
  exact Below.heap_alloc _ _ _ hjW

/-- strings.Join of a slice that owns some pieces. -/
theorem join_any (base g cap : Nat) (k : List (List UInt8)) (w : World) (hrow : w.ownsRow base 9 1 (.slice (some ⟨g, 0, none⟩) k.length cap) k.length (k.map sv)) (hk : k.length ≤ 100000) (hM : ∀ x ∈ k, x.length ≤ 100000) :
    Calls Tryz.prog 139 #[.slice (some ⟨g, 0, none⟩) k.length cap, .string ⟨#[47]⟩] w fun e w' => e = .returned (.string ⟨(Lib.join k [47]).toArray⟩) ∧ Below w.heap.size w w' := by
  have hl := join_length hM
  have hmap : (k.map fun l => (⟨l.toArray⟩ : ByteArray)).map (·.data.toList) = k := by
    rw [List.map_map]
    have : ((fun x : ByteArray => x.data.toList) ∘ fun l : List UInt8 => (⟨l.toArray⟩ : ByteArray)) = id := by funext l; simp
    rw [this, List.map_id]
  have hcap : k.length ≤ cap := by
    rcases hrow.2 with ⟨h, _⟩ | ⟨g', cap', cur, hv', _, _, h1, _, _⟩
    · cases h
    · cases hv'; exact h1
  have hb : g < w.heap.size := (hrow.lt g rfl).2
  have := Tryz.strings_Join g 0 cap (k.map fun l => ⟨l.toArray⟩) ⟨#[47]⟩ w (fun j x hx => by
      have hj : j < k.length := by
        have := (List.getElem?_eq_some_iff.1 hx).1
        simpa using this
      rw [Nat.zero_add, hrow.cellAt j (by omega)]
      rw [List.getElem?_map] at hx ⊢
      rw [List.getElem?_eq_getElem hj] at hx ⊢
      simp at hx ⊢
      exact hx) hb (by simp; omega) (by simpa using hcap) (by
      rw [hmap]
      have e : (⟨#[47]⟩ : ByteArray).data.toList = [47] := rfl
      rw [e]
      omega)
  rw [hmap, List.length_map] at this
  exact this

theorem ownsRow_slice {W : World} {base : Nat} {e : TypeId} {size : Nat} {v : Value} {n : Nat} {xs : List Value} (h : W.ownsRow base e size v n xs) : ∃ a cap, v = .slice a n cap := by
  rcases h.2 with ⟨rfl, rfl⟩ | ⟨g, cap, cur, rfl, _⟩
  · exact ⟨_, _, rfl⟩
  · exact ⟨_, _, rfl⟩

theorem join_all (base cap : Nat) (a : Option Addr) (k : List (List UInt8)) (w : World) (hrow : w.ownsRow base 9 1 (.slice a k.length cap) k.length (k.map sv)) (hk : k.length ≤ 100000) (hM : ∀ x ∈ k, x.length ≤ 100000) :
    Calls Tryz.prog 139 #[.slice a k.length cap, .string ⟨#[47]⟩] w fun e w' => e = .returned (.string ⟨(Lib.join k [47]).toArray⟩) ∧ Below w.heap.size w w' := by
  cases k with
  | nil => exact (Tryz.strings_Join_none a cap ⟨#[47]⟩ w).mono fun _ _ ⟨h, h'⟩ => ⟨h, by rw [h']; exact Below.refl _ _⟩
  | cons x k =>
    obtain ⟨g, cap', hv⟩ := ownsRow_succ (k := k.length) hrow
    simp only [Value.slice.injEq] at hv
    obtain ⟨rfl, _, rfl⟩ := hv
    exact join_any base g cap (x :: k) w hrow hk hM

set_option maxRecDepth 100000 in
set_option maxHeartbeats 4000000 in
theorem clean_below (p : Nat → Addr) (s : List UInt8) (w : World) (hE : Env p w) (hs : s.length ≤ 90000) (h : s.head? ≠ some 47) :
    Calls Tryz.prog 214 #[.string ⟨s.toArray⟩] w fun e w' => e = .returned (.tuple #[.string ⟨(cleanL s).1.toArray⟩, errV p (cleanL s).2]) ∧ Below w.heap.size w w' := by
  have hp : Lib.hasPrefix s [47] = false := by rw [hasPrefix_slash]; simpa using h
  have HP : Hid (Lib.hasPrefix s [47] = false) := hp
  have HH : Hid (s.head? ≠ some 47) := h
  have HE : Hid (Env p w) := hE
  clear hp h hE
  obtain ⟨i0, hi, hz0, hz1, hz2⟩ := info_parts Tryz.info9
  refine (callsIn_wide (n := 3)).1 ?_
  refine callsIn_of_wp_marks Tryz.func214 rfl trivial ?_ rfl
  simp only [Tryz.ntmps214, List.size_toArray, List.length_cons, List.length_nil, Nat.reduceAdd, Nat.reduceSub, Array.replicate_succ, Array.replicate_zero, List.push_toArray, List.append_toArray, List.nil_append, List.cons_append]
  gi_wp2_with (refine ⟨trivial, ?_⟩; first | (gi_at_call 227; refine (callsIn_wide.2 (hasPrefix_is s [47] false _ HP.out)).mono ?_; rintro e w' ⟨rfl, rfl⟩) | (gi_at_call 213; refine (callsIn_wide.2 (cut_fn s _)).mono ?_; rintro e w' ⟨rfl, rfl⟩))
  have b0 := Boxed.new w 9 (.string ⟨#[]⟩)
  have b1 := Boxed.new (w.alloc (.cells #[.string ⟨#[]⟩] 9)) 45 .nilIface
  have b2 := Boxed.new ((w.alloc (.cells #[.string ⟨#[]⟩] 9)).alloc (.cells #[.nilIface] 45)) 35 (.slice none 0 0)
  have b3 := Boxed.new (((w.alloc (.cells #[.string ⟨#[]⟩] 9)).alloc (.cells #[.nilIface] 45)).alloc (.cells #[.slice none 0 0] 35)) 9 (.string ⟨s.toArray⟩)
  simp only [World.size_alloc] at b1 b2 b3
  have hB0 : Below w.heap.size w ((((w.alloc (.cells #[.string ⟨#[]⟩] 9)).alloc (.cells #[.nilIface] 45)).alloc (.cells #[.slice none 0 0] 35)).alloc (.cells #[.string ⟨s.toArray⟩] 9)) := ((((Below.refl _ w).alloc (Nat.le_refl _) _).alloc (by simp) _).alloc (by simp; omega) _).alloc (by simp; omega) _
  have hpl := pieces_length s
  refine wpIn_rangeFunc_ownG rfl (by omega) (gf := 250) (lb := #[.pointer (some ⟨w.heap.size + 1 + 1 + 1, 0, none⟩)]) rfl trivial (enters_of Tryz.func250 (by kernel_rfl) rfl)
    (cut_stops _ (by omega) (w.heap.size + 1 + 1 + 1) w.heap.size s (by omega) _ (by simp) b3.cell) belowK_t (belowK_b (by simp; omega)) (Below.refl _ _) (fun _ => rfl)
    (fun pre W => (∃ v, Boxed W (w.heap.size + 1 + 1) 35 v ∧ W.ownsRow (w.heap.size + 1 + 1 + 1) 9 1 v (keptOf pre).length ((keptOf pre).map sv) ∧ codeAt pre = 0) ∧
      ((W.cell? ⟨w.heap.size, 0, none⟩ = some (.string ⟨#[]⟩) ∧ W.frozen? ⟨w.heap.size, 0, none⟩ = false ∧ W.cell? ⟨w.heap.size + 1, 0, none⟩ = some .nilIface ∧ W.frozen? ⟨w.heap.size + 1, 0, none⟩ = false) ∧ Below w.heap.size w W))
    (fun c pre W => (c = .ret ∧ codeAt pre ≠ 0 ∧ W.cell? ⟨w.heap.size, 0, none⟩ = some (.string ⟨#[]⟩) ∧ W.cell? ⟨w.heap.size + 1, 0, none⟩ = some (errV p (codeAt pre))) ∧ Below w.heap.size w W)
    (OwnFrom.and (Own.from (holdsRow_own (w.heap.size + 1 + 1 + 1) (w.heap.size + 1 + 1) 35 9 1 (fun pre => (keptOf pre).length) (fun pre => (keptOf pre).map sv) (fun pre v => codeAt pre = 0)) _)
      (OwnFrom.and (Own.from (fun s A B row hs hg hr => ⟨cell_kept hs.1 hg hr, (frozen_kept hs.1 hg hr).trans hs.2.1, cell_kept hs.2.2.1 hg hr, (frozen_kept hs.2.2.1 hg hr).trans hs.2.2.2⟩) _) (ownFrom_below (Nat.le_refl _) (by simp; omega))))
    (fun c => OwnFrom.and (Own.from (fun s A B row hs hg hr => ⟨hs.1, hs.2.1, cell_kept hs.2.2.1 hg hr, cell_kept hs.2.2.2 hg hr⟩) _) (ownFrom_below (Nat.le_refl _) (by simp; omega)))
    ⟨⟨_, b2.alloc _, World.ownsRow_nil _ _ _ _, rfl⟩, ⟨(((b0.alloc _).alloc _).alloc _).cell, (((b0.alloc _).alloc _).alloc _).frozen, ((b1.alloc _).alloc _).cell, ((b1.alloc _).alloc _).frozen⟩, hB0⟩
    (fun x => { tmps := #[.string ⟨s.toArray⟩, undef, .pointer (some ⟨w.heap.size, 0, none⟩), .pointer (some ⟨w.heap.size + 1, 0, none⟩), .pointer (some ⟨w.heap.size + 1 + 1, 0, none⟩), .string ⟨x.1.toArray⟩, .string ⟨s.toArray⟩, .bool false, undef, .string ⟨s.toArray⟩, .func (.func 250) #[] #[.pointer (some ⟨w.heap.size + 1 + 1 + 1, 0, none⟩)], .string ⟨x.1.toArray⟩, undef, undef, undef, undef, undef, undef, undef, undef, undef, undef, undef, undef, undef, undef, undef, undef, undef, undef, undef, undef, undef, undef, undef, undef, undef, undef, undef, undef, undef, undef, undef, undef, undef, undef], defers := [] }) ?assign ?body ?done ?stop
  case assign =>
    intro l x W K hK
    gi_wp2
    exact hK
  case body =>
    rintro l pre ⟨x, hx⟩ W ⟨⟨v, hv, hrow, hcode⟩, ⟨hc0, hf0, hc1, hf1⟩, hB⟩ hlt
    have hkl := cleanF_length (pre.map (·.1))
    have hkp : (keptOf pre).length ≤ pre.length := by simpa [keptOf] using hkl
    have hlt' : pre.length < 90001 := by omega
    have HE2 : Hid (Env p W) := HE.out.below hB
    have HB : Hid (Below w.heap.size w W) := hB
    have HCO : Hid (codeAt pre = 0) := hcode
    clear hB hkl hcode hlt hpl hB0 b0 b1 b2 b3
    have hc2 := hv.cell
    have hf2 := hv.frozen
    by_cases h0 : x = []
    · subst h0
      obtain ⟨e1, e2⟩ := snoc_of (x := ⟨[], hx⟩) (cleanStep_dot (st := (keptOf pre, codeAt pre)) HCO.out (.inl rfl))
      have HK : Hid (keptOf (pre ++ [⟨[], hx⟩]) = keptOf pre ∧ codeAt (pre ++ [⟨[], hx⟩]) = codeAt pre) := ⟨e1, e2⟩
      clear e1 e2
      gi_wp2
      exact ⟨KeepsFrom.refl _ _, Below.refl _ _, ⟨v, hv, by rw [HK.out.1]; exact hrow, by rw [HK.out.2]; exact HCO.out⟩, ⟨hc0, hf0, hc1, hf1⟩, HB.out⟩
    by_cases h1 : x = [46]
    · subst h1
      obtain ⟨e1, e2⟩ := snoc_of (x := ⟨[46], hx⟩) (cleanStep_dot (st := (keptOf pre, codeAt pre)) HCO.out (.inr rfl))
      have HK : Hid (keptOf (pre ++ [⟨[46], hx⟩]) = keptOf pre ∧ codeAt (pre ++ [⟨[46], hx⟩]) = codeAt pre) := ⟨e1, e2⟩
      clear e1 e2 h0
      gi_wp2
      exact ⟨KeepsFrom.refl _ _, Below.refl _ _, ⟨v, hv, by rw [HK.out.1]; exact hrow, by rw [HK.out.2]; exact HCO.out⟩, ⟨hc0, hf0, hc1, hf1⟩, HB.out⟩
    by_cases h2 : x = [46, 46]
    · subst h2
      clear h0 h1
      by_cases hk : keptOf pre = []
      · obtain ⟨e1, e2⟩ := snoc_of (x := ⟨[46, 46], hx⟩) (cleanStep_out (st := (keptOf pre, codeAt pre)) HCO.out hk)
        have HK : Hid (codeAt (pre ++ [⟨[46, 46], hx⟩]) = 10) := e2
        have hg := HE2.out.s9
        have hgs : ∀ u : Value, (W.setCell ⟨w.heap.size, 0, none⟩ u).cell? ⟨10, 0, none⟩ = some (.iface 379 (.pointer (some (p 9)))) := fun u => (cell_far (by have h : 10 < w.heap.size := block_lt_of_cell HE.out.s9; simp; omega)).trans hg
        rw [hk] at hrow
        obtain ⟨a, cap, rfl⟩ := ownsRow_slice hrow
        clear e1 e2 hk
        gi_wp2
        have hmx : Tryz.prog.follows .mixedOrders = true := by kernel_rfl
        gi_region_o
        all_goals gi_wp2
        all_goals
          obtain ⟨q0, q1, q2, q3⟩ := stored_two (w := w) (x := .string ⟨#[]⟩) (y := .iface 379 (.pointer (some (p 9)))) hc0 hc1 HB.out
          exact ⟨q3.from _, ⟨rfl, by rw [HK.out]; decide, q0, by rw [HK.out]; exact q1⟩, q2⟩
      · obtain ⟨ks, y, hky⟩ : ∃ ks y, keptOf pre = ks ++ [y] := ⟨_, _, (List.dropLast_concat_getLast hk).symm⟩
        obtain ⟨e1, e2⟩ := snoc_of (x := ⟨[46, 46], hx⟩) (cleanStep_up (st := (keptOf pre, codeAt pre)) HCO.out hk)
        simp only [hky, List.dropLast_concat] at e1
        have HK : Hid (keptOf (pre ++ [⟨[46, 46], hx⟩]) = ks ∧ codeAt (pre ++ [⟨[46, 46], hx⟩]) = 0) := ⟨e1, e2⟩
        rw [hky] at hrow hkp
        simp only [List.length_append, List.length_cons, List.length_nil, Nat.zero_add] at hrow hkp
        obtain ⟨g, cap, rfl⟩ := ownsRow_succ hrow
        have hcap : ks.length + 1 ≤ cap ∧ cap ≤ maxLen := by
          rcases hrow.2 with ⟨h, _⟩ | ⟨g', cap', cur, hv', _, _, h1, h2, _⟩
          · cases h
          · cases hv'; exact ⟨h1, h2⟩
        rw [List.map_append] at hrow
        have hpop := ownsRow_pop (by simp) hrow
        have HR : Hid ((W.setCell ⟨w.heap.size + 1 + 1, 0, none⟩ (.slice (some ⟨g, 0, none⟩) ks.length cap)).ownsRow (w.heap.size + 1 + 1 + 1) 9 1 (.slice (some ⟨g, 0, none⟩) ks.length cap) ks.length (ks.map sv)) :=
          hpop.kept (grownBy_setCell' W (w.heap.size + 1 + 1) _) (.inr (hv.not_row (by decide) hpop).symm)
        have HV : Hid (Boxed W (w.heap.size + 1 + 1) 35 (.slice (some ⟨g, 0, none⟩) (ks.length + 1) cap)) := hv
        obtain ⟨hcap1, hcap2⟩ := hcap
        unfold maxLen at hcap2
        clear e1 e2 hk hky hrow hpop hv
        gi_wp2
        refine ⟨(KeepsOthers.setCell _ _ _).from _, (Below.refl w.heap.size W).setCell (p := ⟨w.heap.size + 1 + 1, 0, none⟩) (by simp; omega) _, ⟨_, HV.out.set _, by rw [HK.out.1]; exact HR.out, HK.out.2⟩, ⟨?_, ?_, ?_, ?_⟩, HB.out.setCell (p := ⟨w.heap.size + 1 + 1, 0, none⟩) (by simp; omega) _⟩
        · rw [cell_far (by simp; omega)]; exact hc0
        · rw [World.frozen?_setCell]; exact hf0
        · rw [cell_far (by simp)]; exact hc1
        · rw [World.frozen?_setCell]; exact hf1
    have hb0 : x.isEmpty = false := by simpa using h0
    have hb1 : (x == [46]) = false := by simpa using h1
    have hb2 : (x == [46, 46]) = false := by simpa using h2
    by_cases hp : isPart x = true
    · obtain ⟨e1, e2⟩ := snoc_of (x := ⟨x, hx⟩) (cleanStep_part (st := (keptOf pre, codeAt pre)) HCO.out h0 h1 h2 hp)
      have HK : Hid (keptOf (pre ++ [⟨x, hx⟩]) = keptOf pre ++ [x] ∧ codeAt (pre ++ [⟨x, hx⟩]) = 0) := ⟨e1, e2⟩
      have HPI : Hid (isPart x = true) := hp
      have hBs := HB.out.size
      have hvl := hv.lt
      clear e1 e2 h0 h1 h2 hp
      gi_wp2_with (first | (refine ⟨trivial, ?_⟩; gi_at_call 122; refine (CallsIn.inRound l (callsIn_wide.2 (isPart_is x true _ hx HPI.out))).mono ?_; rintro e w' ⟨rfl, hw'⟩; subst hw') | (gi_at_builtin; refine wpListIn_append_own _ rfl _ _ 35 rfl (w.heap.size + 1 + 1 + 1) 9 i0 (.string ⟨#[]⟩) 1 16 Tryz.underlying35 hi hz0 hz1 hz2 rfl (by decide) _ _ _ rfl (hrow.alloc _) ⟨W.heap.size, 0, none⟩ 1 1 [.string ⟨x.toArray⟩] rfl rfl (cell_one_new _ _ _) (by simp [Value.oneCell']) (by unfold maxLen; omega) (by omega) (by simp; omega) ?_; intro v' w1 hown' hgrow _; obtain ⟨g', cap', rfl⟩ := ownsRow_succ hown'; obtain ⟨hv1, hv2, hr2, hk2, hb2'⟩ := hv.appended (n₀ := w.heap.size) (by decide) (hrow.mono (by omega)) hBs (by omega) (hown'.mono (by omega)) hgrow; have hc3 := hv1.cell; have hf3 := hv1.frozen))
      have hk0 := append_keeps (j := w.heap.size) (B := w.heap.size + 1 + 1) hrow hgrow (by omega) (by omega) (by omega) (.slice (some ⟨g', 0, none⟩) ((keptOf pre).length + 1) cap')
      have hk1 := append_keeps (j := w.heap.size + 1) (B := w.heap.size + 1 + 1) hrow hgrow (by omega) (by omega) (by omega) (.slice (some ⟨g', 0, none⟩) ((keptOf pre).length + 1) cap')
      have hr3 := hown'.kept (grownBy_setCell' w1 (w.heap.size + 1 + 1) (.slice (some ⟨g', 0, none⟩) ((keptOf pre).length + 1) cap')) (.inr (hv1.not_row (by decide) hown').symm)
      refine ⟨hk2.from _, hb2', ⟨_, hv2, by rw [HK.out.1]; simpa using hr3, HK.out.2⟩, ⟨?_, ?_, ?_, ?_⟩, HB.out.trans hb2'⟩
      · exact (World.cell?_of_block hk0).trans hc0
      · exact (World.frozen?_of_block hk0).trans hf0
      · exact (World.cell?_of_block hk1).trans hc1
      · exact (World.frozen?_of_block hk1).trans hf1
    · have hp' : isPart x = false := by simpa using hp
      obtain ⟨e1, e2⟩ := snoc_of (x := ⟨x, hx⟩) (cleanStep_none (st := (keptOf pre, codeAt pre)) HCO.out h0 h1 h2 hp')
      have HK : Hid (codeAt (pre ++ [⟨x, hx⟩]) = 5) := e2
      have HPI : Hid (isPart x = false) := hp'
      have hg := HE2.out.s4
      have hgs : ∀ u : Value, (W.setCell ⟨w.heap.size, 0, none⟩ u).cell? ⟨4, 0, none⟩ = some (.iface 379 (.pointer (some (p 4)))) := fun u => (cell_far (by have h : 4 < w.heap.size := block_lt_of_cell HE.out.s4; simp; omega)).trans hg
      clear e1 e2 h0 h1 h2 hp hp'
      gi_wp2_with (refine ⟨trivial, ?_⟩; gi_at_call 122; refine (CallsIn.inRound l (callsIn_wide.2 (isPart_is x false _ hx HPI.out))).mono ?_; rintro e w' ⟨rfl, hw'⟩; subst hw')
      have hmx : Tryz.prog.follows .mixedOrders = true := by kernel_rfl
      gi_region_o
      all_goals gi_wp2
      all_goals
        obtain ⟨q0, q1, q2, q3⟩ := stored_two (w := w) (x := .string ⟨#[]⟩) (y := .iface 379 (.pointer (some (p 4)))) hc0 hc1 HB.out
        exact ⟨q3.from _, ⟨rfl, by rw [HK.out]; decide, q0, by rw [HK.out]; exact q1⟩, q2⟩
  case done =>
    rintro D ys W hD hys ⟨⟨v, hv, hrow, hcode⟩, ⟨hc0, hf0, hc1, hf1⟩, hB⟩ hK
    have hkeq : keptOf ys = (cleanF (pieces s)).1 := by simp only [keptOf]; rw [hys]
    have hceq : (cleanF (pieces s)).2 = 0 := by rw [← hys]; exact hcode
    rw [hkeq] at hrow
    have hg := (HE.out.below hB).s7
    have hparts := cleanF_parts (pieces s)
    have HCL : Hid (cleanL s = if 6 < (cleanF (pieces s)).1.length then ([], 8) else (Lib.join (cleanF (pieces s)).1 [47], 0)) := by
      show cleanL s = _
      unfold cleanL
      rw [if_neg HH.out, hceq]; simp
    generalize hkk : (cleanF (pieces s)).1 = k at hrow hparts HCL
    clear hkk hkeq hceq hcode hys
    have HB : Hid (Below w.heap.size w W) := hB
    have hgs : ∀ u : Value, (W.setCell ⟨w.heap.size, 0, none⟩ u).cell? ⟨1, 0, none⟩ = some (.iface 379 (.pointer (some (p 7)))) := fun u => (cell_far (by have h : 1 < w.heap.size := block_lt_of_cell HE.out.s7; simp; omega)).trans hg
    have HPT : Hid (∀ x ∈ k, x.length ≤ 100000) := fun x hx => by have := isPart_length (hparts x hx); omega
    obtain ⟨a, cap, rfl⟩ := ownsRow_slice hrow
    have hc2 := hv.cell
    clear hB hparts
    by_cases hl : 6 < k.length
    · have hl' : (6 : Int) < k.length := by omega
      gi_wp2
      have hmx : Tryz.prog.follows .mixedOrders = true := by kernel_rfl
      gi_region_o
      all_goals gi_wp2
      all_goals
        obtain ⟨q0, q1, q2, q3⟩ := stored_two (w := w) (x := .string ⟨#[]⟩) (y := .iface 379 (.pointer (some (p 7)))) hc0 hc1 HB.out
        have hK' := q3.same D _ hK rfl
        refine ⟨by simp, .inl ⟨_, _, rfl, run_takeDeferred hK', ?_⟩⟩
        have hc5 := cell_kept q0 (grownBy_putObj' _ D (.deferred none)) (fun r e => by cases e; exact ⟨_, hK', rfl⟩)
        have hc6 := cell_kept q1 (grownBy_putObj' _ D (.deferred none)) (fun r e => by cases e; exact ⟨_, hK', rfl⟩)
        refine ⟨.tuple #[.string ⟨#[]⟩, .iface 379 (.pointer (some (p 7)))], ?_, by rw [HCL.out, if_pos hl]; rfl, q2.trans (belowK_b (w := w) (Nat.le_refl _) _ D _ _ (by simp at hD; omega) hK' rfl rfl)⟩
        simp [results, Tryz.f214, go_sem, hc5, hc6]
    · have hl' : ¬ (6 : Int) < k.length := by omega
      gi_wp2_with fail
      refine ⟨trivial, (callsIn_wide.2 (join_all (w.heap.size + 1 + 1 + 1) cap a k W hrow (by omega) HPT.out)).mono ?_⟩
      rintro e w3 ⟨rfl, hb3⟩
      have hvl := hv.lt
      have hDl : D < W.heap.size := (Array.getElem?_eq_some_iff.1 hK).1
      have hK3 : w3.heap[D]? = some (.deferred (some [])) := (hb3.block D hDl).trans hK
      have hd0 : w3.cell? ⟨w.heap.size, 0, none⟩ = some (.string ⟨#[]⟩) := (hb3.cell (p := ⟨w.heap.size, 0, none⟩) (by simp; omega)).trans hc0
      have hd1 : w3.cell? ⟨w.heap.size + 1, 0, none⟩ = some .nilIface := (hb3.cell (p := ⟨w.heap.size + 1, 0, none⟩) (by simp; omega)).trans hc1
      have he0 : w3.frozen? ⟨w.heap.size, 0, none⟩ = false := (hb3.frozen (p := ⟨w.heap.size, 0, none⟩) (by simp; omega)).trans hf0
      have he1 : w3.frozen? ⟨w.heap.size + 1, 0, none⟩ = false := (hb3.frozen (p := ⟨w.heap.size + 1, 0, none⟩) (by simp; omega)).trans hf1
      have HB3 : Hid (Below w.heap.size w w3) := HB.out.trans (hb3.mono HB.out.size)
      clear hb3 hK hc0 hc1 hf0 hf1 hc2 hv hrow hg hgs
      gi_wp2
      obtain ⟨q0, q1, q2, q3⟩ := stored_both (w := w) (x := .string ⟨(Lib.join k [47]).toArray⟩) (y := .nilIface) hd0 hd1 HB3.out
      have hK' := q3.same D _ hK3 rfl
      refine ⟨by simp, .inl ⟨_, _, rfl, run_takeDeferred hK', ?_⟩⟩
      have hc5 := cell_kept q0 (grownBy_putObj' _ D (.deferred none)) (fun r e => by cases e; exact ⟨_, hK', rfl⟩)
      have hc6 := cell_kept q1 (grownBy_putObj' _ D (.deferred none)) (fun r e => by cases e; exact ⟨_, hK', rfl⟩)
      refine ⟨.tuple #[.string ⟨(Lib.join k [47]).toArray⟩, .nilIface], ?_, by rw [HCL.out, if_neg hl]; rfl, q2.trans (belowK_b (w := w) (Nat.le_refl _) _ D _ _ (by simp at hD; omega) hK' rfl rfl)⟩
      simp [results, Tryz.f214, go_sem, hc5, hc6]
  case stop =>
    rintro D c pre W hD hpre ⟨⟨rfl, hcode, hcs, hce⟩, hB⟩ hK
    have HC : Hid (cleanL s = ([], codeAt pre)) := by
      show cleanL s = _
      have e := cleanF_prefix hpre hcode
      unfold cleanL
      rw [if_neg HH.out, e]
      exact if_pos hcode
    clear hpre hcode
    gi_wp2
    refine ⟨by simp, .inl ⟨_, _, rfl, run_takeDeferred hK, ?_⟩⟩
    have hc5 := cell_kept hcs (grownBy_putObj' _ D (.deferred none)) (fun r e => by cases e; exact ⟨_, hK, rfl⟩)
    have hc6 := cell_kept hce (grownBy_putObj' _ D (.deferred none)) (fun r e => by cases e; exact ⟨_, hK, rfl⟩)
    refine ⟨.tuple #[.string ⟨#[]⟩, errV p (codeAt pre)], ?_, by rw [HC.out], hB.trans (belowK_b (w := w) (Nat.le_refl _) W D _ _ (by simp at hD; omega) hK rfl rfl)⟩
    simp [results, Tryz.f214, go_sem, hc5, hc6]
end Go.Proofs.YtmcfkoenpikldaaGreatDoor
