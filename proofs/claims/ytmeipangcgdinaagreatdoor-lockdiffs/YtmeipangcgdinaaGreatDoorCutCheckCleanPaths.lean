/-
  Own texts of the proof, joined by program: Cut, Check, Clean, Paths.
-/
import Derived.Test.YtmeipangcgdinaaGreatDoorShelf
import Derived.Test.YtmeipangcgdinaaGreatDoorPureFacts
import Derived.RangeFuncNested
import Derived.RangeFuncBound
import Derived.RangeFuncCalls
import Derived.RangeFuncLeaves
import Derived.RangeFuncBox
import Derived.Shelf.Abstract
import Derived.Shelf.RegionOpen
import Derived.OwnWalkIn
import Derived.TacticsInMore
import Derived.LoopNIn
import Derived.LoopIn
import Derived.Maps.AppendAt
import Derived.Deep.QuietTactic
import Derived.BigQuiet
import Derived.WalkKit
import Derived.WalkSmall
import Derived.WalkSpells
import Derived.Test.YtmeipangcgdinaaGreatDoorErrsAsCode
import Derived.Test.YtmeipangcgdinaaGreatDoorErrV
import Derived.Test.YtmeipangcgdinaaGreatDoorPart
import Derived.RegionIn
import Derived.Deep.Onto
/-
  strings.Cut at a slash, and the iterator that path.cut hands back: contracts: each piece between slashes is handed out in its order, till all are or a round says no more. Over this seat's translation.
-/
namespace Go.Proofs.YtmeipangcgdinaaGreatDoor
open Go.RowKit Go.Shelf

theorem extract_list (l : List UInt8) (i j : Nat) : ({ data := l.toArray } : ByteArray).extract i j = ⟨((l.drop i).take (j - i)).toArray⟩ := by
  have h := Lib.extract_data ⟨l.toArray⟩ i j
  apply ByteArray.ext
  rw [← Array.toArray_toList (xs := (({ data := l.toArray } : ByteArray).extract i j).data), h]

theorem slCut_none (l : List UInt8) (w : World) (h : cutL l = none) : Calls Tryz.prog 121 #[.string ⟨l.toArray⟩, .string ⟨#[47]⟩] w fun e w' => e = .returned (.tuple #[.string ⟨l.toArray⟩, .string ⟨#[]⟩, .bool false]) ∧ w' = w := by
  have HI : Hid (Lib.indexByte l 47 = -1) := index_none h
  clear h
  go_enter Tryz.func121, Tryz.ntmps121
  go_wp2_with fail
  refine (Tryz.stringslite_Index_one _ 47 _).mono ?_
  rintro e w' ⟨rfl, rfl⟩
  rw [show Lib.indexByte ({ data := l.toArray } : ByteArray).data.toList 47 = -1 from by simpa using HI.out]
  go_wp2
  go_ret3
  exact ⟨rfl, rfl⟩

theorem slCut_some (l a b : List UInt8) (w : World) (hl : l.length ≤ 100000) (h : cutL l = some (a, b)) : Calls Tryz.prog 121 #[.string ⟨l.toArray⟩, .string ⟨#[47]⟩] w fun e w' => e = .returned (.tuple #[.string ⟨a.toArray⟩, .string ⟨b.toArray⟩, .bool true]) ∧ ∃ n, w' = w.drewN n := by
  have HI : Hid (Lib.indexByte l 47 = a.length) := index_some h
  have HL : Hid (l = a ++ 47 :: b) := cutL_some h
  have hlen : a.length + b.length + 1 = l.length := by rw [HL.out]; simp; omega
  clear h
  go_enter Tryz.func121, Tryz.ntmps121
  go_wp2_with fail
  refine (Tryz.stringslite_Index_one _ 47 _).mono ?_
  rintro e w' ⟨rfl, rfl⟩
  rw [show Lib.indexByte ({ data := l.toArray } : ByteArray).data.toList 47 = a.length from by simpa using HI.out]
  go_wp2_with fail
  go_quiet (fail)
  go_wp2
  go_ret3
  refine ⟨?_, nq, rfl⟩
  have e1 : ({ data := l.toArray } : ByteArray).extract 0 a.length = ⟨a.toArray⟩ := by
    rw [extract_list, HL.out]; simp
  have e2 : ({ data := l.toArray } : ByteArray).extract (a.length + 1) l.length = ⟨b.toArray⟩ := by
    rw [extract_list, HL.out]
    simp
    rw [List.take_of_length_le (by omega)]
  rw [← e1, ← e2]
  rfl

theorem cut_none (l : List UInt8) (w : World) (h : cutL l = none) : Calls Tryz.prog 104 #[.string ⟨l.toArray⟩, .string ⟨#[47]⟩] w fun e w' => e = .returned (.tuple #[.string ⟨l.toArray⟩, .string ⟨#[]⟩, .bool false]) ∧ w' = w := by
  have H : Hid (cutL l = none) := h
  clear h
  go_enter Tryz.func104, Tryz.ntmps104
  go_wp2_with fail
  refine (slCut_none _ _ H.out).mono ?_
  rintro e w' ⟨rfl, rfl⟩
  go_wp2
  go_ret3
  exact ⟨rfl, rfl⟩

theorem cut_some (l a b : List UInt8) (w : World) (hl : l.length ≤ 100000) (h : cutL l = some (a, b)) : Calls Tryz.prog 104 #[.string ⟨l.toArray⟩, .string ⟨#[47]⟩] w fun e w' => e = .returned (.tuple #[.string ⟨a.toArray⟩, .string ⟨b.toArray⟩, .bool true]) ∧ ∃ n, w' = w.drewN n := by
  have H : Hid (cutL l = some (a, b)) := h
  clear h
  go_enter Tryz.func104, Tryz.ntmps104
  go_wp2_with fail
  refine (slCut_some _ _ _ _ hl H.out).mono ?_
  rintro e w' ⟨rfl, nq, rfl⟩
  go_wp2
  go_ret3
  exact ⟨rfl, nq, rfl⟩

/-- path.cut: the text is boxed; the function value captures the box. -/
theorem cut_fn (l : List UInt8) (w : World) : Calls Tryz.prog 106 #[.string ⟨l.toArray⟩] w fun e w' => e = .returned (.func (.func 122) #[] #[.pointer (some ⟨w.heap.size, 0, none⟩)]) ∧ w' = w.alloc (.cells #[.string ⟨l.toArray⟩] 9) := by
  go_enter Tryz.func106, Tryz.ntmps106
  go_wp2
  go_ret
  exact ⟨rfl, rfl⟩

/-- A piece, no longer than a text may be here. -/
abbrev Pc := { x : List UInt8 // x.length ≤ 100000 }

def strLen : Value → Nat | .string s => s.size | _ => 0
theorem strLen_list (l : List UInt8) : strLen (.string ⟨l.toArray⟩) = l.length := by simp [strLen, ByteArray.size]
def roundsLeft (rest more : Value) : Nat := match more with | .bool true => strLen rest + 1 | _ => 0

theorem grownBy_drewN (w : World) (n : Nat) : w.grownBy (w.drewN n) none := ⟨rfl, rfl, rfl, Nat.le_refl _, fun _ _ _ => rfl⟩

attribute [local go_sem] Oper.semAt_some

set_option maxRecDepth 100000 in
set_option maxHeartbeats 1000000 in
/-- The iterator: every piece in its order, or a prefix of them, where a round says no more. -/
theorem cut1_in (n : Nat) (hn : 1 ≤ n) (l Bn : Nat) (s : List UInt8) (hs : s.length ≤ 100000) (J Jx : List Pc → World → Prop) (n₀ : Nat) (W : World) (hJ : AbidesFrom W.heap.size J)
    (hY : ∀ pre x W1, J pre W1 → pre.length < (pieces s).length → YieldAt Fence.wide (n - 1) Tryz.prog l #[.string ⟨x.1.toArray⟩] W1 fun e W' =>
      (e = .returned (.bool true) ∧ J (pre ++ [x]) W' ∧ Below n₀ W1 W') ∨ (e = .returned (.bool false) ∧ Jx (pre ++ [x]) W'))
    (hB : W.cell? ⟨Bn, 0, none⟩ = some (.string ⟨s.toArray⟩)) (h0 : J [] W) :
    CallsIn Fence.wide n Tryz.prog 122 #[.func (.yield l) #[] #[], .pointer (some ⟨Bn, 0, none⟩)] W fun e W' => (∃ v, e = .returned v) ∧
      ((∃ ys, ys.map (·.1) = pieces s ∧ J ys W') ∨ (∃ pre, pre.map (·.1) <+: pieces s ∧ Jx pre W')) := by
  refine callsIn_of_wp Tryz.func122 rfl trivial ?_ rfl
  simp only [Tryz.ntmps122, List.size_toArray, List.length_cons, List.length_nil, Nat.reduceAdd, Nat.reduceSub, Array.replicate_succ, Array.replicate_zero, List.push_toArray, List.append_toArray, List.nil_append, List.cons_append]
  have HJ : Hid (AbidesFrom W.heap.size J) := hJ
  have HY : Hid (∀ pre x W1, J pre W1 → pre.length < (pieces s).length → YieldAt Fence.wide (n - 1) Tryz.prog l #[.string ⟨x.1.toArray⟩] W1 fun e W' =>
      (e = .returned (.bool true) ∧ J (pre ++ [x]) W' ∧ Below n₀ W1 W') ∨ (e = .returned (.bool false) ∧ Jx (pre ++ [x]) W')) := hY
  clear hJ hY
  gi_wp2
  gi_loopw [3, 4] (fun rest more wr => ∃ pre : List Pc, J pre wr ∧ ((more = .bool false ∧ pre.map (·.1) = pieces s) ∨ (∃ t : List UInt8, more = .bool true ∧ rest = .string ⟨t.toArray⟩ ∧ t.length ≤ 100000 ∧ pieces s = pre.map (·.1) ++ pieces t)))
    (fun rest more _ => roundsLeft rest more)
  case atStart =>
    exact ⟨[], h0, .inr ⟨s, rfl, rfl, hs, by simp⟩⟩
  case round =>
    obtain ⟨pre, hJp, ⟨rfl, hp⟩ | ⟨t, rfl, rfl, ht, hp⟩⟩ := hrel
    · have HP : Hid (pre.map (·.1) = pieces s) := hp
      clear hp
      gi_wp2
      go_end0
      exact ⟨⟨_, rfl⟩, .inl ⟨pre, HP.out, hJp⟩⟩
    · have HP : Hid (pieces s = pre.map (·.1) ++ pieces t) := hp
      clear hp
      cases hc : cutL t with
      | none =>
        have HC : Hid (cutL t = none) := hc
        clear hc
        gi_wp2_with fail
        refine ⟨trivial, (callsIn_wide.2 (cut_none _ _ HC.out)).mono ?_⟩
        rintro e w' ⟨rfl, rfl⟩
        have hlen : pre.length < (pieces s).length := by
          rw [HP.out, pieces_none HC.out]; simp
        obtain ⟨fn, tmps, assign, body, hy, hR⟩ := HY.out pre ⟨t, ht⟩ w' hJp hlen
        gi_wp2
        refine hR.mono ?_
        rintro e W3 (⟨rfl, hJ3, hk3⟩ | ⟨rfl, hJx3⟩)
        · clear hy hR
          gi_wp2
          go_roundw
          case rel => exact ⟨pre ++ [⟨t, ht⟩], hJ3, .inl ⟨rfl, by rw [HP.out, pieces_none HC.out]; simp⟩⟩
          case measure => simp [roundsLeft]
        · clear hy hR
          gi_wp2
          refine bodyPost_ret (results_none rfl _ _ _) rfl ?_
          exact ⟨⟨_, rfl⟩, .inr ⟨pre ++ [⟨t, ht⟩], by rw [HP.out, pieces_none HC.out]; simp, hJx3⟩⟩
      | some ab =>
        obtain ⟨a, b⟩ := ab
        have HC : Hid (cutL t = some (a, b)) := hc
        have hab : a.length + b.length + 1 = t.length := by rw [cutL_some hc]; simp; omega
        have ha : a.length ≤ 100000 := by omega
        clear hc
        gi_wp2_with fail
        refine ⟨trivial, (callsIn_wide.2 (cut_some _ _ _ _ ht HC.out)).mono ?_⟩
        rintro e w' ⟨rfl, nq, rfl⟩
        have hlen : pre.length < (pieces s).length := by
          rw [HP.out, pieces_some HC.out]; simp
        have hJd : J pre (wr.drewN nq) := HJ.out pre wr _ none hJp (grownBy_drewN _ _) (fun _ h => by cases h)
        obtain ⟨fn, tmps, assign, body, hy, hR⟩ := HY.out pre ⟨a, ha⟩ (wr.drewN nq) hJd hlen
        gi_wp2
        refine hR.mono ?_
        rintro e W3 (⟨rfl, hJ3, hk3⟩ | ⟨rfl, hJx3⟩)
        · clear hy hR
          gi_wp2
          go_roundw
          case rel => exact ⟨pre ++ [⟨a, ha⟩], hJ3, .inr ⟨b, rfl, rfl, by omega, by rw [HP.out, pieces_some HC.out]; simp⟩⟩
          case measure => simp only [roundsLeft, strLen_list]; omega
        · clear hy hR
          gi_wp2
          refine bodyPost_ret (results_none rfl _ _ _) rfl ?_
          exact ⟨⟨_, rfl⟩, .inr ⟨pre ++ [⟨a, ha⟩], by rw [HP.out, pieces_some HC.out]; simp, hJx3⟩⟩

/-- The function value that path.cut hands back. -/
theorem cut_stops (n : Nat) (hn : 1 ≤ n) (Bn n₀ : Nat) (s : List UInt8) (hs : s.length ≤ 100000) (w : World) (hBn : Bn < w.heap.size) (hc : w.cell? ⟨Bn, 0, none⟩ = some (.string ⟨s.toArray⟩)) :
    SeqStopsK Fence.wide n Tryz.prog 122 #[.pointer (some ⟨Bn, 0, none⟩)] (fun x : Pc => #[Value.string ⟨x.1.toArray⟩]) (Below n₀) (fun ys => ys.map (·.1) = pieces s) (fun pre => pre.map (·.1) <+: pieces s) (pieces s).length w := fun l J Jx W hW hJ _ hY h0 =>
  cut1_in n hn l Bn s hs J Jx n₀ W hJ hY ((hW.cell (p := ⟨Bn, 0, none⟩) hBn).trans hc) h0
end Go.Proofs.YtmeipangcgdinaaGreatDoor
/-
  path.Check tells of every text that is not too long what the plain function tells: a contract, over this seat's translation.
-/
namespace Go.Proofs.YtmeipangcgdinaaGreatDoor
open Go.RowKit Go.Shelf

theorem cell_set {w : World} {a : Addr} {v u : Value} (h : w.cell? a = some u) : (w.setCell a v).cell? a = some v := World.cell?_setCell_same' _ _ _ (by rw [h]; rfl)
theorem cell_far {w : World} {a b : Addr} {v : Value} (h : b.block ≠ a.block) : (w.setCell a v).cell? b = w.cell? b := World.cell?_of_block (Below.heap_setCell _ _ _ _ h)

/-- What package path's Check wants of the listed variables: two errors. -/
structure PEnv (p : Nat → Addr) (w : World) : Prop where
  s4 : w.cell? ⟨4, 0, none⟩ = some (.iface 156 (.pointer (some (p 4))))
  s7 : w.cell? ⟨0, 0, none⟩ = some (.iface 156 (.pointer (some (p 7))))
theorem PEnv.below {p : Nat → Addr} {w w' : World} (E : PEnv p w) (hb : Below w.heap.size w w') : PEnv p w' where
  s4 := (hb.cell (p := ⟨4, 0, none⟩) (block_lt_of_cell E.s4)).trans E.s4
  s7 := (hb.cell (p := ⟨0, 0, none⟩) (block_lt_of_cell E.s7)).trans E.s7

attribute [local go_sem] Oper.semAt_some

set_option maxRecDepth 100000 in
set_option maxHeartbeats 2000000 in
theorem check_path (p : Nat → Addr) (s : List UInt8) (w : World) (hE : PEnv p w) (hs : s.length ≤ 90000) :
    Calls Tryz.prog 90 #[.string ⟨s.toArray⟩] w fun e w' => e = .returned (errV p (checkCode s)) ∧ Below w.heap.size w w' := by
  refine (callsIn_wide (n := 3)).1 ?_
  refine callsIn_of_wp_marks Tryz.func90 rfl trivial ?_ rfl
  simp only [Tryz.ntmps90, List.size_toArray, List.length_cons, List.length_nil, Nat.reduceAdd, Nat.reduceSub, Array.replicate_succ, Array.replicate_zero, List.push_toArray, List.append_toArray, List.nil_append, List.cons_append]
  have HE : Hid (PEnv p w) := hE
  clear hE
  gi_wp2_with (refine ⟨trivial, ?_⟩; gi_at_call 106; refine (callsIn_wide.2 (cut_fn s _)).mono ?_; rintro e w' ⟨rfl, rfl⟩)
  have b0 := Boxed.new w 26 .nilIface
  have b1 := Boxed.new (w.alloc (.cells #[.nilIface] 26)) 3 (.int .i64 0)
  have b2 := Boxed.new ((w.alloc (.cells #[.nilIface] 26)).alloc (.cells #[.int .i64 0] 3)) 9 (.string ⟨s.toArray⟩)
  simp only [World.size_alloc] at b1 b2
  have hB0 : Below w.heap.size w (((w.alloc (.cells #[.nilIface] 26)).alloc (.cells #[.int .i64 0] 3)).alloc (.cells #[.string ⟨s.toArray⟩] 9)) := (((Below.refl _ w).alloc (Nat.le_refl _) _).alloc (by simp) _).alloc (by simp; omega) _
  refine wpIn_rangeFunc_ownF rfl (by omega) (gf := 122) (lb := #[.pointer (some ⟨w.heap.size + 1 + 1, 0, none⟩)]) rfl trivial (enters_of Tryz.func122 (by kernel_rfl) rfl)
    (cut_stops _ (by omega) (w.heap.size + 1 + 1) w.heap.size s (by omega) _ (by simp) b2.cell) belowK_t (belowK_b (by simp; omega)) (Below.refl _ _) (fun _ => rfl)
    (fun pre W => ((pre.map (·.1)).all isPart = true ∧ W.cell? ⟨w.heap.size, 0, none⟩ = some .nilIface ∧ W.frozen? ⟨w.heap.size, 0, none⟩ = false ∧ W.cell? ⟨w.heap.size + 1, 0, none⟩ = some (.int .i64 pre.length) ∧ W.frozen? ⟨w.heap.size + 1, 0, none⟩ = false) ∧ Below w.heap.size w W)
    (fun c pre W => (c = .ret ∧ (pre.map (·.1)).all isPart = false ∧ W.cell? ⟨w.heap.size, 0, none⟩ = some (.iface 156 (.pointer (some (p 4))))) ∧ Below w.heap.size w W)
    (OwnFrom.and (Own.from (fun s A B row hs hg hr => ⟨hs.1, cell_kept hs.2.1 hg hr, (frozen_kept hs.2.1 hg hr).trans hs.2.2.1, cell_kept hs.2.2.2.1 hg hr, (frozen_kept hs.2.2.2.1 hg hr).trans hs.2.2.2.2⟩) _) (ownFrom_below (Nat.le_refl _) (by simp; omega)))
    (fun c => OwnFrom.and (Own.from (fun s A B row hs hg hr => ⟨hs.1, hs.2.1, cell_kept hs.2.2 hg hr⟩) _) (ownFrom_below (Nat.le_refl _) (by simp; omega)))
    ⟨⟨by simp, ((b0.alloc _).alloc _).cell, ((b0.alloc _).alloc _).frozen, (b1.alloc _).cell, (b1.alloc _).frozen⟩, hB0⟩
    (fun x => { tmps := #[.string ⟨s.toArray⟩, undef, .pointer (some ⟨w.heap.size, 0, none⟩), .pointer (some ⟨w.heap.size + 1, 0, none⟩), .string ⟨x.1.toArray⟩, .string ⟨s.toArray⟩, .func (.func 122) #[] #[.pointer (some ⟨w.heap.size + 1 + 1, 0, none⟩)], .string ⟨x.1.toArray⟩, undef, undef, undef, undef, undef, undef, undef, undef, undef], defers := [] }) ?assign ?body ?done ?stop
  case assign =>
    intro l x W K hK
    gi_wp2
    exact hK
  case body =>
    rintro l pre x W ⟨⟨hp, hc0, hf0, hc1, hf1⟩, hB⟩ hlt
    have hpl := pieces_length s
    have hg := (HE.out.below hB).s4
    have HP : Hid ((pre.map (·.1)).all isPart = true) := hp
    have HB : Hid (Below w.heap.size w W) := hB
    clear hp hB
    by_cases hx : isPart x.1 = true
    · gi_wp2_with (refine ⟨trivial, ?_⟩; gi_at_call 46; refine (CallsIn.inRound l (callsIn_wide.2 (isPart_any x.1 _ x.2))).mono ?_; rintro e w' ⟨rfl, rfl⟩)
      refine ⟨KeepsOthers.setCell _ _ _, (Below.refl w.heap.size _).setCell (p := ⟨w.heap.size + 1, 0, none⟩) (by simp) _, ⟨?_, ?_, ?_, ?_, ?_⟩, HB.out.setCell (p := ⟨w.heap.size + 1, 0, none⟩) (by simp) _⟩
      · rw [List.map_append, List.all_append, HP.out]; simp [hx]
      · rw [cell_far (by simp)]; exact hc0
      · rw [World.frozen?_setCell]; exact hf0
      · rw [cell_set hc1]; simp
      · rw [World.frozen?_setCell]; exact hf1
    · have hx' : isPart x.1 = false := by simpa using hx
      clear hx
      gi_wp2_with (refine ⟨trivial, ?_⟩; gi_at_call 46; refine (CallsIn.inRound l (callsIn_wide.2 (isPart_any x.1 _ x.2))).mono ?_; rintro e w' ⟨rfl, rfl⟩)
      refine ⟨KeepsOthers.setCell _ _ _, ⟨rfl, ?_, ?_⟩, HB.out.setCell (p := ⟨w.heap.size, 0, none⟩) (by simp) _⟩
      · rw [List.map_append, List.all_append]; simp [hx']
      · rw [cell_set hc0]
  case done =>
    rintro D ys W hD hys ⟨⟨hp, hc0, hf0, hc1, hf1⟩, hB⟩ hK
    have hg := (HE.out.below hB).s7
    have HB : Hid (Below w.heap.size w W) := hB
    have HC : Hid (checkCode s = if 6 < ys.length then 8 else 0) := by
      show checkCode s = _
      unfold checkCode
      rw [← hys, hp]; simp
    clear hp hB hys
    by_cases hl : 6 < ys.length
    · have hl' : (6 : Int) < ys.length := by omega
      gi_wp2
      have hK' := (KeepsOthers.setCell W ⟨w.heap.size, 0, none⟩ (.iface 156 (.pointer (some (p 7))))).same D _ hK rfl
      refine ⟨by simp, .inl ⟨_, _, rfl, run_takeDeferred hK', ?_⟩⟩
      have hc5 := cell_kept (cell_set (v := .iface 156 (.pointer (some (p 7)))) hc0) (grownBy_putObj' _ D (.deferred none)) (fun r e => by cases e; exact ⟨_, hK', rfl⟩)
      refine ⟨.iface 156 (.pointer (some (p 7))), ?_, by rw [HC.out, if_pos hl]; rfl, (HB.out.setCell (p := ⟨w.heap.size, 0, none⟩) (by simp) _).trans (belowK_b (w := w) (Nat.le_refl _) _ D _ _ (by simp at hD; omega) hK' rfl rfl)⟩
      simp [results, Tryz.f90, go_sem, hc5]
    · have hl' : ¬ (6 : Int) < ys.length := by omega
      gi_wp2
      have hK' := (KeepsOthers.setCell W ⟨w.heap.size, 0, none⟩ .nilIface).same D _ hK rfl
      refine ⟨by simp, .inl ⟨_, _, rfl, run_takeDeferred hK', ?_⟩⟩
      have hc5 := cell_kept (cell_set (v := .nilIface) hc0) (grownBy_putObj' _ D (.deferred none)) (fun r e => by cases e; exact ⟨_, hK', rfl⟩)
      refine ⟨.nilIface, ?_, by rw [HC.out, if_neg hl]; rfl, (HB.out.setCell (p := ⟨w.heap.size, 0, none⟩) (by simp) _).trans (belowK_b (w := w) (Nat.le_refl _) _ D _ _ (by simp at hD; omega) hK' rfl rfl)⟩
      simp [results, Tryz.f90, go_sem, hc5]
  case stop =>
    rintro D c pre W hD hpre ⟨⟨rfl, hin, hcr⟩, hB⟩ hK
    have HC : Hid (checkCode s = 5) := by
      show checkCode s = 5
      unfold checkCode
      obtain ⟨r, hr⟩ := hpre
      rw [← hr, List.all_append, hin]; simp
    clear hin hpre
    gi_wp2
    refine ⟨by simp, .inl ⟨_, _, rfl, run_takeDeferred hK, ?_⟩⟩
    have hc5 := cell_kept hcr (grownBy_putObj' _ D (.deferred none)) (fun r e => by cases e; exact ⟨_, hK, rfl⟩)
    refine ⟨.iface 156 (.pointer (some (p 4))), ?_, by rw [HC.out]; rfl, hB.trans (belowK_b (w := w) (Nat.le_refl _) W D _ _ (by simp at hD; omega) hK rfl rfl)⟩
    simp [results, Tryz.f90, go_sem, hc5]

theorem check_any (p : Nat → Addr) (s : List UInt8) (w : World) (hE : Env p w) (hs : s.length ≤ 90000) :
    Calls Tryz.prog 90 #[.string ⟨s.toArray⟩] w fun e w' => e = .returned (errV p (checkCode s)) ∧ Below w.heap.size w w' := check_path p s w ⟨hE.s4, hE.s7⟩ hs
end Go.Proofs.YtmeipangcgdinaaGreatDoor
/-
  path.Clean tells of every text that is not too long what the plain function tells: a contract, over this seat's translation.
-/
namespace Go.Proofs.YtmeipangcgdinaaGreatDoor
open Go.RowKit Go.Shelf

theorem hasPrefix_slash (l : List UInt8) : Lib.hasPrefix l [47] = (l.head? == some 47) := by
  cases l with
  | nil => rfl
  | cons c r =>
    have : ((47 : UInt8) == c) = (c == 47) := by rw [Bool.eq_iff_iff]; simp; exact eq_comm
    simp [Lib.hasPrefix, List.isPrefixOf, this]

theorem isPart_is (l : List UInt8) (r : Bool) (w : World) (hl : l.length ≤ 100000) (h : isPart l = r) : Calls Tryz.prog 46 #[.string ⟨l.toArray⟩] w fun e w' => e = .returned (.bool r) ∧ w = w' := by
  have := isPart_any l w hl
  rw [h] at this
  exact this.mono fun _ _ ⟨a, b⟩ => ⟨a, b.symm⟩

theorem Tryz.info9 : (Tryz.prog.info? 9).map (fun i => (i.zero, i.size, i.bytes)) = some (some (.string ⟨#[]⟩), 1, 16) := by kernel_rfl

attribute [local go_sem] Oper.semAt_some

abbrev sv (l : List UInt8) : Value := .string ⟨l.toArray⟩

/-- The pieces kept and the error's number behind some pieces. -/
def keptOf (pre : List Pc) : List (List UInt8) := (cleanF (pre.map (·.1))).1
def codeAt (pre : List Pc) : Nat := (cleanF (pre.map (·.1))).2

theorem keptOf_snoc (pre : List Pc) (x : Pc) : (keptOf (pre ++ [x]), codeAt (pre ++ [x])) = cleanStep (keptOf pre, codeAt pre) x.1 := by
  simp [keptOf, codeAt, cleanF_snoc]
theorem snoc_of {pre : List Pc} {x : Pc} {k : List (List UInt8)} {c : Nat} (h : cleanStep (keptOf pre, codeAt pre) x.1 = (k, c)) : keptOf (pre ++ [x]) = k ∧ codeAt (pre ++ [x]) = c := by
  have := (keptOf_snoc pre x).trans h
  simpa using this

theorem stored_both {W w : World} {b : Nat} {x y u0 u1 : Value} (hc0 : W.cell? ⟨b, 0, none⟩ = some u0) (hc1 : W.cell? ⟨b + 1, 0, none⟩ = some u1) (hB : Below b w W) :
    (((W.setCell ⟨b, 0, none⟩ x).setCell ⟨b + 1, 0, none⟩ y).cell? ⟨b, 0, none⟩ = some x) ∧ (((W.setCell ⟨b, 0, none⟩ x).setCell ⟨b + 1, 0, none⟩ y).cell? ⟨b + 1, 0, none⟩ = some y) ∧
      Below b w ((W.setCell ⟨b, 0, none⟩ x).setCell ⟨b + 1, 0, none⟩ y) ∧ KeepsOthers W ((W.setCell ⟨b, 0, none⟩ x).setCell ⟨b + 1, 0, none⟩ y) := by
  refine ⟨?_, ?_, (hB.setCell (p := ⟨b, 0, none⟩) (Nat.le_refl _) _).setCell (p := ⟨b + 1, 0, none⟩) (by simp) _, (KeepsOthers.setCell _ _ _).trans (KeepsOthers.setCell _ _ _)⟩
  · rw [cell_far (by simp), cell_set hc0]
  · exact cell_set (u := u1) (by rw [cell_far (by simp)]; exact hc1)

theorem stored_two {W w : World} {b : Nat} {x y u0 u1 : Value} (hc0 : W.cell? ⟨b, 0, none⟩ = some u0) (hc1 : W.cell? ⟨b + 1, 0, none⟩ = some u1) (hB : Below b w W) :
    (((W.setCell ⟨b, 0, none⟩ x).setCell ⟨b + 1, 0, none⟩ y).drew.cell? ⟨b, 0, none⟩ = some x) ∧ (((W.setCell ⟨b, 0, none⟩ x).setCell ⟨b + 1, 0, none⟩ y).drew.cell? ⟨b + 1, 0, none⟩ = some y) ∧
      Below b w ((W.setCell ⟨b, 0, none⟩ x).setCell ⟨b + 1, 0, none⟩ y).drew ∧ KeepsOthers W ((W.setCell ⟨b, 0, none⟩ x).setCell ⟨b + 1, 0, none⟩ y).drew := by
  obtain ⟨q0, q1, q2, q3⟩ := stored_both (x := x) (y := y) hc0 hc1 hB
  exact ⟨q0, q1, q2.drew, q3.trans (KeepsOthers.drew _)⟩

theorem append_keeps {W w1 : World} {n₁ B j k : Nat} {e : TypeId} {size : Nat} {v : Value} {xs : List Value} {tmp : Obj} (hrow : W.ownsRow n₁ e size v k xs) (hgrow : (W.alloc tmp).grownBy w1 v.ownBlock)
    (hj : j < n₁) (hjW : j < W.heap.size) (hne : j ≠ B) (u : Value) : (w1.setCell ⟨B, 0, none⟩ u).heap[j]? = W.heap[j]? := by
  rw [Below.heap_setCell _ _ _ _ (by simpa using hne), hgrow.block j (by simp; omega) (fun h => by have := hrow.lt j h.symm; omega)]
  exact Below.heap_alloc _ _ _ hjW

/-- strings.Join of a slice that owns some pieces. -/
theorem join_any (base g cap : Nat) (k : List (List UInt8)) (w : World) (hrow : w.ownsRow base 9 1 (.slice (some ⟨g, 0, none⟩) k.length cap) k.length (k.map sv)) (hk : k.length ≤ 100000) (hM : ∀ x ∈ k, x.length ≤ 100000) :
    Calls Tryz.prog 36 #[.slice (some ⟨g, 0, none⟩) k.length cap, .string ⟨#[47]⟩] w fun e w' => e = .returned (.string ⟨(Lib.join k [47]).toArray⟩) ∧ Below w.heap.size w w' := by
  have hl := join_length hM
  have hmap : (k.map fun l => (⟨l.toArray⟩ : ByteArray)).map (·.data.toList) = k := by
    rw [List.map_map]
    have : ((fun x : ByteArray => x.data.toList) ∘ fun l : List UInt8 => (⟨l.toArray⟩ : ByteArray)) = id := by funext l; simp
    rw [this, List.map_id]
  have hcap : k.length ≤ cap := by
    rcases hrow.2 with ⟨h, _⟩ | ⟨g', cap', cur, hv', _, _, h1, _, _⟩
    · cases h
    · cases hv'; exact h1
  have hb : g < w.heap.size := (hrow.lt g rfl).2
  have := Tryz.strings_Join g 0 cap (k.map fun l => ⟨l.toArray⟩) ⟨#[47]⟩ w (fun j x hx => by
      have hj : j < k.length := by
        have := (List.getElem?_eq_some_iff.1 hx).1
        simpa using this
      rw [Nat.zero_add, hrow.cellAt j (by omega)]
      rw [List.getElem?_map] at hx ⊢
      rw [List.getElem?_eq_getElem hj] at hx ⊢
      simp at hx ⊢
      exact hx) hb (by simp; omega) (by simpa using hcap) (by
      rw [hmap]
      have e : (⟨#[47]⟩ : ByteArray).data.toList = [47] := rfl
      rw [e]
      omega)
  rw [hmap, List.length_map] at this
  exact this

theorem ownsRow_slice {W : World} {base : Nat} {e : TypeId} {size : Nat} {v : Value} {n : Nat} {xs : List Value} (h : W.ownsRow base e size v n xs) : ∃ a cap, v = .slice a n cap := by
  rcases h.2 with ⟨rfl, rfl⟩ | ⟨g, cap, cur, rfl, _⟩
  · exact ⟨_, _, rfl⟩
  · exact ⟨_, _, rfl⟩

theorem join_all (base cap : Nat) (a : Option Addr) (k : List (List UInt8)) (w : World) (hrow : w.ownsRow base 9 1 (.slice a k.length cap) k.length (k.map sv)) (hk : k.length ≤ 100000) (hM : ∀ x ∈ k, x.length ≤ 100000) :
    Calls Tryz.prog 36 #[.slice a k.length cap, .string ⟨#[47]⟩] w fun e w' => e = .returned (.string ⟨(Lib.join k [47]).toArray⟩) ∧ Below w.heap.size w w' := by
  cases k with
  | nil => exact (Tryz.strings_Join_none a cap ⟨#[47]⟩ w).mono fun _ _ ⟨h, h'⟩ => ⟨h, by rw [h']; exact Below.refl _ _⟩
  | cons x k =>
    obtain ⟨g, cap', hv⟩ := ownsRow_succ (k := k.length) hrow
    simp only [Value.slice.injEq] at hv
    obtain ⟨rfl, _, rfl⟩ := hv
    exact join_any base g cap (x :: k) w hrow hk hM

end Go.Proofs.YtmeipangcgdinaaGreatDoor
/-
  path.Join and path.In answer as the plain functions say: contracts, over this seat's translation.
-/
namespace Go.Proofs.YtmeipangcgdinaaGreatDoor
open Go.RowKit Go.Shelf

theorem check_is (p : Nat → Addr) (s : List UInt8) (k : Nat) (w : World) (hE : Env p w) (hs : s.length ≤ 90000) (h : checkCode s = k) :
    Calls Tryz.prog 90 #[.string ⟨s.toArray⟩] w fun e w' => e = .returned (errV p k) ∧ Below w.heap.size w w' := by
  have := check_any p s w hE hs
  rwa [h] at this

theorem cat_list (a b : List UInt8) : ({ data := a.toArray } : ByteArray) ++ { data := b.toArray } = ⟨(a ++ b).toArray⟩ := by
  apply ByteArray.ext
  simp

theorem check_ok (p : Nat → Addr) (s : List UInt8) (w : World) (hE : Env p w) (hs : s.length ≤ 90000) (h : checkCode s = 0) :
    Calls Tryz.prog 90 #[.string ⟨s.toArray⟩] w fun e w' => e = .returned .nilIface ∧ Below w.heap.size w w' := check_is p s 0 w hE hs h
theorem check_bad (p : Nat → Addr) (s : List UInt8) (k : Nat) (w : World) (hE : Env p w) (hs : s.length ≤ 90000) (h : checkCode s = k + 1) :
    Calls Tryz.prog 90 #[.string ⟨s.toArray⟩] w fun e w' => e = .returned (.iface 156 (.pointer (some (p k)))) ∧ Below w.heap.size w w' := check_is p s (k + 1) w hE hs h

/-- Join of a text below a directory. -/
def joinTo (dir s : List UInt8) : List UInt8 := if dir = [] then s else dir ++ 47 :: s

def isIn (s dir : List UInt8) : Bool := decide (checkCode s = 0) && (dir.isEmpty || Lib.hasPrefix s (dir ++ [47]))

end Go.Proofs.YtmeipangcgdinaaGreatDoor
