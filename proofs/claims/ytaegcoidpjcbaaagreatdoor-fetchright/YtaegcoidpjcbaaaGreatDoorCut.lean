/-
  strings.Cut at a slash, and the iterator that path.cut hands back: contracts: each piece between slashes is handed out in its order, till all are or a round says no more. Over this seat's translation.
-/
import Derived.Test.YtaegcoidpjcbaaaGreatDoorShelf
import Derived.Test.YtaegcoidpjcbaaaGreatDoorPureFacts
import Derived.RangeFuncNested
import Derived.RangeFuncBound
import Derived.RangeFuncCalls
import Derived.RangeFuncLeaves
import Derived.RangeFuncBox
import Derived.Shelf.Abstract
import Derived.Shelf.RegionOpen
import Derived.OwnWalkIn
import Derived.TacticsInMore
import Derived.LoopNIn
import Derived.LoopIn
import Derived.Maps.AppendAt
import Derived.Deep.QuietTactic
import Derived.BigQuiet
import Derived.WalkKit
import Derived.WalkSmall
import Derived.WalkSpells
namespace Go.Proofs.YtaegcoidpjcbaaaGreatDoor
open Go.RowKit Go.Shelf

theorem extract_list (l : List UInt8) (i j : Nat) : ({ data := l.toArray } : ByteArray).extract i j = ⟨((l.drop i).take (j - i)).toArray⟩ := by
  have h := Lib.extract_data ⟨l.toArray⟩ i j
  apply ByteArray.ext
  rw [← Array.toArray_toList (xs := (({ data := l.toArray } : ByteArray).extract i j).data), h]

theorem slCut_none (l : List UInt8) (w : World) (h : cutL l = none) : Calls Tryz.prog 152 #[.string ⟨l.toArray⟩, .string ⟨#[47]⟩] w fun e w' => e = .returned (.tuple #[.string ⟨l.toArray⟩, .string ⟨#[]⟩, .bool false]) ∧ w' = w := by
  have HI : Hid (Lib.indexByte l 47 = -1) := index_none h
  clear h
  go_enter Tryz.func152, Tryz.ntmps152
  go_wp2_with fail
  refine (Tryz.stringslite_Index_one _ 47 _).mono ?_
  rintro e w' ⟨rfl, rfl⟩
  rw [show Lib.indexByte ({ data := l.toArray } : ByteArray).data.toList 47 = -1 from by simpa using HI.out]
  go_wp2
  go_ret3
  exact ⟨rfl, rfl⟩

theorem slCut_some (l a b : List UInt8) (w : World) (hl : l.length ≤ 100000) (h : cutL l = some (a, b)) : Calls Tryz.prog 152 #[.string ⟨l.toArray⟩, .string ⟨#[47]⟩] w fun e w' => e = .returned (.tuple #[.string ⟨a.toArray⟩, .string ⟨b.toArray⟩, .bool true]) ∧ ∃ n, w' = w.drewN n := by
  have HI : Hid (Lib.indexByte l 47 = a.length) := index_some h
  have HL : Hid (l = a ++ 47 :: b) := cutL_some h
  have hlen : a.length + b.length + 1 = l.length := by rw [HL.out]; simp; omega
  clear h
  go_enter Tryz.func152, Tryz.ntmps152
  go_wp2_with fail
  refine (Tryz.stringslite_Index_one _ 47 _).mono ?_
  rintro e w' ⟨rfl, rfl⟩
  rw [show Lib.indexByte ({ data := l.toArray } : ByteArray).data.toList 47 = a.length from by simpa using HI.out]
  go_wp2_with fail
  go_quiet (fail)
  go_wp2
  go_ret3
  refine ⟨?_, nq, rfl⟩
  have e1 : ({ data := l.toArray } : ByteArray).extract 0 a.length = ⟨a.toArray⟩ := by
    rw [extract_list, HL.out]; simp
  have e2 : ({ data := l.toArray } : ByteArray).extract (a.length + 1) l.length = ⟨b.toArray⟩ := by
    rw [extract_list, HL.out]
    simp
    rw [List.take_of_length_le (by omega)]
  rw [← e1, ← e2]
  rfl

theorem cut_none (l : List UInt8) (w : World) (h : cutL l = none) : Calls Tryz.prog 136 #[.string ⟨l.toArray⟩, .string ⟨#[47]⟩] w fun e w' => e = .returned (.tuple #[.string ⟨l.toArray⟩, .string ⟨#[]⟩, .bool false]) ∧ w' = w := by
  have H : Hid (cutL l = none) := h
  clear h
  go_enter Tryz.func136, Tryz.ntmps136
  go_wp2_with fail
  refine (slCut_none _ _ H.out).mono ?_
  rintro e w' ⟨rfl, rfl⟩
  go_wp2
  go_ret3
  exact ⟨rfl, rfl⟩

theorem cut_some (l a b : List UInt8) (w : World) (hl : l.length ≤ 100000) (h : cutL l = some (a, b)) : Calls Tryz.prog 136 #[.string ⟨l.toArray⟩, .string ⟨#[47]⟩] w fun e w' => e = .returned (.tuple #[.string ⟨a.toArray⟩, .string ⟨b.toArray⟩, .bool true]) ∧ ∃ n, w' = w.drewN n := by
  have H : Hid (cutL l = some (a, b)) := h
  clear h
  go_enter Tryz.func136, Tryz.ntmps136
  go_wp2_with fail
  refine (slCut_some _ _ _ _ hl H.out).mono ?_
  rintro e w' ⟨rfl, nq, rfl⟩
  go_wp2
  go_ret3
  exact ⟨rfl, nq, rfl⟩

/-- path.cut: the text is boxed; the function value captures the box. -/
theorem cut_fn (l : List UInt8) (w : World) : Calls Tryz.prog 138 #[.string ⟨l.toArray⟩] w fun e w' => e = .returned (.func (.func 153) #[] #[.pointer (some ⟨w.heap.size, 0, none⟩)]) ∧ w' = w.alloc (.cells #[.string ⟨l.toArray⟩] 9) := by
  go_enter Tryz.func138, Tryz.ntmps138
  go_wp2
  go_ret
  exact ⟨rfl, rfl⟩

/-- A piece, no longer than a text may be here. -/
abbrev Pc := { x : List UInt8 // x.length ≤ 100000 }

def strLen : Value → Nat | .string s => s.size | _ => 0
theorem strLen_list (l : List UInt8) : strLen (.string ⟨l.toArray⟩) = l.length := by simp [strLen, ByteArray.size]
def roundsLeft (rest more : Value) : Nat := match more with | .bool true => strLen rest + 1 | _ => 0

theorem grownBy_drewN (w : World) (n : Nat) : w.grownBy (w.drewN n) none := ⟨rfl, rfl, rfl, Nat.le_refl _, fun _ _ _ => rfl⟩

attribute [local go_sem] Oper.semAt_some

set_option maxRecDepth 100000 in
set_option maxHeartbeats 1000000 in
/-- The iterator: every piece in its order, or a prefix of them, where a round says no more. -/
theorem cut1_in (n : Nat) (hn : 1 ≤ n) (l Bn : Nat) (s : List UInt8) (hs : s.length ≤ 100000) (J Jx : List Pc → World → Prop) (n₀ : Nat) (W : World) (hJ : AbidesFrom W.heap.size J)
    (hY : ∀ pre x W1, J pre W1 → pre.length < (pieces s).length → YieldAt Fence.wide (n - 1) Tryz.prog l #[.string ⟨x.1.toArray⟩] W1 fun e W' =>
      (e = .returned (.bool true) ∧ J (pre ++ [x]) W' ∧ Below n₀ W1 W') ∨ (e = .returned (.bool false) ∧ Jx (pre ++ [x]) W'))
    (hB : W.cell? ⟨Bn, 0, none⟩ = some (.string ⟨s.toArray⟩)) (h0 : J [] W) :
    CallsIn Fence.wide n Tryz.prog 153 #[.func (.yield l) #[] #[], .pointer (some ⟨Bn, 0, none⟩)] W fun e W' => (∃ v, e = .returned v) ∧
      ((∃ ys, ys.map (·.1) = pieces s ∧ J ys W') ∨ (∃ pre, pre.map (·.1) <+: pieces s ∧ Jx pre W')) := by
  refine callsIn_of_wp Tryz.func153 rfl trivial ?_ rfl
  simp only [Tryz.ntmps153, List.size_toArray, List.length_cons, List.length_nil, Nat.reduceAdd, Nat.reduceSub, Array.replicate_succ, Array.replicate_zero, List.push_toArray, List.append_toArray, List.nil_append, List.cons_append]
  have HJ : Hid (AbidesFrom W.heap.size J) := hJ
  have HY : Hid (∀ pre x W1, J pre W1 → pre.length < (pieces s).length → YieldAt Fence.wide (n - 1) Tryz.prog l #[.string ⟨x.1.toArray⟩] W1 fun e W' =>
      (e = .returned (.bool true) ∧ J (pre ++ [x]) W' ∧ Below n₀ W1 W') ∨ (e = .returned (.bool false) ∧ Jx (pre ++ [x]) W')) := hY
  clear hJ hY
  gi_wp2
  gi_loopw [3, 4] (fun rest more wr => ∃ pre : List Pc, J pre wr ∧ ((more = .bool false ∧ pre.map (·.1) = pieces s) ∨ (∃ t : List UInt8, more = .bool true ∧ rest = .string ⟨t.toArray⟩ ∧ t.length ≤ 100000 ∧ pieces s = pre.map (·.1) ++ pieces t)))
    (fun rest more _ => roundsLeft rest more)
  case atStart =>
    exact ⟨[], h0, .inr ⟨s, rfl, rfl, hs, by simp⟩⟩
  case round =>
    obtain ⟨pre, hJp, ⟨rfl, hp⟩ | ⟨t, rfl, rfl, ht, hp⟩⟩ := hrel
    · have HP : Hid (pre.map (·.1) = pieces s) := hp
      clear hp
      gi_wp2
      go_end0
      exact ⟨⟨_, rfl⟩, .inl ⟨pre, HP.out, hJp⟩⟩
    · have HP : Hid (pieces s = pre.map (·.1) ++ pieces t) := hp
      clear hp
      cases hc : cutL t with
      | none =>
        have HC : Hid (cutL t = none) := hc
        clear hc
        gi_wp2_with fail
        refine ⟨trivial, (callsIn_wide.2 (cut_none _ _ HC.out)).mono ?_⟩
        rintro e w' ⟨rfl, rfl⟩
        have hlen : pre.length < (pieces s).length := by
          rw [HP.out, pieces_none HC.out]; simp
        obtain ⟨fn, tmps, assign, body, hy, hR⟩ := HY.out pre ⟨t, ht⟩ w' hJp hlen
        gi_wp2
        refine hR.mono ?_
        rintro e W3 (⟨rfl, hJ3, hk3⟩ | ⟨rfl, hJx3⟩)
        · clear hy hR
          gi_wp2
          go_roundw
          case rel => exact ⟨pre ++ [⟨t, ht⟩], hJ3, .inl ⟨rfl, by rw [HP.out, pieces_none HC.out]; simp⟩⟩
          case measure => simp [roundsLeft]
        · clear hy hR
          gi_wp2
          refine bodyPost_ret (results_none rfl _ _ _) rfl ?_
          exact ⟨⟨_, rfl⟩, .inr ⟨pre ++ [⟨t, ht⟩], by rw [HP.out, pieces_none HC.out]; simp, hJx3⟩⟩
      | some ab =>
        obtain ⟨a, b⟩ := ab
        have HC : Hid (cutL t = some (a, b)) := hc
        have hab : a.length + b.length + 1 = t.length := by rw [cutL_some hc]; simp; omega
        have ha : a.length ≤ 100000 := by omega
        clear hc
        gi_wp2_with fail
        refine ⟨trivial, (callsIn_wide.2 (cut_some _ _ _ _ ht HC.out)).mono ?_⟩
        rintro e w' ⟨rfl, nq, rfl⟩
        have hlen : pre.length < (pieces s).length := by
          rw [HP.out, pieces_some HC.out]; simp
        have hJd : J pre (wr.drewN nq) := HJ.out pre wr _ none hJp (grownBy_drewN _ _) (fun _ h => by cases h)
        obtain ⟨fn, tmps, assign, body, hy, hR⟩ := HY.out pre ⟨a, ha⟩ (wr.drewN nq) hJd hlen
        gi_wp2
        refine hR.mono ?_
        rintro e W3 (⟨rfl, hJ3, hk3⟩ | ⟨rfl, hJx3⟩)
        · clear hy hR
          gi_wp2
          go_roundw
          case rel => exact ⟨pre ++ [⟨a, ha⟩], hJ3, .inr ⟨b, rfl, rfl, by omega, by rw [HP.out, pieces_some HC.out]; simp⟩⟩
          case measure => simp only [roundsLeft, strLen_list]; omega
        · clear hy hR
          gi_wp2
          refine bodyPost_ret (results_none rfl _ _ _) rfl ?_
          exact ⟨⟨_, rfl⟩, .inr ⟨pre ++ [⟨a, ha⟩], by rw [HP.out, pieces_some HC.out]; simp, hJx3⟩⟩

/-- The function value that path.cut hands back. -/
theorem cut_stops (n : Nat) (hn : 1 ≤ n) (Bn n₀ : Nat) (s : List UInt8) (hs : s.length ≤ 100000) (w : World) (hBn : Bn < w.heap.size) (hc : w.cell? ⟨Bn, 0, none⟩ = some (.string ⟨s.toArray⟩)) :
    SeqStopsK Fence.wide n Tryz.prog 153 #[.pointer (some ⟨Bn, 0, none⟩)] (fun x : Pc => #[Value.string ⟨x.1.toArray⟩]) (Below n₀) (fun ys => ys.map (·.1) = pieces s) (fun pre => pre.map (·.1) <+: pieces s) (pieces s).length w := fun l J Jx W hW hJ _ hY h0 =>
  cut1_in n hn l Bn s hs J Jx n₀ W hJ hY ((hW.cell (p := ⟨Bn, 0, none⟩) hBn).trans hc) h0
end Go.Proofs.YtaegcoidpjcbaaaGreatDoor
