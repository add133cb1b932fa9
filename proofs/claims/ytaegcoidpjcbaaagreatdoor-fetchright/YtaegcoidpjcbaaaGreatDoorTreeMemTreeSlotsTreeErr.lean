/-
  Own texts of the proof, joined by program: TreeMem, TreeSlots, TreeErr.
-/
import Derived.Test.YtaegcoidpjcbaaaGreatDoorTreePureTreeSortTreeFactsTreeInsertTreeAt
import Derived.Deep.QuietTactic
import Derived.BigQuiet
import Derived.WalkLawsBesides
import Derived.Laws.StructEq
import Derived.Test.YtaegcoidpjcbaaaGreatDoorSlotsFaultedErrAt
import Derived.Test.YtaegcoidpjcbaaaGreatDoorPaths
/-
  Files in memory: three cells each, one behind the other; two files compared: over this seat's translation.
-/
namespace Go.Proofs.YtaegcoidpjcbaaaGreatDoor
open Go.RowKit Go.Shelf

/-- Files that lie in memory from an address on. -/
def LiesAt (w : World) (a : Option Addr) (l : List F) : Prop :=
  l ≠ [] → ∃ b o, a = some ⟨b, o, none⟩ ∧ ∀ k (h : k < l.length), w.cell? ⟨b, o + k * 3, none⟩ = some (sv l[k].p) ∧ w.cell? ⟨b, o + k * 3 + 1, none⟩ = some (.bool l[k].r) ∧ w.cell? ⟨b, o + k * 3 + 2, none⟩ = some (sv l[k].t)

theorem LiesAt.below {w w' : World} {a : Option Addr} {l : List F} (h : LiesAt w a l) (hb : Below w.heap.size w w') : LiesAt w' a l := fun hl => by
  obtain ⟨b, o, e, hc⟩ := h hl
  refine ⟨b, o, e, fun k hk => ?_⟩
  obtain ⟨h0, h1, h2⟩ := hc k hk
  exact ⟨(hb.cell (p := ⟨b, o + k * 3, none⟩) (block_lt_of_cell h0)).trans h0, (hb.cell (p := ⟨b, o + k * 3 + 1, none⟩) (block_lt_of_cell h1)).trans h1, (hb.cell (p := ⟨b, o + k * 3 + 2, none⟩) (block_lt_of_cell h2)).trans h2⟩

theorem LiesAt.at {w : World} {a : Option Addr} {l : List F} (h : LiesAt w a l) {k : Nat} (hk : k < l.length) : ∃ b o, a = some ⟨b, o, none⟩ ∧ w.cell? ⟨b, o + k * 3, none⟩ = some (sv l[k].p) ∧ w.cell? ⟨b, o + k * 3 + 1, none⟩ = some (.bool l[k].r) ∧ w.cell? ⟨b, o + k * 3 + 2, none⟩ = some (sv l[k].t) := by
  obtain ⟨b, o, e, hc⟩ := h (fun e => by simp [e] at hk)
  exact ⟨b, o, e, hc k hk⟩

theorem Tryz.heldFile : Tryz.prog.stoodInHeld 68 = false := by kernel_rfl
theorem Tryz.guardFile : Tryz.prog.eqGuardType Tryz.prog.depth 68 = false := by kernel_rfl

/-- A file as a value. -/
abbrev fv (f : F) : Value := .agg #[sv f.p, .bool f.r, sv f.t]

open Classical in
theorem file_equal (f g : F) (w : World) : (Op.equalIn 10000 68 (fv f) (fv g)).run Tryz.prog w = .ok (decide (f = g)) w := by
  rw [run_equalIn_agg w 9999 68 _ _ (by kernel_rfl) Tryz.heldFile]
  simp only [Program.fieldsOf, Tryz.underlying68, Op.eqFields]
  have e9 := fun d a b w => run_equalIn_string (P := Tryz.prog) w d 9 a b Tryz.underlying9
  have e4 := fun d a b w => run_equalIn_bool' (P := Tryz.prog) w d 4 a b Tryz.underlying4
  simp [part, isAgg, run_underlying Tryz.underlying9, run_underlying Tryz.underlying4, e9, e4]
  obtain ⟨p1, r1, t1⟩ := f
  obtain ⟨p2, r2, t2⟩ := g
  by_cases h1 : p1 = p2 <;> by_cases h2 : r1 = r2 <;> by_cases h3 : t1 = t2 <;> simp [h1, h2, h3]

open Classical in
theorem file_neq (f g : F) (r : Bool) (h : decide (f = g) = r) (w : World) : (binOp .neq 68 (fv f) (fv g)).run Tryz.prog w = .ok (.bool (!r)) w := by
  rw [run_neq_struct, file_equal, h]
  rfl
end Go.Proofs.YtaegcoidpjcbaaaGreatDoor
/-
  A struct result's cells; trees of some length: what the walks of trees use.
-/
namespace Go.Proofs.YtaegcoidpjcbaaaGreatDoor
open Go.RowKit Go.Shelf

/-- Texts of some length. -/
structure Small (l : List F) : Prop where
  few : l.length ≤ 100000
  path : ∀ f ∈ l, f.p.length ≤ 40000
  text : ∀ f ∈ l, f.t.length ≤ 500000

theorem total_take {l : List F} (h : ∀ f ∈ l, f.t.length ≤ 500000) (k : Nat) : total (l.take k) ≤ 500000 * k := by
  induction k with
  | zero => simp [total]
  | succ k ih =>
    by_cases hk : k < l.length
    · rw [List.take_succ_eq_append_getElem hk]
      have := h _ (List.getElem_mem hk)
      simp only [total, List.map_append, List.sum_append, List.map_cons, List.map_nil, List.sum_cons, List.sum_nil] at ih ⊢
      omega
    · rw [List.take_of_length_le (by omega)] at ih ⊢
      omega
theorem total_succ {l : List F} {k : Nat} (hk : k < l.length) : total (l.take (k + 1)) = total (l.take k) + l[k].t.length := by
  rw [List.take_succ_eq_append_getElem hk]
  simp only [total, List.map_append, List.sum_append, List.map_cons, List.map_nil, List.sum_cons, List.sum_nil]
  omega

theorem more_below {w wr w1 : World} {n : Nat} {o : Obj} (h : Below (n + 1) (w.alloc o) wr) (hn : n = w.heap.size) (hb : Below wr.heap.size wr w1) : Below (n + 1) (w.alloc o) w1 :=
  h.trans (hb.mono (by have := h.size; simp at this; omega))
end Go.Proofs.YtaegcoidpjcbaaaGreatDoor
/-
  Package fault's Bare: over this seat's translation.
-/
namespace Go.Proofs.YtaegcoidpjcbaaaGreatDoor
open Go.RowKit Go.Shelf

theorem bare_of {p : Nat → Addr} {w : World} {v : Value} {c : Nat} {i : Int} (h : ErrAt p w v c i) (hE : Env p w) :
    Calls Tryz.prog 147 #[v] w fun e w' => e = .returned (errV p c) ∧ Below w.heap.size w w' := by
  have HE0 : Hid (Env p (w.alloc (.cells #[.pointer none] 146))) := hE.below ((Below.refl _ _).alloc (Nat.le_refl _) _)
  clear hE
  rcases h with ⟨rfl, rfl, rfl⟩ | ⟨j, rfl, hj, rfl, rfl⟩ | ⟨j, b, o, rfl, hj, rfl, h0, h1⟩
  · go_enter Tryz.func147, Tryz.ntmps147
    go_wp2
    go_ret
    exact ⟨rfl, (Below.refl _ _).alloc (Nat.le_refl _) _⟩
  · go_enter Tryz.func147, Tryz.ntmps147
    go_wp2_with fail
    refine (as_miss _ _ _ HE0.out.handle).mono ?_
    rintro e w1 ⟨rfl, hb1⟩
    go_wp2
    go_ret
    exact ⟨rfl, ((Below.refl _ w).alloc (Nat.le_refl _) _).trans (hb1.mono (by simp))⟩
  · have hpb : b < w.heap.size := block_lt_of_cell h1
    have HX1 : Hid (w.cell? ⟨b, o + 1, none⟩ = some (.iface 311 (.pointer (some (p j))))) := h1
    clear h0 h1
    go_enter Tryz.func147, Tryz.ntmps147
    go_wp2_with fail
    refine (as_hit ⟨b, o, none⟩ ⟨w.heap.size, 0, none⟩ (.pointer none) (w.alloc (.cells #[.pointer none] 146)) HE0.out.handle (by simp) (by simp)).mono ?_
    rintro e w1 ⟨rfl, hw1⟩
    have hcf : w1.cell? ⟨w.heap.size, 0, none⟩ = some (.pointer (some ⟨b, o, none⟩)) := by
      rw [hw1, World.cell?_setCell_same']
      rw [World.cell?_alloc_lt _ _ _ (by simp; omega), World.cell?_alloc_lt _ _ _ (by simp; omega), World.cell?_alloc_lt _ _ _ (by simp; omega), World.cell?_alloc_lt _ _ _ (by simp)]
      simp
    have hb1 : Below w.heap.size w w1 := by
      rw [hw1]
      exact ((((((Below.refl _ _).alloc (Nat.le_refl _) _).alloc (by simp) _).alloc (by simp; omega) _).alloc (by simp; omega) _).alloc (by simp; omega) _).setCell (Nat.le_refl _) _
    clear hw1
    have hx1 : w1.cell? ⟨b, o + 1, none⟩ = some (.iface 311 (.pointer (some (p j)))) := (hb1.cell (p := ⟨b, o + 1, none⟩) hpb).trans HX1.out
    have HB1 : Hid (Below w.heap.size w w1) := hb1
    clear hb1
    go_wp2
    go_ret
    exact ⟨rfl, HB1.out⟩
end Go.Proofs.YtaegcoidpjcbaaaGreatDoor
