/-
  Own texts of the proof, joined by program: TreeMem, TreeSlots, PkSame, RefSame.
-/
import Derived.Test.YtncgofmpigpghaaGreatDoorTreePureTreeSort
import Derived.Deep.QuietTactic
import Derived.BigQuiet
import Derived.WalkLawsBesides
import Derived.Laws.StructEq
/-
  Files in memory: three cells each, one behind the other; two files compared: over this seat's translation.
-/
namespace Go.Proofs.YtncgofmpigpghaaGreatDoor
open Go.RowKit Go.Shelf

/-- Files that lie in memory from an address on. -/
def LiesAt (w : World) (a : Option Addr) (l : List F) : Prop :=
  l ≠ [] → ∃ b o, a = some ⟨b, o, none⟩ ∧ ∀ k (h : k < l.length), w.cell? ⟨b, o + k * 3, none⟩ = some (sv l[k].p) ∧ w.cell? ⟨b, o + k * 3 + 1, none⟩ = some (.bool l[k].r) ∧ w.cell? ⟨b, o + k * 3 + 2, none⟩ = some (sv l[k].t)

theorem LiesAt.below {w w' : World} {a : Option Addr} {l : List F} (h : LiesAt w a l) (hb : Below w.heap.size w w') : LiesAt w' a l := fun hl => by
  obtain ⟨b, o, e, hc⟩ := h hl
  refine ⟨b, o, e, fun k hk => ?_⟩
  obtain ⟨h0, h1, h2⟩ := hc k hk
  exact ⟨(hb.cell (p := ⟨b, o + k * 3, none⟩) (block_lt_of_cell h0)).trans h0, (hb.cell (p := ⟨b, o + k * 3 + 1, none⟩) (block_lt_of_cell h1)).trans h1, (hb.cell (p := ⟨b, o + k * 3 + 2, none⟩) (block_lt_of_cell h2)).trans h2⟩

theorem LiesAt.at {w : World} {a : Option Addr} {l : List F} (h : LiesAt w a l) {k : Nat} (hk : k < l.length) : ∃ b o, a = some ⟨b, o, none⟩ ∧ w.cell? ⟨b, o + k * 3, none⟩ = some (sv l[k].p) ∧ w.cell? ⟨b, o + k * 3 + 1, none⟩ = some (.bool l[k].r) ∧ w.cell? ⟨b, o + k * 3 + 2, none⟩ = some (sv l[k].t) := by
  obtain ⟨b, o, e, hc⟩ := h (fun e => by simp [e] at hk)
  exact ⟨b, o, e, hc k hk⟩

theorem Tryz.heldFile : Tryz.prog.stoodInHeld 24 = false := by kernel_rfl
theorem Tryz.guardFile : Tryz.prog.eqGuardType Tryz.prog.depth 24 = false := by kernel_rfl

/-- A file as a value. -/
abbrev fv (f : F) : Value := .agg #[sv f.p, .bool f.r, sv f.t]

theorem file_equal (f g : F) (w : World) : (Op.equalIn 10000 24 (fv f) (fv g)).run Tryz.prog w = .ok (decide (f = g)) w := by
  rw [run_equalIn_agg w 9999 24 _ _ (by kernel_rfl) Tryz.heldFile]
  simp only [Program.fieldsOf, Tryz.underlying24, Op.eqFields]
  have e9 := fun d a b w => run_equalIn_string (P := Tryz.prog) w d 9 a b Tryz.underlying9
  have e4 := fun d a b w => run_equalIn_bool' (P := Tryz.prog) w d 4 a b Tryz.underlying4
  simp [part, isAgg, run_underlying Tryz.underlying9, run_underlying Tryz.underlying4, e9, e4]
  obtain ⟨p1, r1, t1⟩ := f
  obtain ⟨p2, r2, t2⟩ := g
  by_cases h1 : p1 = p2 <;> by_cases h2 : r1 = r2 <;> by_cases h3 : t1 = t2 <;> simp [h1, h2, h3]

theorem file_neq (f g : F) (r : Bool) (h : decide (f = g) = r) (w : World) : (binOp .neq 24 (fv f) (fv g)).run Tryz.prog w = .ok (.bool (!r)) w := by
  rw [run_neq_struct, file_equal, h]
  rfl
end Go.Proofs.YtncgofmpigpghaaGreatDoor
/-
  A struct result's cells; trees of some length: what the walks of trees use.
-/
namespace Go.Proofs.YtncgofmpigpghaaGreatDoor
open Go.RowKit Go.Shelf

/-- Texts of some length. -/
structure Small (l : List F) : Prop where
  few : l.length ≤ 1000
  path : ∀ f ∈ l, f.p.length ≤ 400
  text : ∀ f ∈ l, f.t.length ≤ 5000

theorem heap_new (w : World) (o : Obj) : (w.alloc o).heap[w.heap.size]? = some o := by
  show (w.heap.push o)[w.heap.size]? = _
  simp

/-- A result's own two cells, still as they were laid. -/
theorem slot_two {w wr : World} {u v : Value} {T : TypeId} (h : Below (w.heap.size + 1) (w.alloc (.cells #[u, v] T)) wr) :
    wr.cell? ⟨w.heap.size, 0, none⟩ = some u ∧ wr.cell? ⟨w.heap.size, 1, none⟩ = some v ∧ wr.frozen? ⟨w.heap.size, 0, none⟩ = false ∧ wr.frozen? ⟨w.heap.size, 1, none⟩ = false ∧ Below w.heap.size w wr := by
  have e := h.block w.heap.size (Nat.lt_succ_self _)
  have e' : (w.alloc (.cells #[u, v] T)).heap[w.heap.size]? = some (.cells #[u, v] T) := heap_new w _
  rw [e'] at e
  refine ⟨by simp [World.cell?, e], by simp [World.cell?, e], by simp [World.frozen?, e], by simp [World.frozen?, e], ?_⟩
  exact ((Below.refl _ _).alloc (Nat.le_refl _) _).trans (h.mono (by omega))

theorem slot_set {w wr : World} {b : Nat} {u v : Value} (x y : Value) (h0 : wr.cell? ⟨b, 0, none⟩ = some u) (h1 : wr.cell? ⟨b, 1, none⟩ = some v) (hb : Below b w wr) :
    (wr.setCell ⟨b, 0, none⟩ x).cell? ⟨b, 0, none⟩ = some x ∧ ((wr.setCell ⟨b, 0, none⟩ x).setCell ⟨b, 1, none⟩ y).cell? ⟨b, 1, none⟩ = some y ∧ Below b w ((wr.setCell ⟨b, 0, none⟩ x).setCell ⟨b, 1, none⟩ y) := by
  refine ⟨World.cell?_setCell_same' _ _ _ (by rw [h0]; rfl), World.cell?_setCell_same' _ _ _ ?_, (hb.setCell (p := ⟨b, 0, none⟩) (Nat.le_refl _) _).setCell (p := ⟨b, 1, none⟩) (Nat.le_refl _) _⟩
  rw [World.cell?_setCell_other (h := by simp), h1]
  rfl

theorem slot_setN {w wr : World} {b : Nat} {u v : Value} (x y : Value) (h0 : wr.cell? ⟨b, 0, none⟩ = some u) (h1 : wr.cell? ⟨b, 1, none⟩ = some v) (hb : Below b w wr) (n : Nat) :
    ((wr.drewN n).setCell ⟨b, 0, none⟩ x).cell? ⟨b, 0, none⟩ = some x ∧ (((wr.drewN n).setCell ⟨b, 0, none⟩ x).setCell ⟨b, 1, none⟩ y).cell? ⟨b, 1, none⟩ = some y ∧ Below b w (((wr.drewN n).setCell ⟨b, 0, none⟩ x).setCell ⟨b, 1, none⟩ y) :=
  slot_set (wr := wr.drewN n) x y h0 h1 (below_drewN hb n)

theorem total_take {l : List F} (h : ∀ f ∈ l, f.t.length ≤ 5000) (k : Nat) : total (l.take k) ≤ 5000 * k := by
  induction k with
  | zero => simp [total]
  | succ k ih =>
    by_cases hk : k < l.length
    · rw [List.take_succ_eq_append_getElem hk]
      have := h _ (List.getElem_mem hk)
      simp only [total, List.map_append, List.sum_append, List.map_cons, List.map_nil, List.sum_cons, List.sum_nil] at ih ⊢
      omega
    · rw [List.take_of_length_le (by omega)] at ih ⊢
      omega
theorem total_succ {l : List F} {k : Nat} (hk : k < l.length) : total (l.take (k + 1)) = total (l.take k) + l[k].t.length := by
  rw [List.take_succ_eq_append_getElem hk]
  simp only [total, List.map_append, List.sum_append, List.map_cons, List.map_nil, List.sum_cons, List.sum_nil]
  omega

theorem more_below {w wr w1 : World} {n : Nat} {o : Obj} (h : Below (n + 1) (w.alloc o) wr) (hn : n = w.heap.size) (hb : Below wr.heap.size wr w1) : Below (n + 1) (w.alloc o) w1 :=
  h.trans (hb.mono (by have := h.size; simp at this; omega))
end Go.Proofs.YtncgofmpigpghaaGreatDoor
/-
  Package tree's Same, by package slices' Equal: over this seat's translation.
-/
namespace Go.Proofs.YtncgofmpigpghaaGreatDoor
open Go.RowKit Go.Shelf

set_option maxHeartbeats 1000000 in
theorem equal_any (l m : List F) (a b : Option Addr) (ca cb : Nat) (w : World) (hl : LiesAt w a l) (hm : LiesAt w b m) (hll : l.length ≤ 1000) (hml : m.length ≤ 1000) :
    Calls Tryz.prog 35 #[.slice a l.length ca, .slice b m.length cb] w fun e w' => e = .returned (.bool (decide (l = m))) ∧ Below w.heap.size w w' := by
  by_cases hlen : l.length = m.length
  · have HL : Hid (LiesAt w a l) := hl
    have HM : Hid (LiesAt w b m) := hm
    clear hl hm
    have HLEN : Hid (l.length = m.length) := hlen
    rw [← hlen]
    clear hlen
    go_enter Tryz.func35, Tryz.ntmps35
    go_wp2_with fail
    go_loopw [13] (fun i wr => ∃ q : Nat, q ≤ l.length ∧ i = .int .i64 q ∧ l.take q = m.take q ∧ Below w.heap.size w wr) (fun i _ => l.length - (intOf i).toNat)
    case atStart => exact ⟨0, by omega, rfl, by simp, Below.refl _ _⟩
    case round =>
      obtain ⟨q, hq, rfl, ht, hb⟩ := hrel
      have HB : Hid (Below w.heap.size w wr) := hb
      have HT : Hid (l.take q = m.take q) := ht
      clear hb ht
      by_cases hlt : q < l.length
      · have hlt2 : q < m.length := HLEN.out ▸ hlt
        obtain ⟨b1, o1, rfl, c0, c1, c2⟩ := (HL.out.below HB.out).at hlt
        obtain ⟨b2, o2, rfl, d0, d1, d2⟩ := (HM.out.below HB.out).at hlt2
        have hlt' : (q : Int) < (l.length : Int) := by omega
        by_cases he : l[q] = m[q]
        · have hne := file_neq l[q] m[q] true (by simp [he])
          have hg := fun op x y w => run_eqGuard_agg (P := Tryz.prog) w op 24 x y #[sv l[q].p, .bool l[q].r, sv l[q].t] #[sv m[q].p, .bool m[q].r, sv m[q].t] Tryz.guardFile
          have HN : Hid (l.take (q + 1) = m.take (q + 1)) := by
            show l.take (q + 1) = m.take (q + 1)
            rw [List.take_succ_eq_append_getElem hlt, List.take_succ_eq_append_getElem hlt2, HT.out, he]
          clear he
          generalize l[q] = x at hne c0 c1 c2 hg
          generalize m[q] = y at hne d0 d1 d2 hg
          go_wp2_with fail
          go_quiet (fail)
          go_wp2
          go_roundw
          case rel => exact ⟨q + 1, by omega, by go_num, HN.out, below_drewN HB.out _⟩
          case measure => simp [intOf]; omega
        · have hne := file_neq l[q] m[q] false (by simp [he])
          have hg := fun op x y w => run_eqGuard_agg (P := Tryz.prog) w op 24 x y #[sv l[q].p, .bool l[q].r, sv l[q].t] #[sv m[q].p, .bool m[q].r, sv m[q].t] Tryz.guardFile
          have HN : Hid (decide (l = m) = false) := by
            show decide (l = m) = false
            rw [decide_eq_false_iff_not]
            intro e
            subst e
            exact he rfl
          clear he
          generalize l[q] = x at hne c0 c1 c2 hg
          generalize m[q] = y at hne d0 d1 d2 hg
          go_wp2_with fail
          go_quiet (fail)
          go_wp2
          go_ret
          exact ⟨ret_bool HN.out.symm, below_drewN HB.out _⟩
      · have hql : q = l.length := by omega
        have HN : Hid (decide (l = m) = true) := by
          show decide (l = m) = true
          rw [decide_eq_true_iff]
          have := HT.out
          rw [hql, List.take_length, HLEN.out, List.take_length] at this
          exact this
        clear hql
        go_wp2
        go_ret
        exact ⟨ret_bool HN.out.symm, HB.out⟩
  · have HN : Hid (decide (l = m) = false) := by
      show decide (l = m) = false
      rw [decide_eq_false_iff_not]
      intro e
      exact hlen (by rw [e])
    have hlen' : ((l.length : Int) == (m.length : Int)) = false := by simp; omega
    clear hl hm
    go_enter Tryz.func35, Tryz.ntmps35
    go_wp2
    go_ret
    exact ⟨ret_bool HN.out.symm, Below.refl _ _⟩

theorem same_any (l m : List F) (a b : Option Addr) (ca cb : Nat) (w : World) (hl : LiesAt w a l) (hm : LiesAt w b m) (hll : l.length ≤ 1000) (hml : m.length ≤ 1000) :
    Calls Tryz.prog 11 #[.slice a l.length ca, .slice b m.length cb] w fun e w' => e = .returned (.bool (decide (l = m))) ∧ Below w.heap.size w w' := by
  have HL : Hid (LiesAt w a l) := hl
  have HM : Hid (LiesAt w b m) := hm
  clear hl hm
  go_enter Tryz.func11, Tryz.ntmps11
  go_wp2_with fail
  refine (equal_any l m a b ca cb _ HL.out HM.out hll hml).mono ?_
  rintro e w1 ⟨rfl, hb1⟩
  go_wp2
  go_ret
  exact ⟨rfl, hb1⟩
end Go.Proofs.YtncgofmpigpghaaGreatDoor
/-
  The document's answer's SameTrees: over this seat's translation.
-/
namespace Go.Proofs.YtncgofmpigpghaaGreatDoor
open Go.RowKit Go.Shelf

set_option maxHeartbeats 1000000 in
theorem sameTrees_any (l m : List F) (a b : Option Addr) (ca cb : Nat) (w : World) (hl : LiesAt w a l) (hm : LiesAt w b m) (hll : l.length ≤ 1000) (hml : m.length ≤ 1000) :
    Calls Tryz.prog 19 #[.slice a l.length ca, .slice b m.length cb] w fun e w' => e = .returned (.bool (decide (l = m))) ∧ Below w.heap.size w w' := by
  by_cases hlen : l.length = m.length
  · have HL : Hid (LiesAt w a l) := hl
    have HM : Hid (LiesAt w b m) := hm
    clear hl hm
    have HLEN : Hid (l.length = m.length) := hlen
    rw [← hlen]
    clear hlen
    go_enter Tryz.func19, Tryz.ntmps19
    go_wp2_with fail
    go_loopw [5] (fun i wr => ∃ q : Nat, q ≤ l.length ∧ i = .int .i64 q ∧ l.take q = m.take q ∧ Below w.heap.size w wr) (fun i _ => l.length - (intOf i).toNat)
    case atStart => exact ⟨0, by omega, rfl, by simp, Below.refl _ _⟩
    case round =>
      obtain ⟨q, hq, rfl, ht, hb⟩ := hrel
      have HB : Hid (Below w.heap.size w wr) := hb
      have HT : Hid (l.take q = m.take q) := ht
      clear hb ht
      by_cases hlt : q < l.length
      · have hlt2 : q < m.length := HLEN.out ▸ hlt
        obtain ⟨b1, o1, rfl, c0, c1, c2⟩ := (HL.out.below HB.out).at hlt
        obtain ⟨b2, o2, rfl, d0, d1, d2⟩ := (HM.out.below HB.out).at hlt2
        have hlt' : (q : Int) < (l.length : Int) := by omega
        by_cases he : l[q] = m[q]
        · have hne := file_neq l[q] m[q] true (by simp [he])
          have hg := fun op x y w => run_eqGuard_agg (P := Tryz.prog) w op 24 x y #[sv l[q].p, .bool l[q].r, sv l[q].t] #[sv m[q].p, .bool m[q].r, sv m[q].t] Tryz.guardFile
          have HN : Hid (l.take (q + 1) = m.take (q + 1)) := by
            show l.take (q + 1) = m.take (q + 1)
            rw [List.take_succ_eq_append_getElem hlt, List.take_succ_eq_append_getElem hlt2, HT.out, he]
          clear he
          generalize l[q] = x at hne c0 c1 c2 hg
          generalize m[q] = y at hne d0 d1 d2 hg
          go_wp2_with fail
          go_quiet (fail)
          go_wp2
          go_roundw
          case rel => exact ⟨q + 1, by omega, by go_num, HN.out, below_drewN HB.out _⟩
          case measure => simp [intOf]; omega
        · have hne := file_neq l[q] m[q] false (by simp [he])
          have hg := fun op x y w => run_eqGuard_agg (P := Tryz.prog) w op 24 x y #[sv l[q].p, .bool l[q].r, sv l[q].t] #[sv m[q].p, .bool m[q].r, sv m[q].t] Tryz.guardFile
          have HN : Hid (decide (l = m) = false) := by
            show decide (l = m) = false
            rw [decide_eq_false_iff_not]
            intro e
            subst e
            exact he rfl
          clear he
          generalize l[q] = x at hne c0 c1 c2 hg
          generalize m[q] = y at hne d0 d1 d2 hg
          go_wp2_with fail
          go_quiet (fail)
          go_wp2
          go_ret
          exact ⟨ret_bool HN.out.symm, below_drewN HB.out _⟩
      · have hql : q = l.length := by omega
        have HN : Hid (decide (l = m) = true) := by
          show decide (l = m) = true
          rw [decide_eq_true_iff]
          have := HT.out
          rw [hql, List.take_length, HLEN.out, List.take_length] at this
          exact this
        clear hql
        go_wp2
        go_ret
        exact ⟨ret_bool HN.out.symm, HB.out⟩
  · have HN : Hid (decide (l = m) = false) := by
      show decide (l = m) = false
      rw [decide_eq_false_iff_not]
      intro e
      exact hlen (by rw [e])
    have hlen' : ((l.length : Int) == (m.length : Int)) = false := by simp; omega
    clear hl hm
    go_enter Tryz.func19, Tryz.ntmps19
    go_wp2
    go_ret
    exact ⟨ret_bool HN.out.symm, Below.refl _ _⟩
end Go.Proofs.YtncgofmpigpghaaGreatDoor
