/-
  Own texts of the proof, gathered by program in their build order: TreeSlots, Faulted, TreeErr, TreeAt, TreeOwn, Shelf2, PkNext, PkFile, PkCutFile, PkCheck, Told, PkPackRead, PackFacts, Packed, Written, PkMake, PkPackMake, RefPackText, RefCut, Parts.
-/
import Derived.Test.YtlofpooobabkjaaGreatDoorGathered2
import Derived.Test.YtlofpooobabkjaaGreatDoorGathered1
import Derived.Deep.Onto
import Derived.Shelf.SlicesQ.IndexFunc
import Derived.Test.YtlofpooobabkjaaGreatDoorProg
import Derived.StillTailTactics
import Derived.Shelf.Strings.BuilderK
import Derived.Shelf.Strings.BuilderF
import Derived.Deep.RegionHeld3
import Derived.OwnWalk
/-
  A struct result's cells; trees of some length: what the walks of trees use.
-/
namespace Go.Proofs.YtlofpooobabkjaaGreatDoor
open Go.RowKit Go.Shelf

/-- Texts of some length. -/
structure Small (l : List F) : Prop where
  few : l.length ≤ 100000
  path : ∀ f ∈ l, f.p.length ≤ 40000
  text : ∀ f ∈ l, f.t.length ≤ 500000

theorem heap_new (w : World) (o : Obj) : (w.alloc o).heap[w.heap.size]? = some o := by
  show (w.heap.push o)[w.heap.size]? = _
  simp

/-- A result's own two cells, still as they were laid. -/
theorem slot_two {w wr : World} {u v : Value} {T : TypeId} (h : Below (w.heap.size + 1) (w.alloc (.cells #[u, v] T)) wr) :
    wr.cell? ⟨w.heap.size, 0, none⟩ = some u ∧ wr.cell? ⟨w.heap.size, 1, none⟩ = some v ∧ wr.frozen? ⟨w.heap.size, 0, none⟩ = false ∧ wr.frozen? ⟨w.heap.size, 1, none⟩ = false ∧ Below w.heap.size w wr := by
  have e := h.block w.heap.size (Nat.lt_succ_self _)
  have e' : (w.alloc (.cells #[u, v] T)).heap[w.heap.size]? = some (.cells #[u, v] T) := heap_new w _
  rw [e'] at e
  refine ⟨by simp [World.cell?, e], by simp [World.cell?, e], by simp [World.frozen?, e], by simp [World.frozen?, e], ?_⟩
  exact ((Below.refl _ _).alloc (Nat.le_refl _) _).trans (h.mono (by omega))

theorem slot_set {w wr : World} {b : Nat} {u v : Value} (x y : Value) (h0 : wr.cell? ⟨b, 0, none⟩ = some u) (h1 : wr.cell? ⟨b, 1, none⟩ = some v) (hb : Below b w wr) :
    (wr.setCell ⟨b, 0, none⟩ x).cell? ⟨b, 0, none⟩ = some x ∧ ((wr.setCell ⟨b, 0, none⟩ x).setCell ⟨b, 1, none⟩ y).cell? ⟨b, 1, none⟩ = some y ∧ Below b w ((wr.setCell ⟨b, 0, none⟩ x).setCell ⟨b, 1, none⟩ y) := by
  refine ⟨World.cell?_setCell_same' _ _ _ (by rw [h0]; rfl), World.cell?_setCell_same' _ _ _ ?_, (hb.setCell (p := ⟨b, 0, none⟩) (Nat.le_refl _) _).setCell (p := ⟨b, 1, none⟩) (Nat.le_refl _) _⟩
  rw [World.cell?_setCell_other (h := by simp), h1]
  rfl

theorem slot_setN {w wr : World} {b : Nat} {u v : Value} (x y : Value) (h0 : wr.cell? ⟨b, 0, none⟩ = some u) (h1 : wr.cell? ⟨b, 1, none⟩ = some v) (hb : Below b w wr) (n : Nat) :
    ((wr.drewN n).setCell ⟨b, 0, none⟩ x).cell? ⟨b, 0, none⟩ = some x ∧ (((wr.drewN n).setCell ⟨b, 0, none⟩ x).setCell ⟨b, 1, none⟩ y).cell? ⟨b, 1, none⟩ = some y ∧ Below b w (((wr.drewN n).setCell ⟨b, 0, none⟩ x).setCell ⟨b, 1, none⟩ y) :=
  slot_set (wr := wr.drewN n) x y h0 h1 (below_drewN hb n)

theorem total_take {l : List F} (h : ∀ f ∈ l, f.t.length ≤ 500000) (k : Nat) : total (l.take k) ≤ 500000 * k := by
  induction k with
  | zero => simp [total]
  | succ k ih =>
    by_cases hk : k < l.length
    · rw [List.take_succ_eq_append_getElem hk]
      have := h _ (List.getElem_mem hk)
      simp only [total, List.map_append, List.sum_append, List.map_cons, List.map_nil, List.sum_cons, List.sum_nil] at ih ⊢
      omega
    · rw [List.take_of_length_le (by omega)] at ih ⊢
      omega
theorem total_succ {l : List F} {k : Nat} (hk : k < l.length) : total (l.take (k + 1)) = total (l.take k) + l[k].t.length := by
  rw [List.take_succ_eq_append_getElem hk]
  simp only [total, List.map_append, List.sum_append, List.map_cons, List.map_nil, List.sum_cons, List.sum_nil]
  omega

theorem more_below {w wr w1 : World} {n : Nat} {o : Obj} (h : Below (n + 1) (w.alloc o) wr) (hn : n = w.heap.size) (hb : Below wr.heap.size wr w1) : Below (n + 1) (w.alloc o) w1 :=
  h.trans (hb.mono (by have := h.size; simp at this; omega))
end Go.Proofs.YtlofpooobabkjaaGreatDoor
/-
  The law package's faulted: over this seat's translation.
-/
namespace Go.Proofs.YtlofpooobabkjaaGreatDoor
open Go.RowKit Go.Shelf

set_option maxRecDepth 100000 in
theorem faulted_yes (e : Value) (c n : Int) (w : World) (h : ∀ w1, Below w.heap.size w w1 → Calls Tryz.prog 21 #[e] w1 fun e w' => e = .returned (.tuple #[.int .i64 c, .int .i64 n]) ∧ Below w1.heap.size w1 w') :
    Calls Tryz.prog 9 #[e, .agg #[.int .i64 c, .int .i64 n]] w fun e w' => e = .returned (.bool true) ∧ Below w.heap.size w w' := by
  have H : Hid (∀ w1, Below w.heap.size w w1 → Calls Tryz.prog 21 #[e] w1 fun e w' => e = .returned (.tuple #[.int .i64 c, .int .i64 n]) ∧ Below w1.heap.size w1 w') := h
  clear h
  by_cases hc : c = 0
  · subst hc
    go_enter Tryz.func9, Tryz.ntmps9
    go_wp2_with fail
    refine (H.out _ ((Below.refl _ _).alloc (Nat.le_refl _) _)).mono ?_
    rintro e1 w1 ⟨rfl, hb1⟩
    obtain ⟨s0, s1, s2, s3, s4⟩ := slot_two (w := w) (hb1.mono (by simp))
    have HB : Hid (Below w.heap.size w w1) := s4
    clear hb1 s4
    go_wp2
    go_ret
    exact ⟨rfl, HB.out⟩
  · have hc' : (c == 0) = false := by simpa using hc
    go_enter Tryz.func9, Tryz.ntmps9
    go_wp2_with fail
    refine (H.out _ ((Below.refl _ _).alloc (Nat.le_refl _) _)).mono ?_
    rintro e1 w1 ⟨rfl, hb1⟩
    obtain ⟨s0, s1, s2, s3, s4⟩ := slot_two (w := w) (hb1.mono (by simp))
    have HB : Hid (Below w.heap.size w w1) := s4
    clear hb1 s4
    go_wp2
    go_ret
    exact ⟨rfl, HB.out⟩
end Go.Proofs.YtlofpooobabkjaaGreatDoor
/-
  What an error tells: its number and its place; package fault's Bare: over this seat's translation.
-/
namespace Go.Proofs.YtlofpooobabkjaaGreatDoor
open Go.RowKit Go.Shelf

/-- An error that tells this number (0: none) and this place (-1: none). -/
def ErrAt (p : Nat → Addr) (w : World) (v : Value) (c : Nat) (i : Int) : Prop :=
  (c = 0 ∧ i = -1 ∧ v = .nilIface) ∨ (∃ j, c = j + 1 ∧ j < 13 ∧ i = -1 ∧ v = .iface 171 (.pointer (some (p j)))) ∨
    ∃ j b o, c = j + 1 ∧ j < 13 ∧ v = .iface 62 (.pointer (some ⟨b, o, none⟩)) ∧ w.cell? ⟨b, o, none⟩ = some (.int .i64 i) ∧ w.cell? ⟨b, o + 1, none⟩ = some (.iface 171 (.pointer (some (p j))))

theorem ErrAt.below {p : Nat → Addr} {w w' : World} {v : Value} {c : Nat} {i : Int} (h : ErrAt p w v c i) (hb : Below w.heap.size w w') : ErrAt p w' v c i := by
  rcases h with h | h | ⟨j, b, o, h0, h1, h2, h3, h4⟩
  · exact .inl h
  · exact .inr (.inl h)
  · exact .inr (.inr ⟨j, b, o, h0, h1, h2, (hb.cell (p := ⟨b, o, none⟩) (block_lt_of_cell h3)).trans h3, (hb.cell (p := ⟨b, o + 1, none⟩) (block_lt_of_cell h4)).trans h4⟩)

theorem ErrAt.fine (p : Nat → Addr) (w : World) : ErrAt p w .nilIface 0 (-1) := .inl ⟨rfl, rfl, rfl⟩
theorem ErrAt.bare {p : Nat → Addr} {w : World} {c : Nat} (h : c ≤ 13) : ErrAt p w (errV p c) c (-1) := by
  rcases c with _ | c
  · exact .inl ⟨rfl, rfl, rfl⟩
  · exact .inr (.inl ⟨c, rfl, by omega, rfl, rfl⟩)

/-- nil or not. -/
theorem ErrAt.isNil {p : Nat → Addr} {w : World} {v : Value} {i : Int} (h : ErrAt p w v 0 i) : v = .nilIface := by
  rcases h with h | ⟨j, h, _⟩ | ⟨j, b, o, h, _⟩
  · exact h.2.2
  · omega
  · omega
theorem ErrAt.some {p : Nat → Addr} {w : World} {v : Value} {c : Nat} {i : Int} (h : ErrAt p w v c i) (hc : c ≠ 0) : ∃ T u, v = .iface T u := by
  rcases h with h | ⟨j, _, _, _, h⟩ | ⟨j, b, o, _, _, h, _⟩
  · exact absurd h.1 hc
  · exact ⟨_, _, h⟩
  · exact ⟨_, _, h⟩

theorem code_err {p : Nat → Addr} {w : World} {v : Value} {c : Nat} {i : Int} (h : ErrAt p w v c i) (hE : Env p w) :
    Calls Tryz.prog 21 #[v] w fun e w' => e = .returned (.tuple #[.int .i64 c, .int .i64 i]) ∧ Below w.heap.size w w' := by
  rcases h with ⟨rfl, rfl, rfl⟩ | ⟨j, rfl, hj, rfl, rfl⟩ | ⟨j, b, o, rfl, hj, rfl, h0, h1⟩
  · exact (code_nil w).mono fun _ _ ⟨h, h'⟩ => ⟨h, by rw [h']; exact Below.refl _ _⟩
  · exact code_sent p j w hE hj
  · exact code_flaw p j b o i w hE hj h0 h1

theorem faulted_err {p : Nat → Addr} {w : World} {v : Value} {c : Nat} {i : Int} (h : ErrAt p w v c i) (hE : Env p w) :
    Calls Tryz.prog 9 #[v, .agg #[.int .i64 c, .int .i64 i]] w fun e w' => e = .returned (.bool true) ∧ Below w.heap.size w w' :=
  faulted_yes v c i w fun _ hb => code_err (h.below hb) (hE.below hb)

end Go.Proofs.YtlofpooobabkjaaGreatDoor
/-
  Where a path stands in a rising list: facts on lists of files. No Go text is spoken of here.
-/
namespace Go.Proofs.YtlofpooobabkjaaGreatDoor

theorem rise_at {l : List F} (h : Rise l) {i j : Nat} (hij : i < j) (hj : j < l.length) : less (l[i]'(by omega)).p l[j].p = true :=
  List.pairwise_iff_getElem.1 h i j (by omega) hj hij

theorem less_before {l : List F} (h : Rise l) {q : List UInt8} {i j : Nat} (hij : i ≤ j) (hj : j < l.length) (hq : less l[j].p q = true) : less (l[i]'(by omega)).p q = true := by
  by_cases e : i = j
  · subst e; exact hq
  · exact less_trans (rise_at h (by omega) hj) hq

theorem less_behind {l : List F} (h : Rise l) {q : List UInt8} {i j : Nat} (hij : i ≤ j) (hj : j < l.length) (hq : less (l[i]'(by omega)).p q = false) : less l[j].p q = false := by
  cases e : less l[j].p q with
  | false => rfl
  | true => rw [less_before h hij hj e] at hq; cases hq

/-- Where a path is, or would be. -/
structure Place (l : List F) (q : List UInt8) (j : Nat) : Prop where
  le : j ≤ l.length
  low : ∀ i (h : i < l.length), i < j → less l[i].p q = true
  high : ∀ h : j < l.length, less l[j].p q = false

/-- Is it there? -/
def there (l : List F) (q : List UInt8) (j : Nat) : Bool := match l[j]? with | some f => f.p == q | none => false

theorem there_true {l : List F} {q : List UInt8} {j : Nat} (h : there l q j = true) : ∃ h : j < l.length, l[j].p = q := by
  unfold there at h
  split at h
  · rename_i f e
    obtain ⟨hj, e'⟩ := List.getElem?_eq_some_iff.1 e
    exact ⟨hj, by rw [e']; simpa using h⟩
  · cases h
theorem there_false {l : List F} {q : List UInt8} {j : Nat} (h : there l q j = false) (hj : j < l.length) : l[j].p ≠ q := by
  unfold there at h
  rw [List.getElem?_eq_getElem hj] at h
  simpa using h
theorem there_at {l : List F} {q : List UInt8} {j : Nat} (hj : j < l.length) : there l q j = (l[j].p == q) := by
  unfold there
  rw [List.getElem?_eq_getElem hj]
theorem there_end {l : List F} {q : List UInt8} {j : Nat} (hj : ¬ j < l.length) : there l q j = false := by
  unfold there
  rw [List.getElem?_eq_none (by omega)]

theorem without_there {l : List F} {q : List UInt8} {j : Nat} (h : Rise l) (P : Place l q j) (ht : there l q j = true) : without l q = l.take j ++ l.drop (j + 1) := by
  obtain ⟨hj, e⟩ := there_true ht
  have hl : l = l.take j ++ l[j] :: l.drop (j + 1) := by rw [← List.drop_eq_getElem_cons hj, List.take_append_drop]
  have h1 : (l.take j).filter (fun f => !(f.p == q)) = l.take j := List.filter_eq_self.2 fun f hf => by
    obtain ⟨i, hi, rfl⟩ := List.getElem_of_mem hf
    rw [List.length_take] at hi
    rw [List.getElem_take]
    simp [less_ne (P.low i (by omega) (by omega))]
  have h2 : (l.drop (j + 1)).filter (fun f => !(f.p == q)) = l.drop (j + 1) := List.filter_eq_self.2 fun f hf => by
    obtain ⟨i, hi, rfl⟩ := List.getElem_of_mem hf
    rw [List.length_drop] at hi
    rw [List.getElem_drop]
    have := less_ne (rise_at h (i := j) (j := j + 1 + i) (by omega) (by omega))
    rw [e] at this
    simp [Ne.symm this]
  have h3 : (l[j] :: l.drop (j + 1)).filter (fun f => !(f.p == q)) = l.drop (j + 1) := by
    rw [List.filter_cons, if_neg (by simp [e]), h2]
  have : without l q = (l.take j ++ l[j] :: l.drop (j + 1)).filter (fun f => !(f.p == q)) := by rw [← hl]; rfl
  rw [this, List.filter_append, h1, h3]

theorem none_there {l : List F} {q : List UInt8} {j : Nat} (h : Rise l) (P : Place l q j) (ht : there l q j = false) : ∀ f ∈ l, f.p ≠ q := fun f hf => by
  obtain ⟨i, hi, rfl⟩ := List.getElem_of_mem hf
  by_cases hij : i < j
  · exact less_ne (P.low i hi hij)
  · have hj : j < l.length := by omega
    have hn := there_false ht hj
    have hq : less q l[j].p = true := by
      cases e : less q l[j].p with
      | true => rfl
      | false => exact absurd (less_total (P.high hj) e) hn
    by_cases e : i = j
    · subst e; exact hn
    · exact (less_ne (less_trans hq (rise_at h (i := j) (j := i) (by omega) hi))).symm

theorem without_absent {l : List F} {q : List UInt8} {j : Nat} (h : Rise l) (P : Place l q j) (ht : there l q j = false) : without l q = l :=
  List.filter_eq_self.2 fun f hf => by simp [none_there h P ht f hf]

theorem drop_there {l : List F} {q : List UInt8} {j : Nat} (hz : (treeFault l).1 = 0) (h : Rise l) (P : Place l q j) (ht : there l q j = true) : dropT l q = (l.take j ++ l.drop (j + 1), 0, -1) := by
  obtain ⟨hj, _⟩ := there_true ht
  have e := without_there h P ht
  have hl : ¬ (without l q).length = l.length := by
    rw [e, List.length_append, List.length_take, List.length_drop]
    omega
  unfold dropT
  rw [if_neg (by simp [hz]), if_neg hl, e]
theorem drop_absent {l : List F} {q : List UInt8} {j : Nat} (hz : (treeFault l).1 = 0) (h : Rise l) (P : Place l q j) (ht : there l q j = false) : dropT l q = ([], 6, -1) := by
  unfold dropT
  rw [if_neg (by simp [hz]), if_pos (by rw [without_absent h P ht])]

theorem with_there {l : List F} {x : F} {j : Nat} (P : Place l x.p j) (ht : there l x.p j = true) : withF l x = l.take j ++ x :: l.drop (j + 1) := by
  obtain ⟨hj, e⟩ := there_true ht
  rw [with_at P.le P.low P.high, behind_same hj e]
theorem with_absent {l : List F} {x : F} {j : Nat} (P : Place l x.p j) (ht : there l x.p j = false) : withF l x = l.take j ++ x :: l.drop j := by
  rw [with_at P.le P.low P.high, behind_other fun h => there_false ht h]

theorem tree_rise {l : List F} (h : (treeFault l).1 = 0) : Rise l := (tree_good.1 h).1.rise
theorem checkCode_le (s : List UInt8) : checkCode s ≤ 13 := by
  unfold checkCode
  repeat' split
  all_goals omega
theorem fileCode_le (pre : List F) (f : F) : fileCode pre f ≤ 13 := by
  have := checkCode_le f.p
  unfold fileCode
  repeat' split
  all_goals omega
theorem firstBad_le : ∀ {pre r : List F} {c i : Nat}, firstBad pre r = some (c, i) → c ≤ 13
  | _, [], _, _, h => by simp [firstBad] at h
  | pre, f :: r, c, i, h => by
    unfold firstBad at h
    split at h
    · simp only [Option.some.injEq, Prod.mk.injEq] at h
      rw [← h.1]
      exact fileCode_le _ _
    · exact firstBad_le h
theorem treeFault_le (l : List F) : (treeFault l).1 ≤ 13 := by
  unfold treeFault
  split
  · show (8 : Nat) ≤ 13; omega
  · split
    · rename_i c i h
      exact firstBad_le h
    · split <;> simp
end Go.Proofs.YtlofpooobabkjaaGreatDoor
/-
  Files that a call has gathered itself, by append: rows of three cells a file.
-/
namespace Go.Proofs.YtlofpooobabkjaaGreatDoor
open Go.RowKit Go.Shelf

def fcells (f : F) : List Value := [sv f.p, .bool f.r, sv f.t]
def lcells (l : List F) : List Value := l.flatMap fcells

theorem lcells_length (l : List F) : (lcells l).length = l.length * 3 := by
  induction l with
  | nil => rfl
  | cons f l ih => simp only [lcells, List.flatMap_cons, List.length_append, List.length_cons] at ih ⊢; simp only [fcells, List.length_cons, List.length_nil]; omega

theorem lcells_app (a b : List F) : lcells (a ++ b) = lcells a ++ lcells b := by simp [lcells]

theorem lcells_at : ∀ (l : List F) (k : Nat) (h : k < l.length) (j : Nat), j < 3 → (lcells l)[k * 3 + j]? = (fcells l[k])[j]?
  | [], k, h, _, _ => by simp at h
  | f :: l, 0, _, j, hj => by
    show (fcells f ++ lcells l)[0 * 3 + j]? = (fcells f)[j]?
    rw [Nat.zero_mul, Nat.zero_add, List.getElem?_append_left (by simp [fcells]; omega)]
  | f :: l, k + 1, h, j, hj => by
    have ih := lcells_at l k (by simpa using h) j hj
    show (fcells f ++ lcells l)[(k + 1) * 3 + j]? = _
    rw [List.getElem?_append_right (by simp [fcells]; omega)]
    have : (k + 1) * 3 + j - (fcells f).length = k * 3 + j := by simp [fcells]; omega
    rw [this, ih]
    rfl

/-- The files of a row of the call's own. -/
theorem owns_lies {w : World} {base : Nat} {v : Value} {l : List F} (h : w.ownsRow base 46 3 v l.length (lcells l)) :
    ∃ a cap, v = .slice a l.length cap ∧ LiesAt w a l ∧ (a = none → cap = 0 ∧ l = []) := by
  rcases h.2 with ⟨rfl, hn⟩ | ⟨g, cap, cur, rfl, _, hg, hcap, hm, hsz, htk⟩
  · have e : l = [] := List.length_eq_zero_iff.1 hn
    subst e
    exact ⟨none, 0, rfl, fun h => absurd rfl h, fun _ => ⟨rfl, rfl⟩⟩
  · refine ⟨some ⟨g, 0, none⟩, cap, rfl, fun _ => ⟨g, 0, rfl, fun k hk => ?_⟩, fun h => by cases h⟩
    have hc : ∀ j, j < 3 → w.cell? ⟨g, 0 + k * 3 + j, none⟩ = (fcells l[k])[j]? := fun j hj => by
      rw [← lcells_at l k hk j hj, ← htk, List.getElem?_take_of_lt (by omega)]
      simp [World.cell?, hg]
    exact ⟨by simpa [fcells] using hc 0 (by omega), by simpa [fcells] using hc 1 (by omega), by simpa [fcells] using hc 2 (by omega)⟩

theorem owns_keep {w w' : World} {base : Nat} {e : TypeId} {size : Nat} {v : Value} {n : Nat} {xs : List Value} (h : w.ownsRow base e size v n xs) (hk : ∀ g, base ≤ g → g < w.heap.size → w'.heap[g]? = w.heap[g]?) : w'.ownsRow base e size v n xs := by
  refine ⟨h.1, ?_⟩
  rcases h.2 with h0 | ⟨g, cap, cur, hv, hg, hh, h1, h2, h3, h4⟩
  · exact .inl h0
  · exact .inr ⟨g, cap, cur, hv, hg, by rw [hk g hg (Array.getElem?_eq_some_iff.1 hh).1]; exact hh, h1, h2, h3, h4⟩

theorem owns_below {w w' : World} {base : Nat} {e : TypeId} {size : Nat} {v : Value} {n : Nat} {xs : List Value} (h : w.ownsRow base e size v n xs) (hb : Below w.heap.size w w') : w'.ownsRow base e size v n xs :=
  owns_keep h fun g _ hg => hb.block g hg

/-- A row of the call's own, behind the two stores into the result's cells. -/
theorem owns_slot {w : World} {b : Nat} {e : TypeId} {size : Nat} {v : Value} {n : Nat} {xs : List Value} (x y : Value) (h : w.ownsRow (b + 1) e size v n xs) : ((w.setCell ⟨b, 0, none⟩ x).setCell ⟨b, 1, none⟩ y).ownsRow b e size v n xs :=
  (owns_keep h fun g hg _ => (Below.heap_setCell _ _ _ _ (by show g ≠ b; omega)).trans (Below.heap_setCell _ _ _ _ (by show g ≠ b; omega))).mono (Nat.le_succ _)

theorem Tryz.infoFile : (Tryz.prog.info? 46).map (fun i => (i.zero, i.size, i.bytes)) = some (some (.agg #[.string ⟨#[]⟩, .bool false, .string ⟨#[]⟩]), 3, 40) := by kernel_rfl

theorem cells_new (w : World) (f : F) (T : TypeId) : ∀ j u, (fcells f)[j]? = some u → (w.alloc (.cells #[sv f.p, .bool f.r, sv f.t] T)).cell? ((⟨w.heap.size, 0, none⟩ : Addr).add j) = some u := by
  intro j u h
  have hn := heap_new w (.cells #[sv f.p, .bool f.r, sv f.t] T)
  have hc : ∀ k, (w.alloc (.cells #[sv f.p, .bool f.r, sv f.t] T)).cell? ⟨w.heap.size, k, none⟩ = #[sv f.p, .bool f.r, sv f.t][k]? := fun k => by
    unfold World.cell?
    rw [hn]
    rfl
  rcases j with _ | _ | _ | j
  · exact (hc 0).trans h
  · exact (hc (0 + 1)).trans h
  · exact (hc (0 + 2)).trans h
  · simp [fcells] at h

end Go.Proofs.YtlofpooobabkjaaGreatDoor
/-
  Contracts of package slices that the library proves once, laid at this seat's translation (made by program).
-/
namespace Go.Proofs
open Go.Shelf
def Tryz.laysContains_ren : Go.Shelf.Ren := ⟨fun | 8 => 41 | 6 => 61 | n => n, fun | 22 => 22 | 23 => 46 | 25 => 86 | 4 => 4 | 3 => 3 | 0 => 0 | n => n, fun | n => n⟩
theorem Tryz.laysContains : Go.Proofs.SlLaysH0.n8 Tryz.prog Tryz.laysContains_ren := {
  mixed := by kernel_rfl
  f6 := ⟨Tryz.f61.name, by decide, Tryz.func61.trans (congrArg some (by kernel_rfl))⟩
  f8 := ⟨Tryz.f41.name, by decide, Tryz.func41.trans (congrArg some (by kernel_rfl))⟩
  t0 := Tryz.underlying0
  a0 := Tryz.isAgg0
  z0 := Tryz.sizeOf0
  v0 := Tryz.zeroValue0
  t3 := Tryz.underlying3
  a3 := Tryz.isAgg3
  z3 := Tryz.sizeOf3
  v3 := Tryz.zeroValue3
  t4 := Tryz.underlying4
  a4 := Tryz.isAgg4
  z4 := Tryz.sizeOf4
  v4 := Tryz.zeroValue4
  t22 := Tryz.underlying22
  a22 := Tryz.isAgg22
  z22 := Tryz.sizeOf22
  v22 := Tryz.zeroValue22
  t25 := Tryz.underlying86
  a25 := Tryz.isAgg86
  z25 := Tryz.sizeOf86
  v25 := Tryz.zeroValue86 }
end Go.Proofs
/-
  Package tree's checkNext: over this seat's translation.
-/
namespace Go.Proofs.YtlofpooobabkjaaGreatDoor
open Go.RowKit Go.Shelf

/-- Files whose paths are not too long. -/
abbrev SF := { f : F // f.p.length ≤ 40000 }
instance : Inhabited SF := ⟨⟨⟨[], false, []⟩, by simp⟩⟩

theorem packed : ∀ l : List F, (∀ g ∈ l, g.p.length ≤ 40000) → ∃ zs : List SF, zs.map (fun x => x.1) = l
  | [], _ => ⟨[], rfl⟩
  | f :: l, h => by
    obtain ⟨zs, e⟩ := packed l fun g hg => h g (List.mem_cons_of_mem _ hg)
    exact ⟨⟨f, h f List.mem_cons_self⟩ :: zs, by rw [List.map_cons, e]⟩

theorem box_three {w w' : World} {x y z : Value} {T : TypeId} (h : Below (w.heap.size + 1) (w.alloc (.cells #[x, y, z] T)) w') :
    w'.cell? ⟨w.heap.size, 0, none⟩ = some x ∧ w'.cell? ⟨w.heap.size, 1, none⟩ = some y ∧ w'.cell? ⟨w.heap.size, 2, none⟩ = some z ∧ Below w.heap.size w w' := by
  have e := h.block w.heap.size (Nat.lt_succ_self _)
  rw [heap_new] at e
  exact ⟨by simp [World.cell?, e], by simp [World.cell?, e], by simp [World.cell?, e], ((Below.refl _ _).alloc (Nat.le_refl _) _).trans (h.mono (by omega))⟩

theorem inOf (p : Nat → Addr) (f g : F) (fb : Nat) (w : World) (hE : Env p w) (h0 : w.cell? ⟨fb, 0, none⟩ = some (sv f.p)) (hf : f.p.length ≤ 40000) (hg : g.p.length ≤ 40000) :
    Calls Tryz.prog 42 #[fv g, .pointer (some ⟨fb, 0, none⟩)] w fun e w' => e = .returned (.bool (isIn f.p g.p)) ∧ Below w.heap.size w w' := by
  have HE : Hid (Env p (w.alloc (.cells #[sv g.p, .bool g.r, sv g.t] 46))) := hE.below ((Below.refl _ _).alloc (Nat.le_refl _) _)
  have h0' : (w.alloc (.cells #[sv g.p, .bool g.r, sv g.t] 46)).cell? ⟨fb, 0, none⟩ = some (sv f.p) := by
    rw [World.cell?_alloc_lt _ _ ⟨fb, 0, none⟩ (block_lt_of_cell h0)]; exact h0
  clear hE h0
  go_enter Tryz.func42, Tryz.ntmps42
  go_wp2_with fail
  refine (in_any p f.p g.p _ HE.out (by omega) (by omega)).mono ?_
  rintro e w1 ⟨rfl, hb1⟩
  go_wp2
  go_ret
  exact ⟨rfl, ((Below.refl _ w).alloc (Nat.le_refl _) _).trans (hb1.mono (by simp))⟩

theorem contains_any (p : Nat → Addr) (pre : List F) (f : F) (fb b o ca : Nat) (w : World) (hE : Env p w) (hb : b < w.heap.size) (hl : LiesAt w (some ⟨b, o, none⟩) pre) (hn : pre.length ≤ 100000) (hs : ∀ g ∈ pre, g.p.length ≤ 40000)
    (h0 : w.cell? ⟨fb, 0, none⟩ = some (sv f.p)) (hf : f.p.length ≤ 40000) :
    Calls Tryz.prog 41 #[.slice (some ⟨b, o, none⟩) pre.length ca, .func (.func 42) #[] #[.pointer (some ⟨fb, 0, none⟩)]] w fun e w' => e = .returned (.bool (pre.any fun g => isIn f.p g.p)) ∧ Below w.heap.size w w' := by
  obtain ⟨zs, hzs⟩ := packed pre hs
  have hlen : zs.length = pre.length := by rw [← hzs, List.length_map]
  have hat : ∀ j (h : j < zs.length), (zs[j]!).1 = pre[j]'(by omega) := fun j hj => by
    subst hzs
    rw [getElem!_pos zs j hj]
    simp
  have hp : PredBelow Tryz.prog 42 #[.pointer (some ⟨fb, 0, none⟩)] (fun x : SF => .agg (fcells x.1).toArray) (fun x => isIn f.p x.1.p) w := fun W x hW => by
    refine (inOf p f x.1 fb W (hE.below hW) ((hW.cell (p := ⟨fb, 0, none⟩) (block_lt_of_cell h0)).trans h0) hf x.2).mono ?_
    rintro e w' ⟨rfl, hb'⟩
    exact ⟨rfl, hW.trans (hb'.mono hW.size)⟩
  have := AnyQ.slices_ContainsFunc Tryz.laysContains 3 Tryz.isAgg46 Tryz.sizeOf46 (fun x : SF => fcells x.1) (fun _ => rfl) (fun x => isIn f.p x.1.p) 42 #[.pointer (some ⟨fb, 0, none⟩)]
    (enters_of Tryz.func42 (by kernel_rfl) rfl) b o pre.length ca zs w hp (by omega) (by omega) hb (fun j hj i v hi => by
      obtain ⟨b', o', e', c0, c1, c2⟩ := hl.at (k := j) (by omega)
      cases e'
      rw [hat j hj] at hi
      rcases i with _ | _ | _ | i
      · simp [fcells] at hi; subst hi; simpa using c0
      · simp [fcells] at hi; subst hi; simpa using c1
      · simp [fcells] at hi; subst hi; simpa using c2
      · simp [fcells] at hi)
  refine this.mono ?_
  rintro e w' ⟨rfl, hb'⟩
  refine ⟨?_, hb'⟩
  rw [← hlen, List.take_length, ← hzs, List.any_map]
  rfl

set_option maxRecDepth 100000 in
set_option maxHeartbeats 4000000 in
theorem next_any (p : Nat → Addr) (pre : List F) (f : F) (b o ca : Nat) (w : World) (hE : Env p w) (hb : b < w.heap.size) (hl : LiesAt w (some ⟨b, o, none⟩) pre) (hn : pre.length ≤ 100000) (hs : ∀ g ∈ pre, g.p.length ≤ 40000) (hf : f.p.length ≤ 40000) (ht : f.t.length ≤ 500000) :
    Calls Tryz.prog 28 #[.slice (some ⟨b, o, none⟩) pre.length ca, fv f] w fun e w' => e = .returned (errV p (fileCode pre f)) ∧ Below w.heap.size w w' := by
  have HE : Hid (Env p w) := hE
  have HE0 : Hid (Env p (w.alloc (.cells #[sv f.p, .bool f.r, sv f.t] 46))) := hE.below ((Below.refl _ _).alloc (Nat.le_refl _) _)
  have HL : Hid (LiesAt w (some ⟨b, o, none⟩) pre) := hl
  have HS : Hid (∀ g ∈ pre, g.p.length ≤ 40000) := hs
  clear hE hl hs
  cases hc : checkCode f.p with
  | succ k =>
    have HF : Hid (fileCode pre f = k + 1) := by
      show fileCode pre f = k + 1
      unfold fileCode
      rw [if_pos (by omega), hc]
    have HC : Hid (checkCode f.p = k + 1) := hc
    clear hc
    go_enter Tryz.func28, Tryz.ntmps28
    go_wp2_with fail
    refine (check_bad p f.p k _ HE0.out (by omega) HC.out).mono ?_
    rintro e w1 ⟨rfl, hb1⟩
    go_wp2
    go_ret
    exact ⟨by rw [HF.out]; rfl, ((Below.refl _ w).alloc (Nat.le_refl _) _).trans (hb1.mono (by simp))⟩
  | zero =>
    have HC : Hid (checkCode f.p = 0) := hc
    by_cases hbig : 4000 < f.t.length
    · have HF : Hid (fileCode pre f = 2) := by
        show fileCode pre f = 2
        unfold fileCode
        rw [if_neg (by omega), if_pos hbig]
      have hbig' : (4000 : Int) < (f.t.length : Int) := by omega
      clear hc
      go_enter Tryz.func28, Tryz.ntmps28
      go_wp2_with fail
      refine (check_ok p f.p _ HE0.out (by omega) HC.out).mono ?_
      rintro e w1 ⟨rfl, hb1⟩
      obtain ⟨g0, g1, g2, hB⟩ := box_three (w := w) (hb1.mono (by simp))
      have s1 := (HE.out.below hB).s1
      have HB : Hid (Below w.heap.size w w1) := hB
      clear hb1 hB
      go_wp2
      go_ret
      exact ⟨by rw [HF.out]; rfl, HB.out⟩
    · have hbig' : ¬ (4000 : Int) < (f.t.length : Int) := by omega
      -- what comes behind the order's test
      have rest : Hid (∀ w1, Below (w.heap.size + 1) (w.alloc (.cells #[sv f.p, .bool f.r, sv f.t] 46)) w1 → Calls Tryz.prog 41 #[.slice (some ⟨b, o, none⟩) pre.length ca, .func (.func 42) #[] #[.pointer (some ⟨w.heap.size, 0, none⟩)]] w1 fun e w' => e = .returned (.bool (pre.any fun g => isIn f.p g.p)) ∧ Below w1.heap.size w1 w') := fun w1 h1 => by
        obtain ⟨g0, _, _, hB⟩ := box_three h1
        exact contains_any p pre f w.heap.size b o ca w1 (HE.out.below hB) (Nat.lt_of_lt_of_le hb hB.size) (HL.out.below hB) hn HS.out g0 hf
      by_cases hord : pre ≠ [] ∧ less ((pre.getLast?.map (·.p)).getD []) f.p = false
      · have HF : Hid (fileCode pre f = 9) := by
          show fileCode pre f = 9
          unfold fileCode
          rw [if_neg (by omega), if_neg hbig, if_pos hord]
        have hpos : 0 < pre.length := List.length_pos_iff.2 hord.1
        have hlast : (pre.getLast?.map (·.p)).getD [] = (pre[pre.length - 1]'(by omega)).p := by
          rw [List.getLast?_eq_getElem?, List.getElem?_eq_getElem (by omega)]; rfl
        have ho := hord.2
        rw [hlast] at ho
        have hle : (Op.bytesLess f.p (pre[pre.length - 1]'(by omega)).p || f.p == (pre[pre.length - 1]'(by omega)).p) = true := by
          cases h : Op.bytesLess f.p (pre[pre.length - 1]'(by omega)).p with
          | true => rfl
          | false => simp [less_total h ho]
        have hpos' : (0 : Int) < (pre.length : Int) := by omega
        have hsub : ((pre.length : Int) - 1) = ((pre.length - 1 : Nat) : Int) := by omega
        clear hc hord hlast ho rest
        go_enter Tryz.func28, Tryz.ntmps28
        go_wp2_with fail
        refine (check_ok p f.p _ HE0.out (by omega) HC.out).mono ?_
        rintro e w1 ⟨rfl, hb1⟩
        obtain ⟨g0, g1, g2, hB⟩ := box_three (w := w) (hb1.mono (by simp))
        have s8 := (HE.out.below hB).s8
        obtain ⟨b', o', e', c0, c1, c2⟩ := (HL.out.below hB).at (k := pre.length - 1) (by omega)
        cases e'
        have HB : Hid (Below w.heap.size w w1) := hB
        clear hb1 hB
        generalize (pre[pre.length - 1]'(by omega)) = g at c0 c1 c2 hle
        go_wp2_with fail
        go_quiet (fail)
        go_wp2
        go_ret
        exact ⟨by rw [HF.out]; rfl, below_drewN HB.out _⟩
      · have HF : Hid (fileCode pre f = if pre.any (fun g => isIn f.p g.p) then 11 else 0) := by
          show fileCode pre f = _
          unfold fileCode
          rw [if_neg (by omega), if_neg hbig, if_neg hord]
        by_cases hpos : 0 < pre.length
        · have hne : pre ≠ [] := List.length_pos_iff.1 hpos
          have hlast : (pre.getLast?.map (·.p)).getD [] = (pre[pre.length - 1]'(by omega)).p := by
            rw [List.getLast?_eq_getElem?, List.getElem?_eq_getElem (by omega)]; rfl
          have ho : less (pre[pre.length - 1]'(by omega)).p f.p = true := by
            rw [← hlast]
            cases h : less ((pre.getLast?.map (·.p)).getD []) f.p with
            | true => rfl
            | false => exact absurd ⟨hne, h⟩ hord
          have hle : (Op.bytesLess f.p (pre[pre.length - 1]'(by omega)).p || f.p == (pre[pre.length - 1]'(by omega)).p) = false := by
            have h1 := less_asymm ho
            have h2 := less_ne ho
            simp only [less] at h1
            simp [h1, Ne.symm h2]
          have hpos' : (0 : Int) < (pre.length : Int) := by omega
          have hsub : ((pre.length : Int) - 1) = ((pre.length - 1 : Nat) : Int) := by omega
          clear hc hord hlast ho hne
          go_enter Tryz.func28, Tryz.ntmps28
          go_wp2_with fail
          refine (check_ok p f.p _ HE0.out (by omega) HC.out).mono ?_
          rintro e w1 ⟨rfl, hb1⟩
          have HB1 : Hid (Below (w.heap.size + 1) (w.alloc (.cells #[sv f.p, .bool f.r, sv f.t] 46)) w1) := hb1.mono (by simp)
          obtain ⟨g0, g1, g2, hB⟩ := box_three (w := w) (hb1.mono (by simp))
          obtain ⟨b', o', e', c0, c1, c2⟩ := (HL.out.below hB).at (k := pre.length - 1) (by omega)
          cases e'
          clear hb1 hB
          generalize (pre[pre.length - 1]'(by omega)) = g at c0 c1 c2 hle
          go_wp2_with fail
          go_quiet (fail)
          go_wp2_with fail
          refine (rest.out _ (below_drewN HB1.out _)).mono ?_
          rintro e w2 ⟨rfl, hb2⟩
          have hB2 := (box_three (w := w) (more_below (below_drewN HB1.out _) rfl hb2)).2.2.2
          have s10 := (HE.out.below hB2).s10
          have HB2 : Hid (Below w.heap.size w w2) := hB2
          clear hb2 hB2
          cases hany : pre.any fun g => isIn f.p g.p with
          | true =>
            have HA : Hid ((pre.any fun g => isIn f.p g.p) = true) := hany
            clear hany
            go_wp2
            go_ret
            exact ⟨by rw [HF.out, if_pos HA.out]; rfl, HB2.out⟩
          | false =>
            have HA : Hid ((pre.any fun g => isIn f.p g.p) = false) := hany
            clear hany
            go_wp2
            go_ret
            exact ⟨by rw [HF.out, if_neg (by simp [HA.out])]; rfl, HB2.out⟩
        · have hz : pre = [] := List.length_eq_zero_iff.1 (by omega)
          subst hz
          clear hc hord
          go_enter Tryz.func28, Tryz.ntmps28
          go_wp2_with fail
          refine (check_ok p f.p _ HE0.out (by omega) HC.out).mono ?_
          rintro e w1 ⟨rfl, hb1⟩
          have HB1 : Hid (Below (w.heap.size + 1) (w.alloc (.cells #[sv f.p, .bool f.r, sv f.t] 46)) w1) := hb1.mono (by simp)
          obtain ⟨g0, g1, g2, hB⟩ := box_three (w := w) (hb1.mono (by simp))
          clear hb1 hB
          go_wp2_with fail
          go_quiet (fail)
          go_wp2_with fail
          refine (rest.out _ (below_drewN HB1.out _)).mono ?_
          rintro e w2 ⟨rfl, hb2⟩
          have hB2 := (box_three (w := w) (more_below (below_drewN HB1.out _) rfl hb2)).2.2.2
          have HB2 : Hid (Below w.heap.size w w2) := hB2
          clear hb2 hB2
          go_wp2
          go_ret
          exact ⟨by rw [HF.out]; rfl, HB2.out⟩
end Go.Proofs.YtlofpooobabkjaaGreatDoor
/-
  Package pack: readHead, cutFile: contracts, over this seat's translation.
-/
namespace Go.Proofs.YtlofpooobabkjaaGreatDoor
open Go.RowKit Go.Shelf

/-- A result's own three cells, behind three stores. -/
theorem slot_set3 {w wr : World} {b : Nat} {u v z : Value} (x y t : Value) (h0 : wr.cell? ⟨b, 0, none⟩ = some u) (h1 : wr.cell? ⟨b, 1, none⟩ = some v) (h2 : wr.cell? ⟨b, 2, none⟩ = some z) (hb : Below b w wr) :
    (wr.setCell ⟨b, 0, none⟩ x).cell? ⟨b, 0, none⟩ = some x ∧ ((wr.setCell ⟨b, 0, none⟩ x).setCell ⟨b, 1, none⟩ y).cell? ⟨b, 1, none⟩ = some y ∧ (((wr.setCell ⟨b, 0, none⟩ x).setCell ⟨b, 1, none⟩ y).setCell ⟨b, 2, none⟩ t).cell? ⟨b, 2, none⟩ = some t ∧ Below b w (((wr.setCell ⟨b, 0, none⟩ x).setCell ⟨b, 1, none⟩ y).setCell ⟨b, 2, none⟩ t) := by
  refine ⟨World.cell?_setCell_same' _ _ _ (by rw [h0]; rfl), World.cell?_setCell_same' _ _ _ ?_, World.cell?_setCell_same' _ _ _ ?_, ((hb.setCell (p := ⟨b, 0, none⟩) (Nat.le_refl _) _).setCell (p := ⟨b, 1, none⟩) (Nat.le_refl _) _).setCell (p := ⟨b, 2, none⟩) (Nat.le_refl _) _⟩
  · rw [World.cell?_setCell_other (h := by simp), h1]
    rfl
  · rw [World.cell?_setCell_other (h := by simp), World.cell?_setCell_other (h := by simp), h2]
    rfl

/-- A result's own three cells, still as they were laid. -/
theorem slot_three {w wr : World} {u v x : Value} {T : TypeId} (h : Below (w.heap.size + 1) (w.alloc (.cells #[u, v, x] T)) wr) :
    (wr.cell? ⟨w.heap.size, 0, none⟩ = some u ∧ wr.cell? ⟨w.heap.size, 1, none⟩ = some v ∧ wr.cell? ⟨w.heap.size, 2, none⟩ = some x) ∧ (wr.frozen? ⟨w.heap.size, 0, none⟩ = false ∧ wr.frozen? ⟨w.heap.size, 1, none⟩ = false ∧ wr.frozen? ⟨w.heap.size, 2, none⟩ = false) ∧ Below w.heap.size w wr := by
  have e := h.block w.heap.size (Nat.lt_succ_self _)
  rw [heap_new] at e
  exact ⟨⟨by simp [World.cell?, e], by simp [World.cell?, e], by simp [World.cell?, e]⟩, ⟨by simp [World.frozen?, e], by simp [World.frozen?, e], by simp [World.frozen?, e]⟩, ((Below.refl _ _).alloc (Nat.le_refl _) _).trans (h.mono (by omega))⟩

theorem frozen_below {w w' : World} {n : Nat} (h : Below n w w') {p : Addr} (hp : p.block < n) : w'.frozen? p = w.frozen? p := by
  unfold World.frozen?
  rw [h.block p.block hp]

theorem headOf_few {line : List UInt8} (h : (piecesBy 32 line).length ≠ 3) : headOf line = none := by
  unfold headOf
  split
  · rename_i e
    rw [e] at h
    simp at h
  · rfl
theorem headOf_three {line a m d : List UInt8} (h : piecesBy 32 line = [a, m, d]) : headOf line = if (m = [120] ∨ m = [102]) ∧ 0 ≤ numberL d 6 then some (a, decide (m = [120]), (numberL d 6).toNat) else none := by
  unfold headOf
  rw [h]

/-- What readHead answers. -/
def headV (line : List UInt8) : Value := match headOf line with
  | none => .tuple #[fv ⟨[], false, []⟩, .int .i64 0, .bool false]
  | some (a, x, n) => .tuple #[fv ⟨a, x, []⟩, .int .i64 n, .bool true]

theorem three_cells {w : World} {x y z : List UInt8} {T : TypeId} :
    (w.alloc (.cells ([x, y, z].map sv).toArray T)).cell? ⟨w.heap.size, 0, none⟩ = some (sv x) ∧ (w.alloc (.cells ([x, y, z].map sv).toArray T)).cell? ⟨w.heap.size, 1, none⟩ = some (sv y) ∧ (w.alloc (.cells ([x, y, z].map sv).toArray T)).cell? ⟨w.heap.size, 2, none⟩ = some (sv z) := by
  have e := heap_new w (.cells ([x, y, z].map sv).toArray T)
  unfold World.cell?
  rw [e]
  exact ⟨rfl, rfl, rfl⟩

set_option maxRecDepth 100000 in
set_option maxHeartbeats 2000000 in
theorem readHead_any (p : Nat → Addr) (l : List UInt8) (w : World) (hE : SEnv p w) (hl : l.length ≤ 100000) :
    Calls Tryz.prog 38 #[.string ⟨l.toArray⟩] w fun e w' => e = .returned (headV l) ∧ Below w.heap.size w w' := by
  have HE : Hid (SEnv p w) := hE
  clear hE
  go_enter Tryz.func38, Tryz.ntmps38
  go_wp2_with fail
  refine (split_any 32 l _ hl).mono ?_
  rintro e w1 ⟨rfl, hw1⟩
  have hsz : (w.alloc (.cells #[sv [], .bool false, sv []] 46)).heap.size = w.heap.size + 1 := by simp
  have hb1 : Below (w.heap.size + 1) (w.alloc (.cells #[sv [], .bool false, sv []] 46)) w1 := by
    rw [hw1]
    exact (Below.refl _ _).alloc (by simp) _
  obtain ⟨⟨s0, s1, s2⟩, ⟨z0, z1, z2⟩, s3⟩ := slot_three hb1
  have HB1 : Hid (Below w.heap.size w w1) := s3
  clear s3 hb1
  by_cases h3 : (piecesBy 32 l).length = 3
  · obtain ⟨a, m, d, hp⟩ : ∃ a m d, piecesBy 32 l = [a, m, d] := by
      rcases hq : piecesBy 32 l with _ | ⟨a, _ | ⟨m, _ | ⟨d, _ | ⟨x, r⟩⟩⟩⟩ <;> rw [hq] at h3 <;> simp at h3
      exact ⟨a, m, d, rfl⟩
    have HO := Lib.hid (headOf_three hp)
    have hle := piecesBy_le 32 l
    rw [hp] at hw1 hle ⊢
    have hdl := hle d (by simp)
    obtain ⟨c0, c1, c2⟩ := three_cells (w := w.alloc (.cells #[sv [], .bool false, sv []] 46)) (x := a) (y := m) (z := d) (T := 9)
    rw [← hw1, hsz] at c0 c1 c2
    clear hw1 h3 hp hle
    by_cases hx : m = [120]
    · subst hx
      go_wp2_with fail
      refine (readSize_any p d _ (HE.out.below HB1.out) (by omega)).mono ?_
      rintro e w2 ⟨rfl, hb2⟩
      have k0 := (hb2.cell (p := ⟨w.heap.size + 1, 0, none⟩) (block_lt_of_cell c0)).trans c0
      have k1 := (hb2.cell (p := ⟨w.heap.size + 1, 1, none⟩) (block_lt_of_cell c1)).trans c1
      have t0 := (hb2.cell (p := ⟨w.heap.size, 0, none⟩) (block_lt_of_cell s0)).trans s0
      have t1 := (hb2.cell (p := ⟨w.heap.size, 1, none⟩) (block_lt_of_cell s1)).trans s1
      have t2 := (hb2.cell (p := ⟨w.heap.size, 2, none⟩) (block_lt_of_cell s2)).trans s2
      have y0 := (frozen_below hb2 (p := ⟨w.heap.size, 0, none⟩) (block_lt_of_cell s0)).trans z0
      have y1 := (frozen_below hb2 (p := ⟨w.heap.size, 1, none⟩) (block_lt_of_cell s1)).trans z1
      have y2 := (frozen_below hb2 (p := ⟨w.heap.size, 2, none⟩) (block_lt_of_cell s2)).trans z2
      have HB2 : Hid (Below w.heap.size w w2) := HB1.out.trans (hb2.mono HB1.out.size)
      clear hb2 c0 c1 c2 s0 s1 s2 z0 z1 z2
      by_cases hn : 0 ≤ numberL d 6
      · have HM : Hid (headOf l = some (a, true, (numberL d 6).toNat)) := by
          show headOf l = _
          rw [HO.out, if_pos ⟨by simp, hn⟩]
          simp
        have hsz2 : sizeOfL d = (numberL d 6, true) := by unfold sizeOfL; rw [if_pos hn]
        rw [hsz2]
        obtain ⟨n, hn'⟩ := Int.eq_ofNat_of_zero_le hn
        rw [hn', Int.toNat_natCast] at HM
        rw [hn']
        clear hsz2 hn hn' HO
        go_wp2_with fail
        go_region
        all_goals go_wp2
        all_goals
          obtain ⟨q0, q1, q2, q3⟩ := slot_set3 (w := w) (wr := w2) (sv a) (.bool true) (sv []) t0 t1 t2 HB2.out
          exact bodyPost_ret (v := .tuple #[fv ⟨a, true, []⟩, .int .i64 n, .bool true]) (by simp [results, Tryz.results38, go_sem, q0, q1, q2]) rfl ⟨by unfold headV; rw [HM.out], q3.drew⟩
      · have HM : Hid (headOf l = none) := by
          show headOf l = _
          rw [HO.out, if_neg (fun h => hn h.2)]
        have hsz2 : sizeOfL d = (0, false) := by unfold sizeOfL; rw [if_neg hn]
        rw [hsz2]
        clear hsz2 hn HO
        go_wp2
        obtain ⟨q0, q1, q2, q3⟩ := slot_set3 (w := w) (sv []) (.bool false) (sv []) t0 t1 t2 HB2.out
        exact bodyPost_ret (v := .tuple #[fv ⟨[], false, []⟩, .int .i64 0, .bool false]) (by simp [results, Tryz.results38, go_sem, q0, q1, q2]) rfl ⟨by unfold headV; rw [HM.out], q3⟩
    by_cases hf : m = [102]
    · subst hf
      clear hx
      go_wp2_with fail
      refine (readSize_any p d _ (HE.out.below HB1.out) (by omega)).mono ?_
      rintro e w2 ⟨rfl, hb2⟩
      have k0 := (hb2.cell (p := ⟨w.heap.size + 1, 0, none⟩) (block_lt_of_cell c0)).trans c0
      have k1 := (hb2.cell (p := ⟨w.heap.size + 1, 1, none⟩) (block_lt_of_cell c1)).trans c1
      have t0 := (hb2.cell (p := ⟨w.heap.size, 0, none⟩) (block_lt_of_cell s0)).trans s0
      have t1 := (hb2.cell (p := ⟨w.heap.size, 1, none⟩) (block_lt_of_cell s1)).trans s1
      have t2 := (hb2.cell (p := ⟨w.heap.size, 2, none⟩) (block_lt_of_cell s2)).trans s2
      have y0 := (frozen_below hb2 (p := ⟨w.heap.size, 0, none⟩) (block_lt_of_cell s0)).trans z0
      have y1 := (frozen_below hb2 (p := ⟨w.heap.size, 1, none⟩) (block_lt_of_cell s1)).trans z1
      have y2 := (frozen_below hb2 (p := ⟨w.heap.size, 2, none⟩) (block_lt_of_cell s2)).trans z2
      have HB2 : Hid (Below w.heap.size w w2) := HB1.out.trans (hb2.mono HB1.out.size)
      clear hb2 c0 c1 c2 s0 s1 s2 z0 z1 z2
      by_cases hn : 0 ≤ numberL d 6
      · have HM : Hid (headOf l = some (a, false, (numberL d 6).toNat)) := by
          show headOf l = _
          rw [HO.out, if_pos ⟨by simp, hn⟩]
          simp
        have hsz2 : sizeOfL d = (numberL d 6, true) := by unfold sizeOfL; rw [if_pos hn]
        rw [hsz2]
        obtain ⟨n, hn'⟩ := Int.eq_ofNat_of_zero_le hn
        rw [hn', Int.toNat_natCast] at HM
        rw [hn']
        clear hsz2 hn hn' HO
        go_wp2_with fail
        go_region
        all_goals go_wp2
        all_goals
          obtain ⟨q0, q1, q2, q3⟩ := slot_set3 (w := w) (wr := w2) (sv a) (.bool false) (sv []) t0 t1 t2 HB2.out
          exact bodyPost_ret (v := .tuple #[fv ⟨a, false, []⟩, .int .i64 n, .bool true]) (by simp [results, Tryz.results38, go_sem, q0, q1, q2]) rfl ⟨by unfold headV; rw [HM.out], q3.drew⟩
      · have HM : Hid (headOf l = none) := by
          show headOf l = _
          rw [HO.out, if_neg (fun h => hn h.2)]
        have hsz2 : sizeOfL d = (0, false) := by unfold sizeOfL; rw [if_neg hn]
        rw [hsz2]
        clear hsz2 hn HO
        go_wp2
        obtain ⟨q0, q1, q2, q3⟩ := slot_set3 (w := w) (sv []) (.bool false) (sv []) t0 t1 t2 HB2.out
        exact bodyPost_ret (v := .tuple #[fv ⟨[], false, []⟩, .int .i64 0, .bool false]) (by simp [results, Tryz.results38, go_sem, q0, q1, q2]) rfl ⟨by unfold headV; rw [HM.out], q3⟩
    · have HM : Hid (headOf l = none) := by
        show headOf l = none
        rw [HO.out, if_neg (fun h => h.1.elim hx hf)]
      have hx' : (m == [120]) = false := by simpa using hx
      have hf' : (m == [102]) = false := by simpa using hf
      clear hx hf HO
      go_wp2
      obtain ⟨q0, q1, q2, q3⟩ := slot_set3 (w := w) (sv []) (.bool false) (sv []) s0 s1 s2 HB1.out
      exact bodyPost_ret (v := .tuple #[fv ⟨[], false, []⟩, .int .i64 0, .bool false]) (by simp [results, Tryz.results38, go_sem, q0, q1, q2]) rfl ⟨by unfold headV; rw [HM.out], q3⟩
  · have HO := Lib.hid (headOf_few h3)
    have h3' : ¬ (((piecesBy 32 l).length : Int) = 3) := by omega
    generalize (piecesBy 32 l).length = k at h3'
    clear h3 hw1
    go_wp2
    obtain ⟨q0, q1, q2, q3⟩ := slot_set3 (w := w) (sv []) (.bool false) (sv []) s0 s1 s2 HB1.out
    exact bodyPost_ret (v := .tuple #[fv ⟨[], false, []⟩, .int .i64 0, .bool false]) (by simp [results, Tryz.results38, go_sem, q0, q1, q2]) rfl ⟨by unfold headV; rw [HO.out], q3⟩
end Go.Proofs.YtlofpooobabkjaaGreatDoor
/-
  Package pack: cutFile: a contract, over this seat's translation.
-/
namespace Go.Proofs.YtlofpooobabkjaaGreatDoor
open Go.RowKit Go.Shelf

/-- What cutFile answers. -/
def cutV (s : List UInt8) : Value := match cutFileL s with
  | none => .tuple #[fv ⟨[], false, []⟩, sv [], .bool false]
  | some (f, r) => .tuple #[fv f, sv r, .bool true]

theorem cutFile_noLine {s : List UInt8} (h : cutBy 10 s = none) : cutFileL s = none := by unfold cutFileL; rw [h]
theorem cutFile_noHead {s line rest : List UInt8} (h : cutBy 10 s = some (line, rest)) (hh : headOf line = none) : cutFileL s = none := by unfold cutFileL; rw [h]; simp only [hh]
theorem cutFile_head {s line rest a : List UInt8} {x : Bool} {n : Nat} (h : cutBy 10 s = some (line, rest)) (hh : headOf line = some (a, x, n)) : cutFileL s = if rest[n]? = some 10 then some (⟨a, x, rest.take n⟩, rest.drop (n + 1)) else none := by unfold cutFileL; rw [h]; simp only [hh]
theorem headV_none {l : List UInt8} (h : headOf l = none) : headV l = .tuple #[fv ⟨[], false, []⟩, .int .i64 0, .bool false] := by unfold headV; rw [h]
theorem headV_some {l a : List UInt8} {x : Bool} {n : Nat} (h : headOf l = some (a, x, n)) : headV l = .tuple #[fv ⟨a, x, []⟩, .int .i64 n, .bool true] := by unfold headV; rw [h]
theorem headOf_bound {l a : List UInt8} {x : Bool} {n : Nat} (h : headOf l = some (a, x, n)) : n < 1000000 := by
  unfold headOf at h
  split at h
  · split at h
    · rename_i b m d _ hc
      simp only [Option.some.injEq, Prod.mk.injEq] at h
      obtain ⟨_, _, rfl⟩ := h
      have e := number_inv hc.2
      have hl : d.length ≤ 6 := by
        have := hc.2
        unfold numberL at this
        split at this
        · omega
        · omega
      have := digits_bound (v := (numberL d 6).toNat) (k := 6) (by rw [← e]; exact hl)
      omega
    · cases h
  · cases h

theorem slot_alloc {w w1 : World} (h : Below (w.heap.size + 1) (w.alloc (.cells #[sv [], .bool false, sv []] 46)) w1) {w2 : World} (h2 : Below w1.heap.size w1 w2) : Below (w.heap.size + 1) (w.alloc (.cells #[sv [], .bool false, sv []] 46)) w2 :=
  h.trans (h2.mono (by have := h.size; simp at this; omega))

/-- The three cells behind three stores. -/
theorem slot_full3 {w wr : World} {b : Nat} {u v z : Value} (x y t : Value) (h0 : wr.cell? ⟨b, 0, none⟩ = some u) (h1 : wr.cell? ⟨b, 1, none⟩ = some v) (h2 : wr.cell? ⟨b, 2, none⟩ = some z) (hb : Below b w wr) :
    (((wr.setCell ⟨b, 0, none⟩ x).setCell ⟨b, 1, none⟩ y).setCell ⟨b, 2, none⟩ t).cell? ⟨b, 0, none⟩ = some x ∧ (((wr.setCell ⟨b, 0, none⟩ x).setCell ⟨b, 1, none⟩ y).setCell ⟨b, 2, none⟩ t).cell? ⟨b, 1, none⟩ = some y ∧ (((wr.setCell ⟨b, 0, none⟩ x).setCell ⟨b, 1, none⟩ y).setCell ⟨b, 2, none⟩ t).cell? ⟨b, 2, none⟩ = some t ∧ Below b w (((wr.setCell ⟨b, 0, none⟩ x).setCell ⟨b, 1, none⟩ y).setCell ⟨b, 2, none⟩ t) := by
  obtain ⟨q0, q1, q2, q3⟩ := slot_set3 (w := w) x y t h0 h1 h2 hb
  refine ⟨?_, ?_, q2, q3⟩
  · rw [World.cell?_setCell_other (h := by simp), World.cell?_setCell_other (h := by simp)]
    exact q0
  · rw [World.cell?_setCell_other (h := by simp)]
    exact q1

theorem slot_last {w wr : World} {b : Nat} {u v z : Value} (t : Value) (h0 : wr.cell? ⟨b, 0, none⟩ = some u) (h1 : wr.cell? ⟨b, 1, none⟩ = some v) (h2 : wr.cell? ⟨b, 2, none⟩ = some z) (hb : Below b w wr) :
    (wr.setCell ⟨b, 2, none⟩ t).cell? ⟨b, 0, none⟩ = some u ∧ (wr.setCell ⟨b, 2, none⟩ t).cell? ⟨b, 1, none⟩ = some v ∧ (wr.setCell ⟨b, 2, none⟩ t).cell? ⟨b, 2, none⟩ = some t ∧ Below b w (wr.setCell ⟨b, 2, none⟩ t) :=
  ⟨by rw [World.cell?_setCell_other (h := by simp)]; exact h0, by rw [World.cell?_setCell_other (h := by simp)]; exact h1, World.cell?_setCell_same' _ _ _ (by rw [h2]; rfl), hb.setCell (p := ⟨b, 2, none⟩) (Nat.le_refl _) _⟩

set_option maxRecDepth 100000 in
set_option maxHeartbeats 4000000 in
theorem cutFile_any (p : Nat → Addr) (s : List UInt8) (w : World) (hE : SEnv p w) (hl : s.length ≤ 100000) :
    Calls Tryz.prog 24 #[.string ⟨s.toArray⟩] w fun e w' => e = .returned (cutV s) ∧ Below w.heap.size w w' := by
  have HE0 : Hid (SEnv p (w.alloc (.cells #[sv [], .bool false, sv []] 46))) := hE.below ((Below.refl _ _).alloc (Nat.le_refl _) _)
  clear hE
  cases hc : cutBy 10 s with
  | none =>
    have HC := Lib.hid hc
    have HF := Lib.hid (cutFile_noLine hc)
    clear hc
    go_enter Tryz.func24, Tryz.ntmps24
    go_wp2_with fail
    refine (cutBy_miss 10 s _ HC.out).mono ?_
    rintro e w1 ⟨rfl, rfl⟩
    go_wp2_with fail
    refine (readHead_any p s _ HE0.out hl).mono ?_
    rintro e w2 ⟨rfl, hb2⟩
    obtain ⟨⟨s0, s1, s2⟩, ⟨z0, z1, z2⟩, s3⟩ := slot_three (slot_alloc (Below.refl _ _) hb2)
    have HB2 : Hid (Below w.heap.size w w2) := s3
    clear s3 hb2
    rcases hh : headOf s with _ | ⟨a, x, n⟩
    · rw [headV_none hh]
      clear hh
      go_wp2
      obtain ⟨b0, b1, b2, b3⟩ := slot_full3 (w := w) (sv []) (.bool false) (sv []) s0 s1 s2 HB2.out
      obtain ⟨q0, q1, q2, q3⟩ := slot_set3 (w := w) (sv []) (.bool false) (sv []) b0 b1 b2 b3
      exact bodyPost_ret (v := .tuple #[fv ⟨[], false, []⟩, sv [], .bool false]) (by simp [results, Tryz.results24, go_sem, q0, q1, q2]) rfl ⟨by unfold cutV; rw [HF.out], q3⟩
    · rw [headV_some hh]
      clear hh
      go_wp2
      obtain ⟨b0, b1, b2, b3⟩ := slot_full3 (w := w) (sv a) (.bool x) (sv []) s0 s1 s2 HB2.out
      obtain ⟨q0, q1, q2, q3⟩ := slot_set3 (w := w) (sv []) (.bool false) (sv []) b0 b1 b2 b3
      exact bodyPost_ret (v := .tuple #[fv ⟨[], false, []⟩, sv [], .bool false]) (by simp [results, Tryz.results24, go_sem, q0, q1, q2]) rfl ⟨by unfold cutV; rw [HF.out], q3⟩
  | some y =>
    obtain ⟨line, rest⟩ := y
    have HC := Lib.hid hc
    have hlen : line.length + rest.length + 1 = s.length := by
      have := congrArg List.length (cutBy_some hc).1
      simp at this
      omega
    clear hc
    go_enter Tryz.func24, Tryz.ntmps24
    go_wp2_with fail
    refine (cutBy_hit 10 s line rest _ hl HC.out).mono ?_
    rintro e w1 ⟨rfl, nd, hw1⟩
    have hb1 : Below (w.heap.size + 1) (w.alloc (.cells #[sv [], .bool false, sv []] 46)) w1 := by
      rw [hw1]
      exact below_drewN (Below.refl _ _) nd
    have HE1 : Hid (SEnv p w1) := HE0.out.below (by rw [hw1]; exact below_drewN (Below.refl _ _) nd)
    have HB1 := Lib.hid hb1
    clear hw1 hb1 HE0
    go_wp2_with fail
    refine (readHead_any p line _ HE1.out (by omega)).mono ?_
    rintro e w2 ⟨rfl, hb2⟩
    obtain ⟨⟨s0, s1, s2⟩, ⟨z0, z1, z2⟩, s3⟩ := slot_three (slot_alloc HB1.out hb2)
    have HB2 : Hid (Below w.heap.size w w2) := s3
    clear s3 hb2 HB1 HE1
    rcases hh : headOf line with _ | ⟨a, x, n⟩
    · have HF := Lib.hid (cutFile_noHead HC.out hh)
      rw [headV_none hh]
      clear hh
      go_wp2
      obtain ⟨b0, b1, b2, b3⟩ := slot_full3 (w := w) (sv []) (.bool false) (sv []) s0 s1 s2 HB2.out
      obtain ⟨q0, q1, q2, q3⟩ := slot_set3 (w := w) (sv []) (.bool false) (sv []) b0 b1 b2 b3
      exact bodyPost_ret (v := .tuple #[fv ⟨[], false, []⟩, sv [], .bool false]) (by simp [results, Tryz.results24, go_sem, q0, q1, q2]) rfl ⟨by unfold cutV; rw [HF.out], q3⟩
    · have HI := Lib.hid (cutFile_head HC.out hh)
      have hn := headOf_bound hh
      rw [headV_some hh]
      clear hh
      by_cases hlong : rest.length < n
      · have HF : Hid (cutFileL s = none) := by
          show cutFileL s = none
          rw [HI.out, if_neg (by rw [List.getElem?_eq_none (by omega)]; simp)]
        have hlong' : (rest.length : Int) < (n : Int) := by omega
        go_wp2
        obtain ⟨b0, b1, b2, b3⟩ := slot_full3 (w := w) (sv a) (.bool x) (sv []) s0 s1 s2 HB2.out
        obtain ⟨q0, q1, q2, q3⟩ := slot_set3 (w := w) (sv []) (.bool false) (sv []) b0 b1 b2 b3
        exact bodyPost_ret (v := .tuple #[fv ⟨[], false, []⟩, sv [], .bool false]) (by simp [results, Tryz.results24, go_sem, q0, q1, q2]) rfl ⟨by unfold cutV; rw [HF.out], q3⟩
      · have hlong' : decide ((rest.length : Int) < (n : Int)) = false := by simp; omega
        have hnr : (n : Int) ≤ (rest.length : Int) := by omega
        have e1 : ({ data := rest.toArray } : ByteArray).extract 0 n = ⟨(rest.take n).toArray⟩ := by rw [extract_list]; simp
        have e2 : ({ data := rest.toArray } : ByteArray).extract n rest.length = ⟨(rest.drop n).toArray⟩ := by
          rw [extract_list, List.take_of_length_le (by rw [List.length_drop]; omega)]
        go_wp2_with fail
        refine (cutPrefix_by 10 (rest.drop n) _).mono ?_
        rintro e w3 ⟨rfl, rfl⟩
        have hd : (rest.drop n).head? = rest[n]? := List.head?_drop
        rw [hd]
        obtain ⟨q0, q1, q2, q3⟩ := slot_set3 (w := w) (sv a) (.bool x) (sv []) s0 s1 s2 HB2.out
        obtain ⟨b0, b1, b2, b3⟩ := slot_full3 (w := w) (sv a) (.bool x) (sv []) s0 s1 s2 HB2.out
        obtain ⟨r0, r1, r2, r3⟩ := slot_last (w := w) (sv (rest.take n)) b0 b1 b2 b3
        by_cases hend : rest[n]? = some 10
        · have HF : Hid (cutFileL s = some (⟨a, x, rest.take n⟩, rest.drop (n + 1))) := by
            show cutFileL s = _
            rw [HI.out, if_pos hend]
          rw [if_pos hend, decide_eq_true hend]
          have ht : (rest.drop n).tail = rest.drop (n + 1) := List.tail_drop
          rw [ht]
          clear hend hd ht HI
          go_wp2
          obtain ⟨u0, u1, u2, u3⟩ := slot_set3 (w := w) (sv a) (.bool x) (sv (rest.take n)) r0 r1 r2 r3
          exact bodyPost_ret (v := .tuple #[fv ⟨a, x, rest.take n⟩, sv (rest.drop (n + 1)), .bool true]) (by simp [results, Tryz.results24, go_sem, u0, u1, u2]) rfl ⟨by unfold cutV; rw [HF.out], u3⟩
        · have HF : Hid (cutFileL s = none) := by
            show cutFileL s = _
            rw [HI.out, if_neg hend]
          rw [if_neg hend, decide_eq_false hend]
          clear hend hd HI
          go_wp2
          obtain ⟨u0, u1, u2, u3⟩ := slot_set3 (w := w) (sv []) (.bool false) (sv []) r0 r1 r2 r3
          exact bodyPost_ret (v := .tuple #[fv ⟨[], false, []⟩, sv [], .bool false]) (by simp [results, Tryz.results24, go_sem, u0, u1, u2]) rfl ⟨by unfold cutV; rw [HF.out], u3⟩
end Go.Proofs.YtlofpooobabkjaaGreatDoor
/-
  Package tree's Check tells of every list of files what the plain function tells: over this seat's translation.
-/
namespace Go.Proofs.YtlofpooobabkjaaGreatDoor
open Go.RowKit Go.Shelf

theorem next_ok (p : Nat → Addr) (pre : List F) (f : F) (b o n ca : Nat) (w : World) (hn' : pre.length = n) (hE : Env p w) (hb : b < w.heap.size) (hl : LiesAt w (some ⟨b, o, none⟩) pre) (hn : pre.length ≤ 100000) (hs : ∀ g ∈ pre, g.p.length ≤ 40000) (hf : f.p.length ≤ 40000) (ht : f.t.length ≤ 500000) (h : fileCode pre f = 0) :
    Calls Tryz.prog 28 #[.slice (some ⟨b, o, none⟩) n ca, fv f] w fun e w' => e = .returned .nilIface ∧ Below w.heap.size w w' := by
  have := next_any p pre f b o ca w hE hb hl hn hs hf ht
  rwa [h, hn'] at this
theorem next_bad (p : Nat → Addr) (pre : List F) (f : F) (b o n ca k : Nat) (w : World) (hn' : pre.length = n) (hE : Env p w) (hb : b < w.heap.size) (hl : LiesAt w (some ⟨b, o, none⟩) pre) (hn : pre.length ≤ 100000) (hs : ∀ g ∈ pre, g.p.length ≤ 40000) (hf : f.p.length ≤ 40000) (ht : f.t.length ≤ 500000) (h : fileCode pre f = k + 1) :
    Calls Tryz.prog 28 #[.slice (some ⟨b, o, none⟩) n ca, fv f] w fun e w' => e = .returned (.iface 171 (.pointer (some (p k)))) ∧ Below w.heap.size w w' := by
  have := next_any p pre f b o ca w hE hb hl hn hs hf ht
  rwa [h, hn'] at this

theorem LiesAt.take {w : World} {a : Option Addr} {l : List F} (h : LiesAt w a l) (k : Nat) : LiesAt w a (l.take k) := fun hne => by
  have hl : l ≠ [] := fun e => hne (by rw [e]; simp)
  obtain ⟨b, o, e, hc⟩ := h hl
  refine ⟨b, o, e, fun j hj => ?_⟩
  rw [List.getElem_take]
  exact hc j (by rw [List.length_take] at hj; omega)

theorem pair_cells {w w' : World} {x y : Value} {T : TypeId} (h : Below (w.heap.size + 1) (w.alloc (.cells #[x, y] T)) w') :
    w'.cell? ⟨w.heap.size, 0, none⟩ = some x ∧ w'.cell? ⟨w.heap.size, 0 + 1, none⟩ = some y := by
  have := slot_two h
  exact ⟨this.1, this.2.1⟩

set_option maxRecDepth 100000 in
set_option maxHeartbeats 4000000 in
theorem checkTree_any (p : Nat → Addr) (l : List F) (a : Option Addr) (ca : Nat) (w : World) (hE : Env p w) (hl : LiesAt w a l) (hca : l.length ≤ ca) (hs : Small l) :
    Calls Tryz.prog 15 #[.slice a l.length ca] w fun e w' => (∃ v, e = .returned v ∧ ErrAt p w' v (treeFault l).1 (treeFault l).2) ∧ Below w.heap.size w w' := by
  have hfew := hs.few
  have HE : Hid (Env p w) := hE
  by_cases hlong : 30 < l.length
  · have HT : Hid (treeFault l = (8, -1)) := treeFault_long hlong
    have h30 : (30 : Int) < (l.length : Int) := by omega
    have s7 := hE.s7
    clear hl hE
    go_enter Tryz.func15, Tryz.ntmps15
    go_wp2
    go_ret
    exact ⟨⟨_, rfl, by rw [HT.out]; exact .inr (.inl ⟨7, rfl, by omega, rfl, rfl⟩)⟩, Below.refl _ _⟩
  · have h30 : ¬ (30 : Int) < (l.length : Int) := by omega
    have HL : Hid (LiesAt w a l) := hl
    have HPATH : Hid (∀ f ∈ l, f.p.length ≤ 40000) := hs.path
    have HTEXT : Hid (∀ f ∈ l, f.t.length ≤ 500000) := hs.text
    clear hl hs hE
    go_enter Tryz.func15, Tryz.ntmps15
    go_wp2_with fail
    have hmx : Tryz.prog.follows .mixedOrders = true := by kernel_rfl
    go_loopw [3, 13] (fun al i wr => ∃ q : Nat, q ≤ l.length ∧ i = .int .i64 q ∧ al = .int .i64 (total (l.take q)) ∧ (∀ j (h : j < l.length), j < q → fileCode (l.take j) l[j] = 0) ∧ Below w.heap.size w wr) (fun _ i _ => l.length - (intOf i).toNat)
    case atStart => exact ⟨0, by omega, rfl, by simp [total], fun _ _ h => by omega, Below.refl _ _⟩
    case round =>
      obtain ⟨q, hq, rfl, rfl, hz, hb⟩ := hrel
      have HB : Hid (Below w.heap.size w wr) := hb
      have HZ : Hid (∀ j (h : j < l.length), j < q → fileCode (l.take j) l[j] = 0) := hz
      clear hb hz
      by_cases hlt : q < l.length
      · have hlt' : (q : Int) < (l.length : Int) := by omega
        obtain ⟨b, o, rfl, c0, c1, c2⟩ := (HL.out.below HB.out).at hlt
        have hbw : b < wr.heap.size := block_lt_of_cell c0
        have hpl := HPATH.out _ (List.getElem_mem hlt)
        have htl := HTEXT.out _ (List.getElem_mem hlt)
        have hq0 : (0 : Int) ≤ (q : Int) := by omega
        have hqc : (q : Int) ≤ (ca : Int) := by omega
        have HTK : Hid ((l.take q).length = q) := by show (l.take q).length = q; rw [List.length_take]; omega
        have HPT : Hid (∀ g ∈ l.take q, g.p.length ≤ 40000) := fun g hg => HPATH.out g (List.mem_of_mem_take hg)
        cases hc : fileCode (l.take q) l[q] with
        | succ k =>
          have HF : Hid (treeFault l = (k + 1, (q : Int))) := by
            have := treeFault_at (l := l) (by omega) hlt HZ.out (by rw [hc]; simp)
            rwa [hc] at this
          have HC : Hid (fileCode (l.take q) l[q] = k + 1) := hc
          have hk13 : k < 13 := by have := fileCode_le (l.take q) l[q]; omega
          clear hc
          generalize l[q] = f at c0 c1 c2 hpl htl HC
          go_wp2_with fail
          obtain ⟨W, hW⟩ : ∃ W, W = wr.alloc (.cells #[.string ⟨f.p.toArray⟩, .bool f.r, .string ⟨f.t.toArray⟩] 46) := ⟨_, rfl⟩
          obtain ⟨g0, g1, g2, hBW⟩ := box_three (w := wr) (w' := W) (x := .string ⟨f.p.toArray⟩) (y := .bool f.r) (z := .string ⟨f.t.toArray⟩) (T := 46) (by rw [hW]; exact Below.refl _ _)
          have hsz : W.heap.size = wr.heap.size + 1 := by rw [hW, World.size_alloc]
          rw [← hW]
          have HWB : Hid (Below wr.heap.size wr W) := hBW
          clear hBW hW
          go_still_tail 4, hmx
          go_wp2_with fail
          have hB0 : Below w.heap.size w W.drew := (HB.out.trans (HWB.out.mono HB.out.size)).drew
          refine (next_bad p (l.take q) f b o q ca k _ HTK.out (HE.out.below hB0) (by show b < W.heap.size; omega) ((HL.out.below hB0).take q) (by rw [HTK.out]; omega) HPT.out hpl htl HC.out).mono ?_
          rintro e w2 ⟨rfl, hb2⟩
          have HB2 : Hid (Below w.heap.size w w2) := hB0.trans (hb2.mono hB0.size)
          clear hb2 hB0
          go_wp2
          go_ret
          have hpc := pair_cells (w := w2) (x := .int .i64 q) (y := .iface 171 (.pointer (some (p k)))) (T := 64) (Below.refl _ _)
          exact ⟨⟨_, rfl, by rw [HF.out]; exact .inr (.inr ⟨k, _, _, rfl, hk13, rfl, hpc.1, hpc.2⟩)⟩, HB2.out.alloc HB2.out.size _⟩
        | zero =>
          have HN : Hid (∀ j (h : j < l.length), j < q + 1 → fileCode (l.take j) l[j] = 0) := by
            intro j hj hjq
            by_cases e : j = q
            · subst e; exact hc
            · exact HZ.out j hj (by omega)
          have HC : Hid (fileCode (l.take q) l[q] = 0) := hc
          have HSUM : Hid (total (l.take (q + 1)) = total (l.take q) + l[q].t.length) := total_succ hlt
          have HTT := total_take HTEXT.out q
          clear hc
          generalize l[q] = f at c0 c1 c2 hpl htl HC HSUM
          go_wp2_with fail
          obtain ⟨W, hW⟩ : ∃ W, W = wr.alloc (.cells #[.string ⟨f.p.toArray⟩, .bool f.r, .string ⟨f.t.toArray⟩] 46) := ⟨_, rfl⟩
          obtain ⟨g0, g1, g2, hBW⟩ := box_three (w := wr) (w' := W) (x := .string ⟨f.p.toArray⟩) (y := .bool f.r) (z := .string ⟨f.t.toArray⟩) (T := 46) (by rw [hW]; exact Below.refl _ _)
          have hsz : W.heap.size = wr.heap.size + 1 := by rw [hW, World.size_alloc]
          rw [← hW]
          have HWB : Hid (Below wr.heap.size wr W) := hBW
          clear hBW hW
          go_still_tail 4, hmx
          go_wp2_with fail
          have hB0 : Below w.heap.size w W.drew := (HB.out.trans (HWB.out.mono HB.out.size)).drew
          refine (next_ok p (l.take q) f b o q ca _ HTK.out (HE.out.below hB0) (by show b < W.heap.size; omega) ((HL.out.below hB0).take q) (by rw [HTK.out]; omega) HPT.out hpl htl HC.out).mono ?_
          rintro e w2 ⟨rfl, hb2⟩
          have k2 : w2.cell? ⟨wr.heap.size, 2, none⟩ = some (sv f.t) := (hb2.cell (p := ⟨wr.heap.size, 2, none⟩) (by show wr.heap.size < W.heap.size; omega)).trans g2
          have HB2 : Hid (Below w.heap.size w w2) := hB0.trans (hb2.mono hB0.size)
          clear hb2 hB0 g0 g1 g2
          go_wp2
          go_roundw
          case rel => exact ⟨q + 1, by omega, by go_num, by rw [HSUM.out]; go_num, HN.out, HB2.out⟩
          case measure => simp [intOf]; omega
      · obtain rfl : q = l.length := by omega
        have hall : ∀ j (h : j < l.length), fileCode (l.take j) l[j] = 0 := fun j hj => HZ.out j hj hj
        have HEnd := treeFault_end (l := l) (by omega) hall
        have htk := total_take HTEXT.out l.length
        rw [List.take_length] at htk ⊢
        clear hall
        by_cases hbig : 12000 < total l
        · rw [if_pos hbig] at HEnd
          have HF : Hid (treeFault l = (2, -1)) := HEnd
          have hbig' : (12000 : Int) < (total l : Int) := by omega
          have s1 := (HE.out.below HB.out).s1
          clear HEnd
          go_wp2
          go_ret
          exact ⟨⟨_, rfl, by rw [HF.out]; exact .inr (.inl ⟨1, rfl, by omega, rfl, rfl⟩)⟩, HB.out⟩
        · rw [if_neg hbig] at HEnd
          have HF : Hid (treeFault l = (0, -1)) := HEnd
          have hbig' : ¬ (12000 : Int) < (total l : Int) := by omega
          clear HEnd
          go_wp2
          go_ret
          exact ⟨⟨_, rfl, by rw [HF.out]; exact .inl ⟨rfl, rfl, rfl⟩⟩, HB.out⟩
end Go.Proofs.YtlofpooobabkjaaGreatDoor
/-
  What a function that answers files and an error tells; what one of the document's answer that answers files and a fault tells: over this seat's translation.
-/
namespace Go.Proofs.YtlofpooobabkjaaGreatDoor
open Go.RowKit Go.Shelf

/-- What a call tells that makes a tree: the files, and an error's number and place. -/
def Told (p : Nat → Addr) (w : World) (e : Ending) (r : List F × Nat × Int) : Prop :=
  ∃ a c v, e = .returned (.tuple #[.slice a r.1.length c, v]) ∧ LiesAt w a r.1 ∧ r.1.length ≤ c ∧ ErrAt p w v r.2.1 r.2.2

theorem told_none {p : Nat → Addr} {w : World} {v : Value} {c : Nat} {i : Int} (h : ErrAt p w v c i) : Told p w (.returned (.tuple #[.slice none 0 0, v])) ([], c, i) :=
  ⟨none, 0, v, rfl, fun h => absurd rfl h, Nat.le_refl _, h⟩

/-- What was told, with what it comes to. -/
theorem Told.open {p : Nat → Addr} {w : World} {e : Ending} {r : List F × Nat × Int} {l : List F} {c : Nat} {i : Int} (h : Told p w e r) (hr : r = (l, c, i)) :
    ∃ a ca v, e = .returned (.tuple #[.slice a l.length ca, v]) ∧ LiesAt w a l ∧ l.length ≤ ca ∧ ErrAt p w v c i := by
  subst hr
  exact h
theorem Told.fine {p : Nat → Addr} {w : World} {e : Ending} {r : List F × Nat × Int} {l : List F} (h : Told p w e r) (hr : r = (l, 0, -1)) :
    ∃ a ca, e = .returned (.tuple #[.slice a l.length ca, .nilIface]) ∧ LiesAt w a l ∧ l.length ≤ ca := by
  obtain ⟨a, ca, v, he, hl, hc, hv⟩ := h.open hr
  have := hv.isNil
  subst this
  exact ⟨a, ca, he, hl, hc⟩
theorem Told.bad {p : Nat → Addr} {w : World} {e : Ending} {r : List F × Nat × Int} {c : Nat} {i : Int} (h : Told p w e r) (hr : r = ([], c, i)) (hc : c ≠ 0) :
    ∃ a ca T u, e = .returned (.tuple #[.slice a 0 ca, .iface T u]) ∧ ErrAt p w (.iface T u) c i := by
  obtain ⟨a, ca, v, he, hl, hca, hv⟩ := h.open hr
  obtain ⟨T, u, rfl⟩ := hv.some hc
  exact ⟨a, ca, T, u, he, hv⟩

/-- What a function of the package tells, with what it comes to. -/
theorem told_open {f : Nat} {args : Array Value} {p : Nat → Addr} {W : World} {r : List F × Nat × Int} {T : List F} {c : Nat} {i : Int} (h : Calls Tryz.prog f args W fun e w' => Told p w' e r ∧ Below W.heap.size W w') (hr : r = (T, c, i)) :
    Calls Tryz.prog f args W fun e w' => (∃ a ca v, e = .returned (.tuple #[.slice a T.length ca, v]) ∧ LiesAt w' a T ∧ ErrAt p w' v c i) ∧ Below W.heap.size W w' :=
  h.mono fun e w' ⟨ht, hb⟩ => by
    obtain ⟨a, ca, v, he, hl, _, hv⟩ := ht.open hr
    exact ⟨⟨a, ca, v, he, hl, hv⟩, hb⟩
/-- What the document's answer is, with what it comes to. -/
theorem ref_open {f : Nat} {args : Array Value} {W : World} {r : List F × Nat × Int} {T : List F} {c : Nat} {i : Int} (h : Calls Tryz.prog f args W fun e w' => (∃ v, e = .returned (.tuple #[v, .agg #[.int .i64 r.2.1, .int .i64 r.2.2]]) ∧ w'.ownsRow W.heap.size 46 3 v r.1.length (lcells r.1)) ∧ Below W.heap.size W w') (hr : r = (T, c, i)) :
    Calls Tryz.prog f args W fun e w' => (∃ a ca, e = .returned (.tuple #[.slice a T.length ca, .agg #[.int .i64 c, .int .i64 i]]) ∧ LiesAt w' a T) ∧ Below W.heap.size W w' :=
  h.mono fun e w' ⟨⟨v, he, ho⟩, hb⟩ => by
    subst hr
    obtain ⟨a, ca, rfl, hl, _⟩ := owns_lies ho
    exact ⟨⟨a, ca, he, hl⟩, hb⟩
end Go.Proofs.YtlofpooobabkjaaGreatDoor
/-
  Package pack: Read tells of every text what the plain function tells: over this seat's translation.
-/
namespace Go.Proofs.YtlofpooobabkjaaGreatDoor
open Go.RowKit Go.Shelf

theorem cutV_none {s : List UInt8} (h : cutFileL s = none) : cutV s = .tuple #[fv ⟨[], false, []⟩, sv [], .bool false] := by unfold cutV; rw [h]
theorem cutV_some {s r : List UInt8} {f : F} (h : cutFileL s = some (f, r)) : cutV s = .tuple #[fv f, sv r, .bool true] := by unfold cutV; rw [h]

theorem small_pack {l : List F} (h : (packL l).length ≤ 20000) : Small l :=
  ⟨by have := pack_count l; omega, fun f hf => by have := (pack_mem hf).1; omega, fun f hf => by have := (pack_mem hf).2; omega⟩

theorem owns_files {w : World} {base : Nat} {v : Value} {l : List F} (h : w.ownsRow base 46 3 v l.length (lcells l)) : ∃ a cap, v = .slice a l.length cap ∧ LiesAt w a l ∧ l.length ≤ cap := by
  obtain ⟨a, cap, rfl, hl, hn⟩ := owns_lies h
  refine ⟨a, cap, rfl, hl, ?_⟩
  rcases h.2 with ⟨h0, h1⟩ | ⟨g, c, cur, h0, _, _, h1, _⟩
  · omega
  · cases h0
    exact h1

set_option maxRecDepth 100000 in
set_option maxHeartbeats 4000000 in
theorem packRead_any (p : Nat → Addr) (s : List UInt8) (w : World) (hE : Env p w) (hS : SEnv p w) (hl : s.length ≤ 90000) :
    Calls Tryz.prog 12 #[.string ⟨s.toArray⟩] w fun e w' => Told p w' e (readP s) ∧ Below w.heap.size w w' := by
  by_cases hlong : 20000 < s.length
  · have HT := Lib.hid (readP_long hlong)
    have hlong' : (20000 : Int) < (s.length : Int) := by omega
    have s1 := hE.s1
    clear hE hS
    go_enter Tryz.func12, Tryz.ntmps12
    go_wp2_with fail
    go_region
    go_wp2
    go_ret2
    exact ⟨by rw [HT.out]; exact told_none (.inr (.inl ⟨1, rfl, by omega, rfl, rfl⟩)), (Below.refl _ _).drew⟩
  · have hlong' : ¬ (20000 : Int) < (s.length : Int) := by omega
    have HE : Hid (Env p w) := hE
    have HS : Hid (SEnv p w) := hS
    clear hE hS
    obtain ⟨i0, hi, hz0, hz1, hz2⟩ := info_parts Tryz.infoFile
    go_enter Tryz.func12, Tryz.ntmps12
    go_wp2_with fail
    go_loopw [4, 5] (fun out rest wr => ∃ (fs : List F) (r : List UInt8), rest = .string ⟨r.toArray⟩ ∧ packL fs ++ r = s ∧ readA s = (fs ++ (readA r).1, (readA r).2) ∧ wr.ownsRow w.heap.size 46 3 out fs.length (lcells fs) ∧ Below w.heap.size w wr) (fun _ rest _ => strLen rest)
    case atStart => exact ⟨[], s, rfl, rfl, by simp, World.ownsRow_nil _ _ _ _, Below.refl _ _⟩
    case round =>
      obtain ⟨fs, r, rfl, hsr, hra, hrow, hb⟩ := hrel
      have HSR := Lib.hid hsr
      have HRA := Lib.hid hra
      have HB := Lib.hid hb
      have hbs := hb.size
      have hlr : r.length + (packL fs).length = s.length := by rw [← hsr, List.length_append]; omega
      have hpc := pack_count fs
      clear hsr hra hb
      cases r with
      | nil =>
        have hfs : readA s = (fs, true) := by rw [HRA.out, readA_nil]; simp
        have HFS := Lib.hid hfs
        obtain ⟨a, ca, rfl, hla, hca⟩ := owns_files hrow
        have HLA := Lib.hid hla
        have hsm : Small fs := small_pack (by omega)
        have HSM := Lib.hid hsm
        clear hfs hla hsm
        go_wp2_with fail
        refine (checkTree_any p fs a ca _ (HE.out.below HB.out) HLA.out hca HSM.out).mono ?_
        rintro e w1 ⟨⟨v, rfl, hv⟩, hb1⟩
        have HB1 := Lib.hid (HB.out.trans (hb1.mono HB.out.size))
        by_cases hz : (treeFault fs).1 = 0
        · have hT := readP_fine (s := s) (by omega) (by rw [HFS.out]) (by rw [HFS.out]; exact hz)
          rw [HFS.out] at hT
          have HT := Lib.hid hT
          rw [hz] at hv
          have := hv.isNil
          subst this
          have HLB := Lib.hid (HLA.out.below hb1)
          clear hT hv hz hb1
          go_wp2
          go_ret2
          exact ⟨by rw [HT.out]; exact ⟨a, ca, _, rfl, HLB.out, hca, ErrAt.fine p _⟩, HB1.out⟩
        · have hT := readP_fault (s := s) (by omega) (by rw [HFS.out]) (by rw [HFS.out]; exact hz)
          rw [HFS.out] at hT
          have HT := Lib.hid hT
          obtain ⟨T, u, rfl⟩ := hv.some hz
          have HV := Lib.hid hv
          clear hT hv hz hb1
          go_wp2
          go_ret2
          exact ⟨by rw [HT.out]; exact told_none HV.out, HB1.out⟩
      | cons x r =>
        have hne : (x :: r) ≠ [] := by simp
        generalize x :: r = R at HSR HRA hlr hne ⊢
        have hne' : (R == []) = false := by simpa using hne
        go_wp2_with fail
        refine (cutFile_any p R _ (HS.out.below HB.out) (by omega)).mono ?_
        rintro e w1 ⟨rfl, hb1⟩
        have HB1 := Lib.hid (HB.out.trans (hb1.mono HB.out.size))
        have hs0 := (HE.out.below HB1.out).s0
        have hrow1 := owns_below hrow hb1
        have hsz1 := HB1.out.size
        cases hc : cutFileL R with
        | none =>
          have hT := readP_none (s := s) (by omega) (by rw [HRA.out, readA_bad hne hc])
          rw [HRA.out, readA_bad hne hc] at hT
          have HT : Hid (readP s = ([], 1, (fs.length : Int))) := by
            show readP s = _
            rw [hT]
            simp
          rw [cutV_none hc]
          obtain ⟨a, ca, rfl, hla, hca⟩ := owns_files hrow1
          clear hT hc hb1 hla
          go_wp2_with fail
          obtain ⟨W, hW⟩ : ∃ W, W = w1.alloc (.cells #[sv [], .bool false, sv []] 46) := ⟨_, rfl⟩
          have hBW : Below w1.heap.size w1 W := by rw [hW]; exact (Below.refl _ _).alloc (Nat.le_refl _) _
          have hg0 := (hBW.cell (p := ⟨1, 0, none⟩) (block_lt_of_cell hs0)).trans hs0
          have HBW := Lib.hid (HB1.out.trans (hBW.mono HB1.out.size))
          rw [← hW]
          clear hBW hW hs0 hrow hrow1
          go_region
          all_goals go_wp2
          all_goals go_ret2
          all_goals
            have hpc2 := pair_cells (w := W) (x := .int .i64 fs.length) (y := .iface 171 (.pointer (some (p 0)))) (T := 64) (Below.refl _ _)
            exact ⟨by rw [HT.out]; exact told_none (.inr (.inr ⟨0, _, _, rfl, by omega, rfl, hpc2.1, hpc2.2⟩)), (HBW.out.alloc HBW.out.size _).drew⟩
        | some y =>
          obtain ⟨f, r'⟩ := y
          have HSR2 : Hid (packL (fs ++ [f]) ++ r' = s) := by
            show packL (fs ++ [f]) ++ r' = s
            rw [packL_snoc, List.append_assoc, ← cutFile_some hc]
            exact HSR.out
          have HRA2 : Hid (readA s = ((fs ++ [f]) ++ (readA r').1, (readA r').2)) := by
            show readA s = _
            rw [HRA.out, readA_good hne hc]
            simp
          have hless := cutFile_less hc
          rw [cutV_some hc]
          clear hc hb1
          go_wp2_with (at_builtin; refine wpList_append_own _ rfl _ _ 22 rfl w.heap.size 46 i0 (.agg #[.string ⟨#[]⟩, .bool false, .string ⟨#[]⟩]) 3 40 Tryz.underlying22 hi hz0 hz1 hz2 rfl (by decide) _ _ _ rfl ((hrow1.alloc _).alloc _) ⟨w1.heap.size + 1, 0, none⟩ 1 1 (fcells f) rfl rfl (fun j u hu => by simpa using cells_new (w1.alloc (.cells #[sv f.p, .bool f.r, sv f.t] 46)) f 46 j u hu) (by simp [fcells, Value.oneCell']) (by unfold maxLen; omega) (by omega) (by simp; omega) ?_; intro v' w2 hown' hgrow _)
          have HB2 : Below w.heap.size w w2 := ((HB1.out.alloc hsz1 _).alloc (by simp; omega) _).grown hgrow (by simp; omega) (fun j ej => (hrow1.lt j ej).1)
          refine ⟨⟨fs ++ [f], r', rfl, HSR2.out, HRA2.out, ?_, HB2⟩, by rw [strLen_list, strLen_list]; omega⟩
          rw [lcells_app]
          simpa [lcells] using hown'
end Go.Proofs.YtlofpooobabkjaaGreatDoor
/-
  Facts on packs of right trees: no Go text is spoken of here.
-/
namespace Go.Proofs.YtlofpooobabkjaaGreatDoor

theorem mem_pieces : ∀ {l : List UInt8} {b : UInt8}, b ∈ l → b ≠ 47 → ∃ x ∈ pieces l, b ∈ x
  | [], _, h, _ => by simp at h
  | c :: r, b, h, h47 => by
    by_cases hc : c = 47
    · have e : pieces (c :: r) = [] :: pieces r := by rw [pieces, if_pos hc]
      rw [e]
      rcases List.mem_cons.1 h with h | h
      · exact absurd (h.trans hc) h47
      · obtain ⟨x, hx, hb⟩ := mem_pieces h h47
        exact ⟨x, by simp [hx], hb⟩
    · cases hp : pieces r with
      | nil => exact absurd hp (pieces_ne r)
      | cons q qs =>
        have e : pieces (c :: r) = (c :: q) :: qs := by rw [pieces, if_neg hc, hp]
        rw [e]
        rcases List.mem_cons.1 h with h | h
        · exact ⟨c :: q, by simp, by simp [h]⟩
        · obtain ⟨x, hx, hb⟩ := mem_pieces h h47
          rw [hp] at hx
          rcases List.mem_cons.1 hx with hx | hx
          · exact ⟨c :: q, by simp, by rw [hx] at hb; simp [hb]⟩
          · exact ⟨x, by simp [hx], hb⟩
theorem path_not {s : List UInt8} {b : UInt8} (h : checkCode s = 0) (hb : b ≠ 47) (hp : partByte b = false) : b ∉ s := by
  intro hm
  obtain ⟨x, hx, hbx⟩ := mem_pieces hm hb
  have := (checkCode_zero.1 h).1 x hx
  unfold isPart at this
  simp only [Bool.and_eq_true] at this
  have := List.all_eq_true.1 this.2 b hbx
  rw [hp] at this
  cases this
theorem plain_right {f : F} (h : Right f) : Plain f := ⟨path_not h.1 (by decide) (by decide), path_not h.1 (by decide) (by decide), by have := h.2; omega⟩
theorem plain_tree {l : List F} (h : (treeFault l).1 = 0) : ∀ f ∈ l, Plain f := fun f hf => plain_right ((tree_good.1 h).1.right f hf)

theorem clean_itself {s : List UInt8} (h : checkCode s = 0) : cleanL s = (s, 0) := by
  obtain ⟨hp, hl⟩ := checkCode_zero.1 h
  refine cleanL_of (ks := pieces s) ⟨?_, cleanF_keep hp, hp, hl, (join_pieces s).symm⟩
  have := head_join hp
  rwa [join_pieces] at this

theorem pack_length {l : List F} (h : ∀ f ∈ l, Right f) : (packL l).length ≤ 88 * l.length + total l := by
  induction l with
  | nil => simp [packL]
  | cons f l ih =>
    have i := ih fun g hg => h g (by simp [hg])
    have a := path_short (h f (by simp)).1
    have b := (h f (by simp)).2
    have c := digits_length 3 f.t.length (by omega)
    have d := fileL_length f
    have t : total (f :: l) = f.t.length + total l := by simp [total]
    rw [packL_cons, List.length_append, List.length_cons, t]
    omega
theorem pack_small {l : List F} (h : (treeFault l).1 = 0) : (packL l).length ≤ 20000 := by
  obtain ⟨g, hn, ht⟩ := tree_good.1 h
  have := pack_length g.right
  omega

/-- What Read answers: files that are right, and a pack of them is the text; or an error, and none. -/
theorem readP_cases (s : List UInt8) : (∃ r, readP s = (r, 0, -1) ∧ packL r = s ∧ (treeFault r).1 = 0) ∨ ∃ c i, readP s = ([], c, i) ∧ c ≠ 0 := by
  by_cases hl : 20000 < s.length
  · exact .inr ⟨2, -1, readP_long hl, by decide⟩
  · have hl' : s.length ≤ 20000 := by omega
    cases h1 : (readA s).2 with
    | false => exact .inr ⟨1, _, readP_none hl' h1, by decide⟩
    | true =>
      by_cases h2 : (treeFault (readA s).1).1 = 0
      · exact .inl ⟨_, readP_fine hl' h1 h2, pack_readA _ s (Nat.le_refl _) h1, h2⟩
      · exact .inr ⟨_, _, readP_fault hl' h1 h2, h2⟩
theorem readP_pack {l : List F} (h : (treeFault l).1 = 0) : readP (packL l) = (l, 0, -1) := by
  have e := readA_pack (plain_tree h)
  have := readP_fine (s := packL l) (pack_small h) (by rw [e]) (by rw [e]; exact h)
  rw [this, e]
theorem readP_cut {l y : List F} {k : Nat} (h : (treeFault l).1 = 0) (hk : k < (packL l).length) (hy : readP ((packL l).take k) = (y, 0, -1)) : y.length < l.length ∧ y = l.take y.length := by
  have hs := pack_small h
  have hl : ((packL l).take k).length ≤ 20000 := by rw [List.length_take]; omega
  cases h1 : (readA ((packL l).take k)).2 with
  | false =>
    rw [readP_none hl h1] at hy
    cases hy
  | true =>
    by_cases h2 : (treeFault (readA ((packL l).take k)).1).1 = 0
    · rw [readP_fine hl h1 h2] at hy
      simp only [Prod.mk.injEq] at hy
      obtain ⟨rfl, _⟩ := hy
      exact readA_take (plain_tree h) hk h1
    · rw [readP_fault hl h1 h2] at hy
      simp only [Prod.mk.injEq] at hy
      exact absurd (by rw [hy.2]) h2
end Go.Proofs.YtlofpooobabkjaaGreatDoor
/-
  The law package's packed: a closed fact: over this seat's translation.
-/
namespace Go.Proofs.YtlofpooobabkjaaGreatDoor
open Go.RowKit Go.Shelf

def packedF : F := ⟨[97, 47, 98], true, [104, 105]⟩
theorem packed_tree : (treeFault [packedF]).1 = 0 := by kernel_rfl
theorem digits_two : digitsL 2 = [50] := by rw [digits_small (by decide)]; rfl
theorem packed_text : packL [packedF] = [97, 47, 98, 32, 120, 32, 50, 10, 104, 105, 10] := by
  show fileL packedF ++ [] = _
  unfold fileL lineL packedF
  simp [digits_two]

theorem file_eq (f g : F) (r : Bool) (h : decide (f = g) = r) (w : World) : (binOp .eql 46 (fv f) (fv g)).run Tryz.prog w = .ok (.bool r) w := by
  rw [run_eql_struct, file_equal, h]
  rfl

set_option maxRecDepth 100000 in
set_option maxHeartbeats 2000000 in
theorem packed_any (p : Nat → Addr) (w : World) (hE : Env p w) (hS : SEnv p w) : Calls Tryz.prog 4 #[] w fun e w' => e = .returned (.bool true) ∧ Below w.heap.size w w' := by
  have HC : Hid (Calls Tryz.prog 12 #[.string ⟨#[97, 47, 98, 32, 120, 32, 50, 10, 104, 105, 10]⟩] w fun e w' => Told p w' e ([packedF], 0, -1) ∧ Below w.heap.size w w') := by
    have := packRead_any p [97, 47, 98, 32, 120, 32, 50, 10, 104, 105, 10] w hE hS (by decide)
    rwa [← packed_text, readP_pack packed_tree, packed_text] at this
  clear hE hS
  go_enter Tryz.func4, Tryz.ntmps4
  go_wp2_with fail
  refine HC.out.mono ?_
  rintro e w1 ⟨ht, hb1⟩
  obtain ⟨a, ca, rfl, hl, hca⟩ := ht.fine rfl
  obtain ⟨b, o, rfl, c0, c1, c2⟩ := hl.at (k := 0) (by simp)
  have HB1 := Lib.hid hb1
  have hq := file_eq packedF packedF true (by simp)
  have d0 : w1.cell? ⟨b, o, none⟩ = some (.string ⟨#[97, 47, 98]⟩) := by simpa [packedF] using c0
  have d1 : w1.cell? ⟨b, o + 1, none⟩ = some (.bool true) := by simpa [packedF] using c1
  have d2 : w1.cell? ⟨b, o + 2, none⟩ = some (.string ⟨#[104, 105]⟩) := by simpa [packedF] using c2
  have hg := fun op x y W => run_eqGuard_agg (P := Tryz.prog) W op 46 x y #[sv packedF.p, .bool packedF.r, sv packedF.t] #[sv packedF.p, .bool packedF.r, sv packedF.t] Tryz.guardFile
  clear ht hl hb1 c0 c1 c2 HC
  go_wp2
  go_ret
  exact ⟨rfl, HB1.out⟩
end Go.Proofs.YtlofpooobabkjaaGreatDoor
/-
  (*strings.Builder).WriteString and String: the library's contracts, laid at this seat's translation by hand (the program that lays them finds no number for the empty interface).
-/
namespace Go.Proofs.YtlofpooobabkjaaGreatDoor
open Go.Shelf Go.RowKit

def wrRen : Go.Shelf.Ren := ⟨fun | 166 => 16 | 240 => 29 | 276 => 44 | n => n, fun | 0 => 0 | 3 => 3 | 4 => 4 | 5 => 5 | 9 => 9 | 20 => 20 | 37 => 49 | 70 => 48 | 72 => 51 | 75 => 26 | 80 => 54 | 164 => 87 | n => n, fun | n => n⟩
theorem wrLays : Go.Proofs.Lays.n166 Tryz.prog wrRen := {
  mixed := by kernel_rfl
  f166 := Tryz.func16.trans (congrArg some (by kernel_rfl))
  f240 := Tryz.func29.trans (congrArg some (by kernel_rfl))
  f276 := Tryz.func44.trans (congrArg some (by kernel_rfl))
  t0 := Tryz.underlying0
  a0 := Tryz.isAgg0
  z0 := Tryz.sizeOf0
  v0 := Tryz.zeroValue0
  t3 := Tryz.underlying3
  a3 := Tryz.isAgg3
  z3 := Tryz.sizeOf3
  v3 := Tryz.zeroValue3
  t4 := Tryz.underlying4
  a4 := Tryz.isAgg4
  z4 := Tryz.sizeOf4
  v4 := Tryz.zeroValue4
  t9 := Tryz.underlying9
  a9 := Tryz.isAgg9
  z9 := Tryz.sizeOf9
  v9 := Tryz.zeroValue9
  t20 := Tryz.underlying20
  a20 := Tryz.isAgg20
  z20 := Tryz.sizeOf20
  v20 := Tryz.zeroValue20
  t37 := Tryz.underlying49
  a37 := Tryz.isAgg49
  z37 := Tryz.sizeOf49
  v37 := Tryz.zeroValue49
  t70 := Tryz.underlying48
  a70 := Tryz.isAgg48
  z70 := Tryz.sizeOf48
  v70 := Tryz.zeroValue48
  t72 := Tryz.underlying51
  a72 := Tryz.isAgg51
  z72 := Tryz.sizeOf51
  v72 := Tryz.zeroValue51
  t75 := Tryz.underlying26
  a75 := Tryz.isAgg26
  z75 := Tryz.sizeOf26
  v75 := Tryz.zeroValue26
  t164 := Tryz.underlying87
  a164 := Tryz.isAgg87
  z164 := Tryz.sizeOf87
  v164 := Tryz.zeroValue87 }
theorem wrExtra : Builder.Extra Tryz.prog wrRen := {
  sizeBuilder := by kernel_rfl
  liesBuilder := by kernel_rfl
  t5 := Tryz.underlying5
  a5 := Tryz.isAgg5
  z5 := Tryz.sizeOf5
  v5 := Tryz.zeroValue5
  infoByte := by kernel_rfl
  cellsByte := by kernel_rfl
  sizeByte := by kernel_rfl
  neB5 := by decide }

/-- The builder at b, of memory from B on, holds these bytes. -/
def Built (B b : Nat) (l : List UInt8) (w : World) : Prop := Lib.IsBuilderF 51 5 B b (Lib.byteCells l) w

theorem built_fresh (w : World) : Built w.heap.size w.heap.size [] (w.alloc (.cells #[.pointer none, .slice none 0 0] 51)) :=
  Lib.IsBuilderF.of (Lib.fresh_isBuilder _ _ w)

theorem Built.below {B b : Nat} {l : List UInt8} {w w' : World} (h : Built B b l w) (hb : Below w.heap.size w w') : Built B b l w' := by
  have go : ∀ q, Lib.BuilderAtF 51 5 B b q (Lib.byteCells l) w → Lib.BuilderAtF 51 5 B b q (Lib.byteCells l) w' := by
    rintro q ⟨h1, v, h2, h3, h4⟩
    refine ⟨h1, v, (hb.block b (Array.getElem?_eq_some_iff.1 h2).1).trans h2, ⟨h3.1, ?_⟩, h4⟩
    rcases h3.2 with h0 | ⟨g, cap, cur, fz, hv, hg, hh, r⟩
    · exact .inl h0
    · exact .inr ⟨g, cap, cur, fz, hv, hg, (hb.block g (Array.getElem?_eq_some_iff.1 hh).1).trans hh, r⟩
  exact h.imp (go _) (go _)

theorem Built.lt {B b : Nat} {l : List UInt8} {w : World} (h : Built B b l w) : b < w.heap.size := h.elim (·.lt) (·.lt)

theorem built_write (B b : Nat) (l s : List UInt8) (w : World) (h : Built B b l w) (hlen : l.length + s.length ≤ 140737488355328) (hBw : B ≤ w.heap.size) :
    Calls Tryz.prog 16 #[.pointer (some ⟨b, 0, none⟩), .string ⟨s.toArray⟩] w fun e w' => e = .returned (.tuple #[.int .i64 s.length, .nilIface]) ∧ Built B b (l ++ s) w' ∧ Below B w w' ∧ Lib.OthersKept 5 (some b) w w' := by
  have hs : (⟨s.toArray⟩ : ByteArray).size = s.length := by simp [ByteArray.size]
  have hl : (Lib.byteCells l).length = l.length := by simp [Lib.byteCells]
  refine (Any.Builder_WriteString_k wrLays wrExtra B b (Lib.byteCells l) ⟨s.toArray⟩ w h (by omega) hBw).mono ?_
  rintro e w' ⟨h1, h2, h3, h4⟩
  refine ⟨by rw [h1, hs], ?_, h3, h4⟩
  have : Lib.byteCells l ++ Lib.strCells ⟨s.toArray⟩ = Lib.byteCells (l ++ s) := by simp [Lib.byteCells, Lib.strCells]
  rw [this] at h2
  exact Or.inr h2

theorem built_string (B b : Nat) (l : List UInt8) (w : World) (h : Built B b l w) (hBw : B ≤ w.heap.size) :
    Calls Tryz.prog 18 #[.pointer (some ⟨b, 0, none⟩)] w fun e w' => e = .returned (.string ⟨l.toArray⟩) ∧ Below B w w' :=
  (Any.Builder_String_any_f Tryz.lays169 Tryz.Builder_Extra_169 B b l w h hBw).mono fun _ _ h => ⟨h.1, h.2.2⟩
end Go.Proofs.YtlofpooobabkjaaGreatDoor
/-
  Package pack: head: a contract, over this seat's translation.
-/
namespace Go.Proofs.YtlofpooobabkjaaGreatDoor
open Go.RowKit Go.Shelf

theorem line_of (f : F) : lineL f = f.p ++ [32] ++ (if f.r = true then [120] else [102]) ++ [32] ++ digitsL f.t.length := by
  unfold lineL
  cases f.r <;> simp

/-- Four texts behind a first one, one after another. -/
theorem adds (a m d : List UInt8) (ha : a.length ≤ 100000) (hm : m.length ≤ 1) (hd : d.length ≤ 6) : ∃ x1 x2 x3 x4 : List UInt8,
    (∀ W, (Op.stringOp .add ⟨a.toArray⟩ ⟨#[32]⟩).run Tryz.prog W = .ok (.string ⟨x1.toArray⟩) W) ∧ (∀ W, (Op.stringOp .add ⟨x1.toArray⟩ ⟨m.toArray⟩).run Tryz.prog W = .ok (.string ⟨x2.toArray⟩) W) ∧
    (∀ W, (Op.stringOp .add ⟨x2.toArray⟩ ⟨#[32]⟩).run Tryz.prog W = .ok (.string ⟨x3.toArray⟩) W) ∧ (∀ W, (Op.stringOp .add ⟨x3.toArray⟩ ⟨d.toArray⟩).run Tryz.prog W = .ok (.string ⟨x4.toArray⟩) W) ∧ x4 = a ++ [32] ++ m ++ [32] ++ d :=
  ⟨a ++ [32], a ++ [32] ++ m, a ++ [32] ++ m ++ [32], a ++ [32] ++ m ++ [32] ++ d, fun W => run_string_add_lists (P := Tryz.prog) W a [32] (by omega) (by simp), fun W => run_string_add_lists (P := Tryz.prog) W _ m (by simp; omega) (by omega),
    fun W => run_string_add_lists (P := Tryz.prog) W _ [32] (by simp; omega) (by simp), fun W => run_string_add_lists (P := Tryz.prog) W _ d (by simp; omega) (by omega), rfl⟩

set_option maxRecDepth 100000 in
set_option maxHeartbeats 2000000 in
theorem packHead_any (p : Nat → Addr) (f : F) (w : World) (hS : SEnv p w) (hp : f.p.length ≤ 100000) (ht : f.t.length ≤ 500000) :
    Calls Tryz.prog 17 #[fv f] w fun e w' => e = .returned (.string ⟨(lineL f).toArray⟩) ∧ Below w.heap.size w w' := by
  obtain ⟨W, hW⟩ : ∃ W, W = w.alloc (.cells #[sv f.p, .bool f.r, sv f.t] 46) := ⟨_, rfl⟩
  obtain ⟨g0, g1, g2, hBW⟩ := box_three (w := w) (w' := W) (x := sv f.p) (y := .bool f.r) (z := sv f.t) (T := 46) (by rw [hW]; exact Below.refl _ _)
  have HW := Lib.hid hBW
  have HI : Calls Tryz.prog 30 #[.int .i64 f.t.length] W.drew fun e w' => e = .returned (.string ⟨(digitsL f.t.length).toArray⟩) ∧ Below W.drew.heap.size W.drew w' := itoa_any f.t.length W.drew (by omega) (hS.below hBW.drew).tab
  have HL := Lib.hid (line_of f)
  have hdl : (digitsL f.t.length).length ≤ 6 := digits_length 5 _ (by omega)
  have hbl : w.heap.size < W.heap.size := by rw [hW]; simp
  obtain ⟨fp, fr, ft⟩ := f
  simp only at hp ht HI HL hdl g0 g1 g2 hW
  generalize digitsL ft.length = ds at HI HL hdl
  clear hS hBW
  cases fr with
  | true =>
    obtain ⟨x1, x2, x3, x4, A1, A2, A3, A4, hx⟩ := adds fp [120] ds hp (by simp) hdl
    have HX : Hid (lineL ⟨fp, true, ft⟩ = x4) := by
      show lineL ⟨fp, true, ft⟩ = x4
      rw [HL.out, hx]
      rfl
    clear hx HL
    go_enter Tryz.func17, Tryz.ntmps17
    go_wp2_with fail
    rw [← hW]
    clear hW
    go_region_held3 (fun w' => w'.cell? ⟨w.heap.size, 0, none⟩ = some (sv fp) ∧ w'.cell? ⟨w.heap.size, 2, none⟩ = some (sv ft)) (go_keep) (first
      | (go_at_call 30; (with_reducible refine HI.mono ?_); rintro e w1 ⟨rfl, hb1⟩; have d0 := (hb1.cell (p := ⟨w.heap.size, 0, none⟩) hbl).trans g0; have d2 := (hb1.cell (p := ⟨w.heap.size, 2, none⟩) hbl).trans g2; have HB1 := Lib.hid (HW.out.drew.trans (hb1.mono HW.out.size)); clear hb1))
    all_goals go_wp2
    all_goals go_ret
    all_goals exact ⟨by rw [HX.out]; rfl, HB1.out⟩
  | false =>
    obtain ⟨x1, x2, x3, x4, A1, A2, A3, A4, hx⟩ := adds fp [102] ds hp (by simp) hdl
    have HX : Hid (lineL ⟨fp, false, ft⟩ = x4) := by
      show lineL ⟨fp, false, ft⟩ = x4
      rw [HL.out, hx]
      rfl
    clear hx HL
    go_enter Tryz.func17, Tryz.ntmps17
    go_wp2_with fail
    rw [← hW]
    clear hW
    go_region_held3 (fun w' => w'.cell? ⟨w.heap.size, 0, none⟩ = some (sv fp) ∧ w'.cell? ⟨w.heap.size, 2, none⟩ = some (sv ft)) (go_keep) (first
      | (go_at_call 30; (with_reducible refine HI.mono ?_); rintro e w1 ⟨rfl, hb1⟩; have d0 := (hb1.cell (p := ⟨w.heap.size, 0, none⟩) hbl).trans g0; have d2 := (hb1.cell (p := ⟨w.heap.size, 2, none⟩) hbl).trans g2; have HB1 := Lib.hid (HW.out.drew.trans (hb1.mono HW.out.size)); clear hb1))
    all_goals go_wp2
    all_goals go_ret
    all_goals exact ⟨by rw [HX.out]; rfl, HB1.out⟩
end Go.Proofs.YtlofpooobabkjaaGreatDoor
/-
  Package pack: Make: a contract, over this seat's translation.
-/
namespace Go.Proofs.YtlofpooobabkjaaGreatDoor
open Go.RowKit Go.Shelf

theorem pack_bound {l : List F} (h1 : ∀ f ∈ l, f.p.length ≤ 40000) (h2 : ∀ f ∈ l, f.t.length ≤ 500000) : (packL l).length ≤ 540020 * l.length := by
  induction l with
  | nil => simp [packL]
  | cons f l ih =>
    have i := ih (fun g hg => h1 g (by simp [hg])) (fun g hg => h2 g (by simp [hg]))
    have a := h1 f (by simp)
    have b := h2 f (by simp)
    have c := digits_length 5 f.t.length (by omega)
    have d := fileL_length f
    rw [packL_cons, List.length_append, List.length_cons]
    omega
theorem pack_take {l : List F} {q : Nat} (h : q < l.length) : packL (l.take (q + 1)) = packL (l.take q) ++ fileL l[q] := by
  rw [List.take_succ_eq_append_getElem h, packL_snoc]

/-- What Make answers. -/
def makeL (l : List F) : List UInt8 := if (treeFault l).1 = 0 then packL l else []
theorem make_yes {l : List F} (h : (treeFault l).1 = 0) : makeL l = packL l := by unfold makeL; rw [if_pos h]
theorem make_no {l : List F} (h : (treeFault l).1 ≠ 0) : makeL l = [] := by unfold makeL; rw [if_neg h]

/-- A file's box, behind what a builder writes. -/
theorem box_kept {w w' : World} {k b : Nat} {c : Array Value} {fz : Nat × Nat} (h : Lib.OthersKept 5 (some b) w w') (hk : w.heap[k]? = some (.cells c 46 fz)) (hb : k ≠ b) : w'.heap[k]? = some (.cells c 46 fz) :=
  h k _ hk (fun e => hb (Option.some.inj e)) (fun c' fz' e => by cases e)
theorem box_cell {w : World} {k : Nat} {x y z : Value} {T : TypeId} {fz : Nat × Nat} (h : w.heap[k]? = some (.cells #[x, y, z] T fz)) : w.cell? ⟨k, 0, none⟩ = some x ∧ w.cell? ⟨k, 1, none⟩ = some y ∧ w.cell? ⟨k, 2, none⟩ = some z := by
  refine ⟨?_, ?_, ?_⟩ <;> simp [World.cell?, h]

set_option maxRecDepth 100000 in
set_option maxHeartbeats 4000000 in
theorem packMake_any (p : Nat → Addr) (l : List F) (a : Option Addr) (ca : Nat) (w : World) (hE : Env p w) (hS : SEnv p w) (hl : LiesAt w a l) (hca : l.length ≤ ca) (hs : Small l) :
    Calls Tryz.prog 6 #[.slice a l.length ca] w fun e w' => (∃ v, e = .returned (.tuple #[.string ⟨(makeL l).toArray⟩, v]) ∧ ErrAt p w' v (treeFault l).1 (treeFault l).2) ∧ Below w.heap.size w w' := by
  have HE := Lib.hid hE
  have HS := Lib.hid hS
  have HL := Lib.hid hl
  have HSM := Lib.hid hs
  have hfew := hs.few
  clear hE hS hl hs
  go_enter Tryz.func6, Tryz.ntmps6
  go_wp2_with fail
  refine (checkTree_any p l a ca _ HE.out HL.out hca HSM.out).mono ?_
  rintro e w1 ⟨⟨v, rfl, hv⟩, hb1⟩
  have HB1 := Lib.hid hb1
  clear hb1
  by_cases hz : (treeFault l).1 = 0
  · have HM := Lib.hid (make_yes hz)
    have HF := Lib.hid (treeFault_zero hz)
    rw [hz] at hv
    have := hv.isNil
    subst this
    have HBD := Lib.hid (built_fresh w1)
    have hB1s := HB1.out.size
    clear hv hz
    go_wp2_with fail
    obtain ⟨W0, hW0⟩ : ∃ W0, W0 = w1.alloc (.cells #[.pointer none, .slice none 0 0] 51) := ⟨_, rfl⟩
    have HB0 : Hid (Below w.heap.size w W0) := by
      show Below _ _ _
      rw [hW0]
      exact HB1.out.alloc HB1.out.size _
    rw [← hW0] at HBD ⊢
    clear hW0 HB1
    generalize w1.heap.size = b at HBD hB1s ⊢
    clear w1
    go_loopw [15] (fun i wr => ∃ q : Nat, q ≤ l.length ∧ i = .int .i64 q ∧ Built b b (packL (l.take q)) wr ∧ Below w.heap.size w wr) (fun i _ => l.length - (intOf i).toNat)
    case atStart => exact ⟨0, by omega, rfl, by simpa [packL] using HBD.out, HB0.out⟩
    case round =>
      obtain ⟨q, hq, rfl, hbd, hb⟩ := hrel
      have HBQ := Lib.hid hbd
      have HB := Lib.hid hb
      clear hbd hb
      by_cases hlt : q < l.length
      · have hlt' : (q : Int) < (l.length : Int) := by omega
        obtain ⟨bb, o, rfl, c0, c1, c2⟩ := (HL.out.below HB.out).at hlt
        have hpl := HSM.out.path _ (List.getElem_mem hlt)
        have htl := HSM.out.text _ (List.getElem_mem hlt)
        have hlen := pack_bound (l := l.take q) (fun f hf => HSM.out.path f (List.mem_of_mem_take hf)) (fun f hf => HSM.out.text f (List.mem_of_mem_take hf))
        have htk : (l.take q).length ≤ q := by rw [List.length_take]; omega
        have HPK := Lib.hid (pack_take hlt)
        generalize l[q] = f at c0 c1 c2 hpl htl HPK
        generalize packL (l.take q) = pk at HBQ HPK hlen
        have hpk : pk.length ≤ 60000000000 := by omega
        clear hlen htk
        have hln : (lineL f).length ≤ 40010 := by
          have c := digits_length 5 f.t.length (by omega)
          unfold lineL
          simp
          omega
        go_wp2_with fail
        obtain ⟨W, hW⟩ : ∃ W, W = wr.alloc (.cells #[sv f.p, .bool f.r, sv f.t] 46) := ⟨_, rfl⟩
        have hBW : Below wr.heap.size wr W := by rw [hW]; exact (Below.refl _ _).alloc (Nat.le_refl _) _
        have hbx : W.heap[wr.heap.size]? = some (.cells #[sv f.p, .bool f.r, sv f.t] 46) := by rw [hW]; exact heap_new _ _
        have HBW := Lib.hid (HB.out.trans (hBW.mono HB.out.size))
        have HQ1 := Lib.hid (HBQ.out.below hBW)
        have hne : wr.heap.size ≠ b := by have := HBQ.out.lt; omega
        rw [← hW]
        clear hW hBW
        generalize wr.heap.size = k at hbx hne ⊢
        clear HBQ c0 c1 c2
        refine (packHead_any p f _ (HS.out.below HBW.out) (by omega) htl).mono ?_
        rintro e w2 ⟨rfl, hb2⟩
        have hbx2 := (hb2.block k (Array.getElem?_eq_some_iff.1 hbx).1).trans hbx
        have HB2 := Lib.hid (HBW.out.trans (hb2.mono HBW.out.size))
        have HQ2 := Lib.hid (HQ1.out.below hb2)
        clear hb2 hbx HQ1
        go_wp2_with fail
        refine (built_write b b pk (lineL f) _ HQ2.out (by omega) (Nat.le_of_lt HQ2.out.lt)).mono ?_
        rintro e w3 ⟨rfl, hq3, hb3, ho3⟩
        have hbx3 := box_kept ho3 hbx2 hne
        have HB3 := Lib.hid (HB2.out.trans (hb3.mono hB1s))
        have HQ3 := Lib.hid hq3
        clear hq3 hb3 ho3 hbx2 HQ2
        go_wp2_with fail
        refine (built_write b b (pk ++ lineL f) [10] _ HQ3.out (by simp; omega) (Nat.le_of_lt HQ3.out.lt)).mono ?_
        rintro e w4 ⟨rfl, hq4, hb4, ho4⟩
        have hbx4 := box_kept ho4 hbx3 hne
        have HB4 := Lib.hid (HB3.out.trans (hb4.mono hB1s))
        have HQ4 := Lib.hid hq4
        obtain ⟨_, _, k2⟩ := box_cell hbx4
        clear hq4 hb4 ho4 hbx3 HQ3 hbx4
        go_wp2_with fail
        refine (built_write b b (pk ++ lineL f ++ [10]) f.t _ HQ4.out (by simp; omega) (Nat.le_of_lt HQ4.out.lt)).mono ?_
        rintro e w5 ⟨rfl, hq5, hb5, _⟩
        have HB5 := Lib.hid (HB4.out.trans (hb5.mono hB1s))
        have HQ5 := Lib.hid hq5
        clear hq5 hb5 k2 HQ4
        go_wp2_with fail
        refine (built_write b b (pk ++ lineL f ++ [10] ++ f.t) [10] _ HQ5.out (by simp; omega) (Nat.le_of_lt HQ5.out.lt)).mono ?_
        rintro e w6 ⟨rfl, hq6, hb6, _⟩
        have HB6 := Lib.hid (HB5.out.trans (hb6.mono hB1s))
        have HQ6 := Lib.hid hq6
        clear hq6 hb6 HQ5
        go_wp2
        go_roundw
        case rel =>
          refine ⟨q + 1, by omega, by go_num, ?_, HB6.out⟩
          rw [HPK.out]
          have e : pk ++ fileL f = pk ++ lineL f ++ [10] ++ f.t ++ [10] := by simp [fileL]
          rw [e]
          exact HQ6.out
        case measure => simp [intOf]; omega
      · obtain rfl : q = l.length := by omega
        rw [List.take_length] at HBQ
        go_wp2_with fail
        refine (built_string b b _ _ HBQ.out (Nat.le_of_lt HBQ.out.lt)).mono ?_
        rintro e w2 ⟨rfl, hb2⟩
        have HB2 := Lib.hid (HB.out.trans (hb2.mono hB1s))
        clear hb2
        go_wp2
        go_ret2
        exact ⟨⟨_, by rw [HM.out]; rfl, by rw [HF.out]; exact ErrAt.fine p _⟩, HB2.out⟩
  · have HM := Lib.hid (make_no hz)
    obtain ⟨T, u, rfl⟩ := hv.some hz
    have HV := Lib.hid hv
    clear hv hz
    go_wp2
    go_ret2
    exact ⟨⟨_, by rw [HM.out]; rfl, HV.out⟩, HB1.out⟩
end Go.Proofs.YtlofpooobabkjaaGreatDoor
/-
  The document's answer for packs: PackText: over this seat's translation.
-/
namespace Go.Proofs.YtlofpooobabkjaaGreatDoor
open Go.RowKit Go.Shelf

theorem pack_take_le (l : List F) (q : Nat) : (packL (l.take q)).length ≤ (packL l).length := by
  have h : packL l = packL (l.take q) ++ packL (l.drop q) := by
    show l.flatMap fileL = (l.take q).flatMap fileL ++ (l.drop q).flatMap fileL
    rw [← List.flatMap_append, List.take_append_drop]
  rw [h, List.length_append]
  omega

/-- Six texts behind a first one, one after another. -/
theorem adds6 (s a m d t : List UInt8) (h : s.length + a.length + m.length + d.length + t.length ≤ 1000000) : ∃ x1 x2 x3 x4 x5 x6 : List UInt8,
    (∀ W, (Op.stringOp .add ⟨s.toArray⟩ ⟨a.toArray⟩).run Tryz.prog W = .ok (.string ⟨x1.toArray⟩) W) ∧ (∀ W, (Op.stringOp .add ⟨x1.toArray⟩ ⟨m.toArray⟩).run Tryz.prog W = .ok (.string ⟨x2.toArray⟩) W) ∧
    (∀ W, (Op.stringOp .add ⟨x2.toArray⟩ ⟨d.toArray⟩).run Tryz.prog W = .ok (.string ⟨x3.toArray⟩) W) ∧ (∀ W, (Op.stringOp .add ⟨x3.toArray⟩ ⟨#[10]⟩).run Tryz.prog W = .ok (.string ⟨x4.toArray⟩) W) ∧
    (∀ W, (Op.stringOp .add ⟨x4.toArray⟩ ⟨t.toArray⟩).run Tryz.prog W = .ok (.string ⟨x5.toArray⟩) W) ∧ (∀ W, (Op.stringOp .add ⟨x5.toArray⟩ ⟨#[10]⟩).run Tryz.prog W = .ok (.string ⟨x6.toArray⟩) W) ∧
    x6 = s ++ a ++ m ++ d ++ [10] ++ t ++ [10] :=
  ⟨s ++ a, s ++ a ++ m, s ++ a ++ m ++ d, s ++ a ++ m ++ d ++ [10], s ++ a ++ m ++ d ++ [10] ++ t, s ++ a ++ m ++ d ++ [10] ++ t ++ [10], fun W => run_string_add_lists (P := Tryz.prog) W s a (by omega) (by omega),
    fun W => run_string_add_lists (P := Tryz.prog) W _ m (by simp; omega) (by omega), fun W => run_string_add_lists (P := Tryz.prog) W _ d (by simp; omega) (by omega), fun W => run_string_add_lists (P := Tryz.prog) W _ [10] (by simp; omega) (by simp),
    fun W => run_string_add_lists (P := Tryz.prog) W _ t (by simp; omega) (by omega), fun W => run_string_add_lists (P := Tryz.prog) W _ [10] (by simp; omega) (by simp), rfl⟩

set_option maxRecDepth 100000 in
set_option maxHeartbeats 4000000 in
theorem packText_any (l : List F) (a : Option Addr) (ca : Nat) (w : World) (hl : LiesAt w a l) (hs : Small l) (hpk : (packL l).length ≤ 20000) :
    Calls Tryz.prog 20 #[.slice a l.length ca] w fun e w' => e = .returned (.string ⟨(packL l).toArray⟩) ∧ Below w.heap.size w w' := by
  have HL := Lib.hid hl
  have HSM := Lib.hid hs
  have hfew := hs.few
  clear hl hs
  go_enter Tryz.func20, Tryz.ntmps20
  go_wp2_with fail
  go_loopw [3, 4] (fun sv' i wr => ∃ q : Nat, q ≤ l.length ∧ i = .int .i64 q ∧ sv' = .string ⟨(packL (l.take q)).toArray⟩ ∧ Below w.heap.size w wr) (fun _ i _ => l.length - (intOf i).toNat)
  case atStart => exact ⟨0, by omega, rfl, rfl, Below.refl _ _⟩
  case round =>
    obtain ⟨q, hq, rfl, rfl, hb⟩ := hrel
    have HB := Lib.hid hb
    clear hb
    by_cases hlt : q < l.length
    · have hlt' : (q : Int) < (l.length : Int) := by omega
      have hq0 : (0 : Int) ≤ (q : Int) := by omega
      obtain ⟨b, o, rfl, c0, c1, c2⟩ := (HL.out.below HB.out).at hlt
      have hle := pack_take_le l q
      have hm := pack_mem (l := l) (List.getElem_mem hlt)
      have HPK := Lib.hid (pack_take hlt)
      generalize l[q] = f at c0 c1 c2 hm HPK
      generalize packL (l.take q) = pk at hle HPK
      have hbl : b < wr.heap.size := block_lt_of_cell c0
      have hdl : (digitsL f.t.length).length ≤ 6 := digits_length 5 _ (by omega)
      have HD : Calls Tryz.prog 34 #[.int .i64 f.t.length] wr.drew fun e w' => e = .returned (.string ⟨(digitsL f.t.length).toArray⟩) ∧ Below wr.drew.heap.size wr.drew w' := decimal_any f.t.length wr.drew (by omega)
      have HLN := Lib.hid (line_of f)
      obtain ⟨fp, fr, ft⟩ := f
      simp only at c0 c1 c2 hm hdl HD HLN
      generalize digitsL ft.length = ds at HD hdl HLN
      cases fr with
      | true =>
        obtain ⟨x1, x2, x3, x4, x5, x6, A1, A2, A3, A4, A5, A6, hx⟩ := adds6 pk fp [32, 120, 32] ds ft (by simp; omega)
        have HX : Hid (pk ++ fileL ⟨fp, true, ft⟩ = x6) := by
          show pk ++ fileL ⟨fp, true, ft⟩ = x6
          unfold fileL
          rw [HLN.out, hx]
          simp
        clear hx HLN
        go_wp2_with fail
        go_region_held3 (fun w' => w'.cell? ⟨b, o + q * 3, none⟩ = some (sv fp) ∧ w'.cell? ⟨b, o + q * 3 + 2, none⟩ = some (sv ft)) (go_keep) (first
          | (go_at_call 34; (with_reducible refine HD.mono ?_); rintro e w1 ⟨rfl, hb1⟩; have d0 := (hb1.cell (p := ⟨b, o + q * 3, none⟩) hbl).trans c0; have d2 := (hb1.cell (p := ⟨b, o + q * 3 + 2, none⟩) hbl).trans c2; have HB1 := Lib.hid (HB.out.drew.trans (hb1.mono HB.out.size)); clear hb1))
        go_wp2
        go_roundw
        case rel => exact ⟨q + 1, by omega, by go_num, by rw [HPK.out, HX.out], HB1.out⟩
        case measure => simp [intOf]; omega
      | false =>
        obtain ⟨x1, x2, x3, x4, x5, x6, A1, A2, A3, A4, A5, A6, hx⟩ := adds6 pk fp [32, 102, 32] ds ft (by simp; omega)
        have HX : Hid (pk ++ fileL ⟨fp, false, ft⟩ = x6) := by
          show pk ++ fileL ⟨fp, false, ft⟩ = x6
          unfold fileL
          rw [HLN.out, hx]
          simp
        clear hx HLN
        go_wp2_with fail
        go_region_held3 (fun w' => w'.cell? ⟨b, o + q * 3, none⟩ = some (sv fp) ∧ w'.cell? ⟨b, o + q * 3 + 2, none⟩ = some (sv ft)) (go_keep) (first
          | (go_at_call 34; (with_reducible refine HD.mono ?_); rintro e w1 ⟨rfl, hb1⟩; have d0 := (hb1.cell (p := ⟨b, o + q * 3, none⟩) hbl).trans c0; have d2 := (hb1.cell (p := ⟨b, o + q * 3 + 2, none⟩) hbl).trans c2; have HB1 := Lib.hid (HB.out.drew.trans (hb1.mono HB.out.size)); clear hb1))
        go_wp2
        go_roundw
        case rel => exact ⟨q + 1, by omega, by go_num, by rw [HPK.out, HX.out], HB1.out⟩
        case measure => simp [intOf]; omega
    · obtain rfl : q = l.length := by omega
      rw [List.take_length]
      go_wp2
      go_ret
      exact ⟨rfl, HB.out⟩
end Go.Proofs.YtlofpooobabkjaaGreatDoor
/-
  Cut of the document's answer hands back, at a slash, the pieces of the text in new memory: a contract, over this seat's translation.
-/
namespace Go.Proofs.YtlofpooobabkjaaGreatDoor
open Go.RowKit Go.Shelf

set_option maxRecDepth 100000 in
set_option maxHeartbeats 2000000 in
theorem refCut_any (l : List UInt8) (w : World) (hl : l.length ≤ 90000) :
    Calls Tryz.prog 26 #[.string ⟨l.toArray⟩, .int .u8 47] w fun e w' => ∃ v, e = .returned v ∧ w'.ownsRow w.heap.size 9 1 v (pieces l).length ((pieces l).map sv) ∧ Below w.heap.size w w' := by
  obtain ⟨i0, hi, hz0, hz1, hz2⟩ := info_parts Tryz.info9
  go_enter Tryz.func26, Tryz.ntmps26
  go_wp2_with fail
  go_loopw [5, 6, 7] (fun out fr i wr => ∃ (ps : List (List UInt8)) (f k : Nat), fr = .int .i64 f ∧ i = .int .i64 k ∧ f ≤ k ∧ k ≤ l.length ∧ ps.length ≤ k ∧ pieces l = ps ++ pieces (l.drop f) ∧ 47 ∉ (l.drop f).take (k - f) ∧ wr.ownsRow w.heap.size 9 1 out ps.length (ps.map sv) ∧ Below w.heap.size w wr)
    (fun _ _ i _ => l.length - (intOf i).toNat)
  case atStart => exact ⟨[], 0, 0, rfl, rfl, Nat.le_refl _, Nat.zero_le _, by simp, by simp, by simp, World.ownsRow_nil _ _ _ _, Below.refl _ _⟩
  case round =>
    obtain ⟨ps, f, k, rfl, rfl, hfk, hk, hps, hpc, hno, hrow, hb⟩ := hrel
    have HPC : Hid (pieces l = ps ++ pieces (l.drop f)) := hpc
    have HNO : Hid (47 ∉ (l.drop f).take (k - f)) := hno
    have HB : Hid (Below w.heap.size w wr) := hb
    have hbs := hb.size
    clear hpc hno hb
    by_cases hlt : k < l.length
    · have hsz : k < ({ data := l.toArray } : ByteArray).size := by simpa [ByteArray.size] using hlt
      by_cases h47 : l[k] = 47
      · have hbyte : ((({ data := l.toArray } : ByteArray)[k]'hsz).toNat : Int) = 47 := by
          show ((l[k]).toNat : Int) = 47
          rw [h47]; rfl
        have HD : Hid (l.drop f = (l.drop f).take (k - f) ++ 47 :: l.drop (k + 1)) := drop_cut hfk hlt h47
        clear h47
        go_wp2_with (at_builtin; refine wpList_append_own _ rfl _ _ 66 rfl w.heap.size 9 i0 (.string ⟨#[]⟩) 1 16 Tryz.underlying66 hi hz0 hz1 hz2 rfl (by decide) _ _ _ rfl (hrow.alloc _) ⟨wr.heap.size, 0, none⟩ 1 1 [.string (({ data := l.toArray } : ByteArray).extract f k)] rfl rfl (cell_one_new _ _ _) (by simp [Value.oneCell']) (by unfold maxLen; omega) (by omega) (by simp; omega) ?_; intro v' w1 hown' hgrow _)
        have HB1 : Below w.heap.size w w1 := (HB.out.alloc hbs _).grown hgrow (by simp; omega) (fun j ej => (hrow.lt j ej).1)
        refine ⟨⟨ps ++ [(l.drop f).take (k - f)], k + 1, k + 1, by go_num, by go_num, Nat.le_refl _, by omega, by simp; omega, ?_, by simp, ?_, HB1⟩, by simp [intOf]; omega⟩
        · rw [HPC.out, pieces_some (l := l.drop f) (a := (l.drop f).take (k - f)) (b := l.drop (k + 1)) (by have := cutL_of (l.drop (k + 1)) HNO.out; rwa [← HD.out] at this)]
          simp
        · rw [extract_list] at hown'
          simpa using hown'
      · have hbyte : (((({ data := l.toArray } : ByteArray)[k]'hsz).toNat : Int) == 47) = false := by
          show (((l[k]).toNat : Int) == 47) = false
          rw [beq_eq_false_iff_ne]
          intro e
          apply h47
          apply UInt8.toNat_inj.1
          have : (47 : UInt8).toNat = 47 := rfl
          omega
        have HN2 : Hid (47 ∉ (l.drop f).take (k + 1 - f)) := by
          show 47 ∉ _
          rw [take_more hfk hlt]
          intro h
          rcases List.mem_append.1 h with h | h
          · exact HNO.out h
          · simp at h; exact h47 h.symm
        clear h47
        go_wp2
        go_roundw
        case rel => exact ⟨ps, f, k + 1, rfl, by go_num, by omega, by omega, by omega, HPC.out, HN2.out, hrow, HB.out⟩
        case measure => simp [intOf]; omega
    · have hkl : k = l.length := by omega
      have HPE : Hid (pieces l = ps ++ [l.drop f]) := by
        show pieces l = _
        rw [HPC.out, pieces_none (cutL_no (a := l.drop f) (by have := HNO.out; rwa [List.take_of_length_le (by rw [List.length_drop]; omega)] at this))]
      have hfl : f ≤ l.length := by omega
      clear hkl
      go_wp2_with (at_builtin; refine wpList_append_own _ rfl _ _ 66 rfl w.heap.size 9 i0 (.string ⟨#[]⟩) 1 16 Tryz.underlying66 hi hz0 hz1 hz2 rfl (by decide) _ _ _ rfl (hrow.alloc _) ⟨wr.heap.size, 0, none⟩ 1 1 [.string (({ data := l.toArray } : ByteArray).extract f l.length)] rfl rfl (cell_one_new _ _ _) (by simp [Value.oneCell']) (by unfold maxLen; omega) (by omega) (by simp; omega) ?_; intro v' w1 hown' hgrow _)
      go_ret
      have HB1 : Below w.heap.size w w1 := (HB.out.alloc hbs _).grown hgrow (by simp; omega) (fun j ej => (hrow.lt j ej).1)
      refine ⟨v', rfl, ?_, HB1⟩
      rw [HPE.out]
      rw [extract_list, List.take_of_length_le (by simp)] at hown'
      simpa using hown'
end Go.Proofs.YtlofpooobabkjaaGreatDoor
/-
  path.Parts and path.Strip tell of every text that is not too long what the plain functions tell: contracts, over this seat's translation.
-/
namespace Go.Proofs.YtlofpooobabkjaaGreatDoor
open Go.RowKit Go.Shelf

attribute [local go_sem] Oper.semAt_some

/-- What a slice that owns some pieces holds, cell by cell. -/
theorem owns_cells {w : World} {base g cap n : Nat} {k : List (List UInt8)} (hrow : w.ownsRow base 9 1 (.slice (some ⟨g, 0, none⟩) n cap) n (k.map sv)) (hn : n = k.length) :
    (∀ j (h : j < k.length), w.cell? ⟨g, j, none⟩ = some (.string ⟨(k[j]).toArray⟩)) ∧ g < w.heap.size ∧ n ≤ cap ∧ cap ≤ maxLen := by
  refine ⟨fun j h => ?_, (hrow.lt g rfl).2, ?_⟩
  · rw [hrow.cellAt j (by omega), List.getElem?_map, List.getElem?_eq_getElem h]
    rfl
  · rcases hrow.2 with ⟨h, _⟩ | ⟨g', cap', cur, hv', _, _, h1, h2, _⟩
    · cases h
    · cases hv'; exact ⟨h1, h2⟩

end Go.Proofs.YtlofpooobabkjaaGreatDoor
