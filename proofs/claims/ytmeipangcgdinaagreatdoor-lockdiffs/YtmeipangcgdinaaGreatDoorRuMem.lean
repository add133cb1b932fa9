/-
  Texts in memory, a cell each; rules of mirrors in memory, two cells each; a block of two cells: over this seat's translation.
-/
import Derived.Test.YtmeipangcgdinaaGreatDoorLinkPureMirrorPureNetPure
import Derived.Test.YtmeipangcgdinaaGreatDoorCutCheckCleanPaths
import Derived.OwnWalk
import Derived.Test.YtmeipangcgdinaaGreatDoorSlotsErrAt
import Derived.Deep.Onto
import Derived.Lib.Hide
namespace Go.Proofs.YtmeipangcgdinaaGreatDoor
open Go.RowKit Go.Shelf

/-- Texts that lie in memory from an address on. -/
def TextsAt (w : World) (a : Option Addr) (l : List (List UInt8)) : Prop :=
  l ≠ [] → ∃ b o, a = some ⟨b, o, none⟩ ∧ ∀ k (h : k < l.length), w.cell? ⟨b, o + k, none⟩ = some (sv l[k])
theorem TextsAt.below {w w' : World} {a : Option Addr} {l : List (List UInt8)} (h : TextsAt w a l) (hb : Below w.heap.size w w') : TextsAt w' a l := fun hl => by
  obtain ⟨b, o, e, hc⟩ := h hl
  exact ⟨b, o, e, fun k hk => (hb.cell (p := ⟨b, o + k, none⟩) (block_lt_of_cell (hc k hk))).trans (hc k hk)⟩
theorem TextsAt.at {w : World} {a : Option Addr} {l : List (List UInt8)} (h : TextsAt w a l) {k : Nat} (hk : k < l.length) : ∃ b o, a = some ⟨b, o, none⟩ ∧ w.cell? ⟨b, o + k, none⟩ = some (sv l[k]) := by
  obtain ⟨b, o, e, hc⟩ := h (fun e => by simp [e] at hk)
  exact ⟨b, o, e, hc k hk⟩
theorem TextsAt.take {w : World} {a : Option Addr} {l : List (List UInt8)} (h : TextsAt w a l) (k : Nat) : TextsAt w a (l.take k) := fun hne => by
  have hl : l ≠ [] := fun e => hne (by rw [e]; simp)
  obtain ⟨b, o, e, hc⟩ := h hl
  refine ⟨b, o, e, fun j hj => ?_⟩
  rw [List.getElem_take]
  exact hc j (by rw [List.length_take] at hj; omega)
/-- The cells of texts that lie from an address on. -/
theorem TextsAt.news {w : World} {ad : Addr} {l : List (List UInt8)} (h : TextsAt w (some ad) l) : ∀ j u, (l.map sv)[j]? = some u → w.cell? (ad.add j) = some u := by
  intro j u hj
  have hjl : j < l.length := by
    have := (List.getElem?_eq_some_iff.1 hj).1
    simpa using this
  obtain ⟨b, o, e, hc⟩ := h.at hjl
  cases e
  rw [List.getElem?_map, List.getElem?_eq_getElem hjl] at hj
  rw [Addr.add_lit, hc]
  exact hj
theorem texts_one (l : List (List UInt8)) : ∀ u ∈ l.map sv, u.oneCell' = true := by
  intro u hu
  obtain ⟨x, _, rfl⟩ := List.mem_map.1 hu
  rfl

/-- Texts that a call has gathered itself. -/
theorem texts_of_owns {w : World} {base : Nat} {v : Value} {l : List (List UInt8)} (h : w.ownsRow base 9 1 v l.length (l.map sv)) :
    ∃ a cap, v = .slice a l.length cap ∧ TextsAt w a l ∧ l.length ≤ cap ∧ (a = none → cap = 0 ∧ l = []) := by
  rcases h.2 with ⟨rfl, hn⟩ | ⟨g, cap, cur, rfl, _, hg, hcap, hm, hsz, htk⟩
  · have e : l = [] := List.length_eq_zero_iff.1 hn
    subst e
    exact ⟨none, 0, rfl, fun h => absurd rfl h, Nat.le_refl _, fun _ => ⟨rfl, rfl⟩⟩
  · refine ⟨some ⟨g, 0, none⟩, cap, rfl, fun _ => ⟨g, 0, rfl, fun k hk => ?_⟩, hcap, fun h => by cases h⟩
    rw [Nat.zero_add, h.cellAt k (by omega), List.getElem?_map, List.getElem?_eq_getElem hk]
    rfl

/-- A rule as it lies in memory: where its texts lie, too. -/
structure Ru where
  f : List UInt8
  t : List (List UInt8)
  a : Option Addr
  c : Nat
def Ru.q (r : Ru) : Q := (r.f, r.t)
abbrev rv (r : Ru) : Value := .agg #[sv r.f, .slice r.a r.t.length r.c]
def noRu : Ru := ⟨[], [], none, 0⟩
/-- The texts of a rule lie where it says. -/
structure Ru.Lies (w : World) (r : Ru) : Prop where
  texts : TextsAt w r.a r.t
  cap : r.t.length ≤ r.c
  nil : r.a = none → r.c = 0 ∧ r.t = []
theorem lies_below {w w' : World} {r : Ru} (h : r.Lies w) (hb : Below w.heap.size w w') : r.Lies w' := ⟨h.texts.below hb, h.cap, h.nil⟩
theorem noRu_lies (w : World) : noRu.Lies w := ⟨fun h => absurd rfl h, Nat.le_refl _, fun _ => ⟨rfl, rfl⟩⟩
/-- Rules that lie in memory from an address on. -/
structure RulesAt (w : World) (a : Option Addr) (l : List Ru) : Prop where
  each : ∀ r ∈ l, r.Lies w
  row : l ≠ [] → ∃ b o, a = some ⟨b, o, none⟩ ∧ ∀ k (h : k < l.length), w.cell? ⟨b, o + k * 2, none⟩ = some (sv l[k].f) ∧ w.cell? ⟨b, o + k * 2 + 1, none⟩ = some (.slice l[k].a l[k].t.length l[k].c)
theorem RulesAt.below {w w' : World} {a : Option Addr} {l : List Ru} (h : RulesAt w a l) (hb : Below w.heap.size w w') : RulesAt w' a l := ⟨fun r hr => lies_below (h.each r hr) hb, fun hl => by
  obtain ⟨b, o, e, hc⟩ := h.row hl
  refine ⟨b, o, e, fun k hk => ?_⟩
  obtain ⟨h0, h1⟩ := hc k hk
  exact ⟨(hb.cell (p := ⟨b, o + k * 2, none⟩) (block_lt_of_cell h0)).trans h0, (hb.cell (p := ⟨b, o + k * 2 + 1, none⟩) (block_lt_of_cell h1)).trans h1⟩⟩
theorem RulesAt.at {w : World} {a : Option Addr} {l : List Ru} (h : RulesAt w a l) {k : Nat} (hk : k < l.length) :
    ∃ b o, a = some ⟨b, o, none⟩ ∧ w.cell? ⟨b, o + k * 2, none⟩ = some (sv l[k].f) ∧ w.cell? ⟨b, o + k * 2 + 1, none⟩ = some (.slice l[k].a l[k].t.length l[k].c) := by
  obtain ⟨b, o, e, hc⟩ := h.row (fun e => by simp [e] at hk)
  exact ⟨b, o, e, hc k hk⟩
/-- Rules that are few, and not too long. -/
structure RuSmall (l : List Ru) : Prop where
  few : l.length ≤ 1000
  begin : ∀ r ∈ l, r.f.length ≤ 20000
  many : ∀ r ∈ l, r.t.length ≤ 1000
  texts : ∀ r ∈ l, ∀ t ∈ r.t, t.length ≤ 20000

def rucells (r : Ru) : List Value := [sv r.f, .slice r.a r.t.length r.c]
def rlcells (l : List Ru) : List Value := l.flatMap rucells
theorem rlcells_length (l : List Ru) : (rlcells l).length = l.length * 2 := by
  induction l with
  | nil => rfl
  | cons f l ih => simp only [rlcells, List.flatMap_cons, List.length_append, List.length_cons] at ih ⊢; simp only [rucells, List.length_cons, List.length_nil]; omega
theorem rlcells_app (a b : List Ru) : rlcells (a ++ b) = rlcells a ++ rlcells b := by simp [rlcells]
theorem rlcells_at : ∀ (l : List Ru) (k : Nat) (h : k < l.length) (j : Nat), j < 2 → (rlcells l)[k * 2 + j]? = (rucells l[k])[j]?
  | [], k, h, _, _ => by simp at h
  | f :: l, 0, _, j, hj => by
    show (rucells f ++ rlcells l)[0 * 2 + j]? = (rucells f)[j]?
    rw [Nat.zero_mul, Nat.zero_add, List.getElem?_append_left (by simp [rucells]; omega)]
  | f :: l, k + 1, h, j, hj => by
    have ih := rlcells_at l k (by simpa using h) j hj
    show (rucells f ++ rlcells l)[(k + 1) * 2 + j]? = _
    rw [List.getElem?_append_right (by simp [rucells]; omega)]
    have : (k + 1) * 2 + j - (rucells f).length = k * 2 + j := by simp [rucells]; omega
    rw [this, ih]
    rfl
theorem rlcells_one (l : List Ru) : ∀ u ∈ rlcells l, u.oneCell' = true := by
  intro u hu
  simp only [rlcells, List.mem_flatMap] at hu
  obtain ⟨f, _, hf⟩ := hu
  simp only [rucells, List.mem_cons, List.not_mem_nil, or_false] at hf
  rcases hf with rfl | rfl <;> rfl
/-- The cells of rules that lie from an address on. -/
theorem RulesAt.news {w : World} {ad : Addr} {l : List Ru} (h : RulesAt w (some ad) l) : ∀ j u, (rlcells l)[j]? = some u → w.cell? (ad.add j) = some u := by
  intro j u hj
  have hjl : j < (rlcells l).length := (List.getElem?_eq_some_iff.1 hj).1
  rw [rlcells_length] at hjl
  have hk : j / 2 < l.length := by omega
  obtain ⟨b, o, e, c0, c1⟩ := h.at hk
  cases e
  have ej : j = j / 2 * 2 + j % 2 := by omega
  have hm : j % 2 < 2 := Nat.mod_lt _ (by decide)
  rw [ej, rlcells_at l (j / 2) hk (j % 2) hm] at hj
  rw [Addr.add_lit]
  have hoj : o + j = o + j / 2 * 2 + j % 2 := by omega
  rw [hoj]
  rcases (show j % 2 = 0 ∨ j % 2 = 1 by omega) with hr | hr
  · rw [hr] at hj ⊢; exact c0.trans hj
  · rw [hr] at hj ⊢; exact c1.trans hj

/-- A block of two cells, and no more. -/
def Two (w : World) (b : Nat) (x y : Value) (T : TypeId) : Prop := w.heap[b]? = some (.cells #[x, y] T (0, 0))
theorem Two.cells {w : World} {b : Nat} {x y : Value} {T : TypeId} (h : Two w b x y T) : w.cell? ⟨b, 0, none⟩ = some x ∧ w.cell? ⟨b, 1, none⟩ = some y ∧ w.frozen? ⟨b, 0, none⟩ = false ∧ w.frozen? ⟨b, 1, none⟩ = false := by
  unfold Two at h
  exact ⟨by simp [World.cell?, h], by simp [World.cell?, h], by simp [World.frozen?, h], by simp [World.frozen?, h]⟩
theorem Two.keep {w w' : World} {b : Nat} {x y : Value} {T : TypeId} (h : Two w b x y T) (hb : w'.heap[b]? = w.heap[b]?) : Two w' b x y T := hb.trans h
theorem Two.lt {w : World} {b : Nat} {x y : Value} {T : TypeId} (h : Two w b x y T) : b < w.heap.size := (Array.getElem?_eq_some_iff.1 h).1
theorem Two.below {w w' : World} {b B : Nat} {x y : Value} {T : TypeId} (h : Two w b x y T) (hb : Below B w w') (hB : b < B) : Two w' b x y T := h.keep (hb.block b hB)
theorem Two.store {w : World} {b : Nat} {x y : Value} {T : TypeId} (h : Two w b x y T) (x' y' : Value) : Two ((w.setCell ⟨b, 0, none⟩ x').setCell ⟨b, 1, none⟩ y') b x' y' T := by
  unfold Two at h ⊢
  simp only [World.setCell, Array.getElem?_modify, if_true, h, Option.map_some]
  rfl
theorem Two.new (w : World) (x y : Value) (T : TypeId) : Two (w.alloc (.cells #[x, y] T)) w.heap.size x y T := heap_new w _
theorem below_store {w wr : World} {b B : Nat} (x y : Value) (h : Below B w wr) (hB : B ≤ b) : Below B w ((wr.setCell ⟨b, 0, none⟩ x).setCell ⟨b, 1, none⟩ y) :=
  (h.setCell (p := ⟨b, 0, none⟩) hB _).setCell (p := ⟨b, 1, none⟩) hB _
theorem heap_store {w : World} {b g : Nat} (x y : Value) (h : g ≠ b) : ((w.setCell ⟨b, 0, none⟩ x).setCell ⟨b, 1, none⟩ y).heap[g]? = w.heap[g]? :=
  (Below.heap_setCell _ _ _ _ (by show g ≠ b; exact h)).trans (Below.heap_setCell _ _ _ _ (by show g ≠ b; exact h))
theorem row_keep {w w' : World} {base : Nat} {e : TypeId} {size : Nat} {v : Value} {n : Nat} {xs : List Value} (h : w.ownsRow base e size v n xs) (hk : ∀ g, base ≤ g → g < w.heap.size → w'.heap[g]? = w.heap[g]?) : w'.ownsRow base e size v n xs := by
  refine ⟨h.1, ?_⟩
  rcases h.2 with h0 | ⟨g, cap, cur, hv, hg, hh, h1, h2, h3, h4⟩
  · exact .inl h0
  · exact .inr ⟨g, cap, cur, hv, hg, by rw [hk g hg (Array.getElem?_eq_some_iff.1 hh).1]; exact hh, h1, h2, h3, h4⟩
theorem row_below {w w' : World} {base : Nat} {e : TypeId} {size : Nat} {v : Value} {n : Nat} {xs : List Value} (h : w.ownsRow base e size v n xs) (hb : Below w.heap.size w w') : w'.ownsRow base e size v n xs :=
  row_keep h fun g _ hg => hb.block g hg
end Go.Proofs.YtmeipangcgdinaaGreatDoor
