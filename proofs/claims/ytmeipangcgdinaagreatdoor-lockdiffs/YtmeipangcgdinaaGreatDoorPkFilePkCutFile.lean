/-
  Own texts of the proof, joined by program: PkFile, PkCutFile.
-/
import Derived.Test.YtmeipangcgdinaaGreatDoorPkReadPkWords
import Derived.Test.YtmeipangcgdinaaGreatDoorSlotsErrAt
import Derived.Test.YtmeipangcgdinaaGreatDoorTreeMemTreeSlotsTreeOwn
import Derived.Test.YtmeipangcgdinaaGreatDoorCutCheckCleanPaths
import Derived.Test.YtmeipangcgdinaaGreatDoorPkNextPkCheck
/-
  Package pack: readHead, cutFile: contracts, over this seat's translation.
-/
namespace Go.Proofs.YtmeipangcgdinaaGreatDoor
open Go.RowKit Go.Shelf

/-- A result's own three cells, behind three stores. -/
theorem slot_set3 {w wr : World} {b : Nat} {u v z : Value} (x y t : Value) (h0 : wr.cell? ⟨b, 0, none⟩ = some u) (h1 : wr.cell? ⟨b, 1, none⟩ = some v) (h2 : wr.cell? ⟨b, 2, none⟩ = some z) (hb : Below b w wr) :
    (wr.setCell ⟨b, 0, none⟩ x).cell? ⟨b, 0, none⟩ = some x ∧ ((wr.setCell ⟨b, 0, none⟩ x).setCell ⟨b, 1, none⟩ y).cell? ⟨b, 1, none⟩ = some y ∧ (((wr.setCell ⟨b, 0, none⟩ x).setCell ⟨b, 1, none⟩ y).setCell ⟨b, 2, none⟩ t).cell? ⟨b, 2, none⟩ = some t ∧ Below b w (((wr.setCell ⟨b, 0, none⟩ x).setCell ⟨b, 1, none⟩ y).setCell ⟨b, 2, none⟩ t) := by
  refine ⟨World.cell?_setCell_same' _ _ _ (by rw [h0]; rfl), World.cell?_setCell_same' _ _ _ ?_, World.cell?_setCell_same' _ _ _ ?_, ((hb.setCell (p := ⟨b, 0, none⟩) (Nat.le_refl _) _).setCell (p := ⟨b, 1, none⟩) (Nat.le_refl _) _).setCell (p := ⟨b, 2, none⟩) (Nat.le_refl _) _⟩
  · rw [World.cell?_setCell_other (h := by simp), h1]
    rfl
  · rw [World.cell?_setCell_other (h := by simp), World.cell?_setCell_other (h := by simp), h2]
    rfl

/-- A result's own three cells, still as they were laid. -/
theorem slot_three {w wr : World} {u v x : Value} {T : TypeId} (h : Below (w.heap.size + 1) (w.alloc (.cells #[u, v, x] T)) wr) :
    (wr.cell? ⟨w.heap.size, 0, none⟩ = some u ∧ wr.cell? ⟨w.heap.size, 1, none⟩ = some v ∧ wr.cell? ⟨w.heap.size, 2, none⟩ = some x) ∧ (wr.frozen? ⟨w.heap.size, 0, none⟩ = false ∧ wr.frozen? ⟨w.heap.size, 1, none⟩ = false ∧ wr.frozen? ⟨w.heap.size, 2, none⟩ = false) ∧ Below w.heap.size w wr := by
  have e := h.block w.heap.size (Nat.lt_succ_self _)
  rw [heap_new] at e
  exact ⟨⟨by simp [World.cell?, e], by simp [World.cell?, e], by simp [World.cell?, e]⟩, ⟨by simp [World.frozen?, e], by simp [World.frozen?, e], by simp [World.frozen?, e]⟩, ((Below.refl _ _).alloc (Nat.le_refl _) _).trans (h.mono (by omega))⟩

theorem frozen_below {w w' : World} {n : Nat} (h : Below n w w') {p : Addr} (hp : p.block < n) : w'.frozen? p = w.frozen? p := by
  unfold World.frozen?
  rw [h.block p.block hp]

theorem headOf_few {line : List UInt8} (h : (piecesBy 32 line).length ≠ 3) : headOf line = none := by
  unfold headOf
  split
  · rename_i e
    rw [e] at h
    simp at h
  · rfl
theorem headOf_three {line a m d : List UInt8} (h : piecesBy 32 line = [a, m, d]) : headOf line = if (m = [120] ∨ m = [102]) ∧ 0 ≤ numberL d 6 then some (a, decide (m = [120]), (numberL d 6).toNat) else none := by
  unfold headOf
  rw [h]

/-- What readHead answers. -/
def headV (line : List UInt8) : Value := match headOf line with
  | none => .tuple #[fv ⟨[], false, []⟩, .int .i64 0, .bool false]
  | some (a, x, n) => .tuple #[fv ⟨a, x, []⟩, .int .i64 n, .bool true]

theorem three_cells {w : World} {x y z : List UInt8} {T : TypeId} :
    (w.alloc (.cells ([x, y, z].map sv).toArray T)).cell? ⟨w.heap.size, 0, none⟩ = some (sv x) ∧ (w.alloc (.cells ([x, y, z].map sv).toArray T)).cell? ⟨w.heap.size, 1, none⟩ = some (sv y) ∧ (w.alloc (.cells ([x, y, z].map sv).toArray T)).cell? ⟨w.heap.size, 2, none⟩ = some (sv z) := by
  have e := heap_new w (.cells ([x, y, z].map sv).toArray T)
  unfold World.cell?
  rw [e]
  exact ⟨rfl, rfl, rfl⟩

end Go.Proofs.YtmeipangcgdinaaGreatDoor
/-
  Package pack: cutFile: a contract, over this seat's translation.
-/
namespace Go.Proofs.YtmeipangcgdinaaGreatDoor
open Go.RowKit Go.Shelf

/-- What cutFile answers. -/
def cutV (s : List UInt8) : Value := match cutFileL s with
  | none => .tuple #[fv ⟨[], false, []⟩, sv [], .bool false]
  | some (f, r) => .tuple #[fv f, sv r, .bool true]

theorem cutFile_noLine {s : List UInt8} (h : cutBy 10 s = none) : cutFileL s = none := by unfold cutFileL; rw [h]
theorem cutFile_noHead {s line rest : List UInt8} (h : cutBy 10 s = some (line, rest)) (hh : headOf line = none) : cutFileL s = none := by unfold cutFileL; rw [h]; simp only [hh]
theorem cutFile_head {s line rest a : List UInt8} {x : Bool} {n : Nat} (h : cutBy 10 s = some (line, rest)) (hh : headOf line = some (a, x, n)) : cutFileL s = if rest[n]? = some 10 then some (⟨a, x, rest.take n⟩, rest.drop (n + 1)) else none := by unfold cutFileL; rw [h]; simp only [hh]
theorem headV_none {l : List UInt8} (h : headOf l = none) : headV l = .tuple #[fv ⟨[], false, []⟩, .int .i64 0, .bool false] := by unfold headV; rw [h]
theorem headV_some {l a : List UInt8} {x : Bool} {n : Nat} (h : headOf l = some (a, x, n)) : headV l = .tuple #[fv ⟨a, x, []⟩, .int .i64 n, .bool true] := by unfold headV; rw [h]
theorem headOf_bound {l a : List UInt8} {x : Bool} {n : Nat} (h : headOf l = some (a, x, n)) : n < 1000000 := by
  unfold headOf at h
  split at h
  · split at h
    · rename_i b m d _ hc
      simp only [Option.some.injEq, Prod.mk.injEq] at h
      obtain ⟨_, _, rfl⟩ := h
      have e := number_inv hc.2
      have hl : d.length ≤ 6 := by
        have := hc.2
        unfold numberL at this
        split at this
        · omega
        · omega
      have := digits_bound (v := (numberL d 6).toNat) (k := 6) (by rw [← e]; exact hl)
      omega
    · cases h
  · cases h

/-- The three cells behind three stores. -/
theorem slot_full3 {w wr : World} {b : Nat} {u v z : Value} (x y t : Value) (h0 : wr.cell? ⟨b, 0, none⟩ = some u) (h1 : wr.cell? ⟨b, 1, none⟩ = some v) (h2 : wr.cell? ⟨b, 2, none⟩ = some z) (hb : Below b w wr) :
    (((wr.setCell ⟨b, 0, none⟩ x).setCell ⟨b, 1, none⟩ y).setCell ⟨b, 2, none⟩ t).cell? ⟨b, 0, none⟩ = some x ∧ (((wr.setCell ⟨b, 0, none⟩ x).setCell ⟨b, 1, none⟩ y).setCell ⟨b, 2, none⟩ t).cell? ⟨b, 1, none⟩ = some y ∧ (((wr.setCell ⟨b, 0, none⟩ x).setCell ⟨b, 1, none⟩ y).setCell ⟨b, 2, none⟩ t).cell? ⟨b, 2, none⟩ = some t ∧ Below b w (((wr.setCell ⟨b, 0, none⟩ x).setCell ⟨b, 1, none⟩ y).setCell ⟨b, 2, none⟩ t) := by
  obtain ⟨q0, q1, q2, q3⟩ := slot_set3 (w := w) x y t h0 h1 h2 hb
  refine ⟨?_, ?_, q2, q3⟩
  · rw [World.cell?_setCell_other (h := by simp), World.cell?_setCell_other (h := by simp)]
    exact q0
  · rw [World.cell?_setCell_other (h := by simp)]
    exact q1

theorem slot_last {w wr : World} {b : Nat} {u v z : Value} (t : Value) (h0 : wr.cell? ⟨b, 0, none⟩ = some u) (h1 : wr.cell? ⟨b, 1, none⟩ = some v) (h2 : wr.cell? ⟨b, 2, none⟩ = some z) (hb : Below b w wr) :
    (wr.setCell ⟨b, 2, none⟩ t).cell? ⟨b, 0, none⟩ = some u ∧ (wr.setCell ⟨b, 2, none⟩ t).cell? ⟨b, 1, none⟩ = some v ∧ (wr.setCell ⟨b, 2, none⟩ t).cell? ⟨b, 2, none⟩ = some t ∧ Below b w (wr.setCell ⟨b, 2, none⟩ t) :=
  ⟨by rw [World.cell?_setCell_other (h := by simp)]; exact h0, by rw [World.cell?_setCell_other (h := by simp)]; exact h1, World.cell?_setCell_same' _ _ _ (by rw [h2]; rfl), hb.setCell (p := ⟨b, 2, none⟩) (Nat.le_refl _) _⟩

end Go.Proofs.YtmeipangcgdinaaGreatDoor
