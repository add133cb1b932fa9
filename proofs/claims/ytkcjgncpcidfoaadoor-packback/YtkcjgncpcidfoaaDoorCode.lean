/-
  plain.Code tells each error of package api by its number, with the place of a *api.Fault that bears it; nil is 0 and any other error of errors.New's make is -1: contracts of that call, over this seat's translation.
  Conditions: the variables hold what the rows list (Env).
-/
import Derived.Test.YtkcjgncpcidfoaaDoorAs
namespace Go.Proofs.YtkcjgncpcidfoaaDoor
open Go.RowKit Go.Extern.Stop Go.Stop Go.Extern

/-- What a walk wants of the listed variables: the thirteen errors at thirteen addresses, unmarked, and the handle of type error. -/
structure Env (p : Nat → Addr) (w : World) : Prop where
  s0 : w.cell? ⟨1, 0, none⟩ = some (.iface 121 (.pointer (some (p 0))))
  s1 : w.cell? ⟨0, 0, none⟩ = some (.iface 121 (.pointer (some (p 1))))
  s2 : w.cell? ⟨2, 0, none⟩ = some (.iface 121 (.pointer (some (p 2))))
  s4 : w.cell? ⟨4, 0, none⟩ = some (.iface 121 (.pointer (some (p 4))))
  s7 : w.cell? ⟨5, 0, none⟩ = some (.iface 121 (.pointer (some (p 7))))
  s8 : w.cell? ⟨6, 0, none⟩ = some (.iface 121 (.pointer (some (p 8))))
  s9 : w.cell? ⟨3, 0, none⟩ = some (.iface 121 (.pointer (some (p 9))))
  s10 : w.cell? ⟨7, 0, none⟩ = some (.iface 121 (.pointer (some (p 10))))

theorem block_lt_of_cell {w : World} {a : Addr} {v : Value} (h : w.cell? a = some v) : a.block < w.heap.size := by
  rcases Nat.lt_or_ge a.block w.heap.size with h' | h'
  · exact h'
  · simp [World.cell?, Array.getElem?_eq_none h'] at h

theorem Env.below {p : Nat → Addr} {w w' : World} (E : Env p w) (hb : Below w.heap.size w w') : Env p w' where
  s0 := (hb.cell (p := ⟨1, 0, none⟩) (block_lt_of_cell E.s0)).trans E.s0
  s1 := (hb.cell (p := ⟨0, 0, none⟩) (block_lt_of_cell E.s1)).trans E.s1
  s2 := (hb.cell (p := ⟨2, 0, none⟩) (block_lt_of_cell E.s2)).trans E.s2
  s4 := (hb.cell (p := ⟨4, 0, none⟩) (block_lt_of_cell E.s4)).trans E.s4
  s7 := (hb.cell (p := ⟨5, 0, none⟩) (block_lt_of_cell E.s7)).trans E.s7
  s8 := (hb.cell (p := ⟨6, 0, none⟩) (block_lt_of_cell E.s8)).trans E.s8
  s9 := (hb.cell (p := ⟨3, 0, none⟩) (block_lt_of_cell E.s9)).trans E.s9
  s10 := (hb.cell (p := ⟨7, 0, none⟩) (block_lt_of_cell E.s10)).trans E.s10

/-- The number of the error at place j (13: none of them). -/
def codeOf (j : Nat) : Int := if j < 13 then (j : Int) + 1 else -1

theorem codeOf_lt {j : Nat} (h : j < 13) : (j : Int) + 1 = codeOf j := by simp [codeOf, h]

theorem sent_cells (p : Nat → Addr) (w : World) (k : Nat) (h : k < 13) : (w.alloc (.cells #[.iface 121 (.pointer (some (p 0))), .iface 121 (.pointer (some (p 1))), .iface 121 (.pointer (some (p 2))), .iface 121 (.pointer (some (p 3))), .iface 121 (.pointer (some (p 4))), .iface 121 (.pointer (some (p 5))), .iface 121 (.pointer (some (p 6))), .iface 121 (.pointer (some (p 7))), .iface 121 (.pointer (some (p 8))), .iface 121 (.pointer (some (p 9))), .iface 121 (.pointer (some (p 10))), .iface 121 (.pointer (some (p 11))), .iface 121 (.pointer (some (p 12)))] 26)).cell? ⟨w.heap.size, k, none⟩ = some (.iface 121 (.pointer (some (p k)))) := by
  rw [World.cell?_alloc_at _ _ _ _ rfl]
  have h' : k = 0 ∨ k = 1 ∨ k = 2 ∨ k = 3 ∨ k = 4 ∨ k = 5 ∨ k = 6 ∨ k = 7 ∨ k = 8 ∨ k = 9 ∨ k = 10 ∨ k = 11 ∨ k = 12 := by omega
  rcases h' with rfl | rfl | rfl | rfl | rfl | rfl | rfl | rfl | rfl | rfl | rfl | rfl | rfl <;> rfl

end Go.Proofs.YtkcjgncpcidfoaaDoor
