/-
  A struct result's cells; trees of some length: what the walks of trees use.
-/
import Derived.Test.YtkcjgncpcidfoaaGreatDoorTreeMem
import Derived.Test.YtkcjgncpcidfoaaGreatDoorSlots
namespace Go.Proofs.YtkcjgncpcidfoaaGreatDoor
open Go.RowKit Go.Shelf

/-- Texts of some length. -/
structure Small (l : List F) : Prop where
  few : l.length ≤ 100000
  path : ∀ f ∈ l, f.p.length ≤ 40000
  text : ∀ f ∈ l, f.t.length ≤ 500000

theorem total_take {l : List F} (h : ∀ f ∈ l, f.t.length ≤ 500000) (k : Nat) : total (l.take k) ≤ 500000 * k := by
  induction k with
  | zero => simp [total]
  | succ k ih =>
    by_cases hk : k < l.length
    · rw [List.take_succ_eq_append_getElem hk]
      have := h _ (List.getElem_mem hk)
      simp only [total, List.map_append, List.sum_append, List.map_cons, List.map_nil, List.sum_cons, List.sum_nil] at ih ⊢
      omega
    · rw [List.take_of_length_le (by omega)] at ih ⊢
      omega
theorem total_succ {l : List F} {k : Nat} (hk : k < l.length) : total (l.take (k + 1)) = total (l.take k) + l[k].t.length := by
  rw [List.take_succ_eq_append_getElem hk]
  simp only [total, List.map_append, List.sum_append, List.map_cons, List.map_nil, List.sum_cons, List.sum_nil]
  omega

theorem more_below {w wr w1 : World} {n : Nat} {o : Obj} (h : Below (n + 1) (w.alloc o) wr) (hn : n = w.heap.size) (hb : Below wr.heap.size wr w1) : Below (n + 1) (w.alloc o) w1 :=
  h.trans (hb.mono (by have := h.size; simp at this; omega))
end Go.Proofs.YtkcjgncpcidfoaaGreatDoor
