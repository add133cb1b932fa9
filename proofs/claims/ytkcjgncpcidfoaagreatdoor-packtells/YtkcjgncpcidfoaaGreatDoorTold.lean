/-
  What a function that answers files and an error tells; what one of the document's answer that answers files and a fault tells: over this seat's translation.
-/
import Derived.Test.YtkcjgncpcidfoaaGreatDoorSlotsFaultedErrAt
import Derived.Test.YtkcjgncpcidfoaaGreatDoorTreeMemTreeSlots
import Derived.Test.YtkcjgncpcidfoaaGreatDoorPaths
import Derived.Test.YtkcjgncpcidfoaaGreatDoorTreeOwn
namespace Go.Proofs.YtkcjgncpcidfoaaGreatDoor
open Go.RowKit Go.Shelf

/-- What a call tells that makes a tree: the files, and an error's number and place. -/
def Told (p : Nat → Addr) (w : World) (e : Ending) (r : List F × Nat × Int) : Prop :=
  ∃ a c v, e = .returned (.tuple #[.slice a r.1.length c, v]) ∧ LiesAt w a r.1 ∧ r.1.length ≤ c ∧ ErrAt p w v r.2.1 r.2.2

theorem told_none {p : Nat → Addr} {w : World} {v : Value} {c : Nat} {i : Int} (h : ErrAt p w v c i) : Told p w (.returned (.tuple #[.slice none 0 0, v])) ([], c, i) :=
  ⟨none, 0, v, rfl, fun h => absurd rfl h, Nat.le_refl _, h⟩

/-- What was told, with what it comes to. -/
theorem Told.open {p : Nat → Addr} {w : World} {e : Ending} {r : List F × Nat × Int} {l : List F} {c : Nat} {i : Int} (h : Told p w e r) (hr : r = (l, c, i)) :
    ∃ a ca v, e = .returned (.tuple #[.slice a l.length ca, v]) ∧ LiesAt w a l ∧ l.length ≤ ca ∧ ErrAt p w v c i := by
  subst hr
  exact h
theorem Told.fine {p : Nat → Addr} {w : World} {e : Ending} {r : List F × Nat × Int} {l : List F} (h : Told p w e r) (hr : r = (l, 0, -1)) :
    ∃ a ca, e = .returned (.tuple #[.slice a l.length ca, .nilIface]) ∧ LiesAt w a l ∧ l.length ≤ ca := by
  obtain ⟨a, ca, v, he, hl, hc, hv⟩ := h.open hr
  have := hv.isNil
  subst this
  exact ⟨a, ca, he, hl, hc⟩
theorem Told.bad {p : Nat → Addr} {w : World} {e : Ending} {r : List F × Nat × Int} {c : Nat} {i : Int} (h : Told p w e r) (hr : r = ([], c, i)) (hc : c ≠ 0) :
    ∃ a ca T u, e = .returned (.tuple #[.slice a 0 ca, .iface T u]) ∧ ErrAt p w (.iface T u) c i := by
  obtain ⟨a, ca, v, he, hl, hca, hv⟩ := h.open hr
  obtain ⟨T, u, rfl⟩ := hv.some hc
  exact ⟨a, ca, T, u, he, hv⟩

/-- What a function of the package tells, with what it comes to. -/
theorem told_open {f : Nat} {args : Array Value} {p : Nat → Addr} {W : World} {r : List F × Nat × Int} {T : List F} {c : Nat} {i : Int} (h : Calls Tryz.prog f args W fun e w' => Told p w' e r ∧ Below W.heap.size W w') (hr : r = (T, c, i)) :
    Calls Tryz.prog f args W fun e w' => (∃ a ca v, e = .returned (.tuple #[.slice a T.length ca, v]) ∧ LiesAt w' a T ∧ ErrAt p w' v c i) ∧ Below W.heap.size W w' :=
  h.mono fun e w' ⟨ht, hb⟩ => by
    obtain ⟨a, ca, v, he, hl, _, hv⟩ := ht.open hr
    exact ⟨⟨a, ca, v, he, hl, hv⟩, hb⟩
/-- What the document's answer is, with what it comes to. -/
theorem ref_open {f : Nat} {args : Array Value} {W : World} {r : List F × Nat × Int} {T : List F} {c : Nat} {i : Int} (h : Calls Tryz.prog f args W fun e w' => (∃ v, e = .returned (.tuple #[v, .agg #[.int .i64 r.2.1, .int .i64 r.2.2]]) ∧ w'.ownsRow W.heap.size 46 3 v r.1.length (lcells r.1)) ∧ Below W.heap.size W w') (hr : r = (T, c, i)) :
    Calls Tryz.prog f args W fun e w' => (∃ a ca, e = .returned (.tuple #[.slice a T.length ca, .agg #[.int .i64 c, .int .i64 i]]) ∧ LiesAt w' a T) ∧ Below W.heap.size W w' :=
  h.mono fun e w' ⟨⟨v, he, ho⟩, hb⟩ => by
    subst hr
    obtain ⟨a, ca, rfl, hl, _⟩ := owns_lies ho
    exact ⟨⟨a, ca, he, hl⟩, hb⟩
end Go.Proofs.YtkcjgncpcidfoaaGreatDoor
