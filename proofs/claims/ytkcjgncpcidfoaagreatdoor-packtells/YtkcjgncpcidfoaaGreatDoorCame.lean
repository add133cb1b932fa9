/-
  Files that came in, as an argument: what a walk asks of them; those that are not too long are few and small: over this seat's translation.
-/
import Derived.Test.YtkcjgncpcidfoaaGreatDoorLawTree
import Derived.Test.YtkcjgncpcidfoaaGreatDoorTreeInsert
namespace Go.Proofs.YtkcjgncpcidfoaaGreatDoor
open Go.RowKit Go.Shelf

theorem longL_or (l : List F) : (longL l : Int) = 0 ∨ (longL l : Int) = 1 := by
  unfold longL
  repeat' split
  all_goals simp

/-- What is asked of files that came in. -/
structure Came (w : World) (a : Option Addr) (ca : Nat) (l : List F) : Prop where
  lies : LiesAt w a l
  cap : l.length ≤ ca
  len : l.length ≤ maxLen
  texts : ∀ f ∈ l, f.p.length ≤ maxLen ∧ f.t.length ≤ maxLen
  nil : a = none → ca = 0 ∧ l = []

theorem Came.below {w w' : World} {a : Option Addr} {ca : Nat} {l : List F} (h : Came w a ca l) (hb : Below w.heap.size w w') : Came w' a ca l := ⟨h.lies.below hb, h.cap, h.len, h.texts, h.nil⟩

theorem long_is {w : World} {a : Option Addr} {ca : Nat} {l : List F} (h : Came w a ca l) (c : Int) (hc : (longL l : Int) = c) :
    Calls Tryz.prog 5 #[.slice a l.length ca] w fun e w' => e = .returned (.int .i64 c) ∧ w' = w := by
  have := longFiles_same l a ca w h.lies h.len h.texts
  rwa [hc] at this

theorem small_of_long {l : List F} (h : (longL l : Int) = 0) : Small l := by
  obtain ⟨h1, h2⟩ := longL_zero (l := l) (by omega)
  exact ⟨by omega, fun f hf => by have := (h2 f hf).1; omega, fun f hf => by have := (h2 f hf).2; omega⟩

theorem tree_small {l : List F} (h : (treeFault l).1 = 0) : Small l := by
  obtain ⟨g, hn, _⟩ := tree_good.1 h
  exact ⟨by omega, fun f hf => by have := path_short (g.right f hf).1; omega, fun f hf => by have := (g.right f hf).2; omega⟩

end Go.Proofs.YtkcjgncpcidfoaaGreatDoor
