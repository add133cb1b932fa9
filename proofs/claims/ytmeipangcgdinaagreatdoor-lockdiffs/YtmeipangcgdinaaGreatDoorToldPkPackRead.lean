/-
  Own texts of the proof, joined by program: Told, PkPackRead.
-/
import Derived.Test.YtmeipangcgdinaaGreatDoorSlotsErrAt
import Derived.Test.YtmeipangcgdinaaGreatDoorTreeMemTreeSlotsTreeOwn
import Derived.Test.YtmeipangcgdinaaGreatDoorCutCheckCleanPaths
import Derived.Test.YtmeipangcgdinaaGreatDoorPkFilePkCutFile
import Derived.Test.YtmeipangcgdinaaGreatDoorPkNextPkCheck
/-
  What a function that answers files and an error tells; what one of the document's answer that answers files and a fault tells: over this seat's translation.
-/
namespace Go.Proofs.YtmeipangcgdinaaGreatDoor
open Go.RowKit Go.Shelf

/-- What a call tells that makes a tree: the files, and an error's number and place. -/
def Told (p : Nat → Addr) (w : World) (e : Ending) (r : List F × Nat × Int) : Prop :=
  ∃ a c v, e = .returned (.tuple #[.slice a r.1.length c, v]) ∧ LiesAt w a r.1 ∧ r.1.length ≤ c ∧ ErrAt p w v r.2.1 r.2.2

theorem told_none {p : Nat → Addr} {w : World} {v : Value} {c : Nat} {i : Int} (h : ErrAt p w v c i) : Told p w (.returned (.tuple #[.slice none 0 0, v])) ([], c, i) :=
  ⟨none, 0, v, rfl, fun h => absurd rfl h, Nat.le_refl _, h⟩

/-- Files in memory that is new; nil has no room. -/
structure NewL (B : Nat) (a : Option Addr) (c : Nat) (l : List F) : Prop where
  new : l ≠ [] → ∀ b o t, a = some ⟨b, o, t⟩ → B ≤ b
  nil : a = none → c = 0
theorem NewL.none (B : Nat) : NewL B Option.none 0 [] := ⟨fun h => absurd rfl h, fun _ => rfl⟩
theorem NewL.mono {B C : Nat} {a : Option Addr} {c : Nat} {l : List F} (h : NewL B a c l) (hc : C ≤ B) : NewL C a c l := ⟨fun hl b o t e => Nat.le_trans hc (h.new hl b o t e), h.nil⟩
theorem NewL.empty {B : Nat} {w : World} {a : Option Addr} {c : Nat} {l : List F} (h : NewL B a c l) (hl : LiesAt w a l) : a = Option.none → c = 0 ∧ l = [] := fun e => ⟨h.nil e, by
  by_cases hn : l = []
  · exact hn
  · obtain ⟨b, o, e2, _⟩ := hl hn
    rw [e] at e2
    cases e2⟩
theorem owns_nil {w : World} {base : Nat} {ty : TypeId} {size : Nat} {a : Option Addr} {n c m : Nat} {xs : List Value} (h : w.ownsRow base ty size (.slice a n c) m xs) : a = none → c = 0 := fun e => by
  rcases h.2 with ⟨h1, _⟩ | ⟨g, cap, cur, h1, h2, _⟩
  · simp only [Value.slice.injEq] at h1
    exact h1.2.2
  · simp only [Value.slice.injEq] at h1
    rw [h1.1] at e
    cases e
theorem owns_new {w : World} {base : Nat} {ty : TypeId} {size : Nat} {a : Option Addr} {n c m : Nat} {xs : List Value} (h : w.ownsRow base ty size (.slice a n c) m xs) : ∀ b o t, a = some ⟨b, o, t⟩ → base ≤ b := fun b o t e => by
  rcases h.2 with ⟨h1, _⟩ | ⟨g, cap, cur, h1, h2, _⟩
  · simp only [Value.slice.injEq] at h1
    rw [h1.1] at e
    cases e
  · simp only [Value.slice.injEq] at h1
    rw [h1.1] at e
    cases e
    exact h2
/-- What a call tells that makes a tree, in memory that is new. -/
def ToldN (p : Nat → Addr) (B : Nat) (w : World) (e : Ending) (r : List F × Nat × Int) : Prop :=
  ∃ a c v, e = .returned (.tuple #[.slice a r.1.length c, v]) ∧ LiesAt w a r.1 ∧ r.1.length ≤ c ∧ ErrAt p w v r.2.1 r.2.2 ∧ NewL B a c r.1
theorem toldN_none {p : Nat → Addr} {B : Nat} {w : World} {v : Value} {c : Nat} {i : Int} (h : ErrAt p w v c i) : ToldN p B w (.returned (.tuple #[.slice none 0 0, v])) ([], c, i) :=
  ⟨none, 0, v, rfl, fun h => absurd rfl h, Nat.le_refl _, h, NewL.none _⟩
theorem ToldN.told {p : Nat → Addr} {B : Nat} {w : World} {e : Ending} {r : List F × Nat × Int} (h : ToldN p B w e r) : Told p w e r := by
  obtain ⟨a, c, v, h1, h2, h3, h4, _⟩ := h
  exact ⟨a, c, v, h1, h2, h3, h4⟩
theorem ToldN.open {p : Nat → Addr} {B : Nat} {w : World} {e : Ending} {r : List F × Nat × Int} {l : List F} {c : Nat} {i : Int} (h : ToldN p B w e r) (hr : r = (l, c, i)) :
    ∃ a ca v, e = .returned (.tuple #[.slice a l.length ca, v]) ∧ LiesAt w a l ∧ l.length ≤ ca ∧ ErrAt p w v c i ∧ NewL B a ca l := by
  subst hr
  exact h

/-- What was told, with what it comes to. -/
theorem Told.open {p : Nat → Addr} {w : World} {e : Ending} {r : List F × Nat × Int} {l : List F} {c : Nat} {i : Int} (h : Told p w e r) (hr : r = (l, c, i)) :
    ∃ a ca v, e = .returned (.tuple #[.slice a l.length ca, v]) ∧ LiesAt w a l ∧ l.length ≤ ca ∧ ErrAt p w v c i := by
  subst hr
  exact h
theorem Told.fine {p : Nat → Addr} {w : World} {e : Ending} {r : List F × Nat × Int} {l : List F} (h : Told p w e r) (hr : r = (l, 0, -1)) :
    ∃ a ca, e = .returned (.tuple #[.slice a l.length ca, .nilIface]) ∧ LiesAt w a l ∧ l.length ≤ ca := by
  obtain ⟨a, ca, v, he, hl, hc, hv⟩ := h.open hr
  have := hv.isNil
  subst this
  exact ⟨a, ca, he, hl, hc⟩
theorem Told.bad {p : Nat → Addr} {w : World} {e : Ending} {r : List F × Nat × Int} {c : Nat} {i : Int} (h : Told p w e r) (hr : r = ([], c, i)) (hc : c ≠ 0) :
    ∃ a ca T u, e = .returned (.tuple #[.slice a 0 ca, .iface T u]) ∧ ErrAt p w (.iface T u) c i := by
  obtain ⟨a, ca, v, he, hl, hca, hv⟩ := h.open hr
  obtain ⟨T, u, rfl⟩ := hv.some hc
  exact ⟨a, ca, T, u, he, hv⟩

/-- What a function of the package tells, with what it comes to. -/
theorem told_open {f : Nat} {args : Array Value} {p : Nat → Addr} {W : World} {r : List F × Nat × Int} {T : List F} {c : Nat} {i : Int} (h : Calls Tryz.prog f args W fun e w' => Told p w' e r ∧ Below W.heap.size W w') (hr : r = (T, c, i)) :
    Calls Tryz.prog f args W fun e w' => (∃ a ca v, e = .returned (.tuple #[.slice a T.length ca, v]) ∧ LiesAt w' a T ∧ ErrAt p w' v c i) ∧ Below W.heap.size W w' :=
  h.mono fun e w' ⟨ht, hb⟩ => by
    obtain ⟨a, ca, v, he, hl, _, hv⟩ := ht.open hr
    exact ⟨⟨a, ca, v, he, hl, hv⟩, hb⟩
end Go.Proofs.YtmeipangcgdinaaGreatDoor
/-
  Package pack: Read tells of every text what the plain function tells: over this seat's translation.
-/
namespace Go.Proofs.YtmeipangcgdinaaGreatDoor
open Go.RowKit Go.Shelf

theorem cutV_none {s : List UInt8} (h : cutFileL s = none) : cutV s = .tuple #[fv ⟨[], false, []⟩, sv [], .bool false] := by unfold cutV; rw [h]
theorem cutV_some {s r : List UInt8} {f : F} (h : cutFileL s = some (f, r)) : cutV s = .tuple #[fv f, sv r, .bool true] := by unfold cutV; rw [h]

theorem small_pack {l : List F} (h : (packL l).length ≤ 20000) : Small l :=
  ⟨by have := pack_count l; omega, fun f hf => by have := (pack_mem hf).1; omega, fun f hf => by have := (pack_mem hf).2; omega⟩

end Go.Proofs.YtmeipangcgdinaaGreatDoor
