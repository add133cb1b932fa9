/-
  Own texts of the proof, joined by program: LawAid, LawLong.
-/
import Derived.Test.YtncgofmpigpghaaGreatDoorRooted
import Derived.Test.YtncgofmpigpghaaGreatDoorPkGraft
import Derived.Test.YtncgofmpigpghaaGreatDoorPkStrip
import Derived.Test.YtncgofmpigpghaaGreatDoorTreeMemTreeSlotsPkSameRefSame
import Derived.Test.YtncgofmpigpghaaGreatDoorTreeFactsTreeInsertTreeAt
/-
  What the walks of the statements on trees share: over this seat's translation.
-/
namespace Go.Proofs.YtncgofmpigpghaaGreatDoor
open Go.RowKit Go.Shelf

theorem longL_or (l : List F) : (longL l : Int) = 0 ∨ (longL l : Int) = 1 := by
  unfold longL
  repeat' split
  all_goals simp

/-- What is asked of files that came in. -/
structure Came (w : World) (a : Option Addr) (ca : Nat) (l : List F) : Prop where
  lies : LiesAt w a l
  cap : l.length ≤ ca
  len : l.length ≤ maxLen
  texts : ∀ f ∈ l, f.p.length ≤ maxLen ∧ f.t.length ≤ maxLen
  nil : a = none → ca = 0 ∧ l = []

theorem Came.below {w w' : World} {a : Option Addr} {ca : Nat} {l : List F} (h : Came w a ca l) (hb : Below w.heap.size w w') : Came w' a ca l := ⟨h.lies.below hb, h.cap, h.len, h.texts, h.nil⟩

theorem long_is {w : World} {a : Option Addr} {ca : Nat} {l : List F} (h : Came w a ca l) (c : Int) (hc : (longL l : Int) = c) :
    Calls Tryz.prog 7 #[.slice a l.length ca] w fun e w' => e = .returned (.int .i64 c) ∧ w' = w := by
  have := longFiles_same l a ca w h.lies h.len h.texts
  rwa [hc] at this

theorem small_of_long {l : List F} (h : (longL l : Int) = 0) : Small l := by
  obtain ⟨h1, h2⟩ := longL_zero (l := l) (by omega)
  exact ⟨by omega, fun f hf => by have := (h2 f hf).1; omega, fun f hf => by have := (h2 f hf).2; omega⟩

theorem tree_small {l : List F} (h : (treeFault l).1 = 0) : Small l := by
  obtain ⟨g, hn, _⟩ := tree_good.1 h
  exact ⟨by omega, fun f hf => by have := path_short (g.right f hf).1; omega, fun f hf => by have := (g.right f hf).2; omega⟩

/-- What was told, with what it comes to. -/
theorem Told.open {p : Nat → Addr} {w : World} {e : Ending} {r : List F × Nat × Int} {l : List F} {c : Nat} {i : Int} (h : Told p w e r) (hr : r = (l, c, i)) :
    ∃ a ca v, e = .returned (.tuple #[.slice a l.length ca, v]) ∧ LiesAt w a l ∧ l.length ≤ ca ∧ ErrAt p w v c i := by
  subst hr
  exact h
theorem Told.fine {p : Nat → Addr} {w : World} {e : Ending} {r : List F × Nat × Int} {l : List F} (h : Told p w e r) (hr : r = (l, 0, -1)) :
    ∃ a ca, e = .returned (.tuple #[.slice a l.length ca, .nilIface]) ∧ LiesAt w a l ∧ l.length ≤ ca := by
  obtain ⟨a, ca, v, he, hl, hc, hv⟩ := h.open hr
  have := hv.isNil
  subst this
  exact ⟨a, ca, he, hl, hc⟩
theorem Told.bad {p : Nat → Addr} {w : World} {e : Ending} {r : List F × Nat × Int} {c : Nat} {i : Int} (h : Told p w e r) (hr : r = ([], c, i)) (hc : c ≠ 0) :
    ∃ a ca T u, e = .returned (.tuple #[.slice a 0 ca, .iface T u]) ∧ ErrAt p w (.iface T u) c i := by
  obtain ⟨a, ca, v, he, hl, hca, hv⟩ := h.open hr
  obtain ⟨T, u, rfl⟩ := hv.some hc
  exact ⟨a, ca, T, u, he, hv⟩

theorem graft_fine {l m : List F} {d : List UInt8} (h : (graftT l d m).2.1 = 0) : ∃ t, graftT l d m = (t, 0, -1) ∧ (treeFault l).1 = 0 ∧ (treeFault m).1 = 0 ∧ Grafted l d m t := by
  obtain ⟨h1, h2, hG⟩ := graft_zero h
  refine ⟨(graftT l d m).1, ?_, h1, h2, hG⟩
  have h3 : (graftT l d m).2.2 = -1 := by
    unfold graftT at h ⊢
    rw [if_neg (by simp [h1]), if_neg (by simp [h2])] at h ⊢
    repeat' split
    all_goals rfl
  generalize graftT l d m = r at h h3
  obtain ⟨x, y, z⟩ := r
  simp only at h h3
  subst h h3
  rfl
theorem graft_none {l m : List F} {d : List UInt8} (h : (graftT l d m).2.1 ≠ 0) : ∃ c i, graftT l d m = ([], c, i) ∧ c ≠ 0 := by
  have h0 := graft_bad h
  generalize graftT l d m = r at h h0
  obtain ⟨x, y, z⟩ := r
  simp only at h h0
  subst h0
  exact ⟨y, z, rfl, h⟩
theorem under_fine {t : List F} {d : List UInt8} (h : (treeFault t).1 = 0) : underT t d = (underL t d, 0, -1) := by simp [underT, h]
end Go.Proofs.YtncgofmpigpghaaGreatDoor
/-
  What the statements' walks say of files that are too long: over this seat's translation.
-/
namespace Go.Proofs.YtncgofmpigpghaaGreatDoor
open Go.RowKit Go.Shelf

theorem came_one (W : World) (x : F) (T : TypeId) (hp : x.p.length ≤ maxLen) (ht : x.t.length ≤ maxLen) : Came (W.alloc (.cells #[sv x.p, .bool x.r, sv x.t] T)).drew (some ⟨W.heap.size, 0, none⟩) 1 [x] :=
  ⟨lies_one W x T, by simp, by unfold maxLen; simp, fun f hf => by rw [List.mem_singleton.1 hf]; exact ⟨hp, ht⟩, fun h => by cases h⟩
theorem long_one (W : World) (x : F) (c : Int) (hp : x.p.length ≤ maxLen) (ht : x.t.length ≤ maxLen) (hc : (longL [x] : Int) = c) :
    Calls Tryz.prog 7 #[.slice (some ⟨W.heap.size, 0, none⟩) 1 1] (W.alloc (.cells #[sv x.p, .bool x.r, sv x.t] 24)).drew fun e w' => e = .returned (.int .i64 c) ∧ w' = (W.alloc (.cells #[sv x.p, .bool x.r, sv x.t] 24)).drew :=
  long_is (came_one W x _ hp ht) c hc
theorem one_of_long {x : F} (h : (longL [x] : Int) = 0) : x.p.length ≤ 400 ∧ x.t.length ≤ 5000 := by
  have := small_of_long h
  exact ⟨this.path x (by simp), this.text x (by simp)⟩

end Go.Proofs.YtncgofmpigpghaaGreatDoor
