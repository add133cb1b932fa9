/-
  Own texts of the proof, joined by program: PkClone, PkFind, PkSortFn, PkSort.
-/
import Derived.Test.YtmeipangcgdinaaGreatDoorLawTree
import Derived.Lib.SliceRun
import Derived.Lib.Walk
import Derived.Test.YtmeipangcgdinaaGreatDoorTreeMemTreeSlotsTreeOwn
import Derived.Test.YtmeipangcgdinaaGreatDoorTreePureTreeSortTreeFactsTreeInsertTreeAt
import Derived.Test.YtmeipangcgdinaaGreatDoorShelf
import Derived.Test.YtmeipangcgdinaaGreatDoorShelf2
import Derived.Test.YtmeipangcgdinaaGreatDoorPkNextPkCheck
import Derived.Test.YtmeipangcgdinaaGreatDoorToldPkPackRead
/-
  Package slices' Clone of files: over this seat's translation.
-/
namespace Go.Proofs.YtmeipangcgdinaaGreatDoor
open Go.RowKit Go.Shelf

theorem lies_none {w : World} {l : List F} (h : LiesAt w none l) : l = [] := by
  by_cases e : l = []
  · exact e
  · obtain ⟨b, o, e', _⟩ := h e
    cases e'

end Go.Proofs.YtmeipangcgdinaaGreatDoor
/-
  Package tree's find, by package slices' BinarySearchFunc: over this seat's translation.
-/
namespace Go.Proofs.YtmeipangcgdinaaGreatDoor
open Go.RowKit Go.Shelf

theorem cmp_less : ∀ a b : List UInt8, decide (Lib.compareBytes a b < 0) = less a b
  | [], [] => by simp [Lib.compareBytes, less, Op.bytesLess]
  | [], _ :: _ => by simp [Lib.compareBytes, less, Op.bytesLess]
  | _ :: _, [] => by simp [Lib.compareBytes, less, Op.bytesLess]
  | x :: a, y :: b => by
    have ih := cmp_less a b
    simp only [less] at ih
    by_cases h1 : x < y
    · simp [Lib.compareBytes, less, Op.bytesLess, h1]
    · by_cases h2 : y < x
      · have : x ≠ y := fun e => by subst e; exact h1 h2
        simp [Lib.compareBytes, less, Op.bytesLess, h1, h2, this]
      · have : x = y := UInt8.le_antisymm (UInt8.not_lt.1 h2) (UInt8.not_lt.1 h1)
        subst this
        simp [Lib.compareBytes, less, Op.bytesLess, h1, ih]
theorem cmp_zero : ∀ a b : List UInt8, Lib.compareBytes a b = 0 ↔ a = b
  | [], [] => by simp [Lib.compareBytes]
  | [], _ :: _ => by simp [Lib.compareBytes]
  | _ :: _, [] => by simp [Lib.compareBytes]
  | x :: a, y :: b => by
    have ih := cmp_zero a b
    by_cases h1 : x < y
    · have : x ≠ y := fun e => by subst e; exact absurd h1 (UInt8.lt_irrefl _)
      simp [Lib.compareBytes, h1, this]
    · by_cases h2 : y < x
      · have : x ≠ y := fun e => by subst e; exact h1 h2
        simp [Lib.compareBytes, h1, h2, this]
      · have : x = y := UInt8.le_antisymm (UInt8.not_lt.1 h2) (UInt8.not_lt.1 h1)
        subst this
        simp [Lib.compareBytes, h1, ih]

theorem compare_is (a b : List UInt8) (w : World) : Calls Tryz.prog 26 #[.string ⟨a.toArray⟩, .string ⟨b.toArray⟩] w fun e w' => e = .returned (.int .i64 (Lib.compareBytes a b)) ∧ w' = w :=
  Tryz.strings_Compare ⟨a.toArray⟩ ⟨b.toArray⟩ w

end Go.Proofs.YtmeipangcgdinaaGreatDoor
/-
  Package slices' SortFunc of files by their paths: over this seat's translation.
-/
namespace Go.Proofs.YtmeipangcgdinaaGreatDoor
open Go.RowKit Go.Shelf Go.Sort Go.Lib

abbrev cfF (x y : F) : Int := Lib.compareBytes x.p y.p

theorem ltOf_less (x y : F) : ltOf cfF x y = less x.p y.p := cmp_less x.p y.p

theorem swoF : SWO (ltOf cfF) where
  irrefl x := by rw [ltOf_less]; exact less_irrefl _
  trans x y z h1 h2 := by rw [ltOf_less] at *; exact less_trans h1 h2
  ntrans x y z h1 h2 := by rw [ltOf_less] at *; exact less_weak h2 h1

theorem lies_holds [Inhabited F] {w : World} {g : Nat} {d : Array F} (h : HoldsK fcells 3 w g 0 d) : LiesAt w (some ⟨g, 0, none⟩) d.toList := fun _ => by
  refine ⟨g, 0, rfl, fun k hk => ?_⟩
  have hk' : k < d.size := by simpa using hk
  have c0 := (h.cell (i := k) (c := 0) hk' (by decide)).1
  have c1 := (h.cell (i := k) (c := 1) hk' (by decide)).1
  have c2 := (h.cell (i := k) (c := 2) hk' (by decide)).1
  rw [getElem!_pos d k hk'] at c0 c1 c2
  exact ⟨c0, c1, c2⟩

theorem below_sorted [Inhabited F] {base : Nat} {w : World} {g n : Nat} {d : Array F} {os : Array Obj} (hg : base ≤ g) (hgw : g < w.heap.size) : Below base w (sortWorldK fcells 3 w g 0 n d os) := by
  refine ⟨rfl, rfl, rfl, size_sortWorldK_c fcells 3 w g 0 n d os, fun k hk => ?_⟩
  have hkw : k < w.heap.size := by omega
  show ((putRowK fcells 3 (Sort.ahead w n) g 0 d).heap ++ os)[k]? = _
  have hsz : (putRowK fcells 3 (Sort.ahead w n) g 0 d).heap.size = w.heap.size := size_putRowK fcells 3 (Sort.ahead w n) g 0 d
  rw [Array.getElem?_append_left (by omega)]
  show (w.heap.modify g _)[k]? = _
  rw [Array.getElem?_modify, if_neg (by omega)]

theorem perm_of [Inhabited F] {l : List F} {d' : Array F} (h : PermIn 0 l.toArray.size l.toArray d') : d'.toList.Perm l := by
  have h1 := h.2.2
  have hs := h.1
  rw [show d'.extract 0 l.toArray.size = d' by rw [← hs]; simp] at h1
  simpa using h1

theorem weak_of [Inhabited F] {l : List F} {d' : Array F} (hs : d'.size = l.toArray.size) (h : SortedIn (ltOf cfF) 0 l.toArray.size d') : Weak d'.toList := by
  refine List.pairwise_iff_getElem.2 fun i j hi hj hij => ?_
  have hi' : i < d'.size := by simpa using hi
  have hj' : j < d'.size := by simpa using hj
  have := h i j (Nat.zero_le _) hij (by omega)
  rw [ltOf_less, getElem!_pos d' i hi', getElem!_pos d' j hj'] at this
  simpa using this

end Go.Proofs.YtmeipangcgdinaaGreatDoor
/-
  Package tree's Sort: over this seat's translation.
-/
namespace Go.Proofs.YtmeipangcgdinaaGreatDoor
open Go.RowKit Go.Shelf

theorem small_perm {s l : List F} (hp : s.Perm l) (h : Small l) : Small s :=
  ⟨by rw [hp.length_eq]; exact h.few, fun f hf => h.path f (hp.mem_iff.1 hf), fun f hf => h.text f (hp.mem_iff.1 hf)⟩

end Go.Proofs.YtmeipangcgdinaaGreatDoor
