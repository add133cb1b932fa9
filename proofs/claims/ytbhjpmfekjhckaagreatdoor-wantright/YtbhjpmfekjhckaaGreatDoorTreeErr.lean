/-
  Package fault's Bare: over this seat's translation.
-/
import Derived.Test.YtbhjpmfekjhckaaGreatDoorSlotsErrAt
import Derived.Test.YtbhjpmfekjhckaaGreatDoorTreeMemTreeSlots
import Derived.Test.YtbhjpmfekjhckaaGreatDoorPaths
namespace Go.Proofs.YtbhjpmfekjhckaaGreatDoor
open Go.RowKit Go.Shelf

theorem bare_of {p : Nat → Addr} {w : World} {v : Value} {c : Nat} {i : Int} (h : ErrAt p w v c i) (hE : Env p w) :
    Calls Tryz.prog 30 #[v] w fun e w' => e = .returned (errV p c) ∧ Below w.heap.size w w' := by
  have HE0 : Hid (Env p (w.alloc (.cells #[.pointer none] 79))) := hE.below ((Below.refl _ _).alloc (Nat.le_refl _) _)
  clear hE
  rcases h with ⟨rfl, rfl, rfl⟩ | ⟨j, rfl, hj, rfl, rfl⟩ | ⟨j, b, o, rfl, hj, rfl, h0, h1⟩
  · go_enter Tryz.func30, Tryz.ntmps30
    go_wp2
    go_ret
    exact ⟨rfl, (Below.refl _ _).alloc (Nat.le_refl _) _⟩
  · go_enter Tryz.func30, Tryz.ntmps30
    go_wp2_with fail
    refine (as_miss _ _ _ HE0.out.handle).mono ?_
    rintro e w1 ⟨rfl, hb1⟩
    go_wp2
    go_ret
    exact ⟨rfl, ((Below.refl _ w).alloc (Nat.le_refl _) _).trans (hb1.mono (by simp))⟩
  · have hpb : b < w.heap.size := block_lt_of_cell h1
    have HX1 : Hid (w.cell? ⟨b, o + 1, none⟩ = some (.iface 207 (.pointer (some (p j))))) := h1
    clear h0 h1
    go_enter Tryz.func30, Tryz.ntmps30
    go_wp2_with fail
    refine (as_hit ⟨b, o, none⟩ ⟨w.heap.size, 0, none⟩ (.pointer none) (w.alloc (.cells #[.pointer none] 79)) HE0.out.handle (by simp) (by simp)).mono ?_
    rintro e w1 ⟨rfl, hw1⟩
    have hcf : w1.cell? ⟨w.heap.size, 0, none⟩ = some (.pointer (some ⟨b, o, none⟩)) := by
      rw [hw1, World.cell?_setCell_same']
      rw [World.cell?_alloc_lt _ _ _ (by simp; omega), World.cell?_alloc_lt _ _ _ (by simp; omega), World.cell?_alloc_lt _ _ _ (by simp; omega), World.cell?_alloc_lt _ _ _ (by simp)]
      simp
    have hb1 : Below w.heap.size w w1 := by
      rw [hw1]
      exact ((((((Below.refl _ _).alloc (Nat.le_refl _) _).alloc (by simp) _).alloc (by simp; omega) _).alloc (by simp; omega) _).alloc (by simp; omega) _).setCell (Nat.le_refl _) _
    clear hw1
    have hx1 : w1.cell? ⟨b, o + 1, none⟩ = some (.iface 207 (.pointer (some (p j)))) := (hb1.cell (p := ⟨b, o + 1, none⟩) hpb).trans HX1.out
    have HB1 : Hid (Below w.heap.size w w1) := hb1
    clear hb1
    go_wp2
    go_ret
    exact ⟨rfl, HB1.out⟩
end Go.Proofs.YtbhjpmfekjhckaaGreatDoor
