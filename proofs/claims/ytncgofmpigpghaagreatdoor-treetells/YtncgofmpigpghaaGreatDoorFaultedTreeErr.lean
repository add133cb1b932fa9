/-
  Own texts of the proof, joined by program: Faulted, TreeErr.
-/
import Derived.Test.YtncgofmpigpghaaGreatDoorTreeMemTreeSlotsPkSameRefSame
import Derived.Test.YtncgofmpigpghaaGreatDoorCoded
import Derived.Test.YtncgofmpigpghaaGreatDoorPaths
/-
  The law package's faulted: over this seat's translation.
-/
namespace Go.Proofs.YtncgofmpigpghaaGreatDoor
open Go.RowKit Go.Shelf

set_option maxRecDepth 100000 in
theorem faulted_yes (e : Value) (c n : Int) (w : World) (h : ∀ w1, Below w.heap.size w w1 → Calls Tryz.prog 43 #[e] w1 fun e w' => e = .returned (.tuple #[.int .i64 c, .int .i64 n]) ∧ Below w1.heap.size w1 w') :
    Calls Tryz.prog 16 #[e, .agg #[.int .i64 c, .int .i64 n]] w fun e w' => e = .returned (.bool true) ∧ Below w.heap.size w w' := by
  have H : Hid (∀ w1, Below w.heap.size w w1 → Calls Tryz.prog 43 #[e] w1 fun e w' => e = .returned (.tuple #[.int .i64 c, .int .i64 n]) ∧ Below w1.heap.size w1 w') := h
  clear h
  by_cases hc : c = 0
  · subst hc
    go_enter Tryz.func16, Tryz.ntmps16
    go_wp2_with fail
    refine (H.out _ ((Below.refl _ _).alloc (Nat.le_refl _) _)).mono ?_
    rintro e1 w1 ⟨rfl, hb1⟩
    obtain ⟨s0, s1, s2, s3, s4⟩ := slot_two (w := w) (hb1.mono (by simp))
    have HB : Hid (Below w.heap.size w w1) := s4
    clear hb1 s4
    go_wp2
    go_ret
    exact ⟨rfl, HB.out⟩
  · have hc' : (c == 0) = false := by simpa using hc
    go_enter Tryz.func16, Tryz.ntmps16
    go_wp2_with fail
    refine (H.out _ ((Below.refl _ _).alloc (Nat.le_refl _) _)).mono ?_
    rintro e1 w1 ⟨rfl, hb1⟩
    obtain ⟨s0, s1, s2, s3, s4⟩ := slot_two (w := w) (hb1.mono (by simp))
    have HB : Hid (Below w.heap.size w w1) := s4
    clear hb1 s4
    go_wp2
    go_ret
    exact ⟨rfl, HB.out⟩
end Go.Proofs.YtncgofmpigpghaaGreatDoor
/-
  What an error tells: its number and its place; package fault's Bare: over this seat's translation.
-/
namespace Go.Proofs.YtncgofmpigpghaaGreatDoor
open Go.RowKit Go.Shelf

/-- An error that tells this number (0: none) and this place (-1: none). -/
def ErrAt (p : Nat → Addr) (w : World) (v : Value) (c : Nat) (i : Int) : Prop :=
  (c = 0 ∧ i = -1 ∧ v = .nilIface) ∨ (∃ j, c = j + 1 ∧ j < 13 ∧ i = -1 ∧ v = .iface 175 (.pointer (some (p j)))) ∨
    ∃ j b o, c = j + 1 ∧ j < 13 ∧ v = .iface 57 (.pointer (some ⟨b, o, none⟩)) ∧ w.cell? ⟨b, o, none⟩ = some (.int .i64 i) ∧ w.cell? ⟨b, o + 1, none⟩ = some (.iface 175 (.pointer (some (p j))))

theorem ErrAt.below {p : Nat → Addr} {w w' : World} {v : Value} {c : Nat} {i : Int} (h : ErrAt p w v c i) (hb : Below w.heap.size w w') : ErrAt p w' v c i := by
  rcases h with h | h | ⟨j, b, o, h0, h1, h2, h3, h4⟩
  · exact .inl h
  · exact .inr (.inl h)
  · exact .inr (.inr ⟨j, b, o, h0, h1, h2, (hb.cell (p := ⟨b, o, none⟩) (block_lt_of_cell h3)).trans h3, (hb.cell (p := ⟨b, o + 1, none⟩) (block_lt_of_cell h4)).trans h4⟩)

theorem ErrAt.fine (p : Nat → Addr) (w : World) : ErrAt p w .nilIface 0 (-1) := .inl ⟨rfl, rfl, rfl⟩
theorem ErrAt.bare {p : Nat → Addr} {w : World} {c : Nat} (h : c ≤ 13) : ErrAt p w (errV p c) c (-1) := by
  rcases c with _ | c
  · exact .inl ⟨rfl, rfl, rfl⟩
  · exact .inr (.inl ⟨c, rfl, by omega, rfl, rfl⟩)

/-- nil or not. -/
theorem ErrAt.isNil {p : Nat → Addr} {w : World} {v : Value} {i : Int} (h : ErrAt p w v 0 i) : v = .nilIface := by
  rcases h with h | ⟨j, h, _⟩ | ⟨j, b, o, h, _⟩
  · exact h.2.2
  · omega
  · omega
theorem ErrAt.some {p : Nat → Addr} {w : World} {v : Value} {c : Nat} {i : Int} (h : ErrAt p w v c i) (hc : c ≠ 0) : ∃ T u, v = .iface T u := by
  rcases h with h | ⟨j, _, _, _, h⟩ | ⟨j, b, o, _, _, h, _⟩
  · exact absurd h.1 hc
  · exact ⟨_, _, h⟩
  · exact ⟨_, _, h⟩

theorem code_err {p : Nat → Addr} {w : World} {v : Value} {c : Nat} {i : Int} (h : ErrAt p w v c i) (hE : Env p w) :
    Calls Tryz.prog 43 #[v] w fun e w' => e = .returned (.tuple #[.int .i64 c, .int .i64 i]) ∧ Below w.heap.size w w' := by
  rcases h with ⟨rfl, rfl, rfl⟩ | ⟨j, rfl, hj, rfl, rfl⟩ | ⟨j, b, o, rfl, hj, rfl, h0, h1⟩
  · exact (code_nil w).mono fun _ _ ⟨h, h'⟩ => ⟨h, by rw [h']; exact Below.refl _ _⟩
  · exact code_sent p j w hE hj
  · exact code_flaw p j b o i w hE hj h0 h1

theorem faulted_err {p : Nat → Addr} {w : World} {v : Value} {c : Nat} {i : Int} (h : ErrAt p w v c i) (hE : Env p w) :
    Calls Tryz.prog 16 #[v, .agg #[.int .i64 c, .int .i64 i]] w fun e w' => e = .returned (.bool true) ∧ Below w.heap.size w w' :=
  faulted_yes v c i w fun _ hb => code_err (h.below hb) (hE.below hb)

theorem bare_of {p : Nat → Addr} {w : World} {v : Value} {c : Nat} {i : Int} (h : ErrAt p w v c i) (hE : Env p w) :
    Calls Tryz.prog 34 #[v] w fun e w' => e = .returned (errV p c) ∧ Below w.heap.size w w' := by
  have HE0 : Hid (Env p (w.alloc (.cells #[.pointer none] 57))) := hE.below ((Below.refl _ _).alloc (Nat.le_refl _) _)
  clear hE
  rcases h with ⟨rfl, rfl, rfl⟩ | ⟨j, rfl, hj, rfl, rfl⟩ | ⟨j, b, o, rfl, hj, rfl, h0, h1⟩
  · go_enter Tryz.func34, Tryz.ntmps34
    go_wp2
    go_ret
    exact ⟨rfl, (Below.refl _ _).alloc (Nat.le_refl _) _⟩
  · go_enter Tryz.func34, Tryz.ntmps34
    go_wp2_with fail
    refine (as_miss _ _ _ HE0.out.handle).mono ?_
    rintro e w1 ⟨rfl, hb1⟩
    go_wp2
    go_ret
    exact ⟨rfl, ((Below.refl _ w).alloc (Nat.le_refl _) _).trans (hb1.mono (by simp))⟩
  · have hpb : b < w.heap.size := block_lt_of_cell h1
    have HX1 : Hid (w.cell? ⟨b, o + 1, none⟩ = some (.iface 175 (.pointer (some (p j))))) := h1
    clear h0 h1
    go_enter Tryz.func34, Tryz.ntmps34
    go_wp2_with fail
    refine (as_hit ⟨b, o, none⟩ ⟨w.heap.size, 0, none⟩ (.pointer none) (w.alloc (.cells #[.pointer none] 57)) HE0.out.handle (by simp) (by simp)).mono ?_
    rintro e w1 ⟨rfl, hw1⟩
    have hcf : w1.cell? ⟨w.heap.size, 0, none⟩ = some (.pointer (some ⟨b, o, none⟩)) := by
      rw [hw1, World.cell?_setCell_same']
      rw [World.cell?_alloc_lt _ _ _ (by simp; omega), World.cell?_alloc_lt _ _ _ (by simp; omega), World.cell?_alloc_lt _ _ _ (by simp; omega), World.cell?_alloc_lt _ _ _ (by simp)]
      simp
    have hb1 : Below w.heap.size w w1 := by
      rw [hw1]
      exact ((((((Below.refl _ _).alloc (Nat.le_refl _) _).alloc (by simp) _).alloc (by simp; omega) _).alloc (by simp; omega) _).alloc (by simp; omega) _).setCell (Nat.le_refl _) _
    clear hw1
    have hx1 : w1.cell? ⟨b, o + 1, none⟩ = some (.iface 175 (.pointer (some (p j)))) := (hb1.cell (p := ⟨b, o + 1, none⟩) hpb).trans HX1.out
    have HB1 : Hid (Below w.heap.size w w1) := hb1
    clear hb1
    go_wp2
    go_ret
    exact ⟨rfl, HB1.out⟩
end Go.Proofs.YtncgofmpigpghaaGreatDoor
