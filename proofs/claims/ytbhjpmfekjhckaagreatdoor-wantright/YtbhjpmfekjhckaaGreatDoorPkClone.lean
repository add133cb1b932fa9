/-
  Package slices' Clone of files: over this seat's translation.
-/
import Derived.Test.YtbhjpmfekjhckaaGreatDoorLawTreeCame
import Derived.Lib.SliceRun
import Derived.Lib.Walk
namespace Go.Proofs.YtbhjpmfekjhckaaGreatDoor
open Go.RowKit Go.Shelf

theorem lies_none {w : World} {l : List F} (h : LiesAt w none l) : l = [] := by
  by_cases e : l = []
  · exact e
  · obtain ⟨b, o, e', _⟩ := h e
    cases e'

set_option maxRecDepth 100000 in
set_option maxHeartbeats 2000000 in
theorem clone_any (l : List F) (a : Option Addr) (ca : Nat) (w : World) (hl : LiesAt w a l) (hf : l.length ≤ 100000) :
    Calls Tryz.prog 27 #[.slice a l.length ca] w fun e w' => (∃ v, e = .returned v ∧ w'.ownsRow w.heap.size 49 3 v l.length (lcells l)) ∧ Below w.heap.size w w' := by
  obtain ⟨i0, hi, hz0, hz1, hz2⟩ := info_parts Tryz.infoFile
  have q22 : ∀ (w : World) (a : Option Addr) (n c n' c' : Nat), (binOp .eql 24 (.slice a n c) (.slice none n' c')).run Tryz.prog w = .ok (.bool a.isNone) w := fun w a n c n' c' => Lib.run_eql_slice_nil w _ _ a n c n' c' Tryz.underlying24
  cases a with
  | none =>
    have := lies_none hl
    subst this
    clear hl
    go_enter Tryz.func27, Tryz.ntmps27
    go_wp2
    go_ret
    exact ⟨⟨_, rfl, World.ownsRow_nil _ _ _ _⟩, Below.refl _ _⟩
  | some ad =>
    have HN : Hid (∀ j u, (lcells l)[j]? = some u → w.cell? (ad.add j) = some u) := hl.news
    clear hl
    go_enter Tryz.func27, Tryz.ntmps27
    go_wp2_with (at_builtin; refine wpList_append_own _ rfl _ _ 24 rfl w.heap.size 49 i0 (.agg #[.string ⟨#[]⟩, .bool false, .string ⟨#[]⟩]) 3 40 Tryz.underlying24 hi hz0 hz1 hz2 rfl (by decide) _ _ _ rfl (World.ownsRow_made w #[] 0 (Nat.le_refl _) (Nat.zero_le _) (by simp)) ad l.length ca (lcells l) rfl (lcells_length l) (fun j u hj => Lib.cell?_alloc_some _ (HN.out j u hj)) (by intro u hu; simp only [lcells, List.mem_flatMap] at hu; obtain ⟨f, _, hu⟩ := hu; simp [fcells] at hu; rcases hu with rfl | rfl | rfl <;> rfl) (by unfold maxLen; omega) (by omega) (by simp) ?_; intro v' w1 hown hgrow _)
    go_ret
    refine ⟨⟨v', rfl, by simpa using hown⟩, ?_⟩
    exact ((Below.refl _ w).alloc (Nat.le_refl _) _).grown hgrow (by simp) (fun k hk => by have hk' : some w.heap.size = some k := hk; simp at hk'; omega)
end Go.Proofs.YtbhjpmfekjhckaaGreatDoor
