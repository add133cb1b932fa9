/-
  The document's answer's SameTexts: over this seat's translation.
-/
import Derived.Test.YtpogcedghbokbaaDoorRefMore
namespace Go.Proofs.YtpogcedghbokbaaDoor
open Go.RowKit Go.Shelf

theorem sameTexts_nil (w : World) : Calls Tryd.prog 15 #[.slice none 0 0, .slice none 0 0] w fun e w' => e = .returned (.bool true) ∧ Below w.heap.size w w' := by
  go_enter Tryd.func15, Tryd.ntmps15
  go_wp2_with fail
  refine wp_loop_rounds 1 ?_
  rw [rounds_succ]
  go_wp2
  go_ret
  exact ⟨rfl, Below.refl _ _⟩

set_option maxHeartbeats 1000000 in
theorem sameTexts_own (g1 g2 c1 c2 : Nat) (k : List (List UInt8)) (w : World) (hk : k.length ≤ 100000) (h1 : ∀ j (h : j < k.length), w.cell? ⟨g1, j, none⟩ = some (.string ⟨(k[j]).toArray⟩)) (h2 : ∀ j (h : j < k.length), w.cell? ⟨g2, j, none⟩ = some (.string ⟨(k[j]).toArray⟩)) :
    Calls Tryd.prog 15 #[.slice (some ⟨g1, 0, none⟩) k.length c1, .slice (some ⟨g2, 0, none⟩) k.length c2] w fun e w' => e = .returned (.bool true) ∧ Below w.heap.size w w' := by
  have H1 : Hid (∀ j (h : j < k.length), w.cell? ⟨g1, j, none⟩ = some (.string ⟨(k[j]).toArray⟩)) := h1
  have H2 : Hid (∀ j (h : j < k.length), w.cell? ⟨g2, j, none⟩ = some (.string ⟨(k[j]).toArray⟩)) := h2
  clear h1 h2
  go_enter Tryd.func15, Tryd.ntmps15
  go_wp2_with fail
  go_loopw [5] (fun i wr => ∃ q : Nat, q ≤ k.length ∧ i = .int .i64 q ∧ Below w.heap.size w wr) (fun i _ => k.length - (intOf i).toNat)
  case atStart => exact ⟨0, by omega, rfl, Below.refl _ _⟩
  case round =>
    obtain ⟨q, hq, rfl, hb⟩ := hrel
    have HB : Hid (Below w.heap.size w wr) := hb
    clear hb
    by_cases hlt : q < k.length
    · have hc1 : wr.cell? ⟨g1, q, none⟩ = some (.string ⟨(k[q]).toArray⟩) := (HB.out.cell (p := ⟨g1, q, none⟩) (block_lt_of_cell (H1.out q hlt))).trans (H1.out q hlt)
      have hc2 : wr.cell? ⟨g2, q, none⟩ = some (.string ⟨(k[q]).toArray⟩) := (HB.out.cell (p := ⟨g2, q, none⟩) (block_lt_of_cell (H2.out q hlt))).trans (H2.out q hlt)
      have hlt' : (q : Int) < (k.length : Int) := by omega
      generalize k[q] = x at hc1 hc2
      go_wp2_with fail
      go_quiet (fail)
      go_wp2
      go_roundw
      case rel => exact ⟨q + 1, by omega, by go_num, below_drewN HB.out _⟩
      case measure => simp [intOf]; omega
    · go_wp2
      go_ret
      exact ⟨rfl, HB.out⟩
end Go.Proofs.YtpogcedghbokbaaDoor
