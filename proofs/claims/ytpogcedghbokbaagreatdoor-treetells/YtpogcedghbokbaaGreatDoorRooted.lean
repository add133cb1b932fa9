/-
  The law package's rooted: a closed fact: over this seat's translation.
-/
import Derived.Test.YtpogcedghbokbaaGreatDoorPkDeletePkInsertPkInsertGrowPkDropPkPut
import Derived.Test.YtpogcedghbokbaaGreatDoorCoded
namespace Go.Proofs.YtpogcedghbokbaaGreatDoor
open Go.RowKit Go.Shelf

theorem lies_one (W : World) (x : F) (T : TypeId) : LiesAt (W.alloc (.cells #[sv x.p, .bool x.r, sv x.t] T)) (some ⟨W.heap.size, 0, none⟩) [x] := fun _ => by
  obtain ⟨h0, h1, h2, _⟩ := box_three (w := W) (x := sv x.p) (y := .bool x.r) (z := sv x.t) (T := T) (Below.refl _ _)
  refine ⟨W.heap.size, 0, rfl, fun k hk => ?_⟩
  obtain rfl : k = 0 := by simp at hk; exact hk
  exact ⟨h0, h1, h2⟩

theorem small_one {x : F} (hp : x.p.length ≤ 40000) (ht : x.t.length ≤ 500000) : Small [x] :=
  ⟨by simp, fun f hf => by rw [List.mem_singleton.1 hf]; exact hp, fun f hf => by rw [List.mem_singleton.1 hf]; exact ht⟩

def rootA : F := ⟨[97, 47, 98], false, [49]⟩
def rootB : F := ⟨[97, 47, 97], false, [50]⟩
def rootC : F := ⟨[97], false, []⟩

theorem root_put : putT [rootA] rootB = ([rootB, rootA], 0, -1) := by kernel_rfl
theorem root_clash : putT [rootB, rootA] rootC = ([], 11, -1) := by kernel_rfl

theorem small_root : Small [rootB, rootA] := by
  refine ⟨by simp, fun f hf => ?_, fun f hf => ?_⟩ <;> (simp only [List.mem_cons, List.not_mem_nil, or_false] at hf; rcases hf with rfl | rfl <;> decide)

theorem coded_err {p : Nat → Addr} {w : World} {v : Value} {c : Nat} (h : ErrAt p w v c (-1)) (hE : Env p w) :
    Calls Tryz.prog 28 #[v, .int .i64 c] w fun e w' => e = .returned (.bool true) ∧ Below w.heap.size w w' := coded_yes v c w (code_err h hE)

set_option maxRecDepth 100000 in
set_option maxHeartbeats 4000000 in
theorem rooted_any (p : Nat → Addr) (w : World) (hE : Env p w) : Calls Tryz.prog 6 #[] w fun e w' => e = .returned (.bool true) ∧ Below w.heap.size w w' := by
  have HE : Hid (Env p w) := hE
  have hB0 : Below w.heap.size w (w.alloc (.cells #[sv rootA.p, .bool rootA.r, sv rootA.t] 24)) := (Below.refl _ _).alloc (Nat.le_refl _) _
  have HPUT : Hid (Calls Tryz.prog 12 #[.slice (some ⟨w.heap.size, 0, none⟩) 1 1, fv rootB] (w.alloc (.cells #[sv rootA.p, .bool rootA.r, sv rootA.t] 24)) fun e w' => Told p w' e ([rootB, rootA], 0, -1) ∧ Below (w.alloc (.cells #[sv rootA.p, .bool rootA.r, sv rootA.t] 24)).heap.size (w.alloc (.cells #[sv rootA.p, .bool rootA.r, sv rootA.t] 24)) w') := by
    have := putTree_any p [rootA] (some ⟨w.heap.size, 0, none⟩) 1 rootB _ (hE.below hB0) (lies_one w rootA _) (by simp) (small_one (by decide) (by decide)) (by decide) (by decide)
    rwa [root_put] at this
  clear hE
  go_enter Tryz.func6, Tryz.ntmps6
  go_wp2_with fail
  refine HPUT.out.mono ?_
  rintro e w1 ⟨⟨a, c, v, rfl, hl, hc, hv⟩, hb1⟩
  have := hv.isNil
  subst this
  have HB1 : Hid (Below w.heap.size w w1) := hB0.trans (hb1.mono (by simp))
  have HL : Hid (LiesAt w1 a [rootB, rootA]) := hl
  have hc2 : 2 ≤ c := hc
  clear hl hv hb1 hc hB0 HPUT
  have HCL : Hid (Calls Tryz.prog 12 #[.slice a 2 c, fv rootC] w1 fun e w' => Told p w' e ([], 11, -1) ∧ Below w1.heap.size w1 w') := by
    have := putTree_any p [rootB, rootA] a c rootC w1 (HE.out.below HB1.out) HL.out hc2 small_root (by decide) (by decide)
    rwa [root_clash] at this
  go_wp2_with fail
  refine HCL.out.mono ?_
  rintro e w2 ⟨⟨a2, c2, v2, rfl, _, _, hv2⟩, hb2⟩
  have HB2 : Hid (Below w.heap.size w w2) := HB1.out.trans (hb2.mono HB1.out.size)
  have HV : Hid (ErrAt p w2 v2 11 (-1)) := hv2
  obtain ⟨b, o, rfl, c0, c1, c2'⟩ := (HL.out.below hb2).at (k := 0) (by simp)
  have d0 : w2.cell? ⟨b, o, none⟩ = some (.string ⟨#[97, 47, 97]⟩) := by simpa [rootB] using c0
  clear hb2 hv2 HCL c0 c1 c2'
  go_wp2_with fail
  refine (coded_err HV.out (HE.out.below HB2.out)).mono ?_
  rintro e w3 ⟨rfl, hb3⟩
  go_wp2
  go_ret
  exact ⟨rfl, HB2.out.trans (hb3.mono HB2.out.size)⟩
end Go.Proofs.YtpogcedghbokbaaGreatDoor
