/-
  The law package's packed: a closed fact: over this seat's translation.
-/
import Derived.Test.YtkcjgncpcidfoaaGreatDoorPkPackRead
import Derived.Test.YtkcjgncpcidfoaaGreatDoorPackFacts
namespace Go.Proofs.YtkcjgncpcidfoaaGreatDoor
open Go.RowKit Go.Shelf

def packedF : F := ⟨[97, 47, 98], true, [104, 105]⟩
theorem packed_tree : (treeFault [packedF]).1 = 0 := by kernel_rfl
theorem digits_two : digitsL 2 = [50] := by rw [digits_small (by decide)]; rfl
theorem packed_text : packL [packedF] = [97, 47, 98, 32, 120, 32, 50, 10, 104, 105, 10] := by
  show fileL packedF ++ [] = _
  unfold fileL lineL packedF
  simp [digits_two]

open Classical in
theorem file_eq (f g : F) (r : Bool) (h : decide (f = g) = r) (w : World) : (binOp .eql 46 (fv f) (fv g)).run Tryz.prog w = .ok (.bool r) w := by
  rw [run_eql_struct, file_equal, h]
  rfl

set_option maxRecDepth 100000 in
set_option maxHeartbeats 2000000 in
theorem packed_any (p : Nat → Addr) (w : World) (hE : Env p w) (hS : SEnv p w) : Calls Tryz.prog 4 #[] w fun e w' => e = .returned (.bool true) ∧ Below w.heap.size w w' := by
  have HC : Hid (Calls Tryz.prog 12 #[.string ⟨#[97, 47, 98, 32, 120, 32, 50, 10, 104, 105, 10]⟩] w fun e w' => Told p w' e ([packedF], 0, -1) ∧ Below w.heap.size w w') := by
    have := packRead_any p [97, 47, 98, 32, 120, 32, 50, 10, 104, 105, 10] w hE hS (by decide)
    rwa [← packed_text, readP_pack packed_tree, packed_text] at this
  clear hE hS
  go_enter Tryz.func4, Tryz.ntmps4
  go_wp2_with fail
  refine HC.out.mono ?_
  rintro e w1 ⟨ht, hb1⟩
  obtain ⟨a, ca, rfl, hl, hca⟩ := ht.fine rfl
  obtain ⟨b, o, rfl, c0, c1, c2⟩ := hl.at (k := 0) (by simp)
  have HB1 := Lib.hid hb1
  have hq := file_eq packedF packedF true (by simp)
  have d0 : w1.cell? ⟨b, o, none⟩ = some (.string ⟨#[97, 47, 98]⟩) := by simpa [packedF] using c0
  have d1 : w1.cell? ⟨b, o + 1, none⟩ = some (.bool true) := by simpa [packedF] using c1
  have d2 : w1.cell? ⟨b, o + 2, none⟩ = some (.string ⟨#[104, 105]⟩) := by simpa [packedF] using c2
  have hg := fun op x y W => run_eqGuard_agg (P := Tryz.prog) W op 46 x y #[sv packedF.p, .bool packedF.r, sv packedF.t] #[sv packedF.p, .bool packedF.r, sv packedF.t] Tryz.guardFile
  clear ht hl hb1 c0 c1 c2 HC
  go_wp2
  go_ret
  exact ⟨rfl, HB1.out⟩
end Go.Proofs.YtkcjgncpcidfoaaGreatDoor
