/-
  Package pack: Sum: a contract, over this seat's translation.
-/
import Derived.Test.YtkcjgncpcidfoaaGreatDoorPkPackMake
import Derived.Test.YtkcjgncpcidfoaaGreatDoorPackFacts
import Derived.Test.YtkcjgncpcidfoaaGreatDoorSumTree
namespace Go.Proofs.YtkcjgncpcidfoaaGreatDoor
open Go.RowKit Go.Shelf

set_option maxRecDepth 100000 in
set_option maxHeartbeats 2000000 in
theorem packSum_any (p : Nat → Addr) (l : List F) (a : Option Addr) (ca : Nat) (w : World) (hE : Env p w) (hS : SEnv p w) (hl : LiesAt w a l) (hca : l.length ≤ ca) (hs : Small l) :
    Calls Tryz.prog 10 #[.slice a l.length ca] w fun e w' => (∃ v, e = .returned (.tuple #[.int .i64 (sumT l), v]) ∧ ErrAt p w' v (treeFault l).1 (treeFault l).2) ∧ Below w.heap.size w w' := by
  have HM := Lib.hid (packMake_any p l a ca w hE hS hl hca hs)
  clear hE hS hl hca hs
  go_enter Tryz.func10, Tryz.ntmps10
  go_wp2_with fail
  refine HM.out.mono ?_
  rintro e w1 ⟨⟨v, rfl, hv⟩, hb1⟩
  have HB1 := Lib.hid hb1
  by_cases hz : (treeFault l).1 = 0
  · have HF := Lib.hid (treeFault_zero hz)
    have HU := Lib.hid (sum_yes hz)
    have hps := pack_small hz
    rw [hz] at hv
    have := hv.isNil
    subst this
    rw [make_yes hz]
    clear hv hz hb1 HM
    go_wp2_with fail
    refine (pkOf_any (packL l) _ (by omega)).mono ?_
    rintro e w2 ⟨rfl, rfl⟩
    go_wp2
    go_ret2
    exact ⟨⟨_, by rw [HU.out]; rfl, by rw [HF.out]; exact ErrAt.fine p _⟩, HB1.out⟩
  · have HU := Lib.hid (sum_no hz)
    obtain ⟨T, u, rfl⟩ := hv.some hz
    have HV := Lib.hid hv
    clear hv hz hb1 HM
    go_wp2
    go_ret2
    exact ⟨⟨_, by rw [HU.out]; rfl, HV.out⟩, HB1.out⟩
end Go.Proofs.YtkcjgncpcidfoaaGreatDoor
