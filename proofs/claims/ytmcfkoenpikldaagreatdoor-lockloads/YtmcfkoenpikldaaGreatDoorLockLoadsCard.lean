/-
  LockLoads answers true for every trees and every names, and leaves its arguments as they were: what is bundled, and loaded elsewhere, is held there; and bundled there it is the same: the card, closed by the given tie.
-/
import Derived.Test.YtmcfkoenpikldaaGreatDoorLockLoadsProof
namespace Go.Proofs.YtmcfkoenpikldaaGreatDoor
open Go.ChangeShapes Go.WideShapes Go.ChangeAt Go.RowKit
open Go.ChangeMaps (open_string shut_string)

theorem loads_holds : Rows.LockLoadsCardSaid :=
  Claim7.holds_tied_plain_at .later [] [.data, .data, .data, .data, .handle, .sentinel, .sentinel, .sentinel, .sentinel, .sentinel, .sentinel, .sentinel, .sentinel, .sentinel, .sentinel, .sentinel, .sentinel, .sentinel, .sentinel, .pinned] true (true, "a84df5d57a9371b145204c2019a235a65fcd4152a0120e35728778e690f83f20") true
    loads_row_holds (fun _ h => by cases h) (by as_aux_lemma => kernel_rfl) (fun _ h => by cases h) lockLoads_row_tie rfl ⟨rfl, rfl⟩ (by as_aux_lemma => kernel_rfl) rfl
    (fun f fn hf hfn => by
      obtain rfl : f = 6 := Option.some.inj ((show Tryz.prog.funcNamed "chandlery/chandlerylaw3.LockLoads" = some 6 by as_aux_lemma => kernel_rfl).symm.trans hf) |>.symm
      obtain rfl : fn = Tryz.f6 := (Option.some.inj (Tryz.func6.symm.trans hfn)).symm
      exact ⟨by as_aux_lemma => kernel_rfl, fun j t ht => by
        rw [Tryz.params6] at ht
        have hm : t ∈ [88, 35] := by simpa using Array.mem_of_getElem? ht
        have hall : ([88, 35].all fun u => !Tryz.prog.wantsStandIn u) = true := by as_aux_lemma => kernel_rfl
        exact (show Tryz.prog.wantsStandIn t = false by simpa using List.all_eq_true.1 hall t hm)⟩)
    (by as_aux_lemma => kernel_rfl)
#print axioms loads_holds
end Go.Proofs.YtmcfkoenpikldaaGreatDoor
