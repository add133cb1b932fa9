/-
  FetchTells answers true for every acts on a net, however many may be held, every rules and everything wanted, and leaves its arguments as they were: what is tried and what is fetched, twice, is told as the document's answer tells it, with its lines and errors; the sums that are held and the calls of the net are the document's, too: the card, closed by the given tie.
-/
import Derived.Test.YtmcfkoenpikldaaGreatDoorFetchTellsProof
namespace Go.Proofs.YtmcfkoenpikldaaGreatDoor
open Go.ChangeShapes Go.WideShapes Go.ChangeAt Go.RowKit
open Go.ChangeMaps (open_string shut_string)

theorem tells_holds : Rows.FetchTellsCardSaid :=
  Claim7.holds_tied_plain_at .later [] [.data, .data, .data, .data, .handle, .sentinel, .sentinel, .sentinel, .sentinel, .sentinel, .sentinel, .sentinel, .sentinel, .sentinel, .sentinel, .sentinel, .sentinel, .sentinel, .sentinel, .sentinel, .pinned] true (true, "a84df5d57a9371b145204c2019a235a65fcd4152a0120e35728778e690f83f20") true
    tells_row_holds (fun _ h => by cases h) (by as_aux_lemma => kernel_rfl) (fun _ h => by cases h) fetchTells_row_tie rfl ⟨rfl, rfl⟩ (by as_aux_lemma => kernel_rfl) rfl
    (fun f fn hf hfn => by
      obtain rfl : f = 3 := Option.some.inj ((show Tryz.prog.funcNamed "chandlery/chandlerylaw3.FetchTells" = some 3 by as_aux_lemma => kernel_rfl).symm.trans hf) |>.symm
      obtain rfl : fn = Tryz.f3 := (Option.some.inj (Tryz.func3.symm.trans hfn)).symm
      exact ⟨by as_aux_lemma => kernel_rfl, fun j t ht => by
        rw [Tryz.params3] at ht
        have hm : t ∈ [22, 3, 23, 25] := by simpa using Array.mem_of_getElem? ht
        have hall : ([22, 3, 23, 25].all fun u => !Tryz.prog.wantsStandIn u) = true := by as_aux_lemma => kernel_rfl
        exact (show Tryz.prog.wantsStandIn t = false by simpa using List.all_eq_true.1 hall t hm)⟩)
    (by as_aux_lemma => kernel_rfl)
#print axioms tells_holds
end Go.Proofs.YtmcfkoenpikldaaGreatDoor
