/-
  HeldDrops answers true for any holdings and any place, and leaves its arguments as they were: what is dropped is not there, and all else is, in its order; put again it comes last.
  Conditions: the listed variables (errors of package api, errors.errorType, tables of Go's library) hold what the program's own initialisers lay: the given tie closes it.
-/
import Derived.Test.YtcnejkbbheihiaaDoorRows
import Derived.Test.YtcnejkbbheihiaaDoorTie
import Derived.Test.YtcnejkbbheihiaaDoorCards
import Derived.Test.YtcnejkbbheihiaaDoorLawHeldDrops
import Derived.Test.YtcnejkbbheihiaaDoorPkHeldPkHeldPutPkHeldDo
import Derived.Test.YtcnejkbbheihiaaDoorShapedTooLaidErrsLaidTextsLaidHeld
import Derived.OpenShut
import Derived.SevenTiedAt
namespace Go.Proofs.YtcnejkbbheihiaaDoor
open Go.ChangeShapes Go.WideShapes Go.ChangeAt Go.RowKit
open Go.ChangeMaps (open_string shut_string)

theorem drops_met (os : Os) (args : Array Value) : laidMetH Tryd.prog Rows.heldDropsRow.laid ((World.doorLaid Tryd.prog 278 os).forCall (fun _ _ => 0) ⟨#[], args, []⟩).memory :=
  laidMetH_of_parts3 (fuel := 8) (laidMet_of_run' 8 (by kernel_rfl) (by kernel_rfl)) (by kernel_rfl) (by kernel_rfl)

set_option maxRecDepth 100000 in
theorem drops_lifted (os : Os) (started : os.Started) (H : Type) (enc : TypeId × Value → H) :
    ReturnsInHanded {} Tryd.checked os 4 .any (fun w args => (Rows.heldDropsSpec.pre enc Tryd.prog Tryd.f4 [] false w args ∧ laidMetH Tryd.prog Rows.heldDropsRow.laid w) ∧ sizedMet enc Tryd.prog Tryd.f4 (OpenSpec.ofChange Rows.heldDropsSpec) false w args)
      (Rows.heldDropsSpec.post enc Tryd.prog Tryd.f4 false true false false) := by
  refine returns_laid_shaped (C := Tryd.checked) (X := fun w _ => laidMetH Tryd.prog Rows.heldDropsRow.laid w) (fun _ _ _ hh h => h.of_heap hh) Tryd.own started (by kernel_rfl) Tryd.func4
    (ChangeSpec.witness_shaped (enc := enc) (C := Tryd.checked) (os := os) (X := fun w _ => laidMetH Tryd.prog Rows.heldDropsRow.laid w) false (World.doorLaid Tryd.prog 278 os) #[.slice none 0 0, .int .i64 0] 8 rfl (World.shaped_of_RefB (by kernel_rfl) (by kernel_rfl)) (by kernel_rfl) (by kernel_rfl) (by kernel_rfl) (drops_met os _)) ?_
  intro W base args ds gs before hval0 hW hL hsh
  have hval : ∀ (j : Nat) t v, Tryd.f4.params[j]? = some t → args[j]? = some v → Value.okWide Tryd.prog W .any base t v := hval0
  have hW' := hW
  have hlt := hW.lt
  obtain ⟨p, q, hA0, hV, rfl, hfz, hnd⟩ := hW
  have hA : DataW.TrodAll enc Tryd.prog W 0 (fun _ => true) true Tryd.f4.params.toList args.toList ds p := hA0
  rw [Tryd.params4] at hA hval
  obtain ⟨v0, v1, d0, d1, p0, p1, rfl, rfl, rfl, h0, h1⟩ := trodAll_two hA
  obtain ⟨l, a, ca, rfl, hl⟩ := open_holdings (hval 0 22 v0 rfl rfl) h0
  obtain ⟨m, rfl, rfl, rfl, hm⟩ := open_int Tryd.underlying3 (hval 1 3 v1 rfl rfl) h1
  obtain ⟨rfl, rfl⟩ := trodVars_none hV
  obtain ⟨pp, hE⟩ := held_env Rows.heldDropsRow.laid (by kernel_rfl) (by kernel_rfl) (by kernel_rfl) hL
  have e1 : Rows.heldDropsSpec.fn H ([d0, .lit (.int .i64 m)] ++ []) = { results := [.lit (.bool true)], args := [d0, .lit (.int .i64 m)] } := by simp [Rows.heldDropsSpec]
  have hgo : Calls Tryd.prog 4 #[.slice a l.length ca, .int .i64 m] W fun e w' => e = .returned (.bool true) ∧ Below W.heap.size W w' := by
    cases hlg : longH l with
    | true => exact heldDrops_quick (heldProg pp) l a ca m W hE hl (.inl hlg)
    | false =>
      by_cases h0 : m < 0
      · exact heldDrops_quick (heldProg pp) l a ca m W hE hl (.inr h0)
      · obtain ⟨k, rfl⟩ := Int.eq_ofNat_of_zero_le (show 0 ≤ m by omega)
        exact heldDrops_main (heldProg pp) l a ca k W hE hl hlg
  refine hgo.mono fun e W' ⟨he, hb⟩ => ?_
  subst he
  refine ⟨_, rfl, _, _, _, [], p0 ++ ([] ++ []), [], hW', ?_, ?_, ?_, hb.frame _, fun h => by cases h⟩
  · rw [e1]; exact trodAll_mk1 (shut_bool Tryd.underlying4 true)
  · rw [e1]; exact trodAll_mk2 (Below.trod Tryd.laidOutH (by kernel_rfl) (of_decide_eq_true (by kernel_rfl)) h0 hb (fun x hx => hlt x (by simp [hx]))) (shut_int Tryd.underlying3 hm)
  · rw [e1]; rfl

theorem drops_row_holds : Rows.HeldDropsSaid :=
  OpenClaim.holds_of_wide 4 Tryd.f4 rfl rfl rfl rfl rfl rfl rfl ⟨rfl, rfl, rfl, rfl, rfl⟩ rfl rfl rfl rfl rfl (by kernel_rfl) Tryd.func4 (by kernel_rfl)
    (of_decide_eq_true (by kernel_rfl)) (by unfold Func.isWrapper; rw [if_neg (of_decide_eq_false (by kernel_rfl))]; exact ⟨rfl, rfl⟩)
    (fun os started H enc _ => drops_lifted os started H enc)

theorem drops_holds : Rows.HeldDropsCardSaid :=
  Claim7.holds_tied_plain_at .later [] [.data, .data, .data, .handle, .sentinel, .sentinel, .sentinel, .sentinel, .sentinel, .sentinel, .sentinel, .sentinel, .sentinel, .sentinel, .sentinel, .sentinel, .sentinel] true (true, "e19970ebfa861be374f266372cadb3c6fd7740194d19c777ee6d184de5cf21a8") true
    drops_row_holds (fun _ h => by cases h) (by kernel_rfl) (fun _ h => by cases h) heldDrops_row_tie rfl ⟨rfl, rfl⟩ (by kernel_rfl) rfl
    (fun f fn hf hfn => by
      obtain rfl : f = 4 := Option.some.inj ((show Tryd.prog.funcNamed "chandlery/chandlerylaw2.HeldDrops" = some 4 by kernel_rfl).symm.trans hf) |>.symm
      obtain rfl : fn = Tryd.f4 := (Option.some.inj (Tryd.func4.symm.trans hfn)).symm
      exact ⟨by kernel_rfl, fun j t ht => by
        rw [Tryd.params4] at ht
        have hm : t ∈ [22, 3] := by simpa using Array.mem_of_getElem? ht
        have hall : ([22, 3].all fun u => !Tryd.prog.wantsStandIn u) = true := by kernel_rfl
        exact (show Tryd.prog.wantsStandIn t = false by simpa using List.all_eq_true.1 hall t hm)⟩)
    (by kernel_rfl)
#print axioms drops_holds
end Go.Proofs.YtcnejkbbheihiaaDoor
