/-
  HeldActs answers true for however many, any holdings, and any sum, and leaves its arguments as they were: what is held answers each act as the document's answer does; its copy is the same.
  Conditions: the listed variables (errors of package api, errors.errorType, tables of Go's library) hold what the program's own initialisers lay: the given tie closes it.
-/
import Derived.Test.YtcnejkbbheihiaaGreatDoorRows
import Derived.Test.YtcnejkbbheihiaaGreatDoorTie
import Derived.Test.YtcnejkbbheihiaaGreatDoorCards
import Derived.Test.YtcnejkbbheihiaaGreatDoorHeldLastLawHeldActs
import Derived.Test.YtcnejkbbheihiaaGreatDoorPkHeldMemPkHeldPkHeldPutPkHeldDoHeldTwoPkHeldTwo
import Derived.Test.YtcnejkbbheihiaaGreatDoorShapedTooLaidErrsLaidTextsLaidHeld
import Derived.OpenShut
import Derived.SevenTiedAt
namespace Go.Proofs.YtcnejkbbheihiaaGreatDoor
open Go.ChangeShapes Go.WideShapes Go.ChangeAt Go.RowKit
open Go.ChangeMaps (open_string shut_string)

theorem acts_met (os : Os) (args : Array Value) : laidMetH Tryz.prog Rows.heldActsRow.laid ((World.doorLaid Tryz.prog 278 os).forCall (fun _ _ => 0) ⟨#[], args, []⟩).memory :=
  laidMetH_of_parts3 (fuel := 8) (laidMet_of_run' 8 (by kernel_rfl) (by kernel_rfl)) (by kernel_rfl) (by kernel_rfl)

set_option maxRecDepth 100000 in
theorem acts_lifted (os : Os) (started : os.Started) (H : Type) (enc : TypeId × Value → H) :
    ReturnsInHanded {} Tryz.checked os 3 .any (fun w args => (Rows.heldActsSpec.pre enc Tryz.prog Tryz.f3 [] false w args ∧ laidMetH Tryz.prog Rows.heldActsRow.laid w) ∧ sizedMet enc Tryz.prog Tryz.f3 (OpenSpec.ofChange Rows.heldActsSpec) false w args)
      (Rows.heldActsSpec.post enc Tryz.prog Tryz.f3 false true false false) := by
  refine returns_laid_shaped (C := Tryz.checked) (X := fun w _ => laidMetH Tryz.prog Rows.heldActsRow.laid w) (fun _ _ _ hh h => h.of_heap hh) Tryz.own started (by kernel_rfl) Tryz.func3
    (ChangeSpec.witness_shaped (enc := enc) (C := Tryz.checked) (os := os) (X := fun w _ => laidMetH Tryz.prog Rows.heldActsRow.laid w) false (World.doorLaid Tryz.prog 278 os) #[.int .i64 0, .slice none 0 0, .int .i64 0] 8 rfl (World.shaped_of_RefB (by kernel_rfl) (by kernel_rfl)) (by kernel_rfl) (by kernel_rfl) (by kernel_rfl) (acts_met os _)) ?_
  intro W base args ds gs before hval0 hW hL hsh
  have hval : ∀ (j : Nat) t v, Tryz.f3.params[j]? = some t → args[j]? = some v → Value.okWide Tryz.prog W .any base t v := hval0
  have hW' := hW
  have hlt := hW.lt
  obtain ⟨p, q, hA0, hV, rfl, hfz, hnd⟩ := hW
  have hA : DataW.TrodAll enc Tryz.prog W 0 (fun _ => true) true Tryz.f3.params.toList args.toList ds p := hA0
  rw [Tryz.params3] at hA hval
  obtain ⟨v0, v1, v2, d0, d1, d2, p0, p1, p2, rfl, rfl, rfl, h0, h1, h2⟩ := trodAll_three hA
  obtain ⟨m, rfl, rfl, rfl, hm⟩ := open_int Tryz.underlying3 (hval 0 3 v0 rfl rfl) h0
  obtain ⟨l, a, ca, rfl, hl⟩ := open_holdings (hval 1 22 v1 rfl rfl) h1
  obtain ⟨n, rfl, rfl, rfl, hn⟩ := open_int Tryz.underlying3 (hval 2 3 v2 rfl rfl) h2
  obtain ⟨rfl, rfl⟩ := trodVars_none hV
  obtain ⟨pp, hE⟩ := held_env Rows.heldActsRow.laid (by kernel_rfl) (by kernel_rfl) (by kernel_rfl) hL
  have e1 : Rows.heldActsSpec.fn H ([.lit (.int .i64 m), d1, .lit (.int .i64 n)] ++ []) = { results := [.lit (.bool true)], args := [.lit (.int .i64 m), d1, .lit (.int .i64 n)] } := by simp [Rows.heldActsSpec]
  have hgo : Calls Tryz.prog 3 #[.int .i64 m, .slice a l.length ca, .int .i64 n] W fun e w' => e = .returned (.bool true) ∧ Below W.heap.size W w' := by
    cases hlg : longH l with
    | true => exact heldActs_long (heldProg pp) m n l a ca W hE hl hlg
    | false => exact heldActs_main (heldProg pp) (heldTwo pp) m n hn l a ca W hE hl hlg
  refine hgo.mono fun e W' ⟨he, hb⟩ => ?_
  subst he
  refine ⟨_, rfl, _, _, _, [], [] ++ (p1 ++ []), [], hW', ?_, ?_, ?_, hb.frame _, fun h => by cases h⟩
  · rw [e1]; exact trodAll_mk1 (shut_bool Tryz.underlying4 true)
  · rw [e1]; exact trodAll_mk3 (shut_int Tryz.underlying3 hm) (Below.trod Tryz.laidOutH (by kernel_rfl) (of_decide_eq_true (by kernel_rfl)) h1 hb (fun x hx => hlt x (by simp [hx]))) (shut_int Tryz.underlying3 hn)
  · rw [e1]; rfl

theorem acts_row_holds : Rows.HeldActsSaid :=
  OpenClaim.holds_of_wide 3 Tryz.f3 rfl rfl rfl rfl rfl rfl rfl ⟨rfl, rfl, rfl, rfl, rfl⟩ rfl rfl rfl rfl rfl (by kernel_rfl) Tryz.func3 (by kernel_rfl)
    (of_decide_eq_true (by kernel_rfl)) (by unfold Func.isWrapper; rw [if_neg (of_decide_eq_false (by kernel_rfl))]; exact ⟨rfl, rfl⟩)
    (fun os started H enc _ => acts_lifted os started H enc)

theorem acts_holds : Rows.HeldActsCardSaid :=
  Claim7.holds_tied_plain_at .later [] [.data, .data, .data, .handle, .sentinel, .sentinel, .sentinel, .sentinel, .sentinel, .sentinel, .sentinel, .sentinel, .sentinel, .sentinel, .sentinel, .sentinel, .sentinel] true (true, "57105e7e6a6ac00987d6991835678e524342aa9e9581c1a7f42056c46b808373") true
    acts_row_holds (fun _ h => by cases h) (by kernel_rfl) (fun _ h => by cases h) heldActs_row_tie rfl ⟨rfl, rfl⟩ (by kernel_rfl) rfl
    (fun f fn hf hfn => by
      obtain rfl : f = 3 := Option.some.inj ((show Tryz.prog.funcNamed "chandlery/chandlerylaw2.HeldActs" = some 3 by kernel_rfl).symm.trans hf) |>.symm
      obtain rfl : fn = Tryz.f3 := (Option.some.inj (Tryz.func3.symm.trans hfn)).symm
      exact ⟨by kernel_rfl, fun j t ht => by
        rw [Tryz.params3] at ht
        have hm : t ∈ [3, 22, 3] := by simpa using Array.mem_of_getElem? ht
        have hall : ([3, 22, 3].all fun u => !Tryz.prog.wantsStandIn u) = true := by kernel_rfl
        exact (show Tryz.prog.wantsStandIn t = false by simpa using List.all_eq_true.1 hall t hm)⟩)
    (by kernel_rfl)
#print axioms acts_holds
end Go.Proofs.YtcnejkbbheihiaaGreatDoor
