/-
  FetchRight answers true for every acts on a net, every rules and everything wanted, and leaves its arguments as they were: what is fetched has its sum, whatever the mirrors do; it is held then, and no net is asked any more.
  Conditions: the listed variables (errors of packages api and strconv, errors.errorType, tables of Go's library) hold what the program's own initialisers lay: the given tie closes it; of the library's variable internal/bytealg.MaxLen nothing is asked but that it holds a number.
-/
import Derived.Test.YtaegcoidpjcbaaaGreatDoorRows
import Derived.Test.YtaegcoidpjcbaaaGreatDoorTie
import Derived.Test.YtaegcoidpjcbaaaGreatDoorCards
import Derived.Test.YtaegcoidpjcbaaaGreatDoorPkSameLawFetchLawFetchRight
import Derived.Test.YtaegcoidpjcbaaaGreatDoorOpenedHeldMemCameRulesWantOpened
import Derived.Test.YtaegcoidpjcbaaaGreatDoorNetMemPkNetPkNetCutPkNetGet
import Derived.Test.YtaegcoidpjcbaaaGreatDoorHeldRowPkHeldMemPkHeldPkHeldPutPkHeldDo
import Derived.Test.YtaegcoidpjcbaaaGreatDoorShapedTooLaidErrsLaidTextsLaidFetch
import Derived.Test.YtaegcoidpjcbaaaGreatDoorFetchFacts
import Derived.OpenShut
import Derived.SevenTiedAt
namespace Go.Proofs.YtaegcoidpjcbaaaGreatDoor
open Go.ChangeShapes Go.WideShapes Go.ChangeAt Go.RowKit
open Go.ChangeMaps (open_string shut_string)

theorem fetchRight_any {p : Nat → Addr} {NA : NetIs} {HA : HeldIs} (P : NetProg p NA) (P2 : HeldCore p HA) (l : List Ac) (a : Option Addr) (ca : Nat) (rl : List Ru) (ra : Option Addr) (rc : Nat) (n u k : List UInt8) (g m : Int) (w : World) (hE : FEnv p w) (hl : CameA w a l) (hr : CameR w ra rc rl) :
    Calls Tryz.prog 3 #[.slice a l.length ca, .slice ra rl.length rc, wv ⟨n, u, k, g, m⟩] w fun e w' => e = .returned (.bool true) ∧ Below w.heap.size w w' := by
  rcases longAs_or l 40 with h | h
  · cases h2 : longAskB rl n u k with
    | false => exact fetchRight_main P P2 l a ca rl ra rc n u k g m w hE hl hr h h2
    | true => exact fetchRight_long P P2 l a ca rl ra rc n u k g m w hE hl hr (.inr ⟨h, h2⟩)
  · exact fetchRight_long P P2 l a ca rl ra rc n u k g m w hE hl hr (.inl h)

set_option maxRecDepth 100000 in
theorem fetch_lifted (os : Os) (started : os.Started) (H : Type) (enc : TypeId × Value → H) :
    ReturnsInHanded {} Tryz.checked os 3 .any (fun w args => (Rows.fetchRightSpec.pre enc Tryz.prog Tryz.f3 [] false w args ∧ laidMetH Tryz.prog Rows.fetchRightRow.laid w) ∧ sizedMet enc Tryz.prog Tryz.f3 (OpenSpec.ofChange Rows.fetchRightSpec) false w args)
      (Rows.fetchRightSpec.post enc Tryz.prog Tryz.f3 false true false false) := by
  refine returns_laid_shaped (C := Tryz.checked) (X := fun w _ => laidMetH Tryz.prog Rows.fetchRightRow.laid w) (fun _ _ _ hh h => h.of_heap hh) Tryz.own started (by kernel_rfl) Tryz.func3
    (ChangeSpec.witness_shaped (enc := enc) (C := Tryz.checked) (os := os) (X := fun w _ => laidMetH Tryz.prog Rows.fetchRightRow.laid w) false ((World.doorLaid Tryz.prog 326 os).layVars Tryz.prog (plainFetch.filter fun x => greatFetch.contains x.1)) #[.slice none 0 0, .slice none 0 0, .agg #[.string ⟨#[]⟩, .string ⟨#[]⟩, .string ⟨#[]⟩, .int .i64 0, .int .i64 0]] 8 (fetchWorld_os os) (World.shaped_of_ZipB (by kernel_rfl) (by kernel_rfl)) (by kernel_rfl) (by kernel_rfl) (by kernel_rfl) (fetch_met os _)) ?_
  intro W base args ds gs before hval0 hW hL hsh
  have hval : ∀ (j : Nat) t v, Tryz.f3.params[j]? = some t → args[j]? = some v → Value.okWide Tryz.prog W .any base t v := hval0
  have hW' := hW
  have hlt := hW.lt
  obtain ⟨p, q, hA0, hV, rfl, hfz, hnd⟩ := hW
  have hA : DataW.TrodAll enc Tryz.prog W 0 (fun _ => true) true Tryz.f3.params.toList args.toList ds p := hA0
  rw [Tryz.params3] at hA hval
  obtain ⟨v0, v1, v2, d0, d1, d2, p0, p1, p2, rfl, rfl, rfl, h0, h1, h2⟩ := trodAll_three hA
  obtain ⟨rfl, rfl⟩ := trodVars_none hV
  obtain ⟨l, a, ca, rfl, hl⟩ := open_acts (hval 0 22 v0 rfl rfl) h0
  obtain ⟨rl, ra, rc, rfl, hr⟩ := open_rules (hval 1 23 v1 rfl rfl) h1
  obtain ⟨n, u, k, s0, m0, rfl⟩ := open_want (hval 2 25 v2 rfl rfl) h2
  obtain ⟨pp, hE⟩ := fetch_envs hL hsh
  have e1 : Rows.fetchRightSpec.fn H ([d0, d1, d2] ++ []) = { results := [.lit (.bool true)], args := [d0, d1, d2] } := by simp [Rows.fetchRightSpec]
  refine (fetchRight_any (netProg pp) (heldCore pp) l a ca rl ra rc n u k s0 m0 W hE hl hr).mono fun e W' ⟨he, hb⟩ => ?_
  subst he
  refine ⟨_, rfl, _, _, _, [], p0 ++ (p1 ++ p2), [], hW', ?_, ?_, ?_, hb.frame _, fun h => by cases h⟩
  · rw [e1]; exact trodAll_mk1 (shut_bool Tryz.underlying4 true)
  · rw [e1]; exact trodAll_mk3 (Below.trod Tryz.laidOutA (by kernel_rfl) (of_decide_eq_true (by kernel_rfl)) h0 hb (fun x hx => hlt x (by simp [hx]))) (Below.trod Tryz.laidOutA (by kernel_rfl) (of_decide_eq_true (by kernel_rfl)) h1 hb (fun x hx => hlt x (by simp [hx]))) (Below.trod Tryz.laidOutA (by kernel_rfl) (of_decide_eq_true (by kernel_rfl)) h2 hb (fun x hx => hlt x (by simp [hx])))
  · rw [e1]; rfl

theorem fetch_row_holds : Rows.FetchRightSaid :=
  OpenClaim.holds_of_wide 3 Tryz.f3 rfl rfl rfl rfl rfl rfl rfl ⟨rfl, rfl, rfl, rfl, rfl⟩ rfl rfl rfl rfl rfl (by as_aux_lemma => kernel_rfl) Tryz.func3 fetchRight_facts
    (of_decide_eq_true (by as_aux_lemma => kernel_rfl)) (by unfold Func.isWrapper; rw [if_neg (of_decide_eq_false (by as_aux_lemma => kernel_rfl))]; exact ⟨rfl, rfl⟩)
    (fun os started H enc _ => fetch_lifted os started H enc)

theorem fetch_holds : Rows.FetchRightCardSaid :=
  Claim7.holds_tied_plain_at .later [] [.data, .data, .data, .data, .handle, .sentinel, .sentinel, .sentinel, .sentinel, .sentinel, .sentinel, .sentinel, .sentinel, .sentinel, .sentinel, .sentinel, .sentinel, .sentinel, .sentinel, .sentinel, .pinned] true (true, "2ca8ed79d3b6051f5c44a291f3d8f7aea1a7cc7e2d9141bbff2e9d309777549d") true
    fetch_row_holds (fun _ h => by cases h) (by kernel_rfl) (fun _ h => by cases h) fetchRight_row_tie rfl ⟨rfl, rfl⟩ (by kernel_rfl) rfl
    (fun f fn hf hfn => by
      obtain rfl : f = 3 := Option.some.inj ((show Tryz.prog.funcNamed "chandlery/chandlerylaw3.FetchRight" = some 3 by kernel_rfl).symm.trans hf) |>.symm
      obtain rfl : fn = Tryz.f3 := (Option.some.inj (Tryz.func3.symm.trans hfn)).symm
      exact ⟨by kernel_rfl, fun j t ht => by
        rw [Tryz.params3] at ht
        have hm : t ∈ [22, 23, 25] := by simpa using Array.mem_of_getElem? ht
        have hall : ([22, 23, 25].all fun u => !Tryz.prog.wantsStandIn u) = true := by kernel_rfl
        exact (show Tryz.prog.wantsStandIn t = false by simpa using List.all_eq_true.1 hall t hm)⟩)
    (by kernel_rfl)
#print axioms fetch_holds
end Go.Proofs.YtaegcoidpjcbaaaGreatDoor
