/-
  FetchTells answers true for every acts on a net, however many may be held, every rules and everything wanted, and leaves its arguments as they were: what is tried and what is fetched, twice, is told as the document's answer tells it, with its lines and errors; the sums that are held and the calls of the net are the document's, too.
  Conditions: the listed variables (errors of packages api and strconv, errors.errorType, tables of Go's library) hold what the program's own initialisers lay: the given tie closes it; of the library's variable internal/bytealg.MaxLen nothing is asked but that it holds a number.
-/
import Derived.Test.YtmcfkoenpikldaaGreatDoorRows
import Derived.Test.YtmcfkoenpikldaaGreatDoorTie
import Derived.Test.YtmcfkoenpikldaaGreatDoorCards
import Derived.Test.YtmcfkoenpikldaaGreatDoorLawFetchTells
import Derived.Test.YtmcfkoenpikldaaGreatDoorOpenedHeldMemCameRulesWantOpened
import Derived.Test.YtmcfkoenpikldaaGreatDoorNetMemPkNetPkNetCutPkNetGet
import Derived.Test.YtmcfkoenpikldaaGreatDoorPkHeldMemPkHeldPkHeldPutPkHeldDo
import Derived.Test.YtmcfkoenpikldaaGreatDoorShapedTooLaidErrsLaidTextsLaidFetch
import Derived.Test.YtmcfkoenpikldaaGreatDoorFetchTellsFacts
import Derived.OpenShut
import Derived.SevenTiedAt
namespace Go.Proofs.YtmcfkoenpikldaaGreatDoor
open Go.ChangeShapes Go.WideShapes Go.ChangeAt Go.RowKit
open Go.ChangeMaps (open_string shut_string)

theorem fetchTells_any {p : Nat → Addr} {NA : NetIs} {HA : HeldIs} (P : NetProg p NA) (P2 : HeldCore p HA) (l : List Ac) (a : Option Addr) (ca : Nat) (most : Int) (rl : List Ru) (ra : Option Addr) (rc : Nat) (n u k : List UInt8) (g m : Int) (w : World) (hE : FEnv p w) (hl : CameA w a l) (hr : CameR w ra rc rl) :
    Calls Tryz.prog 3 #[.slice a l.length ca, .int .i64 most, .slice ra rl.length rc, wv ⟨n, u, k, g, m⟩] w fun e w' => e = .returned (.bool true) ∧ Below w.heap.size w w' := by
  rcases longAs_or l 40 with h | h
  · cases h2 : longAskB rl n u k with
    | false => exact fetchTells_main P P2 l a ca most rl ra rc n u k g m w hE hl hr h h2
    | true => exact fetchTells_long P P2 l a ca most rl ra rc n u k g m w hE hl hr (.inr ⟨h, h2⟩)
  · exact fetchTells_long P P2 l a ca most rl ra rc n u k g m w hE hl hr (.inl h)

set_option maxRecDepth 100000 in
theorem tells_lifted (os : Os) (started : os.Started) (H : Type) (enc : TypeId × Value → H) :
    ReturnsInHanded {} Tryz.checked os 3 .any (fun w args => (Rows.fetchTellsSpec.pre enc Tryz.prog Tryz.f3 [] false w args ∧ laidMetH Tryz.prog Rows.fetchTellsRow.laid w) ∧ sizedMet enc Tryz.prog Tryz.f3 (OpenSpec.ofChange Rows.fetchTellsSpec) false w args)
      (Rows.fetchTellsSpec.post enc Tryz.prog Tryz.f3 false true false false) := by
  refine returns_laid_shaped (C := Tryz.checked) (X := fun w _ => laidMetH Tryz.prog Rows.fetchTellsRow.laid w) (fun _ _ _ hh h => h.of_heap hh) Tryz.own started (by kernel_rfl) Tryz.func3
    (ChangeSpec.witness_shaped (enc := enc) (C := Tryz.checked) (os := os) (X := fun w _ => laidMetH Tryz.prog Rows.fetchTellsRow.laid w) false ((World.doorLaid Tryz.prog 326 os).layVars Tryz.prog (plainFetch.filter fun x => greatFetch.contains x.1)) #[.slice none 0 0, .int .i64 0, .slice none 0 0, .agg #[.string ⟨#[]⟩, .string ⟨#[]⟩, .string ⟨#[]⟩, .int .i64 0, .int .i64 0]] 8 (fetchWorld_os os) (World.shaped_of_ZipB (by kernel_rfl) (by kernel_rfl)) (by kernel_rfl) (by kernel_rfl) (by kernel_rfl) (fetch_met os _)) ?_
  intro W base args ds gs before hval0 hW hL hsh
  have hval : ∀ (j : Nat) t v, Tryz.f3.params[j]? = some t → args[j]? = some v → Value.okWide Tryz.prog W .any base t v := hval0
  have hW' := hW
  have hlt := hW.lt
  obtain ⟨p, q, hA0, hV, rfl, hfz, hnd⟩ := hW
  have hA : DataW.TrodAll enc Tryz.prog W 0 (fun _ => true) true Tryz.f3.params.toList args.toList ds p := hA0
  rw [Tryz.params3] at hA hval
  obtain ⟨v0, vm, v1, v2, d0, dm, d1, d2, p0, pm, p1, p2, rfl, rfl, rfl, h0, hm, h1, h2⟩ := trodAll_four hA
  obtain ⟨rfl, rfl⟩ := trodVars_none hV
  obtain ⟨l, a, ca, rfl, hl⟩ := open_acts (hval 0 22 v0 rfl rfl) h0
  obtain ⟨most, rfl, rfl, rfl, hmo⟩ := open_int Tryz.underlying3 (hval 1 3 vm rfl rfl) hm
  obtain ⟨rl, ra, rc, rfl, hr⟩ := open_rules (hval 2 23 v1 rfl rfl) h1
  obtain ⟨n, u, k, s0, m0, rfl⟩ := open_want (hval 3 25 v2 rfl rfl) h2
  obtain ⟨pp, hE⟩ := fetch_envs hL hsh
  have e1 : Rows.fetchTellsSpec.fn H ([d0, .lit (.int .i64 most), d1, d2] ++ []) = { results := [.lit (.bool true)], args := [d0, .lit (.int .i64 most), d1, d2] } := by simp [Rows.fetchTellsSpec]
  refine (fetchTells_any (netProg pp) (heldCore pp) l a ca most rl ra rc n u k s0 m0 W hE hl hr).mono fun e W' ⟨he, hb⟩ => ?_
  subst he
  refine ⟨_, rfl, _, _, _, [], p0 ++ ([] ++ (p1 ++ p2)), [], hW', ?_, ?_, ?_, hb.frame _, fun h => by cases h⟩
  · rw [e1]; exact trodAll_mk1 (shut_bool Tryz.underlying4 true)
  · rw [e1]; exact trodAll_mk4 (Below.trod Tryz.laidOutA (by kernel_rfl) (of_decide_eq_true (by kernel_rfl)) h0 hb (fun x hx => hlt x (by simp [hx]))) (shut_int Tryz.underlying3 hmo) (Below.trod Tryz.laidOutA (by kernel_rfl) (of_decide_eq_true (by kernel_rfl)) h1 hb (fun x hx => hlt x (by simp [hx]))) (Below.trod Tryz.laidOutA (by kernel_rfl) (of_decide_eq_true (by kernel_rfl)) h2 hb (fun x hx => hlt x (by simp [hx])))
  · rw [e1]; rfl

theorem tells_row_holds : Rows.FetchTellsSaid :=
  OpenClaim.holds_of_wide 3 Tryz.f3 rfl rfl rfl rfl rfl rfl rfl ⟨rfl, rfl, rfl, rfl, rfl⟩ rfl rfl rfl rfl rfl (by as_aux_lemma => kernel_rfl) Tryz.func3 fetchTells_facts
    (of_decide_eq_true (by as_aux_lemma => kernel_rfl)) (by unfold Func.isWrapper; rw [if_neg (of_decide_eq_false (by as_aux_lemma => kernel_rfl))]; exact ⟨rfl, rfl⟩)
    (fun os started H enc _ => tells_lifted os started H enc)

end Go.Proofs.YtmcfkoenpikldaaGreatDoor
