/-
  LockLoads answers true for every trees and every names, and leaves its arguments as they were: what is bundled, and loaded elsewhere, is held there; and bundled there it is the same.
  Conditions: the listed variables (errors of packages api and strconv, errors.errorType, tables of Go's library) hold what the program's own initialisers lay: the given tie closes it; of the library's variable internal/bytealg.MaxLen nothing is asked but that it holds a number.
-/
import Derived.Test.YtmcfkoenpikldaaGreatDoorRows
import Derived.Test.YtmcfkoenpikldaaGreatDoorTie
import Derived.Test.YtmcfkoenpikldaaGreatDoorCards
import Derived.Test.YtmcfkoenpikldaaGreatDoorLawLockLoads
import Derived.Test.YtmcfkoenpikldaaGreatDoorPkLockBundleLockMemLockOpened
import Derived.Test.YtmcfkoenpikldaaGreatDoorShapedTooLaidErrsLaidTextsLaidLock
import Derived.Test.YtmcfkoenpikldaaGreatDoorLockLoadsFacts
import Derived.OpenShut
import Derived.SevenTiedAt
namespace Go.Proofs.YtmcfkoenpikldaaGreatDoor
open Go.ChangeShapes Go.WideShapes Go.ChangeAt Go.RowKit
open Go.ChangeMaps (open_string shut_string)

theorem lockLoads_any (p : Nat → Addr) (rs : List Tl) (a : Option Addr) (ca : Nat) (ns : List (List UInt8)) (na : Option Addr) (nc : Nat) (w : World) (hE : WEnv p w) (hl : CameT w a rs) (hn : CameN w na ns) :
    Calls Tryz.prog 6 #[.slice a rs.length ca, .slice na ns.length nc] w fun e w' => e = .returned (.bool true) ∧ Below w.heap.size w w' := by
  cases h : longT rs with
  | true => exact lockLoads_long p rs a ca ns na nc w hE hl hn (.inl h)
  | false =>
    by_cases h2 : 8 < ns.length
    · exact lockLoads_long p rs a ca ns na nc w hE hl hn (.inr ⟨h, h2⟩)
    · exact lockLoads_main p rs a ca ns na nc w hE hl hn h (by omega)

set_option maxRecDepth 100000 in
theorem loads_lifted (os : Os) (started : os.Started) (H : Type) (enc : TypeId × Value → H) :
    ReturnsInHanded {} Tryz.checked os 6 .any (fun w args => (Rows.lockLoadsSpec.pre enc Tryz.prog Tryz.f6 [] false w args ∧ laidMetH Tryz.prog Rows.lockLoadsRow.laid w) ∧ sizedMet enc Tryz.prog Tryz.f6 (OpenSpec.ofChange Rows.lockLoadsSpec) false w args)
      (Rows.lockLoadsSpec.post enc Tryz.prog Tryz.f6 false true false false) := by
  refine returns_laid_shaped (C := Tryz.checked) (X := fun w _ => laidMetH Tryz.prog Rows.lockLoadsRow.laid w) (fun _ _ _ hh h => h.of_heap hh) Tryz.own started (by kernel_rfl) Tryz.func6
    (ChangeSpec.witness_shaped (enc := enc) (C := Tryz.checked) (os := os) (X := fun w _ => laidMetH Tryz.prog Rows.lockLoadsRow.laid w) false ((World.doorLaid Tryz.prog 326 os).layVars Tryz.prog (plainLock.filter fun x => greatLock.contains x.1)) #[.slice none 0 0, .slice none 0 0] 8 (lockWorld_os os) (World.shaped_of_ZipB (by kernel_rfl) (by kernel_rfl)) (by kernel_rfl) (by kernel_rfl) (by kernel_rfl) (lock_met os _)) ?_
  intro W base args ds gs before hval0 hW hL hsh
  have hval : ∀ (j : Nat) t v, Tryz.f6.params[j]? = some t → args[j]? = some v → Value.okWide Tryz.prog W .any base t v := hval0
  have hW' := hW
  have hlt := hW.lt
  obtain ⟨p, q, hA0, hV, rfl, hfz, hnd⟩ := hW
  have hA : DataW.TrodAll enc Tryz.prog W 0 (fun _ => true) true Tryz.f6.params.toList args.toList ds p := hA0
  rw [Tryz.params6] at hA hval
  obtain ⟨v0, v1, d0, d1, p0, p1, rfl, rfl, rfl, h0, h1⟩ := trodAll_two hA
  obtain ⟨rfl, rfl⟩ := trodVars_none hV
  obtain ⟨rs, a, ca, rfl, hl⟩ := open_trees (hval 0 88 v0 rfl rfl) h0
  obtain ⟨ns, na, nc, rfl, hn⟩ := open_names (hval 1 35 v1 rfl rfl) h1
  obtain ⟨pp, hE⟩ := lock_envs hL hsh
  have e1 : Rows.lockLoadsSpec.fn H ([d0, d1] ++ []) = { results := [.lit (.bool true)], args := [d0, d1] } := by simp [Rows.lockLoadsSpec]
  refine (lockLoads_any pp rs a ca ns na nc W hE hl hn).mono fun e W' ⟨he, hb⟩ => ?_
  subst he
  refine ⟨_, rfl, _, _, _, [], p0 ++ p1, [], hW', ?_, ?_, ?_, hb.frame _, fun h => by cases h⟩
  · rw [e1]; exact trodAll_mk1 (shut_bool Tryz.underlying4 true)
  · rw [e1]; exact trodAll_mk2 (Below.trod Tryz.laidOutR (by kernel_rfl) (of_decide_eq_true (by kernel_rfl)) h0 hb (fun x hx => hlt x (by simp [hx]))) (Below.trod Tryz.laidOutR (by kernel_rfl) (of_decide_eq_true (by kernel_rfl)) h1 hb (fun x hx => hlt x (by simp [hx])))
  · rw [e1]; rfl

theorem loads_row_holds : Rows.LockLoadsSaid :=
  OpenClaim.holds_of_wide 6 Tryz.f6 rfl rfl rfl rfl rfl rfl rfl ⟨rfl, rfl, rfl, rfl, rfl⟩ rfl rfl rfl rfl rfl (by as_aux_lemma => kernel_rfl) Tryz.func6 lockLoads_facts
    (of_decide_eq_true (by as_aux_lemma => kernel_rfl)) (by unfold Func.isWrapper; rw [if_neg (of_decide_eq_false (by as_aux_lemma => kernel_rfl))]; exact ⟨rfl, rfl⟩)
    (fun os started H enc _ => loads_lifted os started H enc)

end Go.Proofs.YtmcfkoenpikldaaGreatDoor
