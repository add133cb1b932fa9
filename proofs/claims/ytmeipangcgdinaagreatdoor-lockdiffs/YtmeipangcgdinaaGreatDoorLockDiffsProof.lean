/-
  LockDiffs answers true for every two rows of wants, and leaves them as they were: a lock is read as it was written; it does not differ from itself; turned around a difference is turned around, and done line by line it makes the other one.
  Conditions: the listed variables (errors of packages api and strconv, tables of Go's library) hold what the program's own initialisers lay: the given tie closes it; of the library's variable internal/bytealg.MaxLen nothing is asked but that it holds a number.
-/
import Derived.Test.YtmeipangcgdinaaGreatDoorRows
import Derived.Test.YtmeipangcgdinaaGreatDoorTie
import Derived.Test.YtmeipangcgdinaaGreatDoorCards
import Derived.Test.YtmeipangcgdinaaGreatDoorLawLockDiffs
import Derived.Test.YtmeipangcgdinaaGreatDoorCameWantsLawWants
import Derived.Test.YtmeipangcgdinaaGreatDoorLaidErrsLaidTextsLaidDiffsShapedToo
import Derived.Test.YtmeipangcgdinaaGreatDoorLockDiffsFacts
import Derived.OpenShut
import Derived.SevenTiedAt
namespace Go.Proofs.YtmeipangcgdinaaGreatDoor
open Go.ChangeShapes Go.WideShapes Go.ChangeAt Go.RowKit
open Go.ChangeMaps (open_string shut_string)

theorem lockDiffs_any (p : Nat → Addr) (l m : List Wt) (a b : Option Addr) (ca cb : Nat) (w : World) (hE : WEnv p w) (hl : CameW w a ca l) (hm : CameW w b cb m) :
    Calls Tryz.prog 3 #[.slice a l.length ca, .slice b m.length cb] w fun e w' => e = .returned (.bool true) ∧ Below w.heap.size w w' := by
  cases hx : longWs l with
  | true => exact lockDiffs_long p l m a b ca cb w hE hl hm (.inl hx)
  | false =>
    cases hy : longWs m with
    | true => exact lockDiffs_long p l m a b ca cb w hE hl hm (.inr ⟨hx, hy⟩)
    | false =>
      by_cases h1 : (lockFault l).1 = 0
      · by_cases h2 : (lockFault m).1 = 0
        · exact lockDiffs_main p l m a b ca cb w hE hl hm hx hy (lock_iff.1 h1) (lock_iff.1 h2)
        · exact lockDiffs_bad p l m a b ca cb w hE hl hm hx hy (.inr ⟨lock_iff.1 h1, h2⟩)
      · exact lockDiffs_bad p l m a b ca cb w hE hl hm hx hy (.inl h1)

theorem Tryz.laidOutD : laidOutB Tryz.prog = true := by kernel_rfl

set_option maxRecDepth 100000 in
theorem diffs_lifted (os : Os) (started : os.Started) (H : Type) (enc : TypeId × Value → H) :
    ReturnsInHanded {} Tryz.checked os 3 .any (fun w args => (Rows.lockDiffsSpec.pre enc Tryz.prog Tryz.f3 [] false w args ∧ laidMetH Tryz.prog Rows.lockDiffsRow.laid w) ∧ sizedMet enc Tryz.prog Tryz.f3 (OpenSpec.ofChange Rows.lockDiffsSpec) false w args)
      (Rows.lockDiffsSpec.post enc Tryz.prog Tryz.f3 false true false false) := by
  refine returns_laid_shaped (C := Tryz.checked) (X := fun w _ => laidMetH Tryz.prog Rows.lockDiffsRow.laid w) (fun _ _ _ hh h => h.of_heap hh) Tryz.own started (by kernel_rfl) Tryz.func3
    (ChangeSpec.witness_shaped (enc := enc) (C := Tryz.checked) (os := os) (X := fun w _ => laidMetH Tryz.prog Rows.lockDiffsRow.laid w) false (World.laidAll Tryz.prog os Rows.lockDiffsRow.laid) #[.slice none 0 0, .slice none 0 0] 8 (World.laidAll_os _ _ _) (World.shaped_of_ZipB (by kernel_rfl) (by kernel_rfl)) (by kernel_rfl) (by kernel_rfl) (by kernel_rfl) (diffs_met os _)) ?_
  intro W base args ds gs before hval0 hW hL hsh
  have hval : ∀ (j : Nat) t v, Tryz.f3.params[j]? = some t → args[j]? = some v → Value.okWide Tryz.prog W .any base t v := hval0
  have hW' := hW
  have hlt := hW.lt
  obtain ⟨p, q, hA0, hV, rfl, hfz, hnd⟩ := hW
  have hA : DataW.TrodAll enc Tryz.prog W 0 (fun _ => true) true Tryz.f3.params.toList args.toList ds p := hA0
  rw [Tryz.params3] at hA hval
  obtain ⟨v0, v1, d0, d1, p0, p1, rfl, rfl, rfl, h0, h1⟩ := trodAll_two hA
  obtain ⟨rfl, rfl⟩ := trodVars_none hV
  obtain ⟨l, a, ca, rfl, hl⟩ := open_wants (hval 0 22 v0 rfl rfl) h0
  obtain ⟨m, b, cb, rfl, hm⟩ := open_wants (hval 1 22 v1 rfl rfl) h1
  obtain ⟨pp, hE⟩ := diffs_envs hL hsh
  have e1 : Rows.lockDiffsSpec.fn H ([d0, d1] ++ []) = { results := [.lit (.bool true)], args := [d0, d1] } := by simp [Rows.lockDiffsSpec]
  refine (lockDiffs_any pp l m a b ca cb W hE hl hm).mono fun e W' ⟨he, hb⟩ => ?_
  subst he
  refine ⟨_, rfl, _, _, _, [], p0 ++ p1, [], hW', ?_, ?_, ?_, hb.frame _, fun h => by cases h⟩
  · rw [e1]; exact trodAll_mk1 (shut_bool Tryz.underlying4 true)
  · rw [e1]; exact trodAll_mk2 (Below.trod Tryz.laidOutD (by kernel_rfl) (of_decide_eq_true (by kernel_rfl)) h0 hb (fun x hx => hlt x (by simp [hx]))) (Below.trod Tryz.laidOutD (by kernel_rfl) (of_decide_eq_true (by kernel_rfl)) h1 hb (fun x hx => hlt x (by simp [hx])))
  · rw [e1]; rfl

theorem diffs_row_holds : Rows.LockDiffsSaid :=
  OpenClaim.holds_of_wide 3 Tryz.f3 rfl rfl rfl rfl rfl rfl rfl ⟨rfl, rfl, rfl, rfl, rfl⟩ rfl rfl rfl rfl rfl (by as_aux_lemma => kernel_rfl) Tryz.func3 lockDiffs_facts
    (of_decide_eq_true (by as_aux_lemma => kernel_rfl)) (by unfold Func.isWrapper; rw [if_neg (of_decide_eq_false (by as_aux_lemma => kernel_rfl))]; exact ⟨rfl, rfl⟩)
    (fun os started H enc _ => diffs_lifted os started H enc)

end Go.Proofs.YtmeipangcgdinaaGreatDoor
