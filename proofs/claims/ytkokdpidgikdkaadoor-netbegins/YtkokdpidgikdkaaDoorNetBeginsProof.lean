/-
  The law NetBegins returns true for every acts: what comes of a net is the beginning of what was put last, and nothing comes of a host that is off.
  Condition: the package-level variables named in the row hold, when the call begins, what the program's text lays in them (the card ties this); of the library's variable internal/bytealg.MaxLen nothing is asked but that it holds a number.
-/
import Derived.Test.YtkokdpidgikdkaaDoorRows
import Derived.Test.YtkokdpidgikdkaaDoorTie
import Derived.Test.YtkokdpidgikdkaaDoorCards
import Derived.Test.YtkokdpidgikdkaaDoorLawNetBegins
import Derived.Test.YtkokdpidgikdkaaDoorPkNetGet
import Derived.Test.YtkokdpidgikdkaaDoorLaidNet
import Derived.Test.YtkokdpidgikdkaaDoorShapedToo
import Derived.OpenShut
import Derived.SevenTiedAt
namespace Go.Proofs.YtkokdpidgikdkaaDoor
open Go.ChangeShapes Go.WideShapes Go.ChangeAt Go.RowKit
open Go.ChangeMaps (open_string shut_string)

theorem netBegins_any {p : Nat → Addr} {At : World → Nat → (Nat → Prop) → Ns → Prop} (P : NetProg p At) (l : List Ac) (a : Option Addr) (ca : Nat) (w : World) (hE : NEnv p w) (hl : CameA w a l) :
    Calls Tryd.prog 3 #[.slice a l.length ca] w fun e w' => e = .returned (.bool true) ∧ Below w.heap.size w w' :=
  (longAs_or l 100).elim (netBegins_main P l a ca w hE hl) (netBegins_long P l a ca w hE hl)

set_option maxRecDepth 100000 in
theorem begins_lifted (os : Os) (started : os.Started) (H : Type) (enc : TypeId × Value → H) :
    ReturnsInHanded {} Tryd.checked os 3 .any (fun w args => (Rows.netBeginsSpec.pre enc Tryd.prog Tryd.f3 [] false w args ∧ laidMetH Tryd.prog Rows.netBeginsRow.laid w) ∧ sizedMet enc Tryd.prog Tryd.f3 (OpenSpec.ofChange Rows.netBeginsSpec) false w args)
      (Rows.netBeginsSpec.post enc Tryd.prog Tryd.f3 false true false false) := by
  refine returns_laid_shaped (C := Tryd.checked) (X := fun w _ => laidMetH Tryd.prog Rows.netBeginsRow.laid w) (fun _ _ _ hh h => h.of_heap hh) Tryd.own started (by kernel_rfl) Tryd.func3
    (ChangeSpec.witness_shaped (enc := enc) (C := Tryd.checked) (os := os) (X := fun w _ => laidMetH Tryd.prog Rows.netBeginsRow.laid w) false (World.doorLaid Tryd.prog 263 os) #[.slice none 0 0] 8 rfl (World.shaped_of_RefB (by kernel_rfl) (by kernel_rfl)) (by kernel_rfl) (by kernel_rfl) (by kernel_rfl) (begins_met os _)) ?_
  intro W base args ds gs before hval0 hW hL hsh
  have hval : ∀ (j : Nat) t v, Tryd.f3.params[j]? = some t → args[j]? = some v → Value.okWide Tryd.prog W .any base t v := hval0
  have hW' := hW
  have hlt := hW.lt
  obtain ⟨p, q, hA0, hV, rfl, hfz, hnd⟩ := hW
  have hA : DataW.TrodAll enc Tryd.prog W 0 (fun _ => true) true Tryd.f3.params.toList args.toList ds p := hA0
  rw [Tryd.params3] at hA hval
  obtain ⟨v0, d0, rfl, rfl, h0⟩ := trodAll_one hA
  obtain ⟨l, a, ca, rfl, hl⟩ := open_acts (hval 0 22 v0 rfl rfl) h0
  obtain ⟨rfl, rfl⟩ := trodVars_none hV
  obtain ⟨pp, hE⟩ := begins_env hL hsh
  have e1 : Rows.netBeginsSpec.fn H ([d0] ++ []) = { results := [.lit (.bool true)], args := [d0] } := by simp [Rows.netBeginsSpec]
  refine (netBegins_any (netProg pp) l a ca W hE hl).mono fun e W' ⟨he, hbw⟩ => ?_
  subst he
  refine ⟨_, rfl, _, _, _, [], p, [], hW', ?_, ?_, ?_, hbw.frame _, fun h => by cases h⟩
  · rw [e1]; exact trodAll_mk1 (shut_bool Tryd.underlying4 true)
  · rw [e1]; exact trodAll_mk1 (Below.trod Tryd.laidOutA (by kernel_rfl) (of_decide_eq_true (by kernel_rfl)) h0 hbw (fun x hx => hlt x (by simp [hx])))
  · rw [e1]; rfl

theorem begins_row_holds : Rows.NetBeginsSaid :=
  OpenClaim.holds_of_wide 3 Tryd.f3 rfl rfl rfl rfl rfl rfl rfl ⟨rfl, rfl, rfl, rfl, rfl⟩ rfl rfl rfl rfl rfl (by kernel_rfl) Tryd.func3 (by kernel_rfl)
    (of_decide_eq_true (by kernel_rfl)) (by unfold Func.isWrapper; rw [if_neg (of_decide_eq_false (by kernel_rfl))]; exact ⟨rfl, rfl⟩)
    (fun os started H enc _ => begins_lifted os started H enc)

theorem begins_holds : Rows.NetBeginsCardSaid :=
  Claim7.holds_tied_plain_at .later [] [.handle, .sentinel, .sentinel, .sentinel, .sentinel, .sentinel, .sentinel, .sentinel, .sentinel, .sentinel, .sentinel, .sentinel, .sentinel, .sentinel] true (true, "7064afefcfafe684265ba61ee16cf0b36006022cdc6f27b00de97aa77f92507d") true
    begins_row_holds (fun _ h => by cases h) (by kernel_rfl) (fun _ h => by cases h) netBegins_row_tie rfl ⟨rfl, rfl⟩ (by kernel_rfl) rfl
    (fun f fn hf hfn => by
      obtain rfl : f = 3 := Option.some.inj ((show Tryd.prog.funcNamed "chandlery/chandlerylaw2.NetBegins" = some 3 by kernel_rfl).symm.trans hf) |>.symm
      obtain rfl : fn = Tryd.f3 := (Option.some.inj (Tryd.func3.symm.trans hfn)).symm
      exact ⟨by kernel_rfl, fun j t ht => by
        rw [Tryd.params3] at ht
        have hm : t ∈ [22] := by simpa using Array.mem_of_getElem? ht
        have hall : ([22].all fun u => !Tryd.prog.wantsStandIn u) = true := by kernel_rfl
        exact (show Tryd.prog.wantsStandIn t = false by simpa using List.all_eq_true.1 hall t hm)⟩)
    (by kernel_rfl)
#print axioms begins_holds
end Go.Proofs.YtkokdpidgikdkaaDoor
