/-
  NARROWER THAN 'FOR EVERY INPUT', by the rows' own cells (each row's printed sentence says how): LinkSwaps: laid · LinkTells: laid · MirrorWays: laid · MirrorTells: laid.
  DERIVED. THE GIVEN ROWS OF THIS SEAT. 4 by the template 'for every input the law returns true; each argument reads behind the call as it read before'; 0 by the template 'total and deterministic' (their statements: YtmpfjambenkeeaaDoorTotals.lean).
  GIVEN WITH THE SEED: the statements are not yours to turn. If you find one false, say at which input.
  Laid BY PROGRAM, IN A SANDBOX (cutbox-rows.mjs): the forced cells as the released guide's own fill.sh prints them over the translation 902fb04118d52f30… (all of the seat's roots in one cut). By AI agents, Wed Nov 11 2026. No macro, syntax, notation, axiom, sorry.
-/
import Derived.Test.YtmpfjambenkeeaaDoorChecked
import GoSem.Claim
import GoSem.ClaimJoined
import GoSem.ClaimMapViews
import Derived.JoinedTies
import Derived.KernelRfl
namespace Go.Proofs.YtmpfjambenkeeaaDoor
/- THE CELL 'sum', in the pinned program and in every row, IS THE sha256 OF THE DUMP (.gsa) THAT YtmpfjambenkeeaaDoorProg.lean LOADS. Nothing in Lean hashes anything: it is a label: what it is worth is what the hold of that sum in a sandbox is worth. -/
noncomputable def Tryd.pinned : Pinned := { name := "ytmpfjambenkeeaadoor", sum := "902fb04118d52f3063bf3adf1a1ff9c7e3549c2b3aa8ba7fc34ba6940b28b8db", checked := Tryd.checked }
namespace Rows
def none {H : Type} : Left H := { results := [], args := [] }

/- WHAT THE LISTED PACKAGE-LEVEL VARIABLES READ AS WHEN THE CALL BEGINS. Each datum BY PROGRAM (the guide's laid-datum.mjs) off the statement by which the dump's own 'gosem.cut.vars' lays the variable. In a bare row this is a premise. The card (YtmpfjambenkeeaaDoorCards.lean) ties it to the program's text. -/
def laid_chandlery_api_ErrText {H : Type} : DataW H := .iface "*errors.errorString" (.ptr (.agg [.lit (.string [99, 104, 97, 110, 100, 108, 101, 114, 121, 58, 32, 116, 101, 120, 116])]))
def laid_chandlery_api_ErrKind {H : Type} : DataW H := .iface "*errors.errorString" (.ptr (.agg [.lit (.string [99, 104, 97, 110, 100, 108, 101, 114, 121, 58, 32, 107, 105, 110, 100])]))
def laid_chandlery_api_ErrName {H : Type} : DataW H := .iface "*errors.errorString" (.ptr (.agg [.lit (.string [99, 104, 97, 110, 100, 108, 101, 114, 121, 58, 32, 110, 97, 109, 101])]))
def laid_chandlery_api_ErrNone {H : Type} : DataW H := .iface "*errors.errorString" (.ptr (.agg [.lit (.string [99, 104, 97, 110, 100, 108, 101, 114, 121, 58, 32, 110, 111, 110, 101])]))
def laid_chandlery_api_ErrFull {H : Type} : DataW H := .iface "*errors.errorString" (.ptr (.agg [.lit (.string [99, 104, 97, 110, 100, 108, 101, 114, 121, 58, 32, 102, 117, 108, 108])]))
def laid_errors_errorType {H : Type} : DataW H := .iface "internal/reflectlite.rtype" (.agg [.ptr (.lit (.string [101, 114, 114, 111, 114]))])
def laid_chandlery_api_ErrBound {H : Type} : DataW H := .iface "*errors.errorString" (.ptr (.agg [.lit (.string [99, 104, 97, 110, 100, 108, 101, 114, 121, 58, 32, 98, 111, 117, 110, 100])]))
def laid_chandlery_api_ErrShape {H : Type} : DataW H := .iface "*errors.errorString" (.ptr (.agg [.lit (.string [99, 104, 97, 110, 100, 108, 101, 114, 121, 58, 32, 115, 104, 97, 112, 101])]))
def laid_chandlery_api_ErrExist {H : Type} : DataW H := .iface "*errors.errorString" (.ptr (.agg [.lit (.string [99, 104, 97, 110, 100, 108, 101, 114, 121, 58, 32, 101, 120, 105, 115, 116])]))
def laid_chandlery_api_ErrOrder {H : Type} : DataW H := .iface "*errors.errorString" (.ptr (.agg [.lit (.string [99, 104, 97, 110, 100, 108, 101, 114, 121, 58, 32, 111, 114, 100, 101, 114])]))
def laid_chandlery_api_ErrOut {H : Type} : DataW H := .iface "*errors.errorString" (.ptr (.agg [.lit (.string [99, 104, 97, 110, 100, 108, 101, 114, 121, 58, 32, 111, 117, 116])]))
def laid_chandlery_api_ErrClash {H : Type} : DataW H := .iface "*errors.errorString" (.ptr (.agg [.lit (.string [99, 104, 97, 110, 100, 108, 101, 114, 121, 58, 32, 99, 108, 97, 115, 104])]))
def laid_chandlery_api_ErrSum {H : Type} : DataW H := .iface "*errors.errorString" (.ptr (.agg [.lit (.string [99, 104, 97, 110, 100, 108, 101, 114, 121, 58, 32, 115, 117, 109])]))
def laid_chandlery_api_ErrOff {H : Type} : DataW H := .iface "*errors.errorString" (.ptr (.agg [.lit (.string [99, 104, 97, 110, 100, 108, 101, 114, 121, 58, 32, 111, 102, 102])]))

/-- 'chandlerylaw2.LinkSwaps': WHATEVER THE INPUT: true; the input reads as it did. -/
def linkSwapsSpec : ChangeSpec := { name := "linkSwaps", fn := fun _ => fun
  | [d1, d2, d3] => { results := [.lit (.bool true)], args := [d1, d2, d3] }
  | _ => none }
def linkSwapsRow : OpenClaim := { program := "ytmpfjambenkeeaadoor", sum := "902fb04118d52f3063bf3adf1a1ff9c7e3549c2b3aa8ba7fc34ba6940b28b8db", func := "chandlery/chandlerylaw2.LinkSwaps", spec := "linkSwaps", inPlace := ["internal/bytealg.IndexByteString", "internal/bytealg.IndexString"], unfollowed := true, recurses := true, named := ["chandlery/api.ErrNone", "chandlery/api.ErrText", "chandlery/api.ErrKind", "internal/bytealg.MaxLen", "chandlery/api.ErrName", "chandlery/api.ErrFull"], apart := false, laid := [("chandlery/api.ErrText", laid_chandlery_api_ErrText), ("chandlery/api.ErrKind", laid_chandlery_api_ErrKind), ("chandlery/api.ErrName", laid_chandlery_api_ErrName), ("chandlery/api.ErrNone", laid_chandlery_api_ErrNone), ("chandlery/api.ErrFull", laid_chandlery_api_ErrFull)] }
def LinkSwapsSaid : Prop := linkSwapsRow.holds Tryd.pinned (OpenSpec.ofChange linkSwapsSpec)

/-- ITS FALSE NEIGHBOUR: 'it returns false'. Refute it at one input. -/
def linkSwapsWrong : ChangeSpec := { name := "linkSwaps", fn := fun _ => fun
  | [d1, d2, d3] => { results := [.lit (.bool false)], args := [d1, d2, d3] }
  | _ => none }
def LinkSwapsWrongFalsely : Prop := linkSwapsRow.holds Tryd.pinned (OpenSpec.ofChange linkSwapsWrong)

/-- 'chandlerylaw2.LinkTells': WHATEVER THE INPUT: true; the input reads as it did. -/
def linkTellsSpec : ChangeSpec := { name := "linkTells", fn := fun _ => fun
  | [d1, d2, d3] => { results := [.lit (.bool true)], args := [d1, d2, d3] }
  | _ => none }
def linkTellsRow : OpenClaim := { program := "ytmpfjambenkeeaadoor", sum := "902fb04118d52f3063bf3adf1a1ff9c7e3549c2b3aa8ba7fc34ba6940b28b8db", func := "chandlery/chandlerylaw2.LinkTells", spec := "linkTells", inPlace := ["internal/bytealg.IndexByteString", "internal/bytealg.IndexString", "internal/reflectlite.ValueOf", "(internal/reflectlite.Value).Type", "(internal/reflectlite.Value).IsNil", "internal/reflectlite.TypeOf", "(internal/reflectlite.Value).Elem", "(internal/reflectlite.Value).Set"], unfollowed := true, recurses := true, named := ["chandlery/api.ErrNone", "chandlery/api.ErrText", "chandlery/api.ErrKind", "internal/bytealg.MaxLen", "chandlery/api.ErrName", "chandlery/api.ErrFull", "chandlery/api.ErrBound", "chandlery/api.ErrShape", "chandlery/api.ErrExist", "chandlery/api.ErrOrder", "chandlery/api.ErrOut", "chandlery/api.ErrClash", "chandlery/api.ErrSum", "chandlery/api.ErrOff", "errors.errorType"], apart := false, laid := [("errors.errorType", laid_errors_errorType), ("chandlery/api.ErrText", laid_chandlery_api_ErrText), ("chandlery/api.ErrBound", laid_chandlery_api_ErrBound), ("chandlery/api.ErrShape", laid_chandlery_api_ErrShape), ("chandlery/api.ErrKind", laid_chandlery_api_ErrKind), ("chandlery/api.ErrName", laid_chandlery_api_ErrName), ("chandlery/api.ErrNone", laid_chandlery_api_ErrNone), ("chandlery/api.ErrExist", laid_chandlery_api_ErrExist), ("chandlery/api.ErrFull", laid_chandlery_api_ErrFull), ("chandlery/api.ErrOrder", laid_chandlery_api_ErrOrder), ("chandlery/api.ErrOut", laid_chandlery_api_ErrOut), ("chandlery/api.ErrClash", laid_chandlery_api_ErrClash), ("chandlery/api.ErrSum", laid_chandlery_api_ErrSum), ("chandlery/api.ErrOff", laid_chandlery_api_ErrOff)] }
def LinkTellsSaid : Prop := linkTellsRow.holds Tryd.pinned (OpenSpec.ofChange linkTellsSpec)

/-- ITS FALSE NEIGHBOUR: 'it returns false'. Refute it at one input. -/
def linkTellsWrong : ChangeSpec := { name := "linkTells", fn := fun _ => fun
  | [d1, d2, d3] => { results := [.lit (.bool false)], args := [d1, d2, d3] }
  | _ => none }
def LinkTellsWrongFalsely : Prop := linkTellsRow.holds Tryd.pinned (OpenSpec.ofChange linkTellsWrong)

/-- 'chandlerylaw2.MirrorWays': WHATEVER THE INPUT: true; the input reads as it did. -/
def mirrorWaysSpec : ChangeSpec := { name := "mirrorWays", fn := fun _ => fun
  | [d1, d2, d3] => { results := [.lit (.bool true)], args := [d1, d2, d3] }
  | _ => none }
def mirrorWaysRow : OpenClaim := { program := "ytmpfjambenkeeaadoor", sum := "902fb04118d52f3063bf3adf1a1ff9c7e3549c2b3aa8ba7fc34ba6940b28b8db", func := "chandlery/chandlerylaw2.MirrorWays", spec := "mirrorWays", inPlace := ["internal/bytealg.IndexByteString", "internal/bytealg.IndexString"], unfollowed := true, recurses := true, named := ["chandlery/api.ErrFull", "chandlery/api.ErrText", "chandlery/api.ErrKind", "internal/bytealg.MaxLen", "chandlery/api.ErrName", "chandlery/api.ErrNone"], apart := false, laid := [("chandlery/api.ErrText", laid_chandlery_api_ErrText), ("chandlery/api.ErrKind", laid_chandlery_api_ErrKind), ("chandlery/api.ErrName", laid_chandlery_api_ErrName), ("chandlery/api.ErrNone", laid_chandlery_api_ErrNone), ("chandlery/api.ErrFull", laid_chandlery_api_ErrFull)] }
def MirrorWaysSaid : Prop := mirrorWaysRow.holds Tryd.pinned (OpenSpec.ofChange mirrorWaysSpec)

/-- ITS FALSE NEIGHBOUR: 'it returns false'. Refute it at one input. -/
def mirrorWaysWrong : ChangeSpec := { name := "mirrorWays", fn := fun _ => fun
  | [d1, d2, d3] => { results := [.lit (.bool false)], args := [d1, d2, d3] }
  | _ => none }
def MirrorWaysWrongFalsely : Prop := mirrorWaysRow.holds Tryd.pinned (OpenSpec.ofChange mirrorWaysWrong)

/-- 'chandlerylaw2.MirrorTells': WHATEVER THE INPUT: true; the input reads as it did. -/
def mirrorTellsSpec : ChangeSpec := { name := "mirrorTells", fn := fun _ => fun
  | [d1, d2] => { results := [.lit (.bool true)], args := [d1, d2] }
  | _ => none }
def mirrorTellsRow : OpenClaim := { program := "ytmpfjambenkeeaadoor", sum := "902fb04118d52f3063bf3adf1a1ff9c7e3549c2b3aa8ba7fc34ba6940b28b8db", func := "chandlery/chandlerylaw2.MirrorTells", spec := "mirrorTells", inPlace := ["internal/bytealg.IndexByteString", "internal/bytealg.IndexString", "internal/reflectlite.ValueOf", "(internal/reflectlite.Value).Type", "(internal/reflectlite.Value).IsNil", "internal/reflectlite.TypeOf", "(internal/reflectlite.Value).Elem", "(internal/reflectlite.Value).Set"], unfollowed := true, recurses := true, named := ["chandlery/api.ErrFull", "chandlery/api.ErrText", "chandlery/api.ErrKind", "internal/bytealg.MaxLen", "chandlery/api.ErrName", "chandlery/api.ErrNone", "chandlery/api.ErrBound", "chandlery/api.ErrShape", "chandlery/api.ErrExist", "chandlery/api.ErrOrder", "chandlery/api.ErrOut", "chandlery/api.ErrClash", "chandlery/api.ErrSum", "chandlery/api.ErrOff", "errors.errorType"], apart := false, laid := [("errors.errorType", laid_errors_errorType), ("chandlery/api.ErrText", laid_chandlery_api_ErrText), ("chandlery/api.ErrBound", laid_chandlery_api_ErrBound), ("chandlery/api.ErrShape", laid_chandlery_api_ErrShape), ("chandlery/api.ErrKind", laid_chandlery_api_ErrKind), ("chandlery/api.ErrName", laid_chandlery_api_ErrName), ("chandlery/api.ErrNone", laid_chandlery_api_ErrNone), ("chandlery/api.ErrExist", laid_chandlery_api_ErrExist), ("chandlery/api.ErrFull", laid_chandlery_api_ErrFull), ("chandlery/api.ErrOrder", laid_chandlery_api_ErrOrder), ("chandlery/api.ErrOut", laid_chandlery_api_ErrOut), ("chandlery/api.ErrClash", laid_chandlery_api_ErrClash), ("chandlery/api.ErrSum", laid_chandlery_api_ErrSum), ("chandlery/api.ErrOff", laid_chandlery_api_ErrOff)] }
def MirrorTellsSaid : Prop := mirrorTellsRow.holds Tryd.pinned (OpenSpec.ofChange mirrorTellsSpec)

/-- ITS FALSE NEIGHBOUR: 'it returns false'. Refute it at one input. -/
def mirrorTellsWrong : ChangeSpec := { name := "mirrorTells", fn := fun _ => fun
  | [d1, d2] => { results := [.lit (.bool false)], args := [d1, d2] }
  | _ => none }
def MirrorTellsWrongFalsely : Prop := mirrorTellsRow.holds Tryd.pinned (OpenSpec.ofChange mirrorTellsWrong)

/- THE SECOND FORM. 'bulk': how many values and letters a reading holds, each counted each time it is reached (what is shared counts as often as it is met; a slice's spare places count too). A statement '..UptoSaid' is the law's where the arguments, and the package variables that the reading takes, are together of bulk at most 1048576: NARROWER than '..Said'. Prove '..Said' where nothing that the law and all that it calls make is longer than what came in: it says more and counts as full. Else prove '..UptoSaid'. A law counts once. -/
mutual
def uptoBulk {H : Type} : DataW H → Nat
  | .lit (.string bytes) => bytes.length + 1
  | .lit _ => 1
  | .nil => 1
  | .ptr d => uptoBulk d + 1
  | .slice elems spare => uptoBulkAll elems + uptoBulkAll spare + 1
  | .agg parts => uptoBulkAll parts + 1
  | .iface _ d => uptoBulk d + 1
  | .map entries => uptoBulkEntries entries + 1
  | .held _ => 1
def uptoBulkAll {H : Type} : List (DataW H) → Nat
  | [] => 0
  | d :: r => uptoBulk d + uptoBulkAll r
def uptoBulkEntries {H : Type} : List (Lit × DataW H) → Nat
  | [] => 0
  | x :: r => uptoBulkEntry x + uptoBulkEntries r
def uptoBulkEntry {H : Type} : Lit × DataW H → Nat
  | (.string bytes, d) => bytes.length + uptoBulk d + 1
  | (_, d) => uptoBulk d + 1
 end
def uptoSmall : (H : Type) → List (DataW H) → Bool := fun _ ds => decide (uptoBulkAll ds ≤ 1048576)
def OpenSpec.upto (s : _root_.Go.ChangeSpec) : _root_.Go.OpenSpec := { _root_.Go.OpenSpec.ofChange s with cond := some uptoSmall }

/-- 'chandlerylaw2.LinkSwaps', WHERE WHAT IT READS IS OF BULK AT MOST 1048576: true; the input reads as it did. -/
def linkSwapsUptoRow : OpenClaim := { program := "ytmpfjambenkeeaadoor", sum := "902fb04118d52f3063bf3adf1a1ff9c7e3549c2b3aa8ba7fc34ba6940b28b8db", func := "chandlery/chandlerylaw2.LinkSwaps", spec := "linkSwaps", inPlace := ["internal/bytealg.IndexByteString", "internal/bytealg.IndexString"], unfollowed := true, recurses := true, named := ["chandlery/api.ErrNone", "chandlery/api.ErrText", "chandlery/api.ErrKind", "internal/bytealg.MaxLen", "chandlery/api.ErrName", "chandlery/api.ErrFull"], apart := false, laid := [("chandlery/api.ErrText", laid_chandlery_api_ErrText), ("chandlery/api.ErrKind", laid_chandlery_api_ErrKind), ("chandlery/api.ErrName", laid_chandlery_api_ErrName), ("chandlery/api.ErrNone", laid_chandlery_api_ErrNone), ("chandlery/api.ErrFull", laid_chandlery_api_ErrFull)], narrowed := true }
def LinkSwapsUptoSaid : Prop := linkSwapsUptoRow.holds Tryd.pinned (OpenSpec.upto linkSwapsSpec)

/-- 'chandlerylaw2.LinkTells', WHERE WHAT IT READS IS OF BULK AT MOST 1048576: true; the input reads as it did. -/
def linkTellsUptoRow : OpenClaim := { program := "ytmpfjambenkeeaadoor", sum := "902fb04118d52f3063bf3adf1a1ff9c7e3549c2b3aa8ba7fc34ba6940b28b8db", func := "chandlery/chandlerylaw2.LinkTells", spec := "linkTells", inPlace := ["internal/bytealg.IndexByteString", "internal/bytealg.IndexString", "internal/reflectlite.ValueOf", "(internal/reflectlite.Value).Type", "(internal/reflectlite.Value).IsNil", "internal/reflectlite.TypeOf", "(internal/reflectlite.Value).Elem", "(internal/reflectlite.Value).Set"], unfollowed := true, recurses := true, named := ["chandlery/api.ErrNone", "chandlery/api.ErrText", "chandlery/api.ErrKind", "internal/bytealg.MaxLen", "chandlery/api.ErrName", "chandlery/api.ErrFull", "chandlery/api.ErrBound", "chandlery/api.ErrShape", "chandlery/api.ErrExist", "chandlery/api.ErrOrder", "chandlery/api.ErrOut", "chandlery/api.ErrClash", "chandlery/api.ErrSum", "chandlery/api.ErrOff", "errors.errorType"], apart := false, laid := [("errors.errorType", laid_errors_errorType), ("chandlery/api.ErrText", laid_chandlery_api_ErrText), ("chandlery/api.ErrBound", laid_chandlery_api_ErrBound), ("chandlery/api.ErrShape", laid_chandlery_api_ErrShape), ("chandlery/api.ErrKind", laid_chandlery_api_ErrKind), ("chandlery/api.ErrName", laid_chandlery_api_ErrName), ("chandlery/api.ErrNone", laid_chandlery_api_ErrNone), ("chandlery/api.ErrExist", laid_chandlery_api_ErrExist), ("chandlery/api.ErrFull", laid_chandlery_api_ErrFull), ("chandlery/api.ErrOrder", laid_chandlery_api_ErrOrder), ("chandlery/api.ErrOut", laid_chandlery_api_ErrOut), ("chandlery/api.ErrClash", laid_chandlery_api_ErrClash), ("chandlery/api.ErrSum", laid_chandlery_api_ErrSum), ("chandlery/api.ErrOff", laid_chandlery_api_ErrOff)], narrowed := true }
def LinkTellsUptoSaid : Prop := linkTellsUptoRow.holds Tryd.pinned (OpenSpec.upto linkTellsSpec)

/-- 'chandlerylaw2.MirrorWays', WHERE WHAT IT READS IS OF BULK AT MOST 1048576: true; the input reads as it did. -/
def mirrorWaysUptoRow : OpenClaim := { program := "ytmpfjambenkeeaadoor", sum := "902fb04118d52f3063bf3adf1a1ff9c7e3549c2b3aa8ba7fc34ba6940b28b8db", func := "chandlery/chandlerylaw2.MirrorWays", spec := "mirrorWays", inPlace := ["internal/bytealg.IndexByteString", "internal/bytealg.IndexString"], unfollowed := true, recurses := true, named := ["chandlery/api.ErrFull", "chandlery/api.ErrText", "chandlery/api.ErrKind", "internal/bytealg.MaxLen", "chandlery/api.ErrName", "chandlery/api.ErrNone"], apart := false, laid := [("chandlery/api.ErrText", laid_chandlery_api_ErrText), ("chandlery/api.ErrKind", laid_chandlery_api_ErrKind), ("chandlery/api.ErrName", laid_chandlery_api_ErrName), ("chandlery/api.ErrNone", laid_chandlery_api_ErrNone), ("chandlery/api.ErrFull", laid_chandlery_api_ErrFull)], narrowed := true }
def MirrorWaysUptoSaid : Prop := mirrorWaysUptoRow.holds Tryd.pinned (OpenSpec.upto mirrorWaysSpec)

/-- 'chandlerylaw2.MirrorTells', WHERE WHAT IT READS IS OF BULK AT MOST 1048576: true; the input reads as it did. -/
def mirrorTellsUptoRow : OpenClaim := { program := "ytmpfjambenkeeaadoor", sum := "902fb04118d52f3063bf3adf1a1ff9c7e3549c2b3aa8ba7fc34ba6940b28b8db", func := "chandlery/chandlerylaw2.MirrorTells", spec := "mirrorTells", inPlace := ["internal/bytealg.IndexByteString", "internal/bytealg.IndexString", "internal/reflectlite.ValueOf", "(internal/reflectlite.Value).Type", "(internal/reflectlite.Value).IsNil", "internal/reflectlite.TypeOf", "(internal/reflectlite.Value).Elem", "(internal/reflectlite.Value).Set"], unfollowed := true, recurses := true, named := ["chandlery/api.ErrFull", "chandlery/api.ErrText", "chandlery/api.ErrKind", "internal/bytealg.MaxLen", "chandlery/api.ErrName", "chandlery/api.ErrNone", "chandlery/api.ErrBound", "chandlery/api.ErrShape", "chandlery/api.ErrExist", "chandlery/api.ErrOrder", "chandlery/api.ErrOut", "chandlery/api.ErrClash", "chandlery/api.ErrSum", "chandlery/api.ErrOff", "errors.errorType"], apart := false, laid := [("errors.errorType", laid_errors_errorType), ("chandlery/api.ErrText", laid_chandlery_api_ErrText), ("chandlery/api.ErrBound", laid_chandlery_api_ErrBound), ("chandlery/api.ErrShape", laid_chandlery_api_ErrShape), ("chandlery/api.ErrKind", laid_chandlery_api_ErrKind), ("chandlery/api.ErrName", laid_chandlery_api_ErrName), ("chandlery/api.ErrNone", laid_chandlery_api_ErrNone), ("chandlery/api.ErrExist", laid_chandlery_api_ErrExist), ("chandlery/api.ErrFull", laid_chandlery_api_ErrFull), ("chandlery/api.ErrOrder", laid_chandlery_api_ErrOrder), ("chandlery/api.ErrOut", laid_chandlery_api_ErrOut), ("chandlery/api.ErrClash", laid_chandlery_api_ErrClash), ("chandlery/api.ErrSum", laid_chandlery_api_ErrSum), ("chandlery/api.ErrOff", laid_chandlery_api_ErrOff)], narrowed := true }
def MirrorTellsUptoSaid : Prop := mirrorTellsUptoRow.holds Tryd.pinned (OpenSpec.upto mirrorTellsSpec)

end Rows
end Go.Proofs.YtmpfjambenkeeaaDoor
