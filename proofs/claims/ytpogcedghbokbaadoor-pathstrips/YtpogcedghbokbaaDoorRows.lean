/-
  NARROWER THAN 'FOR EVERY INPUT', by the rows' own cells (each row's printed sentence says how): PathInside: laid · PathTells: laid · PathStrips: laid.
  DERIVED. THE GIVEN ROWS OF THIS SEAT. 3 by the template 'for every input the law returns true; each argument reads behind the call as it read before'; 0 by the template 'total and deterministic' (their statements: YtpogcedghbokbaaDoorTotals.lean).
  GIVEN WITH THE SEED: the statements are not yours to turn. If you find one false, say at which input.
  Laid BY PROGRAM, IN A SANDBOX (cutbox-rows.mjs): the forced cells as the released guide's own fill.sh prints them over the translation 4d3a3cbd8714b830… (all of the seat's roots in one cut). By AI agents, Wed Nov 11 2026. No macro, syntax, notation, axiom, sorry.
-/
import Derived.Test.YtpogcedghbokbaaDoorChecked
import GoSem.Claim
import GoSem.ClaimJoined
import GoSem.ClaimMapViews
import Derived.JoinedTies
import Derived.KernelRfl
namespace Go.Proofs.YtpogcedghbokbaaDoor
/- THE CELL 'sum', in the pinned program and in every row, IS THE sha256 OF THE DUMP (.gsa) THAT YtpogcedghbokbaaDoorProg.lean LOADS. Nothing in Lean hashes anything: it is a label: what it is worth is what the hold of that sum in a sandbox is worth. -/
noncomputable def Tryd.pinned : Pinned := { name := "ytpogcedghbokbaadoor", sum := "4d3a3cbd8714b830e30af5f502375f277a86a503e87fc65f7034f9af80fa9d72", checked := Tryd.checked }
namespace Rows
def none {H : Type} : Left H := { results := [], args := [] }

/- WHAT THE LISTED PACKAGE-LEVEL VARIABLES READ AS WHEN THE CALL BEGINS. Each datum BY PROGRAM (the guide's laid-datum.mjs) off the statement by which the dump's own 'gosem.cut.vars' lays the variable. In a bare row this is a premise. The card (YtpogcedghbokbaaDoorCards.lean) ties it to the program's text. -/
def laid_errors_errorType {H : Type} : DataW H := .iface "internal/reflectlite.rtype" (.agg [.ptr (.lit (.string [101, 114, 114, 111, 114]))])
def laid_chandlery_api_ErrText {H : Type} : DataW H := .iface "*errors.errorString" (.ptr (.agg [.lit (.string [99, 104, 97, 110, 100, 108, 101, 114, 121, 58, 32, 116, 101, 120, 116])]))
def laid_chandlery_api_ErrBound {H : Type} : DataW H := .iface "*errors.errorString" (.ptr (.agg [.lit (.string [99, 104, 97, 110, 100, 108, 101, 114, 121, 58, 32, 98, 111, 117, 110, 100])]))
def laid_chandlery_api_ErrShape {H : Type} : DataW H := .iface "*errors.errorString" (.ptr (.agg [.lit (.string [99, 104, 97, 110, 100, 108, 101, 114, 121, 58, 32, 115, 104, 97, 112, 101])]))
def laid_chandlery_api_ErrKind {H : Type} : DataW H := .iface "*errors.errorString" (.ptr (.agg [.lit (.string [99, 104, 97, 110, 100, 108, 101, 114, 121, 58, 32, 107, 105, 110, 100])]))
def laid_chandlery_api_ErrName {H : Type} : DataW H := .iface "*errors.errorString" (.ptr (.agg [.lit (.string [99, 104, 97, 110, 100, 108, 101, 114, 121, 58, 32, 110, 97, 109, 101])]))
def laid_chandlery_api_ErrNone {H : Type} : DataW H := .iface "*errors.errorString" (.ptr (.agg [.lit (.string [99, 104, 97, 110, 100, 108, 101, 114, 121, 58, 32, 110, 111, 110, 101])]))
def laid_chandlery_api_ErrExist {H : Type} : DataW H := .iface "*errors.errorString" (.ptr (.agg [.lit (.string [99, 104, 97, 110, 100, 108, 101, 114, 121, 58, 32, 101, 120, 105, 115, 116])]))
def laid_chandlery_api_ErrFull {H : Type} : DataW H := .iface "*errors.errorString" (.ptr (.agg [.lit (.string [99, 104, 97, 110, 100, 108, 101, 114, 121, 58, 32, 102, 117, 108, 108])]))
def laid_chandlery_api_ErrOrder {H : Type} : DataW H := .iface "*errors.errorString" (.ptr (.agg [.lit (.string [99, 104, 97, 110, 100, 108, 101, 114, 121, 58, 32, 111, 114, 100, 101, 114])]))
def laid_chandlery_api_ErrOut {H : Type} : DataW H := .iface "*errors.errorString" (.ptr (.agg [.lit (.string [99, 104, 97, 110, 100, 108, 101, 114, 121, 58, 32, 111, 117, 116])]))
def laid_chandlery_api_ErrClash {H : Type} : DataW H := .iface "*errors.errorString" (.ptr (.agg [.lit (.string [99, 104, 97, 110, 100, 108, 101, 114, 121, 58, 32, 99, 108, 97, 115, 104])]))
def laid_chandlery_api_ErrSum {H : Type} : DataW H := .iface "*errors.errorString" (.ptr (.agg [.lit (.string [99, 104, 97, 110, 100, 108, 101, 114, 121, 58, 32, 115, 117, 109])]))
def laid_chandlery_api_ErrOff {H : Type} : DataW H := .iface "*errors.errorString" (.ptr (.agg [.lit (.string [99, 104, 97, 110, 100, 108, 101, 114, 121, 58, 32, 111, 102, 102])]))

/-- 'chandlerylaw1.PathInside': WHATEVER THE INPUT: true; the input reads as it did. -/
def pathInsideSpec : ChangeSpec := { name := "pathInside", fn := fun _ => fun
  | [d1, d2] => { results := [.lit (.bool true)], args := [d1, d2] }
  | _ => none }
def pathInsideRow : OpenClaim := { program := "ytpogcedghbokbaadoor", sum := "4d3a3cbd8714b830e30af5f502375f277a86a503e87fc65f7034f9af80fa9d72", func := "chandlery/chandlerylaw1.PathInside", spec := "pathInside", inPlace := ["internal/bytealg.IndexByteString", "internal/bytealg.IndexString", "internal/abi.NoEscape", "internal/bytealg.MakeNoZero", "internal/reflectlite.ValueOf", "(internal/reflectlite.Value).Type", "(internal/reflectlite.Value).IsNil", "internal/reflectlite.TypeOf", "(internal/reflectlite.Value).Elem", "(internal/reflectlite.Value).Set"], unfollowed := true, recurses := true, named := ["chandlery/api.ErrShape", "chandlery/api.ErrOut", "chandlery/api.ErrName", "chandlery/api.ErrFull", "internal/bytealg.MaxLen", "chandlery/api.ErrText", "chandlery/api.ErrBound", "chandlery/api.ErrKind", "chandlery/api.ErrNone", "chandlery/api.ErrExist", "chandlery/api.ErrOrder", "chandlery/api.ErrClash", "chandlery/api.ErrSum", "chandlery/api.ErrOff", "errors.errorType"], apart := false, laid := [("errors.errorType", laid_errors_errorType), ("chandlery/api.ErrText", laid_chandlery_api_ErrText), ("chandlery/api.ErrBound", laid_chandlery_api_ErrBound), ("chandlery/api.ErrShape", laid_chandlery_api_ErrShape), ("chandlery/api.ErrKind", laid_chandlery_api_ErrKind), ("chandlery/api.ErrName", laid_chandlery_api_ErrName), ("chandlery/api.ErrNone", laid_chandlery_api_ErrNone), ("chandlery/api.ErrExist", laid_chandlery_api_ErrExist), ("chandlery/api.ErrFull", laid_chandlery_api_ErrFull), ("chandlery/api.ErrOrder", laid_chandlery_api_ErrOrder), ("chandlery/api.ErrOut", laid_chandlery_api_ErrOut), ("chandlery/api.ErrClash", laid_chandlery_api_ErrClash), ("chandlery/api.ErrSum", laid_chandlery_api_ErrSum), ("chandlery/api.ErrOff", laid_chandlery_api_ErrOff)] }
def PathInsideSaid : Prop := pathInsideRow.holds Tryd.pinned (OpenSpec.ofChange pathInsideSpec)

/-- ITS FALSE NEIGHBOUR: 'it returns false'. Refute it at one input. -/
def pathInsideWrong : ChangeSpec := { name := "pathInside", fn := fun _ => fun
  | [d1, d2] => { results := [.lit (.bool false)], args := [d1, d2] }
  | _ => none }
def PathInsideWrongFalsely : Prop := pathInsideRow.holds Tryd.pinned (OpenSpec.ofChange pathInsideWrong)

/-- 'chandlerylaw1.PathTells': WHATEVER THE INPUT: true; the input reads as it did. -/
def pathTellsSpec : ChangeSpec := { name := "pathTells", fn := fun _ => fun
  | [d1, d2, d3] => { results := [.lit (.bool true)], args := [d1, d2, d3] }
  | _ => none }
def pathTellsRow : OpenClaim := { program := "ytpogcedghbokbaadoor", sum := "4d3a3cbd8714b830e30af5f502375f277a86a503e87fc65f7034f9af80fa9d72", func := "chandlery/chandlerylaw1.PathTells", spec := "pathTells", inPlace := ["internal/bytealg.IndexByteString", "internal/bytealg.IndexString", "internal/abi.NoEscape", "internal/bytealg.MakeNoZero", "internal/reflectlite.ValueOf", "(internal/reflectlite.Value).Type", "(internal/reflectlite.Value).IsNil", "internal/reflectlite.TypeOf", "(internal/reflectlite.Value).Elem", "(internal/reflectlite.Value).Set"], unfollowed := true, recurses := true, named := ["chandlery/api.ErrShape", "chandlery/api.ErrOut", "chandlery/api.ErrName", "chandlery/api.ErrFull", "internal/bytealg.MaxLen", "chandlery/api.ErrText", "chandlery/api.ErrBound", "chandlery/api.ErrKind", "chandlery/api.ErrNone", "chandlery/api.ErrExist", "chandlery/api.ErrOrder", "chandlery/api.ErrClash", "chandlery/api.ErrSum", "chandlery/api.ErrOff", "errors.errorType"], apart := false, laid := [("errors.errorType", laid_errors_errorType), ("chandlery/api.ErrText", laid_chandlery_api_ErrText), ("chandlery/api.ErrBound", laid_chandlery_api_ErrBound), ("chandlery/api.ErrShape", laid_chandlery_api_ErrShape), ("chandlery/api.ErrKind", laid_chandlery_api_ErrKind), ("chandlery/api.ErrName", laid_chandlery_api_ErrName), ("chandlery/api.ErrNone", laid_chandlery_api_ErrNone), ("chandlery/api.ErrExist", laid_chandlery_api_ErrExist), ("chandlery/api.ErrFull", laid_chandlery_api_ErrFull), ("chandlery/api.ErrOrder", laid_chandlery_api_ErrOrder), ("chandlery/api.ErrOut", laid_chandlery_api_ErrOut), ("chandlery/api.ErrClash", laid_chandlery_api_ErrClash), ("chandlery/api.ErrSum", laid_chandlery_api_ErrSum), ("chandlery/api.ErrOff", laid_chandlery_api_ErrOff)] }
def PathTellsSaid : Prop := pathTellsRow.holds Tryd.pinned (OpenSpec.ofChange pathTellsSpec)

/-- ITS FALSE NEIGHBOUR: 'it returns false'. Refute it at one input. -/
def pathTellsWrong : ChangeSpec := { name := "pathTells", fn := fun _ => fun
  | [d1, d2, d3] => { results := [.lit (.bool false)], args := [d1, d2, d3] }
  | _ => none }
def PathTellsWrongFalsely : Prop := pathTellsRow.holds Tryd.pinned (OpenSpec.ofChange pathTellsWrong)

/-- 'chandlerylaw1.PathStrips': WHATEVER THE INPUT: true; the input reads as it did. -/
def pathStripsSpec : ChangeSpec := { name := "pathStrips", fn := fun _ => fun
  | [d1, d2, d3] => { results := [.lit (.bool true)], args := [d1, d2, d3] }
  | _ => none }
def pathStripsRow : OpenClaim := { program := "ytpogcedghbokbaadoor", sum := "4d3a3cbd8714b830e30af5f502375f277a86a503e87fc65f7034f9af80fa9d72", func := "chandlery/chandlerylaw1.PathStrips", spec := "pathStrips", inPlace := ["internal/bytealg.IndexByteString", "internal/bytealg.IndexString", "internal/abi.NoEscape", "internal/bytealg.MakeNoZero", "internal/reflectlite.ValueOf", "(internal/reflectlite.Value).Type", "(internal/reflectlite.Value).IsNil", "internal/reflectlite.TypeOf", "(internal/reflectlite.Value).Elem", "(internal/reflectlite.Value).Set"], unfollowed := true, recurses := true, named := ["chandlery/api.ErrShape", "chandlery/api.ErrOut", "chandlery/api.ErrName", "chandlery/api.ErrFull", "internal/bytealg.MaxLen", "chandlery/api.ErrText", "chandlery/api.ErrBound", "chandlery/api.ErrKind", "chandlery/api.ErrNone", "chandlery/api.ErrExist", "chandlery/api.ErrOrder", "chandlery/api.ErrClash", "chandlery/api.ErrSum", "chandlery/api.ErrOff", "errors.errorType"], apart := false, laid := [("errors.errorType", laid_errors_errorType), ("chandlery/api.ErrText", laid_chandlery_api_ErrText), ("chandlery/api.ErrBound", laid_chandlery_api_ErrBound), ("chandlery/api.ErrShape", laid_chandlery_api_ErrShape), ("chandlery/api.ErrKind", laid_chandlery_api_ErrKind), ("chandlery/api.ErrName", laid_chandlery_api_ErrName), ("chandlery/api.ErrNone", laid_chandlery_api_ErrNone), ("chandlery/api.ErrExist", laid_chandlery_api_ErrExist), ("chandlery/api.ErrFull", laid_chandlery_api_ErrFull), ("chandlery/api.ErrOrder", laid_chandlery_api_ErrOrder), ("chandlery/api.ErrOut", laid_chandlery_api_ErrOut), ("chandlery/api.ErrClash", laid_chandlery_api_ErrClash), ("chandlery/api.ErrSum", laid_chandlery_api_ErrSum), ("chandlery/api.ErrOff", laid_chandlery_api_ErrOff)] }
def PathStripsSaid : Prop := pathStripsRow.holds Tryd.pinned (OpenSpec.ofChange pathStripsSpec)

/-- ITS FALSE NEIGHBOUR: 'it returns false'. Refute it at one input. -/
def pathStripsWrong : ChangeSpec := { name := "pathStrips", fn := fun _ => fun
  | [d1, d2, d3] => { results := [.lit (.bool false)], args := [d1, d2, d3] }
  | _ => none }
def PathStripsWrongFalsely : Prop := pathStripsRow.holds Tryd.pinned (OpenSpec.ofChange pathStripsWrong)

/- THE SECOND FORM. 'bulk': how many values and letters a reading holds, each counted each time it is reached (what is shared counts as often as it is met; a slice's spare places count too). A statement '..UptoSaid' is the law's where the arguments, and the package variables that the reading takes, are together of bulk at most 1048576: NARROWER than '..Said'. Prove '..Said' where nothing that the law and all that it calls make is longer than what came in: it says more and counts as full. Else prove '..UptoSaid'. A law counts once. -/
mutual
def uptoBulk {H : Type} : DataW H → Nat
  | .lit (.string bytes) => bytes.length + 1
  | .lit _ => 1
  | .nil => 1
  | .ptr d => uptoBulk d + 1
  | .slice elems spare => uptoBulkAll elems + uptoBulkAll spare + 1
  | .agg parts => uptoBulkAll parts + 1
  | .iface _ d => uptoBulk d + 1
  | .map entries => uptoBulkEntries entries + 1
  | .held _ => 1
def uptoBulkAll {H : Type} : List (DataW H) → Nat
  | [] => 0
  | d :: r => uptoBulk d + uptoBulkAll r
def uptoBulkEntries {H : Type} : List (Lit × DataW H) → Nat
  | [] => 0
  | x :: r => uptoBulkEntry x + uptoBulkEntries r
def uptoBulkEntry {H : Type} : Lit × DataW H → Nat
  | (.string bytes, d) => bytes.length + uptoBulk d + 1
  | (_, d) => uptoBulk d + 1
 end
def uptoSmall : (H : Type) → List (DataW H) → Bool := fun _ ds => decide (uptoBulkAll ds ≤ 1048576)
def OpenSpec.upto (s : _root_.Go.ChangeSpec) : _root_.Go.OpenSpec := { _root_.Go.OpenSpec.ofChange s with cond := some uptoSmall }

/-- 'chandlerylaw1.PathInside', WHERE WHAT IT READS IS OF BULK AT MOST 1048576: true; the input reads as it did. -/
def pathInsideUptoRow : OpenClaim := { program := "ytpogcedghbokbaadoor", sum := "4d3a3cbd8714b830e30af5f502375f277a86a503e87fc65f7034f9af80fa9d72", func := "chandlery/chandlerylaw1.PathInside", spec := "pathInside", inPlace := ["internal/bytealg.IndexByteString", "internal/bytealg.IndexString", "internal/abi.NoEscape", "internal/bytealg.MakeNoZero", "internal/reflectlite.ValueOf", "(internal/reflectlite.Value).Type", "(internal/reflectlite.Value).IsNil", "internal/reflectlite.TypeOf", "(internal/reflectlite.Value).Elem", "(internal/reflectlite.Value).Set"], unfollowed := true, recurses := true, named := ["chandlery/api.ErrShape", "chandlery/api.ErrOut", "chandlery/api.ErrName", "chandlery/api.ErrFull", "internal/bytealg.MaxLen", "chandlery/api.ErrText", "chandlery/api.ErrBound", "chandlery/api.ErrKind", "chandlery/api.ErrNone", "chandlery/api.ErrExist", "chandlery/api.ErrOrder", "chandlery/api.ErrClash", "chandlery/api.ErrSum", "chandlery/api.ErrOff", "errors.errorType"], apart := false, laid := [("errors.errorType", laid_errors_errorType), ("chandlery/api.ErrText", laid_chandlery_api_ErrText), ("chandlery/api.ErrBound", laid_chandlery_api_ErrBound), ("chandlery/api.ErrShape", laid_chandlery_api_ErrShape), ("chandlery/api.ErrKind", laid_chandlery_api_ErrKind), ("chandlery/api.ErrName", laid_chandlery_api_ErrName), ("chandlery/api.ErrNone", laid_chandlery_api_ErrNone), ("chandlery/api.ErrExist", laid_chandlery_api_ErrExist), ("chandlery/api.ErrFull", laid_chandlery_api_ErrFull), ("chandlery/api.ErrOrder", laid_chandlery_api_ErrOrder), ("chandlery/api.ErrOut", laid_chandlery_api_ErrOut), ("chandlery/api.ErrClash", laid_chandlery_api_ErrClash), ("chandlery/api.ErrSum", laid_chandlery_api_ErrSum), ("chandlery/api.ErrOff", laid_chandlery_api_ErrOff)], narrowed := true }
def PathInsideUptoSaid : Prop := pathInsideUptoRow.holds Tryd.pinned (OpenSpec.upto pathInsideSpec)

/-- 'chandlerylaw1.PathTells', WHERE WHAT IT READS IS OF BULK AT MOST 1048576: true; the input reads as it did. -/
def pathTellsUptoRow : OpenClaim := { program := "ytpogcedghbokbaadoor", sum := "4d3a3cbd8714b830e30af5f502375f277a86a503e87fc65f7034f9af80fa9d72", func := "chandlery/chandlerylaw1.PathTells", spec := "pathTells", inPlace := ["internal/bytealg.IndexByteString", "internal/bytealg.IndexString", "internal/abi.NoEscape", "internal/bytealg.MakeNoZero", "internal/reflectlite.ValueOf", "(internal/reflectlite.Value).Type", "(internal/reflectlite.Value).IsNil", "internal/reflectlite.TypeOf", "(internal/reflectlite.Value).Elem", "(internal/reflectlite.Value).Set"], unfollowed := true, recurses := true, named := ["chandlery/api.ErrShape", "chandlery/api.ErrOut", "chandlery/api.ErrName", "chandlery/api.ErrFull", "internal/bytealg.MaxLen", "chandlery/api.ErrText", "chandlery/api.ErrBound", "chandlery/api.ErrKind", "chandlery/api.ErrNone", "chandlery/api.ErrExist", "chandlery/api.ErrOrder", "chandlery/api.ErrClash", "chandlery/api.ErrSum", "chandlery/api.ErrOff", "errors.errorType"], apart := false, laid := [("errors.errorType", laid_errors_errorType), ("chandlery/api.ErrText", laid_chandlery_api_ErrText), ("chandlery/api.ErrBound", laid_chandlery_api_ErrBound), ("chandlery/api.ErrShape", laid_chandlery_api_ErrShape), ("chandlery/api.ErrKind", laid_chandlery_api_ErrKind), ("chandlery/api.ErrName", laid_chandlery_api_ErrName), ("chandlery/api.ErrNone", laid_chandlery_api_ErrNone), ("chandlery/api.ErrExist", laid_chandlery_api_ErrExist), ("chandlery/api.ErrFull", laid_chandlery_api_ErrFull), ("chandlery/api.ErrOrder", laid_chandlery_api_ErrOrder), ("chandlery/api.ErrOut", laid_chandlery_api_ErrOut), ("chandlery/api.ErrClash", laid_chandlery_api_ErrClash), ("chandlery/api.ErrSum", laid_chandlery_api_ErrSum), ("chandlery/api.ErrOff", laid_chandlery_api_ErrOff)], narrowed := true }
def PathTellsUptoSaid : Prop := pathTellsUptoRow.holds Tryd.pinned (OpenSpec.upto pathTellsSpec)

/-- 'chandlerylaw1.PathStrips', WHERE WHAT IT READS IS OF BULK AT MOST 1048576: true; the input reads as it did. -/
def pathStripsUptoRow : OpenClaim := { program := "ytpogcedghbokbaadoor", sum := "4d3a3cbd8714b830e30af5f502375f277a86a503e87fc65f7034f9af80fa9d72", func := "chandlery/chandlerylaw1.PathStrips", spec := "pathStrips", inPlace := ["internal/bytealg.IndexByteString", "internal/bytealg.IndexString", "internal/abi.NoEscape", "internal/bytealg.MakeNoZero", "internal/reflectlite.ValueOf", "(internal/reflectlite.Value).Type", "(internal/reflectlite.Value).IsNil", "internal/reflectlite.TypeOf", "(internal/reflectlite.Value).Elem", "(internal/reflectlite.Value).Set"], unfollowed := true, recurses := true, named := ["chandlery/api.ErrShape", "chandlery/api.ErrOut", "chandlery/api.ErrName", "chandlery/api.ErrFull", "internal/bytealg.MaxLen", "chandlery/api.ErrText", "chandlery/api.ErrBound", "chandlery/api.ErrKind", "chandlery/api.ErrNone", "chandlery/api.ErrExist", "chandlery/api.ErrOrder", "chandlery/api.ErrClash", "chandlery/api.ErrSum", "chandlery/api.ErrOff", "errors.errorType"], apart := false, laid := [("errors.errorType", laid_errors_errorType), ("chandlery/api.ErrText", laid_chandlery_api_ErrText), ("chandlery/api.ErrBound", laid_chandlery_api_ErrBound), ("chandlery/api.ErrShape", laid_chandlery_api_ErrShape), ("chandlery/api.ErrKind", laid_chandlery_api_ErrKind), ("chandlery/api.ErrName", laid_chandlery_api_ErrName), ("chandlery/api.ErrNone", laid_chandlery_api_ErrNone), ("chandlery/api.ErrExist", laid_chandlery_api_ErrExist), ("chandlery/api.ErrFull", laid_chandlery_api_ErrFull), ("chandlery/api.ErrOrder", laid_chandlery_api_ErrOrder), ("chandlery/api.ErrOut", laid_chandlery_api_ErrOut), ("chandlery/api.ErrClash", laid_chandlery_api_ErrClash), ("chandlery/api.ErrSum", laid_chandlery_api_ErrSum), ("chandlery/api.ErrOff", laid_chandlery_api_ErrOff)], narrowed := true }
def PathStripsUptoSaid : Prop := pathStripsUptoRow.holds Tryd.pinned (OpenSpec.upto pathStripsSpec)

end Rows
end Go.Proofs.YtpogcedghbokbaaDoor
