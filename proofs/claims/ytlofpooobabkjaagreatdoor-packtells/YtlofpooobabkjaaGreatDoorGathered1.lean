/-
  Own texts of the proof, gathered by program in their build order: Errs, As, Code, ErrV, Pure, Part, Shelf, Cut, Check, Clean, Coded, CodedV, Paths.
-/
import Derived.Test.YtlofpooobabkjaaGreatDoorProg
import Derived.WalkKit
import Derived.LaidEql
import Derived.Stop.Asserts
import Derived.RowKitTokens
import Derived.Test.YtlofpooobabkjaaGreatDoorChecked
import Derived.Lib.Strings
import Derived.Lib.Bytealg
import Derived.Lib.Join
import Derived.WalkSmall
import Derived.WalkSpells
import Derived.Shelf.Strings.Builder1
import Derived.Shelf.Small.Wraps
import Derived.Shelf.Strings.BuilderF
import Derived.Shelf.Strings.BuilderK
import Derived.Shelf.Strconv.Atoi
import Derived.Shelf.Strconv.Itoa0
import Derived.Shelf.Strconv.Itoa1
import Derived.Shelf.LaysM
import Derived.Shelf.Strconv.Itoa2
import Derived.Shelf.Strconv.Itoa3
import Derived.Shelf.Strconv.AtoiErrFast
import Derived.Shelf.Strconv.ParseIntEmpty
import Derived.Shelf.Strconv.AtoiFail
import Derived.Shelf.Strconv.Clone
import Derived.Shelf.Strconv.SyntaxError
import Derived.Shelf.LaysC
import Derived.Shelf.Strconv.ToError
import Derived.Shelf.Strconv.Lower
import Derived.Shelf.Strconv.ParseUint10
import Derived.Shelf.Strconv.ParseUint10Empty
import Derived.Shelf.Strconv.ParseUint10Any
import Derived.Shelf.Strconv.ParseInt10
import Derived.Shelf.Strconv.AtoiLong
import Derived.Shelf.Strconv.AtoiInnerAll
import Derived.Shelf.Strconv.RangeError
import Derived.Shelf.Strconv.ToErrorRange
import Derived.Shelf.Strconv.AtoiAll
import Derived.Shelf.Strconv.ErrVarAll
import Derived.Shelf.Strings.Search1
import Derived.Shelf.Strings.Search2
import Derived.Shelf.Strings.Search3
import Derived.Shelf.Strings.Cut
import Derived.Shelf.Strings.Count
import Derived.Shelf.Strings.Shaped
import Derived.Shelf.Strings.Prefix
import Derived.Shelf.Strings.Split
import Derived.Shelf.Unicode.DecodeSlow
import Derived.RangeFuncNested
import Derived.RangeFuncBound
import Derived.RangeFuncCalls
import Derived.RangeFuncLeaves
import Derived.RangeFuncBox
import Derived.Shelf.Abstract
import Derived.Shelf.RegionOpen
import Derived.OwnWalkIn
import Derived.TacticsInMore
import Derived.LoopNIn
import Derived.LoopIn
import Derived.Maps.AppendAt
import Derived.Deep.QuietTactic
import Derived.BigQuiet
import Derived.RegionIn
import Derived.Deep.Onto
/-
  errors.Is and errors.As answer, at the errors of package api and at a *api.Fault, as their text says: contracts of the two calls, over this seat's translation.
  Conditions: the variable errors.errorType holds the handle of type error; two errors that differ lie in two unmarked blocks.
-/
namespace Go.Proofs.YtlofpooobabkjaaGreatDoor
open Go.RowKit Go.Extern.Stop Go.Stop Go.Extern

/-! ### errors.Is -/
theorem Tryz.isTypeOf (v : Value) (w : World) : (Extern.ReflectliteType.typeOf #[.iface 171 v]).run Tryz.prog w = .ok (.iface 114 (.agg #[.pointer (some ⟨22, 171, none⟩)])) w := by kernel_rfl
def comparableFn : Array Value → Sem Value := Extern.ReflectliteType.method fun t => do Extern.Rtype.noPackHeld "Comparable" t; pure (.bool (← typeInfo t).comparable)
theorem Tryz.isComparable (w : World) : (comparableFn #[.agg #[.pointer (some ⟨22, 171, none⟩)]]).run Tryz.prog w = .ok (.bool true) w := by kernel_rfl
theorem Tryz.isMethodComparable (v : Value) (w : World) : (Go.method 301 114 v "Comparable").run Tryz.prog w = .ok (135, v) w := by kernel_rfl
theorem Tryz.isComp : (Tryz.prog.info? 171).map (·.comparable) = some true := by kernel_rfl
theorem Tryz.isSize : (Tryz.prog.info? 173).map (·.size) = some 1 := by kernel_rfl

theorem Tryz.noIsE (v : Value) (xT : TypeId) (w : World) : (Instr.typeAssert (.iface 171 v) xT 125 true).run Tryz.prog w = .ok (.tuple #[.nilIface, .bool false]) w := run_typeAssert_lacksB Tryz.underlying125 (by kernel_rfl) (by kernel_rfl) v xT w
theorem Tryz.noAsE (v : Value) (xT : TypeId) (w : World) : (Instr.typeAssert (.iface 171 v) xT 118 true).run Tryz.prog w = .ok (.tuple #[.nilIface, .bool false]) w := run_typeAssert_lacksB Tryz.underlying118 (by kernel_rfl) (by kernel_rfl) v xT w
theorem Tryz.noUnwrapE (v : Value) (xT : TypeId) (w : World) : (Instr.typeAssert (.iface 171 v) xT 121 true).run Tryz.prog w = .ok (.tuple #[.nilIface, .bool false]) w := run_typeAssert_lacksB Tryz.underlying121 (by kernel_rfl) (by kernel_rfl) v xT w
theorem Tryz.noUnwrapsE (v : Value) (xT : TypeId) (w : World) : (Instr.typeAssert (.iface 171 v) xT 123 true).run Tryz.prog w = .ok (.tuple #[.nilIface, .bool false]) w := run_typeAssert_lacksB Tryz.underlying123 (by kernel_rfl) (by kernel_rfl) v xT w
theorem Tryz.noIsF (v : Value) (xT : TypeId) (w : World) : (Instr.typeAssert (.iface 62 v) xT 125 true).run Tryz.prog w = .ok (.tuple #[.nilIface, .bool false]) w := run_typeAssert_lacksB Tryz.underlying125 (by kernel_rfl) (by kernel_rfl) v xT w
theorem Tryz.hasUnwrapF (v : Value) (xT : TypeId) (w : World) : (Instr.typeAssert (.iface 62 v) xT 121 true).run Tryz.prog w = .ok (.tuple #[.iface 62 v, .bool true]) w := run_typeAssert_hasB Tryz.underlying121 (by kernel_rfl) v xT w
theorem Tryz.methodUnwrap (v : Value) (w : World) : (Go.method 301 62 v "Unwrap").run Tryz.prog w = .ok (129, v) w := by kernel_rfl

/-- errors.Is(x, x), x of errors.New's make. -/
theorem is_same (a : Addr) (w : World) :
    Calls Tryz.prog 36 #[.iface 171 (.pointer (some a)), .iface 171 (.pointer (some a))] w fun e w' => e = .returned (.bool true) ∧ w' = w := by
  obtain ⟨i, hi, hcmp⟩ := Option.map_eq_some_iff.1 Tryz.isComp
  obtain ⟨j, hj, hjs⟩ := Option.map_eq_some_iff.1 Tryz.isSize
  have h40 := @run_callFunc_extern Tryz.prog 53 _ Extern.ReflectliteType.typeOf Tryz.func53 (by kernel_rfl) (by kernel_rfl) (by kernel_rfl) (by kernel_rfl)
  have h90 := @run_callFunc_extern Tryz.prog 135 _ comparableFn Tryz.func135 (by kernel_rfl) (by kernel_rfl) (by kernel_rfl) (by kernel_rfl)
  have tT := Tryz.isTypeOf
  have cT := Tryz.isComparable
  have mR := Tryz.isMethodComparable
  have heq := run_eql_iface_ptr_same (P := Tryz.prog) w a Tryz.underlying26 Tryz.underlying171 hi hcmp hj
  go_enter Tryz.func36, Tryz.ntmps36
  go_wp2
  refine wp_loop_rounds 1 ?_
  rw [rounds_succ]
  go_wp2
  go_ret
  exact ⟨rfl, rfl⟩

/-- errors.Is(x, y), two different ones of errors.New's make. -/
theorem is_other (a b : Addr) (ca cb : Array Value) (ta tb : TypeId) (w : World) (hne : a ≠ b) (ha : w.heap[a.block]? = some (.cells ca ta (0, 0))) (hb : w.heap[b.block]? = some (.cells cb tb (0, 0))) :
    Calls Tryz.prog 36 #[.iface 171 (.pointer (some a)), .iface 171 (.pointer (some b))] w fun e w' => e = .returned (.bool false) ∧ w' = w := by
  obtain ⟨i, hi, hcmp⟩ := Option.map_eq_some_iff.1 Tryz.isComp
  obtain ⟨j, hj, hjs⟩ := Option.map_eq_some_iff.1 Tryz.isSize
  have h40 := @run_callFunc_extern Tryz.prog 53 _ Extern.ReflectliteType.typeOf Tryz.func53 (by kernel_rfl) (by kernel_rfl) (by kernel_rfl) (by kernel_rfl)
  have h90 := @run_callFunc_extern Tryz.prog 135 _ comparableFn Tryz.func135 (by kernel_rfl) (by kernel_rfl) (by kernel_rfl) (by kernel_rfl)
  have tT := Tryz.isTypeOf
  have cT := Tryz.isComparable
  have mR := Tryz.isMethodComparable
  have nE := Tryz.noIsE
  have uE := Tryz.noUnwrapE
  have vE := Tryz.noUnwrapsE
  have heq := run_eql_iface_ptr_other (P := Tryz.prog) w Tryz.underlying26 Tryz.underlying171 hi hcmp hj (by rw [hjs]; decide) hne ha hb
  go_enter Tryz.func36, Tryz.ntmps36
  go_wp2
  refine wp_loop_rounds 1 ?_
  rw [rounds_succ]
  go_wp2
  go_ret
  exact ⟨rfl, rfl⟩

/-- errors.Is(f, x), f a *api.Fault that bears x itself. -/
theorem is_fault_same (pb po : Nat) (b : Addr) (w : World) (h1 : w.cell? ⟨pb, po + 1, none⟩ = some (.iface 171 (.pointer (some b)))) :
    Calls Tryz.prog 36 #[.iface 62 (.pointer (some ⟨pb, po, none⟩)), .iface 171 (.pointer (some b))] w fun e w' => e = .returned (.bool true) ∧ w' = w := by
  obtain ⟨i, hi, hcmp⟩ := Option.map_eq_some_iff.1 Tryz.isComp
  obtain ⟨j, hj, hjs⟩ := Option.map_eq_some_iff.1 Tryz.isSize
  have h40 := @run_callFunc_extern Tryz.prog 53 _ Extern.ReflectliteType.typeOf Tryz.func53 (by kernel_rfl) (by kernel_rfl) (by kernel_rfl) (by kernel_rfl)
  have h90 := @run_callFunc_extern Tryz.prog 135 _ comparableFn Tryz.func135 (by kernel_rfl) (by kernel_rfl) (by kernel_rfl) (by kernel_rfl)
  have tT := Tryz.isTypeOf
  have cT := Tryz.isComparable
  have mR := Tryz.isMethodComparable
  have nW := Tryz.noIsF
  have uW := Tryz.hasUnwrapF
  have mU := Tryz.methodUnwrap
  have heq := run_eql_iface_ptr_same (P := Tryz.prog) w b Tryz.underlying26 Tryz.underlying171 hi hcmp hj
  have hty := run_eql_iface_types (P := Tryz.prog) 62 171 (.pointer (some ⟨pb, po, none⟩)) (.pointer (some b)) Tryz.underlying26 (by decide) w
  go_enter Tryz.func36, Tryz.ntmps36
  go_wp2
  refine wp_loop_rounds 2 ?_
  rw [rounds_succ]
  go_wp2
  rw [rounds_succ]
  go_wp2
  go_ret
  exact ⟨rfl, rfl⟩

/-- errors.Is(f, x), f a *api.Fault that bears another one. -/
theorem is_fault_other (pb po : Nat) (b a : Addr) (ca cb : Array Value) (ta tb : TypeId) (w : World) (h1 : w.cell? ⟨pb, po + 1, none⟩ = some (.iface 171 (.pointer (some a)))) (hne : a ≠ b) (ha : w.heap[a.block]? = some (.cells ca ta (0, 0))) (hb : w.heap[b.block]? = some (.cells cb tb (0, 0))) :
    Calls Tryz.prog 36 #[.iface 62 (.pointer (some ⟨pb, po, none⟩)), .iface 171 (.pointer (some b))] w fun e w' => e = .returned (.bool false) ∧ w' = w := by
  obtain ⟨i, hi, hcmp⟩ := Option.map_eq_some_iff.1 Tryz.isComp
  obtain ⟨j, hj, hjs⟩ := Option.map_eq_some_iff.1 Tryz.isSize
  have h40 := @run_callFunc_extern Tryz.prog 53 _ Extern.ReflectliteType.typeOf Tryz.func53 (by kernel_rfl) (by kernel_rfl) (by kernel_rfl) (by kernel_rfl)
  have h90 := @run_callFunc_extern Tryz.prog 135 _ comparableFn Tryz.func135 (by kernel_rfl) (by kernel_rfl) (by kernel_rfl) (by kernel_rfl)
  have tT := Tryz.isTypeOf
  have cT := Tryz.isComparable
  have mR := Tryz.isMethodComparable
  have nE := Tryz.noIsE
  have uE := Tryz.noUnwrapE
  have vE := Tryz.noUnwrapsE
  have nW := Tryz.noIsF
  have uW := Tryz.hasUnwrapF
  have mU := Tryz.methodUnwrap
  have heq := run_eql_iface_ptr_other (P := Tryz.prog) w Tryz.underlying26 Tryz.underlying171 hi hcmp hj (by rw [hjs]; decide) hne ha hb
  have hty := run_eql_iface_types (P := Tryz.prog) 62 171 (.pointer (some ⟨pb, po, none⟩)) (.pointer (some b)) Tryz.underlying26 (by decide) w
  go_enter Tryz.func36, Tryz.ntmps36
  go_wp2
  refine wp_loop_rounds 2 ?_
  rw [rounds_succ]
  go_wp2
  rw [rounds_succ]
  go_wp2
  go_ret
  exact ⟨rfl, rfl⟩
end Go.Proofs.YtlofpooobabkjaaGreatDoor
/-
  errors.As with a **api.Fault as its target answers false at an error of errors.New's make and at nil, and true at a *api.Fault, which it then stores: contracts of that call, over this seat's translation.
  Conditions: the variable errors.errorType holds the handle of type error; the target's cell is there and may be written.
-/
namespace Go.Proofs.YtlofpooobabkjaaGreatDoor
open Go.RowKit Go.Extern.Stop Go.Stop Go.Extern

theorem Tryz.valueOf54 (t : Addr) (w : World) : (ReflectliteValue.unpack (.iface 75 (.pointer (some t)))).run Tryz.prog w
    = .ok (.agg #[.pointer (some ⟨22, 75, none⟩), .pointer (some ⟨w.heap.size, 0, none⟩), .int .u64 150]) (w.alloc (.cells #[.pointer (some t)] 75)) := by kernel_rfl
theorem Tryz.type54 (a : Addr) (w : World) : (ReflectliteValue.methodAny (ReflectliteValue.valueError "reflectlite.Value.Type" 0) (fun t _ _ _ => ReflectliteType.toType t) #[.agg #[.pointer (some ⟨22, 75, none⟩), .pointer (some a), .int .u64 150]]).run Tryz.prog w
    = .ok (.iface 114 (.agg #[.pointer (some ⟨22, 75, none⟩)])) w := by kernel_rfl
theorem Tryz.methodKind (h : Value) (w : World) : (Go.method 301 114 (.agg #[h]) "Kind").run Tryz.prog w = .ok (124, h) w := by kernel_rfl
theorem Tryz.kind54 (w : World) : ((ReflectliteType.abiMethod fun t => (fun a : Nat => Value.int IntKind.u8 (a : Int)) <$> Rtype.kind t) #[.pointer (some ⟨22, 75, none⟩)]).run Tryz.prog w = .ok (.int .u8 22) w := by kernel_rfl
theorem Tryz.kind29 (w : World) : ((ReflectliteType.abiMethod fun t => (fun a : Nat => Value.int IntKind.u8 (a : Int)) <$> Rtype.kind t) #[.pointer (some ⟨22, 62, none⟩)]).run Tryz.prog w = .ok (.int .u8 22) w := by kernel_rfl

theorem Tryz.parts54 (a : Addr) (w : World) : (ReflectliteValue.parts (.agg #[.pointer (some ⟨22, 75, none⟩), .pointer (some a), .int .u64 150])).run Tryz.prog w = .ok (some (75, a, 150)) w := by kernel_rfl
theorem Tryz.isNil54 (a p : Addr) (W : World) (ha : W.cell? a = some (.pointer (some p))) :
    (ReflectliteValue.method (ReflectliteValue.valueError "reflectlite.Value.IsNil" 0) ReflectliteValue.isNil #[.agg #[.pointer (some ⟨22, 75, none⟩), .pointer (some a), .int .u64 150]]).run Tryz.prog W = .ok (.bool false) W := by
  rw [show ∀ (z : Sem Value) (f : TypeId → Addr → Nat → Nat → Sem Value) (v : Value), ReflectliteValue.method z f #[v] = (ReflectliteValue.parts v >>= _) from fun _ _ _ => rfl]
  simp only [Sem.run_bind, Tryz.parts54, Result.andThen]
  simp [ReflectliteValue.isNil, loadVar, isAgg, underlying, Tryz.underlying75, ha, Result.andThen]

theorem Tryz.methodElem (h : Value) (w : World) : (Go.method 301 114 (.agg #[h]) "Elem").run Tryz.prog w = .ok (136, .agg #[h]) w := by kernel_rfl
theorem Tryz.methodImplements (h : Value) (w : World) : (Go.method 301 114 (.agg #[h]) "Implements").run Tryz.prog w = .ok (137, .agg #[h]) w := by kernel_rfl
theorem Tryz.methodAssignableTo (h : Value) (w : World) : (Go.method 301 114 (.agg #[h]) "AssignableTo").run Tryz.prog w = .ok (134, .agg #[h]) w := by kernel_rfl
theorem Tryz.elem54 (w : World) : (ReflectliteType.method ReflectliteType.elem #[.agg #[.pointer (some ⟨22, 75, none⟩)]]).run Tryz.prog w = .ok (.iface 114 (.agg #[.pointer (some ⟨22, 62, none⟩)])) w := by kernel_rfl
theorem Tryz.implements29 (w : World) : (ReflectliteType.relation "Implements" ReflectliteType.implements_ #[.agg #[.pointer (some ⟨22, 62, none⟩)], .iface 114 (.agg #[.pointer (some ⟨22, 26, none⟩)])]).run Tryz.prog w = .ok (.bool true) w := by kernel_rfl
theorem Tryz.typeOf29 (v : Value) (w : World) : (ReflectliteType.typeOf #[.iface 62 v]).run Tryz.prog w = .ok (.iface 114 (.agg #[.pointer (some ⟨22, 62, none⟩)])) w := by kernel_rfl
theorem Tryz.assignable29 (w : World) : (ReflectliteType.relation "AssignableTo" ReflectliteType.assignableTo #[.agg #[.pointer (some ⟨22, 62, none⟩)], .iface 114 (.agg #[.pointer (some ⟨22, 62, none⟩)])]).run Tryz.prog w = .ok (.bool true) w := by kernel_rfl
theorem Tryz.assignable56 (w : World) : (ReflectliteType.relation "AssignableTo" ReflectliteType.assignableTo #[.agg #[.pointer (some ⟨22, 171, none⟩)], .iface 114 (.agg #[.pointer (some ⟨22, 62, none⟩)])]).run Tryz.prog w = .ok (.bool false) w := by kernel_rfl
theorem Tryz.valueOf29 (e : Addr) (w : World) : (ReflectliteValue.unpack (.iface 62 (.pointer (some e)))).run Tryz.prog w
    = .ok (.agg #[.pointer (some ⟨22, 62, none⟩), .pointer (some ⟨w.heap.size, 0, none⟩), .int .u64 150]) (w.alloc (.cells #[.pointer (some e)] 62)) := by kernel_rfl

theorem Tryz.elemOf54 (w : World) : (Rtype.elem? 75).run Tryz.prog w = .ok (some 62) w := by kernel_rfl
theorem Tryz.mk29 (p : Addr) (w : World) : (ReflectliteValue.mk 62 p ReflectliteValue.flagAddr).run Tryz.prog w = .ok (.agg #[.pointer (some ⟨22, 62, none⟩), .pointer (some p), .int .u64 406]) w := by kernel_rfl
theorem Tryz.elemV54 (a p : Addr) (W : World) (ha : W.cell? a = some (.pointer (some p))) :
    (ReflectliteValue.method (ReflectliteValue.valueError "reflectlite.Value.Elem" 0) ReflectliteValue.elem #[.agg #[.pointer (some ⟨22, 75, none⟩), .pointer (some a), .int .u64 150]]).run Tryz.prog W
      = .ok (.agg #[.pointer (some ⟨22, 62, none⟩), .pointer (some p), .int .u64 406]) W := by
  rw [show ∀ (z : Sem Value) (f : TypeId → Addr → Nat → Nat → Sem Value) (v : Value), ReflectliteValue.method z f #[v] = (ReflectliteValue.parts v >>= _) from fun _ _ _ => rfl]
  simp only [Sem.run_bind, Tryz.parts54, Result.andThen]
  simp [ReflectliteValue.elem, loadVar, isAgg, underlying, Tryz.underlying75, ha, Result.andThen, Tryz.elemOf54, Tryz.mk29]
theorem Tryz.parts29a (a : Addr) (w : World) : (ReflectliteValue.parts (.agg #[.pointer (some ⟨22, 62, none⟩), .pointer (some a), .int .u64 406])).run Tryz.prog w = .ok (some (62, a, 406)) w := by kernel_rfl
theorem Tryz.parts29 (a : Addr) (w : World) : (ReflectliteValue.parts (.agg #[.pointer (some ⟨22, 62, none⟩), .pointer (some a), .int .u64 150])).run Tryz.prog w = .ok (some (62, a, 150)) w := by kernel_rfl
theorem Tryz.direct29 (w : World) : (Rtype.directlyAssignable 62 62).run Tryz.prog w = .ok true w := by kernel_rfl
theorem Tryz.set29 (ta b e : Addr) (old : Value) (W : World) (hb : W.cell? b = some (.pointer (some e))) (ht : W.cell? ta = some old) (hf : W.frozen? ta = false) :
    (ReflectliteValue.set #[.agg #[.pointer (some ⟨22, 62, none⟩), .pointer (some ta), .int .u64 406], .agg #[.pointer (some ⟨22, 62, none⟩), .pointer (some b), .int .u64 150]]).run Tryz.prog W
      = .ok (.tuple #[]) (W.setCell ta (.pointer (some e))) := by
  rw [show ∀ v x : Value, ReflectliteValue.set #[v, x] = (ReflectliteValue.parts v >>= fun p => ReflectliteValue.parts x >>= fun q => _) from fun _ _ => rfl]
  simp only [Sem.run_bind, Tryz.parts29a, Tryz.parts29, Result.andThen]
  simp [ReflectliteValue.flagAddr, loadVar, isAgg, underlying, Tryz.underlying62, hb, Result.andThen, Tryz.direct29, storeVar, Value.cells, storeCells, Addr.add]
  rw [run_store Tryz.prog W ta _ _ (by rfl)]
  simp [ht, hf]

/-- errors.As(x, target), x of errors.New's make, target a **api.Fault: false; nothing that was there has turned. -/
theorem as_miss (e t : Addr) (w : World) (hg : w.cell? ⟨13, 0, none⟩ = some (.iface 114 (.agg #[.pointer (some ⟨22, 26, none⟩)]))) :
    Calls Tryz.prog 35 #[.iface 171 (.pointer (some e)), .iface 75 (.pointer (some t))] w fun ev w' => ev = .returned (.bool false) ∧ Below w.heap.size w w' := by
  have h36 := @run_callFunc_extern Tryz.prog 49 _ (fun args => ReflectliteValue.unpack (args.getD 0 (.tuple #[]))) Tryz.func49 (by kernel_rfl) (by kernel_rfl) (by kernel_rfl) (by kernel_rfl)
  have h37 := @run_callFunc_extern Tryz.prog 50 _ (ReflectliteValue.methodAny (ReflectliteValue.valueError "reflectlite.Value.Type" 0) (fun t _ _ _ => ReflectliteType.toType t)) Tryz.func50 (by kernel_rfl) (by kernel_rfl) (by kernel_rfl) (by kernel_rfl)
  have h38 := @run_callFunc_extern Tryz.prog 51 _ (ReflectliteValue.method (ReflectliteValue.valueError "reflectlite.Value.IsNil" 0) ReflectliteValue.isNil) Tryz.func51 (by kernel_rfl) (by kernel_rfl) (by kernel_rfl) (by kernel_rfl)
  have h78 := @run_callFunc_extern Tryz.prog 124 _ (ReflectliteType.abiMethod fun t => do pure (.int .u8 (← Rtype.kind t))) Tryz.func124 (by kernel_rfl) (by kernel_rfl) (by kernel_rfl) (by kernel_rfl)
  have h91 := @run_callFunc_extern Tryz.prog 136 _ (ReflectliteType.method ReflectliteType.elem) Tryz.func136 (by kernel_rfl) (by kernel_rfl) (by kernel_rfl) (by kernel_rfl)
  have h92 := @run_callFunc_extern Tryz.prog 137 _ (ReflectliteType.relation "Implements" ReflectliteType.implements_) Tryz.func137 (by kernel_rfl) (by kernel_rfl) (by kernel_rfl) (by kernel_rfl)
  have h40 := @run_callFunc_extern Tryz.prog 53 _ ReflectliteType.typeOf Tryz.func53 (by kernel_rfl) (by kernel_rfl) (by kernel_rfl) (by kernel_rfl)
  have h89 := @run_callFunc_extern Tryz.prog 134 _ (ReflectliteType.relation "AssignableTo" ReflectliteType.assignableTo) Tryz.func134 (by kernel_rfl) (by kernel_rfl) (by kernel_rfl) (by kernel_rfl)
  have tO := Tryz.isTypeOf
  have mA := Tryz.methodAssignableTo
  have a56 := Tryz.assignable56
  have f6 := Tryz.valueOf54
  have f7 := Tryz.type54
  have mK := Tryz.methodKind
  have mE := Tryz.methodElem
  have mI := Tryz.methodImplements
  have k54 := Tryz.kind54
  have k29 := Tryz.kind29
  have e54 := Tryz.elem54
  have i29 := Tryz.implements29
  have nE := Tryz.noAsE
  have uE := Tryz.noUnwrapE
  have vE := Tryz.noUnwrapsE
  have n8 := Tryz.isNil54 ⟨w.heap.size, 0, none⟩ t ((w.alloc (.cells #[.pointer (some t)] 75)).alloc (.cells #[.pointer (some ⟨22, 75, none⟩), .pointer (some ⟨w.heap.size, 0, none⟩), .int .u64 150] 93)) (by simp)
  have hlt : 13 < w.heap.size := by
    rcases Nat.lt_or_ge 13 w.heap.size with h | h
    · exact h
    · simp [World.cell?, Array.getElem?_eq_none h] at hg
  have hg2 : ((w.alloc (.cells #[.pointer (some t)] 75)).alloc (.cells #[.pointer (some ⟨22, 75, none⟩), .pointer (some ⟨w.heap.size, 0, none⟩), .int .u64 150] 93)).cell? ⟨13, 0, none⟩ = some (.iface 114 (.agg #[.pointer (some ⟨22, 26, none⟩)])) := by
    rw [World.cell?_alloc_lt _ _ ⟨13, 0, none⟩ (by simp; omega), World.cell?_alloc_lt _ _ ⟨13, 0, none⟩ hlt]; exact hg
  go_enter Tryz.func35, Tryz.ntmps35
  go_wp2
  refine wp_loop_rounds 1 ?_
  rw [rounds_succ]
  go_wp2
  go_ret
  exact ⟨rfl, (((Below.refl _ _).alloc (Nat.le_refl _) _).alloc (by simp) _).alloc (by simp; omega) _⟩

set_option maxHeartbeats 4000000 in
/-- errors.As(f, target), f a *api.Fault, target a **api.Fault: true; the target holds f; nothing else that was there has turned. -/
theorem as_hit (e t : Addr) (old : Value) (w : World) (hg : w.cell? ⟨13, 0, none⟩ = some (.iface 114 (.agg #[.pointer (some ⟨22, 26, none⟩)]))) (ht0 : w.cell? t = some old) (hf0 : w.frozen? t = false) :
    Calls Tryz.prog 35 #[.iface 62 (.pointer (some e)), .iface 75 (.pointer (some t))] w fun ev w' => ev = .returned (.bool true) ∧ w' = ((((w.alloc (.cells #[.pointer (some t)] 75)).alloc (.cells #[.pointer (some ⟨22, 75, none⟩), .pointer (some ⟨w.heap.size, 0, none⟩), .int .u64 150] 93)).alloc (.cells #[.pointer (some ⟨22, 75, none⟩), .pointer (some ⟨w.heap.size, 0, none⟩), .int .u64 150] 93)).alloc (.cells #[.pointer (some e)] 62)).setCell t (.pointer (some e)) := by
  have h36 := @run_callFunc_extern Tryz.prog 49 _ (fun args => ReflectliteValue.unpack (args.getD 0 (.tuple #[]))) Tryz.func49 (by kernel_rfl) (by kernel_rfl) (by kernel_rfl) (by kernel_rfl)
  have h37 := @run_callFunc_extern Tryz.prog 50 _ (ReflectliteValue.methodAny (ReflectliteValue.valueError "reflectlite.Value.Type" 0) (fun t _ _ _ => ReflectliteType.toType t)) Tryz.func50 (by kernel_rfl) (by kernel_rfl) (by kernel_rfl) (by kernel_rfl)
  have h38 := @run_callFunc_extern Tryz.prog 51 _ (ReflectliteValue.method (ReflectliteValue.valueError "reflectlite.Value.IsNil" 0) ReflectliteValue.isNil) Tryz.func51 (by kernel_rfl) (by kernel_rfl) (by kernel_rfl) (by kernel_rfl)
  have h78 := @run_callFunc_extern Tryz.prog 124 _ (ReflectliteType.abiMethod fun t => do pure (.int .u8 (← Rtype.kind t))) Tryz.func124 (by kernel_rfl) (by kernel_rfl) (by kernel_rfl) (by kernel_rfl)
  have h91 := @run_callFunc_extern Tryz.prog 136 _ (ReflectliteType.method ReflectliteType.elem) Tryz.func136 (by kernel_rfl) (by kernel_rfl) (by kernel_rfl) (by kernel_rfl)
  have h92 := @run_callFunc_extern Tryz.prog 137 _ (ReflectliteType.relation "Implements" ReflectliteType.implements_) Tryz.func137 (by kernel_rfl) (by kernel_rfl) (by kernel_rfl) (by kernel_rfl)
  have h40 := @run_callFunc_extern Tryz.prog 53 _ ReflectliteType.typeOf Tryz.func53 (by kernel_rfl) (by kernel_rfl) (by kernel_rfl) (by kernel_rfl)
  have h89 := @run_callFunc_extern Tryz.prog 134 _ (ReflectliteType.relation "AssignableTo" ReflectliteType.assignableTo) Tryz.func134 (by kernel_rfl) (by kernel_rfl) (by kernel_rfl) (by kernel_rfl)
  have h50 := @run_callFunc_extern Tryz.prog 66 _ (ReflectliteValue.method (ReflectliteValue.valueError "reflectlite.Value.Elem" 0) ReflectliteValue.elem) Tryz.func66 (by kernel_rfl) (by kernel_rfl) (by kernel_rfl) (by kernel_rfl)
  have h51 := @run_callFunc_extern Tryz.prog 67 _ ReflectliteValue.set Tryz.func67 (by kernel_rfl) (by kernel_rfl) (by kernel_rfl) (by kernel_rfl)
  have tO := Tryz.typeOf29
  have mA := Tryz.methodAssignableTo
  have a29 := Tryz.assignable29
  have v29 := Tryz.valueOf29
  have f6 := Tryz.valueOf54
  have f7 := Tryz.type54
  have mK := Tryz.methodKind
  have mE := Tryz.methodElem
  have mI := Tryz.methodImplements
  have k54 := Tryz.kind54
  have k29 := Tryz.kind29
  have e54 := Tryz.elem54
  have i29 := Tryz.implements29
  have n8 := Tryz.isNil54 ⟨w.heap.size, 0, none⟩ t ((w.alloc (.cells #[.pointer (some t)] 75)).alloc (.cells #[.pointer (some ⟨22, 75, none⟩), .pointer (some ⟨w.heap.size, 0, none⟩), .int .u64 150] 93)) (by simp)
  have hlt : 13 < w.heap.size := by
    rcases Nat.lt_or_ge 13 w.heap.size with h | h
    · exact h
    · simp [World.cell?, Array.getElem?_eq_none h] at hg
  have hg2 : ((w.alloc (.cells #[.pointer (some t)] 75)).alloc (.cells #[.pointer (some ⟨22, 75, none⟩), .pointer (some ⟨w.heap.size, 0, none⟩), .int .u64 150] 93)).cell? ⟨13, 0, none⟩ = some (.iface 114 (.agg #[.pointer (some ⟨22, 26, none⟩)])) := by
    rw [World.cell?_alloc_lt _ _ ⟨13, 0, none⟩ (by simp; omega), World.cell?_alloc_lt _ _ ⟨13, 0, none⟩ hlt]; exact hg
  have htl : t.block < w.heap.size := by
    rcases Nat.lt_or_ge t.block w.heap.size with h | h
    · exact h
    · simp [World.cell?, Array.getElem?_eq_none h] at ht0
  have el := Tryz.elemV54 ⟨w.heap.size, 0, none⟩ t (((w.alloc (.cells #[.pointer (some t)] 75)).alloc (.cells #[.pointer (some ⟨22, 75, none⟩), .pointer (some ⟨w.heap.size, 0, none⟩), .int .u64 150] 93)).alloc (.cells #[.pointer (some ⟨22, 75, none⟩), .pointer (some ⟨w.heap.size, 0, none⟩), .int .u64 150] 93)) (by rw [World.cell?_alloc_lt _ _ ⟨w.heap.size, 0, none⟩ (by simp; omega)]; simp)
  have st := Tryz.set29 t ⟨w.heap.size + 1 + 1 + 1, 0, none⟩ e old ((((w.alloc (.cells #[.pointer (some t)] 75)).alloc (.cells #[.pointer (some ⟨22, 75, none⟩), .pointer (some ⟨w.heap.size, 0, none⟩), .int .u64 150] 93)).alloc (.cells #[.pointer (some ⟨22, 75, none⟩), .pointer (some ⟨w.heap.size, 0, none⟩), .int .u64 150] 93)).alloc (.cells #[.pointer (some e)] 62))
    (by rw [World.cell?_alloc_at _ _ _ _ (by simp)]; rfl)
    (by rw [World.cell?_alloc_lt _ _ t (by simp; omega), World.cell?_alloc_lt _ _ t (by simp; omega), World.cell?_alloc_lt _ _ t (by simp; omega), World.cell?_alloc_lt _ _ t htl]; exact ht0)
    (by rw [World.frozen?_alloc_old _ _ t (by simp; omega), World.frozen?_alloc_old _ _ t (by simp; omega), World.frozen?_alloc_old _ _ t (by simp; omega), World.frozen?_alloc_old _ _ t (Nat.ne_of_lt htl)]; exact hf0)
  go_enter Tryz.func35, Tryz.ntmps35
  go_wp2
  refine wp_loop_rounds 1 ?_
  rw [rounds_succ]
  go_wp2
  go_ret
  exact ⟨rfl, rfl⟩
end Go.Proofs.YtlofpooobabkjaaGreatDoor
/-
  plain.Code tells each error of package api by its number, with the place of a *api.Fault that bears it; nil is 0 and any other error of errors.New's make is -1: contracts of that call, over this seat's translation.
  Conditions: the variables hold what the rows list (Env).
-/
namespace Go.Proofs.YtlofpooobabkjaaGreatDoor
open Go.RowKit Go.Extern.Stop Go.Stop Go.Extern

/-- What a walk wants of the listed variables: the thirteen errors at thirteen addresses, unmarked, and the handle of type error. -/
structure Env (p : Nat → Addr) (w : World) : Prop where
  s0 : w.cell? ⟨1, 0, none⟩ = some (.iface 171 (.pointer (some (p 0))))
  s1 : w.cell? ⟨0, 0, none⟩ = some (.iface 171 (.pointer (some (p 1))))
  s2 : w.cell? ⟨3, 0, none⟩ = some (.iface 171 (.pointer (some (p 2))))
  s3 : w.cell? ⟨4, 0, none⟩ = some (.iface 171 (.pointer (some (p 3))))
  s4 : w.cell? ⟨5, 0, none⟩ = some (.iface 171 (.pointer (some (p 4))))
  s5 : w.cell? ⟨6, 0, none⟩ = some (.iface 171 (.pointer (some (p 5))))
  s6 : w.cell? ⟨7, 0, none⟩ = some (.iface 171 (.pointer (some (p 6))))
  s7 : w.cell? ⟨2, 0, none⟩ = some (.iface 171 (.pointer (some (p 7))))
  s8 : w.cell? ⟨8, 0, none⟩ = some (.iface 171 (.pointer (some (p 8))))
  s9 : w.cell? ⟨9, 0, none⟩ = some (.iface 171 (.pointer (some (p 9))))
  s10 : w.cell? ⟨10, 0, none⟩ = some (.iface 171 (.pointer (some (p 10))))
  s11 : w.cell? ⟨11, 0, none⟩ = some (.iface 171 (.pointer (some (p 11))))
  s12 : w.cell? ⟨12, 0, none⟩ = some (.iface 171 (.pointer (some (p 12))))
  handle : w.cell? ⟨13, 0, none⟩ = some (.iface 114 (.agg #[.pointer (some ⟨22, 26, none⟩)]))
  rows : ∀ k, k < 13 → ∃ c t, w.heap[(p k).block]? = some (.cells c t (0, 0))
  inj : ∀ k l, k < 13 → l < 13 → p k = p l → k = l

theorem block_lt_of_cell {w : World} {a : Addr} {v : Value} (h : w.cell? a = some v) : a.block < w.heap.size := by
  rcases Nat.lt_or_ge a.block w.heap.size with h' | h'
  · exact h'
  · simp [World.cell?, Array.getElem?_eq_none h'] at h

theorem Env.below {p : Nat → Addr} {w w' : World} (E : Env p w) (hb : Below w.heap.size w w') : Env p w' where
  s0 := (hb.cell (p := ⟨1, 0, none⟩) (block_lt_of_cell E.s0)).trans E.s0
  s1 := (hb.cell (p := ⟨0, 0, none⟩) (block_lt_of_cell E.s1)).trans E.s1
  s2 := (hb.cell (p := ⟨3, 0, none⟩) (block_lt_of_cell E.s2)).trans E.s2
  s3 := (hb.cell (p := ⟨4, 0, none⟩) (block_lt_of_cell E.s3)).trans E.s3
  s4 := (hb.cell (p := ⟨5, 0, none⟩) (block_lt_of_cell E.s4)).trans E.s4
  s5 := (hb.cell (p := ⟨6, 0, none⟩) (block_lt_of_cell E.s5)).trans E.s5
  s6 := (hb.cell (p := ⟨7, 0, none⟩) (block_lt_of_cell E.s6)).trans E.s6
  s7 := (hb.cell (p := ⟨2, 0, none⟩) (block_lt_of_cell E.s7)).trans E.s7
  s8 := (hb.cell (p := ⟨8, 0, none⟩) (block_lt_of_cell E.s8)).trans E.s8
  s9 := (hb.cell (p := ⟨9, 0, none⟩) (block_lt_of_cell E.s9)).trans E.s9
  s10 := (hb.cell (p := ⟨10, 0, none⟩) (block_lt_of_cell E.s10)).trans E.s10
  s11 := (hb.cell (p := ⟨11, 0, none⟩) (block_lt_of_cell E.s11)).trans E.s11
  s12 := (hb.cell (p := ⟨12, 0, none⟩) (block_lt_of_cell E.s12)).trans E.s12
  handle := (hb.cell (p := ⟨13, 0, none⟩) (block_lt_of_cell E.handle)).trans E.handle
  rows k hk := by
    obtain ⟨c, t, h⟩ := E.rows k hk
    exact ⟨c, t, (hb.block _ (Array.getElem?_eq_some_iff.1 h).1).trans h⟩
  inj := E.inj

/-- The number of the error at place j (13: none of them). -/
def codeOf (j : Nat) : Int := if j < 13 then (j : Int) + 1 else -1

theorem codeOf_lt {j : Nat} (h : j < 13) : (j : Int) + 1 = codeOf j := by simp [codeOf, h]

theorem code_nil (w : World) : Calls Tryz.prog 21 #[.nilIface] w fun e w' => e = .returned (.tuple #[.int .i64 0, .int .i64 (-1)]) ∧ w' = w := by
  go_enter Tryz.func21, Tryz.ntmps21
  go_wp2
  go_ret2
  exact ⟨rfl, rfl⟩

theorem sent_cells (p : Nat → Addr) (w : World) (k : Nat) (h : k < 13) : (w.alloc (.cells #[.iface 171 (.pointer (some (p 0))), .iface 171 (.pointer (some (p 1))), .iface 171 (.pointer (some (p 2))), .iface 171 (.pointer (some (p 3))), .iface 171 (.pointer (some (p 4))), .iface 171 (.pointer (some (p 5))), .iface 171 (.pointer (some (p 6))), .iface 171 (.pointer (some (p 7))), .iface 171 (.pointer (some (p 8))), .iface 171 (.pointer (some (p 9))), .iface 171 (.pointer (some (p 10))), .iface 171 (.pointer (some (p 11))), .iface 171 (.pointer (some (p 12)))] 26)).cell? ⟨w.heap.size, k, none⟩ = some (.iface 171 (.pointer (some (p k)))) := by
  rw [World.cell?_alloc_at _ _ _ _ rfl]
  have h' : k = 0 ∨ k = 1 ∨ k = 2 ∨ k = 3 ∨ k = 4 ∨ k = 5 ∨ k = 6 ∨ k = 7 ∨ k = 8 ∨ k = 9 ∨ k = 10 ∨ k = 11 ∨ k = 12 := by omega
  rcases h' with rfl | rfl | rfl | rfl | rfl | rfl | rfl | rfl | rfl | rfl | rfl | rfl | rfl <;> rfl

set_option maxHeartbeats 1000000 in
/-- Code of an error of errors.New's make. -/
theorem code_str (p : Nat → Addr) (j : Nat) (a : Addr) (ca : Array Value) (ta : TypeId) (w : World) (E : Env p w) (ha : w.heap[a.block]? = some (.cells ca ta (0, 0))) (hj : j ≤ 13) (hp : ∀ k, k < 13 → (a = p k ↔ k = j)) :
    Calls Tryz.prog 21 #[.iface 171 (.pointer (some a))] w fun e w' => e = .returned (.tuple #[.int .i64 (codeOf j), .int .i64 (-1)]) ∧ Below w.heap.size w w' := by
  have hal : a.block < w.heap.size := (Array.getElem?_eq_some_iff.1 ha).1
  have E0 : Env p (w.alloc (.cells #[.pointer none] 62)) := E.below ((Below.refl _ _).alloc (Nat.le_refl _) _)
  have HE : Hid (Env p w) := E
  have HE0 : Hid (Env p (w.alloc (.cells #[.pointer none] 62))) := E0
  have HP : Hid (∀ k, k < 13 → (a = p k ↔ k = j)) := hp
  have HA : Hid (w.heap[a.block]? = some (.cells ca ta (0, 0))) := ha
  clear E E0 hp ha
  go_enter Tryz.func21, Tryz.ntmps21
  go_wp2_with fail
  refine (as_miss _ _ _ HE0.out.handle).mono ?_
  rintro e w1 ⟨rfl, hb1⟩
  have E1 := HE0.out.below hb1
  have g0 := E1.s0
  have g1 := E1.s1
  have g2 := E1.s2
  have g3 := E1.s3
  have g4 := E1.s4
  have g5 := E1.s5
  have g6 := E1.s6
  have g7 := E1.s7
  have g8 := E1.s8
  have g9 := E1.s9
  have g10 := E1.s10
  have g11 := E1.s11
  have g12 := E1.s12
  have HE1 : Hid (Env p w1) := E1
  have HB1 : Hid (Below (w.alloc (.cells #[.pointer none] 62)).heap.size (w.alloc (.cells #[.pointer none] 62)) w1) := hb1
  clear E1 hb1
  go_wp2_with fail
  clear g0 g1 g2 g3 g4 g5 g6 g7 g8 g9 g10 g11 g12
  have hc := sent_cells p w1
  have hB2 : Below w1.heap.size w1 (w1.alloc (.cells #[.iface 171 (.pointer (some (p 0))), .iface 171 (.pointer (some (p 1))), .iface 171 (.pointer (some (p 2))), .iface 171 (.pointer (some (p 3))), .iface 171 (.pointer (some (p 4))), .iface 171 (.pointer (some (p 5))), .iface 171 (.pointer (some (p 6))), .iface 171 (.pointer (some (p 7))), .iface 171 (.pointer (some (p 8))), .iface 171 (.pointer (some (p 9))), .iface 171 (.pointer (some (p 10))), .iface 171 (.pointer (some (p 11))), .iface 171 (.pointer (some (p 12)))] 26)) := (Below.refl _ _).alloc (Nat.le_refl _) _
  generalize w1.alloc (.cells #[.iface 171 (.pointer (some (p 0))), .iface 171 (.pointer (some (p 1))), .iface 171 (.pointer (some (p 2))), .iface 171 (.pointer (some (p 3))), .iface 171 (.pointer (some (p 4))), .iface 171 (.pointer (some (p 5))), .iface 171 (.pointer (some (p 6))), .iface 171 (.pointer (some (p 7))), .iface 171 (.pointer (some (p 8))), .iface 171 (.pointer (some (p 9))), .iface 171 (.pointer (some (p 10))), .iface 171 (.pointer (some (p 11))), .iface 171 (.pointer (some (p 12)))] 26) = W2 at hc hB2 ⊢
  have hsz : w.heap.size + 1 ≤ w1.heap.size := by have := HB1.out.size; simpa using this
  have hBw : Below w.heap.size w W2 := (((Below.refl _ w).alloc (Nat.le_refl _) (.cells #[.pointer none] 62)).trans (HB1.out.mono (by simp))).trans (hB2.mono (by omega))
  have HBW : Hid (Below w.heap.size w W2) := hBw
  have HC : Hid (∀ k, k < 13 → W2.cell? ⟨w1.heap.size, k, none⟩ = some (.iface 171 (.pointer (some (p k))))) := hc
  have HE2 : Hid (Env p W2) := HE.out.below hBw
  have HA2 : Hid (W2.heap[a.block]? = some (.cells ca ta (0, 0))) := (hBw.block _ hal).trans HA.out
  clear hc hB2 hBw HB1 HE1 HE0 HE HA
  go_loop [3, 31] (fun t i => ∃ k : Nat, k ≤ 13 ∧ k ≤ j ∧ t = .int .i64 (-1) ∧ i = .int .i64 k) (fun _ i => 13 - (intOf i).toNat)
  case atStart => exact ⟨0, by omega, by omega, rfl, rfl⟩
  case round =>
    obtain ⟨k, hk, hkj, rfl, rfl⟩ := hrel
    by_cases hlt : k < 13
    · have hck := HC.out k hlt
      obtain ⟨cb, tb, hrow⟩ := HE2.out.rows k hlt
      have HR : Hid (W2.heap[(p k).block]? = some (.cells cb tb (0, 0))) := hrow
      clear hrow
      by_cases hkj2 : k = j
      · subst hkj2
        have hpa : a = p k := (HP.out k hlt).2 rfl
        subst hpa
        go_wp2_with fail
        refine (is_same _ _).mono ?_
        rintro e w' ⟨rfl, rfl⟩
        go_wp2
        go_ret2
        exact ⟨by rw [codeOf_lt hlt]; rfl, HBW.out⟩
      · have hpa : a ≠ p k := fun h => hkj2 ((HP.out k hlt).1 h)
        have HN : Hid (a ≠ p k) := hpa
        clear hpa
        go_wp2_with fail
        refine (is_other _ _ _ _ _ _ _ HN.out HA2.out HR.out).mono ?_
        rintro e w' ⟨rfl, rfl⟩
        go_wp2
        go_round
        case rel => exact ⟨k + 1, by omega, by omega, rfl, by go_num⟩
        case measure => simp [intOf]; omega
    · go_wp2
      go_ret2
      have hj13 : ¬ j < 13 := by omega
      exact ⟨by simp [codeOf, hj13], HBW.out⟩

set_option maxHeartbeats 1000000 in
/-- Code of a *api.Fault that bears one of the thirteen. -/
theorem code_fault (p : Nat → Addr) (j : Nat) (pb po : Nat) (n : Int) (w : World) (E : Env p w) (hj : j < 13) (h0 : w.cell? ⟨pb, po, none⟩ = some (.int .i64 n)) (h1 : w.cell? ⟨pb, po + 1, none⟩ = some (.iface 171 (.pointer (some (p j))))) :
    Calls Tryz.prog 21 #[.iface 62 (.pointer (some ⟨pb, po, none⟩))] w fun e w' => e = .returned (.tuple #[.int .i64 (codeOf j), .int .i64 n]) ∧ Below w.heap.size w w' := by
  have hpb : pb < w.heap.size := block_lt_of_cell h0
  have E0 : Env p (w.alloc (.cells #[.pointer none] 62)) := E.below ((Below.refl _ _).alloc (Nat.le_refl _) _)
  have HE : Hid (Env p w) := E
  have HE0 : Hid (Env p (w.alloc (.cells #[.pointer none] 62))) := E0
  have HX0 : Hid (w.cell? ⟨pb, po, none⟩ = some (.int .i64 n)) := h0
  have HX1 : Hid (w.cell? ⟨pb, po + 1, none⟩ = some (.iface 171 (.pointer (some (p j))))) := h1
  clear E E0 h0 h1
  go_enter Tryz.func21, Tryz.ntmps21
  go_wp2_with fail
  refine (as_hit ⟨pb, po, none⟩ ⟨w.heap.size, 0, none⟩ (.pointer none) (w.alloc (.cells #[.pointer none] 62)) HE0.out.handle (by simp) (by simp)).mono ?_
  rintro e w1 ⟨rfl, hw1⟩
  have hcf : w1.cell? ⟨w.heap.size, 0, none⟩ = some (.pointer (some ⟨pb, po, none⟩)) := by
    rw [hw1, World.cell?_setCell_same']
    rw [World.cell?_alloc_lt _ _ _ (by simp; omega), World.cell?_alloc_lt _ _ _ (by simp; omega), World.cell?_alloc_lt _ _ _ (by simp; omega), World.cell?_alloc_lt _ _ _ (by simp)]
    simp
  have hb1 : Below w.heap.size w w1 := by
    rw [hw1]
    exact ((((((Below.refl _ _).alloc (Nat.le_refl _) _).alloc (by simp) _).alloc (by simp; omega) _).alloc (by simp; omega) _).alloc (by simp; omega) _).setCell (Nat.le_refl _) _
  clear hw1
  have E1 := HE.out.below hb1
  have g0 := E1.s0
  have g1 := E1.s1
  have g2 := E1.s2
  have g3 := E1.s3
  have g4 := E1.s4
  have g5 := E1.s5
  have g6 := E1.s6
  have g7 := E1.s7
  have g8 := E1.s8
  have g9 := E1.s9
  have g10 := E1.s10
  have g11 := E1.s11
  have g12 := E1.s12
  have hx0 : w1.cell? ⟨pb, po, none⟩ = some (.int .i64 n) := (hb1.cell (p := ⟨pb, po, none⟩) hpb).trans HX0.out
  have HE1 : Hid (Env p w1) := E1
  have HB1 : Hid (Below w.heap.size w w1) := hb1
  clear E1 hb1
  go_wp2_with fail
  clear g0 g1 g2 g3 g4 g5 g6 g7 g8 g9 g10 g11 g12
  have hc := sent_cells p w1
  have hB2 : Below w1.heap.size w1 (w1.alloc (.cells #[.iface 171 (.pointer (some (p 0))), .iface 171 (.pointer (some (p 1))), .iface 171 (.pointer (some (p 2))), .iface 171 (.pointer (some (p 3))), .iface 171 (.pointer (some (p 4))), .iface 171 (.pointer (some (p 5))), .iface 171 (.pointer (some (p 6))), .iface 171 (.pointer (some (p 7))), .iface 171 (.pointer (some (p 8))), .iface 171 (.pointer (some (p 9))), .iface 171 (.pointer (some (p 10))), .iface 171 (.pointer (some (p 11))), .iface 171 (.pointer (some (p 12)))] 26)) := (Below.refl _ _).alloc (Nat.le_refl _) _
  generalize w1.alloc (.cells #[.iface 171 (.pointer (some (p 0))), .iface 171 (.pointer (some (p 1))), .iface 171 (.pointer (some (p 2))), .iface 171 (.pointer (some (p 3))), .iface 171 (.pointer (some (p 4))), .iface 171 (.pointer (some (p 5))), .iface 171 (.pointer (some (p 6))), .iface 171 (.pointer (some (p 7))), .iface 171 (.pointer (some (p 8))), .iface 171 (.pointer (some (p 9))), .iface 171 (.pointer (some (p 10))), .iface 171 (.pointer (some (p 11))), .iface 171 (.pointer (some (p 12)))] 26) = W2 at hc hB2 ⊢
  have hsz : w.heap.size ≤ w1.heap.size := HB1.out.size
  have hBw : Below w.heap.size w W2 := HB1.out.trans (hB2.mono hsz)
  have HBW : Hid (Below w.heap.size w W2) := hBw
  have HC : Hid (∀ k, k < 13 → W2.cell? ⟨w1.heap.size, k, none⟩ = some (.iface 171 (.pointer (some (p k))))) := hc
  have HE2 : Hid (Env p W2) := HE.out.below hBw
  have HX2 : Hid (W2.cell? ⟨pb, po + 1, none⟩ = some (.iface 171 (.pointer (some (p j))))) := (hBw.cell (p := ⟨pb, po + 1, none⟩) hpb).trans HX1.out
  clear hc hB2 hBw HB1 HE1 HE0 HE HX0 HX1 hx0 hcf
  go_loop [3, 31] (fun t i => ∃ k : Nat, k ≤ j ∧ t = .int .i64 n ∧ i = .int .i64 k) (fun _ i => 13 - (intOf i).toNat)
  case atStart => exact ⟨0, by omega, rfl, rfl⟩
  case round =>
    obtain ⟨k, hkj, rfl, rfl⟩ := hrel
    have hlt : k < 13 := by omega
    have hck := HC.out k hlt
    obtain ⟨cb, tb, hrow⟩ := HE2.out.rows k hlt
    have HR : Hid (W2.heap[(p k).block]? = some (.cells cb tb (0, 0))) := hrow
    obtain ⟨ca, ta, hrowj⟩ := HE2.out.rows j hj
    have HJ : Hid (W2.heap[(p j).block]? = some (.cells ca ta (0, 0))) := hrowj
    clear hrow hrowj
    by_cases hkj2 : k = j
    · subst hkj2
      go_wp2_with fail
      refine (is_fault_same _ _ _ _ HX2.out).mono ?_
      rintro e w' ⟨rfl, rfl⟩
      go_wp2
      go_ret2
      exact ⟨by rw [codeOf_lt hlt]; rfl, HBW.out⟩
    · have HN : Hid (p j ≠ p k) := fun h => hkj2 (HE2.out.inj j k hj hlt h).symm
      have hlj : k < j := by omega
      clear hkj2
      go_wp2_with fail
      refine (is_fault_other _ _ _ _ _ _ _ _ _ HX2.out HN.out HJ.out HR.out).mono ?_
      rintro e w' ⟨rfl, rfl⟩
      go_wp2
      go_round
      case rel => exact ⟨k + 1, by omega, rfl, by go_num⟩
      case measure => simp [intOf]; omega
end Go.Proofs.YtlofpooobabkjaaGreatDoor
/-
  The value of an error by its number: over this seat's translation.
-/
namespace Go.Proofs.YtlofpooobabkjaaGreatDoor

/-- The error of a number. -/
def errV (p : Nat → Addr) (c : Nat) : Value := if c = 0 then .nilIface else .iface 171 (.pointer (some (p (c - 1))))
theorem errV_zero (p : Nat → Addr) : errV p 0 = .nilIface := rfl
theorem errV_some (p : Nat → Addr) {k : Nat} (h : k ≠ 0) : errV p k = .iface 171 (.pointer (some (p (k - 1)))) := by simp [errV, h]
end Go.Proofs.YtlofpooobabkjaaGreatDoor
/-
  Paths as lists of bytes: what a part is, how a text is cut at slashes, checked, cleaned, joined and stripped: plain functions and what holds of them. No Go text is spoken of here.
-/
namespace Go.Proofs.YtlofpooobabkjaaGreatDoor

/-- May this byte stand in a part? -/
def partByte (b : UInt8) : Bool := (97 ≤ b && b ≤ 122) || (48 ≤ b && b ≤ 57) || b == 46 || b == 95 || b == 45
def partInt (b : Int) : Bool := (decide (97 ≤ b) && decide (b ≤ 122)) || (decide (48 ≤ b) && decide (b ≤ 57)) || decide (b = 46) || decide (b = 95) || decide (b = 45)

theorem partInt_byte (b : UInt8) : partInt (b.toNat : Int) = partByte b := by
  have h : ∀ k : UInt8, (decide ((b.toNat : Int) = (k.toNat : Int))) = (b == k) := fun k => by
    rw [Bool.eq_iff_iff]; simp [← UInt8.toNat_inj]; omega
  have h1 : ∀ k : UInt8, (decide ((k.toNat : Int) ≤ (b.toNat : Int))) = decide (k ≤ b) := fun k => by
    rw [Bool.eq_iff_iff]; simp [UInt8.le_iff_toNat_le]
  have h2 : ∀ k : UInt8, (decide ((b.toNat : Int) ≤ (k.toNat : Int))) = decide (b ≤ k) := fun k => by
    rw [Bool.eq_iff_iff]; simp [UInt8.le_iff_toNat_le]
  have e1 := h1 97; have e2 := h2 122; have e3 := h1 48; have e4 := h2 57; have e5 := h 46; have e6 := h 95; have e7 := h 45
  simp only [UInt8.reduceToNat, Int.cast_ofNat_Int] at e1 e2 e3 e4 e5 e6 e7
  unfold partInt partByte
  rw [e1, e2, e3, e4, e5, e6, e7]

/-- Is this a part of a path? -/
def isPart (l : List UInt8) : Bool := !l.isEmpty && decide (l.length ≤ 12) && !(l == [46]) && !(l == [46, 46]) && l.all partByte

/-- What stands between slashes. -/
def pieces : List UInt8 → List (List UInt8)
  | [] => [[]]
  | c :: r => if c = 47 then [] :: pieces r else match pieces r with | [] => [[c]] | p :: ps => (c :: p) :: ps

theorem pieces_ne (l : List UInt8) : pieces l ≠ [] := by
  cases l with
  | nil => simp [pieces]
  | cons c r =>
    unfold pieces
    split
    · simp
    · split <;> simp

/-- What stands ahead of the first slash, and behind it. -/
def cutL : List UInt8 → Option (List UInt8 × List UInt8)
  | [] => none
  | c :: r => if c = 47 then some ([], r) else match cutL r with | none => none | some (a, b) => some (c :: a, b)

theorem cutL_some : ∀ {l a b : List UInt8}, cutL l = some (a, b) → l = a ++ 47 :: b
  | [], a, b, h => by simp [cutL] at h
  | c :: r, a, b, h => by
    unfold cutL at h
    split at h
    · rename_i hc
      simp at h
      obtain ⟨rfl, rfl⟩ := h
      simp [hc]
    · split at h
      · cases h
      · rename_i a' b' h'
        simp at h
        obtain ⟨rfl, rfl⟩ := h
        simp [cutL_some h']

theorem index_none : ∀ {l : List UInt8}, cutL l = none → Lib.indexByte l 47 = -1
  | [], _ => rfl
  | c :: r, h => by
    unfold cutL at h
    split at h
    · cases h
    · rename_i hc
      split at h
      · rename_i h'
        unfold Lib.indexByte
        rw [index_none h']
        simp [hc]
      · cases h

theorem index_some : ∀ {l a b : List UInt8}, cutL l = some (a, b) → Lib.indexByte l 47 = a.length
  | [], a, b, h => by simp [cutL] at h
  | c :: r, a, b, h => by
    unfold cutL at h
    split at h
    · rename_i hc
      simp at h
      obtain ⟨rfl, rfl⟩ := h
      simp [Lib.indexByte, hc]
    · rename_i hc
      split at h
      · cases h
      · rename_i a' b' h'
        simp at h
        obtain ⟨rfl, rfl⟩ := h
        unfold Lib.indexByte
        rw [index_some h']
        have : ((a'.length : Int) == -1) = false := by simp
        simp [hc, this]

theorem pieces_none : ∀ {l : List UInt8}, cutL l = none → pieces l = [l]
  | [], _ => rfl
  | c :: r, h => by
    unfold cutL at h
    split at h
    · cases h
    · rename_i hc
      split at h
      · rename_i h'
        simp [pieces, hc, pieces_none h']
      · cases h

theorem pieces_some : ∀ {l a b : List UInt8}, cutL l = some (a, b) → pieces l = a :: pieces b
  | [], a, b, h => by simp [cutL] at h
  | c :: r, a, b, h => by
    unfold cutL at h
    split at h
    · rename_i hc
      simp at h
      obtain ⟨rfl, rfl⟩ := h
      simp [pieces, hc]
    · rename_i hc
      split at h
      · cases h
      · rename_i a' b' h'
        simp at h
        obtain ⟨rfl, rfl⟩ := h
        simp [pieces, hc, pieces_some h']

theorem cutL_no : ∀ {a : List UInt8}, 47 ∉ a → cutL a = none
  | [], _ => rfl
  | c :: r, h => by
    have hc : c ≠ 47 := fun e => h (by rw [e]; exact List.mem_cons_self)
    have hr := cutL_no (a := r) (fun e => h (List.mem_cons_of_mem _ e))
    simp [cutL, hc, hr]

theorem cutL_of : ∀ {a : List UInt8} (b : List UInt8), 47 ∉ a → cutL (a ++ 47 :: b) = some (a, b)
  | [], b, _ => by simp [cutL]
  | c :: r, b, h => by
    have hc : c ≠ 47 := fun e => h (by rw [e]; exact List.mem_cons_self)
    have hr := cutL_of (a := r) b (fun e => h (List.mem_cons_of_mem _ e))
    simp [cutL, hc, hr]

theorem drop_cut {l : List UInt8} {f k : Nat} (hfk : f ≤ k) (hk : k < l.length) (h47 : l[k] = 47) : l.drop f = (l.drop f).take (k - f) ++ 47 :: l.drop (k + 1) := by
  have e1 : l.drop k = 47 :: l.drop (k + 1) := by rw [List.drop_eq_getElem_cons hk, h47]
  have e2 : (l.drop f).drop (k - f) = l.drop k := by rw [List.drop_drop]; congr 1; omega
  rw [← e1, ← e2]
  exact (List.take_append_drop _ _).symm

theorem take_more {l : List UInt8} {f k : Nat} (hfk : f ≤ k) (hk : k < l.length) : (l.drop f).take (k + 1 - f) = (l.drop f).take (k - f) ++ [l[k]] := by
  have e : k + 1 - f = (k - f) + 1 := by omega
  have hl : k - f < (l.drop f).length := by rw [List.length_drop]; omega
  rw [e, List.take_succ_eq_append_getElem hl]
  congr 2
  rw [List.getElem_drop]
  congr 1
  omega

/-- The number of the error that checking a text tells (0: none). -/
def checkCode (l : List UInt8) : Nat := if (pieces l).all isPart then (if 6 < (pieces l).length then 8 else 0) else 5

theorem pieces_length : ∀ l : List UInt8, (pieces l).length ≤ l.length + 1
  | [] => by simp [pieces]
  | c :: r => by
    have ih := pieces_length r
    unfold pieces
    split
    · simp; omega
    · split
      · simp
      · rename_i p ps h
        rw [h] at ih
        simp at ih ⊢
        omega

/-- One piece more, when a text is cleaned: the pieces kept so far, and the number of an error (0: none). -/
def cleanStep (st : List (List UInt8) × Nat) (x : List UInt8) : List (List UInt8) × Nat :=
  if st.2 ≠ 0 then st
  else if x = [] ∨ x = [46] then st
  else if x = [46, 46] then (if st.1 = [] then (st.1, 10) else (st.1.dropLast, 0))
  else if isPart x then (st.1 ++ [x], 0) else (st.1, 5)

def cleanF (xs : List (List UInt8)) : List (List UInt8) × Nat := xs.foldl cleanStep ([], 0)

theorem cleanF_snoc (pre : List (List UInt8)) (x : List UInt8) : cleanF (pre ++ [x]) = cleanStep (cleanF pre) x := by simp [cleanF]

theorem cleanStep_stuck (st : List (List UInt8) × Nat) (h : st.2 ≠ 0) : ∀ xs : List (List UInt8), xs.foldl cleanStep st = st
  | [] => rfl
  | x :: xs => by
    have : cleanStep st x = st := by simp [cleanStep, h]
    rw [List.foldl_cons, this, cleanStep_stuck st h xs]

theorem cleanF_prefix {pre xs : List (List UInt8)} (hp : pre <+: xs) (h : (cleanF pre).2 ≠ 0) : cleanF xs = cleanF pre := by
  obtain ⟨r, rfl⟩ := hp
  show (pre ++ r).foldl cleanStep ([], 0) = _
  rw [List.foldl_append]
  exact cleanStep_stuck _ h r

theorem cleanStep_dot {st : List (List UInt8) × Nat} {x : List UInt8} (h : st.2 = 0) (hx : x = [] ∨ x = [46]) : cleanStep st x = st := by simp [cleanStep, h, hx]
theorem cleanStep_up {st : List (List UInt8) × Nat} (h : st.2 = 0) (hk : st.1 ≠ []) : cleanStep st [46, 46] = (st.1.dropLast, 0) := by simp [cleanStep, h, hk]
theorem cleanStep_out {st : List (List UInt8) × Nat} (h : st.2 = 0) (hk : st.1 = []) : cleanStep st [46, 46] = ([], 10) := by simp [cleanStep, h, hk]
theorem cleanStep_part {st : List (List UInt8) × Nat} {x : List UInt8} (h : st.2 = 0) (h0 : x ≠ []) (h1 : x ≠ [46]) (h2 : x ≠ [46, 46]) (hx : isPart x = true) : cleanStep st x = (st.1 ++ [x], 0) := by simp [cleanStep, h, h0, h1, h2, hx]
theorem cleanStep_none {st : List (List UInt8) × Nat} {x : List UInt8} (h : st.2 = 0) (h0 : x ≠ []) (h1 : x ≠ [46]) (h2 : x ≠ [46, 46]) (hx : isPart x = false) : cleanStep st x = (st.1, 5) := by simp [cleanStep, h, h0, h1, h2, hx]

theorem cleanF_length : ∀ pre : List (List UInt8), (cleanF pre).1.length ≤ pre.length := by
  intro pre
  have h : ∀ (xs : List (List UInt8)) (st : List (List UInt8) × Nat), (xs.foldl cleanStep st).1.length ≤ st.1.length + xs.length := by
    intro xs
    induction xs with
    | nil => intro st; simp
    | cons x xs ih =>
      intro st
      have h1 : (cleanStep st x).1.length ≤ st.1.length + 1 := by
        unfold cleanStep
        split
        · omega
        · split
          · omega
          · split
            · split <;> simp <;> omega
            · split <;> simp
      have := ih (cleanStep st x)
      simp only [List.foldl_cons, List.length_cons]
      omega
  have := h pre ([], 0)
  simpa [cleanF] using this

theorem isPart_length {x : List UInt8} (h : isPart x = true) : x.length ≤ 12 := by
  simp [isPart] at h
  exact h.1.1.1.2

theorem cleanStep_parts {st : List (List UInt8) × Nat} (h : ∀ x ∈ st.1, isPart x = true) (y : List UInt8) : ∀ x ∈ (cleanStep st y).1, isPart x = true := by
  unfold cleanStep
  split
  · exact h
  · split
    · exact h
    · split
      · split
        · exact h
        · intro x hx
          exact h x ((List.dropLast_sublist _).subset hx)
      · split
        · rename_i hy
          intro x hx
          rcases List.mem_append.1 hx with hx | hx
          · exact h x hx
          · simp at hx; subst hx; exact hy
        · exact h

theorem cleanF_parts (xs : List (List UInt8)) : ∀ x ∈ (cleanF xs).1, isPart x = true := by
  have h : ∀ (xs : List (List UInt8)) (st : List (List UInt8) × Nat), (∀ x ∈ st.1, isPart x = true) → ∀ x ∈ (xs.foldl cleanStep st).1, isPart x = true := by
    intro xs
    induction xs with
    | nil => intro st h; exact h
    | cons y ys ih => intro st h; exact ih _ (cleanStep_parts h y)
  exact h xs ([], 0) (by simp)

theorem joinTail_length {M : Nat} : ∀ {k : List (List UInt8)}, (∀ x ∈ k, x.length ≤ M) → (Lib.joinTail [47] k).length ≤ (M + 1) * k.length
  | [], _ => by simp [Lib.joinTail]
  | x :: k, h => by
    have h1 := h x List.mem_cons_self
    have h2 := joinTail_length (k := k) (fun y hy => h y (List.mem_cons_of_mem _ hy))
    have e : Lib.joinTail [47] (x :: k) = 47 :: x ++ Lib.joinTail [47] k := by simp [Lib.joinTail]
    rw [e, List.length_append, List.length_cons, List.length_cons, Nat.mul_add]
    omega

theorem join_length {M : Nat} {k : List (List UInt8)} (h : ∀ x ∈ k, x.length ≤ M) : (Lib.join k [47]).length ≤ (M + 1) * k.length := by
  cases k with
  | nil => simp [Lib.join_nil]
  | cons x k =>
    have h1 := h x List.mem_cons_self
    have h2 := joinTail_length (k := k) (fun y hy => h y (List.mem_cons_of_mem _ hy))
    rw [Lib.join_cons, List.length_append, List.length_cons, Nat.mul_add]
    omega

/-- What cleaning a text tells: the text, and the number of an error (0: none). -/
def cleanL (l : List UInt8) : List UInt8 × Nat :=
  if l.head? = some 47 then ([], 3)
  else if (cleanF (pieces l)).2 ≠ 0 then ([], (cleanF (pieces l)).2)
  else if 6 < (cleanF (pieces l)).1.length then ([], 8)
  else (Lib.join (cleanF (pieces l)).1 [47], 0)

/-- What stripping the first parts of a text tells: the text, and the number of an error (0: none). -/
def stripL (s : List UInt8) (n : Int) : List UInt8 × Nat :=
  if checkCode s ≠ 0 then ([], checkCode s)
  else if n < 0 then ([], 2)
  else if ((pieces s).length : Int) ≤ n then ([], 3)
  else (Lib.join ((pieces s).drop n.toNat) [47], 0)

end Go.Proofs.YtlofpooobabkjaaGreatDoor
/-
  isPartByte and isPart of package path answer as the plain functions say: walks, over this seat's translation.
-/
namespace Go.Proofs.YtlofpooobabkjaaGreatDoor
open Go.RowKit

theorem ret_bool {a b : Bool} (h : a = b) : Ending.returned (.bool a) = .returned (.bool b) := by rw [h]

theorem partByte_any (b : Int) (w : World) (h0 : 0 ≤ b) (h1 : b ≤ 255) : Calls Tryz.prog 73 #[.int .u8 b] w fun e w' => e = .returned (.bool (partInt b)) ∧ w' = w := by
  have hc : b < 48 ∨ (48 ≤ b ∧ b ≤ 57) ∨ (58 ≤ b ∧ b ≤ 96) ∨ (97 ≤ b ∧ b ≤ 122) ∨ 123 ≤ b := by omega
  rcases hc with h | ⟨h, h'⟩ | ⟨h, h'⟩ | ⟨h, h'⟩ | h
  all_goals
    go_enter Tryz.func73, Tryz.ntmps73
    go_wp2
    all_goals
      go_ret
      refine ⟨ret_bool ?_, rfl⟩
      rw [Bool.eq_iff_iff]
      simp [partInt]
      try omega

theorem partByte_is (b : Int) (r : Bool) (w : World) (h0 : 0 ≤ b) (h1 : b ≤ 255) (h : partInt b = r) : Calls Tryz.prog 73 #[.int .u8 b] w fun e w' => e = .returned (.bool r) ∧ w' = w := by
  have := partByte_any b w h0 h1
  rwa [h] at this

set_option maxHeartbeats 1000000 in
theorem isPart_any (l : List UInt8) (w : World) (hl : l.length ≤ 100000) : Calls Tryz.prog 60 #[.string ⟨l.toArray⟩] w fun e w' => e = .returned (.bool (isPart l)) ∧ w' = w := by
  by_cases h0 : l = []
  · subst h0
    go_enter Tryz.func60, Tryz.ntmps60
    go_wp2
    go_ret
    exact ⟨rfl, rfl⟩
  by_cases h1 : 12 < l.length
  · have he : isPart l = false := by simp [isPart]; omega
    rw [he]
    clear he
    have hb0 : l.isEmpty = false := by simpa using h0
    have hb1 : (12 : Int) < l.length := by omega
    clear h0
    go_enter Tryz.func60, Tryz.ntmps60
    go_wp2
    go_ret
    exact ⟨rfl, rfl⟩
  by_cases h2 : l = [46]
  · subst h2
    go_enter Tryz.func60, Tryz.ntmps60
    go_wp2
    go_ret
    exact ⟨rfl, rfl⟩
  by_cases h3 : l = [46, 46]
  · subst h3
    go_enter Tryz.func60, Tryz.ntmps60
    go_wp2
    go_ret
    exact ⟨rfl, rfl⟩
  have HP : Hid (isPart l = l.all partByte) := by
    show isPart l = l.all partByte
    simp [isPart, h0, h2, h3]
    intro _
    omega
  have hb0 : l.isEmpty = false := by simpa using h0
  have hb1 : (l.length : Int) ≤ 12 := by omega
  have hb2 : (l == [46]) = false := by simpa using h2
  have hb3 : (l == [46, 46]) = false := by simpa using h3
  clear h0 h2 h3 h1
  go_enter Tryz.func60, Tryz.ntmps60
  go_wp2_with fail
  go_loop [21] (fun i => ∃ k : Nat, k ≤ l.length ∧ i = .int .i64 k ∧ (l.take k).all partByte = true) (fun i => l.length - (intOf i).toNat)
  case atStart => exact ⟨0, by omega, rfl, by simp⟩
  case round =>
    obtain ⟨k, hk, rfl, hall⟩ := hrel
    have HA : Hid ((l.take k).all partByte = true) := hall
    clear hall
    by_cases hlt : k < l.length
    · have hb : (l[k].toNat : Int) ≤ 255 := by have := l[k].toNat_lt; omega
      by_cases hp : partByte l[k] = true
      · have HPI : Hid (partInt (l[k].toNat : Int) = true) := (partInt_byte l[k]).trans hp
        have hsnoc : Hid ((l.take (k + 1)).all partByte = true) := by
          show (l.take (k + 1)).all partByte = true
          rw [List.take_succ_eq_append_getElem hlt, List.all_append, HA.out]; simp [hp]
        clear hp
        go_wp2_with fail
        refine (partByte_is _ true _ (Int.natCast_nonneg _) hb HPI.out).mono ?_
        rintro e w' ⟨rfl, rfl⟩
        go_wp2
        go_round
        case rel => exact ⟨k + 1, by omega, by go_num, hsnoc.out⟩
        case measure => simp [intOf]; omega
      · have hp' : partByte l[k] = false := by simpa using hp
        have HPI : Hid (partInt (l[k].toNat : Int) = false) := (partInt_byte l[k]).trans hp'
        have hno : Hid (isPart l = false) := by
          show isPart l = false
          rw [HP.out, List.all_eq_false]
          exact ⟨l[k], List.getElem_mem hlt, by simp [hp']⟩
        clear hp hp'
        go_wp2_with fail
        refine (partByte_is _ false _ (Int.natCast_nonneg _) hb HPI.out).mono ?_
        rintro e w' ⟨rfl, rfl⟩
        go_wp2
        go_ret
        exact ⟨ret_bool hno.out.symm, rfl⟩
    · go_wp2
      go_ret
      have : k = l.length := by omega
      subst this
      refine ⟨ret_bool ?_, rfl⟩
      rw [HP.out]
      have := HA.out
      rw [List.take_length] at this
      exact this.symm
end Go.Proofs.YtlofpooobabkjaaGreatDoor
/-
  Contracts of library functions that the library proves once, laid at this seat's translation (made by program).
-/
namespace Go.Proofs
open Go.Shelf
def Tryz.lays169_ren : Go.Shelf.Ren := ⟨fun | 169 => 18 | n => n, fun | 70 => 48 | 9 => 9 | 0 => 0 | 72 => 51 | 37 => 49 | 127 => 71 | 3 => 3 | 5 => 5 | n => n, fun | n => n⟩
theorem Tryz.lays169 : Go.Proofs.Lays.n169 Tryz.prog Tryz.lays169_ren := {
  mixed := by kernel_rfl
  f169 := Tryz.func18.trans (congrArg some (by kernel_rfl))
  t0 := Tryz.underlying0
  a0 := Tryz.isAgg0
  z0 := Tryz.sizeOf0
  v0 := Tryz.zeroValue0
  t3 := Tryz.underlying3
  a3 := Tryz.isAgg3
  z3 := Tryz.sizeOf3
  v3 := Tryz.zeroValue3
  t9 := Tryz.underlying9
  a9 := Tryz.isAgg9
  z9 := Tryz.sizeOf9
  v9 := Tryz.zeroValue9
  t37 := Tryz.underlying49
  a37 := Tryz.isAgg49
  z37 := Tryz.sizeOf49
  v37 := Tryz.zeroValue49
  t70 := Tryz.underlying48
  a70 := Tryz.isAgg48
  z70 := Tryz.sizeOf48
  v70 := Tryz.zeroValue48
  t72 := Tryz.underlying51
  a72 := Tryz.isAgg51
  z72 := Tryz.sizeOf51
  v72 := Tryz.zeroValue51
  t127 := Tryz.underlying71
  a127 := Tryz.isAgg71
  z127 := Tryz.sizeOf71
  v127 := Tryz.zeroValue71 }
theorem Tryz.Builder_Extra_169 : Builder.Extra Tryz.prog Tryz.lays169_ren := {
  sizeBuilder := by kernel_rfl
  liesBuilder := by kernel_rfl
  t5 := Tryz.underlying5
  a5 := Tryz.isAgg5
  z5 := Tryz.sizeOf5
  v5 := Tryz.zeroValue5
  infoByte := by kernel_rfl
  cellsByte := by kernel_rfl
  sizeByte := by kernel_rfl
  neB5 := by decide }
open Go.RowKit in
theorem Tryz.Builder_String_any (B b : Nat) (l : List UInt8) (w : World) (h : Lib.IsBuilder 51 5 B b (Lib.byteCells l) w) (hBw : B ≤ w.heap.size) :
    Calls Tryz.prog 18 #[.pointer (some ⟨b, 0, none⟩)] w fun e w' => e = .returned (.string ⟨l.toArray⟩) ∧ Below B w w' := Any.Builder_String_any Tryz.lays169 Tryz.Builder_Extra_169 B b l w h hBw
def Tryz.lays103_ren : Go.Shelf.Ren := ⟨fun | 103 => 39 | 210 => 58 | 206 => 71 | n => n, fun | 9 => 9 | 4 => 4 | 24 => 82 | 3 => 3 | n => n, fun | n => n⟩
theorem Tryz.lays103 : Go.Proofs.Lays.n103 Tryz.prog Tryz.lays103_ren := {
  mixed := by kernel_rfl
  f103 := Tryz.func39.trans (congrArg some (by kernel_rfl))
  f206 := Tryz.func71.trans (congrArg some (by kernel_rfl))
  f210 := Tryz.func58.trans (congrArg some (by kernel_rfl))
  t3 := Tryz.underlying3
  a3 := Tryz.isAgg3
  z3 := Tryz.sizeOf3
  v3 := Tryz.zeroValue3
  t4 := Tryz.underlying4
  a4 := Tryz.isAgg4
  z4 := Tryz.sizeOf4
  v4 := Tryz.zeroValue4
  t9 := Tryz.underlying9
  a9 := Tryz.isAgg9
  z9 := Tryz.sizeOf9
  v9 := Tryz.zeroValue9
  t24 := Tryz.underlying82
  a24 := Tryz.isAgg82
  z24 := Tryz.sizeOf82
  v24 := Tryz.zeroValue82 }
open Go.RowKit in
theorem Tryz.strings_CutPrefix (s p : ByteArray) (w : World) :
    Calls Tryz.prog 39 #[.string s, .string p] w fun e w' => e = .returned (.tuple #[.string ⟨(Lib.trimPrefix s.data.toList p.data.toList).toArray⟩, .bool (Lib.hasPrefix s.data.toList p.data.toList)]) ∧ w' = w := Any.strings_CutPrefix Tryz.lays103 s p w
def Tryz.laysM171_ren : Go.Shelf.Ren := ⟨fun | 171 => 30 | 243 => 45 | 246 => 63 | 283 => 74 | 284 => 75 | 285 => 76 | 286 => 77 | 129 => 88 | 317 => 87 | 318 => 89 | 319 => 90 | 320 => 91 | 337 => 102 | 338 => 103 | n => n, fun | 3 => 3 | 9 => 9 | 2 => 2 | 4 => 4 | 171 => 131 | 0 => 0 | 53 => 132 | 37 => 49 | 5 => 5 | 173 => 135 | 212 => 143 | 51 => 144 | 20 => 20 | 213 => 145 | 46 => 139 | 232 => 164 | 233 => 165 | n => n, fun | 17 => 15 | 18 => 18 | 19 => 19 | n => n⟩
theorem Tryz.laysM171 : Go.Proofs.LaysM.n171 Tryz.prog Tryz.laysM171_ren := {
  mixed := by kernel_rfl
  f129 := Tryz.func88.trans (congrArg some (by kernel_rfl))
  f171 := Tryz.func30.trans (congrArg some (by kernel_rfl))
  f243 := Tryz.func45.trans (congrArg some (by kernel_rfl))
  f246 := Tryz.func63.trans (congrArg some (by kernel_rfl))
  f283 := Tryz.func74.trans (congrArg some (by kernel_rfl))
  f284 := Tryz.func75.trans (congrArg some (by kernel_rfl))
  f285 := Tryz.func76.trans (congrArg some (by kernel_rfl))
  f286 := Tryz.func77.trans (congrArg some (by kernel_rfl))
  f317 := Tryz.func87.trans (congrArg some (by kernel_rfl))
  f318 := Tryz.func89.trans (congrArg some (by kernel_rfl))
  f319 := Tryz.func90.trans (congrArg some (by kernel_rfl))
  f320 := Tryz.func91.trans (congrArg some (by kernel_rfl))
  f337 := Tryz.func102.trans (congrArg some (by kernel_rfl))
  f338 := Tryz.func103.trans (congrArg some (by kernel_rfl))
  t0 := Tryz.underlying0
  a0 := Tryz.isAgg0
  z0 := Tryz.sizeOf0
  v0 := Tryz.zeroValue0
  t2 := Tryz.underlying2
  a2 := Tryz.isAgg2
  z2 := Tryz.sizeOf2
  v2 := Tryz.zeroValue2
  t3 := Tryz.underlying3
  a3 := Tryz.isAgg3
  z3 := Tryz.sizeOf3
  v3 := Tryz.zeroValue3
  t4 := Tryz.underlying4
  a4 := Tryz.isAgg4
  z4 := Tryz.sizeOf4
  v4 := Tryz.zeroValue4
  t5 := Tryz.underlying5
  a5 := Tryz.isAgg5
  z5 := Tryz.sizeOf5
  v5 := Tryz.zeroValue5
  t9 := Tryz.underlying9
  a9 := Tryz.isAgg9
  z9 := Tryz.sizeOf9
  v9 := Tryz.zeroValue9
  t20 := Tryz.underlying20
  a20 := Tryz.isAgg20
  z20 := Tryz.sizeOf20
  v20 := Tryz.zeroValue20
  t37 := Tryz.underlying49
  a37 := Tryz.isAgg49
  z37 := Tryz.sizeOf49
  v37 := Tryz.zeroValue49
  t46 := Tryz.underlying139
  a46 := Tryz.isAgg139
  z46 := Tryz.sizeOf139
  v46 := Tryz.zeroValue139
  t51 := Tryz.underlying144
  a51 := Tryz.isAgg144
  z51 := Tryz.sizeOf144
  v51 := Tryz.zeroValue144
  t53 := Tryz.underlying132
  a53 := Tryz.isAgg132
  z53 := Tryz.sizeOf132
  v53 := Tryz.zeroValue132
  t171 := Tryz.underlying131
  a171 := Tryz.isAgg131
  z171 := Tryz.sizeOf131
  v171 := Tryz.zeroValue131
  t173 := Tryz.underlying135
  a173 := Tryz.isAgg135
  z173 := Tryz.sizeOf135
  v173 := Tryz.zeroValue135
  t212 := Tryz.underlying143
  a212 := Tryz.isAgg143
  z212 := Tryz.sizeOf143
  v212 := Tryz.zeroValue143
  t213 := Tryz.underlying145
  a213 := Tryz.isAgg145
  z213 := Tryz.sizeOf145
  t232 := Tryz.underlying164
  a232 := Tryz.isAgg164
  z232 := Tryz.sizeOf164
  v232 := Tryz.zeroValue164
  t233 := Tryz.underlying165
  a233 := Tryz.isAgg165
  z233 := Tryz.sizeOf165
  v233 := Tryz.zeroValue165
  g17 := by kernel_rfl
  g18 := by kernel_rfl
  g19 := by kernel_rfl
  i0 := by kernel_rfl
  i2 := by kernel_rfl
  i3 := by kernel_rfl
  i4 := by kernel_rfl
  i5 := by kernel_rfl
  i9 := by kernel_rfl
  i20 := by kernel_rfl
  i37 := by kernel_rfl
  i46 := by kernel_rfl
  i51 := by kernel_rfl
  i53 := by kernel_rfl
  i171 := by kernel_rfl
  i173 := by kernel_rfl
  i212 := by kernel_rfl
  i232 := by kernel_rfl
  i233 := by kernel_rfl
  m17 := by kernel_rfl
  m18 := by kernel_rfl
  m19 := by kernel_rfl }
open Go.RowKit Go.Sort Go.Lib in
theorem Tryz.strconv_Itoa (n : Int) (h0 : -9223372036854775808 ≤ n) (h1 : n ≤ 9223372036854775807) (w : World) (htab : Lib.TabIs Tryz.prog w "internal/strconv.uint64pow10" .u64 Lib.pow10Tab) :
    Calls Tryz.prog 30 #[.int .i64 n] w fun e w' => e = .returned (.string ⟨(Lib.itoa n).toArray⟩) ∧ ∃ k os, w' = grow (w.drewN k) os := Any.strconv_Itoa Tryz.laysM171 n h0 h1 w htab
def Tryz.laysC172_ren : Go.Shelf.Ren := ⟨fun | 172 => 70 | 244 => 85 | 245 => 86 | 247 => 97 | 279 => 98 | 280 => 99 | 281 => 100 | 282 => 101 | 287 => 105 | 316 => 106 | 171 => 30 | 205 => 107 | 321 => 108 | 322 => 109 | 243 => 45 | 246 => 63 | 283 => 74 | 284 => 75 | 285 => 76 | 286 => 77 | 129 => 88 | 317 => 87 | 318 => 89 | 319 => 90 | 320 => 91 | 337 => 102 | 338 => 103 | n => n, fun | 9 => 9 | 3 => 3 | 75 => 26 | 76 => 35 | 4 => 4 | 5 => 5 | 167 => 152 | 37 => 49 | 0 => 0 | 85 => 153 | 2 => 2 | 168 => 155 | 53 => 132 | 175 => 159 | 46 => 139 | 210 => 163 | 127 => 71 | 145 => 173 | 143 => 171 | 21 => 21 | 171 => 131 | 173 => 135 | 212 => 143 | 51 => 144 | 20 => 20 | 213 => 145 | 232 => 164 | 233 => 165 | 80 => 54 | n => n, fun | 15 => 16 | 16 => 17 | 17 => 15 | 18 => 18 | 19 => 19 | n => n⟩
theorem Tryz.laysC172 : Go.Proofs.LaysC.n172 Tryz.prog Tryz.laysC172_ren := {
  mixed := by kernel_rfl
  f129 := Tryz.func88.trans (congrArg some (by kernel_rfl))
  f171 := Tryz.func30.trans (congrArg some (by kernel_rfl))
  f172 := Tryz.func70.trans (congrArg some (by kernel_rfl))
  f205 := Tryz.func107.trans (congrArg some (by kernel_rfl))
  f243 := Tryz.func45.trans (congrArg some (by kernel_rfl))
  f244 := Tryz.func85.trans (congrArg some (by kernel_rfl))
  f245 := Tryz.func86.trans (congrArg some (by kernel_rfl))
  f246 := Tryz.func63.trans (congrArg some (by kernel_rfl))
  f247 := Tryz.func97.trans (congrArg some (by kernel_rfl))
  f279 := Tryz.func98.trans (congrArg some (by kernel_rfl))
  f280 := Tryz.func99.trans (congrArg some (by kernel_rfl))
  f281 := Tryz.func100.trans (congrArg some (by kernel_rfl))
  f282 := Tryz.func101.trans (congrArg some (by kernel_rfl))
  f283 := Tryz.func74.trans (congrArg some (by kernel_rfl))
  f284 := Tryz.func75.trans (congrArg some (by kernel_rfl))
  f285 := Tryz.func76.trans (congrArg some (by kernel_rfl))
  f286 := Tryz.func77.trans (congrArg some (by kernel_rfl))
  f287 := Tryz.func105.trans (congrArg some (by kernel_rfl))
  f316 := Tryz.func106.trans (congrArg some (by kernel_rfl))
  f317 := Tryz.func87.trans (congrArg some (by kernel_rfl))
  f318 := Tryz.func89.trans (congrArg some (by kernel_rfl))
  f319 := Tryz.func90.trans (congrArg some (by kernel_rfl))
  f320 := Tryz.func91.trans (congrArg some (by kernel_rfl))
  f321 := Tryz.func108.trans (congrArg some (by kernel_rfl))
  f322 := Tryz.func109.trans (congrArg some (by kernel_rfl))
  f337 := Tryz.func102.trans (congrArg some (by kernel_rfl))
  f338 := Tryz.func103.trans (congrArg some (by kernel_rfl))
  t0 := Tryz.underlying0
  a0 := Tryz.isAgg0
  z0 := Tryz.sizeOf0
  v0 := Tryz.zeroValue0
  t2 := Tryz.underlying2
  a2 := Tryz.isAgg2
  z2 := Tryz.sizeOf2
  v2 := Tryz.zeroValue2
  t3 := Tryz.underlying3
  a3 := Tryz.isAgg3
  z3 := Tryz.sizeOf3
  v3 := Tryz.zeroValue3
  t4 := Tryz.underlying4
  a4 := Tryz.isAgg4
  z4 := Tryz.sizeOf4
  v4 := Tryz.zeroValue4
  t5 := Tryz.underlying5
  a5 := Tryz.isAgg5
  z5 := Tryz.sizeOf5
  v5 := Tryz.zeroValue5
  t9 := Tryz.underlying9
  a9 := Tryz.isAgg9
  z9 := Tryz.sizeOf9
  v9 := Tryz.zeroValue9
  t20 := Tryz.underlying20
  a20 := Tryz.isAgg20
  z20 := Tryz.sizeOf20
  v20 := Tryz.zeroValue20
  t21 := Tryz.underlying21
  a21 := Tryz.isAgg21
  z21 := Tryz.sizeOf21
  v21 := Tryz.zeroValue21
  t37 := Tryz.underlying49
  a37 := Tryz.isAgg49
  z37 := Tryz.sizeOf49
  v37 := Tryz.zeroValue49
  t46 := Tryz.underlying139
  a46 := Tryz.isAgg139
  z46 := Tryz.sizeOf139
  v46 := Tryz.zeroValue139
  t51 := Tryz.underlying144
  a51 := Tryz.isAgg144
  z51 := Tryz.sizeOf144
  v51 := Tryz.zeroValue144
  t53 := Tryz.underlying132
  a53 := Tryz.isAgg132
  z53 := Tryz.sizeOf132
  v53 := Tryz.zeroValue132
  t75 := Tryz.underlying26
  a75 := Tryz.isAgg26
  z75 := Tryz.sizeOf26
  v75 := Tryz.zeroValue26
  t76 := Tryz.underlying35
  a76 := Tryz.isAgg35
  z76 := Tryz.sizeOf35
  v76 := Tryz.zeroValue35
  t85 := Tryz.underlying153
  a85 := Tryz.isAgg153
  z85 := Tryz.sizeOf153
  v85 := Tryz.zeroValue153
  t127 := Tryz.underlying71
  a127 := Tryz.isAgg71
  z127 := Tryz.sizeOf71
  v127 := Tryz.zeroValue71
  t143 := Tryz.underlying171
  a143 := Tryz.isAgg171
  z143 := Tryz.sizeOf171
  v143 := Tryz.zeroValue171
  t145 := Tryz.underlying173
  a145 := Tryz.isAgg173
  z145 := Tryz.sizeOf173
  v145 := Tryz.zeroValue173
  t167 := Tryz.underlying152
  a167 := Tryz.isAgg152
  z167 := Tryz.sizeOf152
  v167 := Tryz.zeroValue152
  t168 := Tryz.underlying155
  a168 := Tryz.isAgg155
  z168 := Tryz.sizeOf155
  v168 := Tryz.zeroValue155
  t171 := Tryz.underlying131
  a171 := Tryz.isAgg131
  z171 := Tryz.sizeOf131
  v171 := Tryz.zeroValue131
  t173 := Tryz.underlying135
  a173 := Tryz.isAgg135
  z173 := Tryz.sizeOf135
  v173 := Tryz.zeroValue135
  t175 := Tryz.underlying159
  a175 := Tryz.isAgg159
  z175 := Tryz.sizeOf159
  v175 := Tryz.zeroValue159
  t210 := Tryz.underlying163
  a210 := Tryz.isAgg163
  z210 := Tryz.sizeOf163
  v210 := Tryz.zeroValue163
  t212 := Tryz.underlying143
  a212 := Tryz.isAgg143
  z212 := Tryz.sizeOf143
  v212 := Tryz.zeroValue143
  t213 := Tryz.underlying145
  a213 := Tryz.isAgg145
  z213 := Tryz.sizeOf145
  t232 := Tryz.underlying164
  a232 := Tryz.isAgg164
  z232 := Tryz.sizeOf164
  v232 := Tryz.zeroValue164
  t233 := Tryz.underlying165
  a233 := Tryz.isAgg165
  z233 := Tryz.sizeOf165
  v233 := Tryz.zeroValue165
  g15 := by kernel_rfl
  g16 := by kernel_rfl
  g17 := by kernel_rfl
  g18 := by kernel_rfl
  g19 := by kernel_rfl
  t80 := Tryz.underlying54
  a80 := Tryz.isAgg54
  z80 := Tryz.sizeOf54
  v80 := Tryz.zeroValue54
  i0 := by kernel_rfl
  i2 := by kernel_rfl
  i3 := by kernel_rfl
  i4 := by kernel_rfl
  i5 := by kernel_rfl
  i9 := by kernel_rfl
  i20 := by kernel_rfl
  i21 := by kernel_rfl
  i37 := by kernel_rfl
  i46 := by kernel_rfl
  i51 := by kernel_rfl
  i53 := by kernel_rfl
  i75 := by kernel_rfl
  i76 := by kernel_rfl
  i80 := by kernel_rfl
  i85 := by kernel_rfl
  i127 := by kernel_rfl
  i143 := by kernel_rfl
  i145 := by kernel_rfl
  i167 := by kernel_rfl
  i168 := by kernel_rfl
  i171 := by kernel_rfl
  i173 := by kernel_rfl
  i175 := by kernel_rfl
  i210 := by kernel_rfl
  i212 := by kernel_rfl
  i232 := by kernel_rfl
  i233 := by kernel_rfl
  m15 := by kernel_rfl
  m16 := by kernel_rfl
  m17 := by kernel_rfl
  m18 := by kernel_rfl
  m19 := by kernel_rfl
  c0 := by kernel_rfl
  c2 := by kernel_rfl
  c3 := by kernel_rfl
  c4 := by kernel_rfl
  c5 := by kernel_rfl
  c9 := by kernel_rfl
  c20 := by kernel_rfl
  c21 := by kernel_rfl
  c37 := by kernel_rfl
  c46 := by kernel_rfl
  c51 := by kernel_rfl
  c53 := by kernel_rfl
  c75 := by kernel_rfl
  c76 := by kernel_rfl
  c80 := by kernel_rfl
  c85 := by kernel_rfl
  c127 := by kernel_rfl
  c143 := by kernel_rfl
  c145 := by kernel_rfl
  c167 := by kernel_rfl
  c168 := by kernel_rfl
  c171 := by kernel_rfl
  c173 := by kernel_rfl
  c175 := by kernel_rfl
  c210 := by kernel_rfl
  c212 := by kernel_rfl
  c213 := by kernel_rfl
  c232 := by kernel_rfl
  c233 := by kernel_rfl }
open Go.RowKit in
theorem Tryz.strconv_Atoi_ok (s : ByteArray) (hmax : s.size ≤ 9223372036854775806) (v : Int) (h : Lib.atoiAll s.data.toList = .ok v) (w : World) :
    Calls Tryz.prog 70 #[.string s] w fun e w' => e = .returned (.tuple #[.int .i64 v, .nilIface]) ∧ (w' = w ∨ ∃ t, w' = Lib.bytesWorld w 5 t) := Any.strconv_Atoi_ok Tryz.laysC172 s hmax v h w
open Go.RowKit in
theorem Tryz.strconv_Atoi_syntax (s : ByteArray) (hlim : s.size ≤ 281474976710656) (h : Lib.atoiAll s.data.toList = .«syntax») (ev : Value) (w : World) (hv : w.cell? ⟨16, 0, none⟩ = some ev) (hev : ev = .nilIface ∨ ∃ te pe, ev = .iface te pe) :
    Calls Tryz.prog 70 #[.string s] w fun e w' => ∃ N, e = .returned (.tuple #[.int .i64 (0), .iface 155 (.pointer (some ⟨N, 0, none⟩))]) ∧ w.heap.size ≤ N ∧ w'.heap[N]? = some (.cells #[.string ⟨#[65, 116, 111, 105]⟩, .string s, ev] 163 (0, 0)) ∧ Below w.heap.size w w' := Any.strconv_Atoi_syntax Tryz.laysC172 s hlim h ev w hv hev
open Go.RowKit in
theorem Tryz.strconv_Atoi_range (s : ByteArray) (hlim : s.size ≤ 281474976710656) (h : Lib.atoiAll s.data.toList = .range) (ev : Value) (w : World) (hv : w.cell? ⟨17, 0, none⟩ = some ev) (hev : ev = .nilIface ∨ ∃ te pe, ev = .iface te pe) :
    Calls Tryz.prog 70 #[.string s] w fun e w' => ∃ N, e = .returned (.tuple #[.int .i64 (Lib.atoiSat s.data.toList), .iface 155 (.pointer (some ⟨N, 0, none⟩))]) ∧ w.heap.size ≤ N ∧ w'.heap[N]? = some (.cells #[.string ⟨#[65, 116, 111, 105]⟩, .string s, ev] 163 (0, 0)) ∧ Below w.heap.size w w' := Any.strconv_Atoi_range Tryz.laysC172 s hlim h ev w hv hev
def Tryz.lays219_ren : Go.Shelf.Ren := ⟨fun | 219 => 68 | 217 => 78 | 225 => 79 | 224 => 80 | 267 => 81 | 266 => 92 | 314 => 93 | n => n, fun | 9 => 9 | 3 => 3 | 4 => 4 | 5 => 5 | 46 => 139 | 146 => 148 | 51 => 144 | n => n, fun | 1 => 14 | n => n⟩
theorem Tryz.lays219 : Go.Proofs.Lays.n219 Tryz.prog Tryz.lays219_ren := {
  mixed := by kernel_rfl
  f217 := Tryz.func78.trans (congrArg some (by kernel_rfl))
  f219 := Tryz.func68.trans (congrArg some (by kernel_rfl))
  f224 := Tryz.func80.trans (congrArg some (by kernel_rfl))
  f225 := Tryz.func79.trans (congrArg some (by kernel_rfl))
  f266 := Tryz.func92.trans (congrArg some (by kernel_rfl))
  f267 := Tryz.func81.trans (congrArg some (by kernel_rfl))
  f314 := Tryz.func93.trans (congrArg some (by kernel_rfl))
  t3 := Tryz.underlying3
  a3 := Tryz.isAgg3
  z3 := Tryz.sizeOf3
  v3 := Tryz.zeroValue3
  t4 := Tryz.underlying4
  a4 := Tryz.isAgg4
  z4 := Tryz.sizeOf4
  v4 := Tryz.zeroValue4
  t5 := Tryz.underlying5
  a5 := Tryz.isAgg5
  z5 := Tryz.sizeOf5
  v5 := Tryz.zeroValue5
  t9 := Tryz.underlying9
  a9 := Tryz.isAgg9
  z9 := Tryz.sizeOf9
  v9 := Tryz.zeroValue9
  t46 := Tryz.underlying139
  a46 := Tryz.isAgg139
  z46 := Tryz.sizeOf139
  v46 := Tryz.zeroValue139
  t51 := Tryz.underlying144
  a51 := Tryz.isAgg144
  z51 := Tryz.sizeOf144
  v51 := Tryz.zeroValue144
  t146 := Tryz.underlying148
  a146 := Tryz.isAgg148
  z146 := Tryz.sizeOf148
  v146 := Tryz.zeroValue148
  g1 := by kernel_rfl }
open Go.RowKit Go.Lib in
theorem Tryz.stringslite_Index_one (s : ByteArray) (c : UInt8) (w : World) :
    Calls Tryz.prog 68 #[.string s, .string ⟨#[c]⟩] w fun e w' => e = .returned (.int .i64 (Lib.indexByte s.data.toList c)) ∧ w' = w := Any.stringslite_Index_one Tryz.lays219 s c w
def Tryz.lays143_ren : Go.Shelf.Ren := ⟨fun | 143 => 84 | 219 => 68 | 217 => 78 | 225 => 79 | 224 => 80 | 267 => 81 | 266 => 92 | 314 => 93 | n => n, fun | 9 => 9 | 3 => 3 | 4 => 4 | 5 => 5 | 46 => 139 | 146 => 148 | 51 => 144 | n => n, fun | 1 => 14 | n => n⟩
theorem Tryz.lays143 : Go.Proofs.Lays.n143 Tryz.prog Tryz.lays143_ren := {
  mixed := by kernel_rfl
  f143 := Tryz.func84.trans (congrArg some (by kernel_rfl))
  f217 := Tryz.func78.trans (congrArg some (by kernel_rfl))
  f219 := Tryz.func68.trans (congrArg some (by kernel_rfl))
  f224 := Tryz.func80.trans (congrArg some (by kernel_rfl))
  f225 := Tryz.func79.trans (congrArg some (by kernel_rfl))
  f266 := Tryz.func92.trans (congrArg some (by kernel_rfl))
  f267 := Tryz.func81.trans (congrArg some (by kernel_rfl))
  f314 := Tryz.func93.trans (congrArg some (by kernel_rfl))
  t3 := Tryz.underlying3
  a3 := Tryz.isAgg3
  z3 := Tryz.sizeOf3
  v3 := Tryz.zeroValue3
  t4 := Tryz.underlying4
  a4 := Tryz.isAgg4
  z4 := Tryz.sizeOf4
  v4 := Tryz.zeroValue4
  t5 := Tryz.underlying5
  a5 := Tryz.isAgg5
  z5 := Tryz.sizeOf5
  v5 := Tryz.zeroValue5
  t9 := Tryz.underlying9
  a9 := Tryz.isAgg9
  z9 := Tryz.sizeOf9
  v9 := Tryz.zeroValue9
  t46 := Tryz.underlying139
  a46 := Tryz.isAgg139
  z46 := Tryz.sizeOf139
  v46 := Tryz.zeroValue139
  t51 := Tryz.underlying144
  a51 := Tryz.isAgg144
  z51 := Tryz.sizeOf144
  v51 := Tryz.zeroValue144
  t146 := Tryz.underlying148
  a146 := Tryz.isAgg148
  z146 := Tryz.sizeOf148
  v146 := Tryz.zeroValue148
  g1 := by kernel_rfl }
open Go.RowKit Go.Lib in
theorem Tryz.strings_Index_one (s : ByteArray) (c : UInt8) (w : World) :
    Calls Tryz.prog 84 #[.string s, .string ⟨#[c]⟩] w fun e w' => e = .returned (.int .i64 (Lib.indexByte s.data.toList c)) ∧ w' = w := Any.strings_Index_one Tryz.lays143 s c w
def Tryz.lays138_ren : Go.Shelf.Ren := ⟨fun | 138 => 83 | 195 => 94 | 218 => 96 | 143 => 84 | 219 => 68 | 217 => 78 | 225 => 79 | 224 => 80 | 267 => 81 | 266 => 92 | 314 => 93 | n => n, fun | 9 => 9 | 3 => 3 | 4 => 4 | 5 => 5 | 0 => 0 | 46 => 139 | 146 => 148 | 51 => 144 | n => n, fun | 1 => 14 | n => n⟩
theorem Tryz.lays138 : Go.Proofs.Lays.n138 Tryz.prog Tryz.lays138_ren := {
  mixed := by kernel_rfl
  f138 := Tryz.func83.trans (congrArg some (by kernel_rfl))
  f143 := Tryz.func84.trans (congrArg some (by kernel_rfl))
  f195 := Tryz.func94.trans (congrArg some (by kernel_rfl))
  f217 := Tryz.func78.trans (congrArg some (by kernel_rfl))
  f218 := Tryz.func96.trans (congrArg some (by kernel_rfl))
  f219 := Tryz.func68.trans (congrArg some (by kernel_rfl))
  f224 := Tryz.func80.trans (congrArg some (by kernel_rfl))
  f225 := Tryz.func79.trans (congrArg some (by kernel_rfl))
  f266 := Tryz.func92.trans (congrArg some (by kernel_rfl))
  f267 := Tryz.func81.trans (congrArg some (by kernel_rfl))
  f314 := Tryz.func93.trans (congrArg some (by kernel_rfl))
  t0 := Tryz.underlying0
  a0 := Tryz.isAgg0
  z0 := Tryz.sizeOf0
  v0 := Tryz.zeroValue0
  t3 := Tryz.underlying3
  a3 := Tryz.isAgg3
  z3 := Tryz.sizeOf3
  v3 := Tryz.zeroValue3
  t4 := Tryz.underlying4
  a4 := Tryz.isAgg4
  z4 := Tryz.sizeOf4
  v4 := Tryz.zeroValue4
  t5 := Tryz.underlying5
  a5 := Tryz.isAgg5
  z5 := Tryz.sizeOf5
  v5 := Tryz.zeroValue5
  t9 := Tryz.underlying9
  a9 := Tryz.isAgg9
  z9 := Tryz.sizeOf9
  v9 := Tryz.zeroValue9
  t46 := Tryz.underlying139
  a46 := Tryz.isAgg139
  z46 := Tryz.sizeOf139
  v46 := Tryz.zeroValue139
  t51 := Tryz.underlying144
  a51 := Tryz.isAgg144
  z51 := Tryz.sizeOf144
  v51 := Tryz.zeroValue144
  t146 := Tryz.underlying148
  a146 := Tryz.isAgg148
  z146 := Tryz.sizeOf148
  v146 := Tryz.zeroValue148
  g1 := by kernel_rfl }
open Go.RowKit Go.Lib in
theorem Tryz.strings_Count_one (s : ByteArray) (c : UInt8) (w : World) :
    Calls Tryz.prog 83 #[.string s, .string ⟨#[c]⟩] w fun e w' => e = .returned (.int .i64 (Lib.countByte s.data.toList c)) ∧ w' = w := Any.strings_Count_one Tryz.lays138 s c w
def Tryz.lays99_ren : Go.Shelf.Ren := ⟨fun | 99 => 62 | 206 => 71 | n => n, fun | 9 => 9 | 4 => 4 | 3 => 3 | n => n, fun | n => n⟩
theorem Tryz.lays99 : Go.Proofs.Lays.n99 Tryz.prog Tryz.lays99_ren := {
  mixed := by kernel_rfl
  f99 := Tryz.func62.trans (congrArg some (by kernel_rfl))
  f206 := Tryz.func71.trans (congrArg some (by kernel_rfl))
  t3 := Tryz.underlying3
  a3 := Tryz.isAgg3
  z3 := Tryz.sizeOf3
  v3 := Tryz.zeroValue3
  t4 := Tryz.underlying4
  a4 := Tryz.isAgg4
  z4 := Tryz.sizeOf4
  v4 := Tryz.zeroValue4
  t9 := Tryz.underlying9
  a9 := Tryz.isAgg9
  z9 := Tryz.sizeOf9
  v9 := Tryz.zeroValue9 }
open Go.RowKit Go.Lib in
theorem Tryz.strings_HasPrefix (s p : ByteArray) (w : World) :
    Calls Tryz.prog 62 #[.string s, .string p] w fun e w' => e = .returned (.bool (Lib.hasPrefix s.data.toList p.data.toList)) ∧ w' = w := Any.strings_HasPrefix Tryz.lays99 s p w
def Tryz.lays221_ren : Go.Shelf.Ren := ⟨fun | 221 => 69 | 268 => 82 | 138 => 83 | 143 => 84 | 195 => 94 | 197 => 95 | 218 => 96 | 219 => 68 | 260 => 104 | 217 => 78 | 225 => 79 | 224 => 80 | 267 => 81 | 266 => 92 | 314 => 93 | n => n, fun | 9 => 9 | 3 => 3 | 31 => 66 | 4 => 4 | 0 => 0 | 105 => 150 | 21 => 21 | 5 => 5 | 46 => 139 | 119 => 166 | 139 => 169 | 138 => 168 | 146 => 148 | 51 => 144 | n => n, fun | 1 => 14 | 3 => 20 | 4 => 21 | n => n⟩
theorem Tryz.lays221 : Go.Proofs.Lays.n221 Tryz.prog Tryz.lays221_ren := {
  mixed := by kernel_rfl
  f138 := Tryz.func83.trans (congrArg some (by kernel_rfl))
  f143 := Tryz.func84.trans (congrArg some (by kernel_rfl))
  f195 := Tryz.func94.trans (congrArg some (by kernel_rfl))
  f197 := Tryz.func95.trans (congrArg some (by kernel_rfl))
  f217 := Tryz.func78.trans (congrArg some (by kernel_rfl))
  f218 := Tryz.func96.trans (congrArg some (by kernel_rfl))
  f219 := Tryz.func68.trans (congrArg some (by kernel_rfl))
  f221 := Tryz.func69.trans (congrArg some (by kernel_rfl))
  f224 := Tryz.func80.trans (congrArg some (by kernel_rfl))
  f225 := Tryz.func79.trans (congrArg some (by kernel_rfl))
  f260 := Tryz.func104.trans (congrArg some (by kernel_rfl))
  f266 := Tryz.func92.trans (congrArg some (by kernel_rfl))
  f267 := Tryz.func81.trans (congrArg some (by kernel_rfl))
  f268 := Tryz.func82.trans (congrArg some (by kernel_rfl))
  f314 := Tryz.func93.trans (congrArg some (by kernel_rfl))
  t0 := Tryz.underlying0
  a0 := Tryz.isAgg0
  z0 := Tryz.sizeOf0
  v0 := Tryz.zeroValue0
  t3 := Tryz.underlying3
  a3 := Tryz.isAgg3
  z3 := Tryz.sizeOf3
  v3 := Tryz.zeroValue3
  t4 := Tryz.underlying4
  a4 := Tryz.isAgg4
  z4 := Tryz.sizeOf4
  v4 := Tryz.zeroValue4
  t5 := Tryz.underlying5
  a5 := Tryz.isAgg5
  z5 := Tryz.sizeOf5
  v5 := Tryz.zeroValue5
  t9 := Tryz.underlying9
  a9 := Tryz.isAgg9
  z9 := Tryz.sizeOf9
  v9 := Tryz.zeroValue9
  t21 := Tryz.underlying21
  a21 := Tryz.isAgg21
  z21 := Tryz.sizeOf21
  v21 := Tryz.zeroValue21
  t31 := Tryz.underlying66
  a31 := Tryz.isAgg66
  z31 := Tryz.sizeOf66
  v31 := Tryz.zeroValue66
  t46 := Tryz.underlying139
  a46 := Tryz.isAgg139
  z46 := Tryz.sizeOf139
  v46 := Tryz.zeroValue139
  t51 := Tryz.underlying144
  a51 := Tryz.isAgg144
  z51 := Tryz.sizeOf144
  v51 := Tryz.zeroValue144
  t105 := Tryz.underlying150
  a105 := Tryz.isAgg150
  z105 := Tryz.sizeOf150
  v105 := Tryz.zeroValue150
  t119 := Tryz.underlying166
  a119 := Tryz.isAgg166
  z119 := Tryz.sizeOf166
  t138 := Tryz.underlying168
  a138 := Tryz.isAgg168
  z138 := Tryz.sizeOf168
  v138 := Tryz.zeroValue168
  t139 := Tryz.underlying169
  a139 := Tryz.isAgg169
  z139 := Tryz.sizeOf169
  v139 := Tryz.zeroValue169
  t146 := Tryz.underlying148
  a146 := Tryz.isAgg148
  z146 := Tryz.sizeOf148
  v146 := Tryz.zeroValue148
  g1 := by kernel_rfl
  g3 := by kernel_rfl
  g4 := by kernel_rfl }
open Go.RowKit Go.Lib in
theorem Tryz.strings_genSplit (s sep : ByteArray) (sv : Nat) (n : Int) (N : Nat) (m : Int) (w : World) (hs : s.size < 4294967281) (hm : w.cell? ⟨14, 0, none⟩ = some (.int .i64 m)) (h1 : 1 ≤ sep.size) (hsv : sv ≤ sep.size) (hn0 : n ≠ 0) (hn63 : n ≤ 9223372036854775807) (hN : (N : Int) = min (if n < 0 then (Lib.countB s sep : Int) + 1 else n) ((s.size : Int) + 1)) :
    Calls Tryz.prog 69 #[.string s, .string sep, .int .i64 sv, .int .i64 n] w fun e w' =>
      e = .returned (.slice (some ⟨w.heap.size, 0, none⟩) (Lib.splitB sep sv (N - 1) s).length N) ∧ w' = w.alloc (.cells (Lib.cellsOf (Lib.splitB sep sv (N - 1) s) N) 9) := Any.strings_genSplit Tryz.lays221 (by kernel_rfl) s sep sv n N m w hs hm h1 hsv hn0 hn63 hN
end Go.Proofs
/-
  strings.Cut at a slash, and the iterator that path.cut hands back: contracts: each piece between slashes is handed out in its order, till all are or a round says no more. Over this seat's translation.
-/
namespace Go.Proofs.YtlofpooobabkjaaGreatDoor
open Go.RowKit Go.Shelf

theorem extract_list (l : List UInt8) (i j : Nat) : ({ data := l.toArray } : ByteArray).extract i j = ⟨((l.drop i).take (j - i)).toArray⟩ := by
  have h := Lib.extract_data ⟨l.toArray⟩ i j
  apply ByteArray.ext
  rw [← Array.toArray_toList (xs := (({ data := l.toArray } : ByteArray).extract i j).data), h]

theorem slCut_none (l : List UInt8) (w : World) (h : cutL l = none) : Calls Tryz.prog 55 #[.string ⟨l.toArray⟩, .string ⟨#[47]⟩] w fun e w' => e = .returned (.tuple #[.string ⟨l.toArray⟩, .string ⟨#[]⟩, .bool false]) ∧ w' = w := by
  have HI : Hid (Lib.indexByte l 47 = -1) := index_none h
  clear h
  go_enter Tryz.func55, Tryz.ntmps55
  go_wp2_with fail
  refine (Tryz.stringslite_Index_one _ 47 _).mono ?_
  rintro e w' ⟨rfl, rfl⟩
  rw [show Lib.indexByte ({ data := l.toArray } : ByteArray).data.toList 47 = -1 from by simpa using HI.out]
  go_wp2
  go_ret3
  exact ⟨rfl, rfl⟩

theorem slCut_some (l a b : List UInt8) (w : World) (hl : l.length ≤ 100000) (h : cutL l = some (a, b)) : Calls Tryz.prog 55 #[.string ⟨l.toArray⟩, .string ⟨#[47]⟩] w fun e w' => e = .returned (.tuple #[.string ⟨a.toArray⟩, .string ⟨b.toArray⟩, .bool true]) ∧ ∃ n, w' = w.drewN n := by
  have HI : Hid (Lib.indexByte l 47 = a.length) := index_some h
  have HL : Hid (l = a ++ 47 :: b) := cutL_some h
  have hlen : a.length + b.length + 1 = l.length := by rw [HL.out]; simp; omega
  clear h
  go_enter Tryz.func55, Tryz.ntmps55
  go_wp2_with fail
  refine (Tryz.stringslite_Index_one _ 47 _).mono ?_
  rintro e w' ⟨rfl, rfl⟩
  rw [show Lib.indexByte ({ data := l.toArray } : ByteArray).data.toList 47 = a.length from by simpa using HI.out]
  go_wp2_with fail
  go_quiet (fail)
  go_wp2
  go_ret3
  refine ⟨?_, nq, rfl⟩
  have e1 : ({ data := l.toArray } : ByteArray).extract 0 a.length = ⟨a.toArray⟩ := by
    rw [extract_list, HL.out]; simp
  have e2 : ({ data := l.toArray } : ByteArray).extract (a.length + 1) l.length = ⟨b.toArray⟩ := by
    rw [extract_list, HL.out]
    simp
    rw [List.take_of_length_le (by omega)]
  rw [← e1, ← e2]
  rfl

theorem cut_none (l : List UInt8) (w : World) (h : cutL l = none) : Calls Tryz.prog 37 #[.string ⟨l.toArray⟩, .string ⟨#[47]⟩] w fun e w' => e = .returned (.tuple #[.string ⟨l.toArray⟩, .string ⟨#[]⟩, .bool false]) ∧ w' = w := by
  have H : Hid (cutL l = none) := h
  clear h
  go_enter Tryz.func37, Tryz.ntmps37
  go_wp2_with fail
  refine (slCut_none _ _ H.out).mono ?_
  rintro e w' ⟨rfl, rfl⟩
  go_wp2
  go_ret3
  exact ⟨rfl, rfl⟩

theorem cut_some (l a b : List UInt8) (w : World) (hl : l.length ≤ 100000) (h : cutL l = some (a, b)) : Calls Tryz.prog 37 #[.string ⟨l.toArray⟩, .string ⟨#[47]⟩] w fun e w' => e = .returned (.tuple #[.string ⟨a.toArray⟩, .string ⟨b.toArray⟩, .bool true]) ∧ ∃ n, w' = w.drewN n := by
  have H : Hid (cutL l = some (a, b)) := h
  clear h
  go_enter Tryz.func37, Tryz.ntmps37
  go_wp2_with fail
  refine (slCut_some _ _ _ _ hl H.out).mono ?_
  rintro e w' ⟨rfl, nq, rfl⟩
  go_wp2
  go_ret3
  exact ⟨rfl, nq, rfl⟩

/-- path.cut: the text is boxed; the function value captures the box. -/
theorem cut_fn (l : List UInt8) (w : World) : Calls Tryz.prog 59 #[.string ⟨l.toArray⟩] w fun e w' => e = .returned (.func (.func 72) #[] #[.pointer (some ⟨w.heap.size, 0, none⟩)]) ∧ w' = w.alloc (.cells #[.string ⟨l.toArray⟩] 9) := by
  go_enter Tryz.func59, Tryz.ntmps59
  go_wp2
  go_ret
  exact ⟨rfl, rfl⟩

/-- A piece, no longer than a text may be here. -/
abbrev Pc := { x : List UInt8 // x.length ≤ 100000 }

def strLen : Value → Nat | .string s => s.size | _ => 0
theorem strLen_list (l : List UInt8) : strLen (.string ⟨l.toArray⟩) = l.length := by simp [strLen, ByteArray.size]
def roundsLeft (rest more : Value) : Nat := match more with | .bool true => strLen rest + 1 | _ => 0

theorem grownBy_drewN (w : World) (n : Nat) : w.grownBy (w.drewN n) none := ⟨rfl, rfl, rfl, Nat.le_refl _, fun _ _ _ => rfl⟩

attribute [local go_sem] Oper.semAt_some

set_option maxRecDepth 100000 in
set_option maxHeartbeats 1000000 in
/-- The iterator: every piece in its order, or a prefix of them, where a round says no more. -/
theorem cut1_in (n : Nat) (hn : 1 ≤ n) (l Bn : Nat) (s : List UInt8) (hs : s.length ≤ 100000) (J Jx : List Pc → World → Prop) (n₀ : Nat) (W : World) (hJ : AbidesFrom W.heap.size J)
    (hY : ∀ pre x W1, J pre W1 → pre.length < (pieces s).length → YieldAt Fence.wide (n - 1) Tryz.prog l #[.string ⟨x.1.toArray⟩] W1 fun e W' =>
      (e = .returned (.bool true) ∧ J (pre ++ [x]) W' ∧ Below n₀ W1 W') ∨ (e = .returned (.bool false) ∧ Jx (pre ++ [x]) W'))
    (hB : W.cell? ⟨Bn, 0, none⟩ = some (.string ⟨s.toArray⟩)) (h0 : J [] W) :
    CallsIn Fence.wide n Tryz.prog 72 #[.func (.yield l) #[] #[], .pointer (some ⟨Bn, 0, none⟩)] W fun e W' => (∃ v, e = .returned v) ∧
      ((∃ ys, ys.map (·.1) = pieces s ∧ J ys W') ∨ (∃ pre, pre.map (·.1) <+: pieces s ∧ Jx pre W')) := by
  refine callsIn_of_wp Tryz.func72 rfl trivial ?_ rfl
  simp only [Tryz.ntmps72, List.size_toArray, List.length_cons, List.length_nil, Nat.reduceAdd, Nat.reduceSub, Array.replicate_succ, Array.replicate_zero, List.push_toArray, List.append_toArray, List.nil_append, List.cons_append]
  have HJ : Hid (AbidesFrom W.heap.size J) := hJ
  have HY : Hid (∀ pre x W1, J pre W1 → pre.length < (pieces s).length → YieldAt Fence.wide (n - 1) Tryz.prog l #[.string ⟨x.1.toArray⟩] W1 fun e W' =>
      (e = .returned (.bool true) ∧ J (pre ++ [x]) W' ∧ Below n₀ W1 W') ∨ (e = .returned (.bool false) ∧ Jx (pre ++ [x]) W')) := hY
  clear hJ hY
  gi_wp2
  gi_loopw [3, 4] (fun rest more wr => ∃ pre : List Pc, J pre wr ∧ ((more = .bool false ∧ pre.map (·.1) = pieces s) ∨ (∃ t : List UInt8, more = .bool true ∧ rest = .string ⟨t.toArray⟩ ∧ t.length ≤ 100000 ∧ pieces s = pre.map (·.1) ++ pieces t)))
    (fun rest more _ => roundsLeft rest more)
  case atStart =>
    exact ⟨[], h0, .inr ⟨s, rfl, rfl, hs, by simp⟩⟩
  case round =>
    obtain ⟨pre, hJp, ⟨rfl, hp⟩ | ⟨t, rfl, rfl, ht, hp⟩⟩ := hrel
    · have HP : Hid (pre.map (·.1) = pieces s) := hp
      clear hp
      gi_wp2
      go_end0
      exact ⟨⟨_, rfl⟩, .inl ⟨pre, HP.out, hJp⟩⟩
    · have HP : Hid (pieces s = pre.map (·.1) ++ pieces t) := hp
      clear hp
      cases hc : cutL t with
      | none =>
        have HC : Hid (cutL t = none) := hc
        clear hc
        gi_wp2_with fail
        refine ⟨trivial, (callsIn_wide.2 (cut_none _ _ HC.out)).mono ?_⟩
        rintro e w' ⟨rfl, rfl⟩
        have hlen : pre.length < (pieces s).length := by
          rw [HP.out, pieces_none HC.out]; simp
        obtain ⟨fn, tmps, assign, body, hy, hR⟩ := HY.out pre ⟨t, ht⟩ w' hJp hlen
        gi_wp2
        refine hR.mono ?_
        rintro e W3 (⟨rfl, hJ3, hk3⟩ | ⟨rfl, hJx3⟩)
        · clear hy hR
          gi_wp2
          go_roundw
          case rel => exact ⟨pre ++ [⟨t, ht⟩], hJ3, .inl ⟨rfl, by rw [HP.out, pieces_none HC.out]; simp⟩⟩
          case measure => simp [roundsLeft]
        · clear hy hR
          gi_wp2
          refine bodyPost_ret (results_none rfl _ _ _) rfl ?_
          exact ⟨⟨_, rfl⟩, .inr ⟨pre ++ [⟨t, ht⟩], by rw [HP.out, pieces_none HC.out]; simp, hJx3⟩⟩
      | some ab =>
        obtain ⟨a, b⟩ := ab
        have HC : Hid (cutL t = some (a, b)) := hc
        have hab : a.length + b.length + 1 = t.length := by rw [cutL_some hc]; simp; omega
        have ha : a.length ≤ 100000 := by omega
        clear hc
        gi_wp2_with fail
        refine ⟨trivial, (callsIn_wide.2 (cut_some _ _ _ _ ht HC.out)).mono ?_⟩
        rintro e w' ⟨rfl, nq, rfl⟩
        have hlen : pre.length < (pieces s).length := by
          rw [HP.out, pieces_some HC.out]; simp
        have hJd : J pre (wr.drewN nq) := HJ.out pre wr _ none hJp (grownBy_drewN _ _) (fun _ h => by cases h)
        obtain ⟨fn, tmps, assign, body, hy, hR⟩ := HY.out pre ⟨a, ha⟩ (wr.drewN nq) hJd hlen
        gi_wp2
        refine hR.mono ?_
        rintro e W3 (⟨rfl, hJ3, hk3⟩ | ⟨rfl, hJx3⟩)
        · clear hy hR
          gi_wp2
          go_roundw
          case rel => exact ⟨pre ++ [⟨a, ha⟩], hJ3, .inr ⟨b, rfl, rfl, by omega, by rw [HP.out, pieces_some HC.out]; simp⟩⟩
          case measure => simp only [roundsLeft, strLen_list]; omega
        · clear hy hR
          gi_wp2
          refine bodyPost_ret (results_none rfl _ _ _) rfl ?_
          exact ⟨⟨_, rfl⟩, .inr ⟨pre ++ [⟨a, ha⟩], by rw [HP.out, pieces_some HC.out]; simp, hJx3⟩⟩

/-- The function value that path.cut hands back. -/
theorem cut_stops (n : Nat) (hn : 1 ≤ n) (Bn n₀ : Nat) (s : List UInt8) (hs : s.length ≤ 100000) (w : World) (hBn : Bn < w.heap.size) (hc : w.cell? ⟨Bn, 0, none⟩ = some (.string ⟨s.toArray⟩)) :
    SeqStopsK Fence.wide n Tryz.prog 72 #[.pointer (some ⟨Bn, 0, none⟩)] (fun x : Pc => #[Value.string ⟨x.1.toArray⟩]) (Below n₀) (fun ys => ys.map (·.1) = pieces s) (fun pre => pre.map (·.1) <+: pieces s) (pieces s).length w := fun l J Jx W hW hJ _ hY h0 =>
  cut1_in n hn l Bn s hs J Jx n₀ W hJ hY ((hW.cell (p := ⟨Bn, 0, none⟩) hBn).trans hc) h0
end Go.Proofs.YtlofpooobabkjaaGreatDoor
/-
  path.Check tells of every text that is not too long what the plain function tells: a contract, over this seat's translation.
-/
namespace Go.Proofs.YtlofpooobabkjaaGreatDoor
open Go.RowKit Go.Shelf

theorem cell_set {w : World} {a : Addr} {v u : Value} (h : w.cell? a = some u) : (w.setCell a v).cell? a = some v := World.cell?_setCell_same' _ _ _ (by rw [h]; rfl)
theorem cell_far {w : World} {a b : Addr} {v : Value} (h : b.block ≠ a.block) : (w.setCell a v).cell? b = w.cell? b := World.cell?_of_block (Below.heap_setCell _ _ _ _ h)

attribute [local go_sem] Oper.semAt_some

set_option maxRecDepth 100000 in
set_option maxHeartbeats 2000000 in
theorem check_any (p : Nat → Addr) (s : List UInt8) (w : World) (hE : Env p w) (hs : s.length ≤ 90000) :
    Calls Tryz.prog 40 #[.string ⟨s.toArray⟩] w fun e w' => e = .returned (errV p (checkCode s)) ∧ Below w.heap.size w w' := by
  refine (callsIn_wide (n := 3)).1 ?_
  refine callsIn_of_wp_marks Tryz.func40 rfl trivial ?_ rfl
  simp only [Tryz.ntmps40, List.size_toArray, List.length_cons, List.length_nil, Nat.reduceAdd, Nat.reduceSub, Array.replicate_succ, Array.replicate_zero, List.push_toArray, List.append_toArray, List.nil_append, List.cons_append]
  have HE : Hid (Env p w) := hE
  clear hE
  gi_wp2_with (refine ⟨trivial, ?_⟩; gi_at_call 59; refine (callsIn_wide.2 (cut_fn s _)).mono ?_; rintro e w' ⟨rfl, rfl⟩)
  have b0 := Boxed.new w 26 .nilIface
  have b1 := Boxed.new (w.alloc (.cells #[.nilIface] 26)) 3 (.int .i64 0)
  have b2 := Boxed.new ((w.alloc (.cells #[.nilIface] 26)).alloc (.cells #[.int .i64 0] 3)) 9 (.string ⟨s.toArray⟩)
  simp only [World.size_alloc] at b1 b2
  have hB0 : Below w.heap.size w (((w.alloc (.cells #[.nilIface] 26)).alloc (.cells #[.int .i64 0] 3)).alloc (.cells #[.string ⟨s.toArray⟩] 9)) := (((Below.refl _ w).alloc (Nat.le_refl _) _).alloc (by simp) _).alloc (by simp; omega) _
  refine wpIn_rangeFunc_ownF rfl (by omega) (gf := 72) (lb := #[.pointer (some ⟨w.heap.size + 1 + 1, 0, none⟩)]) rfl trivial (enters_of Tryz.func72 (by kernel_rfl) rfl)
    (cut_stops _ (by omega) (w.heap.size + 1 + 1) w.heap.size s (by omega) _ (by simp) b2.cell) belowK_t (belowK_b (by simp; omega)) (Below.refl _ _) (fun _ => rfl)
    (fun pre W => ((pre.map (·.1)).all isPart = true ∧ W.cell? ⟨w.heap.size, 0, none⟩ = some .nilIface ∧ W.frozen? ⟨w.heap.size, 0, none⟩ = false ∧ W.cell? ⟨w.heap.size + 1, 0, none⟩ = some (.int .i64 pre.length) ∧ W.frozen? ⟨w.heap.size + 1, 0, none⟩ = false) ∧ Below w.heap.size w W)
    (fun c pre W => (c = .ret ∧ (pre.map (·.1)).all isPart = false ∧ W.cell? ⟨w.heap.size, 0, none⟩ = some (.iface 171 (.pointer (some (p 4))))) ∧ Below w.heap.size w W)
    (OwnFrom.and (Own.from (fun s A B row hs hg hr => ⟨hs.1, cell_kept hs.2.1 hg hr, (frozen_kept hs.2.1 hg hr).trans hs.2.2.1, cell_kept hs.2.2.2.1 hg hr, (frozen_kept hs.2.2.2.1 hg hr).trans hs.2.2.2.2⟩) _) (ownFrom_below (Nat.le_refl _) (by simp; omega)))
    (fun c => OwnFrom.and (Own.from (fun s A B row hs hg hr => ⟨hs.1, hs.2.1, cell_kept hs.2.2 hg hr⟩) _) (ownFrom_below (Nat.le_refl _) (by simp; omega)))
    ⟨⟨by simp, ((b0.alloc _).alloc _).cell, ((b0.alloc _).alloc _).frozen, (b1.alloc _).cell, (b1.alloc _).frozen⟩, hB0⟩
    (fun x => { tmps := #[.string ⟨s.toArray⟩, undef, .pointer (some ⟨w.heap.size, 0, none⟩), .pointer (some ⟨w.heap.size + 1, 0, none⟩), .string ⟨x.1.toArray⟩, .string ⟨s.toArray⟩, .func (.func 72) #[] #[.pointer (some ⟨w.heap.size + 1 + 1, 0, none⟩)], .string ⟨x.1.toArray⟩, undef, undef, undef, undef, undef, undef, undef, undef, undef], defers := [] }) ?assign ?body ?done ?stop
  case assign =>
    intro l x W K hK
    gi_wp2
    exact hK
  case body =>
    rintro l pre x W ⟨⟨hp, hc0, hf0, hc1, hf1⟩, hB⟩ hlt
    have hpl := pieces_length s
    have hg := (HE.out.below hB).s4
    have HP : Hid ((pre.map (·.1)).all isPart = true) := hp
    have HB : Hid (Below w.heap.size w W) := hB
    clear hp hB
    by_cases hx : isPart x.1 = true
    · gi_wp2_with (refine ⟨trivial, ?_⟩; gi_at_call 60; refine (CallsIn.inRound l (callsIn_wide.2 (isPart_any x.1 _ x.2))).mono ?_; rintro e w' ⟨rfl, rfl⟩)
      refine ⟨KeepsOthers.setCell _ _ _, (Below.refl w.heap.size _).setCell (p := ⟨w.heap.size + 1, 0, none⟩) (by simp) _, ⟨?_, ?_, ?_, ?_, ?_⟩, HB.out.setCell (p := ⟨w.heap.size + 1, 0, none⟩) (by simp) _⟩
      · rw [List.map_append, List.all_append, HP.out]; simp [hx]
      · rw [cell_far (by simp)]; exact hc0
      · rw [World.frozen?_setCell]; exact hf0
      · rw [cell_set hc1]; simp
      · rw [World.frozen?_setCell]; exact hf1
    · have hx' : isPart x.1 = false := by simpa using hx
      clear hx
      gi_wp2_with (refine ⟨trivial, ?_⟩; gi_at_call 60; refine (CallsIn.inRound l (callsIn_wide.2 (isPart_any x.1 _ x.2))).mono ?_; rintro e w' ⟨rfl, rfl⟩)
      refine ⟨KeepsOthers.setCell _ _ _, ⟨rfl, ?_, ?_⟩, HB.out.setCell (p := ⟨w.heap.size, 0, none⟩) (by simp) _⟩
      · rw [List.map_append, List.all_append]; simp [hx']
      · rw [cell_set hc0]
  case done =>
    rintro D ys W hD hys ⟨⟨hp, hc0, hf0, hc1, hf1⟩, hB⟩ hK
    have hg := (HE.out.below hB).s7
    have HB : Hid (Below w.heap.size w W) := hB
    have HC : Hid (checkCode s = if 6 < ys.length then 8 else 0) := by
      show checkCode s = _
      unfold checkCode
      rw [← hys, hp]; simp
    clear hp hB hys
    by_cases hl : 6 < ys.length
    · have hl' : (6 : Int) < ys.length := by omega
      gi_wp2
      have hK' := (KeepsOthers.setCell W ⟨w.heap.size, 0, none⟩ (.iface 171 (.pointer (some (p 7))))).same D _ hK rfl
      refine ⟨by simp, .inl ⟨_, _, rfl, run_takeDeferred hK', ?_⟩⟩
      have hc5 := cell_kept (cell_set (v := .iface 171 (.pointer (some (p 7)))) hc0) (grownBy_putObj' _ D (.deferred none)) (fun r e => by cases e; exact ⟨_, hK', rfl⟩)
      refine ⟨.iface 171 (.pointer (some (p 7))), ?_, by rw [HC.out, if_pos hl]; rfl, (HB.out.setCell (p := ⟨w.heap.size, 0, none⟩) (by simp) _).trans (belowK_b (w := w) (Nat.le_refl _) _ D _ _ (by simp at hD; omega) hK' rfl rfl)⟩
      simp [results, Tryz.f40, go_sem, hc5]
    · have hl' : ¬ (6 : Int) < ys.length := by omega
      gi_wp2
      have hK' := (KeepsOthers.setCell W ⟨w.heap.size, 0, none⟩ .nilIface).same D _ hK rfl
      refine ⟨by simp, .inl ⟨_, _, rfl, run_takeDeferred hK', ?_⟩⟩
      have hc5 := cell_kept (cell_set (v := .nilIface) hc0) (grownBy_putObj' _ D (.deferred none)) (fun r e => by cases e; exact ⟨_, hK', rfl⟩)
      refine ⟨.nilIface, ?_, by rw [HC.out, if_neg hl]; rfl, (HB.out.setCell (p := ⟨w.heap.size, 0, none⟩) (by simp) _).trans (belowK_b (w := w) (Nat.le_refl _) _ D _ _ (by simp at hD; omega) hK' rfl rfl)⟩
      simp [results, Tryz.f40, go_sem, hc5]
  case stop =>
    rintro D c pre W hD hpre ⟨⟨rfl, hin, hcr⟩, hB⟩ hK
    have HC : Hid (checkCode s = 5) := by
      show checkCode s = 5
      unfold checkCode
      obtain ⟨r, hr⟩ := hpre
      rw [← hr, List.all_append, hin]; simp
    clear hin hpre
    gi_wp2
    refine ⟨by simp, .inl ⟨_, _, rfl, run_takeDeferred hK, ?_⟩⟩
    have hc5 := cell_kept hcr (grownBy_putObj' _ D (.deferred none)) (fun r e => by cases e; exact ⟨_, hK, rfl⟩)
    refine ⟨.iface 171 (.pointer (some (p 4))), ?_, by rw [HC.out]; rfl, hB.trans (belowK_b (w := w) (Nat.le_refl _) W D _ _ (by simp at hD; omega) hK rfl rfl)⟩
    simp [results, Tryz.f40, go_sem, hc5]
end Go.Proofs.YtlofpooobabkjaaGreatDoor
/-
  path.Clean tells of every text that is not too long what the plain function tells: a contract, over this seat's translation.
-/
namespace Go.Proofs.YtlofpooobabkjaaGreatDoor
open Go.RowKit Go.Shelf

theorem hasPrefix_slash (l : List UInt8) : Lib.hasPrefix l [47] = (l.head? == some 47) := by
  cases l with
  | nil => rfl
  | cons c r =>
    have : ((47 : UInt8) == c) = (c == 47) := by rw [Bool.eq_iff_iff]; simp; exact eq_comm
    simp [Lib.hasPrefix, List.isPrefixOf, this]

theorem hasPrefix_is (l q : List UInt8) (r : Bool) (w : World) (h : Lib.hasPrefix l q = r) : Calls Tryz.prog 62 #[.string ⟨l.toArray⟩, .string ⟨q.toArray⟩] w fun e w' => e = .returned (.bool r) ∧ w' = w := by
  have := Tryz.strings_HasPrefix ⟨l.toArray⟩ ⟨q.toArray⟩ w
  simp only at this
  rwa [h] at this

theorem isPart_is (l : List UInt8) (r : Bool) (w : World) (hl : l.length ≤ 100000) (h : isPart l = r) : Calls Tryz.prog 60 #[.string ⟨l.toArray⟩] w fun e w' => e = .returned (.bool r) ∧ w = w' := by
  have := isPart_any l w hl
  rw [h] at this
  exact this.mono fun _ _ ⟨a, b⟩ => ⟨a, b.symm⟩

theorem Tryz.info9 : (Tryz.prog.info? 9).map (fun i => (i.zero, i.size, i.bytes)) = some (some (.string ⟨#[]⟩), 1, 16) := by kernel_rfl

attribute [local go_sem] Oper.semAt_some

abbrev sv (l : List UInt8) : Value := .string ⟨l.toArray⟩

/-- The pieces kept and the error's number behind some pieces. -/
def keptOf (pre : List Pc) : List (List UInt8) := (cleanF (pre.map (·.1))).1
def codeAt (pre : List Pc) : Nat := (cleanF (pre.map (·.1))).2

theorem keptOf_snoc (pre : List Pc) (x : Pc) : (keptOf (pre ++ [x]), codeAt (pre ++ [x])) = cleanStep (keptOf pre, codeAt pre) x.1 := by
  simp [keptOf, codeAt, cleanF_snoc]
theorem snoc_of {pre : List Pc} {x : Pc} {k : List (List UInt8)} {c : Nat} (h : cleanStep (keptOf pre, codeAt pre) x.1 = (k, c)) : keptOf (pre ++ [x]) = k ∧ codeAt (pre ++ [x]) = c := by
  have := (keptOf_snoc pre x).trans h
  simpa using this

theorem stored_both {W w : World} {b : Nat} {x y u0 u1 : Value} (hc0 : W.cell? ⟨b, 0, none⟩ = some u0) (hc1 : W.cell? ⟨b + 1, 0, none⟩ = some u1) (hB : Below b w W) :
    (((W.setCell ⟨b, 0, none⟩ x).setCell ⟨b + 1, 0, none⟩ y).cell? ⟨b, 0, none⟩ = some x) ∧ (((W.setCell ⟨b, 0, none⟩ x).setCell ⟨b + 1, 0, none⟩ y).cell? ⟨b + 1, 0, none⟩ = some y) ∧
      Below b w ((W.setCell ⟨b, 0, none⟩ x).setCell ⟨b + 1, 0, none⟩ y) ∧ KeepsOthers W ((W.setCell ⟨b, 0, none⟩ x).setCell ⟨b + 1, 0, none⟩ y) := by
  refine ⟨?_, ?_, (hB.setCell (p := ⟨b, 0, none⟩) (Nat.le_refl _) _).setCell (p := ⟨b + 1, 0, none⟩) (by simp) _, (KeepsOthers.setCell _ _ _).trans (KeepsOthers.setCell _ _ _)⟩
  · rw [cell_far (by simp), cell_set hc0]
  · exact cell_set (u := u1) (by rw [cell_far (by simp)]; exact hc1)

theorem stored_two {W w : World} {b : Nat} {x y u0 u1 : Value} (hc0 : W.cell? ⟨b, 0, none⟩ = some u0) (hc1 : W.cell? ⟨b + 1, 0, none⟩ = some u1) (hB : Below b w W) :
    (((W.setCell ⟨b, 0, none⟩ x).setCell ⟨b + 1, 0, none⟩ y).drew.cell? ⟨b, 0, none⟩ = some x) ∧ (((W.setCell ⟨b, 0, none⟩ x).setCell ⟨b + 1, 0, none⟩ y).drew.cell? ⟨b + 1, 0, none⟩ = some y) ∧
      Below b w ((W.setCell ⟨b, 0, none⟩ x).setCell ⟨b + 1, 0, none⟩ y).drew ∧ KeepsOthers W ((W.setCell ⟨b, 0, none⟩ x).setCell ⟨b + 1, 0, none⟩ y).drew := by
  obtain ⟨q0, q1, q2, q3⟩ := stored_both (x := x) (y := y) hc0 hc1 hB
  exact ⟨q0, q1, q2.drew, q3.trans (KeepsOthers.drew _)⟩

theorem append_keeps {W w1 : World} {n₁ B j k : Nat} {e : TypeId} {size : Nat} {v : Value} {xs : List Value} {tmp : Obj} (hrow : W.ownsRow n₁ e size v k xs) (hgrow : (W.alloc tmp).grownBy w1 v.ownBlock)
    (hj : j < n₁) (hjW : j < W.heap.size) (hne : j ≠ B) (u : Value) : (w1.setCell ⟨B, 0, none⟩ u).heap[j]? = W.heap[j]? := by
  rw [Below.heap_setCell _ _ _ _ (by simpa using hne), hgrow.block j (by simp; omega) (fun h => by have := hrow.lt j h.symm; omega)]
  exact Below.heap_alloc _ _ _ hjW

theorem ownsRow_slice {W : World} {base : Nat} {e : TypeId} {size : Nat} {v : Value} {n : Nat} {xs : List Value} (h : W.ownsRow base e size v n xs) : ∃ a cap, v = .slice a n cap := by
  rcases h.2 with ⟨rfl, rfl⟩ | ⟨g, cap, cur, rfl, _⟩
  · exact ⟨_, _, rfl⟩
  · exact ⟨_, _, rfl⟩

end Go.Proofs.YtlofpooobabkjaaGreatDoor
/-
  The law package's coded, told of any error of plain.Code, over this seat's translation.
-/
namespace Go.Proofs.YtlofpooobabkjaaGreatDoor
open Go.RowKit Go.Extern.Stop Go.Stop Go.Extern

theorem code_sent (p : Nat → Addr) (j : Nat) (w : World) (E : Env p w) (hj : j < 13) :
    Calls Tryz.prog 21 #[.iface 171 (.pointer (some (p j)))] w fun e w' => e = .returned (.tuple #[.int .i64 ((j : Int) + 1), .int .i64 (-1)]) ∧ Below w.heap.size w w' := by
  obtain ⟨c, t, h⟩ := E.rows j hj
  have := code_str p j (p j) c t w E h (Nat.le_of_lt hj) (fun k hk => ⟨fun e => (E.inj j k hj hk e).symm, fun e => by rw [e]⟩)
  rwa [← codeOf_lt hj] at this

theorem code_flaw (p : Nat → Addr) (j : Nat) (pb po : Nat) (n : Int) (w : World) (E : Env p w) (hj : j < 13) (h0 : w.cell? ⟨pb, po, none⟩ = some (.int .i64 n)) (h1 : w.cell? ⟨pb, po + 1, none⟩ = some (.iface 171 (.pointer (some (p j))))) :
    Calls Tryz.prog 21 #[.iface 62 (.pointer (some ⟨pb, po, none⟩))] w fun e w' => e = .returned (.tuple #[.int .i64 ((j : Int) + 1), .int .i64 n]) ∧ Below w.heap.size w w' := by
  have := code_fault p j pb po n w E hj h0 h1
  rwa [← codeOf_lt hj] at this

theorem code_another (p : Nat → Addr) (a : Addr) (ca : Array Value) (ta : TypeId) (w : World) (E : Env p w) (ha : w.heap[a.block]? = some (.cells ca ta (0, 0))) (hp : ∀ k, k < 13 → a ≠ p k) :
    Calls Tryz.prog 21 #[.iface 171 (.pointer (some a))] w fun e w' => e = .returned (.tuple #[.int .i64 (-1), .int .i64 (-1)]) ∧ Below w.heap.size w w' :=
  code_str p 13 a ca ta w E ha (Nat.le_refl _) (fun k hk => ⟨fun e => absurd e (hp k hk), fun e => by omega⟩)

end Go.Proofs.YtlofpooobabkjaaGreatDoor
/-
  The law package's coded, told of an error by its number, over this seat's translation.
-/
namespace Go.Proofs.YtlofpooobabkjaaGreatDoor
open Go.RowKit

end Go.Proofs.YtlofpooobabkjaaGreatDoor
/-
  path.Join and path.In answer as the plain functions say: contracts, over this seat's translation.
-/
namespace Go.Proofs.YtlofpooobabkjaaGreatDoor
open Go.RowKit Go.Shelf

theorem check_is (p : Nat → Addr) (s : List UInt8) (k : Nat) (w : World) (hE : Env p w) (hs : s.length ≤ 90000) (h : checkCode s = k) :
    Calls Tryz.prog 40 #[.string ⟨s.toArray⟩] w fun e w' => e = .returned (errV p k) ∧ Below w.heap.size w w' := by
  have := check_any p s w hE hs
  rwa [h] at this

theorem cat_list (a b : List UInt8) : ({ data := a.toArray } : ByteArray) ++ { data := b.toArray } = ⟨(a ++ b).toArray⟩ := by
  apply ByteArray.ext
  simp

theorem check_ok (p : Nat → Addr) (s : List UInt8) (w : World) (hE : Env p w) (hs : s.length ≤ 90000) (h : checkCode s = 0) :
    Calls Tryz.prog 40 #[.string ⟨s.toArray⟩] w fun e w' => e = .returned .nilIface ∧ Below w.heap.size w w' := check_is p s 0 w hE hs h
theorem check_bad (p : Nat → Addr) (s : List UInt8) (k : Nat) (w : World) (hE : Env p w) (hs : s.length ≤ 90000) (h : checkCode s = k + 1) :
    Calls Tryz.prog 40 #[.string ⟨s.toArray⟩] w fun e w' => e = .returned (.iface 171 (.pointer (some (p k)))) ∧ Below w.heap.size w w' := check_is p s (k + 1) w hE hs h

/-- Join of a text below a directory. -/
def joinTo (dir s : List UInt8) : List UInt8 := if dir = [] then s else dir ++ 47 :: s

def isIn (s dir : List UInt8) : Bool := decide (checkCode s = 0) && (dir.isEmpty || Lib.hasPrefix s (dir ++ [47]))

set_option maxHeartbeats 1000000 in
theorem in_any (p : Nat → Addr) (s dir : List UInt8) (w : World) (hE : Env p w) (hs : s.length ≤ 90000) (hd : dir.length ≤ 90000) :
    Calls Tryz.prog 43 #[.string ⟨s.toArray⟩, .string ⟨dir.toArray⟩] w fun e w' => e = .returned (.bool (isIn s dir)) ∧ Below w.heap.size w w' := by
  have HE : Hid (Env p w) := hE
  clear hE
  by_cases hc : checkCode s = 0
  · have HI : Hid (isIn s dir = (dir.isEmpty || Lib.hasPrefix s (dir ++ [47]))) := by
      show isIn s dir = _
      simp [isIn, hc]
    have HC : Hid (checkCode s = 0) := hc
    clear hc
    go_enter Tryz.func43, Tryz.ntmps43
    go_wp2_with fail
    refine (check_is p s 0 _ HE.out hs HC.out).mono ?_
    rintro e w1 ⟨rfl, hb⟩
    have HB : Hid (Below w.heap.size w w1) := hb
    clear hb
    rw [errV_zero]
    by_cases h0 : dir = []
    · subst h0
      go_wp2
      go_ret
      exact ⟨ret_bool (by rw [HI.out]; rfl), HB.out⟩
    · have hb0 : dir.isEmpty = false := by simpa using h0
      have HI' : Hid (Lib.hasPrefix s (dir ++ [47]) = isIn s dir) := by
        show Lib.hasPrefix s (dir ++ [47]) = isIn s dir
        rw [HI.out, hb0]; simp
      clear h0 HI
      go_wp2_with fail
      rw [show ({ data := dir.toArray } : ByteArray) ++ { data := #[47] } = ⟨(dir ++ [47]).toArray⟩ from by
        rw [show ({ data := #[47] } : ByteArray) = ⟨[47].toArray⟩ from rfl, cat_list]]
      refine (hasPrefix_is s (dir ++ [47]) (isIn s dir) _ HI'.out).mono ?_
      rintro e w2 ⟨rfl, rfl⟩
      go_wp2
      go_ret
      exact ⟨rfl, HB.out⟩
  · have HI : Hid (isIn s dir = false) := by
      show isIn s dir = _
      simp [isIn, hc]
    have HC : Hid (checkCode s ≠ 0) := hc
    clear hc
    go_enter Tryz.func43, Tryz.ntmps43
    go_wp2_with fail
    refine (check_is p s _ _ HE.out hs rfl).mono ?_
    rintro e w1 ⟨rfl, hb⟩
    have HB : Hid (Below w.heap.size w w1) := hb
    clear hb
    rw [errV_some p HC.out]
    go_wp2
    go_ret
    exact ⟨ret_bool HI.out.symm, HB.out⟩
end Go.Proofs.YtlofpooobabkjaaGreatDoor
