/-
  Own texts of the proof, joined by program: Errs, As, Code.
-/
import Derived.Test.YtmcfkoenpikldaaGreatDoorProg
import Derived.WalkKit
import Derived.LaidEql
import Derived.Stop.Asserts
import Derived.RowKitTokens
/-
  errors.Is and errors.As answer, at the errors of package api and at a *api.Fault, as their text says: contracts of the two calls, over this seat's translation.
  Conditions: the variable errors.errorType holds the handle of type error; two errors that differ lie in two unmarked blocks.
-/
namespace Go.Proofs.YtmcfkoenpikldaaGreatDoor
open Go.RowKit Go.Extern.Stop Go.Stop Go.Extern

/-! ### errors.Is -/
theorem Tryz.isTypeOf (v : Value) (w : World) : (Extern.ReflectliteType.typeOf #[.iface 379 v]).run Tryz.prog w = .ok (.iface 296 (.agg #[.pointer (some ⟨27, 379, none⟩)])) w := by kernel_rfl
def comparableFn : Array Value → Sem Value := Extern.ReflectliteType.method fun t => do Extern.Rtype.noPackHeld "Comparable" t; pure (.bool (← typeInfo t).comparable)
theorem Tryz.isComparable (w : World) : (comparableFn #[.agg #[.pointer (some ⟨27, 379, none⟩)]]).run Tryz.prog w = .ok (.bool true) w := by kernel_rfl
theorem Tryz.isMethodComparable (v : Value) (w : World) : (Go.method 519 296 v "Comparable").run Tryz.prog w = .ok (356, v) w := by kernel_rfl
theorem Tryz.isComp : (Tryz.prog.info? 379).map (·.comparable) = some true := by kernel_rfl
theorem Tryz.isSize : (Tryz.prog.info? 381).map (·.size) = some 1 := by kernel_rfl

theorem Tryz.noIsE (v : Value) (xT : TypeId) (w : World) : (Instr.typeAssert (.iface 379 v) xT 307 true).run Tryz.prog w = .ok (.tuple #[.nilIface, .bool false]) w := run_typeAssert_lacksB Tryz.underlying307 (by kernel_rfl) (by kernel_rfl) v xT w
theorem Tryz.noAsE (v : Value) (xT : TypeId) (w : World) : (Instr.typeAssert (.iface 379 v) xT 300 true).run Tryz.prog w = .ok (.tuple #[.nilIface, .bool false]) w := run_typeAssert_lacksB Tryz.underlying300 (by kernel_rfl) (by kernel_rfl) v xT w
theorem Tryz.noUnwrapE (v : Value) (xT : TypeId) (w : World) : (Instr.typeAssert (.iface 379 v) xT 303 true).run Tryz.prog w = .ok (.tuple #[.nilIface, .bool false]) w := run_typeAssert_lacksB Tryz.underlying303 (by kernel_rfl) (by kernel_rfl) v xT w
theorem Tryz.noUnwrapsE (v : Value) (xT : TypeId) (w : World) : (Instr.typeAssert (.iface 379 v) xT 305 true).run Tryz.prog w = .ok (.tuple #[.nilIface, .bool false]) w := run_typeAssert_lacksB Tryz.underlying305 (by kernel_rfl) (by kernel_rfl) v xT w
theorem Tryz.noIsF (v : Value) (xT : TypeId) (w : World) : (Instr.typeAssert (.iface 142 v) xT 307 true).run Tryz.prog w = .ok (.tuple #[.nilIface, .bool false]) w := run_typeAssert_lacksB Tryz.underlying307 (by kernel_rfl) (by kernel_rfl) v xT w
theorem Tryz.hasUnwrapF (v : Value) (xT : TypeId) (w : World) : (Instr.typeAssert (.iface 142 v) xT 303 true).run Tryz.prog w = .ok (.tuple #[.iface 142 v, .bool true]) w := run_typeAssert_hasB Tryz.underlying303 (by kernel_rfl) v xT w
theorem Tryz.methodUnwrap (v : Value) (w : World) : (Go.method 519 142 v "Unwrap").run Tryz.prog w = .ok (349, v) w := by kernel_rfl

/-- errors.Is(x, x), x of errors.New's make. -/
theorem is_same (a : Addr) (w : World) :
    Calls Tryz.prog 136 #[.iface 379 (.pointer (some a)), .iface 379 (.pointer (some a))] w fun e w' => e = .returned (.bool true) ∧ w' = w := by
  obtain ⟨i, hi, hcmp⟩ := Option.map_eq_some_iff.1 Tryz.isComp
  obtain ⟨j, hj, hjs⟩ := Option.map_eq_some_iff.1 Tryz.isSize
  have h40 := @run_callFunc_extern Tryz.prog 186 _ Extern.ReflectliteType.typeOf Tryz.func186 (by kernel_rfl) (by kernel_rfl) (by kernel_rfl) (by kernel_rfl)
  have h90 := @run_callFunc_extern Tryz.prog 356 _ comparableFn Tryz.func356 (by kernel_rfl) (by kernel_rfl) (by kernel_rfl) (by kernel_rfl)
  have tT := Tryz.isTypeOf
  have cT := Tryz.isComparable
  have mR := Tryz.isMethodComparable
  have heq := run_eql_iface_ptr_same (P := Tryz.prog) w a Tryz.underlying45 Tryz.underlying379 hi hcmp hj
  go_enter Tryz.func136, Tryz.ntmps136
  go_wp2
  refine wp_loop_rounds 1 ?_
  rw [rounds_succ]
  go_wp2
  go_ret
  exact ⟨rfl, rfl⟩

/-- errors.Is(x, y), two different ones of errors.New's make. -/
theorem is_other (a b : Addr) (ca cb : Array Value) (ta tb : TypeId) (w : World) (hne : a ≠ b) (ha : w.heap[a.block]? = some (.cells ca ta (0, 0))) (hb : w.heap[b.block]? = some (.cells cb tb (0, 0))) :
    Calls Tryz.prog 136 #[.iface 379 (.pointer (some a)), .iface 379 (.pointer (some b))] w fun e w' => e = .returned (.bool false) ∧ w' = w := by
  obtain ⟨i, hi, hcmp⟩ := Option.map_eq_some_iff.1 Tryz.isComp
  obtain ⟨j, hj, hjs⟩ := Option.map_eq_some_iff.1 Tryz.isSize
  have h40 := @run_callFunc_extern Tryz.prog 186 _ Extern.ReflectliteType.typeOf Tryz.func186 (by kernel_rfl) (by kernel_rfl) (by kernel_rfl) (by kernel_rfl)
  have h90 := @run_callFunc_extern Tryz.prog 356 _ comparableFn Tryz.func356 (by kernel_rfl) (by kernel_rfl) (by kernel_rfl) (by kernel_rfl)
  have tT := Tryz.isTypeOf
  have cT := Tryz.isComparable
  have mR := Tryz.isMethodComparable
  have nE := Tryz.noIsE
  have uE := Tryz.noUnwrapE
  have vE := Tryz.noUnwrapsE
  have heq := run_eql_iface_ptr_other (P := Tryz.prog) w Tryz.underlying45 Tryz.underlying379 hi hcmp hj (by rw [hjs]; decide) hne ha hb
  go_enter Tryz.func136, Tryz.ntmps136
  go_wp2
  refine wp_loop_rounds 1 ?_
  rw [rounds_succ]
  go_wp2
  go_ret
  exact ⟨rfl, rfl⟩

/-- errors.Is(f, x), f a *api.Fault that bears x itself. -/
theorem is_fault_same (pb po : Nat) (b : Addr) (w : World) (h1 : w.cell? ⟨pb, po + 1, none⟩ = some (.iface 379 (.pointer (some b)))) :
    Calls Tryz.prog 136 #[.iface 142 (.pointer (some ⟨pb, po, none⟩)), .iface 379 (.pointer (some b))] w fun e w' => e = .returned (.bool true) ∧ w' = w := by
  obtain ⟨i, hi, hcmp⟩ := Option.map_eq_some_iff.1 Tryz.isComp
  obtain ⟨j, hj, hjs⟩ := Option.map_eq_some_iff.1 Tryz.isSize
  have h40 := @run_callFunc_extern Tryz.prog 186 _ Extern.ReflectliteType.typeOf Tryz.func186 (by kernel_rfl) (by kernel_rfl) (by kernel_rfl) (by kernel_rfl)
  have h90 := @run_callFunc_extern Tryz.prog 356 _ comparableFn Tryz.func356 (by kernel_rfl) (by kernel_rfl) (by kernel_rfl) (by kernel_rfl)
  have tT := Tryz.isTypeOf
  have cT := Tryz.isComparable
  have mR := Tryz.isMethodComparable
  have nW := Tryz.noIsF
  have uW := Tryz.hasUnwrapF
  have mU := Tryz.methodUnwrap
  have heq := run_eql_iface_ptr_same (P := Tryz.prog) w b Tryz.underlying45 Tryz.underlying379 hi hcmp hj
  have hty := run_eql_iface_types (P := Tryz.prog) 142 379 (.pointer (some ⟨pb, po, none⟩)) (.pointer (some b)) Tryz.underlying45 (by decide) w
  go_enter Tryz.func136, Tryz.ntmps136
  go_wp2
  refine wp_loop_rounds 2 ?_
  rw [rounds_succ]
  go_wp2
  rw [rounds_succ]
  go_wp2
  go_ret
  exact ⟨rfl, rfl⟩

/-- errors.Is(f, x), f a *api.Fault that bears another one. -/
theorem is_fault_other (pb po : Nat) (b a : Addr) (ca cb : Array Value) (ta tb : TypeId) (w : World) (h1 : w.cell? ⟨pb, po + 1, none⟩ = some (.iface 379 (.pointer (some a)))) (hne : a ≠ b) (ha : w.heap[a.block]? = some (.cells ca ta (0, 0))) (hb : w.heap[b.block]? = some (.cells cb tb (0, 0))) :
    Calls Tryz.prog 136 #[.iface 142 (.pointer (some ⟨pb, po, none⟩)), .iface 379 (.pointer (some b))] w fun e w' => e = .returned (.bool false) ∧ w' = w := by
  obtain ⟨i, hi, hcmp⟩ := Option.map_eq_some_iff.1 Tryz.isComp
  obtain ⟨j, hj, hjs⟩ := Option.map_eq_some_iff.1 Tryz.isSize
  have h40 := @run_callFunc_extern Tryz.prog 186 _ Extern.ReflectliteType.typeOf Tryz.func186 (by kernel_rfl) (by kernel_rfl) (by kernel_rfl) (by kernel_rfl)
  have h90 := @run_callFunc_extern Tryz.prog 356 _ comparableFn Tryz.func356 (by kernel_rfl) (by kernel_rfl) (by kernel_rfl) (by kernel_rfl)
  have tT := Tryz.isTypeOf
  have cT := Tryz.isComparable
  have mR := Tryz.isMethodComparable
  have nE := Tryz.noIsE
  have uE := Tryz.noUnwrapE
  have vE := Tryz.noUnwrapsE
  have nW := Tryz.noIsF
  have uW := Tryz.hasUnwrapF
  have mU := Tryz.methodUnwrap
  have heq := run_eql_iface_ptr_other (P := Tryz.prog) w Tryz.underlying45 Tryz.underlying379 hi hcmp hj (by rw [hjs]; decide) hne ha hb
  have hty := run_eql_iface_types (P := Tryz.prog) 142 379 (.pointer (some ⟨pb, po, none⟩)) (.pointer (some b)) Tryz.underlying45 (by decide) w
  go_enter Tryz.func136, Tryz.ntmps136
  go_wp2
  refine wp_loop_rounds 2 ?_
  rw [rounds_succ]
  go_wp2
  rw [rounds_succ]
  go_wp2
  go_ret
  exact ⟨rfl, rfl⟩
end Go.Proofs.YtmcfkoenpikldaaGreatDoor
/-
  errors.As with a **api.Fault as its target answers false at an error of errors.New's make and at nil, and true at a *api.Fault, which it then stores: contracts of that call, over this seat's translation.
  Conditions: the variable errors.errorType holds the handle of type error; the target's cell is there and may be written.
-/
namespace Go.Proofs.YtmcfkoenpikldaaGreatDoor
open Go.RowKit Go.Extern.Stop Go.Stop Go.Extern

theorem Tryz.valueOf54 (t : Addr) (w : World) : (ReflectliteValue.unpack (.iface 212 (.pointer (some t)))).run Tryz.prog w
    = .ok (.agg #[.pointer (some ⟨27, 212, none⟩), .pointer (some ⟨w.heap.size, 0, none⟩), .int .u64 150]) (w.alloc (.cells #[.pointer (some t)] 212)) := by kernel_rfl
theorem Tryz.type54 (a : Addr) (w : World) : (ReflectliteValue.methodAny (ReflectliteValue.valueError "reflectlite.Value.Type" 0) (fun t _ _ _ => ReflectliteType.toType t) #[.agg #[.pointer (some ⟨27, 212, none⟩), .pointer (some a), .int .u64 150]]).run Tryz.prog w
    = .ok (.iface 296 (.agg #[.pointer (some ⟨27, 212, none⟩)])) w := by kernel_rfl
theorem Tryz.methodKind (h : Value) (w : World) : (Go.method 519 296 (.agg #[h]) "Kind").run Tryz.prog w = .ok (344, h) w := by kernel_rfl
theorem Tryz.kind54 (w : World) : ((ReflectliteType.abiMethod fun t => (fun a : Nat => Value.int IntKind.u8 (a : Int)) <$> Rtype.kind t) #[.pointer (some ⟨27, 212, none⟩)]).run Tryz.prog w = .ok (.int .u8 22) w := by kernel_rfl
theorem Tryz.kind29 (w : World) : ((ReflectliteType.abiMethod fun t => (fun a : Nat => Value.int IntKind.u8 (a : Int)) <$> Rtype.kind t) #[.pointer (some ⟨27, 142, none⟩)]).run Tryz.prog w = .ok (.int .u8 22) w := by kernel_rfl

theorem Tryz.parts54 (a : Addr) (w : World) : (ReflectliteValue.parts (.agg #[.pointer (some ⟨27, 212, none⟩), .pointer (some a), .int .u64 150])).run Tryz.prog w = .ok (some (212, a, 150)) w := by kernel_rfl
theorem Tryz.isNil54 (a p : Addr) (W : World) (ha : W.cell? a = some (.pointer (some p))) :
    (ReflectliteValue.method (ReflectliteValue.valueError "reflectlite.Value.IsNil" 0) ReflectliteValue.isNil #[.agg #[.pointer (some ⟨27, 212, none⟩), .pointer (some a), .int .u64 150]]).run Tryz.prog W = .ok (.bool false) W := by
  rw [show ∀ (z : Sem Value) (f : TypeId → Addr → Nat → Nat → Sem Value) (v : Value), ReflectliteValue.method z f #[v] = (ReflectliteValue.parts v >>= _) from fun _ _ _ => rfl]
  simp only [Sem.run_bind, Tryz.parts54, Result.andThen]
  simp [ReflectliteValue.isNil, loadVar, isAgg, underlying, Tryz.underlying212, ha, Result.andThen]

theorem Tryz.methodElem (h : Value) (w : World) : (Go.method 519 296 (.agg #[h]) "Elem").run Tryz.prog w = .ok (357, .agg #[h]) w := by kernel_rfl
theorem Tryz.methodImplements (h : Value) (w : World) : (Go.method 519 296 (.agg #[h]) "Implements").run Tryz.prog w = .ok (358, .agg #[h]) w := by kernel_rfl
theorem Tryz.methodAssignableTo (h : Value) (w : World) : (Go.method 519 296 (.agg #[h]) "AssignableTo").run Tryz.prog w = .ok (355, .agg #[h]) w := by kernel_rfl
theorem Tryz.elem54 (w : World) : (ReflectliteType.method ReflectliteType.elem #[.agg #[.pointer (some ⟨27, 212, none⟩)]]).run Tryz.prog w = .ok (.iface 296 (.agg #[.pointer (some ⟨27, 142, none⟩)])) w := by kernel_rfl
theorem Tryz.implements29 (w : World) : (ReflectliteType.relation "Implements" ReflectliteType.implements_ #[.agg #[.pointer (some ⟨27, 142, none⟩)], .iface 296 (.agg #[.pointer (some ⟨27, 45, none⟩)])]).run Tryz.prog w = .ok (.bool true) w := by kernel_rfl
theorem Tryz.typeOf29 (v : Value) (w : World) : (ReflectliteType.typeOf #[.iface 142 v]).run Tryz.prog w = .ok (.iface 296 (.agg #[.pointer (some ⟨27, 142, none⟩)])) w := by kernel_rfl
theorem Tryz.assignable29 (w : World) : (ReflectliteType.relation "AssignableTo" ReflectliteType.assignableTo #[.agg #[.pointer (some ⟨27, 142, none⟩)], .iface 296 (.agg #[.pointer (some ⟨27, 142, none⟩)])]).run Tryz.prog w = .ok (.bool true) w := by kernel_rfl
theorem Tryz.assignable56 (w : World) : (ReflectliteType.relation "AssignableTo" ReflectliteType.assignableTo #[.agg #[.pointer (some ⟨27, 379, none⟩)], .iface 296 (.agg #[.pointer (some ⟨27, 142, none⟩)])]).run Tryz.prog w = .ok (.bool false) w := by kernel_rfl
theorem Tryz.valueOf29 (e : Addr) (w : World) : (ReflectliteValue.unpack (.iface 142 (.pointer (some e)))).run Tryz.prog w
    = .ok (.agg #[.pointer (some ⟨27, 142, none⟩), .pointer (some ⟨w.heap.size, 0, none⟩), .int .u64 150]) (w.alloc (.cells #[.pointer (some e)] 142)) := by kernel_rfl

theorem Tryz.elemOf54 (w : World) : (Rtype.elem? 212).run Tryz.prog w = .ok (some 142) w := by kernel_rfl
theorem Tryz.mk29 (p : Addr) (w : World) : (ReflectliteValue.mk 142 p ReflectliteValue.flagAddr).run Tryz.prog w = .ok (.agg #[.pointer (some ⟨27, 142, none⟩), .pointer (some p), .int .u64 406]) w := by kernel_rfl
theorem Tryz.elemV54 (a p : Addr) (W : World) (ha : W.cell? a = some (.pointer (some p))) :
    (ReflectliteValue.method (ReflectliteValue.valueError "reflectlite.Value.Elem" 0) ReflectliteValue.elem #[.agg #[.pointer (some ⟨27, 212, none⟩), .pointer (some a), .int .u64 150]]).run Tryz.prog W
      = .ok (.agg #[.pointer (some ⟨27, 142, none⟩), .pointer (some p), .int .u64 406]) W := by
  rw [show ∀ (z : Sem Value) (f : TypeId → Addr → Nat → Nat → Sem Value) (v : Value), ReflectliteValue.method z f #[v] = (ReflectliteValue.parts v >>= _) from fun _ _ _ => rfl]
  simp only [Sem.run_bind, Tryz.parts54, Result.andThen]
  simp [ReflectliteValue.elem, loadVar, isAgg, underlying, Tryz.underlying212, ha, Result.andThen, Tryz.elemOf54, Tryz.mk29]
theorem Tryz.parts29a (a : Addr) (w : World) : (ReflectliteValue.parts (.agg #[.pointer (some ⟨27, 142, none⟩), .pointer (some a), .int .u64 406])).run Tryz.prog w = .ok (some (142, a, 406)) w := by kernel_rfl
theorem Tryz.parts29 (a : Addr) (w : World) : (ReflectliteValue.parts (.agg #[.pointer (some ⟨27, 142, none⟩), .pointer (some a), .int .u64 150])).run Tryz.prog w = .ok (some (142, a, 150)) w := by kernel_rfl
theorem Tryz.direct29 (w : World) : (Rtype.directlyAssignable 142 142).run Tryz.prog w = .ok true w := by kernel_rfl
theorem Tryz.set29 (ta b e : Addr) (old : Value) (W : World) (hb : W.cell? b = some (.pointer (some e))) (ht : W.cell? ta = some old) (hf : W.frozen? ta = false) :
    (ReflectliteValue.set #[.agg #[.pointer (some ⟨27, 142, none⟩), .pointer (some ta), .int .u64 406], .agg #[.pointer (some ⟨27, 142, none⟩), .pointer (some b), .int .u64 150]]).run Tryz.prog W
      = .ok (.tuple #[]) (W.setCell ta (.pointer (some e))) := by
  rw [show ∀ v x : Value, ReflectliteValue.set #[v, x] = (ReflectliteValue.parts v >>= fun p => ReflectliteValue.parts x >>= fun q => _) from fun _ _ => rfl]
  simp only [Sem.run_bind, Tryz.parts29a, Tryz.parts29, Result.andThen]
  simp [ReflectliteValue.flagAddr, loadVar, isAgg, underlying, Tryz.underlying142, hb, Result.andThen, Tryz.direct29, storeVar, Value.cells, storeCells, Addr.add]
  rw [run_store Tryz.prog W ta _ _ (by rfl)]
  simp [ht, hf]

/-- errors.As(x, target), x of errors.New's make, target a **api.Fault: false; nothing that was there has turned. -/
theorem as_miss (e t : Addr) (w : World) (hg : w.cell? ⟨13, 0, none⟩ = some (.iface 296 (.agg #[.pointer (some ⟨27, 45, none⟩)]))) :
    Calls Tryz.prog 135 #[.iface 379 (.pointer (some e)), .iface 212 (.pointer (some t))] w fun ev w' => ev = .returned (.bool false) ∧ Below w.heap.size w w' := by
  have h36 := @run_callFunc_extern Tryz.prog 182 _ (fun args => ReflectliteValue.unpack (args.getD 0 (.tuple #[]))) Tryz.func182 (by kernel_rfl) (by kernel_rfl) (by kernel_rfl) (by kernel_rfl)
  have h37 := @run_callFunc_extern Tryz.prog 183 _ (ReflectliteValue.methodAny (ReflectliteValue.valueError "reflectlite.Value.Type" 0) (fun t _ _ _ => ReflectliteType.toType t)) Tryz.func183 (by kernel_rfl) (by kernel_rfl) (by kernel_rfl) (by kernel_rfl)
  have h38 := @run_callFunc_extern Tryz.prog 184 _ (ReflectliteValue.method (ReflectliteValue.valueError "reflectlite.Value.IsNil" 0) ReflectliteValue.isNil) Tryz.func184 (by kernel_rfl) (by kernel_rfl) (by kernel_rfl) (by kernel_rfl)
  have h78 := @run_callFunc_extern Tryz.prog 344 _ (ReflectliteType.abiMethod fun t => do pure (.int .u8 (← Rtype.kind t))) Tryz.func344 (by kernel_rfl) (by kernel_rfl) (by kernel_rfl) (by kernel_rfl)
  have h91 := @run_callFunc_extern Tryz.prog 357 _ (ReflectliteType.method ReflectliteType.elem) Tryz.func357 (by kernel_rfl) (by kernel_rfl) (by kernel_rfl) (by kernel_rfl)
  have h92 := @run_callFunc_extern Tryz.prog 358 _ (ReflectliteType.relation "Implements" ReflectliteType.implements_) Tryz.func358 (by kernel_rfl) (by kernel_rfl) (by kernel_rfl) (by kernel_rfl)
  have h40 := @run_callFunc_extern Tryz.prog 186 _ ReflectliteType.typeOf Tryz.func186 (by kernel_rfl) (by kernel_rfl) (by kernel_rfl) (by kernel_rfl)
  have h89 := @run_callFunc_extern Tryz.prog 355 _ (ReflectliteType.relation "AssignableTo" ReflectliteType.assignableTo) Tryz.func355 (by kernel_rfl) (by kernel_rfl) (by kernel_rfl) (by kernel_rfl)
  have tO := Tryz.isTypeOf
  have mA := Tryz.methodAssignableTo
  have a56 := Tryz.assignable56
  have f6 := Tryz.valueOf54
  have f7 := Tryz.type54
  have mK := Tryz.methodKind
  have mE := Tryz.methodElem
  have mI := Tryz.methodImplements
  have k54 := Tryz.kind54
  have k29 := Tryz.kind29
  have e54 := Tryz.elem54
  have i29 := Tryz.implements29
  have nE := Tryz.noAsE
  have uE := Tryz.noUnwrapE
  have vE := Tryz.noUnwrapsE
  have n8 := Tryz.isNil54 ⟨w.heap.size, 0, none⟩ t ((w.alloc (.cells #[.pointer (some t)] 212)).alloc (.cells #[.pointer (some ⟨27, 212, none⟩), .pointer (some ⟨w.heap.size, 0, none⟩), .int .u64 150] 252)) (by simp)
  have hlt : 13 < w.heap.size := by
    rcases Nat.lt_or_ge 13 w.heap.size with h | h
    · exact h
    · simp [World.cell?, Array.getElem?_eq_none h] at hg
  have hg2 : ((w.alloc (.cells #[.pointer (some t)] 212)).alloc (.cells #[.pointer (some ⟨27, 212, none⟩), .pointer (some ⟨w.heap.size, 0, none⟩), .int .u64 150] 252)).cell? ⟨13, 0, none⟩ = some (.iface 296 (.agg #[.pointer (some ⟨27, 45, none⟩)])) := by
    rw [World.cell?_alloc_lt _ _ ⟨13, 0, none⟩ (by simp; omega), World.cell?_alloc_lt _ _ ⟨13, 0, none⟩ hlt]; exact hg
  go_enter Tryz.func135, Tryz.ntmps135
  go_wp2
  refine wp_loop_rounds 1 ?_
  rw [rounds_succ]
  go_wp2
  go_ret
  exact ⟨rfl, (((Below.refl _ _).alloc (Nat.le_refl _) _).alloc (by simp) _).alloc (by simp; omega) _⟩

set_option maxHeartbeats 4000000 in
/-- errors.As(f, target), f a *api.Fault, target a **api.Fault: true; the target holds f; nothing else that was there has turned. -/
theorem as_hit (e t : Addr) (old : Value) (w : World) (hg : w.cell? ⟨13, 0, none⟩ = some (.iface 296 (.agg #[.pointer (some ⟨27, 45, none⟩)]))) (ht0 : w.cell? t = some old) (hf0 : w.frozen? t = false) :
    Calls Tryz.prog 135 #[.iface 142 (.pointer (some e)), .iface 212 (.pointer (some t))] w fun ev w' => ev = .returned (.bool true) ∧ w' = ((((w.alloc (.cells #[.pointer (some t)] 212)).alloc (.cells #[.pointer (some ⟨27, 212, none⟩), .pointer (some ⟨w.heap.size, 0, none⟩), .int .u64 150] 252)).alloc (.cells #[.pointer (some ⟨27, 212, none⟩), .pointer (some ⟨w.heap.size, 0, none⟩), .int .u64 150] 252)).alloc (.cells #[.pointer (some e)] 142)).setCell t (.pointer (some e)) := by
  have h36 := @run_callFunc_extern Tryz.prog 182 _ (fun args => ReflectliteValue.unpack (args.getD 0 (.tuple #[]))) Tryz.func182 (by kernel_rfl) (by kernel_rfl) (by kernel_rfl) (by kernel_rfl)
  have h37 := @run_callFunc_extern Tryz.prog 183 _ (ReflectliteValue.methodAny (ReflectliteValue.valueError "reflectlite.Value.Type" 0) (fun t _ _ _ => ReflectliteType.toType t)) Tryz.func183 (by kernel_rfl) (by kernel_rfl) (by kernel_rfl) (by kernel_rfl)
  have h38 := @run_callFunc_extern Tryz.prog 184 _ (ReflectliteValue.method (ReflectliteValue.valueError "reflectlite.Value.IsNil" 0) ReflectliteValue.isNil) Tryz.func184 (by kernel_rfl) (by kernel_rfl) (by kernel_rfl) (by kernel_rfl)
  have h78 := @run_callFunc_extern Tryz.prog 344 _ (ReflectliteType.abiMethod fun t => do pure (.int .u8 (← Rtype.kind t))) Tryz.func344 (by kernel_rfl) (by kernel_rfl) (by kernel_rfl) (by kernel_rfl)
  have h91 := @run_callFunc_extern Tryz.prog 357 _ (ReflectliteType.method ReflectliteType.elem) Tryz.func357 (by kernel_rfl) (by kernel_rfl) (by kernel_rfl) (by kernel_rfl)
  have h92 := @run_callFunc_extern Tryz.prog 358 _ (ReflectliteType.relation "Implements" ReflectliteType.implements_) Tryz.func358 (by kernel_rfl) (by kernel_rfl) (by kernel_rfl) (by kernel_rfl)
  have h40 := @run_callFunc_extern Tryz.prog 186 _ ReflectliteType.typeOf Tryz.func186 (by kernel_rfl) (by kernel_rfl) (by kernel_rfl) (by kernel_rfl)
  have h89 := @run_callFunc_extern Tryz.prog 355 _ (ReflectliteType.relation "AssignableTo" ReflectliteType.assignableTo) Tryz.func355 (by kernel_rfl) (by kernel_rfl) (by kernel_rfl) (by kernel_rfl)
  have h50 := @run_callFunc_extern Tryz.prog 232 _ (ReflectliteValue.method (ReflectliteValue.valueError "reflectlite.Value.Elem" 0) ReflectliteValue.elem) Tryz.func232 (by kernel_rfl) (by kernel_rfl) (by kernel_rfl) (by kernel_rfl)
  have h51 := @run_callFunc_extern Tryz.prog 233 _ ReflectliteValue.set Tryz.func233 (by kernel_rfl) (by kernel_rfl) (by kernel_rfl) (by kernel_rfl)
  have tO := Tryz.typeOf29
  have mA := Tryz.methodAssignableTo
  have a29 := Tryz.assignable29
  have v29 := Tryz.valueOf29
  have f6 := Tryz.valueOf54
  have f7 := Tryz.type54
  have mK := Tryz.methodKind
  have mE := Tryz.methodElem
  have mI := Tryz.methodImplements
  have k54 := Tryz.kind54
  have k29 := Tryz.kind29
  have e54 := Tryz.elem54
  have i29 := Tryz.implements29
  have n8 := Tryz.isNil54 ⟨w.heap.size, 0, none⟩ t ((w.alloc (.cells #[.pointer (some t)] 212)).alloc (.cells #[.pointer (some ⟨27, 212, none⟩), .pointer (some ⟨w.heap.size, 0, none⟩), .int .u64 150] 252)) (by simp)
  have hlt : 13 < w.heap.size := by
    rcases Nat.lt_or_ge 13 w.heap.size with h | h
    · exact h
    · simp [World.cell?, Array.getElem?_eq_none h] at hg
  have hg2 : ((w.alloc (.cells #[.pointer (some t)] 212)).alloc (.cells #[.pointer (some ⟨27, 212, none⟩), .pointer (some ⟨w.heap.size, 0, none⟩), .int .u64 150] 252)).cell? ⟨13, 0, none⟩ = some (.iface 296 (.agg #[.pointer (some ⟨27, 45, none⟩)])) := by
    rw [World.cell?_alloc_lt _ _ ⟨13, 0, none⟩ (by simp; omega), World.cell?_alloc_lt _ _ ⟨13, 0, none⟩ hlt]; exact hg
  have htl : t.block < w.heap.size := by
    rcases Nat.lt_or_ge t.block w.heap.size with h | h
    · exact h
    · simp [World.cell?, Array.getElem?_eq_none h] at ht0
  have el := Tryz.elemV54 ⟨w.heap.size, 0, none⟩ t (((w.alloc (.cells #[.pointer (some t)] 212)).alloc (.cells #[.pointer (some ⟨27, 212, none⟩), .pointer (some ⟨w.heap.size, 0, none⟩), .int .u64 150] 252)).alloc (.cells #[.pointer (some ⟨27, 212, none⟩), .pointer (some ⟨w.heap.size, 0, none⟩), .int .u64 150] 252)) (by rw [World.cell?_alloc_lt _ _ ⟨w.heap.size, 0, none⟩ (by simp; omega)]; simp)
  have st := Tryz.set29 t ⟨w.heap.size + 1 + 1 + 1, 0, none⟩ e old ((((w.alloc (.cells #[.pointer (some t)] 212)).alloc (.cells #[.pointer (some ⟨27, 212, none⟩), .pointer (some ⟨w.heap.size, 0, none⟩), .int .u64 150] 252)).alloc (.cells #[.pointer (some ⟨27, 212, none⟩), .pointer (some ⟨w.heap.size, 0, none⟩), .int .u64 150] 252)).alloc (.cells #[.pointer (some e)] 142))
    (by rw [World.cell?_alloc_at _ _ _ _ (by simp)]; rfl)
    (by rw [World.cell?_alloc_lt _ _ t (by simp; omega), World.cell?_alloc_lt _ _ t (by simp; omega), World.cell?_alloc_lt _ _ t (by simp; omega), World.cell?_alloc_lt _ _ t htl]; exact ht0)
    (by rw [World.frozen?_alloc_old _ _ t (by simp; omega), World.frozen?_alloc_old _ _ t (by simp; omega), World.frozen?_alloc_old _ _ t (by simp; omega), World.frozen?_alloc_old _ _ t (Nat.ne_of_lt htl)]; exact hf0)
  go_enter Tryz.func135, Tryz.ntmps135
  go_wp2
  refine wp_loop_rounds 1 ?_
  rw [rounds_succ]
  go_wp2
  go_ret
  exact ⟨rfl, rfl⟩
end Go.Proofs.YtmcfkoenpikldaaGreatDoor
/-
  plain.Code tells each error of package api by its number, with the place of a *api.Fault that bears it; nil is 0 and any other error of errors.New's make is -1: contracts of that call, over this seat's translation.
  Conditions: the variables hold what the rows list (Env).
-/
namespace Go.Proofs.YtmcfkoenpikldaaGreatDoor
open Go.RowKit Go.Extern.Stop Go.Stop Go.Extern

/-- What a walk wants of the listed variables: the thirteen errors at thirteen addresses, unmarked, and the handle of type error. -/
structure Env (p : Nat → Addr) (w : World) : Prop where
  s0 : w.cell? ⟨6, 0, none⟩ = some (.iface 379 (.pointer (some (p 0))))
  s1 : w.cell? ⟨3, 0, none⟩ = some (.iface 379 (.pointer (some (p 1))))
  s2 : w.cell? ⟨0, 0, none⟩ = some (.iface 379 (.pointer (some (p 2))))
  s3 : w.cell? ⟨7, 0, none⟩ = some (.iface 379 (.pointer (some (p 3))))
  s4 : w.cell? ⟨4, 0, none⟩ = some (.iface 379 (.pointer (some (p 4))))
  s5 : w.cell? ⟨2, 0, none⟩ = some (.iface 379 (.pointer (some (p 5))))
  s6 : w.cell? ⟨8, 0, none⟩ = some (.iface 379 (.pointer (some (p 6))))
  s7 : w.cell? ⟨1, 0, none⟩ = some (.iface 379 (.pointer (some (p 7))))
  s8 : w.cell? ⟨9, 0, none⟩ = some (.iface 379 (.pointer (some (p 8))))
  s9 : w.cell? ⟨10, 0, none⟩ = some (.iface 379 (.pointer (some (p 9))))
  s10 : w.cell? ⟨11, 0, none⟩ = some (.iface 379 (.pointer (some (p 10))))
  s11 : w.cell? ⟨12, 0, none⟩ = some (.iface 379 (.pointer (some (p 11))))
  handle : w.cell? ⟨13, 0, none⟩ = some (.iface 296 (.agg #[.pointer (some ⟨27, 45, none⟩)]))
  rows : ∀ k, k < 13 → ∃ c t, w.heap[(p k).block]? = some (.cells c t (0, 0))
  inj : ∀ k l, k < 13 → l < 13 → p k = p l → k = l

theorem block_lt_of_cell {w : World} {a : Addr} {v : Value} (h : w.cell? a = some v) : a.block < w.heap.size := by
  rcases Nat.lt_or_ge a.block w.heap.size with h' | h'
  · exact h'
  · simp [World.cell?, Array.getElem?_eq_none h'] at h

theorem Env.below {p : Nat → Addr} {w w' : World} (E : Env p w) (hb : Below w.heap.size w w') : Env p w' where
  s0 := (hb.cell (p := ⟨6, 0, none⟩) (block_lt_of_cell E.s0)).trans E.s0
  s1 := (hb.cell (p := ⟨3, 0, none⟩) (block_lt_of_cell E.s1)).trans E.s1
  s2 := (hb.cell (p := ⟨0, 0, none⟩) (block_lt_of_cell E.s2)).trans E.s2
  s3 := (hb.cell (p := ⟨7, 0, none⟩) (block_lt_of_cell E.s3)).trans E.s3
  s4 := (hb.cell (p := ⟨4, 0, none⟩) (block_lt_of_cell E.s4)).trans E.s4
  s5 := (hb.cell (p := ⟨2, 0, none⟩) (block_lt_of_cell E.s5)).trans E.s5
  s6 := (hb.cell (p := ⟨8, 0, none⟩) (block_lt_of_cell E.s6)).trans E.s6
  s7 := (hb.cell (p := ⟨1, 0, none⟩) (block_lt_of_cell E.s7)).trans E.s7
  s8 := (hb.cell (p := ⟨9, 0, none⟩) (block_lt_of_cell E.s8)).trans E.s8
  s9 := (hb.cell (p := ⟨10, 0, none⟩) (block_lt_of_cell E.s9)).trans E.s9
  s10 := (hb.cell (p := ⟨11, 0, none⟩) (block_lt_of_cell E.s10)).trans E.s10
  s11 := (hb.cell (p := ⟨12, 0, none⟩) (block_lt_of_cell E.s11)).trans E.s11
  handle := (hb.cell (p := ⟨13, 0, none⟩) (block_lt_of_cell E.handle)).trans E.handle
  rows k hk := by
    obtain ⟨c, t, h⟩ := E.rows k hk
    exact ⟨c, t, (hb.block _ (Array.getElem?_eq_some_iff.1 h).1).trans h⟩
  inj := E.inj

/-- The number of the error at place j (13: none of them). -/
def codeOf (j : Nat) : Int := if j < 13 then (j : Int) + 1 else -1

theorem codeOf_lt {j : Nat} (h : j < 13) : (j : Int) + 1 = codeOf j := by simp [codeOf, h]

theorem code_nil (w : World) : Calls Tryz.prog 74 #[.nilIface] w fun e w' => e = .returned (.tuple #[.int .i64 0, .int .i64 (-1)]) ∧ w' = w := by
  go_enter Tryz.func74, Tryz.ntmps74
  go_wp2
  go_ret2
  exact ⟨rfl, rfl⟩

theorem sent_cells (p : Nat → Addr) (w : World) (k : Nat) (h : k < 13) : (w.alloc (.cells #[.iface 379 (.pointer (some (p 0))), .iface 379 (.pointer (some (p 1))), .iface 379 (.pointer (some (p 2))), .iface 379 (.pointer (some (p 3))), .iface 379 (.pointer (some (p 4))), .iface 379 (.pointer (some (p 5))), .iface 379 (.pointer (some (p 6))), .iface 379 (.pointer (some (p 7))), .iface 379 (.pointer (some (p 8))), .iface 379 (.pointer (some (p 9))), .iface 379 (.pointer (some (p 10))), .iface 379 (.pointer (some (p 11))), .iface 379 (.pointer (some (p 12)))] 45)).cell? ⟨w.heap.size, k, none⟩ = some (.iface 379 (.pointer (some (p k)))) := by
  rw [World.cell?_alloc_at _ _ _ _ rfl]
  have h' : k = 0 ∨ k = 1 ∨ k = 2 ∨ k = 3 ∨ k = 4 ∨ k = 5 ∨ k = 6 ∨ k = 7 ∨ k = 8 ∨ k = 9 ∨ k = 10 ∨ k = 11 ∨ k = 12 := by omega
  rcases h' with rfl | rfl | rfl | rfl | rfl | rfl | rfl | rfl | rfl | rfl | rfl | rfl | rfl <;> rfl

end Go.Proofs.YtmcfkoenpikldaaGreatDoor
