/-
  Own texts of the proof, gathered by program in their build order: Errs, As, Code, ErrV, Pure, Part, Shelf, Cut, Check, Clean, Coded, CodedV, Paths, Facts.
-/
import Derived.Test.YtlofpooobabkjaaDoorProg
import Derived.WalkKit
import Derived.LaidEql
import Derived.Stop.Asserts
import Derived.RowKitTokens
import Derived.Test.YtlofpooobabkjaaDoorChecked
import Derived.Lib.Strings
import Derived.Lib.Bytealg
import Derived.Lib.Join
import Derived.WalkSmall
import Derived.WalkSpells
import Derived.Shelf.Strings.Builder1
import Derived.Shelf.Strings.Builder2
import Derived.Shelf.Strings.OnBuilder
import Derived.Shelf.Small.Wraps
import Derived.Shelf.Strings.BuilderF
import Derived.Shelf.Strings.BuilderK
import Derived.Shelf.Strconv.Atoi
import Derived.Shelf.Strconv.Itoa0
import Derived.Shelf.Strconv.Itoa1
import Derived.Shelf.LaysM
import Derived.Shelf.Strconv.Itoa2
import Derived.Shelf.Strconv.Itoa3
import Derived.Shelf.Strconv.AtoiErrFast
import Derived.Shelf.Strconv.ParseIntEmpty
import Derived.Shelf.Strconv.AtoiFail
import Derived.Shelf.Strconv.Clone
import Derived.Shelf.Strconv.SyntaxError
import Derived.Shelf.LaysC
import Derived.Shelf.Strconv.ToError
import Derived.Shelf.Strconv.Lower
import Derived.Shelf.Strconv.ParseUint10
import Derived.Shelf.Strconv.ParseUint10Empty
import Derived.Shelf.Strconv.ParseUint10Any
import Derived.Shelf.Strconv.ParseInt10
import Derived.Shelf.Strconv.AtoiLong
import Derived.Shelf.Strconv.AtoiInnerAll
import Derived.Shelf.Strconv.RangeError
import Derived.Shelf.Strconv.ToErrorRange
import Derived.Shelf.Strconv.AtoiAll
import Derived.Shelf.Strconv.ErrVarAll
import Derived.Shelf.Strings.Search1
import Derived.Shelf.Strings.Search2
import Derived.Shelf.Strings.Search3
import Derived.Shelf.Strings.Cut
import Derived.Shelf.Strings.Count
import Derived.Shelf.Strings.Shaped
import Derived.Shelf.Strings.Prefix
import Derived.Shelf.Strings.Split
import Derived.Shelf.Unicode.DecodeSlow
import Derived.RangeFuncNested
import Derived.RangeFuncBound
import Derived.RangeFuncCalls
import Derived.RangeFuncLeaves
import Derived.RangeFuncBox
import Derived.Shelf.Abstract
import Derived.Shelf.RegionOpen
import Derived.OwnWalkIn
import Derived.TacticsInMore
import Derived.LoopNIn
import Derived.LoopIn
import Derived.Maps.AppendAt
import Derived.Deep.QuietTactic
import Derived.BigQuiet
import Derived.RegionIn
import Derived.Deep.Onto
/-
  errors.Is and errors.As answer, at the errors of package api and at a *api.Fault, as their text says: contracts of the two calls, over this seat's translation.
  Conditions: the variable errors.errorType holds the handle of type error; two errors that differ lie in two unmarked blocks.
-/
namespace Go.Proofs.YtlofpooobabkjaaDoor
open Go.RowKit Go.Extern.Stop Go.Stop Go.Extern

/-! ### errors.Is -/
def comparableFn : Array Value → Sem Value := Extern.ReflectliteType.method fun t => do Extern.Rtype.noPackHeld "Comparable" t; pure (.bool (← typeInfo t).comparable)
theorem Tryd.isComparable (w : World) : (comparableFn #[.agg #[.pointer (some ⟨16, 121, none⟩)]]).run Tryd.prog w = .ok (.bool true) w := by kernel_rfl
theorem Tryd.isComp : (Tryd.prog.info? 121).map (·.comparable) = some true := by kernel_rfl
theorem Tryd.isSize : (Tryd.prog.info? 123).map (·.size) = some 1 := by kernel_rfl

end Go.Proofs.YtlofpooobabkjaaDoor
/-
  errors.As with a **api.Fault as its target answers false at an error of errors.New's make and at nil, and true at a *api.Fault, which it then stores: contracts of that call, over this seat's translation.
  Conditions: the variable errors.errorType holds the handle of type error; the target's cell is there and may be written.
-/
namespace Go.Proofs.YtlofpooobabkjaaDoor
open Go.RowKit Go.Extern.Stop Go.Stop Go.Extern

theorem Tryd.kind29 (w : World) : ((ReflectliteType.abiMethod fun t => (fun a : Nat => Value.int IntKind.u8 (a : Int)) <$> Rtype.kind t) #[.pointer (some ⟨16, 39, none⟩)]).run Tryd.prog w = .ok (.int .u8 22) w := by kernel_rfl

theorem Tryd.valueOf29 (e : Addr) (w : World) : (ReflectliteValue.unpack (.iface 39 (.pointer (some e)))).run Tryd.prog w
    = .ok (.agg #[.pointer (some ⟨16, 39, none⟩), .pointer (some ⟨w.heap.size, 0, none⟩), .int .u64 150]) (w.alloc (.cells #[.pointer (some e)] 39)) := by kernel_rfl

theorem Tryd.mk29 (p : Addr) (w : World) : (ReflectliteValue.mk 39 p ReflectliteValue.flagAddr).run Tryd.prog w = .ok (.agg #[.pointer (some ⟨16, 39, none⟩), .pointer (some p), .int .u64 406]) w := by kernel_rfl
theorem Tryd.parts29a (a : Addr) (w : World) : (ReflectliteValue.parts (.agg #[.pointer (some ⟨16, 39, none⟩), .pointer (some a), .int .u64 406])).run Tryd.prog w = .ok (some (39, a, 406)) w := by kernel_rfl
theorem Tryd.parts29 (a : Addr) (w : World) : (ReflectliteValue.parts (.agg #[.pointer (some ⟨16, 39, none⟩), .pointer (some a), .int .u64 150])).run Tryd.prog w = .ok (some (39, a, 150)) w := by kernel_rfl
theorem Tryd.direct29 (w : World) : (Rtype.directlyAssignable 39 39).run Tryd.prog w = .ok true w := by kernel_rfl
theorem Tryd.set29 (ta b e : Addr) (old : Value) (W : World) (hb : W.cell? b = some (.pointer (some e))) (ht : W.cell? ta = some old) (hf : W.frozen? ta = false) :
    (ReflectliteValue.set #[.agg #[.pointer (some ⟨16, 39, none⟩), .pointer (some ta), .int .u64 406], .agg #[.pointer (some ⟨16, 39, none⟩), .pointer (some b), .int .u64 150]]).run Tryd.prog W
      = .ok (.tuple #[]) (W.setCell ta (.pointer (some e))) := by
  rw [show ∀ v x : Value, ReflectliteValue.set #[v, x] = (ReflectliteValue.parts v >>= fun p => ReflectliteValue.parts x >>= fun q => _) from fun _ _ => rfl]
  simp only [Sem.run_bind, Tryd.parts29a, Tryd.parts29, Result.andThen]
  simp [ReflectliteValue.flagAddr, loadVar, isAgg, underlying, Tryd.underlying39, hb, Result.andThen, Tryd.direct29, storeVar, Value.cells, storeCells, Addr.add]
  rw [run_store Tryd.prog W ta _ _ (by rfl)]
  simp [ht, hf]

end Go.Proofs.YtlofpooobabkjaaDoor
/-
  plain.Code tells each error of package api by its number, with the place of a *api.Fault that bears it; nil is 0 and any other error of errors.New's make is -1: contracts of that call, over this seat's translation.
  Conditions: the variables hold what the rows list (Env).
-/
namespace Go.Proofs.YtlofpooobabkjaaDoor
open Go.RowKit Go.Extern.Stop Go.Stop Go.Extern

/-- What a walk wants of the listed variables: the thirteen errors at thirteen addresses, unmarked, and the handle of type error. -/
structure Env (p : Nat → Addr) (w : World) : Prop where
  s0 : w.cell? ⟨1, 0, none⟩ = some (.iface 121 (.pointer (some (p 0))))
  s1 : w.cell? ⟨0, 0, none⟩ = some (.iface 121 (.pointer (some (p 1))))
  s2 : w.cell? ⟨2, 0, none⟩ = some (.iface 121 (.pointer (some (p 2))))
  s4 : w.cell? ⟨4, 0, none⟩ = some (.iface 121 (.pointer (some (p 4))))
  s7 : w.cell? ⟨5, 0, none⟩ = some (.iface 121 (.pointer (some (p 7))))
  s8 : w.cell? ⟨6, 0, none⟩ = some (.iface 121 (.pointer (some (p 8))))
  s9 : w.cell? ⟨3, 0, none⟩ = some (.iface 121 (.pointer (some (p 9))))
  s10 : w.cell? ⟨7, 0, none⟩ = some (.iface 121 (.pointer (some (p 10))))

theorem block_lt_of_cell {w : World} {a : Addr} {v : Value} (h : w.cell? a = some v) : a.block < w.heap.size := by
  rcases Nat.lt_or_ge a.block w.heap.size with h' | h'
  · exact h'
  · simp [World.cell?, Array.getElem?_eq_none h'] at h

theorem Env.below {p : Nat → Addr} {w w' : World} (E : Env p w) (hb : Below w.heap.size w w') : Env p w' where
  s0 := (hb.cell (p := ⟨1, 0, none⟩) (block_lt_of_cell E.s0)).trans E.s0
  s1 := (hb.cell (p := ⟨0, 0, none⟩) (block_lt_of_cell E.s1)).trans E.s1
  s2 := (hb.cell (p := ⟨2, 0, none⟩) (block_lt_of_cell E.s2)).trans E.s2
  s4 := (hb.cell (p := ⟨4, 0, none⟩) (block_lt_of_cell E.s4)).trans E.s4
  s7 := (hb.cell (p := ⟨5, 0, none⟩) (block_lt_of_cell E.s7)).trans E.s7
  s8 := (hb.cell (p := ⟨6, 0, none⟩) (block_lt_of_cell E.s8)).trans E.s8
  s9 := (hb.cell (p := ⟨3, 0, none⟩) (block_lt_of_cell E.s9)).trans E.s9
  s10 := (hb.cell (p := ⟨7, 0, none⟩) (block_lt_of_cell E.s10)).trans E.s10

/-- The number of the error at place j (13: none of them). -/
def codeOf (j : Nat) : Int := if j < 13 then (j : Int) + 1 else -1

theorem codeOf_lt {j : Nat} (h : j < 13) : (j : Int) + 1 = codeOf j := by simp [codeOf, h]

theorem sent_cells (p : Nat → Addr) (w : World) (k : Nat) (h : k < 13) : (w.alloc (.cells #[.iface 121 (.pointer (some (p 0))), .iface 121 (.pointer (some (p 1))), .iface 121 (.pointer (some (p 2))), .iface 121 (.pointer (some (p 3))), .iface 121 (.pointer (some (p 4))), .iface 121 (.pointer (some (p 5))), .iface 121 (.pointer (some (p 6))), .iface 121 (.pointer (some (p 7))), .iface 121 (.pointer (some (p 8))), .iface 121 (.pointer (some (p 9))), .iface 121 (.pointer (some (p 10))), .iface 121 (.pointer (some (p 11))), .iface 121 (.pointer (some (p 12)))] 26)).cell? ⟨w.heap.size, k, none⟩ = some (.iface 121 (.pointer (some (p k)))) := by
  rw [World.cell?_alloc_at _ _ _ _ rfl]
  have h' : k = 0 ∨ k = 1 ∨ k = 2 ∨ k = 3 ∨ k = 4 ∨ k = 5 ∨ k = 6 ∨ k = 7 ∨ k = 8 ∨ k = 9 ∨ k = 10 ∨ k = 11 ∨ k = 12 := by omega
  rcases h' with rfl | rfl | rfl | rfl | rfl | rfl | rfl | rfl | rfl | rfl | rfl | rfl | rfl <;> rfl

end Go.Proofs.YtlofpooobabkjaaDoor
/-
  The value of an error by its number: over this seat's translation.
-/
namespace Go.Proofs.YtlofpooobabkjaaDoor

/-- The error of a number. -/
def errV (p : Nat → Addr) (c : Nat) : Value := if c = 0 then .nilIface else .iface 121 (.pointer (some (p (c - 1))))
theorem errV_zero (p : Nat → Addr) : errV p 0 = .nilIface := rfl
theorem errV_some (p : Nat → Addr) {k : Nat} (h : k ≠ 0) : errV p k = .iface 121 (.pointer (some (p (k - 1)))) := by simp [errV, h]
end Go.Proofs.YtlofpooobabkjaaDoor
/-
  Paths as lists of bytes: what a part is, how a text is cut at slashes, checked, cleaned, joined and stripped: plain functions and what holds of them. No Go text is spoken of here.
-/
namespace Go.Proofs.YtlofpooobabkjaaDoor

/-- May this byte stand in a part? -/
def partByte (b : UInt8) : Bool := (97 ≤ b && b ≤ 122) || (48 ≤ b && b ≤ 57) || b == 46 || b == 95 || b == 45
def partInt (b : Int) : Bool := (decide (97 ≤ b) && decide (b ≤ 122)) || (decide (48 ≤ b) && decide (b ≤ 57)) || decide (b = 46) || decide (b = 95) || decide (b = 45)

theorem partInt_byte (b : UInt8) : partInt (b.toNat : Int) = partByte b := by
  have h : ∀ k : UInt8, (decide ((b.toNat : Int) = (k.toNat : Int))) = (b == k) := fun k => by
    rw [Bool.eq_iff_iff]; simp [← UInt8.toNat_inj]; omega
  have h1 : ∀ k : UInt8, (decide ((k.toNat : Int) ≤ (b.toNat : Int))) = decide (k ≤ b) := fun k => by
    rw [Bool.eq_iff_iff]; simp [UInt8.le_iff_toNat_le]
  have h2 : ∀ k : UInt8, (decide ((b.toNat : Int) ≤ (k.toNat : Int))) = decide (b ≤ k) := fun k => by
    rw [Bool.eq_iff_iff]; simp [UInt8.le_iff_toNat_le]
  have e1 := h1 97; have e2 := h2 122; have e3 := h1 48; have e4 := h2 57; have e5 := h 46; have e6 := h 95; have e7 := h 45
  simp only [UInt8.reduceToNat, Int.cast_ofNat_Int] at e1 e2 e3 e4 e5 e6 e7
  unfold partInt partByte
  rw [e1, e2, e3, e4, e5, e6, e7]

/-- Is this a part of a path? -/
def isPart (l : List UInt8) : Bool := !l.isEmpty && decide (l.length ≤ 12) && !(l == [46]) && !(l == [46, 46]) && l.all partByte

/-- What stands between slashes. -/
def pieces : List UInt8 → List (List UInt8)
  | [] => [[]]
  | c :: r => if c = 47 then [] :: pieces r else match pieces r with | [] => [[c]] | p :: ps => (c :: p) :: ps

theorem pieces_ne (l : List UInt8) : pieces l ≠ [] := by
  cases l with
  | nil => simp [pieces]
  | cons c r =>
    unfold pieces
    split
    · simp
    · split <;> simp

/-- What stands ahead of the first slash, and behind it. -/
def cutL : List UInt8 → Option (List UInt8 × List UInt8)
  | [] => none
  | c :: r => if c = 47 then some ([], r) else match cutL r with | none => none | some (a, b) => some (c :: a, b)

theorem cutL_some : ∀ {l a b : List UInt8}, cutL l = some (a, b) → l = a ++ 47 :: b
  | [], a, b, h => by simp [cutL] at h
  | c :: r, a, b, h => by
    unfold cutL at h
    split at h
    · rename_i hc
      simp at h
      obtain ⟨rfl, rfl⟩ := h
      simp [hc]
    · split at h
      · cases h
      · rename_i a' b' h'
        simp at h
        obtain ⟨rfl, rfl⟩ := h
        simp [cutL_some h']

theorem index_none : ∀ {l : List UInt8}, cutL l = none → Lib.indexByte l 47 = -1
  | [], _ => rfl
  | c :: r, h => by
    unfold cutL at h
    split at h
    · cases h
    · rename_i hc
      split at h
      · rename_i h'
        unfold Lib.indexByte
        rw [index_none h']
        simp [hc]
      · cases h

theorem index_some : ∀ {l a b : List UInt8}, cutL l = some (a, b) → Lib.indexByte l 47 = a.length
  | [], a, b, h => by simp [cutL] at h
  | c :: r, a, b, h => by
    unfold cutL at h
    split at h
    · rename_i hc
      simp at h
      obtain ⟨rfl, rfl⟩ := h
      simp [Lib.indexByte, hc]
    · rename_i hc
      split at h
      · cases h
      · rename_i a' b' h'
        simp at h
        obtain ⟨rfl, rfl⟩ := h
        unfold Lib.indexByte
        rw [index_some h']
        have : ((a'.length : Int) == -1) = false := by simp
        simp [hc, this]

theorem pieces_none : ∀ {l : List UInt8}, cutL l = none → pieces l = [l]
  | [], _ => rfl
  | c :: r, h => by
    unfold cutL at h
    split at h
    · cases h
    · rename_i hc
      split at h
      · rename_i h'
        simp [pieces, hc, pieces_none h']
      · cases h

theorem pieces_some : ∀ {l a b : List UInt8}, cutL l = some (a, b) → pieces l = a :: pieces b
  | [], a, b, h => by simp [cutL] at h
  | c :: r, a, b, h => by
    unfold cutL at h
    split at h
    · rename_i hc
      simp at h
      obtain ⟨rfl, rfl⟩ := h
      simp [pieces, hc]
    · rename_i hc
      split at h
      · cases h
      · rename_i a' b' h'
        simp at h
        obtain ⟨rfl, rfl⟩ := h
        simp [pieces, hc, pieces_some h']

theorem cutL_no : ∀ {a : List UInt8}, 47 ∉ a → cutL a = none
  | [], _ => rfl
  | c :: r, h => by
    have hc : c ≠ 47 := fun e => h (by rw [e]; exact List.mem_cons_self)
    have hr := cutL_no (a := r) (fun e => h (List.mem_cons_of_mem _ e))
    simp [cutL, hc, hr]

theorem cutL_of : ∀ {a : List UInt8} (b : List UInt8), 47 ∉ a → cutL (a ++ 47 :: b) = some (a, b)
  | [], b, _ => by simp [cutL]
  | c :: r, b, h => by
    have hc : c ≠ 47 := fun e => h (by rw [e]; exact List.mem_cons_self)
    have hr := cutL_of (a := r) b (fun e => h (List.mem_cons_of_mem _ e))
    simp [cutL, hc, hr]

theorem drop_cut {l : List UInt8} {f k : Nat} (hfk : f ≤ k) (hk : k < l.length) (h47 : l[k] = 47) : l.drop f = (l.drop f).take (k - f) ++ 47 :: l.drop (k + 1) := by
  have e1 : l.drop k = 47 :: l.drop (k + 1) := by rw [List.drop_eq_getElem_cons hk, h47]
  have e2 : (l.drop f).drop (k - f) = l.drop k := by rw [List.drop_drop]; congr 1; omega
  rw [← e1, ← e2]
  exact (List.take_append_drop _ _).symm

theorem take_more {l : List UInt8} {f k : Nat} (hfk : f ≤ k) (hk : k < l.length) : (l.drop f).take (k + 1 - f) = (l.drop f).take (k - f) ++ [l[k]] := by
  have e : k + 1 - f = (k - f) + 1 := by omega
  have hl : k - f < (l.drop f).length := by rw [List.length_drop]; omega
  rw [e, List.take_succ_eq_append_getElem hl]
  congr 2
  rw [List.getElem_drop]
  congr 1
  omega

/-- The number of the error that checking a text tells (0: none). -/
def checkCode (l : List UInt8) : Nat := if (pieces l).all isPart then (if 6 < (pieces l).length then 8 else 0) else 5

theorem pieces_length : ∀ l : List UInt8, (pieces l).length ≤ l.length + 1
  | [] => by simp [pieces]
  | c :: r => by
    have ih := pieces_length r
    unfold pieces
    split
    · simp; omega
    · split
      · simp
      · rename_i p ps h
        rw [h] at ih
        simp at ih ⊢
        omega

/-- One piece more, when a text is cleaned: the pieces kept so far, and the number of an error (0: none). -/
def cleanStep (st : List (List UInt8) × Nat) (x : List UInt8) : List (List UInt8) × Nat :=
  if st.2 ≠ 0 then st
  else if x = [] ∨ x = [46] then st
  else if x = [46, 46] then (if st.1 = [] then (st.1, 10) else (st.1.dropLast, 0))
  else if isPart x then (st.1 ++ [x], 0) else (st.1, 5)

def cleanF (xs : List (List UInt8)) : List (List UInt8) × Nat := xs.foldl cleanStep ([], 0)

theorem cleanF_snoc (pre : List (List UInt8)) (x : List UInt8) : cleanF (pre ++ [x]) = cleanStep (cleanF pre) x := by simp [cleanF]

theorem cleanStep_stuck (st : List (List UInt8) × Nat) (h : st.2 ≠ 0) : ∀ xs : List (List UInt8), xs.foldl cleanStep st = st
  | [] => rfl
  | x :: xs => by
    have : cleanStep st x = st := by simp [cleanStep, h]
    rw [List.foldl_cons, this, cleanStep_stuck st h xs]

theorem cleanF_prefix {pre xs : List (List UInt8)} (hp : pre <+: xs) (h : (cleanF pre).2 ≠ 0) : cleanF xs = cleanF pre := by
  obtain ⟨r, rfl⟩ := hp
  show (pre ++ r).foldl cleanStep ([], 0) = _
  rw [List.foldl_append]
  exact cleanStep_stuck _ h r

theorem cleanStep_dot {st : List (List UInt8) × Nat} {x : List UInt8} (h : st.2 = 0) (hx : x = [] ∨ x = [46]) : cleanStep st x = st := by simp [cleanStep, h, hx]
theorem cleanStep_up {st : List (List UInt8) × Nat} (h : st.2 = 0) (hk : st.1 ≠ []) : cleanStep st [46, 46] = (st.1.dropLast, 0) := by simp [cleanStep, h, hk]
theorem cleanStep_out {st : List (List UInt8) × Nat} (h : st.2 = 0) (hk : st.1 = []) : cleanStep st [46, 46] = ([], 10) := by simp [cleanStep, h, hk]
theorem cleanStep_part {st : List (List UInt8) × Nat} {x : List UInt8} (h : st.2 = 0) (h0 : x ≠ []) (h1 : x ≠ [46]) (h2 : x ≠ [46, 46]) (hx : isPart x = true) : cleanStep st x = (st.1 ++ [x], 0) := by simp [cleanStep, h, h0, h1, h2, hx]
theorem cleanStep_none {st : List (List UInt8) × Nat} {x : List UInt8} (h : st.2 = 0) (h0 : x ≠ []) (h1 : x ≠ [46]) (h2 : x ≠ [46, 46]) (hx : isPart x = false) : cleanStep st x = (st.1, 5) := by simp [cleanStep, h, h0, h1, h2, hx]

theorem cleanF_length : ∀ pre : List (List UInt8), (cleanF pre).1.length ≤ pre.length := by
  intro pre
  have h : ∀ (xs : List (List UInt8)) (st : List (List UInt8) × Nat), (xs.foldl cleanStep st).1.length ≤ st.1.length + xs.length := by
    intro xs
    induction xs with
    | nil => intro st; simp
    | cons x xs ih =>
      intro st
      have h1 : (cleanStep st x).1.length ≤ st.1.length + 1 := by
        unfold cleanStep
        split
        · omega
        · split
          · omega
          · split
            · split <;> simp <;> omega
            · split <;> simp
      have := ih (cleanStep st x)
      simp only [List.foldl_cons, List.length_cons]
      omega
  have := h pre ([], 0)
  simpa [cleanF] using this

theorem isPart_length {x : List UInt8} (h : isPart x = true) : x.length ≤ 12 := by
  simp [isPart] at h
  exact h.1.1.1.2

theorem cleanStep_parts {st : List (List UInt8) × Nat} (h : ∀ x ∈ st.1, isPart x = true) (y : List UInt8) : ∀ x ∈ (cleanStep st y).1, isPart x = true := by
  unfold cleanStep
  split
  · exact h
  · split
    · exact h
    · split
      · split
        · exact h
        · intro x hx
          exact h x ((List.dropLast_sublist _).subset hx)
      · split
        · rename_i hy
          intro x hx
          rcases List.mem_append.1 hx with hx | hx
          · exact h x hx
          · simp at hx; subst hx; exact hy
        · exact h

theorem cleanF_parts (xs : List (List UInt8)) : ∀ x ∈ (cleanF xs).1, isPart x = true := by
  have h : ∀ (xs : List (List UInt8)) (st : List (List UInt8) × Nat), (∀ x ∈ st.1, isPart x = true) → ∀ x ∈ (xs.foldl cleanStep st).1, isPart x = true := by
    intro xs
    induction xs with
    | nil => intro st h; exact h
    | cons y ys ih => intro st h; exact ih _ (cleanStep_parts h y)
  exact h xs ([], 0) (by simp)

theorem joinTail_length {M : Nat} : ∀ {k : List (List UInt8)}, (∀ x ∈ k, x.length ≤ M) → (Lib.joinTail [47] k).length ≤ (M + 1) * k.length
  | [], _ => by simp [Lib.joinTail]
  | x :: k, h => by
    have h1 := h x List.mem_cons_self
    have h2 := joinTail_length (k := k) (fun y hy => h y (List.mem_cons_of_mem _ hy))
    have e : Lib.joinTail [47] (x :: k) = 47 :: x ++ Lib.joinTail [47] k := by simp [Lib.joinTail]
    rw [e, List.length_append, List.length_cons, List.length_cons, Nat.mul_add]
    omega

theorem join_length {M : Nat} {k : List (List UInt8)} (h : ∀ x ∈ k, x.length ≤ M) : (Lib.join k [47]).length ≤ (M + 1) * k.length := by
  cases k with
  | nil => simp [Lib.join_nil]
  | cons x k =>
    have h1 := h x List.mem_cons_self
    have h2 := joinTail_length (k := k) (fun y hy => h y (List.mem_cons_of_mem _ hy))
    rw [Lib.join_cons, List.length_append, List.length_cons, Nat.mul_add]
    omega

/-- What cleaning a text tells: the text, and the number of an error (0: none). -/
def cleanL (l : List UInt8) : List UInt8 × Nat :=
  if l.head? = some 47 then ([], 3)
  else if (cleanF (pieces l)).2 ≠ 0 then ([], (cleanF (pieces l)).2)
  else if 6 < (cleanF (pieces l)).1.length then ([], 8)
  else (Lib.join (cleanF (pieces l)).1 [47], 0)

/-- What stripping the first parts of a text tells: the text, and the number of an error (0: none). -/
def stripL (s : List UInt8) (n : Int) : List UInt8 × Nat :=
  if checkCode s ≠ 0 then ([], checkCode s)
  else if n < 0 then ([], 2)
  else if ((pieces s).length : Int) ≤ n then ([], 3)
  else (Lib.join ((pieces s).drop n.toNat) [47], 0)

end Go.Proofs.YtlofpooobabkjaaDoor
/-
  isPartByte and isPart of package path answer as the plain functions say: walks, over this seat's translation.
-/
namespace Go.Proofs.YtlofpooobabkjaaDoor
open Go.RowKit

theorem ret_bool {a b : Bool} (h : a = b) : Ending.returned (.bool a) = .returned (.bool b) := by rw [h]

theorem partByte_any (b : Int) (w : World) (h0 : 0 ≤ b) (h1 : b ≤ 255) : Calls Tryd.prog 28 #[.int .u8 b] w fun e w' => e = .returned (.bool (partInt b)) ∧ w' = w := by
  have hc : b < 48 ∨ (48 ≤ b ∧ b ≤ 57) ∨ (58 ≤ b ∧ b ≤ 96) ∨ (97 ≤ b ∧ b ≤ 122) ∨ 123 ≤ b := by omega
  rcases hc with h | ⟨h, h'⟩ | ⟨h, h'⟩ | ⟨h, h'⟩ | h
  all_goals
    go_enter Tryd.func28, Tryd.ntmps28
    go_wp2
    all_goals
      go_ret
      refine ⟨ret_bool ?_, rfl⟩
      rw [Bool.eq_iff_iff]
      simp [partInt]
      try omega

theorem partByte_is (b : Int) (r : Bool) (w : World) (h0 : 0 ≤ b) (h1 : b ≤ 255) (h : partInt b = r) : Calls Tryd.prog 28 #[.int .u8 b] w fun e w' => e = .returned (.bool r) ∧ w' = w := by
  have := partByte_any b w h0 h1
  rwa [h] at this

set_option maxHeartbeats 1000000 in
theorem isPart_any (l : List UInt8) (w : World) (hl : l.length ≤ 100000) : Calls Tryd.prog 18 #[.string ⟨l.toArray⟩] w fun e w' => e = .returned (.bool (isPart l)) ∧ w' = w := by
  by_cases h0 : l = []
  · subst h0
    go_enter Tryd.func18, Tryd.ntmps18
    go_wp2
    go_ret
    exact ⟨rfl, rfl⟩
  by_cases h1 : 12 < l.length
  · have he : isPart l = false := by simp [isPart]; omega
    rw [he]
    clear he
    have hb0 : l.isEmpty = false := by simpa using h0
    have hb1 : (12 : Int) < l.length := by omega
    clear h0
    go_enter Tryd.func18, Tryd.ntmps18
    go_wp2
    go_ret
    exact ⟨rfl, rfl⟩
  by_cases h2 : l = [46]
  · subst h2
    go_enter Tryd.func18, Tryd.ntmps18
    go_wp2
    go_ret
    exact ⟨rfl, rfl⟩
  by_cases h3 : l = [46, 46]
  · subst h3
    go_enter Tryd.func18, Tryd.ntmps18
    go_wp2
    go_ret
    exact ⟨rfl, rfl⟩
  have HP : Hid (isPart l = l.all partByte) := by
    show isPart l = l.all partByte
    simp [isPart, h0, h2, h3]
    intro _
    omega
  have hb0 : l.isEmpty = false := by simpa using h0
  have hb1 : (l.length : Int) ≤ 12 := by omega
  have hb2 : (l == [46]) = false := by simpa using h2
  have hb3 : (l == [46, 46]) = false := by simpa using h3
  clear h0 h2 h3 h1
  go_enter Tryd.func18, Tryd.ntmps18
  go_wp2_with fail
  go_loop [21] (fun i => ∃ k : Nat, k ≤ l.length ∧ i = .int .i64 k ∧ (l.take k).all partByte = true) (fun i => l.length - (intOf i).toNat)
  case atStart => exact ⟨0, by omega, rfl, by simp⟩
  case round =>
    obtain ⟨k, hk, rfl, hall⟩ := hrel
    have HA : Hid ((l.take k).all partByte = true) := hall
    clear hall
    by_cases hlt : k < l.length
    · have hb : (l[k].toNat : Int) ≤ 255 := by have := l[k].toNat_lt; omega
      by_cases hp : partByte l[k] = true
      · have HPI : Hid (partInt (l[k].toNat : Int) = true) := (partInt_byte l[k]).trans hp
        have hsnoc : Hid ((l.take (k + 1)).all partByte = true) := by
          show (l.take (k + 1)).all partByte = true
          rw [List.take_succ_eq_append_getElem hlt, List.all_append, HA.out]; simp [hp]
        clear hp
        go_wp2_with fail
        refine (partByte_is _ true _ (Int.natCast_nonneg _) hb HPI.out).mono ?_
        rintro e w' ⟨rfl, rfl⟩
        go_wp2
        go_round
        case rel => exact ⟨k + 1, by omega, by go_num, hsnoc.out⟩
        case measure => simp [intOf]; omega
      · have hp' : partByte l[k] = false := by simpa using hp
        have HPI : Hid (partInt (l[k].toNat : Int) = false) := (partInt_byte l[k]).trans hp'
        have hno : Hid (isPart l = false) := by
          show isPart l = false
          rw [HP.out, List.all_eq_false]
          exact ⟨l[k], List.getElem_mem hlt, by simp [hp']⟩
        clear hp hp'
        go_wp2_with fail
        refine (partByte_is _ false _ (Int.natCast_nonneg _) hb HPI.out).mono ?_
        rintro e w' ⟨rfl, rfl⟩
        go_wp2
        go_ret
        exact ⟨ret_bool hno.out.symm, rfl⟩
    · go_wp2
      go_ret
      have : k = l.length := by omega
      subst this
      refine ⟨ret_bool ?_, rfl⟩
      rw [HP.out]
      have := HA.out
      rw [List.take_length] at this
      exact this.symm
end Go.Proofs.YtlofpooobabkjaaDoor
/-
  Contracts of library functions that the library proves once, laid at this seat's translation (made by program).
-/
namespace Go.Proofs
open Go.Shelf
def Tryd.lays169_ren : Go.Shelf.Ren := ⟨fun | 169 => 15 | n => n, fun | 70 => 43 | 9 => 9 | 0 => 0 | 72 => 46 | 37 => 44 | 127 => 66 | 3 => 3 | 5 => 5 | n => n, fun | n => n⟩
theorem Tryd.lays169 : Go.Proofs.Lays.n169 Tryd.prog Tryd.lays169_ren := {
  mixed := by kernel_rfl
  f169 := Tryd.func15.trans (congrArg some (by kernel_rfl))
  t0 := Tryd.underlying0
  a0 := Tryd.isAgg0
  z0 := Tryd.sizeOf0
  v0 := Tryd.zeroValue0
  t3 := Tryd.underlying3
  a3 := Tryd.isAgg3
  z3 := Tryd.sizeOf3
  v3 := Tryd.zeroValue3
  t9 := Tryd.underlying9
  a9 := Tryd.isAgg9
  z9 := Tryd.sizeOf9
  v9 := Tryd.zeroValue9
  t37 := Tryd.underlying44
  a37 := Tryd.isAgg44
  z37 := Tryd.sizeOf44
  v37 := Tryd.zeroValue44
  t70 := Tryd.underlying43
  a70 := Tryd.isAgg43
  z70 := Tryd.sizeOf43
  v70 := Tryd.zeroValue43
  t72 := Tryd.underlying46
  a72 := Tryd.isAgg46
  z72 := Tryd.sizeOf46
  v72 := Tryd.zeroValue46
  t127 := Tryd.underlying66
  a127 := Tryd.isAgg66
  z127 := Tryd.sizeOf66
  v127 := Tryd.zeroValue66 }
theorem Tryd.Builder_Extra_169 : Builder.Extra Tryd.prog Tryd.lays169_ren := {
  sizeBuilder := by kernel_rfl
  liesBuilder := by kernel_rfl
  t5 := Tryd.underlying5
  a5 := Tryd.isAgg5
  z5 := Tryd.sizeOf5
  v5 := Tryd.zeroValue5
  infoByte := by kernel_rfl
  cellsByte := by kernel_rfl
  sizeByte := by kernel_rfl
  neB5 := by decide }
open Go.RowKit in
theorem Tryd.Builder_String_any (B b : Nat) (l : List UInt8) (w : World) (h : Lib.IsBuilder 46 5 B b (Lib.byteCells l) w) (hBw : B ≤ w.heap.size) :
    Calls Tryd.prog 15 #[.pointer (some ⟨b, 0, none⟩)] w fun e w' => e = .returned (.string ⟨l.toArray⟩) ∧ Below B w w' := Any.Builder_String_any Tryd.lays169 Tryd.Builder_Extra_169 B b l w h hBw
def Tryd.lays156_ren : Go.Shelf.Ren := ⟨fun | 156 => 19 | 165 => 29 | 166 => 13 | 169 => 15 | 240 => 24 | 241 => 40 | 276 => 38 | 277 => 46 | n => n, fun | 31 => 52 | 9 => 9 | 3 => 3 | 4 => 4 | 0 => 0 | 20 => 20 | 72 => 46 | 76 => 47 | 70 => 43 | 37 => 44 | 75 => 26 | 127 => 66 | 164 => 75 | 5 => 5 | 80 => 50 | n => n, fun | n => n⟩
theorem Tryd.lays156 : Go.Proofs.Lays.n156 Tryd.prog Tryd.lays156_ren := {
  mixed := by kernel_rfl
  f156 := Tryd.func19.trans (congrArg some (by kernel_rfl))
  f165 := Tryd.func29.trans (congrArg some (by kernel_rfl))
  f166 := Tryd.func13.trans (congrArg some (by kernel_rfl))
  f169 := Tryd.func15.trans (congrArg some (by kernel_rfl))
  f240 := Tryd.func24.trans (congrArg some (by kernel_rfl))
  f241 := Tryd.func40.trans (congrArg some (by kernel_rfl))
  f276 := Tryd.func38.trans (congrArg some (by kernel_rfl))
  f277 := Tryd.func46.trans (congrArg some (by kernel_rfl))
  t0 := Tryd.underlying0
  a0 := Tryd.isAgg0
  z0 := Tryd.sizeOf0
  v0 := Tryd.zeroValue0
  t3 := Tryd.underlying3
  a3 := Tryd.isAgg3
  z3 := Tryd.sizeOf3
  v3 := Tryd.zeroValue3
  t4 := Tryd.underlying4
  a4 := Tryd.isAgg4
  z4 := Tryd.sizeOf4
  v4 := Tryd.zeroValue4
  t9 := Tryd.underlying9
  a9 := Tryd.isAgg9
  z9 := Tryd.sizeOf9
  v9 := Tryd.zeroValue9
  t20 := Tryd.underlying20
  a20 := Tryd.isAgg20
  z20 := Tryd.sizeOf20
  v20 := Tryd.zeroValue20
  t31 := Tryd.underlying52
  a31 := Tryd.isAgg52
  z31 := Tryd.sizeOf52
  v31 := Tryd.zeroValue52
  t37 := Tryd.underlying44
  a37 := Tryd.isAgg44
  z37 := Tryd.sizeOf44
  v37 := Tryd.zeroValue44
  t70 := Tryd.underlying43
  a70 := Tryd.isAgg43
  z70 := Tryd.sizeOf43
  v70 := Tryd.zeroValue43
  t72 := Tryd.underlying46
  a72 := Tryd.isAgg46
  z72 := Tryd.sizeOf46
  v72 := Tryd.zeroValue46
  t75 := Tryd.underlying26
  a75 := Tryd.isAgg26
  z75 := Tryd.sizeOf26
  v75 := Tryd.zeroValue26
  t76 := Tryd.underlying47
  a76 := Tryd.isAgg47
  z76 := Tryd.sizeOf47
  v76 := Tryd.zeroValue47
  t127 := Tryd.underlying66
  a127 := Tryd.isAgg66
  z127 := Tryd.sizeOf66
  v127 := Tryd.zeroValue66
  t164 := Tryd.underlying75
  a164 := Tryd.isAgg75
  z164 := Tryd.sizeOf75
  v164 := Tryd.zeroValue75 }
theorem Tryd.Builder_Extra_156 : Builder.Extra Tryd.prog Tryd.lays156_ren := {
  sizeBuilder := by kernel_rfl
  liesBuilder := by kernel_rfl
  t5 := Tryd.underlying5
  a5 := Tryd.isAgg5
  z5 := Tryd.sizeOf5
  v5 := Tryd.zeroValue5
  infoByte := by kernel_rfl
  cellsByte := by kernel_rfl
  sizeByte := by kernel_rfl
  neB5 := by decide }
open Go.RowKit in
theorem Tryd.strings_Join_none (a : Option Addr) (c : Nat) (sep : ByteArray) (w : World) :
    Calls Tryd.prog 19 #[.slice a 0 c, .string sep] w fun e w' => e = .returned (.string ⟨#[]⟩) ∧ w' = w := Any.strings_Join_none Tryd.lays156 Tryd.Builder_Extra_156 a c sep w
open Go.RowKit in
theorem Tryd.strings_Join (bk o c : Nat) (xs : List ByteArray) (sep : ByteArray) (w : World) (hcells : ∀ (j : Nat) x, xs[j]? = some x → w.cell? ⟨bk, o + j, none⟩ = some (.string x)) (hbk : bk < w.heap.size) (hN : xs.length ≤ 140737488355328) (hcap : xs.length ≤ c) (hlen : (Lib.join (xs.map (·.data.toList)) sep.data.toList).length ≤ 140737488355328) :
    Calls Tryd.prog 19 #[.slice (some ⟨bk, o, none⟩) xs.length c, .string sep] w fun e w' => e = .returned (.string ⟨(Lib.join (xs.map (·.data.toList)) sep.data.toList).toArray⟩) ∧ Below w.heap.size w w' := Any.strings_Join Tryd.lays156 Tryd.Builder_Extra_156 bk o c xs sep w hcells hbk hN hcap hlen
def Tryd.lays103_ren : Go.Shelf.Ren := ⟨fun | 103 => 22 | 210 => 33 | 206 => 26 | n => n, fun | 9 => 9 | 4 => 4 | 24 => 62 | 3 => 3 | n => n, fun | n => n⟩
theorem Tryd.lays103 : Go.Proofs.Lays.n103 Tryd.prog Tryd.lays103_ren := {
  mixed := by kernel_rfl
  f103 := Tryd.func22.trans (congrArg some (by kernel_rfl))
  f206 := Tryd.func26.trans (congrArg some (by kernel_rfl))
  f210 := Tryd.func33.trans (congrArg some (by kernel_rfl))
  t3 := Tryd.underlying3
  a3 := Tryd.isAgg3
  z3 := Tryd.sizeOf3
  v3 := Tryd.zeroValue3
  t4 := Tryd.underlying4
  a4 := Tryd.isAgg4
  z4 := Tryd.sizeOf4
  v4 := Tryd.zeroValue4
  t9 := Tryd.underlying9
  a9 := Tryd.isAgg9
  z9 := Tryd.sizeOf9
  v9 := Tryd.zeroValue9
  t24 := Tryd.underlying62
  a24 := Tryd.isAgg62
  z24 := Tryd.sizeOf62
  v24 := Tryd.zeroValue62 }
open Go.RowKit in
theorem Tryd.strings_CutPrefix (s p : ByteArray) (w : World) :
    Calls Tryd.prog 22 #[.string s, .string p] w fun e w' => e = .returned (.tuple #[.string ⟨(Lib.trimPrefix s.data.toList p.data.toList).toArray⟩, .bool (Lib.hasPrefix s.data.toList p.data.toList)]) ∧ w' = w := Any.strings_CutPrefix Tryd.lays103 s p w
def Tryd.laysM171_ren : Go.Shelf.Ren := ⟨fun | 171 => 25 | 243 => 39 | 246 => 45 | 283 => 56 | 284 => 57 | 285 => 58 | 286 => 59 | 129 => 71 | 317 => 70 | 318 => 72 | 319 => 73 | 320 => 74 | 337 => 79 | 338 => 80 | n => n, fun | 3 => 3 | 9 => 9 | 2 => 2 | 4 => 4 | 171 => 87 | 0 => 0 | 53 => 88 | 37 => 44 | 5 => 5 | 173 => 91 | 212 => 106 | 51 => 93 | 20 => 20 | 213 => 107 | 46 => 84 | 232 => 124 | 233 => 125 | n => n, fun | 17 => 9 | 18 => 14 | 19 => 15 | n => n⟩
theorem Tryd.laysM171 : Go.Proofs.LaysM.n171 Tryd.prog Tryd.laysM171_ren := {
  mixed := by kernel_rfl
  f129 := Tryd.func71.trans (congrArg some (by kernel_rfl))
  f171 := Tryd.func25.trans (congrArg some (by kernel_rfl))
  f243 := Tryd.func39.trans (congrArg some (by kernel_rfl))
  f246 := Tryd.func45.trans (congrArg some (by kernel_rfl))
  f283 := Tryd.func56.trans (congrArg some (by kernel_rfl))
  f284 := Tryd.func57.trans (congrArg some (by kernel_rfl))
  f285 := Tryd.func58.trans (congrArg some (by kernel_rfl))
  f286 := Tryd.func59.trans (congrArg some (by kernel_rfl))
  f317 := Tryd.func70.trans (congrArg some (by kernel_rfl))
  f318 := Tryd.func72.trans (congrArg some (by kernel_rfl))
  f319 := Tryd.func73.trans (congrArg some (by kernel_rfl))
  f320 := Tryd.func74.trans (congrArg some (by kernel_rfl))
  f337 := Tryd.func79.trans (congrArg some (by kernel_rfl))
  f338 := Tryd.func80.trans (congrArg some (by kernel_rfl))
  t0 := Tryd.underlying0
  a0 := Tryd.isAgg0
  z0 := Tryd.sizeOf0
  v0 := Tryd.zeroValue0
  t2 := Tryd.underlying2
  a2 := Tryd.isAgg2
  z2 := Tryd.sizeOf2
  v2 := Tryd.zeroValue2
  t3 := Tryd.underlying3
  a3 := Tryd.isAgg3
  z3 := Tryd.sizeOf3
  v3 := Tryd.zeroValue3
  t4 := Tryd.underlying4
  a4 := Tryd.isAgg4
  z4 := Tryd.sizeOf4
  v4 := Tryd.zeroValue4
  t5 := Tryd.underlying5
  a5 := Tryd.isAgg5
  z5 := Tryd.sizeOf5
  v5 := Tryd.zeroValue5
  t9 := Tryd.underlying9
  a9 := Tryd.isAgg9
  z9 := Tryd.sizeOf9
  v9 := Tryd.zeroValue9
  t20 := Tryd.underlying20
  a20 := Tryd.isAgg20
  z20 := Tryd.sizeOf20
  v20 := Tryd.zeroValue20
  t37 := Tryd.underlying44
  a37 := Tryd.isAgg44
  z37 := Tryd.sizeOf44
  v37 := Tryd.zeroValue44
  t46 := Tryd.underlying84
  a46 := Tryd.isAgg84
  z46 := Tryd.sizeOf84
  v46 := Tryd.zeroValue84
  t51 := Tryd.underlying93
  a51 := Tryd.isAgg93
  z51 := Tryd.sizeOf93
  v51 := Tryd.zeroValue93
  t53 := Tryd.underlying88
  a53 := Tryd.isAgg88
  z53 := Tryd.sizeOf88
  v53 := Tryd.zeroValue88
  t171 := Tryd.underlying87
  a171 := Tryd.isAgg87
  z171 := Tryd.sizeOf87
  v171 := Tryd.zeroValue87
  t173 := Tryd.underlying91
  a173 := Tryd.isAgg91
  z173 := Tryd.sizeOf91
  v173 := Tryd.zeroValue91
  t212 := Tryd.underlying106
  a212 := Tryd.isAgg106
  z212 := Tryd.sizeOf106
  v212 := Tryd.zeroValue106
  t213 := Tryd.underlying107
  a213 := Tryd.isAgg107
  z213 := Tryd.sizeOf107
  t232 := Tryd.underlying124
  a232 := Tryd.isAgg124
  z232 := Tryd.sizeOf124
  v232 := Tryd.zeroValue124
  t233 := Tryd.underlying125
  a233 := Tryd.isAgg125
  z233 := Tryd.sizeOf125
  v233 := Tryd.zeroValue125
  g17 := by kernel_rfl
  g18 := by kernel_rfl
  g19 := by kernel_rfl
  i0 := by kernel_rfl
  i2 := by kernel_rfl
  i3 := by kernel_rfl
  i4 := by kernel_rfl
  i5 := by kernel_rfl
  i9 := by kernel_rfl
  i20 := by kernel_rfl
  i37 := by kernel_rfl
  i46 := by kernel_rfl
  i51 := by kernel_rfl
  i53 := by kernel_rfl
  i171 := by kernel_rfl
  i173 := by kernel_rfl
  i212 := by kernel_rfl
  i232 := by kernel_rfl
  i233 := by kernel_rfl
  m17 := by kernel_rfl
  m18 := by kernel_rfl
  m19 := by kernel_rfl }
open Go.RowKit Go.Sort Go.Lib in
theorem Tryd.strconv_Itoa (n : Int) (h0 : -9223372036854775808 ≤ n) (h1 : n ≤ 9223372036854775807) (w : World) (htab : Lib.TabIs Tryd.prog w "internal/strconv.uint64pow10" .u64 Lib.pow10Tab) :
    Calls Tryd.prog 25 #[.int .i64 n] w fun e w' => e = .returned (.string ⟨(Lib.itoa n).toArray⟩) ∧ ∃ k os, w' = grow (w.drewN k) os := Any.strconv_Itoa Tryd.laysM171 n h0 h1 w htab
def Tryd.laysC172_ren : Go.Shelf.Ren := ⟨fun | 172 => 43 | 244 => 54 | 245 => 55 | 247 => 65 | 279 => 66 | 280 => 67 | 281 => 68 | 282 => 69 | 287 => 76 | 316 => 77 | 171 => 25 | 205 => 78 | 321 => 81 | 322 => 82 | 243 => 39 | 246 => 45 | 283 => 56 | 284 => 57 | 285 => 58 | 286 => 59 | 129 => 71 | 317 => 70 | 318 => 72 | 319 => 73 | 320 => 74 | 337 => 79 | 338 => 80 | n => n, fun | 9 => 9 | 3 => 3 | 75 => 26 | 76 => 47 | 4 => 4 | 5 => 5 | 167 => 99 | 37 => 44 | 0 => 0 | 85 => 100 | 2 => 2 | 168 => 102 | 53 => 88 | 175 => 110 | 46 => 84 | 210 => 114 | 127 => 66 | 145 => 123 | 143 => 121 | 21 => 21 | 171 => 87 | 173 => 91 | 212 => 106 | 51 => 93 | 20 => 20 | 213 => 107 | 232 => 124 | 233 => 125 | 80 => 50 | n => n, fun | 15 => 10 | 16 => 11 | 17 => 9 | 18 => 14 | 19 => 15 | n => n⟩
theorem Tryd.laysC172 : Go.Proofs.LaysC.n172 Tryd.prog Tryd.laysC172_ren := {
  mixed := by kernel_rfl
  f129 := Tryd.func71.trans (congrArg some (by kernel_rfl))
  f171 := Tryd.func25.trans (congrArg some (by kernel_rfl))
  f172 := Tryd.func43.trans (congrArg some (by kernel_rfl))
  f205 := Tryd.func78.trans (congrArg some (by kernel_rfl))
  f243 := Tryd.func39.trans (congrArg some (by kernel_rfl))
  f244 := Tryd.func54.trans (congrArg some (by kernel_rfl))
  f245 := Tryd.func55.trans (congrArg some (by kernel_rfl))
  f246 := Tryd.func45.trans (congrArg some (by kernel_rfl))
  f247 := Tryd.func65.trans (congrArg some (by kernel_rfl))
  f279 := Tryd.func66.trans (congrArg some (by kernel_rfl))
  f280 := Tryd.func67.trans (congrArg some (by kernel_rfl))
  f281 := Tryd.func68.trans (congrArg some (by kernel_rfl))
  f282 := Tryd.func69.trans (congrArg some (by kernel_rfl))
  f283 := Tryd.func56.trans (congrArg some (by kernel_rfl))
  f284 := Tryd.func57.trans (congrArg some (by kernel_rfl))
  f285 := Tryd.func58.trans (congrArg some (by kernel_rfl))
  f286 := Tryd.func59.trans (congrArg some (by kernel_rfl))
  f287 := Tryd.func76.trans (congrArg some (by kernel_rfl))
  f316 := Tryd.func77.trans (congrArg some (by kernel_rfl))
  f317 := Tryd.func70.trans (congrArg some (by kernel_rfl))
  f318 := Tryd.func72.trans (congrArg some (by kernel_rfl))
  f319 := Tryd.func73.trans (congrArg some (by kernel_rfl))
  f320 := Tryd.func74.trans (congrArg some (by kernel_rfl))
  f321 := Tryd.func81.trans (congrArg some (by kernel_rfl))
  f322 := Tryd.func82.trans (congrArg some (by kernel_rfl))
  f337 := Tryd.func79.trans (congrArg some (by kernel_rfl))
  f338 := Tryd.func80.trans (congrArg some (by kernel_rfl))
  t0 := Tryd.underlying0
  a0 := Tryd.isAgg0
  z0 := Tryd.sizeOf0
  v0 := Tryd.zeroValue0
  t2 := Tryd.underlying2
  a2 := Tryd.isAgg2
  z2 := Tryd.sizeOf2
  v2 := Tryd.zeroValue2
  t3 := Tryd.underlying3
  a3 := Tryd.isAgg3
  z3 := Tryd.sizeOf3
  v3 := Tryd.zeroValue3
  t4 := Tryd.underlying4
  a4 := Tryd.isAgg4
  z4 := Tryd.sizeOf4
  v4 := Tryd.zeroValue4
  t5 := Tryd.underlying5
  a5 := Tryd.isAgg5
  z5 := Tryd.sizeOf5
  v5 := Tryd.zeroValue5
  t9 := Tryd.underlying9
  a9 := Tryd.isAgg9
  z9 := Tryd.sizeOf9
  v9 := Tryd.zeroValue9
  t20 := Tryd.underlying20
  a20 := Tryd.isAgg20
  z20 := Tryd.sizeOf20
  v20 := Tryd.zeroValue20
  t21 := Tryd.underlying21
  a21 := Tryd.isAgg21
  z21 := Tryd.sizeOf21
  v21 := Tryd.zeroValue21
  t37 := Tryd.underlying44
  a37 := Tryd.isAgg44
  z37 := Tryd.sizeOf44
  v37 := Tryd.zeroValue44
  t46 := Tryd.underlying84
  a46 := Tryd.isAgg84
  z46 := Tryd.sizeOf84
  v46 := Tryd.zeroValue84
  t51 := Tryd.underlying93
  a51 := Tryd.isAgg93
  z51 := Tryd.sizeOf93
  v51 := Tryd.zeroValue93
  t53 := Tryd.underlying88
  a53 := Tryd.isAgg88
  z53 := Tryd.sizeOf88
  v53 := Tryd.zeroValue88
  t75 := Tryd.underlying26
  a75 := Tryd.isAgg26
  z75 := Tryd.sizeOf26
  v75 := Tryd.zeroValue26
  t76 := Tryd.underlying47
  a76 := Tryd.isAgg47
  z76 := Tryd.sizeOf47
  v76 := Tryd.zeroValue47
  t85 := Tryd.underlying100
  a85 := Tryd.isAgg100
  z85 := Tryd.sizeOf100
  v85 := Tryd.zeroValue100
  t127 := Tryd.underlying66
  a127 := Tryd.isAgg66
  z127 := Tryd.sizeOf66
  v127 := Tryd.zeroValue66
  t143 := Tryd.underlying121
  a143 := Tryd.isAgg121
  z143 := Tryd.sizeOf121
  v143 := Tryd.zeroValue121
  t145 := Tryd.underlying123
  a145 := Tryd.isAgg123
  z145 := Tryd.sizeOf123
  v145 := Tryd.zeroValue123
  t167 := Tryd.underlying99
  a167 := Tryd.isAgg99
  z167 := Tryd.sizeOf99
  v167 := Tryd.zeroValue99
  t168 := Tryd.underlying102
  a168 := Tryd.isAgg102
  z168 := Tryd.sizeOf102
  v168 := Tryd.zeroValue102
  t171 := Tryd.underlying87
  a171 := Tryd.isAgg87
  z171 := Tryd.sizeOf87
  v171 := Tryd.zeroValue87
  t173 := Tryd.underlying91
  a173 := Tryd.isAgg91
  z173 := Tryd.sizeOf91
  v173 := Tryd.zeroValue91
  t175 := Tryd.underlying110
  a175 := Tryd.isAgg110
  z175 := Tryd.sizeOf110
  v175 := Tryd.zeroValue110
  t210 := Tryd.underlying114
  a210 := Tryd.isAgg114
  z210 := Tryd.sizeOf114
  v210 := Tryd.zeroValue114
  t212 := Tryd.underlying106
  a212 := Tryd.isAgg106
  z212 := Tryd.sizeOf106
  v212 := Tryd.zeroValue106
  t213 := Tryd.underlying107
  a213 := Tryd.isAgg107
  z213 := Tryd.sizeOf107
  t232 := Tryd.underlying124
  a232 := Tryd.isAgg124
  z232 := Tryd.sizeOf124
  v232 := Tryd.zeroValue124
  t233 := Tryd.underlying125
  a233 := Tryd.isAgg125
  z233 := Tryd.sizeOf125
  v233 := Tryd.zeroValue125
  g15 := by kernel_rfl
  g16 := by kernel_rfl
  g17 := by kernel_rfl
  g18 := by kernel_rfl
  g19 := by kernel_rfl
  t80 := Tryd.underlying50
  a80 := Tryd.isAgg50
  z80 := Tryd.sizeOf50
  v80 := Tryd.zeroValue50
  i0 := by kernel_rfl
  i2 := by kernel_rfl
  i3 := by kernel_rfl
  i4 := by kernel_rfl
  i5 := by kernel_rfl
  i9 := by kernel_rfl
  i20 := by kernel_rfl
  i21 := by kernel_rfl
  i37 := by kernel_rfl
  i46 := by kernel_rfl
  i51 := by kernel_rfl
  i53 := by kernel_rfl
  i75 := by kernel_rfl
  i76 := by kernel_rfl
  i80 := by kernel_rfl
  i85 := by kernel_rfl
  i127 := by kernel_rfl
  i143 := by kernel_rfl
  i145 := by kernel_rfl
  i167 := by kernel_rfl
  i168 := by kernel_rfl
  i171 := by kernel_rfl
  i173 := by kernel_rfl
  i175 := by kernel_rfl
  i210 := by kernel_rfl
  i212 := by kernel_rfl
  i232 := by kernel_rfl
  i233 := by kernel_rfl
  m15 := by kernel_rfl
  m16 := by kernel_rfl
  m17 := by kernel_rfl
  m18 := by kernel_rfl
  m19 := by kernel_rfl
  c0 := by kernel_rfl
  c2 := by kernel_rfl
  c3 := by kernel_rfl
  c4 := by kernel_rfl
  c5 := by kernel_rfl
  c9 := by kernel_rfl
  c20 := by kernel_rfl
  c21 := by kernel_rfl
  c37 := by kernel_rfl
  c46 := by kernel_rfl
  c51 := by kernel_rfl
  c53 := by kernel_rfl
  c75 := by kernel_rfl
  c76 := by kernel_rfl
  c80 := by kernel_rfl
  c85 := by kernel_rfl
  c127 := by kernel_rfl
  c143 := by kernel_rfl
  c145 := by kernel_rfl
  c167 := by kernel_rfl
  c168 := by kernel_rfl
  c171 := by kernel_rfl
  c173 := by kernel_rfl
  c175 := by kernel_rfl
  c210 := by kernel_rfl
  c212 := by kernel_rfl
  c213 := by kernel_rfl
  c232 := by kernel_rfl
  c233 := by kernel_rfl }
open Go.RowKit in
theorem Tryd.strconv_Atoi_ok (s : ByteArray) (hmax : s.size ≤ 9223372036854775806) (v : Int) (h : Lib.atoiAll s.data.toList = .ok v) (w : World) :
    Calls Tryd.prog 43 #[.string s] w fun e w' => e = .returned (.tuple #[.int .i64 v, .nilIface]) ∧ (w' = w ∨ ∃ t, w' = Lib.bytesWorld w 5 t) := Any.strconv_Atoi_ok Tryd.laysC172 s hmax v h w
open Go.RowKit in
theorem Tryd.strconv_Atoi_syntax (s : ByteArray) (hlim : s.size ≤ 281474976710656) (h : Lib.atoiAll s.data.toList = .«syntax») (ev : Value) (w : World) (hv : w.cell? ⟨10, 0, none⟩ = some ev) (hev : ev = .nilIface ∨ ∃ te pe, ev = .iface te pe) :
    Calls Tryd.prog 43 #[.string s] w fun e w' => ∃ N, e = .returned (.tuple #[.int .i64 (0), .iface 102 (.pointer (some ⟨N, 0, none⟩))]) ∧ w.heap.size ≤ N ∧ w'.heap[N]? = some (.cells #[.string ⟨#[65, 116, 111, 105]⟩, .string s, ev] 114 (0, 0)) ∧ Below w.heap.size w w' := Any.strconv_Atoi_syntax Tryd.laysC172 s hlim h ev w hv hev
open Go.RowKit in
theorem Tryd.strconv_Atoi_range (s : ByteArray) (hlim : s.size ≤ 281474976710656) (h : Lib.atoiAll s.data.toList = .range) (ev : Value) (w : World) (hv : w.cell? ⟨11, 0, none⟩ = some ev) (hev : ev = .nilIface ∨ ∃ te pe, ev = .iface te pe) :
    Calls Tryd.prog 43 #[.string s] w fun e w' => ∃ N, e = .returned (.tuple #[.int .i64 (Lib.atoiSat s.data.toList), .iface 102 (.pointer (some ⟨N, 0, none⟩))]) ∧ w.heap.size ≤ N ∧ w'.heap[N]? = some (.cells #[.string ⟨#[65, 116, 111, 105]⟩, .string s, ev] 114 (0, 0)) ∧ Below w.heap.size w w' := Any.strconv_Atoi_range Tryd.laysC172 s hlim h ev w hv hev
def Tryd.lays219_ren : Go.Shelf.Ren := ⟨fun | 219 => 41 | 217 => 47 | 225 => 48 | 224 => 49 | 267 => 50 | 266 => 60 | 314 => 61 | n => n, fun | 9 => 9 | 3 => 3 | 4 => 4 | 5 => 5 | 46 => 84 | 146 => 94 | 51 => 93 | n => n, fun | 1 => 8 | n => n⟩
theorem Tryd.lays219 : Go.Proofs.Lays.n219 Tryd.prog Tryd.lays219_ren := {
  mixed := by kernel_rfl
  f217 := Tryd.func47.trans (congrArg some (by kernel_rfl))
  f219 := Tryd.func41.trans (congrArg some (by kernel_rfl))
  f224 := Tryd.func49.trans (congrArg some (by kernel_rfl))
  f225 := Tryd.func48.trans (congrArg some (by kernel_rfl))
  f266 := Tryd.func60.trans (congrArg some (by kernel_rfl))
  f267 := Tryd.func50.trans (congrArg some (by kernel_rfl))
  f314 := Tryd.func61.trans (congrArg some (by kernel_rfl))
  t3 := Tryd.underlying3
  a3 := Tryd.isAgg3
  z3 := Tryd.sizeOf3
  v3 := Tryd.zeroValue3
  t4 := Tryd.underlying4
  a4 := Tryd.isAgg4
  z4 := Tryd.sizeOf4
  v4 := Tryd.zeroValue4
  t5 := Tryd.underlying5
  a5 := Tryd.isAgg5
  z5 := Tryd.sizeOf5
  v5 := Tryd.zeroValue5
  t9 := Tryd.underlying9
  a9 := Tryd.isAgg9
  z9 := Tryd.sizeOf9
  v9 := Tryd.zeroValue9
  t46 := Tryd.underlying84
  a46 := Tryd.isAgg84
  z46 := Tryd.sizeOf84
  v46 := Tryd.zeroValue84
  t51 := Tryd.underlying93
  a51 := Tryd.isAgg93
  z51 := Tryd.sizeOf93
  v51 := Tryd.zeroValue93
  t146 := Tryd.underlying94
  a146 := Tryd.isAgg94
  z146 := Tryd.sizeOf94
  v146 := Tryd.zeroValue94
  g1 := by kernel_rfl }
open Go.RowKit Go.Lib in
theorem Tryd.stringslite_Index_one (s : ByteArray) (c : UInt8) (w : World) :
    Calls Tryd.prog 41 #[.string s, .string ⟨#[c]⟩] w fun e w' => e = .returned (.int .i64 (Lib.indexByte s.data.toList c)) ∧ w' = w := Any.stringslite_Index_one Tryd.lays219 s c w
def Tryd.lays143_ren : Go.Shelf.Ren := ⟨fun | 143 => 53 | 219 => 41 | 217 => 47 | 225 => 48 | 224 => 49 | 267 => 50 | 266 => 60 | 314 => 61 | n => n, fun | 9 => 9 | 3 => 3 | 4 => 4 | 5 => 5 | 46 => 84 | 146 => 94 | 51 => 93 | n => n, fun | 1 => 8 | n => n⟩
theorem Tryd.lays143 : Go.Proofs.Lays.n143 Tryd.prog Tryd.lays143_ren := {
  mixed := by kernel_rfl
  f143 := Tryd.func53.trans (congrArg some (by kernel_rfl))
  f217 := Tryd.func47.trans (congrArg some (by kernel_rfl))
  f219 := Tryd.func41.trans (congrArg some (by kernel_rfl))
  f224 := Tryd.func49.trans (congrArg some (by kernel_rfl))
  f225 := Tryd.func48.trans (congrArg some (by kernel_rfl))
  f266 := Tryd.func60.trans (congrArg some (by kernel_rfl))
  f267 := Tryd.func50.trans (congrArg some (by kernel_rfl))
  f314 := Tryd.func61.trans (congrArg some (by kernel_rfl))
  t3 := Tryd.underlying3
  a3 := Tryd.isAgg3
  z3 := Tryd.sizeOf3
  v3 := Tryd.zeroValue3
  t4 := Tryd.underlying4
  a4 := Tryd.isAgg4
  z4 := Tryd.sizeOf4
  v4 := Tryd.zeroValue4
  t5 := Tryd.underlying5
  a5 := Tryd.isAgg5
  z5 := Tryd.sizeOf5
  v5 := Tryd.zeroValue5
  t9 := Tryd.underlying9
  a9 := Tryd.isAgg9
  z9 := Tryd.sizeOf9
  v9 := Tryd.zeroValue9
  t46 := Tryd.underlying84
  a46 := Tryd.isAgg84
  z46 := Tryd.sizeOf84
  v46 := Tryd.zeroValue84
  t51 := Tryd.underlying93
  a51 := Tryd.isAgg93
  z51 := Tryd.sizeOf93
  v51 := Tryd.zeroValue93
  t146 := Tryd.underlying94
  a146 := Tryd.isAgg94
  z146 := Tryd.sizeOf94
  v146 := Tryd.zeroValue94
  g1 := by kernel_rfl }
open Go.RowKit Go.Lib in
theorem Tryd.strings_Index_one (s : ByteArray) (c : UInt8) (w : World) :
    Calls Tryd.prog 53 #[.string s, .string ⟨#[c]⟩] w fun e w' => e = .returned (.int .i64 (Lib.indexByte s.data.toList c)) ∧ w' = w := Any.strings_Index_one Tryd.lays143 s c w
def Tryd.lays138_ren : Go.Shelf.Ren := ⟨fun | 138 => 52 | 195 => 62 | 218 => 64 | 143 => 53 | 219 => 41 | 217 => 47 | 225 => 48 | 224 => 49 | 267 => 50 | 266 => 60 | 314 => 61 | n => n, fun | 9 => 9 | 3 => 3 | 4 => 4 | 5 => 5 | 0 => 0 | 46 => 84 | 146 => 94 | 51 => 93 | n => n, fun | 1 => 8 | n => n⟩
theorem Tryd.lays138 : Go.Proofs.Lays.n138 Tryd.prog Tryd.lays138_ren := {
  mixed := by kernel_rfl
  f138 := Tryd.func52.trans (congrArg some (by kernel_rfl))
  f143 := Tryd.func53.trans (congrArg some (by kernel_rfl))
  f195 := Tryd.func62.trans (congrArg some (by kernel_rfl))
  f217 := Tryd.func47.trans (congrArg some (by kernel_rfl))
  f218 := Tryd.func64.trans (congrArg some (by kernel_rfl))
  f219 := Tryd.func41.trans (congrArg some (by kernel_rfl))
  f224 := Tryd.func49.trans (congrArg some (by kernel_rfl))
  f225 := Tryd.func48.trans (congrArg some (by kernel_rfl))
  f266 := Tryd.func60.trans (congrArg some (by kernel_rfl))
  f267 := Tryd.func50.trans (congrArg some (by kernel_rfl))
  f314 := Tryd.func61.trans (congrArg some (by kernel_rfl))
  t0 := Tryd.underlying0
  a0 := Tryd.isAgg0
  z0 := Tryd.sizeOf0
  v0 := Tryd.zeroValue0
  t3 := Tryd.underlying3
  a3 := Tryd.isAgg3
  z3 := Tryd.sizeOf3
  v3 := Tryd.zeroValue3
  t4 := Tryd.underlying4
  a4 := Tryd.isAgg4
  z4 := Tryd.sizeOf4
  v4 := Tryd.zeroValue4
  t5 := Tryd.underlying5
  a5 := Tryd.isAgg5
  z5 := Tryd.sizeOf5
  v5 := Tryd.zeroValue5
  t9 := Tryd.underlying9
  a9 := Tryd.isAgg9
  z9 := Tryd.sizeOf9
  v9 := Tryd.zeroValue9
  t46 := Tryd.underlying84
  a46 := Tryd.isAgg84
  z46 := Tryd.sizeOf84
  v46 := Tryd.zeroValue84
  t51 := Tryd.underlying93
  a51 := Tryd.isAgg93
  z51 := Tryd.sizeOf93
  v51 := Tryd.zeroValue93
  t146 := Tryd.underlying94
  a146 := Tryd.isAgg94
  z146 := Tryd.sizeOf94
  v146 := Tryd.zeroValue94
  g1 := by kernel_rfl }
open Go.RowKit Go.Lib in
theorem Tryd.strings_Count_one (s : ByteArray) (c : UInt8) (w : World) :
    Calls Tryd.prog 52 #[.string s, .string ⟨#[c]⟩] w fun e w' => e = .returned (.int .i64 (Lib.countByte s.data.toList c)) ∧ w' = w := Any.strings_Count_one Tryd.lays138 s c w
def Tryd.lays99_ren : Go.Shelf.Ren := ⟨fun | 99 => 16 | 206 => 26 | n => n, fun | 9 => 9 | 4 => 4 | 3 => 3 | n => n, fun | n => n⟩
theorem Tryd.lays99 : Go.Proofs.Lays.n99 Tryd.prog Tryd.lays99_ren := {
  mixed := by kernel_rfl
  f99 := Tryd.func16.trans (congrArg some (by kernel_rfl))
  f206 := Tryd.func26.trans (congrArg some (by kernel_rfl))
  t3 := Tryd.underlying3
  a3 := Tryd.isAgg3
  z3 := Tryd.sizeOf3
  v3 := Tryd.zeroValue3
  t4 := Tryd.underlying4
  a4 := Tryd.isAgg4
  z4 := Tryd.sizeOf4
  v4 := Tryd.zeroValue4
  t9 := Tryd.underlying9
  a9 := Tryd.isAgg9
  z9 := Tryd.sizeOf9
  v9 := Tryd.zeroValue9 }
open Go.RowKit Go.Lib in
theorem Tryd.strings_HasPrefix (s p : ByteArray) (w : World) :
    Calls Tryd.prog 16 #[.string s, .string p] w fun e w' => e = .returned (.bool (Lib.hasPrefix s.data.toList p.data.toList)) ∧ w' = w := Any.strings_HasPrefix Tryd.lays99 s p w
def Tryd.lays221_ren : Go.Shelf.Ren := ⟨fun | 221 => 42 | 268 => 51 | 138 => 52 | 143 => 53 | 195 => 62 | 197 => 63 | 218 => 64 | 219 => 41 | 260 => 75 | 217 => 47 | 225 => 48 | 224 => 49 | 267 => 50 | 266 => 60 | 314 => 61 | n => n, fun | 9 => 9 | 3 => 3 | 31 => 52 | 4 => 4 | 0 => 0 | 105 => 97 | 21 => 21 | 5 => 5 | 46 => 84 | 119 => 116 | 139 => 119 | 138 => 118 | 146 => 94 | 51 => 93 | n => n, fun | 1 => 8 | 3 => 12 | 4 => 13 | n => n⟩
theorem Tryd.lays221 : Go.Proofs.Lays.n221 Tryd.prog Tryd.lays221_ren := {
  mixed := by kernel_rfl
  f138 := Tryd.func52.trans (congrArg some (by kernel_rfl))
  f143 := Tryd.func53.trans (congrArg some (by kernel_rfl))
  f195 := Tryd.func62.trans (congrArg some (by kernel_rfl))
  f197 := Tryd.func63.trans (congrArg some (by kernel_rfl))
  f217 := Tryd.func47.trans (congrArg some (by kernel_rfl))
  f218 := Tryd.func64.trans (congrArg some (by kernel_rfl))
  f219 := Tryd.func41.trans (congrArg some (by kernel_rfl))
  f221 := Tryd.func42.trans (congrArg some (by kernel_rfl))
  f224 := Tryd.func49.trans (congrArg some (by kernel_rfl))
  f225 := Tryd.func48.trans (congrArg some (by kernel_rfl))
  f260 := Tryd.func75.trans (congrArg some (by kernel_rfl))
  f266 := Tryd.func60.trans (congrArg some (by kernel_rfl))
  f267 := Tryd.func50.trans (congrArg some (by kernel_rfl))
  f268 := Tryd.func51.trans (congrArg some (by kernel_rfl))
  f314 := Tryd.func61.trans (congrArg some (by kernel_rfl))
  t0 := Tryd.underlying0
  a0 := Tryd.isAgg0
  z0 := Tryd.sizeOf0
  v0 := Tryd.zeroValue0
  t3 := Tryd.underlying3
  a3 := Tryd.isAgg3
  z3 := Tryd.sizeOf3
  v3 := Tryd.zeroValue3
  t4 := Tryd.underlying4
  a4 := Tryd.isAgg4
  z4 := Tryd.sizeOf4
  v4 := Tryd.zeroValue4
  t5 := Tryd.underlying5
  a5 := Tryd.isAgg5
  z5 := Tryd.sizeOf5
  v5 := Tryd.zeroValue5
  t9 := Tryd.underlying9
  a9 := Tryd.isAgg9
  z9 := Tryd.sizeOf9
  v9 := Tryd.zeroValue9
  t21 := Tryd.underlying21
  a21 := Tryd.isAgg21
  z21 := Tryd.sizeOf21
  v21 := Tryd.zeroValue21
  t31 := Tryd.underlying52
  a31 := Tryd.isAgg52
  z31 := Tryd.sizeOf52
  v31 := Tryd.zeroValue52
  t46 := Tryd.underlying84
  a46 := Tryd.isAgg84
  z46 := Tryd.sizeOf84
  v46 := Tryd.zeroValue84
  t51 := Tryd.underlying93
  a51 := Tryd.isAgg93
  z51 := Tryd.sizeOf93
  v51 := Tryd.zeroValue93
  t105 := Tryd.underlying97
  a105 := Tryd.isAgg97
  z105 := Tryd.sizeOf97
  v105 := Tryd.zeroValue97
  t119 := Tryd.underlying116
  a119 := Tryd.isAgg116
  z119 := Tryd.sizeOf116
  t138 := Tryd.underlying118
  a138 := Tryd.isAgg118
  z138 := Tryd.sizeOf118
  v138 := Tryd.zeroValue118
  t139 := Tryd.underlying119
  a139 := Tryd.isAgg119
  z139 := Tryd.sizeOf119
  v139 := Tryd.zeroValue119
  t146 := Tryd.underlying94
  a146 := Tryd.isAgg94
  z146 := Tryd.sizeOf94
  v146 := Tryd.zeroValue94
  g1 := by kernel_rfl
  g3 := by kernel_rfl
  g4 := by kernel_rfl }
open Go.RowKit Go.Lib in
theorem Tryd.strings_genSplit (s sep : ByteArray) (sv : Nat) (n : Int) (N : Nat) (m : Int) (w : World) (hs : s.size < 4294967281) (hm : w.cell? ⟨8, 0, none⟩ = some (.int .i64 m)) (h1 : 1 ≤ sep.size) (hsv : sv ≤ sep.size) (hn0 : n ≠ 0) (hn63 : n ≤ 9223372036854775807) (hN : (N : Int) = min (if n < 0 then (Lib.countB s sep : Int) + 1 else n) ((s.size : Int) + 1)) :
    Calls Tryd.prog 42 #[.string s, .string sep, .int .i64 sv, .int .i64 n] w fun e w' =>
      e = .returned (.slice (some ⟨w.heap.size, 0, none⟩) (Lib.splitB sep sv (N - 1) s).length N) ∧ w' = w.alloc (.cells (Lib.cellsOf (Lib.splitB sep sv (N - 1) s) N) 9) := Any.strings_genSplit Tryd.lays221 (by kernel_rfl) s sep sv n N m w hs hm h1 hsv hn0 hn63 hN
end Go.Proofs
/-
  strings.Cut at a slash, and the iterator that path.cut hands back: contracts: each piece between slashes is handed out in its order, till all are or a round says no more. Over this seat's translation.
-/
namespace Go.Proofs.YtlofpooobabkjaaDoor
open Go.RowKit Go.Shelf

theorem extract_list (l : List UInt8) (i j : Nat) : ({ data := l.toArray } : ByteArray).extract i j = ⟨((l.drop i).take (j - i)).toArray⟩ := by
  have h := Lib.extract_data ⟨l.toArray⟩ i j
  apply ByteArray.ext
  rw [← Array.toArray_toList (xs := (({ data := l.toArray } : ByteArray).extract i j).data), h]

theorem slCut_none (l : List UInt8) (w : World) (h : cutL l = none) : Calls Tryd.prog 30 #[.string ⟨l.toArray⟩, .string ⟨#[47]⟩] w fun e w' => e = .returned (.tuple #[.string ⟨l.toArray⟩, .string ⟨#[]⟩, .bool false]) ∧ w' = w := by
  have HI : Hid (Lib.indexByte l 47 = -1) := index_none h
  clear h
  go_enter Tryd.func30, Tryd.ntmps30
  go_wp2_with fail
  refine (Tryd.stringslite_Index_one _ 47 _).mono ?_
  rintro e w' ⟨rfl, rfl⟩
  rw [show Lib.indexByte ({ data := l.toArray } : ByteArray).data.toList 47 = -1 from by simpa using HI.out]
  go_wp2
  go_ret3
  exact ⟨rfl, rfl⟩

theorem slCut_some (l a b : List UInt8) (w : World) (hl : l.length ≤ 100000) (h : cutL l = some (a, b)) : Calls Tryd.prog 30 #[.string ⟨l.toArray⟩, .string ⟨#[47]⟩] w fun e w' => e = .returned (.tuple #[.string ⟨a.toArray⟩, .string ⟨b.toArray⟩, .bool true]) ∧ ∃ n, w' = w.drewN n := by
  have HI : Hid (Lib.indexByte l 47 = a.length) := index_some h
  have HL : Hid (l = a ++ 47 :: b) := cutL_some h
  have hlen : a.length + b.length + 1 = l.length := by rw [HL.out]; simp; omega
  clear h
  go_enter Tryd.func30, Tryd.ntmps30
  go_wp2_with fail
  refine (Tryd.stringslite_Index_one _ 47 _).mono ?_
  rintro e w' ⟨rfl, rfl⟩
  rw [show Lib.indexByte ({ data := l.toArray } : ByteArray).data.toList 47 = a.length from by simpa using HI.out]
  go_wp2_with fail
  go_quiet (fail)
  go_wp2
  go_ret3
  refine ⟨?_, nq, rfl⟩
  have e1 : ({ data := l.toArray } : ByteArray).extract 0 a.length = ⟨a.toArray⟩ := by
    rw [extract_list, HL.out]; simp
  have e2 : ({ data := l.toArray } : ByteArray).extract (a.length + 1) l.length = ⟨b.toArray⟩ := by
    rw [extract_list, HL.out]
    simp
    rw [List.take_of_length_le (by omega)]
  rw [← e1, ← e2]
  rfl

theorem cut_none (l : List UInt8) (w : World) (h : cutL l = none) : Calls Tryd.prog 20 #[.string ⟨l.toArray⟩, .string ⟨#[47]⟩] w fun e w' => e = .returned (.tuple #[.string ⟨l.toArray⟩, .string ⟨#[]⟩, .bool false]) ∧ w' = w := by
  have H : Hid (cutL l = none) := h
  clear h
  go_enter Tryd.func20, Tryd.ntmps20
  go_wp2_with fail
  refine (slCut_none _ _ H.out).mono ?_
  rintro e w' ⟨rfl, rfl⟩
  go_wp2
  go_ret3
  exact ⟨rfl, rfl⟩

theorem cut_some (l a b : List UInt8) (w : World) (hl : l.length ≤ 100000) (h : cutL l = some (a, b)) : Calls Tryd.prog 20 #[.string ⟨l.toArray⟩, .string ⟨#[47]⟩] w fun e w' => e = .returned (.tuple #[.string ⟨a.toArray⟩, .string ⟨b.toArray⟩, .bool true]) ∧ ∃ n, w' = w.drewN n := by
  have H : Hid (cutL l = some (a, b)) := h
  clear h
  go_enter Tryd.func20, Tryd.ntmps20
  go_wp2_with fail
  refine (slCut_some _ _ _ _ hl H.out).mono ?_
  rintro e w' ⟨rfl, nq, rfl⟩
  go_wp2
  go_ret3
  exact ⟨rfl, nq, rfl⟩

/-- path.cut: the text is boxed; the function value captures the box. -/
theorem cut_fn (l : List UInt8) (w : World) : Calls Tryd.prog 17 #[.string ⟨l.toArray⟩] w fun e w' => e = .returned (.func (.func 27) #[] #[.pointer (some ⟨w.heap.size, 0, none⟩)]) ∧ w' = w.alloc (.cells #[.string ⟨l.toArray⟩] 9) := by
  go_enter Tryd.func17, Tryd.ntmps17
  go_wp2
  go_ret
  exact ⟨rfl, rfl⟩

/-- A piece, no longer than a text may be here. -/
abbrev Pc := { x : List UInt8 // x.length ≤ 100000 }

def strLen : Value → Nat | .string s => s.size | _ => 0
theorem strLen_list (l : List UInt8) : strLen (.string ⟨l.toArray⟩) = l.length := by simp [strLen, ByteArray.size]
def roundsLeft (rest more : Value) : Nat := match more with | .bool true => strLen rest + 1 | _ => 0

theorem grownBy_drewN (w : World) (n : Nat) : w.grownBy (w.drewN n) none := ⟨rfl, rfl, rfl, Nat.le_refl _, fun _ _ _ => rfl⟩

attribute [local go_sem] Oper.semAt_some

set_option maxRecDepth 100000 in
set_option maxHeartbeats 1000000 in
/-- The iterator: every piece in its order, or a prefix of them, where a round says no more. -/
theorem cut1_in (n : Nat) (hn : 1 ≤ n) (l Bn : Nat) (s : List UInt8) (hs : s.length ≤ 100000) (J Jx : List Pc → World → Prop) (n₀ : Nat) (W : World) (hJ : AbidesFrom W.heap.size J)
    (hY : ∀ pre x W1, J pre W1 → pre.length < (pieces s).length → YieldAt Fence.wide (n - 1) Tryd.prog l #[.string ⟨x.1.toArray⟩] W1 fun e W' =>
      (e = .returned (.bool true) ∧ J (pre ++ [x]) W' ∧ Below n₀ W1 W') ∨ (e = .returned (.bool false) ∧ Jx (pre ++ [x]) W'))
    (hB : W.cell? ⟨Bn, 0, none⟩ = some (.string ⟨s.toArray⟩)) (h0 : J [] W) :
    CallsIn Fence.wide n Tryd.prog 27 #[.func (.yield l) #[] #[], .pointer (some ⟨Bn, 0, none⟩)] W fun e W' => (∃ v, e = .returned v) ∧
      ((∃ ys, ys.map (·.1) = pieces s ∧ J ys W') ∨ (∃ pre, pre.map (·.1) <+: pieces s ∧ Jx pre W')) := by
  refine callsIn_of_wp Tryd.func27 rfl trivial ?_ rfl
  simp only [Tryd.ntmps27, List.size_toArray, List.length_cons, List.length_nil, Nat.reduceAdd, Nat.reduceSub, Array.replicate_succ, Array.replicate_zero, List.push_toArray, List.append_toArray, List.nil_append, List.cons_append]
  have HJ : Hid (AbidesFrom W.heap.size J) := hJ
  have HY : Hid (∀ pre x W1, J pre W1 → pre.length < (pieces s).length → YieldAt Fence.wide (n - 1) Tryd.prog l #[.string ⟨x.1.toArray⟩] W1 fun e W' =>
      (e = .returned (.bool true) ∧ J (pre ++ [x]) W' ∧ Below n₀ W1 W') ∨ (e = .returned (.bool false) ∧ Jx (pre ++ [x]) W')) := hY
  clear hJ hY
  gi_wp2
  gi_loopw [3, 4] (fun rest more wr => ∃ pre : List Pc, J pre wr ∧ ((more = .bool false ∧ pre.map (·.1) = pieces s) ∨ (∃ t : List UInt8, more = .bool true ∧ rest = .string ⟨t.toArray⟩ ∧ t.length ≤ 100000 ∧ pieces s = pre.map (·.1) ++ pieces t)))
    (fun rest more _ => roundsLeft rest more)
  case atStart =>
    exact ⟨[], h0, .inr ⟨s, rfl, rfl, hs, by simp⟩⟩
  case round =>
    obtain ⟨pre, hJp, ⟨rfl, hp⟩ | ⟨t, rfl, rfl, ht, hp⟩⟩ := hrel
    · have HP : Hid (pre.map (·.1) = pieces s) := hp
      clear hp
      gi_wp2
      go_end0
      exact ⟨⟨_, rfl⟩, .inl ⟨pre, HP.out, hJp⟩⟩
    · have HP : Hid (pieces s = pre.map (·.1) ++ pieces t) := hp
      clear hp
      cases hc : cutL t with
      | none =>
        have HC : Hid (cutL t = none) := hc
        clear hc
        gi_wp2_with fail
        refine ⟨trivial, (callsIn_wide.2 (cut_none _ _ HC.out)).mono ?_⟩
        rintro e w' ⟨rfl, rfl⟩
        have hlen : pre.length < (pieces s).length := by
          rw [HP.out, pieces_none HC.out]; simp
        obtain ⟨fn, tmps, assign, body, hy, hR⟩ := HY.out pre ⟨t, ht⟩ w' hJp hlen
        gi_wp2
        refine hR.mono ?_
        rintro e W3 (⟨rfl, hJ3, hk3⟩ | ⟨rfl, hJx3⟩)
        · clear hy hR
          gi_wp2
          go_roundw
          case rel => exact ⟨pre ++ [⟨t, ht⟩], hJ3, .inl ⟨rfl, by rw [HP.out, pieces_none HC.out]; simp⟩⟩
          case measure => simp [roundsLeft]
        · clear hy hR
          gi_wp2
          refine bodyPost_ret (results_none rfl _ _ _) rfl ?_
          exact ⟨⟨_, rfl⟩, .inr ⟨pre ++ [⟨t, ht⟩], by rw [HP.out, pieces_none HC.out]; simp, hJx3⟩⟩
      | some ab =>
        obtain ⟨a, b⟩ := ab
        have HC : Hid (cutL t = some (a, b)) := hc
        have hab : a.length + b.length + 1 = t.length := by rw [cutL_some hc]; simp; omega
        have ha : a.length ≤ 100000 := by omega
        clear hc
        gi_wp2_with fail
        refine ⟨trivial, (callsIn_wide.2 (cut_some _ _ _ _ ht HC.out)).mono ?_⟩
        rintro e w' ⟨rfl, nq, rfl⟩
        have hlen : pre.length < (pieces s).length := by
          rw [HP.out, pieces_some HC.out]; simp
        have hJd : J pre (wr.drewN nq) := HJ.out pre wr _ none hJp (grownBy_drewN _ _) (fun _ h => by cases h)
        obtain ⟨fn, tmps, assign, body, hy, hR⟩ := HY.out pre ⟨a, ha⟩ (wr.drewN nq) hJd hlen
        gi_wp2
        refine hR.mono ?_
        rintro e W3 (⟨rfl, hJ3, hk3⟩ | ⟨rfl, hJx3⟩)
        · clear hy hR
          gi_wp2
          go_roundw
          case rel => exact ⟨pre ++ [⟨a, ha⟩], hJ3, .inr ⟨b, rfl, rfl, by omega, by rw [HP.out, pieces_some HC.out]; simp⟩⟩
          case measure => simp only [roundsLeft, strLen_list]; omega
        · clear hy hR
          gi_wp2
          refine bodyPost_ret (results_none rfl _ _ _) rfl ?_
          exact ⟨⟨_, rfl⟩, .inr ⟨pre ++ [⟨a, ha⟩], by rw [HP.out, pieces_some HC.out]; simp, hJx3⟩⟩

/-- The function value that path.cut hands back. -/
theorem cut_stops (n : Nat) (hn : 1 ≤ n) (Bn n₀ : Nat) (s : List UInt8) (hs : s.length ≤ 100000) (w : World) (hBn : Bn < w.heap.size) (hc : w.cell? ⟨Bn, 0, none⟩ = some (.string ⟨s.toArray⟩)) :
    SeqStopsK Fence.wide n Tryd.prog 27 #[.pointer (some ⟨Bn, 0, none⟩)] (fun x : Pc => #[Value.string ⟨x.1.toArray⟩]) (Below n₀) (fun ys => ys.map (·.1) = pieces s) (fun pre => pre.map (·.1) <+: pieces s) (pieces s).length w := fun l J Jx W hW hJ _ hY h0 =>
  cut1_in n hn l Bn s hs J Jx n₀ W hJ hY ((hW.cell (p := ⟨Bn, 0, none⟩) hBn).trans hc) h0
end Go.Proofs.YtlofpooobabkjaaDoor
/-
  path.Check tells of every text that is not too long what the plain function tells: a contract, over this seat's translation.
-/
namespace Go.Proofs.YtlofpooobabkjaaDoor
open Go.RowKit Go.Shelf

theorem cell_set {w : World} {a : Addr} {v u : Value} (h : w.cell? a = some u) : (w.setCell a v).cell? a = some v := World.cell?_setCell_same' _ _ _ (by rw [h]; rfl)
theorem cell_far {w : World} {a b : Addr} {v : Value} (h : b.block ≠ a.block) : (w.setCell a v).cell? b = w.cell? b := World.cell?_of_block (Below.heap_setCell _ _ _ _ h)

attribute [local go_sem] Oper.semAt_some

set_option maxRecDepth 100000 in
set_option maxHeartbeats 2000000 in
theorem check_any (p : Nat → Addr) (s : List UInt8) (w : World) (hE : Env p w) (hs : s.length ≤ 90000) :
    Calls Tryd.prog 34 #[.string ⟨s.toArray⟩] w fun e w' => e = .returned (errV p (checkCode s)) ∧ Below w.heap.size w w' := by
  refine (callsIn_wide (n := 3)).1 ?_
  refine callsIn_of_wp_marks Tryd.func34 rfl trivial ?_ rfl
  simp only [Tryd.ntmps34, List.size_toArray, List.length_cons, List.length_nil, Nat.reduceAdd, Nat.reduceSub, Array.replicate_succ, Array.replicate_zero, List.push_toArray, List.append_toArray, List.nil_append, List.cons_append]
  have HE : Hid (Env p w) := hE
  clear hE
  gi_wp2_with (refine ⟨trivial, ?_⟩; gi_at_call 17; refine (callsIn_wide.2 (cut_fn s _)).mono ?_; rintro e w' ⟨rfl, rfl⟩)
  have b0 := Boxed.new w 26 .nilIface
  have b1 := Boxed.new (w.alloc (.cells #[.nilIface] 26)) 3 (.int .i64 0)
  have b2 := Boxed.new ((w.alloc (.cells #[.nilIface] 26)).alloc (.cells #[.int .i64 0] 3)) 9 (.string ⟨s.toArray⟩)
  simp only [World.size_alloc] at b1 b2
  have hB0 : Below w.heap.size w (((w.alloc (.cells #[.nilIface] 26)).alloc (.cells #[.int .i64 0] 3)).alloc (.cells #[.string ⟨s.toArray⟩] 9)) := (((Below.refl _ w).alloc (Nat.le_refl _) _).alloc (by simp) _).alloc (by simp; omega) _
  refine wpIn_rangeFunc_ownF rfl (by omega) (gf := 27) (lb := #[.pointer (some ⟨w.heap.size + 1 + 1, 0, none⟩)]) rfl trivial (enters_of Tryd.func27 (by kernel_rfl) rfl)
    (cut_stops _ (by omega) (w.heap.size + 1 + 1) w.heap.size s (by omega) _ (by simp) b2.cell) belowK_t (belowK_b (by simp; omega)) (Below.refl _ _) (fun _ => rfl)
    (fun pre W => ((pre.map (·.1)).all isPart = true ∧ W.cell? ⟨w.heap.size, 0, none⟩ = some .nilIface ∧ W.frozen? ⟨w.heap.size, 0, none⟩ = false ∧ W.cell? ⟨w.heap.size + 1, 0, none⟩ = some (.int .i64 pre.length) ∧ W.frozen? ⟨w.heap.size + 1, 0, none⟩ = false) ∧ Below w.heap.size w W)
    (fun c pre W => (c = .ret ∧ (pre.map (·.1)).all isPart = false ∧ W.cell? ⟨w.heap.size, 0, none⟩ = some (.iface 121 (.pointer (some (p 4))))) ∧ Below w.heap.size w W)
    (OwnFrom.and (Own.from (fun s A B row hs hg hr => ⟨hs.1, cell_kept hs.2.1 hg hr, (frozen_kept hs.2.1 hg hr).trans hs.2.2.1, cell_kept hs.2.2.2.1 hg hr, (frozen_kept hs.2.2.2.1 hg hr).trans hs.2.2.2.2⟩) _) (ownFrom_below (Nat.le_refl _) (by simp; omega)))
    (fun c => OwnFrom.and (Own.from (fun s A B row hs hg hr => ⟨hs.1, hs.2.1, cell_kept hs.2.2 hg hr⟩) _) (ownFrom_below (Nat.le_refl _) (by simp; omega)))
    ⟨⟨by simp, ((b0.alloc _).alloc _).cell, ((b0.alloc _).alloc _).frozen, (b1.alloc _).cell, (b1.alloc _).frozen⟩, hB0⟩
    (fun x => { tmps := #[.string ⟨s.toArray⟩, undef, .pointer (some ⟨w.heap.size, 0, none⟩), .pointer (some ⟨w.heap.size + 1, 0, none⟩), .string ⟨x.1.toArray⟩, .string ⟨s.toArray⟩, .func (.func 27) #[] #[.pointer (some ⟨w.heap.size + 1 + 1, 0, none⟩)], .string ⟨x.1.toArray⟩, undef, undef, undef, undef, undef, undef, undef, undef, undef], defers := [] }) ?assign ?body ?done ?stop
  case assign =>
    intro l x W K hK
    gi_wp2
    exact hK
  case body =>
    rintro l pre x W ⟨⟨hp, hc0, hf0, hc1, hf1⟩, hB⟩ hlt
    have hpl := pieces_length s
    have hg := (HE.out.below hB).s4
    have HP : Hid ((pre.map (·.1)).all isPart = true) := hp
    have HB : Hid (Below w.heap.size w W) := hB
    clear hp hB
    by_cases hx : isPart x.1 = true
    · gi_wp2_with (refine ⟨trivial, ?_⟩; gi_at_call 18; refine (CallsIn.inRound l (callsIn_wide.2 (isPart_any x.1 _ x.2))).mono ?_; rintro e w' ⟨rfl, rfl⟩)
      refine ⟨KeepsOthers.setCell _ _ _, (Below.refl w.heap.size _).setCell (p := ⟨w.heap.size + 1, 0, none⟩) (by simp) _, ⟨?_, ?_, ?_, ?_, ?_⟩, HB.out.setCell (p := ⟨w.heap.size + 1, 0, none⟩) (by simp) _⟩
      · rw [List.map_append, List.all_append, HP.out]; simp [hx]
      · rw [cell_far (by simp)]; exact hc0
      · rw [World.frozen?_setCell]; exact hf0
      · rw [cell_set hc1]; simp
      · rw [World.frozen?_setCell]; exact hf1
    · have hx' : isPart x.1 = false := by simpa using hx
      clear hx
      gi_wp2_with (refine ⟨trivial, ?_⟩; gi_at_call 18; refine (CallsIn.inRound l (callsIn_wide.2 (isPart_any x.1 _ x.2))).mono ?_; rintro e w' ⟨rfl, rfl⟩)
      refine ⟨KeepsOthers.setCell _ _ _, ⟨rfl, ?_, ?_⟩, HB.out.setCell (p := ⟨w.heap.size, 0, none⟩) (by simp) _⟩
      · rw [List.map_append, List.all_append]; simp [hx']
      · rw [cell_set hc0]
  case done =>
    rintro D ys W hD hys ⟨⟨hp, hc0, hf0, hc1, hf1⟩, hB⟩ hK
    have hg := (HE.out.below hB).s7
    have HB : Hid (Below w.heap.size w W) := hB
    have HC : Hid (checkCode s = if 6 < ys.length then 8 else 0) := by
      show checkCode s = _
      unfold checkCode
      rw [← hys, hp]; simp
    clear hp hB hys
    by_cases hl : 6 < ys.length
    · have hl' : (6 : Int) < ys.length := by omega
      gi_wp2
      have hK' := (KeepsOthers.setCell W ⟨w.heap.size, 0, none⟩ (.iface 121 (.pointer (some (p 7))))).same D _ hK rfl
      refine ⟨by simp, .inl ⟨_, _, rfl, run_takeDeferred hK', ?_⟩⟩
      have hc5 := cell_kept (cell_set (v := .iface 121 (.pointer (some (p 7)))) hc0) (grownBy_putObj' _ D (.deferred none)) (fun r e => by cases e; exact ⟨_, hK', rfl⟩)
      refine ⟨.iface 121 (.pointer (some (p 7))), ?_, by rw [HC.out, if_pos hl]; rfl, (HB.out.setCell (p := ⟨w.heap.size, 0, none⟩) (by simp) _).trans (belowK_b (w := w) (Nat.le_refl _) _ D _ _ (by simp at hD; omega) hK' rfl rfl)⟩
      simp [results, Tryd.f34, go_sem, hc5]
    · have hl' : ¬ (6 : Int) < ys.length := by omega
      gi_wp2
      have hK' := (KeepsOthers.setCell W ⟨w.heap.size, 0, none⟩ .nilIface).same D _ hK rfl
      refine ⟨by simp, .inl ⟨_, _, rfl, run_takeDeferred hK', ?_⟩⟩
      have hc5 := cell_kept (cell_set (v := .nilIface) hc0) (grownBy_putObj' _ D (.deferred none)) (fun r e => by cases e; exact ⟨_, hK', rfl⟩)
      refine ⟨.nilIface, ?_, by rw [HC.out, if_neg hl]; rfl, (HB.out.setCell (p := ⟨w.heap.size, 0, none⟩) (by simp) _).trans (belowK_b (w := w) (Nat.le_refl _) _ D _ _ (by simp at hD; omega) hK' rfl rfl)⟩
      simp [results, Tryd.f34, go_sem, hc5]
  case stop =>
    rintro D c pre W hD hpre ⟨⟨rfl, hin, hcr⟩, hB⟩ hK
    have HC : Hid (checkCode s = 5) := by
      show checkCode s = 5
      unfold checkCode
      obtain ⟨r, hr⟩ := hpre
      rw [← hr, List.all_append, hin]; simp
    clear hin hpre
    gi_wp2
    refine ⟨by simp, .inl ⟨_, _, rfl, run_takeDeferred hK, ?_⟩⟩
    have hc5 := cell_kept hcr (grownBy_putObj' _ D (.deferred none)) (fun r e => by cases e; exact ⟨_, hK, rfl⟩)
    refine ⟨.iface 121 (.pointer (some (p 4))), ?_, by rw [HC.out]; rfl, hB.trans (belowK_b (w := w) (Nat.le_refl _) W D _ _ (by simp at hD; omega) hK rfl rfl)⟩
    simp [results, Tryd.f34, go_sem, hc5]
end Go.Proofs.YtlofpooobabkjaaDoor
/-
  path.Clean tells of every text that is not too long what the plain function tells: a contract, over this seat's translation.
-/
namespace Go.Proofs.YtlofpooobabkjaaDoor
open Go.RowKit Go.Shelf

theorem hasPrefix_slash (l : List UInt8) : Lib.hasPrefix l [47] = (l.head? == some 47) := by
  cases l with
  | nil => rfl
  | cons c r =>
    have : ((47 : UInt8) == c) = (c == 47) := by rw [Bool.eq_iff_iff]; simp; exact eq_comm
    simp [Lib.hasPrefix, List.isPrefixOf, this]

theorem hasPrefix_is (l q : List UInt8) (r : Bool) (w : World) (h : Lib.hasPrefix l q = r) : Calls Tryd.prog 16 #[.string ⟨l.toArray⟩, .string ⟨q.toArray⟩] w fun e w' => e = .returned (.bool r) ∧ w' = w := by
  have := Tryd.strings_HasPrefix ⟨l.toArray⟩ ⟨q.toArray⟩ w
  simp only at this
  rwa [h] at this

theorem isPart_is (l : List UInt8) (r : Bool) (w : World) (hl : l.length ≤ 100000) (h : isPart l = r) : Calls Tryd.prog 18 #[.string ⟨l.toArray⟩] w fun e w' => e = .returned (.bool r) ∧ w = w' := by
  have := isPart_any l w hl
  rw [h] at this
  exact this.mono fun _ _ ⟨a, b⟩ => ⟨a, b.symm⟩

theorem Tryd.info9 : (Tryd.prog.info? 9).map (fun i => (i.zero, i.size, i.bytes)) = some (some (.string ⟨#[]⟩), 1, 16) := by kernel_rfl

attribute [local go_sem] Oper.semAt_some

abbrev sv (l : List UInt8) : Value := .string ⟨l.toArray⟩

set_option maxRecDepth 100000 in
set_option maxHeartbeats 2000000 in
theorem clean_root (p : Nat → Addr) (s : List UInt8) (w : World) (hE : Env p w) (h : s.head? = some 47) :
    Calls Tryd.prog 8 #[.string ⟨s.toArray⟩] w fun e w' => e = .returned (.tuple #[.string ⟨#[]⟩, errV p 3]) ∧ Below w.heap.size w w' := by
  have hp : Lib.hasPrefix s [47] = true := by rw [hasPrefix_slash, h]; rfl
  have HP : Hid (Lib.hasPrefix s [47] = true) := hp
  have hg := (hE.below (((Below.refl _ w).alloc (Nat.le_refl _) (.cells #[.string ⟨#[]⟩] 9)).alloc (by simp) (.cells #[.nilIface] 26))).s2
  clear hp h hE
  go_enter Tryd.func8, Tryd.ntmps8
  go_wp2_with fail
  refine (hasPrefix_is s [47] true _ HP.out).mono ?_
  rintro e w' ⟨rfl, rfl⟩
  go_wp2_with fail
  go_region
  go_wp2
  exact bodyPost_ret (v := .tuple #[.string ⟨#[]⟩, .iface 121 (.pointer (some (p 2)))]) (by simp [results, Tryd.f8, go_sem]) rfl ⟨rfl, (((Below.refl _ w).alloc (Nat.le_refl _) _).alloc (by simp) _).drew⟩

/-- The pieces kept and the error's number behind some pieces. -/
def keptOf (pre : List Pc) : List (List UInt8) := (cleanF (pre.map (·.1))).1
def codeAt (pre : List Pc) : Nat := (cleanF (pre.map (·.1))).2

theorem keptOf_snoc (pre : List Pc) (x : Pc) : (keptOf (pre ++ [x]), codeAt (pre ++ [x])) = cleanStep (keptOf pre, codeAt pre) x.1 := by
  simp [keptOf, codeAt, cleanF_snoc]
theorem snoc_of {pre : List Pc} {x : Pc} {k : List (List UInt8)} {c : Nat} (h : cleanStep (keptOf pre, codeAt pre) x.1 = (k, c)) : keptOf (pre ++ [x]) = k ∧ codeAt (pre ++ [x]) = c := by
  have := (keptOf_snoc pre x).trans h
  simpa using this

theorem stored_both {W w : World} {b : Nat} {x y u0 u1 : Value} (hc0 : W.cell? ⟨b, 0, none⟩ = some u0) (hc1 : W.cell? ⟨b + 1, 0, none⟩ = some u1) (hB : Below b w W) :
    (((W.setCell ⟨b, 0, none⟩ x).setCell ⟨b + 1, 0, none⟩ y).cell? ⟨b, 0, none⟩ = some x) ∧ (((W.setCell ⟨b, 0, none⟩ x).setCell ⟨b + 1, 0, none⟩ y).cell? ⟨b + 1, 0, none⟩ = some y) ∧
      Below b w ((W.setCell ⟨b, 0, none⟩ x).setCell ⟨b + 1, 0, none⟩ y) ∧ KeepsOthers W ((W.setCell ⟨b, 0, none⟩ x).setCell ⟨b + 1, 0, none⟩ y) := by
  refine ⟨?_, ?_, (hB.setCell (p := ⟨b, 0, none⟩) (Nat.le_refl _) _).setCell (p := ⟨b + 1, 0, none⟩) (by simp) _, (KeepsOthers.setCell _ _ _).trans (KeepsOthers.setCell _ _ _)⟩
  · rw [cell_far (by simp), cell_set hc0]
  · exact cell_set (u := u1) (by rw [cell_far (by simp)]; exact hc1)

theorem stored_two {W w : World} {b : Nat} {x y u0 u1 : Value} (hc0 : W.cell? ⟨b, 0, none⟩ = some u0) (hc1 : W.cell? ⟨b + 1, 0, none⟩ = some u1) (hB : Below b w W) :
    (((W.setCell ⟨b, 0, none⟩ x).setCell ⟨b + 1, 0, none⟩ y).drew.cell? ⟨b, 0, none⟩ = some x) ∧ (((W.setCell ⟨b, 0, none⟩ x).setCell ⟨b + 1, 0, none⟩ y).drew.cell? ⟨b + 1, 0, none⟩ = some y) ∧
      Below b w ((W.setCell ⟨b, 0, none⟩ x).setCell ⟨b + 1, 0, none⟩ y).drew ∧ KeepsOthers W ((W.setCell ⟨b, 0, none⟩ x).setCell ⟨b + 1, 0, none⟩ y).drew := by
  obtain ⟨q0, q1, q2, q3⟩ := stored_both (x := x) (y := y) hc0 hc1 hB
  exact ⟨q0, q1, q2.drew, q3.trans (KeepsOthers.drew _)⟩

theorem append_keeps {W w1 : World} {n₁ B j k : Nat} {e : TypeId} {size : Nat} {v : Value} {xs : List Value} {tmp : Obj} (hrow : W.ownsRow n₁ e size v k xs) (hgrow : (W.alloc tmp).grownBy w1 v.ownBlock)
    (hj : j < n₁) (hjW : j < W.heap.size) (hne : j ≠ B) (u : Value) : (w1.setCell ⟨B, 0, none⟩ u).heap[j]? = W.heap[j]? := by
  rw [Below.heap_setCell _ _ _ _ (by simpa using hne), hgrow.block j (by simp; omega) (fun h => by have := hrow.lt j h.symm; omega)]
  exact Below.heap_alloc _ _ _ hjW

/-- strings.Join of a slice that owns some pieces. -/
theorem join_any (base g cap : Nat) (k : List (List UInt8)) (w : World) (hrow : w.ownsRow base 9 1 (.slice (some ⟨g, 0, none⟩) k.length cap) k.length (k.map sv)) (hk : k.length ≤ 100000) (hM : ∀ x ∈ k, x.length ≤ 100000) :
    Calls Tryd.prog 19 #[.slice (some ⟨g, 0, none⟩) k.length cap, .string ⟨#[47]⟩] w fun e w' => e = .returned (.string ⟨(Lib.join k [47]).toArray⟩) ∧ Below w.heap.size w w' := by
  have hl := join_length hM
  have hmap : (k.map fun l => (⟨l.toArray⟩ : ByteArray)).map (·.data.toList) = k := by
    rw [List.map_map]
    have : ((fun x : ByteArray => x.data.toList) ∘ fun l : List UInt8 => (⟨l.toArray⟩ : ByteArray)) = id := by funext l; simp
    rw [this, List.map_id]
  have hcap : k.length ≤ cap := by
    rcases hrow.2 with ⟨h, _⟩ | ⟨g', cap', cur, hv', _, _, h1, _, _⟩
    · cases h
    · cases hv'; exact h1
  have hb : g < w.heap.size := (hrow.lt g rfl).2
  have := Tryd.strings_Join g 0 cap (k.map fun l => ⟨l.toArray⟩) ⟨#[47]⟩ w (fun j x hx => by
      have hj : j < k.length := by
        have := (List.getElem?_eq_some_iff.1 hx).1
        simpa using this
      rw [Nat.zero_add, hrow.cellAt j (by omega)]
      rw [List.getElem?_map] at hx ⊢
      rw [List.getElem?_eq_getElem hj] at hx ⊢
      simp at hx ⊢
      exact hx) hb (by simp; omega) (by simpa using hcap) (by
      rw [hmap]
      have e : (⟨#[47]⟩ : ByteArray).data.toList = [47] := rfl
      rw [e]
      omega)
  rw [hmap, List.length_map] at this
  exact this

theorem ownsRow_slice {W : World} {base : Nat} {e : TypeId} {size : Nat} {v : Value} {n : Nat} {xs : List Value} (h : W.ownsRow base e size v n xs) : ∃ a cap, v = .slice a n cap := by
  rcases h.2 with ⟨rfl, rfl⟩ | ⟨g, cap, cur, rfl, _⟩
  · exact ⟨_, _, rfl⟩
  · exact ⟨_, _, rfl⟩

theorem join_all (base cap : Nat) (a : Option Addr) (k : List (List UInt8)) (w : World) (hrow : w.ownsRow base 9 1 (.slice a k.length cap) k.length (k.map sv)) (hk : k.length ≤ 100000) (hM : ∀ x ∈ k, x.length ≤ 100000) :
    Calls Tryd.prog 19 #[.slice a k.length cap, .string ⟨#[47]⟩] w fun e w' => e = .returned (.string ⟨(Lib.join k [47]).toArray⟩) ∧ Below w.heap.size w w' := by
  cases k with
  | nil => exact (Tryd.strings_Join_none a cap ⟨#[47]⟩ w).mono fun _ _ ⟨h, h'⟩ => ⟨h, by rw [h']; exact Below.refl _ _⟩
  | cons x k =>
    obtain ⟨g, cap', hv⟩ := ownsRow_succ (k := k.length) hrow
    simp only [Value.slice.injEq] at hv
    obtain ⟨rfl, _, rfl⟩ := hv
    exact join_any base g cap (x :: k) w hrow hk hM

set_option maxRecDepth 100000 in
set_option maxHeartbeats 4000000 in
theorem clean_below (p : Nat → Addr) (s : List UInt8) (w : World) (hE : Env p w) (hs : s.length ≤ 90000) (h : s.head? ≠ some 47) :
    Calls Tryd.prog 8 #[.string ⟨s.toArray⟩] w fun e w' => e = .returned (.tuple #[.string ⟨(cleanL s).1.toArray⟩, errV p (cleanL s).2]) ∧ Below w.heap.size w w' := by
  have hp : Lib.hasPrefix s [47] = false := by rw [hasPrefix_slash]; simpa using h
  have HP : Hid (Lib.hasPrefix s [47] = false) := hp
  have HH : Hid (s.head? ≠ some 47) := h
  have HE : Hid (Env p w) := hE
  clear hp h hE
  obtain ⟨i0, hi, hz0, hz1, hz2⟩ := info_parts Tryd.info9
  refine (callsIn_wide (n := 3)).1 ?_
  refine callsIn_of_wp_marks Tryd.func8 rfl trivial ?_ rfl
  simp only [Tryd.ntmps8, List.size_toArray, List.length_cons, List.length_nil, Nat.reduceAdd, Nat.reduceSub, Array.replicate_succ, Array.replicate_zero, List.push_toArray, List.append_toArray, List.nil_append, List.cons_append]
  gi_wp2_with (refine ⟨trivial, ?_⟩; first | (gi_at_call 16; refine (callsIn_wide.2 (hasPrefix_is s [47] false _ HP.out)).mono ?_; rintro e w' ⟨rfl, rfl⟩) | (gi_at_call 17; refine (callsIn_wide.2 (cut_fn s _)).mono ?_; rintro e w' ⟨rfl, rfl⟩))
  have b0 := Boxed.new w 9 (.string ⟨#[]⟩)
  have b1 := Boxed.new (w.alloc (.cells #[.string ⟨#[]⟩] 9)) 26 .nilIface
  have b2 := Boxed.new ((w.alloc (.cells #[.string ⟨#[]⟩] 9)).alloc (.cells #[.nilIface] 26)) 52 (.slice none 0 0)
  have b3 := Boxed.new (((w.alloc (.cells #[.string ⟨#[]⟩] 9)).alloc (.cells #[.nilIface] 26)).alloc (.cells #[.slice none 0 0] 52)) 9 (.string ⟨s.toArray⟩)
  simp only [World.size_alloc] at b1 b2 b3
  have hB0 : Below w.heap.size w ((((w.alloc (.cells #[.string ⟨#[]⟩] 9)).alloc (.cells #[.nilIface] 26)).alloc (.cells #[.slice none 0 0] 52)).alloc (.cells #[.string ⟨s.toArray⟩] 9)) := ((((Below.refl _ w).alloc (Nat.le_refl _) _).alloc (by simp) _).alloc (by simp; omega) _).alloc (by simp; omega) _
  have hpl := pieces_length s
  refine wpIn_rangeFunc_ownG rfl (by omega) (gf := 27) (lb := #[.pointer (some ⟨w.heap.size + 1 + 1 + 1, 0, none⟩)]) rfl trivial (enters_of Tryd.func27 (by kernel_rfl) rfl)
    (cut_stops _ (by omega) (w.heap.size + 1 + 1 + 1) w.heap.size s (by omega) _ (by simp) b3.cell) belowK_t (belowK_b (by simp; omega)) (Below.refl _ _) (fun _ => rfl)
    (fun pre W => (∃ v, Boxed W (w.heap.size + 1 + 1) 52 v ∧ W.ownsRow (w.heap.size + 1 + 1 + 1) 9 1 v (keptOf pre).length ((keptOf pre).map sv) ∧ codeAt pre = 0) ∧
      ((W.cell? ⟨w.heap.size, 0, none⟩ = some (.string ⟨#[]⟩) ∧ W.frozen? ⟨w.heap.size, 0, none⟩ = false ∧ W.cell? ⟨w.heap.size + 1, 0, none⟩ = some .nilIface ∧ W.frozen? ⟨w.heap.size + 1, 0, none⟩ = false) ∧ Below w.heap.size w W))
    (fun c pre W => (c = .ret ∧ codeAt pre ≠ 0 ∧ W.cell? ⟨w.heap.size, 0, none⟩ = some (.string ⟨#[]⟩) ∧ W.cell? ⟨w.heap.size + 1, 0, none⟩ = some (errV p (codeAt pre))) ∧ Below w.heap.size w W)
    (OwnFrom.and (Own.from (holdsRow_own (w.heap.size + 1 + 1 + 1) (w.heap.size + 1 + 1) 52 9 1 (fun pre => (keptOf pre).length) (fun pre => (keptOf pre).map sv) (fun pre v => codeAt pre = 0)) _)
      (OwnFrom.and (Own.from (fun s A B row hs hg hr => ⟨cell_kept hs.1 hg hr, (frozen_kept hs.1 hg hr).trans hs.2.1, cell_kept hs.2.2.1 hg hr, (frozen_kept hs.2.2.1 hg hr).trans hs.2.2.2⟩) _) (ownFrom_below (Nat.le_refl _) (by simp; omega))))
    (fun c => OwnFrom.and (Own.from (fun s A B row hs hg hr => ⟨hs.1, hs.2.1, cell_kept hs.2.2.1 hg hr, cell_kept hs.2.2.2 hg hr⟩) _) (ownFrom_below (Nat.le_refl _) (by simp; omega)))
    ⟨⟨_, b2.alloc _, World.ownsRow_nil _ _ _ _, rfl⟩, ⟨(((b0.alloc _).alloc _).alloc _).cell, (((b0.alloc _).alloc _).alloc _).frozen, ((b1.alloc _).alloc _).cell, ((b1.alloc _).alloc _).frozen⟩, hB0⟩
    (fun x => { tmps := #[.string ⟨s.toArray⟩, undef, .pointer (some ⟨w.heap.size, 0, none⟩), .pointer (some ⟨w.heap.size + 1, 0, none⟩), .pointer (some ⟨w.heap.size + 1 + 1, 0, none⟩), .string ⟨x.1.toArray⟩, .string ⟨s.toArray⟩, .bool false, undef, .string ⟨s.toArray⟩, .func (.func 27) #[] #[.pointer (some ⟨w.heap.size + 1 + 1 + 1, 0, none⟩)], .string ⟨x.1.toArray⟩, undef, undef, undef, undef, undef, undef, undef, undef, undef, undef, undef, undef, undef, undef, undef, undef, undef, undef, undef, undef, undef, undef, undef, undef, undef, undef, undef, undef, undef, undef, undef, undef, undef, undef], defers := [] }) ?assign ?body ?done ?stop
  case assign =>
    intro l x W K hK
    gi_wp2
    exact hK
  case body =>
    rintro l pre ⟨x, hx⟩ W ⟨⟨v, hv, hrow, hcode⟩, ⟨hc0, hf0, hc1, hf1⟩, hB⟩ hlt
    have hkl := cleanF_length (pre.map (·.1))
    have hkp : (keptOf pre).length ≤ pre.length := by simpa [keptOf] using hkl
    have hlt' : pre.length < 90001 := by omega
    have HE2 : Hid (Env p W) := HE.out.below hB
    have HB : Hid (Below w.heap.size w W) := hB
    have HCO : Hid (codeAt pre = 0) := hcode
    clear hB hkl hcode hlt hpl hB0 b0 b1 b2 b3
    have hc2 := hv.cell
    have hf2 := hv.frozen
    by_cases h0 : x = []
    · subst h0
      obtain ⟨e1, e2⟩ := snoc_of (x := ⟨[], hx⟩) (cleanStep_dot (st := (keptOf pre, codeAt pre)) HCO.out (.inl rfl))
      have HK : Hid (keptOf (pre ++ [⟨[], hx⟩]) = keptOf pre ∧ codeAt (pre ++ [⟨[], hx⟩]) = codeAt pre) := ⟨e1, e2⟩
      clear e1 e2
      gi_wp2
      exact ⟨KeepsFrom.refl _ _, Below.refl _ _, ⟨v, hv, by rw [HK.out.1]; exact hrow, by rw [HK.out.2]; exact HCO.out⟩, ⟨hc0, hf0, hc1, hf1⟩, HB.out⟩
    by_cases h1 : x = [46]
    · subst h1
      obtain ⟨e1, e2⟩ := snoc_of (x := ⟨[46], hx⟩) (cleanStep_dot (st := (keptOf pre, codeAt pre)) HCO.out (.inr rfl))
      have HK : Hid (keptOf (pre ++ [⟨[46], hx⟩]) = keptOf pre ∧ codeAt (pre ++ [⟨[46], hx⟩]) = codeAt pre) := ⟨e1, e2⟩
      clear e1 e2 h0
      gi_wp2
      exact ⟨KeepsFrom.refl _ _, Below.refl _ _, ⟨v, hv, by rw [HK.out.1]; exact hrow, by rw [HK.out.2]; exact HCO.out⟩, ⟨hc0, hf0, hc1, hf1⟩, HB.out⟩
    by_cases h2 : x = [46, 46]
    · subst h2
      clear h0 h1
      by_cases hk : keptOf pre = []
      · obtain ⟨e1, e2⟩ := snoc_of (x := ⟨[46, 46], hx⟩) (cleanStep_out (st := (keptOf pre, codeAt pre)) HCO.out hk)
        have HK : Hid (codeAt (pre ++ [⟨[46, 46], hx⟩]) = 10) := e2
        have hg := HE2.out.s9
        have hgs : ∀ u : Value, (W.setCell ⟨w.heap.size, 0, none⟩ u).cell? ⟨3, 0, none⟩ = some (.iface 121 (.pointer (some (p 9)))) := fun u => (cell_far (by have h : 3 < w.heap.size := block_lt_of_cell HE.out.s9; simp; omega)).trans hg
        rw [hk] at hrow
        obtain ⟨a, cap, rfl⟩ := ownsRow_slice hrow
        clear e1 e2 hk
        gi_wp2
        have hmx : Tryd.prog.follows .mixedOrders = true := by kernel_rfl
        gi_region_o
        all_goals gi_wp2
        all_goals
          obtain ⟨q0, q1, q2, q3⟩ := stored_two (w := w) (x := .string ⟨#[]⟩) (y := .iface 121 (.pointer (some (p 9)))) hc0 hc1 HB.out
          exact ⟨q3.from _, ⟨rfl, by rw [HK.out]; decide, q0, by rw [HK.out]; exact q1⟩, q2⟩
      · obtain ⟨ks, y, hky⟩ : ∃ ks y, keptOf pre = ks ++ [y] := ⟨_, _, (List.dropLast_concat_getLast hk).symm⟩
        obtain ⟨e1, e2⟩ := snoc_of (x := ⟨[46, 46], hx⟩) (cleanStep_up (st := (keptOf pre, codeAt pre)) HCO.out hk)
        simp only [hky, List.dropLast_concat] at e1
        have HK : Hid (keptOf (pre ++ [⟨[46, 46], hx⟩]) = ks ∧ codeAt (pre ++ [⟨[46, 46], hx⟩]) = 0) := ⟨e1, e2⟩
        rw [hky] at hrow hkp
        simp only [List.length_append, List.length_cons, List.length_nil, Nat.zero_add] at hrow hkp
        obtain ⟨g, cap, rfl⟩ := ownsRow_succ hrow
        have hcap : ks.length + 1 ≤ cap ∧ cap ≤ maxLen := by
          rcases hrow.2 with ⟨h, _⟩ | ⟨g', cap', cur, hv', _, _, h1, h2, _⟩
          · cases h
          · cases hv'; exact ⟨h1, h2⟩
        rw [List.map_append] at hrow
        have hpop := ownsRow_pop (by simp) hrow
        have HR : Hid ((W.setCell ⟨w.heap.size + 1 + 1, 0, none⟩ (.slice (some ⟨g, 0, none⟩) ks.length cap)).ownsRow (w.heap.size + 1 + 1 + 1) 9 1 (.slice (some ⟨g, 0, none⟩) ks.length cap) ks.length (ks.map sv)) :=
          hpop.kept (grownBy_setCell' W (w.heap.size + 1 + 1) _) (.inr (hv.not_row (by decide) hpop).symm)
        have HV : Hid (Boxed W (w.heap.size + 1 + 1) 52 (.slice (some ⟨g, 0, none⟩) (ks.length + 1) cap)) := hv
        obtain ⟨hcap1, hcap2⟩ := hcap
        unfold maxLen at hcap2
        clear e1 e2 hk hky hrow hpop hv
        gi_wp2
        refine ⟨(KeepsOthers.setCell _ _ _).from _, (Below.refl w.heap.size W).setCell (p := ⟨w.heap.size + 1 + 1, 0, none⟩) (by simp; omega) _, ⟨_, HV.out.set _, by rw [HK.out.1]; exact HR.out, HK.out.2⟩, ⟨?_, ?_, ?_, ?_⟩, HB.out.setCell (p := ⟨w.heap.size + 1 + 1, 0, none⟩) (by simp; omega) _⟩
        · rw [cell_far (by simp; omega)]; exact hc0
        · rw [World.frozen?_setCell]; exact hf0
        · rw [cell_far (by simp)]; exact hc1
        · rw [World.frozen?_setCell]; exact hf1
    have hb0 : x.isEmpty = false := by simpa using h0
    have hb1 : (x == [46]) = false := by simpa using h1
    have hb2 : (x == [46, 46]) = false := by simpa using h2
    by_cases hp : isPart x = true
    · obtain ⟨e1, e2⟩ := snoc_of (x := ⟨x, hx⟩) (cleanStep_part (st := (keptOf pre, codeAt pre)) HCO.out h0 h1 h2 hp)
      have HK : Hid (keptOf (pre ++ [⟨x, hx⟩]) = keptOf pre ++ [x] ∧ codeAt (pre ++ [⟨x, hx⟩]) = 0) := ⟨e1, e2⟩
      have HPI : Hid (isPart x = true) := hp
      have hBs := HB.out.size
      have hvl := hv.lt
      clear e1 e2 h0 h1 h2 hp
      gi_wp2_with (first | (refine ⟨trivial, ?_⟩; gi_at_call 18; refine (CallsIn.inRound l (callsIn_wide.2 (isPart_is x true _ hx HPI.out))).mono ?_; rintro e w' ⟨rfl, hw'⟩; subst hw') | (gi_at_builtin; refine wpListIn_append_own _ rfl _ _ 52 rfl (w.heap.size + 1 + 1 + 1) 9 i0 (.string ⟨#[]⟩) 1 16 Tryd.underlying52 hi hz0 hz1 hz2 rfl (by decide) _ _ _ rfl (hrow.alloc _) ⟨W.heap.size, 0, none⟩ 1 1 [.string ⟨x.toArray⟩] rfl rfl (cell_one_new _ _ _) (by simp [Value.oneCell']) (by unfold maxLen; omega) (by omega) (by simp; omega) ?_; intro v' w1 hown' hgrow _; obtain ⟨g', cap', rfl⟩ := ownsRow_succ hown'; obtain ⟨hv1, hv2, hr2, hk2, hb2'⟩ := hv.appended (n₀ := w.heap.size) (by decide) (hrow.mono (by omega)) hBs (by omega) (hown'.mono (by omega)) hgrow; have hc3 := hv1.cell; have hf3 := hv1.frozen))
      have hk0 := append_keeps (j := w.heap.size) (B := w.heap.size + 1 + 1) hrow hgrow (by omega) (by omega) (by omega) (.slice (some ⟨g', 0, none⟩) ((keptOf pre).length + 1) cap')
      have hk1 := append_keeps (j := w.heap.size + 1) (B := w.heap.size + 1 + 1) hrow hgrow (by omega) (by omega) (by omega) (.slice (some ⟨g', 0, none⟩) ((keptOf pre).length + 1) cap')
      have hr3 := hown'.kept (grownBy_setCell' w1 (w.heap.size + 1 + 1) (.slice (some ⟨g', 0, none⟩) ((keptOf pre).length + 1) cap')) (.inr (hv1.not_row (by decide) hown').symm)
      refine ⟨hk2.from _, hb2', ⟨_, hv2, by rw [HK.out.1]; simpa using hr3, HK.out.2⟩, ⟨?_, ?_, ?_, ?_⟩, HB.out.trans hb2'⟩
      · exact (World.cell?_of_block hk0).trans hc0
      · exact (World.frozen?_of_block hk0).trans hf0
      · exact (World.cell?_of_block hk1).trans hc1
      · exact (World.frozen?_of_block hk1).trans hf1
    · have hp' : isPart x = false := by simpa using hp
      obtain ⟨e1, e2⟩ := snoc_of (x := ⟨x, hx⟩) (cleanStep_none (st := (keptOf pre, codeAt pre)) HCO.out h0 h1 h2 hp')
      have HK : Hid (codeAt (pre ++ [⟨x, hx⟩]) = 5) := e2
      have HPI : Hid (isPart x = false) := hp'
      have hg := HE2.out.s4
      have hgs : ∀ u : Value, (W.setCell ⟨w.heap.size, 0, none⟩ u).cell? ⟨4, 0, none⟩ = some (.iface 121 (.pointer (some (p 4)))) := fun u => (cell_far (by have h : 4 < w.heap.size := block_lt_of_cell HE.out.s4; simp; omega)).trans hg
      clear e1 e2 h0 h1 h2 hp hp'
      gi_wp2_with (refine ⟨trivial, ?_⟩; gi_at_call 18; refine (CallsIn.inRound l (callsIn_wide.2 (isPart_is x false _ hx HPI.out))).mono ?_; rintro e w' ⟨rfl, hw'⟩; subst hw')
      have hmx : Tryd.prog.follows .mixedOrders = true := by kernel_rfl
      gi_region_o
      all_goals gi_wp2
      all_goals
        obtain ⟨q0, q1, q2, q3⟩ := stored_two (w := w) (x := .string ⟨#[]⟩) (y := .iface 121 (.pointer (some (p 4)))) hc0 hc1 HB.out
        exact ⟨q3.from _, ⟨rfl, by rw [HK.out]; decide, q0, by rw [HK.out]; exact q1⟩, q2⟩
  case done =>
    rintro D ys W hD hys ⟨⟨v, hv, hrow, hcode⟩, ⟨hc0, hf0, hc1, hf1⟩, hB⟩ hK
    have hkeq : keptOf ys = (cleanF (pieces s)).1 := by simp only [keptOf]; rw [hys]
    have hceq : (cleanF (pieces s)).2 = 0 := by rw [← hys]; exact hcode
    rw [hkeq] at hrow
    have hg := (HE.out.below hB).s7
    have hparts := cleanF_parts (pieces s)
    have HCL : Hid (cleanL s = if 6 < (cleanF (pieces s)).1.length then ([], 8) else (Lib.join (cleanF (pieces s)).1 [47], 0)) := by
      show cleanL s = _
      unfold cleanL
      rw [if_neg HH.out, hceq]; simp
    generalize hkk : (cleanF (pieces s)).1 = k at hrow hparts HCL
    clear hkk hkeq hceq hcode hys
    have HB : Hid (Below w.heap.size w W) := hB
    have hgs : ∀ u : Value, (W.setCell ⟨w.heap.size, 0, none⟩ u).cell? ⟨5, 0, none⟩ = some (.iface 121 (.pointer (some (p 7)))) := fun u => (cell_far (by have h : 5 < w.heap.size := block_lt_of_cell HE.out.s7; simp; omega)).trans hg
    have HPT : Hid (∀ x ∈ k, x.length ≤ 100000) := fun x hx => by have := isPart_length (hparts x hx); omega
    obtain ⟨a, cap, rfl⟩ := ownsRow_slice hrow
    have hc2 := hv.cell
    clear hB hparts
    by_cases hl : 6 < k.length
    · have hl' : (6 : Int) < k.length := by omega
      gi_wp2
      have hmx : Tryd.prog.follows .mixedOrders = true := by kernel_rfl
      gi_region_o
      all_goals gi_wp2
      all_goals
        obtain ⟨q0, q1, q2, q3⟩ := stored_two (w := w) (x := .string ⟨#[]⟩) (y := .iface 121 (.pointer (some (p 7)))) hc0 hc1 HB.out
        have hK' := q3.same D _ hK rfl
        refine ⟨by simp, .inl ⟨_, _, rfl, run_takeDeferred hK', ?_⟩⟩
        have hc5 := cell_kept q0 (grownBy_putObj' _ D (.deferred none)) (fun r e => by cases e; exact ⟨_, hK', rfl⟩)
        have hc6 := cell_kept q1 (grownBy_putObj' _ D (.deferred none)) (fun r e => by cases e; exact ⟨_, hK', rfl⟩)
        refine ⟨.tuple #[.string ⟨#[]⟩, .iface 121 (.pointer (some (p 7)))], ?_, by rw [HCL.out, if_pos hl]; rfl, q2.trans (belowK_b (w := w) (Nat.le_refl _) _ D _ _ (by simp at hD; omega) hK' rfl rfl)⟩
        simp [results, Tryd.f8, go_sem, hc5, hc6]
    · have hl' : ¬ (6 : Int) < k.length := by omega
      gi_wp2_with fail
      refine ⟨trivial, (callsIn_wide.2 (join_all (w.heap.size + 1 + 1 + 1) cap a k W hrow (by omega) HPT.out)).mono ?_⟩
      rintro e w3 ⟨rfl, hb3⟩
      have hvl := hv.lt
      have hDl : D < W.heap.size := (Array.getElem?_eq_some_iff.1 hK).1
      have hK3 : w3.heap[D]? = some (.deferred (some [])) := (hb3.block D hDl).trans hK
      have hd0 : w3.cell? ⟨w.heap.size, 0, none⟩ = some (.string ⟨#[]⟩) := (hb3.cell (p := ⟨w.heap.size, 0, none⟩) (by simp; omega)).trans hc0
      have hd1 : w3.cell? ⟨w.heap.size + 1, 0, none⟩ = some .nilIface := (hb3.cell (p := ⟨w.heap.size + 1, 0, none⟩) (by simp; omega)).trans hc1
      have he0 : w3.frozen? ⟨w.heap.size, 0, none⟩ = false := (hb3.frozen (p := ⟨w.heap.size, 0, none⟩) (by simp; omega)).trans hf0
      have he1 : w3.frozen? ⟨w.heap.size + 1, 0, none⟩ = false := (hb3.frozen (p := ⟨w.heap.size + 1, 0, none⟩) (by simp; omega)).trans hf1
      have HB3 : Hid (Below w.heap.size w w3) := HB.out.trans (hb3.mono HB.out.size)
      clear hb3 hK hc0 hc1 hf0 hf1 hc2 hv hrow hg hgs
      gi_wp2
      obtain ⟨q0, q1, q2, q3⟩ := stored_both (w := w) (x := .string ⟨(Lib.join k [47]).toArray⟩) (y := .nilIface) hd0 hd1 HB3.out
      have hK' := q3.same D _ hK3 rfl
      refine ⟨by simp, .inl ⟨_, _, rfl, run_takeDeferred hK', ?_⟩⟩
      have hc5 := cell_kept q0 (grownBy_putObj' _ D (.deferred none)) (fun r e => by cases e; exact ⟨_, hK', rfl⟩)
      have hc6 := cell_kept q1 (grownBy_putObj' _ D (.deferred none)) (fun r e => by cases e; exact ⟨_, hK', rfl⟩)
      refine ⟨.tuple #[.string ⟨(Lib.join k [47]).toArray⟩, .nilIface], ?_, by rw [HCL.out, if_neg hl]; rfl, q2.trans (belowK_b (w := w) (Nat.le_refl _) _ D _ _ (by simp at hD; omega) hK' rfl rfl)⟩
      simp [results, Tryd.f8, go_sem, hc5, hc6]
  case stop =>
    rintro D c pre W hD hpre ⟨⟨rfl, hcode, hcs, hce⟩, hB⟩ hK
    have HC : Hid (cleanL s = ([], codeAt pre)) := by
      show cleanL s = _
      have e := cleanF_prefix hpre hcode
      unfold cleanL
      rw [if_neg HH.out, e]
      exact if_pos hcode
    clear hpre hcode
    gi_wp2
    refine ⟨by simp, .inl ⟨_, _, rfl, run_takeDeferred hK, ?_⟩⟩
    have hc5 := cell_kept hcs (grownBy_putObj' _ D (.deferred none)) (fun r e => by cases e; exact ⟨_, hK, rfl⟩)
    have hc6 := cell_kept hce (grownBy_putObj' _ D (.deferred none)) (fun r e => by cases e; exact ⟨_, hK, rfl⟩)
    refine ⟨.tuple #[.string ⟨#[]⟩, errV p (codeAt pre)], ?_, by rw [HC.out], hB.trans (belowK_b (w := w) (Nat.le_refl _) W D _ _ (by simp at hD; omega) hK rfl rfl)⟩
    simp [results, Tryd.f8, go_sem, hc5, hc6]
end Go.Proofs.YtlofpooobabkjaaDoor
/-
  The law package's coded, told of any error of plain.Code, over this seat's translation.
-/
namespace Go.Proofs.YtlofpooobabkjaaDoor
open Go.RowKit Go.Extern.Stop Go.Stop Go.Extern

end Go.Proofs.YtlofpooobabkjaaDoor
/-
  The law package's coded, told of an error by its number, over this seat's translation.
-/
namespace Go.Proofs.YtlofpooobabkjaaDoor
open Go.RowKit

end Go.Proofs.YtlofpooobabkjaaDoor
/-
  path.Join and path.In answer as the plain functions say: contracts, over this seat's translation.
-/
namespace Go.Proofs.YtlofpooobabkjaaDoor
open Go.RowKit Go.Shelf

theorem clean_any (p : Nat → Addr) (s : List UInt8) (w : World) (hE : Env p w) (hs : s.length ≤ 90000) :
    Calls Tryd.prog 8 #[.string ⟨s.toArray⟩] w fun e w' => e = .returned (.tuple #[.string ⟨(cleanL s).1.toArray⟩, errV p (cleanL s).2]) ∧ Below w.heap.size w w' := by
  by_cases h : s.head? = some 47
  · have e : cleanL s = ([], 3) := by unfold cleanL; rw [if_pos h]
    rw [e]
    exact clean_root p s w hE h
  · exact clean_below p s w hE hs h

theorem check_is (p : Nat → Addr) (s : List UInt8) (k : Nat) (w : World) (hE : Env p w) (hs : s.length ≤ 90000) (h : checkCode s = k) :
    Calls Tryd.prog 34 #[.string ⟨s.toArray⟩] w fun e w' => e = .returned (errV p k) ∧ Below w.heap.size w w' := by
  have := check_any p s w hE hs
  rwa [h] at this

theorem clean_is (p : Nat → Addr) (s c : List UInt8) (k : Nat) (w : World) (hE : Env p w) (hs : s.length ≤ 90000) (h : cleanL s = (c, k)) :
    Calls Tryd.prog 8 #[.string ⟨s.toArray⟩] w fun e w' => e = .returned (.tuple #[.string ⟨c.toArray⟩, errV p k]) ∧ Below w.heap.size w w' := by
  have := clean_any p s w hE hs
  rwa [h] at this

theorem cat_list (a b : List UInt8) : ({ data := a.toArray } : ByteArray) ++ { data := b.toArray } = ⟨(a ++ b).toArray⟩ := by
  apply ByteArray.ext
  simp

theorem clean_ok (p : Nat → Addr) (s c : List UInt8) (w : World) (hE : Env p w) (hs : s.length ≤ 90000) (h : cleanL s = (c, 0)) :
    Calls Tryd.prog 8 #[.string ⟨s.toArray⟩] w fun e w' => e = .returned (.tuple #[.string ⟨c.toArray⟩, .nilIface]) ∧ Below w.heap.size w w' := clean_is p s c 0 w hE hs h
theorem clean_bad (p : Nat → Addr) (s c : List UInt8) (k : Nat) (w : World) (hE : Env p w) (hs : s.length ≤ 90000) (h : cleanL s = (c, k + 1)) :
    Calls Tryd.prog 8 #[.string ⟨s.toArray⟩] w fun e w' => e = .returned (.tuple #[.string ⟨c.toArray⟩, .iface 121 (.pointer (some (p k)))]) ∧ Below w.heap.size w w' := clean_is p s c (k + 1) w hE hs h
theorem check_ok (p : Nat → Addr) (s : List UInt8) (w : World) (hE : Env p w) (hs : s.length ≤ 90000) (h : checkCode s = 0) :
    Calls Tryd.prog 34 #[.string ⟨s.toArray⟩] w fun e w' => e = .returned .nilIface ∧ Below w.heap.size w w' := check_is p s 0 w hE hs h
theorem check_bad (p : Nat → Addr) (s : List UInt8) (k : Nat) (w : World) (hE : Env p w) (hs : s.length ≤ 90000) (h : checkCode s = k + 1) :
    Calls Tryd.prog 34 #[.string ⟨s.toArray⟩] w fun e w' => e = .returned (.iface 121 (.pointer (some (p k)))) ∧ Below w.heap.size w w' := check_is p s (k + 1) w hE hs h

/-- Join of a text below a directory. -/
def joinTo (dir s : List UInt8) : List UInt8 := if dir = [] then s else dir ++ 47 :: s

def isIn (s dir : List UInt8) : Bool := decide (checkCode s = 0) && (dir.isEmpty || Lib.hasPrefix s (dir ++ [47]))

set_option maxHeartbeats 1000000 in
theorem in_any (p : Nat → Addr) (s dir : List UInt8) (w : World) (hE : Env p w) (hs : s.length ≤ 90000) (hd : dir.length ≤ 90000) :
    Calls Tryd.prog 37 #[.string ⟨s.toArray⟩, .string ⟨dir.toArray⟩] w fun e w' => e = .returned (.bool (isIn s dir)) ∧ Below w.heap.size w w' := by
  have HE : Hid (Env p w) := hE
  clear hE
  by_cases hc : checkCode s = 0
  · have HI : Hid (isIn s dir = (dir.isEmpty || Lib.hasPrefix s (dir ++ [47]))) := by
      show isIn s dir = _
      simp [isIn, hc]
    have HC : Hid (checkCode s = 0) := hc
    clear hc
    go_enter Tryd.func37, Tryd.ntmps37
    go_wp2_with fail
    refine (check_is p s 0 _ HE.out hs HC.out).mono ?_
    rintro e w1 ⟨rfl, hb⟩
    have HB : Hid (Below w.heap.size w w1) := hb
    clear hb
    rw [errV_zero]
    by_cases h0 : dir = []
    · subst h0
      go_wp2
      go_ret
      exact ⟨ret_bool (by rw [HI.out]; rfl), HB.out⟩
    · have hb0 : dir.isEmpty = false := by simpa using h0
      have HI' : Hid (Lib.hasPrefix s (dir ++ [47]) = isIn s dir) := by
        show Lib.hasPrefix s (dir ++ [47]) = isIn s dir
        rw [HI.out, hb0]; simp
      clear h0 HI
      go_wp2_with fail
      rw [show ({ data := dir.toArray } : ByteArray) ++ { data := #[47] } = ⟨(dir ++ [47]).toArray⟩ from by
        rw [show ({ data := #[47] } : ByteArray) = ⟨[47].toArray⟩ from rfl, cat_list]]
      refine (hasPrefix_is s (dir ++ [47]) (isIn s dir) _ HI'.out).mono ?_
      rintro e w2 ⟨rfl, rfl⟩
      go_wp2
      go_ret
      exact ⟨rfl, HB.out⟩
  · have HI : Hid (isIn s dir = false) := by
      show isIn s dir = _
      simp [isIn, hc]
    have HC : Hid (checkCode s ≠ 0) := hc
    clear hc
    go_enter Tryd.func37, Tryd.ntmps37
    go_wp2_with fail
    refine (check_is p s _ _ HE.out hs rfl).mono ?_
    rintro e w1 ⟨rfl, hb⟩
    have HB : Hid (Below w.heap.size w w1) := hb
    clear hb
    rw [errV_some p HC.out]
    go_wp2
    go_ret
    exact ⟨ret_bool HI.out.symm, HB.out⟩
end Go.Proofs.YtlofpooobabkjaaDoor
/-
  What is clean stays so and is never outside; what is joined to a place is in it: facts on the plain functions of paths. No Go text is spoken of here.
-/
namespace Go.Proofs.YtlofpooobabkjaaDoor

theorem pieces_app : ∀ (a b : List UInt8), pieces (a ++ 47 :: b) = pieces a ++ pieces b
  | [], b => by simp [pieces]
  | c :: r, b => by
    have ih := pieces_app r b
    by_cases hc : c = 47
    · simp [pieces, hc, ih]
    · have hne := pieces_ne r
      obtain ⟨p, ps, hp⟩ := List.exists_cons_of_ne_nil hne
      simp [pieces, hc, ih, hp]

theorem isPart_noSlash {x : List UInt8} (h : isPart x = true) : 47 ∉ x := by
  intro hx
  simp [isPart] at h
  have := h.2 47 hx
  exact absurd this (by decide)

theorem isPart_ne {x : List UInt8} (h : isPart x = true) : x ≠ [] ∧ x ≠ [46] ∧ x ≠ [46, 46] := by
  simp [isPart] at h
  exact ⟨h.1.1.1.1, h.1.1.2, h.1.2⟩

theorem pieces_part {x : List UInt8} (h : 47 ∉ x) : pieces x = [x] := pieces_none (cutL_no h)

theorem join_two (x : List UInt8) {ks : List (List UInt8)} (h : ks ≠ []) : Lib.join (x :: ks) [47] = x ++ 47 :: Lib.join ks [47] := by
  obtain ⟨y, r, rfl⟩ := List.exists_cons_of_ne_nil h
  rw [Lib.join_cons, Lib.join_cons]
  simp [Lib.joinTail]

theorem pieces_join : ∀ {ks : List (List UInt8)}, ks ≠ [] → (∀ x ∈ ks, isPart x = true) → pieces (Lib.join ks [47]) = ks
  | [], h, _ => absurd rfl h
  | [x], _, h => by rw [Lib.join_one]; exact pieces_part (isPart_noSlash (h x (by simp)))
  | x :: y :: r, _, h => by
    rw [join_two x (by simp), pieces_app, pieces_part (isPart_noSlash (h x (by simp))), pieces_join (ks := y :: r) (by simp) (fun z hz => h z (List.mem_cons_of_mem _ hz))]
    rfl

theorem join_pieces : ∀ l : List UInt8, Lib.join (pieces l) [47] = l
  | [] => by simp [pieces, Lib.join_one]
  | c :: r => by
    have ih := join_pieces r
    have hne := pieces_ne r
    obtain ⟨p, ps, hp⟩ := List.exists_cons_of_ne_nil hne
    by_cases hc : c = 47
    · subst hc
      have e : pieces (47 :: r) = [] :: pieces r := by simp [pieces]
      rw [e, join_two [] hne, ih]; rfl
    · have e : pieces (c :: r) = (c :: p) :: ps := by simp [pieces, hc, hp]
      rw [e, Lib.join_cons]
      rw [hp, Lib.join_cons] at ih
      rw [List.cons_append, ih]

theorem join_app : ∀ {a b : List (List UInt8)}, a ≠ [] → b ≠ [] → Lib.join (a ++ b) [47] = Lib.join a [47] ++ 47 :: Lib.join b [47]
  | [], _, h, _ => absurd rfl h
  | [x], b, _, hb => by rw [Lib.join_one]; exact join_two x hb
  | x :: y :: r, b, _, hb => by
    have ih := join_app (a := y :: r) (b := b) (by simp) hb
    have e1 : Lib.join (x :: (y :: r ++ b)) [47] = x ++ 47 :: Lib.join (y :: r ++ b) [47] := join_two x (by simp)
    rw [List.cons_append, e1, ih, join_two x (by simp)]
    simp

theorem cleanStep_lift (b k0 : List (List UInt8)) (x : List UInt8) (hc : (cleanStep (k0, 0) x).2 = 0) : cleanStep (b ++ k0, 0) x = (b ++ (cleanStep (k0, 0) x).1, 0) := by
  by_cases h1 : x = [] ∨ x = [46]
  · rw [cleanStep_dot (st := (k0, 0)) rfl h1, cleanStep_dot (st := (b ++ k0, 0)) rfl h1]
  by_cases h2 : x = [46, 46]
  · subst h2
    by_cases hk : k0 = []
    · rw [cleanStep_out (st := (k0, 0)) rfl hk] at hc
      cases hc
    · rw [cleanStep_up (st := (k0, 0)) rfl hk, cleanStep_up (st := (b ++ k0, 0)) rfl (by simp [hk])]
      simp only [List.dropLast_append_of_ne_nil hk]
  simp only [not_or] at h1
  by_cases hp : isPart x = true
  · rw [cleanStep_part (st := (k0, 0)) rfl h1.1 h1.2 h2 hp, cleanStep_part (st := (b ++ k0, 0)) rfl h1.1 h1.2 h2 hp]
    simp
  · rw [cleanStep_none (st := (k0, 0)) rfl h1.1 h1.2 h2 (by simpa using hp)] at hc
    cases hc

theorem foldl_lift (b : List (List UInt8)) : ∀ (xs k0 k : List (List UInt8)), xs.foldl cleanStep (k0, 0) = (k, 0) → xs.foldl cleanStep (b ++ k0, 0) = (b ++ k, 0)
  | [], k0, k, h => by simp at h; simp [h]
  | x :: xs, k0, k, h => by
    simp only [List.foldl_cons] at h ⊢
    by_cases hc : (cleanStep (k0, 0) x).2 = 0
    · rw [cleanStep_lift b k0 x hc]
      generalize cleanStep (k0, 0) x = st at h hc
      obtain ⟨k1, c1⟩ := st
      simp only at hc
      subst hc
      exact foldl_lift b xs _ k h
    · rw [cleanStep_stuck _ hc xs] at h
      rw [h] at hc
      exact absurd rfl hc

theorem cleanF_keep {ks : List (List UInt8)} (h : ∀ x ∈ ks, isPart x = true) : cleanF ks = (ks, 0) := by
  have : ∀ (ks k0 : List (List UInt8)), (∀ x ∈ ks, isPart x = true) → ks.foldl cleanStep (k0, 0) = (k0 ++ ks, 0) := by
    intro ks
    induction ks with
    | nil => intro k0 _; simp
    | cons x r ih =>
      intro k0 h
      have hx := h x List.mem_cons_self
      obtain ⟨h0, h1, h2⟩ := isPart_ne hx
      rw [List.foldl_cons, cleanStep_part (st := (k0, 0)) rfl h0 h1 h2 hx, ih _ (fun z hz => h z (List.mem_cons_of_mem _ hz))]
      simp
  have := this ks [] h
  simpa [cleanF] using this

theorem cleanF_app {xs ys kx ky : List (List UInt8)} (hx : cleanF xs = (kx, 0)) (hy : cleanF ys = (ky, 0)) : cleanF (xs ++ ys) = (kx ++ ky, 0) := by
  show (xs ++ ys).foldl cleanStep ([], 0) = _
  rw [List.foldl_append]
  have e : xs.foldl cleanStep ([], 0) = (kx, 0) := hx
  rw [e]
  have := foldl_lift kx ys [] ky hy
  simpa using this

/-- What a clean text is. -/
structure Clean (s c : List UInt8) (ks : List (List UInt8)) : Prop where
  head : s.head? ≠ some 47
  fold : cleanF (pieces s) = (ks, 0)
  parts : ∀ x ∈ ks, isPart x = true
  few : ks.length ≤ 6
  text : c = Lib.join ks [47]

theorem cleanL_ok {s c : List UInt8} (h : cleanL s = (c, 0)) : ∃ ks, Clean s c ks := by
  unfold cleanL at h
  split at h
  · cases h
  · rename_i hh
    split at h
    · rename_i hc
      simp at h
      exact absurd h.2 hc
    · rename_i hc
      split at h
      · cases h
      · rename_i hl
        simp at h hc
        refine ⟨(cleanF (pieces s)).1, hh, ?_, cleanF_parts _, by omega, h.symm⟩
        rw [← hc]

theorem cleanL_of {s c : List UInt8} {ks : List (List UInt8)} (h : Clean s c ks) : cleanL s = (c, 0) := by
  unfold cleanL
  rw [if_neg h.head, h.fold]
  have := h.few
  simp [h.text, show ¬ 6 < ks.length by omega]

theorem cleanL_bad {s c : List UInt8} {k : Nat} (h : cleanL s = (c, k + 1)) : c = [] := by
  unfold cleanL at h
  split at h
  · simp at h; exact h.1
  · split at h
    · simp at h; exact h.1
    · split at h
      · simp at h; exact h.1
      · simp at h

theorem head_join {ks : List (List UInt8)} (h : ∀ x ∈ ks, isPart x = true) : (Lib.join ks [47]).head? ≠ some 47 := by
  cases ks with
  | nil => simp [Lib.join_nil]
  | cons x r =>
    have hx := h x List.mem_cons_self
    obtain ⟨c, y, rfl⟩ := List.exists_cons_of_ne_nil (isPart_ne hx).1
    rw [Lib.join_cons]
    intro e
    simp at e
    exact isPart_noSlash hx (by rw [e]; exact List.mem_cons_self)

theorem join_eq_nil {ks : List (List UInt8)} (h : ∀ x ∈ ks, isPart x = true) (e : Lib.join ks [47] = []) : ks = [] := by
  cases ks with
  | nil => rfl
  | cons x r =>
    have hx := h x List.mem_cons_self
    rw [Lib.join_cons] at e
    simp at e
    exact absurd e.1 (isPart_ne hx).1

/-- What is clean stays so. -/
theorem clean_again {s c : List UInt8} {ks : List (List UInt8)} (h : Clean s c ks) : Clean c c ks := by
  refine ⟨by rw [h.text]; exact head_join h.parts, ?_, h.parts, h.few, h.text⟩
  by_cases hk : ks = []
  · subst hk
    rw [h.text, Lib.join_nil]
    decide
  · rw [h.text, pieces_join hk h.parts, cleanF_keep h.parts]

theorem checkCode_zero {l : List UInt8} : checkCode l = 0 ↔ (∀ x ∈ pieces l, isPart x = true) ∧ (pieces l).length ≤ 6 := by
  unfold checkCode
  split
  · rename_i h
    rw [List.all_eq_true] at h
    split
    · rename_i hl
      simp; intro _; omega
    · rename_i hl
      simp; exact ⟨h, by omega⟩
  · rename_i h
    simp only [List.all_eq_true] at h
    simp
    intro h'
    exact absurd h' h

theorem clean_checked {s c : List UInt8} {ks : List (List UInt8)} (h : Clean s c ks) (hc : c ≠ []) : pieces c = ks ∧ ks ≠ [] := by
  have hk : ks ≠ [] := fun e => hc (by rw [h.text, e, Lib.join_nil])
  exact ⟨by rw [h.text]; exact pieces_join hk h.parts, hk⟩

theorem clean_path {s c : List UInt8} {ks : List (List UInt8)} (h : Clean s c ks) (hc : c ≠ []) : checkCode c = 0 := by
  obtain ⟨e, _⟩ := clean_checked h hc
  rw [checkCode_zero, e]
  exact ⟨h.parts, h.few⟩

/-- No piece of what is clean leads anywhere else. -/
theorem clean_inside {s c : List UInt8} {ks : List (List UInt8)} (h : Clean s c ks) : ∀ x ∈ pieces c, x ≠ [46] ∧ x ≠ [46, 46] ∧ (c ≠ [] → x ≠ []) := by
  by_cases hc : c = []
  · subst hc
    intro x hx
    simp [pieces] at hx
    subst hx
    exact ⟨by simp, by simp, fun h => absurd rfl h⟩
  · obtain ⟨e, _⟩ := clean_checked h hc
    intro x hx
    rw [e] at hx
    obtain ⟨h0, h1, h2⟩ := isPart_ne (h.parts x hx)
    exact ⟨h1, h2, fun _ => h0⟩

theorem path_ne {d : List UInt8} (h : checkCode d = 0) : d ≠ [] := by
  intro e
  subst e
  exact absurd h (by decide)

/-- What is joined to a place. -/
theorem join_below {d s c : List UInt8} {ks : List (List UInt8)} (hd : checkCode d = 0) (h : Clean s c ks) (hc : c ≠ []) :
    cleanL (d ++ 47 :: s) = if 6 < (pieces d).length + ks.length then ([], 8) else (d ++ 47 :: c, 0) := by
  obtain ⟨hdp, hdl⟩ := checkCode_zero.1 hd
  obtain ⟨_, hk⟩ := clean_checked h hc
  have hf : cleanF (pieces (d ++ 47 :: s)) = (pieces d ++ ks, 0) := by
    rw [pieces_app]
    exact cleanF_app (cleanF_keep hdp) h.fold
  have hh : (d ++ 47 :: s).head? ≠ some 47 := by
    have := head_join hdp
    rw [join_pieces] at this
    obtain ⟨x, y, rfl⟩ := List.exists_cons_of_ne_nil (path_ne hd)
    simpa using this
  unfold cleanL
  rw [if_neg hh, hf]
  simp only [ne_eq, not_true_eq_false, if_false, List.length_append]
  split
  · rfl
  · rw [join_app (pieces_ne d) hk, join_pieces, ← h.text]

theorem joined_path {d s c : List UInt8} {ks : List (List UInt8)} (hd : checkCode d = 0) (h : Clean s c ks) (hc : c ≠ []) (hl : (pieces d).length + ks.length ≤ 6) : checkCode (d ++ 47 :: c) = 0 := by
  obtain ⟨hdp, hdl⟩ := checkCode_zero.1 hd
  obtain ⟨e, hk⟩ := clean_checked h hc
  rw [checkCode_zero, pieces_app, e]
  refine ⟨fun x hx => ?_, by simpa using hl⟩
  rcases List.mem_append.1 hx with hx | hx
  · exact hdp x hx
  · exact h.parts x hx

theorem hasPrefix_app (a b : List UInt8) : Lib.hasPrefix (a ++ b) a = true := by
  simp [Lib.hasPrefix]

/-- Parts, each with a slash behind it. -/
def headL (ks : List (List UInt8)) : List UInt8 := (ks.map (· ++ [47])).flatten

theorem headL_snoc (ks : List (List UInt8)) (x : List UInt8) : headL (ks ++ [x]) = headL ks ++ x ++ [47] := by simp [headL]

theorem headL_join : ∀ {a b : List (List UInt8)}, b ≠ [] → headL a ++ Lib.join b [47] = Lib.join (a ++ b) [47]
  | [], b, _ => by simp [headL]
  | x :: a, b, hb => by
    have ih := headL_join (a := a) (b := b) hb
    have e : headL (x :: a) = x ++ 47 :: headL a := by simp [headL]
    rw [e, List.cons_append, join_two x (by simp [hb]), ← ih]
    simp

theorem headL_length {M : Nat} : ∀ {ks : List (List UInt8)}, (∀ x ∈ ks, x.length ≤ M) → (headL ks).length ≤ (M + 1) * ks.length
  | [], _ => by simp [headL]
  | x :: ks, h => by
    have h1 := h x List.mem_cons_self
    have h2 := headL_length (ks := ks) (fun y hy => h y (List.mem_cons_of_mem _ hy))
    have e : headL (x :: ks) = x ++ 47 :: headL ks := by simp [headL]
    rw [e, List.length_append, List.length_cons, List.length_cons, Nat.mul_add]
    omega

/-- What is left of a path is a path. -/
theorem rest_path {s : List UInt8} {n : Nat} (h : checkCode s = 0) (hn : n < (pieces s).length) : pieces (Lib.join ((pieces s).drop n) [47]) = (pieces s).drop n ∧ checkCode (Lib.join ((pieces s).drop n) [47]) = 0 := by
  obtain ⟨hp, hl⟩ := checkCode_zero.1 h
  have hne : (pieces s).drop n ≠ [] := by
    intro e
    have := congrArg List.length e
    rw [List.length_drop] at this
    simp at this
    omega
  have hp' : ∀ x ∈ (pieces s).drop n, isPart x = true := fun x hx => hp x (List.mem_of_mem_drop hx)
  have e := pieces_join hne hp'
  refine ⟨e, ?_⟩
  rw [checkCode_zero, e]
  exact ⟨hp', by rw [List.length_drop]; omega⟩

theorem strip_twice {s : List UInt8} {n m : Nat} (h : checkCode s = 0) (hn : n < (pieces s).length) : stripL (Lib.join ((pieces s).drop n) [47]) m = stripL s ((n : Int) + m) := by
  obtain ⟨e1, e2⟩ := rest_path h hn
  unfold stripL
  rw [e2, e1, h]
  simp only [ne_eq, not_true_eq_false, if_false]
  have e3 : ((n : Int) + m).toNat = n + m := by omega
  have n1 : ¬ (m : Int) < 0 := by omega
  have n2 : ¬ (n : Int) + m < 0 := by omega
  rw [if_neg n1, if_neg n2, List.length_drop, List.drop_drop, e3, Int.toNat_natCast]
  by_cases hl : (pieces s).length ≤ n + m
  · rw [if_pos (by omega), if_pos (by omega)]
  · rw [if_neg (by omega), if_neg (by omega)]

theorem strip_head {s : List UInt8} {n : Nat} (hn : n < (pieces s).length) : headL ((pieces s).take n) ++ Lib.join ((pieces s).drop n) [47] = s := by
  have hne : (pieces s).drop n ≠ [] := by
    intro e
    have := congrArg List.length e
    rw [List.length_drop] at this
    simp at this
    omega
  rw [headL_join hne, List.take_append_drop, join_pieces]
theorem isPart_short {x : List UInt8} (h : isPart x = true) : x.length ≤ 12 := by
  simp [isPart] at h
  omega
theorem join_short : ∀ ks : List (List UInt8), (∀ x ∈ ks, isPart x = true) → (Lib.join ks [47]).length ≤ 13 * ks.length
  | [], _ => by simp [Lib.join_nil]
  | [x], h => by
    have := isPart_short (h x (by simp))
    rw [Lib.join_one]; simp; omega
  | x :: y :: r, h => by
    have h1 := isPart_short (h x (by simp))
    have h2 := join_short (y :: r) fun z hz => h z (List.mem_cons_of_mem _ hz)
    rw [join_two x (by simp)]
    simp at h2 ⊢
    omega
theorem path_short {s : List UInt8} (h : checkCode s = 0) : s.length ≤ 78 := by
  obtain ⟨hp, hl⟩ := checkCode_zero.1 h
  have := join_short (pieces s) hp
  rw [join_pieces] at this
  omega
end Go.Proofs.YtlofpooobabkjaaDoor
