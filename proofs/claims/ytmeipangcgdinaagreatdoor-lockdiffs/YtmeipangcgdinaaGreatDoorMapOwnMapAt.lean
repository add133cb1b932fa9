/-
  Own texts of the proof, joined by program: MapOwn, MapAt.
-/
import Derived.Test.YtmeipangcgdinaaGreatDoorKeptNetRow
import Derived.Maps.OwnSet
/-
  Maps in memory: elements read as themselves; what a map that has turned leaves: over any program: no Go text.
-/
namespace Go.Proofs.YtmeipangcgdinaaGreatDoor
open Go.RowKit Go.Maps

/-- An element, read as itself. -/
def asIs (v : Value) : Option (DataW Value × List MemPlace) := some (.held v, [])
theorem asIs_eq {v : Value} {d : DataW Value} {ps : List MemPlace} (h : asIs v = some (d, ps)) : d = .held v := by
  simp only [asIs, Option.some.injEq, Prod.mk.injEq] at h
  exact h.1.symm

theorem owns_tight {H : Type} {P : Program} {w : World} {k : TypeId} {R : Value → Option (DataW H × List MemPlace)} {b n : Nat} {D : DataW H} (h : w.ownsMap P k R b n D) : w.ownsMap P k R b (Maps.size D) D := by
  obtain ⟨es, clock, hb, F, hs, rfl⟩ := h
  exact ⟨es, clock, hb, F, by simp [Maps.size, length_sorted], rfl⟩

section
variable {w : World} {b : Nat}
theorem turned_kept {w' : World} (h : w.mapTurned w' b) : Kept (fun g => g = b) w w' := ⟨h.grown.size, fun g hg hne => h.grown.block g hg (fun e => hne (by cases e; rfl))⟩
theorem turned_below {w' : World} (h : w.mapTurned w' b) {B : Nat} (hB : B ≤ b) (hBw : B ≤ w.heap.size) : Below B w w' := (Below.refl B w).grown h.grown hBw (fun j e => by cases e; exact hB)
end
end Go.Proofs.YtmeipangcgdinaaGreatDoor
/-
  A map keyed by texts, in memory: what is at each key, and how many there are; looked up, stored into, struck from: laws at the operation: no Go text.
-/
namespace Go.Proofs.YtmeipangcgdinaaGreatDoor
open Go.RowKit Go.Maps

/-- Block b is a map keyed by texts: n of them; f tells what is at each. -/
def MapAt (P : Program) (w : World) (k : TypeId) (b n : Nat) (f : List UInt8 → Option Value) : Prop :=
  ∃ M : DataW Value, w.ownsMap P k asIs b n M ∧ Maps.size M = n ∧ ∀ u z, M.atKey (.string u) z = match f u with | some v => .held v | none => z

section
variable {P : Program} {w : World} {k : TypeId} {b n : Nat} {f : List UInt8 → Option Value}

theorem MapAt.lt (h : MapAt P w k b n f) : b < w.heap.size := by
  obtain ⟨M, h, _⟩ := h
  exact h.lt
theorem MapAt.kept {w' : World} (h : MapAt P w k b n f) (e : w'.heap[b]? = w.heap[b]?) : MapAt P w' k b n f := by
  obtain ⟨M, ⟨es, clock, hb, r⟩, h2⟩ := h
  exact ⟨M, ⟨es, clock, e.trans hb, r⟩, h2⟩
theorem MapAt.setCell (h : MapAt P w k b n f) {a : Addr} (ha : b ≠ a.block) (u : Value) : MapAt P (w.setCell a u) k b n f := by
  obtain ⟨M, h1, h2⟩ := h
  exact ⟨M, h1.setCell ha u, h2⟩
theorem MapAt.alloc (h : MapAt P w k b n f) (o : Obj) : MapAt P (w.alloc o) k b n f := by
  obtain ⟨M, h1, h2⟩ := h
  exact ⟨M, h1.alloc o, h2⟩
theorem MapAt.below {w' : World} (h : MapAt P w k b n f) (hb : Below w.heap.size w w') : MapAt P w' k b n f := h.kept (hb.block b h.lt)
theorem MapAt.new (P : Program) (w : World) (k : TypeId) : MapAt P (w.alloc (.map #[] 0)) k w.heap.size 0 (fun _ => none) :=
  ⟨.map [], World.ownsMap_made w P k asIs, rfl, fun _ _ => rfl⟩
/-- No block of cells. -/
theorem MapAt.no_cell (h : MapAt P w k b n f) (j : Nat) : w.cell? ⟨b, j, none⟩ = none := by
  obtain ⟨M, ⟨es, clock, hb, _⟩, _⟩ := h
  simp [World.cell?, hb]
theorem MapAt.apart (h : MapAt P w k b n f) {g j : Nat} {v : Value} (hc : w.cell? ⟨g, j, none⟩ = some v) : b ≠ g := fun e => by
  subst e
  rw [h.no_cell] at hc
  cases hc

theorem MapAt.has {M : DataW Value} (h : ∀ u z, M.atKey (.string u) z = match f u with | some v => .held v | none => z) (u : List UInt8) : Maps.has M (.string u) = (f u).isSome := by
  cases e : f u with
  | none => exact Maps.has_false_of_atKey fun z => by rw [h, e]
  | some v => exact Maps.has_true_of_atKey (y := .held v) fun z => by rw [h, e]

/-- Looked up: what is there, and whether it is. -/
theorem MapAt.look {t e : TypeId} (h : MapAt P w k b n f) (hk : P.underlying k = some .string) (ht : P.underlying t = some (.map k e)) {z : Value} (hz : (zeroValue e).run P w = .ok z w) (u : List UInt8) (hu : u.length ≤ 100000) :
    (Instr.lookup t (.map (some b)) (.string ⟨u.toArray⟩) true).run P w = .ok (.tuple #[(f u).getD z, .bool (f u).isSome]) w := by
  obtain ⟨M, h1, _, h3⟩ := h
  have hkey : keyOf P k (.string ⟨u.toArray⟩) = some (.string u) := WideMaps.keyOf_string_mk hk (s := ⟨u.toArray⟩) (by simp [ByteArray.size, maxLen]; omega)
  obtain ⟨v, ps, hrun, hv⟩ := h1.look_ok (string_keyed hk) ht hz (zd := .held z) (zp := []) rfl hkey
  rw [hrun, MapAt.has h3]
  have hd := asIs_eq hv
  rw [h3] at hd
  cases e : f u with
  | none => rw [e] at hd; cases hd; rfl
  | some x => rw [e] at hd; cases hd; rfl

/-- Stored into, as a run. -/
theorem MapAt.store {t e : TypeId} (h : MapAt P w k b n f) (hk : P.underlying k = some .string) (ht : P.underlying t = some (.map k e)) (hn : n < maxLen) (u : List UInt8) (hu : u.length ≤ 100000) (val : Value) :
    ∃ w', (Instr.mapUpdate t (.map (some b)) (.string ⟨u.toArray⟩) val).run P w = .ok () w' ∧ MapAt P w' k b (if (f u).isSome then n else n + 1) (fun q => if q = u then some val else f q) ∧ w.mapTurned w' b := by
  obtain ⟨M, h1, h2, h3⟩ := h
  have hkey : keyOf P k (.string ⟨u.toArray⟩) = some (.string u) := WideMaps.keyOf_string_mk hk (s := ⟨u.toArray⟩) (by simp [ByteArray.size, maxLen]; omega)
  have ht' := h1.tidy (string_keyed hk)
  obtain ⟨w', hrun, r1, r2⟩ := h1.store (string_keyed hk) ht hn (val := val) (d := .held val) (ps := []) hkey rfl
  have hsz : Maps.size (M.put (.string u) (.held val)) = if (f u).isSome then n else n + 1 := by rw [Maps.size_put ht', MapAt.has h3, h2]
  refine ⟨w', hrun, ⟨_, hsz ▸ owns_tight r1, hsz, fun q z => ?_⟩, r2⟩
  by_cases hq : q = u
  · subst hq
    rw [Maps.atKey_put_same (k := .string q) ht'.isMap trivial]
    simp
  · rw [Maps.atKey_put_other (fun e => hq (by cases e; rfl)), h3]
    simp [hq]
theorem MapAt.drew (h : MapAt P w k b n f) : MapAt P w.drew k b n f := h

variable {ops : Array Oper} {rest : List Oper} {o : Oper} {a : Act} {Q : Exit → Act → World → Prop}

/-- 'v, ok := m[k]', at the operation. -/
theorem wpList_look (hg : o.guard = none) (m x : Operand) (t : TypeId) (hop : o.op = Op.lookup t m x true) (k e : TypeId) (hk : P.underlying k = some .string) (ht : P.underlying t = some (.map k e)) {z : Value} (hz : (zeroValue e).run P w = .ok z w)
    (b n : Nat) (f : List UInt8 → Option Value) (hm : a.eval m = .map (some b)) (h : MapAt P w k b n f) (u : List UInt8) (hx : a.eval x = .string ⟨u.toArray⟩) (hu : u.length ≤ 100000) (v : Value) (c : Bool) (hv : (f u).getD z = v) (hc : (f u).isSome = c)
    (hK : wpList P ops Q rest (a.put o.dst (.tuple #[v, .bool c])) w) : wpList P ops Q (o :: rest) a w := by
  refine wpList_plain hg fun K' hK' => ?_
  have hrun := h.look hk ht hz u hu
  rw [hv, hc] at hrun
  unfold Oper.wp
  simp [execOp, hop, hm, hx, hrun, Result.andThen]
  exact hK' _ _ hK

/-- 'm[k] = v', at the operation. -/
theorem wpList_put (hg : o.guard = none) (m x v : Operand) (t : TypeId) (hop : o.op = Op.mapUpdate t m x v) (k e : TypeId) (hk : P.underlying k = some .string) (ht : P.underlying t = some (.map k e))
    (b n : Nat) (f : List UInt8 → Option Value) (hm : a.eval m = .map (some b)) (h : MapAt P w k b n f) (hn : n < maxLen) (u : List UInt8) (hx : a.eval x = .string ⟨u.toArray⟩) (hu : u.length ≤ 100000) (val : Value) (hv : a.eval v = val)
    (hK : ∀ w', MapAt P w' k b (if (f u).isSome then n else n + 1) (fun q => if q = u then some val else f q) → w.mapTurned w' b → wpList P ops Q rest (a.put o.dst undef) w') : wpList P ops Q (o :: rest) a w := by
  obtain ⟨w', hrun, r1, r2⟩ := h.store hk ht hn u hu val
  refine wpList_plain hg fun K' hK' => ?_
  unfold Oper.wp
  simp [execOp, hop, hm, hx, hv, hrun, Result.andThen]
  exact hK' _ _ (hK w' r1 r2)

/-- 'delete(m, k)', at the operation. -/
theorem wpList_strike (hg : o.guard = none) (m x : Operand) (t k : TypeId) (hop : o.op = Op.call { callee := Callee.builtin Builtin.delete, args := #[m, x], argTypes := #[t, k] }) (e : TypeId) (hk : P.underlying k = some .string) (ht : P.underlying t = some (.map k e))
    (b n : Nat) (f : List UInt8 → Option Value) (hm : a.eval m = .map (some b)) (h : MapAt P w k b n f) (u : List UInt8) (hx : a.eval x = .string ⟨u.toArray⟩) (hu : u.length ≤ 100000)
    (hK : ∀ w', MapAt P w' k b (if (f u).isSome then n - 1 else n) (fun q => if q = u then none else f q) → w.mapTurned w' b → wpList P ops Q rest (a.put o.dst (.tuple #[])) w') : wpList P ops Q (o :: rest) a w := by
  obtain ⟨M, h1, h2, h3⟩ := h
  have hkey : keyOf P k (.string ⟨u.toArray⟩) = some (.string u) := WideMaps.keyOf_string_mk hk (s := ⟨u.toArray⟩) (by simp [ByteArray.size, maxLen]; omega)
  have ht' := h1.tidy (string_keyed hk)
  refine wpList_delete_own w hg m x t k hop e (string_keyed hk) ht asIs b n M hm h1 _ _ hx hkey fun w' r1 r2 => ?_
  have hsz : Maps.size (M.del (.string u)) = if (f u).isSome then n - 1 else n := by
    have := Maps.size_del (k := .string u) ht'
    rw [MapAt.has h3, h2] at this
    cases e : (f u).isSome <;> simp [e] at this ⊢ <;> omega
  refine hK w' ⟨_, hsz ▸ owns_tight r1, hsz, fun q z => ?_⟩ r2
  by_cases hq : q = u
  · subst hq
    rw [Maps.atKey_del_same]
    simp
  · rw [Maps.atKey_del_other (fun e => hq (by cases e; rfl)), h3]
    simp [hq]

/-- 'len(m)', at the operation. -/
theorem wpList_count (hg : o.guard = none) (m : Operand) (t : TypeId) (hop : o.op = Op.call { callee := Callee.builtin Builtin.len, args := #[m], argTypes := #[t] }) (k e : TypeId) (ht : P.underlying t = some (.map k e))
    (b n : Nat) (f : List UInt8 → Option Value) (hm : a.eval m = .map (some b)) (h : MapAt P w k b n f) (hK : wpList P ops Q rest (a.put o.dst (.int .i64 n)) w) : wpList P ops Q (o :: rest) a w := by
  obtain ⟨M, h1, h2, h3⟩ := h
  subst h2
  exact wpList_len_own w hg m t hop k e ht asIs b _ M hm h1 hK

/-- .. where it is guarded. -/
theorem wpList_count_wanted (hw : Region.wanted o (yielded ops a.tmps) = true) (m : Operand) (t : TypeId) (hop : o.op = Op.call { callee := Callee.builtin Builtin.len, args := #[m], argTypes := #[t] }) (k e : TypeId) (ht : P.underlying t = some (.map k e))
    (b n : Nat) (f : List UInt8 → Option Value) (hm : a.eval m = .map (some b)) (h : MapAt P w k b n f) (hK : wpList P ops Q rest (a.put o.dst (.int .i64 n)) w) : wpList P ops Q (o :: rest) a w := by
  obtain ⟨M, h1, h2, h3⟩ := h
  subst h2
  refine wpList_step fun K' hK' => ?_
  rw [if_pos hw]
  unfold Oper.wp
  simp [execOp, hop, resolve, invoke, builtin, hm, h1.len ht o.type, Result.andThen]
  exact hK' _ _ hK

end
end Go.Proofs.YtmeipangcgdinaaGreatDoor
