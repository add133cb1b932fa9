/-
  Own texts of the proof, joined by program: RangeBox, MapRange.
-/
import Derived.RangeFuncWrites
import Derived.RangeFuncNested
import Derived.RangeFuncBox
import Derived.Test.YtmeipangcgdinaaGreatDoorMapOwnMapAt
import Derived.Maps.RangeWalk
/-
  A range over a function whose value holds one variable of its own, which it writes between two rounds: the contract of such a function, and the statement over it: no Go text.
-/
namespace Go.Proofs.YtmeipangcgdinaaGreatDoor
open Go.RowKit

/-- J stays where memory grows, and block box alone is written. -/
def StaysBox {β : Type} (box : Nat) (J : β → World → Prop) : Prop := ∀ s W W' row, J s W → W.grownBy W' row → (∀ r, row = some r → r = box) → J s W'
/-- I stays, too, where a block from B on is turned that holds no cells. -/
def StaysOwn {β : Type} (B box : Nat) (I : β → World → Prop) : Prop :=
  ∀ s W W' row, I s W → W.grownBy W' row → (∀ r, row = some r → r = box ∨ B ≤ r ∧ ∃ o : Obj, W.heap[r]? = some o ∧ o.isCells = false) → I s W'
theorem StaysOwn.and {β : Type} {B box : Nat} {I I' : β → World → Prop} (h : StaysOwn B box I) (h' : StaysOwn B box I') : StaysOwn B box (fun s W => I s W ∧ I' s W) := fun s W W' row hs hg hr => ⟨h s W W' row hs.1 hg hr, h' s W W' row hs.2 hg hr⟩
theorem StaysOwn.box {β : Type} {B box : Nat} {I : β → World → Prop} (h : StaysOwn B box I) : StaysBox box I := fun s W W' row hs hg hr => h s W W' row hs hg fun r e => .inl (hr r e)
theorem StaysOwn.put {β : Type} {B box : Nat} {I : β → World → Prop} (h : StaysOwn B box I) {s : β} {W : World} {l : Nat} {o : Obj} (o' : Obj) (hs : I s W) (hB : B ≤ l) (hl : W.heap[l]? = some o) (ho : o.isCells = false) : I s (W.putObj l o') :=
  h s W _ (some l) hs (grownBy_putObj' W l o') fun r e => by cases e; exact .inr ⟨hB, o, hl, ho⟩
theorem StaysOwn.alloc {β : Type} {B box : Nat} {I : β → World → Prop} (h : StaysOwn B box I) {s : β} {W : World} (o : Obj) (hs : I s W) : I s (W.alloc o) :=
  h s W _ none hs (World.grownBy_alloc W o none) fun r e => by cases e

/-- A variable's box, a row of one's own, and what lies below stay. -/
theorem boxed_stays {W W' : World} {row : Option Nat} {B b box : Nat} {t : TypeId} {v : Value} (h : Boxed W b t v) (hg : W.grownBy W' row) (hr : ∀ r, row = some r → r = box ∨ B ≤ r ∧ ∃ o : Obj, W.heap[r]? = some o ∧ o.isCells = false) (hne : b ≠ box) : Boxed W' b t v :=
  h.kept hg fun e => by
    rcases hr b e.symm with e2 | ⟨_, o, ho, hc⟩
    · exact hne e2
    · rw [show W.heap[b]? = _ from h] at ho; cases ho; cases hc
theorem row_stays {W W' : World} {row : Option Nat} {B base box : Nat} {e : TypeId} {size n : Nat} {v : Value} {xs : List Value} (h : W.ownsRow base e size v n xs) (hg : W.grownBy W' row) (hr : ∀ r, row = some r → r = box ∨ B ≤ r ∧ ∃ o : Obj, W.heap[r]? = some o ∧ o.isCells = false) (hb : box < base) : W'.ownsRow base e size v n xs := by
  refine h.kept hg ?_
  rcases h.2 with ⟨rfl, _⟩ | ⟨g, cap, cur, rfl, hgb, hgo, _⟩
  · exact .inl rfl
  · refine .inr fun e' => ?_
    rcases hr g (by simpa [Value.ownBlock] using e'.symm) with e2 | ⟨_, o, ho, hc⟩
    · omega
    · rw [hgo] at ho; cases ho; cases hc
theorem stays_below {β : Type} {n B box : Nat} {w : World} (hn : n ≤ w.heap.size) (hB : n ≤ B) (hx : n ≤ box) : StaysOwn B box (fun (_ : β) W => Below n w W) :=
  fun _ _ _ _ hs hg hr => hs.grown hg (Nat.le_trans hn hs.size) fun k e => by
    rcases hr k e with e2 | ⟨h, _⟩
    · omega
    · omega

/-- What a function value does that hands rows of values over, one by one: R tells which beginnings there are, S which wholes. What a round leaves of its box is what it found there. -/
def SeqBox {α : Type} (F : Fence) (n : Nat) (P : Program) (g : Nat) (lb : Array Value) (box : Nat) (encs : α → Array Value) (S R : List α → Prop) (w : World) : Prop :=
  ∀ (l : Nat) (J Jx : List α → World → Prop) (W : World), Below w.heap.size w W → StaysBox box J → StaysBox box Jx →
    (∀ pre x W1, J pre W1 → R (pre ++ [x]) → YieldAt F (n - 1) P l (encs x) W1 fun e W' =>
      (e = .returned (.bool true) ∧ J (pre ++ [x]) W' ∧ W'.heap[box]? = W1.heap[box]?) ∨ (e = .returned (.bool false) ∧ Jx (pre ++ [x]) W')) →
    J [] W →
    CallsIn F n P g (#[.func (.yield l) #[] #[]] ++ lb) W fun e W' => (∃ v, e = .returned v) ∧ ((∃ xs, S xs ∧ J xs W') ∨ (∃ pre, R pre ∧ Jx pre W'))

/-- How a round may end. -/
def boxPost {α : Type} (B box : Nat) (I : List α → World → Prop) (Ix : Code → List α → World → Prop) (xs : List α) (W : World) : Exit → Act → World → Prop
  | .normal, _, W' => KeepsFrom B W W' ∧ W'.heap[box]? = W.heap[box]? ∧ I xs W'
  | .ret, _, W' => KeepsFrom B W W' ∧ Ix .ret xs W'
  | .exit id, _, W' => KeepsFrom B W W' ∧ Ix (.exit id) xs W'
  | .goto t, _, W' => KeepsFrom B W W' ∧ Ix (.goto t) xs W'
  | .panic _, _, _ => False
  | .outgrown, _, _ => False

/-- What lies at a place that is not the box stays. -/
theorem box_other {A B : World} {row : Option Nat} {box k : Nat} {o : Obj} (hg : A.grownBy B row) (hr : ∀ r, row = some r → r = box) (hk : A.heap[k]? = some o) (hne : k ≠ box) : B.heap[k]? = some o :=
  (hg.block k (Array.getElem?_eq_some_iff.1 hk).1 fun e => hne (hr k e.symm)).trans hk

variable {F : Fence} {n : Nat} {P : Program}
/-- The statement: two blocks are laid, the function is called, each round is the body. -/
theorem wpIn_rangeBox {α : Type} {g : Operand} {ps : Array Tmp} {assign body : Code} {Q : Exit → Act → World → Prop} {a : Act} {w : World}
    (hro : F.round = none) (h1 : 1 ≤ n) {gf : Nat} {lb : Array Value} (hg : a.eval g = .func (.func gf) #[] lb) (hFg : F.fn gf) (eg : ∀ args w, (callFunc gf args).run P w = .ok (.enter gf args) w)
    {box : Nat} (hbx : box < w.heap.size) {encs : α → Array Value} {S R : List α → Prop} {w0 : World} (hseq : SeqBox F (n - 1) P gf lb box encs S R w0) (hb0 : Below w0.heap.size w0 w) (hps : ∀ x, (encs x).size = ps.size)
    (I : List α → World → Prop) (Ix : Code → List α → World → Prop) (hI : StaysOwn w.heap.size box I) (hIx : ∀ c, StaysOwn w.heap.size box (Ix c)) (h0 : I [] w) (a₁ : α → Act)
    (hassign : ∀ (l : Nat) (x : α) (W : World) (K : Act → World → Prop), K (a₁ x) W →
      assign.wpIn (F.inRound l) (n - 1 - 1) P (Exit.then K (fun _ _ _ => False)) { tmps := (ps.zip (encs x)).foldl (fun t (p, v) => t.setIfInBounds p v) a.tmps, defers := [] } W)
    (hbody : ∀ (l : Nat) (pre : List α) (x : α) (W : World), I pre W → R (pre ++ [x]) → body.wpIn (F.inRound l) (n - 1 - 1) P (boxPost w.heap.size box I Ix (pre ++ [x]) W) (a₁ x) W)
    (hdone : ∀ (D : Nat) (xs : List α) (W : World), w.heap.size ≤ D → S xs → I xs W → W.heap[D]? = some (.deferred (some [])) → Q .normal { a with defers := { target := .collected D, args := #[] } :: a.defers } W)
    (hstop : ∀ (D : Nat) (c : Code) (pre : List α) (W : World), w.heap.size ≤ D → R pre → Ix c pre W → W.heap[D]? = some (.deferred (some [])) → c.wpIn F n P Q { a with defers := { target := .collected D, args := #[] } :: a.defers } W) :
    (Code.rangeFunc g ps assign body).wpIn F n P Q a w := by
  refine wpIn_rangeFunc fun fn hfn => ?_
  rw [hro]
  generalize hz : w.heap.size = z at *
  obtain ⟨rec, hrec⟩ : ∃ rec : LoopState → Option Code → Loop, rec = fun st pe => { state := st, pending := pe, fn, tmps := a.tmps, params := ps, assign, body, defers := z } := ⟨_, rfl⟩
  obtain ⟨W1, hW1⟩ : ∃ W1, (w.alloc (.deferred (some []))).alloc (.loop (rec .ready none)) = W1 := ⟨_, rfl⟩
  have hz1 : (w.alloc (.deferred (some []))).heap.size = z + 1 := by rw [World.size_alloc, hz]
  have hL1 : W1.heap[z + 1]? = some (.loop (rec .ready none)) := by
    have := World.alloc_heap_new (w.alloc (.deferred (some []))) (.loop (rec .ready none))
    rwa [hz1, hW1] at this
  have hD1 : W1.heap[z]? = some (.deferred (some [])) := by
    have := World.alloc_heap_new w (.deferred (some []))
    rw [hz] at this
    rw [← hW1, Below.heap_alloc _ _ _ (by omega)]
    exact this
  have hI1 : I [] W1 := by rw [← hW1]; exact hI.alloc _ (hI.alloc _ h0)
  have hb1 : Below w0.heap.size w0 W1 := by
    rw [← hW1]
    exact (hb0.alloc hb0.size _).alloc (by have := hb0.size; omega) _
  refine ⟨z + 1, [{ target := .collected z, args := #[] }], W1, { target := .fn (.func gf) lb, args := #[.func (.yield (z + 1)) #[] #[]] }, W1, gf, #[.func (.yield (z + 1)) #[] #[]] ++ lb, W1, ?_, ?_, ?_, ?_, fun _ => h1, ?_⟩
  · rw [← hW1, hrec, ← hz]; exact run_enterLoop_outer _ _ _ _ _
  · simp only [resolve, hg]
    simp [go_sem]
  · intro f' hf'
    simp [Target.leads] at hf'
    subst hf'
    exact hFg
  · simp [invoke, go_sem, eg]
  -- how a round's end is told to the loop
  have fin : ∀ (jump : Option Code) (W2 W3 : World), KeepsFrom z W2 W3 → W2.heap[z + 1]? = some (.loop { rec .ready none with state := .busy }) → W2.heap[z]? = some (.deferred (some [])) →
      ∃ W4, W4 = W3.putObj (z + 1) (.loop (rec (if jump.isNone then .ready else .done) jump)) ∧ (Instr.endRound (z + 1) jump).run P W3 = .ok (.bool jump.isNone) W4 ∧ W3.heap[z + 1]? = some (.loop { rec .ready none with state := .busy }) ∧
        W4.heap[z + 1]? = some (.loop (rec (if jump.isNone then .ready else .done) jump)) ∧ W4.heap[z]? = some (.deferred (some [])) := fun jump W2 W3 hk hl hd => by
    have hl3 := hk.same _ _ (by omega) hl rfl
    have hd3 := hk.same _ _ (Nat.le_refl _) hd rfl
    have hrun := run_endRound (P := P) jump hl3
    rw [hrec] at hrun hl3 ⊢
    exact ⟨_, rfl, hrun, hl3, World.putObj_heap_same (Array.getElem?_eq_some_iff.1 hl3).1, (World.putObj_heap_other (by omega)).trans hd3⟩
  refine (hseq (z + 1) (fun pre W => I pre W ∧ W.heap[z + 1]? = some (.loop (rec .ready none)) ∧ W.heap[z]? = some (.deferred (some [])))
    (fun pre W => ∃ c, Ix c pre W ∧ W.heap[z + 1]? = some (.loop (rec .done (some c))) ∧ W.heap[z]? = some (.deferred (some []))) W1 hb1
    (fun s A B row hs hg' hr => ⟨hI.box s A B row hs.1 hg' hr, box_other hg' hr hs.2.1 (by omega), box_other hg' hr hs.2.2 (by omega)⟩)
    (fun s A B row hs hg' hr => by obtain ⟨c, hc, hl, hd⟩ := hs; exact ⟨c, (hIx c).box s A B row hc hg' hr, box_other hg' hr hl (by omega), box_other hg' hr hd (by omega)⟩)
    ?_ ⟨hI1, hL1, hD1⟩).mono ?_
  · rintro pre x W ⟨hi, hl, hd⟩ hR
    have hlt : z + 1 < W.heap.size := (Array.getElem?_eq_some_iff.1 hl).1
    have hy := run_yield (P := P) (args := encs x) hl (by rw [hrec]; exact hps x)
    rw [hrec] at hy
    refine ⟨fn, _, assign, body, hy, roundIn_of_wpIn hfn (hassign _ x W _ ⟨_, run_beginRound hl (by rw [hrec]), ?_⟩)⟩
    generalize hW2 : W.putObj (z + 1) (.loop { rec .ready none with state := .busy }) = W2
    have hl2 : W2.heap[z + 1]? = some (.loop { rec .ready none with state := .busy }) := by rw [← hW2]; exact World.putObj_heap_same hlt
    have hd2 : W2.heap[z]? = some (.deferred (some [])) := by rw [← hW2]; exact (World.putObj_heap_other (by omega)).trans hd
    have hx2 : W2.heap[box]? = W.heap[box]? := by rw [← hW2]; exact World.putObj_heap_other (by omega)
    have hi2 : I pre W2 := by rw [← hW2]; exact hI.put _ hi (by omega) hl rfl
    refine wpIn_mono (hbody _ pre x W2 hi2 hR) ?_
    rintro e a3 W3 hp
    cases e with
    | normal =>
      obtain ⟨hk, hx, hi3⟩ := hp
      obtain ⟨W4, rfl, hrun, hl3, hl4, hd4⟩ := fin none W2 W3 hk hl2 hd2
      exact ⟨_, _, hrun, .inl ⟨rfl, ⟨hI.put _ hi3 (by omega) hl3 rfl, hl4, hd4⟩, ((World.putObj_heap_other (by omega)).trans hx).trans hx2⟩⟩
    | ret =>
      obtain ⟨hk, hi3⟩ := hp
      obtain ⟨W4, rfl, hrun, hl3, hl4, hd4⟩ := fin (some .ret) W2 W3 hk hl2 hd2
      exact ⟨_, _, hrun, .inr ⟨rfl, .ret, (hIx _).put _ hi3 (by omega) hl3 rfl, hl4, hd4⟩⟩
    | exit id =>
      obtain ⟨hk, hi3⟩ := hp
      obtain ⟨W4, rfl, hrun, hl3, hl4, hd4⟩ := fin (some (.exit id)) W2 W3 hk hl2 hd2
      exact ⟨_, _, hrun, .inr ⟨rfl, .exit id, (hIx _).put _ hi3 (by omega) hl3 rfl, hl4, hd4⟩⟩
    | goto t =>
      obtain ⟨hk, hi3⟩ := hp
      obtain ⟨W4, rfl, hrun, hl3, hl4, hd4⟩ := fin (some (.goto t)) W2 W3 hk hl2 hd2
      exact ⟨_, _, hrun, .inr ⟨rfl, .goto t, (hIx _).put _ hi3 (by omega) hl3 rfl, hl4, hd4⟩⟩
    | panic ch => exact hp.elim
    | outgrown => exact hp.elim
  · rintro e W2 ⟨⟨v, rfl⟩, ⟨xs, hS, hi, hl, hd⟩ | ⟨pre, hR, c, hi, hl, hd⟩⟩
    · have hrun := run_endLoop (P := P) hl (by rw [hrec]; simp)
      rw [hrec] at hrun
      exact ⟨none, _, hrun, hdone _ xs _ (Nat.le_refl _) hS (hI.put _ hi (by omega) hl rfl) ((World.putObj_heap_other (by omega)).trans hd)⟩
    · have hrun := run_endLoop (P := P) hl (by rw [hrec]; simp)
      rw [hrec] at hrun
      exact ⟨some c, _, hrun, hstop _ c pre _ (Nat.le_refl _) hR ((hIx c).put _ hi (by omega) hl rfl) ((World.putObj_heap_other (by omega)).trans hd)⟩
end Go.Proofs.YtmeipangcgdinaaGreatDoor
/-
  A map keyed by texts that is ranged over: what is still to come, key by key: laws at the operation: no Go text.
-/
namespace Go.Proofs.YtmeipangcgdinaaGreatDoor
open Go.RowKit Go.Maps

/-- Block r ranges over the map at block b; lt tells which texts are still to come, c how many. -/
def RangesAt (P : Program) (w : World) (k : TypeId) (b r : Nat) (f : List UInt8 → Option Value) (lt : List UInt8 → Bool) (c : Nat) : Prop :=
  ∃ (M : DataW Value) (n : Nat) (left : Lit → Bool), w.ranges P k asIs b r n M left c ∧ (∀ u z, M.atKey (.string u) z = match f u with | some v => .held v | none => z) ∧ ∀ u, left (.string u) = lt u

section
variable {P : Program} {w : World} {k : TypeId} {b r c : Nat} {f : List UInt8 → Option Value} {lt : List UInt8 → Bool}
theorem RangesAt.kept {w' : World} {row : Option Nat} (h : RangesAt P w k b r f lt c) (hg : w.grownBy w' row) (hb : some b ≠ row) (hr : some r ≠ row) : RangesAt P w' k b r f lt c := by
  obtain ⟨M, n, left, h1, h2⟩ := h
  exact ⟨M, n, left, h1.kept hg hb hr, h2⟩
theorem RangesAt.alloc (h : RangesAt P w k b r f lt c) (o : Obj) : RangesAt P (w.alloc o) k b r f lt c := by
  obtain ⟨M, n, left, h1, h2⟩ := h
  exact ⟨M, n, left, h1.alloc o, h2⟩
theorem RangesAt.new_lt (h : RangesAt P w k b r f lt c) : r < w.heap.size := by
  obtain ⟨M, n, left, h1, h2⟩ := h
  exact h1.lt
theorem RangesAt.left_eq (h : RangesAt P w k b r f lt c) : w.rangeLeft b r = c := by
  obtain ⟨M, n, left, h1, h2⟩ := h
  exact h1.left_eq

variable {ops : Array Oper} {rest : List Oper} {o : Oper} {a : Act} {Q : Exit → Act → World → Prop}
/-- 'range m', at the operation. -/
theorem wpList_range_at (hg : o.guard = none) (m : Operand) (t : TypeId) (hop : o.op = Op.range t m) (k e : TypeId) (hk : P.underlying k = some .string) (ht : P.underlying t = some (.map k e)) (b n : Nat) (f : List UInt8 → Option Value)
    (hm : a.eval m = .map (some b)) (h : MapAt P w k b n f)
    (hK : ∀ w', RangesAt P w' k b w.heap.size f (fun u => (f u).isSome) n → w.grownBy w' none → w'.heap.size = w.heap.size + 1 → wpList P ops Q rest (a.put o.dst (.pointer (some ⟨w.heap.size, 0, none⟩))) w') :
    wpList P ops Q (o :: rest) a w := by
  obtain ⟨M, h1, h2, h3⟩ := h
  refine wpList_range_own w hg m t hop k e (string_keyed hk) ht asIs b n M hm h1 fun w' hr hgr hsz => hK w' ?_ hgr hsz
  rw [h2] at hr
  exact ⟨M, n, _, hr, h3, fun u => MapAt.has h3 u⟩
theorem key_string {key : Value} {kl : Lit} (hk : P.underlying k = some .string) (h : keyOf P k key = some kl) : ∃ u : List UInt8, key = .string ⟨u.toArray⟩ ∧ kl = .string u := by
  cases key with
  | string s =>
    simp [keyOf, hk, mapKey] at h
    obtain ⟨_, rfl⟩ := h
    exact ⟨s.data.toList, by obtain ⟨a⟩ := s; simp, rfl⟩
  | _ => simp [keyOf, hk, mapKey] at h
/-- 'next', at the operation. -/
theorem wpList_next_at (hg : o.guard = none) (it : Operand) (hop : o.op = Op.next it false) (k : TypeId) (hk : P.underlying k = some .string) (b r c : Nat) (f : List UInt8 → Option Value) (lt : List UInt8 → Bool)
    (hit : a.eval it = .pointer (some ⟨r, 0, none⟩)) (h : RangesAt P w k b r f lt c)
    (hDone : (∀ u, lt u = false) → wpList P ops Q rest (a.put o.dst (.tuple #[.bool false])) w)
    (hMore : ∀ (u : List UInt8) (v : Value) (w' : World) (c' : Nat), f u = some v → lt u = true → RangesAt P w' k b r f (fun q => lt q && !(q == u)) c' → c' < c → w.grownBy w' (some r) → w'.heap.size = w.heap.size →
      (Instr.entry (.pointer (some ⟨r, 0, none⟩))).run P w' = .ok (.tuple #[.string ⟨u.toArray⟩, v]) w' → wpList P ops Q rest (a.put o.dst (.tuple #[.bool true, .string ⟨u.toArray⟩, v])) w') :
    wpList P ops Q (o :: rest) a w := by
  obtain ⟨M, n, left, h1, h2, h3⟩ := h
  refine wpList_next_ranges w hg it hop k (string_keyed hk) asIs (fun u : List UInt8 => .string ⟨u.toArray⟩) (fun v : Value => v)
    (fun key kl hkey => by obtain ⟨u, hu, _⟩ := key_string hk hkey; exact ⟨u, hu⟩) (fun v y _ => ⟨v, rfl⟩) b r n M left c hit h1
    (fun _ hl => hDone fun u => (h3 u).symm.trans (hl _)) (fun u v kl y w' c' hkey hl hv hat hr hlt hgr hsz hen => ?_)
  obtain ⟨u', e1, rfl⟩ := key_string hk hkey
  obtain rfl : u = u' := by
    have := congrArg (fun x => match x with | Value.string s => s.data.toList | _ => []) e1
    simpa using this
  have hy := asIs_eq (d := y.1) (ps := y.2) hv
  have hf : f u = some v := by
    have e0 := hat (.held (.bool true))
    have e1 := hat (.held (.bool false))
    rw [h2, hy] at e0 e1
    cases hfu : f u with
    | none => rw [hfu] at e0 e1; rw [← e1] at e0; cases e0
    | some x => rw [hfu] at e0; cases e0; rfl
  refine hMore u v w' c' hf ((h3 u).symm.trans hl) ⟨M, n, _, hr, h2, fun q => ?_⟩ hlt hgr hsz hen
  show (left (.string q) && !Lit.sameKey (.string q) (.string u)) = _
  rw [h3]
  rfl
end
end Go.Proofs.YtmeipangcgdinaaGreatDoor
