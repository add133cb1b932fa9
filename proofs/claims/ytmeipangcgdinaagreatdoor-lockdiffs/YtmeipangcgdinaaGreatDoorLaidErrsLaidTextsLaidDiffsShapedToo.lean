/-
  Own texts of the proof, joined by program: LaidErrs, LaidTexts, LaidDiffs, ShapedToo.
-/
import Derived.Test.YtmeipangcgdinaaGreatDoorChecked
import Derived.ProofKit
import Derived.LaidMore
import Derived.LaidLaws
import Derived.LaidSub
import Derived.Stop.Joined
import Derived.Test.YtmeipangcgdinaaGreatDoorRefDigitsRefSumPkSumSumEnv
import Derived.LaidHandle
import Derived.Lib.LaidTab
import Derived.Test.YtmeipangcgdinaaGreatDoorRows
import Derived.Test.YtmeipangcgdinaaGreatDoorPkWantPkWantText
import Derived.HandedShaped
import Derived.Shelf.Vars
import Derived.Lay
/-
  Errors of errors.New's make that a row lists among other variables: each holds a pointer of its own, to an unmarked block: over this seat's translation.
-/
namespace Go.Proofs.YtmeipangcgdinaaGreatDoor
open Go.ChangeShapes Go.WideShapes Go.RowKit

theorem Tryz.own : ownKnob Tryz.prog.godebug = none := by kernel_rfl
theorem Tryz.cells58 : Tryz.prog.cellsOf 158 = 1 := by kernel_rfl
theorem Tryz.cells9 : Tryz.prog.cellsOf 9 = 1 := by kernel_rfl

/-- Errors of errors.New's make, listed one behind the other: each variable holds a pointer, no two the same, each to an unmarked block. -/
theorem sentinels_texts_of_laid {P : Program} {nm : String} {W : World} {ti tp te ts : TypeId} {ms : Array (String × TypeId)} {f : Field}
    (hi : P.underlying ti = some (.interface ms)) (hrow : ∀ u, P.typeName? 3 u = some nm → u = tp)
    (hp : P.underlying tp = some (.pointer te)) (he : P.underlying te = some (.struct #[f])) (hft : f.type = ts) (hfo : f.offset = 0) (hs : P.underlying ts = some .string) (hc : P.cellsOf te = 1) (hcs : P.cellsOf ts = 1) :
    ∀ (L : List (String × List UInt8)) (ps : List MemPlace),
    (∀ x ∈ L, ∃ g, P.globalNamed x.1 = some g ∧ (P.globals[g]?).map (·.type) = some ti) →
    DataW.LaidVars P W (L.map fun x => (x.1, .iface nm (.ptr (.agg [.lit (.string x.2)])))) ps → ps.Nodup →
    (∀ b off, MemPlace.cell b off ∈ ps → (∃ c t, W.heap[b]? = some (.cells c t (0, 0))) ∧ ∀ u v, W.cell? ⟨b, off, none⟩ = some (.iface u v) → Value.okWide P W .any 0 u v) →
    ∃ zs : List Addr, zs.length = L.length ∧ zs.Nodup ∧ (∀ a ∈ zs, MemPlace.cell a.block a.off ∈ ps) ∧
      ∀ (i : Nat) (x : String × List UInt8) (a : Addr), L[i]? = some x → zs[i]? = some a → W.var? P x.1 = some #[.iface tp (.pointer (some a))] ∧ W.cell? a = some (.string ⟨x.2.toArray⟩)
  | [], ps, _, _, _, _ => ⟨[], rfl, List.nodup_nil, (fun _ h => by cases h), (fun _ _ _ h => by simp at h)⟩
  | x :: L, ps, hg, hv, hnd, hrows => by
    obtain ⟨g', t', cs, fuel, p, q, hg', ht', hv', hd', hq, rfl⟩ := hv
    obtain ⟨g, hg0, ht0⟩ := hg x List.mem_cons_self
    obtain rfl := Option.some.inj (hg0.symm.trans hg')
    obtain rfl := Option.some.inj (ht0.symm.trans ht')
    obtain ⟨l0⟩ := cs
    have ok0 : ∀ u v, l0 = [.iface u v] → Value.okWide P W .any 0 u v := fun u v e => by
      subst e
      exact (hrows g 0 (by simp [MemPlace.row])).2 u v (by simpa using World.var?_cell hg' hv' 0)
    obtain ⟨a, s, rfl, hca, hsa, hza, rfl⟩ := errorString_of_trod hi hrow hp he hft hfo hs hc hcs hd' ok0
    have hnq : q.Nodup := List.Nodup.sublist (List.sublist_append_right _ _) hnd
    obtain ⟨zs, hl, hn, hm, hr⟩ := sentinels_texts_of_laid hi hrow hp he hft hfo hs hc hcs L q (fun y hy => hg y (List.mem_cons_of_mem _ hy)) hq hnq (fun b off hb => hrows b off (List.mem_append_right _ hb))
    have hst : s = ⟨x.2.toArray⟩ := by
      rw [← hsa]
    refine ⟨a :: zs, by simp [hl], ?_, ?_, ?_⟩
    · refine List.nodup_cons.2 ⟨fun ha => ?_, hn⟩
      have h1 : MemPlace.cell a.block a.off ∈ q := hm a ha
      have h2 := (List.nodup_append.1 hnd).2.2 (MemPlace.cell a.block a.off) (by simp [MemPlace.row]) _ h1
      exact h2 rfl
    · intro b hb
      rcases List.mem_cons.1 hb with rfl | hb
      · simp [MemPlace.row]
      · exact List.mem_append_right _ (hm b hb)
    · intro i y b hy hb
      cases i with
      | zero =>
        simp only [List.getElem?_cons_zero, Option.some.injEq] at hy hb
        subst hy hb
        exact ⟨hv', by rw [← hst]; exact hca⟩
      | succ i =>
        simp only [List.getElem?_cons_succ] at hy hb
        exact hr i y b hy hb

theorem sentinels_of_laid {P : Program} {nm : String} {W : World} {ti tp te ts : TypeId} {ms : Array (String × TypeId)} {f : Field}
    (hi : P.underlying ti = some (.interface ms)) (hrow : ∀ u, P.typeName? 3 u = some nm → u = tp)
    (hp : P.underlying tp = some (.pointer te)) (he : P.underlying te = some (.struct #[f])) (hft : f.type = ts) (hfo : f.offset = 0) (hs : P.underlying ts = some .string) (hc : P.cellsOf te = 1) (hcs : P.cellsOf ts = 1) :
    ∀ (L : List (String × List UInt8)) (ps : List MemPlace),
    (∀ x ∈ L, ∃ g, P.globalNamed x.1 = some g ∧ (P.globals[g]?).map (·.type) = some ti) →
    DataW.LaidVars P W (L.map fun x => (x.1, .iface nm (.ptr (.agg [.lit (.string x.2)])))) ps → ps.Nodup →
    (∀ b off, MemPlace.cell b off ∈ ps → (∃ c t, W.heap[b]? = some (.cells c t (0, 0))) ∧ ∀ u v, W.cell? ⟨b, off, none⟩ = some (.iface u v) → Value.okWide P W .any 0 u v) →
    ∃ zs : List Addr, zs.length = L.length ∧ zs.Nodup ∧ (∀ a ∈ zs, MemPlace.cell a.block a.off ∈ ps) ∧
      ∀ (i : Nat) (x : String × List UInt8) (a : Addr), L[i]? = some x → zs[i]? = some a → W.var? P x.1 = some #[.iface tp (.pointer (some a))] := fun L ps h1 h2 h3 h4 => by
    obtain ⟨zs, a, b, c, d⟩ := sentinels_texts_of_laid hi hrow hp he hft hfo hs hc hcs L ps h1 h2 h3 h4
    exact ⟨zs, a, b, c, fun i x y hx hy => (d i x y hx hy).1⟩

theorem Tryz.star : "*" ++ "errors.errorString" = "*errors.errorString" := by decide +kernel
theorem Tryz.row56 (u : TypeId) (h : Tryz.prog.typeName? 3 u = some "*errors.errorString") : u = 156 :=
  typeName_ptr_named (nm := "errors.errorString") (by rw [Tryz.star]; kernel_rfl) (by kernel_rfl) (by decide) u (by rw [Tryz.star]; exact h)

/-- The datum of an error as a row lists it. -/
def errData (x : String × List UInt8) : String × DataW Unit := (x.1, .iface "*errors.errorString" (.ptr (.agg [.lit (.string x.2)])))

/-- Out of a row's whole list: its errors, by their names' numbers. -/
theorem errs_texts_of_laid {W : World} (L : List (String × DataW Unit)) (texts : List (String × List UInt8)) (nums : List Nat) (keep : String × DataW Unit → Bool)
    (hf : L.filter keep = texts.map errData)
    (hg : ((List.range texts.length).all fun i => match texts[i]? with | some x => Tryz.prog.globalNamed x.1 == some (nums.getD i 0) && (Tryz.prog.globals[nums.getD i 0]?).map (·.type) == some 26 | none => false) = true)
    (h : laidMet Tryz.prog L W) :
    ∃ z : Nat → Addr, (∀ k, k < texts.length → W.cell? ⟨nums.getD k 0, 0, none⟩ = some (.iface 156 (.pointer (some (z k))))) ∧ (∀ k, k < texts.length → ∃ c t, W.heap[(z k).block]? = some (.cells c t (0, 0))) ∧ (∀ k l, k < texts.length → l < texts.length → z k = z l → k = l) ∧ ∀ k (h : k < texts.length), W.cell? (z k) = some (.string ⟨(texts[k]).2.toArray⟩) := by
  have h' := h.filter keep
  rw [hf] at h'
  obtain ⟨ps, hv, hnd, hrows⟩ := h'
  have hglob : ∀ (i : Nat) (x : String × List UInt8), texts[i]? = some x → Tryz.prog.globalNamed x.1 = some (nums.getD i 0) ∧ (Tryz.prog.globals[nums.getD i 0]?).map (·.type) = some 26 := fun i x hx => by
    have hl := (List.getElem?_eq_some_iff.1 hx).1
    have := List.all_eq_true.1 hg i (List.mem_range.2 hl)
    rw [hx] at this
    simpa using this
  obtain ⟨zs, hl, hn, hm, hr⟩ := sentinels_texts_of_laid Tryz.underlying26 Tryz.row56 Tryz.underlying156 Tryz.underlying158 rfl rfl Tryz.underlying9 Tryz.cells58 Tryz.cells9 texts ps
    (fun x hx => by
      obtain ⟨i, hi, e⟩ := List.getElem_of_mem hx
      exact ⟨nums.getD i 0, hglob i x (by rw [List.getElem?_eq_getElem hi, e])⟩) hv hnd hrows
  have hzs : ∀ k, k < texts.length → ∃ x, texts[k]? = some x ∧ zs[k]? = some (zs.getD k ⟨0, 0, none⟩) := fun k hk => by
    have h2 : k < zs.length := by omega
    exact ⟨texts[k], List.getElem?_eq_getElem hk, by rw [List.getD_eq_getElem?_getD, List.getElem?_eq_getElem h2]; rfl⟩
  refine ⟨fun k => zs.getD k ⟨0, 0, none⟩, fun k hk => ?_, fun k hk => ?_, fun k l hk hl' e => ?_, fun k hk => ?_⟩
  · obtain ⟨x, hx, ha⟩ := hzs k hk
    have := (hr k x _ hx ha).1
    simpa using World.var?_cell (hglob k x hx).1 this 0
  · obtain ⟨x, hx, ha⟩ := hzs k hk
    exact (hrows _ _ (hm _ (List.mem_of_getElem? ha))).1
  · obtain ⟨x, hx, ha⟩ := hzs k hk
    obtain ⟨y, hy, hb⟩ := hzs l hl'
    have e' : zs.getD k ⟨0, 0, none⟩ = zs.getD l ⟨0, 0, none⟩ := e
    rw [← e'] at hb
    exact (List.getElem?_inj (by omega) hn).1 (ha.trans hb.symm)
  · obtain ⟨x, hx, ha⟩ := hzs k hk
    rw [List.getElem?_eq_getElem hk] at hx
    cases hx
    exact (hr k _ _ (List.getElem?_eq_getElem hk) ha).2
theorem errs_of_laid {W : World} (L : List (String × DataW Unit)) (texts : List (String × List UInt8)) (nums : List Nat) (keep : String × DataW Unit → Bool)
    (hf : L.filter keep = texts.map errData)
    (hg : ((List.range texts.length).all fun i => match texts[i]? with | some x => Tryz.prog.globalNamed x.1 == some (nums.getD i 0) && (Tryz.prog.globals[nums.getD i 0]?).map (·.type) == some 26 | none => false) = true)
    (h : laidMet Tryz.prog L W) :
    ∃ z : Nat → Addr, (∀ k, k < texts.length → W.cell? ⟨nums.getD k 0, 0, none⟩ = some (.iface 156 (.pointer (some (z k))))) ∧ (∀ k, k < texts.length → ∃ c t, W.heap[(z k).block]? = some (.cells c t (0, 0))) ∧ ∀ k l, k < texts.length → l < texts.length → z k = z l → k = l := by
  obtain ⟨z, a, b, c, _⟩ := errs_texts_of_laid L texts nums keep hf hg h
  exact ⟨z, a, b, c⟩
end Go.Proofs.YtmeipangcgdinaaGreatDoor
/-
  The listed errors by their texts, and the table of powers of ten out of a row's list: for whatever row of this seat's translation.
-/
namespace Go.Proofs.YtmeipangcgdinaaGreatDoor
open Go.ChangeShapes Go.WideShapes Go.RowKit

def apiTexts : List (String × List UInt8) := [
  ("chandlery/api.ErrText", [99, 104, 97, 110, 100, 108, 101, 114, 121, 58, 32, 116, 101, 120, 116]),
  ("chandlery/api.ErrBound", [99, 104, 97, 110, 100, 108, 101, 114, 121, 58, 32, 98, 111, 117, 110, 100]),
  ("chandlery/api.ErrShape", [99, 104, 97, 110, 100, 108, 101, 114, 121, 58, 32, 115, 104, 97, 112, 101]),
  ("chandlery/api.ErrKind", [99, 104, 97, 110, 100, 108, 101, 114, 121, 58, 32, 107, 105, 110, 100]),
  ("chandlery/api.ErrName", [99, 104, 97, 110, 100, 108, 101, 114, 121, 58, 32, 110, 97, 109, 101]),
  ("chandlery/api.ErrNone", [99, 104, 97, 110, 100, 108, 101, 114, 121, 58, 32, 110, 111, 110, 101]),
  ("chandlery/api.ErrExist", [99, 104, 97, 110, 100, 108, 101, 114, 121, 58, 32, 101, 120, 105, 115, 116]),
  ("chandlery/api.ErrFull", [99, 104, 97, 110, 100, 108, 101, 114, 121, 58, 32, 102, 117, 108, 108]),
  ("chandlery/api.ErrOrder", [99, 104, 97, 110, 100, 108, 101, 114, 121, 58, 32, 111, 114, 100, 101, 114]),
  ("chandlery/api.ErrOut", [99, 104, 97, 110, 100, 108, 101, 114, 121, 58, 32, 111, 117, 116]),
  ("chandlery/api.ErrClash", [99, 104, 97, 110, 100, 108, 101, 114, 121, 58, 32, 99, 108, 97, 115, 104]),
  ("chandlery/api.ErrSum", [99, 104, 97, 110, 100, 108, 101, 114, 121, 58, 32, 115, 117, 109]),
  ("chandlery/api.ErrOff", [99, 104, 97, 110, 100, 108, 101, 114, 121, 58, 32, 111, 102, 102])]
def convTexts : List (String × List UInt8) := [
  ("strconv.ErrRange", [118, 97, 108, 117, 101, 32, 111, 117, 116, 32, 111, 102, 32, 114, 97, 110, 103, 101]),
  ("strconv.ErrSyntax", [105, 110, 118, 97, 108, 105, 100, 32, 115, 121, 110, 116, 97, 120])]
def convNums : List Nat := [11, 10]
def isApi (x : String × DataW Unit) : Bool := apiTexts.any (·.1 == x.1)
def isConv (x : String × DataW Unit) : Bool := convTexts.any (·.1 == x.1)
def isPow (x : String × DataW Unit) : Bool := x.1 == "internal/strconv.uint64pow10"
theorem tab_of_laid {W : World} {L : List (String × DataW Unit)} (hf : L.filter isPow = [("internal/strconv.uint64pow10", Lib.tabData .u64 Lib.pow10Tab)]) (h : laidMet Tryz.prog L W) : Lib.TabIs Tryz.prog W "internal/strconv.uint64pow10" .u64 Lib.pow10Tab := by
  have h' := h.filter isPow
  rw [hf] at h'
  exact Lib.tabIs_of_head (g := 9) (t := 131) (e := 102) (n := 20) Tryz.gPow10 (by kernel_rfl) Tryz.underlying131 Tryz.underlying102 (by kernel_rfl) (by kernel_rfl) h'
end Go.Proofs.YtmeipangcgdinaaGreatDoor
/-
  What the row of LockDiffs lists of the package-level variables (eight errors of package api, strconv's two, tables), and the world's shape, give the walk; and a world that meets the list: the one that the program's own initialisers leave.
-/
namespace Go.Proofs.YtmeipangcgdinaaGreatDoor
open Go.ChangeShapes Go.WideShapes Go.RowKit

def diffTexts : List (String × List UInt8) := [0, 1, 2, 3, 4, 5, 7, 8].map fun k => apiTexts.getD k ("", [])
def diffNums : List Nat := [3, 6, 7, 5, 4, 1, 0, 2]
/-- The place in the list of an error by its number. -/
def diffAt (k : Nat) : Nat := if k < 6 then k else k - 1

theorem diffs_handles : (Rows.lockDiffsRow.laid.filter fun x => x.2.handleName?.isNone) = Rows.lockDiffsRow.laid := by kernel_rfl
theorem diffs_api : (Rows.lockDiffsRow.laid.filter isApi) = diffTexts.map errData := by kernel_rfl
theorem diffs_conv : (Rows.lockDiffsRow.laid.filter isConv) = convTexts.map errData := by kernel_rfl
theorem diffs_pow : (Rows.lockDiffsRow.laid.filter isPow) = [("internal/strconv.uint64pow10", Lib.tabData .u64 Lib.pow10Tab)] := by kernel_rfl

/-- The library's own variable holds some number: by the world's shape. -/
theorem maxLen_shapedD {W : World} (h : W.ShapedOpen Tryz.prog) : ∃ m, W.cell? ⟨8, 0, none⟩ = some (.int .i64 m) :=
  cell_of_shapedOpen_int (t := 3) (zero := #[.int .i64 0]) h (of_decide_eq_true (by kernel_rfl)) (by kernel_rfl) rfl (by kernel_rfl) (by kernel_rfl) Tryz.underlying3

theorem diffs_envs {W : World} (h : laidMetH Tryz.prog Rows.lockDiffsRow.laid W) (hsh : W.ShapedOpen Tryz.prog) : ∃ p, WEnv p W := by
  obtain ⟨hl, _⟩ := laidMetH_iff.1 h
  rw [diffs_handles] at hl
  obtain ⟨z, h1, _, _⟩ := errs_of_laid _ diffTexts diffNums isApi diffs_api (by kernel_rfl) hl
  obtain ⟨q, k1, _, _⟩ := errs_of_laid _ convTexts convNums isConv diffs_conv (by kernel_rfl) hl
  exact ⟨fun k => z (diffAt k), ⟨h1 0 (by decide), h1 1 (by decide), h1 2 (by decide), h1 3 (by decide), h1 4 (by decide), h1 5 (by decide), h1 6 (by decide), h1 7 (by decide)⟩,
    ⟨h1 0 (by decide), h1 1 (by decide), ⟨_, k1 1 (by decide)⟩, ⟨_, k1 0 (by decide)⟩, tab_of_laid diffs_pow hl⟩, ⟨h1 0 (by decide), h1 3 (by decide), h1 4 (by decide), h1 5 (by decide), h1 6 (by decide), maxLen_shapedD hsh⟩⟩

/-- A world that holds what the list says, and no more. -/
theorem diffs_met (os : Os) (args : Array Value) : laidMetH Tryz.prog Rows.lockDiffsRow.laid ((World.laidAll Tryz.prog os Rows.lockDiffsRow.laid).forCall (fun _ _ => 0) ⟨#[], args, []⟩).memory := by
  rw [MakeChecks.laidMetH_plain _ _ _ (by kernel_rfl)]
  exact laidMet_laidAll _ (by kernel_rfl) (by kernel_rfl)
end Go.Proofs.YtmeipangcgdinaaGreatDoor
/-
  A row's claim out of a walk that is handed both what the row lists and the world's shape: the wrap that keeps both. No Go text is spoken of here.
-/
namespace Go.Proofs.YtmeipangcgdinaaGreatDoor
open Go.ChangeShapes Go.WideShapes

theorem returns_laid_shaped {H : Type} {enc : TypeId × Value → H} {a : Assume} {C : Checked} {os : Os} {f : FuncId} {fn : Func} {s : ChangeSpec} {conds : List PathCond} {apart fresh handsOn again : Bool} {X : World → Array Value → Prop}
    (hX : ∀ (w w' : World) (args : Array Value), w.heap = w'.heap → X w args → X w' args)
    (own : ownKnob C.prog.godebug = none) (started : os.Started) (noInit : C.prog.inits.idxOf? f = none) (hfn : C.prog.funcs[f]? = some fn)
    (witness : ∃ (w : World) (tape : Tape) (i : Input), w.os = os ∧ (w.forCall tape i).Shaped C.prog ∧ i.vars = [] ∧ Input.okWide C.prog (w.forCall tape i) .any w.heap.size f i ∧
      ((s.pre enc C.prog fn conds apart (w.forCall tape i).memory i.args ∧ X (w.forCall tape i).memory i.args) ∧ sizedMet enc C.prog fn (OpenSpec.ofChange s) apart (w.forCall tape i).memory i.args) ∧ a.holds C.prog (lone (Frame.enter C.prog f i.args .normal) [] (w.forCall tape i)))
    (contract : ∀ (W : World) (base : Nat) (args : Array Value) (ds gs : List (DataW H)) (before : List MemPlace),
      (∀ (j : Nat) t v, fn.params[j]? = some t → args[j]? = some v → Value.okWide C.prog W .any base t v) →
      DataW.Whole enc C.prog fn.params.toList s.vars apart W args.toList ds gs before →
      X W args → W.ShapedOpen C.prog →
      Calls C.prog f args W fun e W' => ∃ v, e = .returned v ∧ s.post enc C.prog fn apart fresh handsOn again W args v W') :
    ReturnsInHanded a C os f .any (fun w args => (s.pre enc C.prog fn conds apart w args ∧ X w args) ∧ sizedMet enc C.prog fn (OpenSpec.ofChange s) apart w args) (s.post enc C.prog fn apart fresh handsOn again) := by
  refine returnsInHanded_of_calls own started noInit witness ?_
  intro w tape i _ hsh _ hok hpre _
  obtain ⟨_, _, _, fn', hfn', _, _, _, _, hval⟩ := hok
  have e : fn' = fn := Option.some.inj (hfn'.symm.trans hfn)
  subst e
  obtain ⟨⟨⟨ds, gs, before, hw, _⟩, hx⟩, _⟩ := hpre
  have hw' := DataW.Whole.of_heap (w' := w.forCall tape i) (by rfl) hw
  refine (contract (w.forCall tape i) w.heap.size i.args ds gs before hval hw' (hX _ _ _ (by rfl) hx) hsh).mono fun e W' ⟨v, he, hp⟩ => ?_
  subst he
  exact ChangeSpec.post_blind hp
end Go.Proofs.YtmeipangcgdinaaGreatDoor
