/-
  Own texts of the proof, joined by program: Opened, LaidErrs, Laid, Five.
-/
import Derived.Test.YtpogcedghbokbaaGreatDoorCame
import Derived.Deep.Slices
import Derived.OpenShut
import Derived.Carry
import Derived.Test.YtpogcedghbokbaaGreatDoorChecked
import Derived.ProofKit
import Derived.LaidMore
import Derived.LaidLaws
import Derived.LaidSub
import Derived.Stop.Joined
import Derived.Test.YtpogcedghbokbaaGreatDoorRows
import Derived.Test.YtpogcedghbokbaaGreatDoorCode
import Derived.LaidHandle
/-
  Arguments that are files, opened: what a walk wants of them, out of what the rows say: over this seat's translation.
-/
namespace Go.Proofs.YtpogcedghbokbaaGreatDoor
open Go.RowKit Go.Shelf Go.ChangeShapes Go.WideShapes Go.Deep

theorem Tryz.cellsFile : Tryz.prog.cellsOf 24 = 3 := by kernel_rfl
theorem Tryz.cellsStr : Tryz.prog.cellsOf 9 = 1 := by kernel_rfl
theorem Tryz.cellsBool : Tryz.prog.cellsOf 4 = 1 := by kernel_rfl
theorem Tryz.laidOut : laidOutB Tryz.prog = true := by kernel_rfl

set_option maxRecDepth 100000 in
/-- A file's cells, opened. -/
theorem open_file {H : Type} {enc : TypeId × Value → H} {W : World} {base : Nat} {sp : Nat → Bool} {held : Bool} {fuel : Nat} {cs : List Value} {x : DataW H × List MemPlace} (h : DataW.trod enc Tryz.prog W base sp held fuel 24 cs = some x) :
    ∃ f : F, cs = fcells f ∧ f.p.length ≤ maxLen ∧ f.t.length ≤ maxLen := by
  obtain ⟨xs, n, _, _, hlen, hxl, hf⟩ := DataW.trod_struct Tryz.underlying24 h
  rw [Tryz.cellsFile] at hlen
  match cs, hlen with
  | [v0, v1, v2], _ =>
    have l3 : xs.length = 3 := hxl
    match xs, l3 with
    | [y0, y1, y2], _ =>
      have g0 : DataW.trod enc Tryz.prog W base sp held n 9 (([v0, v1, v2].drop 0).take (Tryz.prog.cellsOf 9)) = some y0 := hf 0 _ rfl
      have g1 : DataW.trod enc Tryz.prog W base sp held n 4 (([v0, v1, v2].drop 1).take (Tryz.prog.cellsOf 4)) = some y1 := hf 1 _ rfl
      have g2 : DataW.trod enc Tryz.prog W base sp held n 9 (([v0, v1, v2].drop 2).take (Tryz.prog.cellsOf 9)) = some y2 := hf 2 _ rfl
      rw [Tryz.cellsStr] at g0 g2
      rw [Tryz.cellsBool] at g1
      obtain ⟨s, e0, _, hs⟩ := DataW.trod_string Tryz.underlying9 g0
      obtain ⟨b, e1, _⟩ := DataW.trod_bool Tryz.underlying4 g1
      obtain ⟨t, e2, _, ht⟩ := DataW.trod_string Tryz.underlying9 g2
      refine ⟨⟨s.data.toList, b, t.data.toList⟩, ?_, ?_, ?_⟩
      · have e0' : [v0] = [.string s] := e0
        have e1' : [v1] = [.bool b] := e1
        have e2' : [v2] = [.string t] := e2
        cases e0'
        cases e1'
        cases e2'
        rfl
      · exact hs
      · exact ht

set_option maxRecDepth 100000 in
/-- Files among the arguments, opened. -/
theorem open_files {H : Type} {enc : TypeId × Value → H} {W : World} {base : Nat} {sp : Nat → Bool} {held : Bool} {r : Reach} {b0 : Nat} {v : Value} {d : DataW H} {ps : List MemPlace} (hval : Value.okWide Tryz.prog W r b0 22 v) (hd : DataW.Trod enc Tryz.prog W base sp held 22 v d ps) :
    ∃ l a ca, v = .slice a (List.length l) ca ∧ Came W a ca l := by
  obtain ⟨a0, len0, cap0, rfl⟩ := okWide_slice Tryz.underlying22 hval
  obtain ⟨fuel, hf⟩ := hd
  rcases open_slice Tryz.underlying22 hf with ⟨hc, _⟩ | ⟨a, len, cap, m, n, D, Pl, hc, _, hl, hm, hmm, _, hx⟩
  · have hc' : Value.slice a0 len0 cap0 = .slice none 0 0 := by simpa [Value.cells] using hc
    cases hc'
    exact ⟨[], none, 0, rfl, fun h => absurd rfl h, Nat.le_refl _, Nat.zero_le _, fun f hf => by simp at hf, fun _ => ⟨rfl, rfl⟩⟩
  · have hc' : Value.slice a0 len0 cap0 = .slice (some a) len cap := by simpa [Value.cells] using hc
    cases hc'
    have hlm : len0 ≤ m := by rw [hmm]; split <;> omega
    have each : ∀ i, i < len0 → ∃ f : F, (∀ j u, (fcells f)[j]? = some u → W.cell? ((a.add (i * 3)).add j) = some u) ∧ f.p.length ≤ maxLen ∧ f.t.length ≤ maxLen := fun i hi => by
      obtain ⟨cs', h1, h2⟩ := hx i (by omega)
      rw [Tryz.cellsFile] at h1
      obtain ⟨_, hlen, hcell⟩ := World.cells?_some h1
      obtain ⟨f, rfl, hp, ht⟩ := open_file h2
      refine ⟨f, fun j u hj => ?_, hp, ht⟩
      have hj3 : j < 3 := (List.getElem?_eq_some_iff.1 hj).1
      rw [hcell j hj3]
      exact hj
    haveI : Inhabited F := ⟨⟨[], false, []⟩⟩
    obtain ⟨q, hq⟩ := choose_lt each
    refine ⟨(List.range len0).map q, some a, cap0, by simp, ?_, by rw [List.length_map, List.length_range]; exact hl, by rw [List.length_map, List.length_range]; omega, fun f hf => ?_, fun h => by cases h⟩
    · intro hne
      have hpos : 0 < len0 := by
        cases len0 with
        | zero => exact absurd rfl hne
        | succ k => omega
      obtain ⟨b, o, spot⟩ := a
      have hspot : spot = none := by
        have := World.cell?_spot ((hq 0 hpos).1 0 _ rfl)
        simpa [Addr.add] using this
      subst hspot
      refine ⟨b, o, rfl, fun k hk => ?_⟩
      have hk' : k < len0 := by simpa using hk
      have hg : ((List.range len0).map q)[k] = q k := by simp
      rw [hg]
      have hc := (hq k hk').1
      have hadd : ∀ j, ((⟨b, o, none⟩ : Addr).add (k * 3)).add j = ⟨b, o + k * 3 + j, none⟩ := fun j => by rw [Addr.add_lit, Addr.add_lit]
      exact ⟨by simpa [hadd] using hc 0 _ rfl, by simpa [hadd] using hc 1 _ rfl, by simpa [hadd] using hc 2 _ rfl⟩
    · obtain ⟨i, hi, rfl⟩ := List.mem_map.1 hf
      exact (hq i (List.mem_range.1 hi)).2

set_option maxRecDepth 100000 in
/-- A file among the arguments, opened. -/
theorem open_one {H : Type} {enc : TypeId × Value → H} {W : World} {base : Nat} {sp : Nat → Bool} {held : Bool} {r : Reach} {b0 : Nat} {v : Value} {d : DataW H} {ps : List MemPlace} (hval : Value.okWide Tryz.prog W r b0 24 v) (hd : DataW.Trod enc Tryz.prog W base sp held 24 v d ps) :
    ∃ f : F, v = fv f ∧ f.p.length ≤ maxLen ∧ f.t.length ≤ maxLen := by
  obtain ⟨cs, rfl, hcs⟩ := okWide_struct Tryz.underlying24 hval
  obtain ⟨fuel, hf⟩ := hd
  obtain ⟨f, e, hp, ht⟩ := open_file hf
  refine ⟨f, ?_, hp, ht⟩
  have : cs.toList = fcells f := by simpa [Value.cells] using e
  rw [show cs = (fcells f).toArray by rw [← this]]
  rfl
end Go.Proofs.YtpogcedghbokbaaGreatDoor
/-
  Errors of errors.New's make that a row lists among other variables: each holds a pointer of its own, to an unmarked block: over this seat's translation.
-/
namespace Go.Proofs.YtpogcedghbokbaaGreatDoor
open Go.ChangeShapes Go.WideShapes Go.RowKit

theorem Tryz.own : ownKnob Tryz.prog.godebug = none := by kernel_rfl
theorem Tryz.cells58 : Tryz.prog.cellsOf 194 = 1 := by kernel_rfl
theorem Tryz.cells9 : Tryz.prog.cellsOf 9 = 1 := by kernel_rfl

/-- Errors of errors.New's make, listed one behind the other: each variable holds a pointer, no two the same, each to an unmarked block. -/
theorem sentinels_of_laid {P : Program} {nm : String} {W : World} {ti tp te ts : TypeId} {ms : Array (String × TypeId)} {f : Field}
    (hi : P.underlying ti = some (.interface ms)) (hrow : ∀ u, P.typeName? 3 u = some nm → u = tp)
    (hp : P.underlying tp = some (.pointer te)) (he : P.underlying te = some (.struct #[f])) (hft : f.type = ts) (hfo : f.offset = 0) (hs : P.underlying ts = some .string) (hc : P.cellsOf te = 1) (hcs : P.cellsOf ts = 1) :
    ∀ (L : List (String × List UInt8)) (ps : List MemPlace),
    (∀ x ∈ L, ∃ g, P.globalNamed x.1 = some g ∧ (P.globals[g]?).map (·.type) = some ti) →
    DataW.LaidVars P W (L.map fun x => (x.1, .iface nm (.ptr (.agg [.lit (.string x.2)])))) ps → ps.Nodup →
    (∀ b off, MemPlace.cell b off ∈ ps → (∃ c t, W.heap[b]? = some (.cells c t (0, 0))) ∧ ∀ u v, W.cell? ⟨b, off, none⟩ = some (.iface u v) → Value.okWide P W .any 0 u v) →
    ∃ zs : List Addr, zs.length = L.length ∧ zs.Nodup ∧ (∀ a ∈ zs, MemPlace.cell a.block a.off ∈ ps) ∧
      ∀ (i : Nat) (x : String × List UInt8) (a : Addr), L[i]? = some x → zs[i]? = some a → W.var? P x.1 = some #[.iface tp (.pointer (some a))]
  | [], ps, _, _, _, _ => ⟨[], rfl, List.nodup_nil, (fun _ h => by cases h), (fun _ _ _ h => by simp at h)⟩
  | x :: L, ps, hg, hv, hnd, hrows => by
    obtain ⟨g', t', cs, fuel, p, q, hg', ht', hv', hd', hq, rfl⟩ := hv
    obtain ⟨g, hg0, ht0⟩ := hg x List.mem_cons_self
    obtain rfl := Option.some.inj (hg0.symm.trans hg')
    obtain rfl := Option.some.inj (ht0.symm.trans ht')
    obtain ⟨l0⟩ := cs
    have ok0 : ∀ u v, l0 = [.iface u v] → Value.okWide P W .any 0 u v := fun u v e => by
      subst e
      exact (hrows g 0 (by simp [MemPlace.row])).2 u v (by simpa using World.var?_cell hg' hv' 0)
    obtain ⟨a, s, rfl, hca, hsa, hza, rfl⟩ := errorString_of_trod hi hrow hp he hft hfo hs hc hcs hd' ok0
    have hnq : q.Nodup := List.Nodup.sublist (List.sublist_append_right _ _) hnd
    obtain ⟨zs, hl, hn, hm, hr⟩ := sentinels_of_laid hi hrow hp he hft hfo hs hc hcs L q (fun y hy => hg y (List.mem_cons_of_mem _ hy)) hq hnq (fun b off hb => hrows b off (List.mem_append_right _ hb))
    refine ⟨a :: zs, by simp [hl], ?_, ?_, ?_⟩
    · refine List.nodup_cons.2 ⟨fun ha => ?_, hn⟩
      have h1 : MemPlace.cell a.block a.off ∈ q := hm a ha
      have h2 := (List.nodup_append.1 hnd).2.2 (MemPlace.cell a.block a.off) (by simp [MemPlace.row]) _ h1
      exact h2 rfl
    · intro b hb
      rcases List.mem_cons.1 hb with rfl | hb
      · simp [MemPlace.row]
      · exact List.mem_append_right _ (hm b hb)
    · intro i y b hy hb
      cases i with
      | zero =>
        simp only [List.getElem?_cons_zero, Option.some.injEq] at hy hb
        subst hy hb
        exact hv'
      | succ i =>
        simp only [List.getElem?_cons_succ] at hy hb
        exact hr i y b hy hb

theorem Tryz.star : "*" ++ "errors.errorString" = "*errors.errorString" := by decide +kernel
theorem Tryz.row56 (u : TypeId) (h : Tryz.prog.typeName? 3 u = some "*errors.errorString") : u = 175 :=
  typeName_ptr_named (nm := "errors.errorString") (by rw [Tryz.star]; kernel_rfl) (by kernel_rfl) (by decide) u (by rw [Tryz.star]; exact h)

/-- The datum of an error as a row lists it. -/
def errData (x : String × List UInt8) : String × DataW Unit := (x.1, .iface "*errors.errorString" (.ptr (.agg [.lit (.string x.2)])))

/-- Out of a row's whole list: its errors, by their names' numbers. -/
theorem errs_of_laid {W : World} (L : List (String × DataW Unit)) (texts : List (String × List UInt8)) (nums : List Nat) (keep : String × DataW Unit → Bool)
    (hf : L.filter keep = texts.map errData)
    (hg : ((List.range texts.length).all fun i => match texts[i]? with | some x => Tryz.prog.globalNamed x.1 == some (nums.getD i 0) && (Tryz.prog.globals[nums.getD i 0]?).map (·.type) == some 28 | none => false) = true)
    (h : laidMet Tryz.prog L W) :
    ∃ z : Nat → Addr, (∀ k, k < texts.length → W.cell? ⟨nums.getD k 0, 0, none⟩ = some (.iface 175 (.pointer (some (z k))))) ∧ (∀ k, k < texts.length → ∃ c t, W.heap[(z k).block]? = some (.cells c t (0, 0))) ∧ ∀ k l, k < texts.length → l < texts.length → z k = z l → k = l := by
  have h' := h.filter keep
  rw [hf] at h'
  obtain ⟨ps, hv, hnd, hrows⟩ := h'
  have hglob : ∀ (i : Nat) (x : String × List UInt8), texts[i]? = some x → Tryz.prog.globalNamed x.1 = some (nums.getD i 0) ∧ (Tryz.prog.globals[nums.getD i 0]?).map (·.type) = some 28 := fun i x hx => by
    have hl := (List.getElem?_eq_some_iff.1 hx).1
    have := List.all_eq_true.1 hg i (List.mem_range.2 hl)
    rw [hx] at this
    simpa using this
  obtain ⟨zs, hl, hn, hm, hr⟩ := sentinels_of_laid Tryz.underlying28 Tryz.row56 Tryz.underlying175 Tryz.underlying194 rfl rfl Tryz.underlying9 Tryz.cells58 Tryz.cells9 texts ps
    (fun x hx => by
      obtain ⟨i, hi, e⟩ := List.getElem_of_mem hx
      exact ⟨nums.getD i 0, hglob i x (by rw [List.getElem?_eq_getElem hi, e])⟩) hv hnd hrows
  have hzs : ∀ k, k < texts.length → ∃ x, texts[k]? = some x ∧ zs[k]? = some (zs.getD k ⟨0, 0, none⟩) := fun k hk => by
    have h2 : k < zs.length := by omega
    exact ⟨texts[k], List.getElem?_eq_getElem hk, by rw [List.getD_eq_getElem?_getD, List.getElem?_eq_getElem h2]; rfl⟩
  refine ⟨fun k => zs.getD k ⟨0, 0, none⟩, fun k hk => ?_, fun k hk => ?_, fun k l hk hl' e => ?_⟩
  · obtain ⟨x, hx, ha⟩ := hzs k hk
    have := hr k x _ hx ha
    simpa using World.var?_cell (hglob k x hx).1 this 0
  · obtain ⟨x, hx, ha⟩ := hzs k hk
    exact (hrows _ _ (hm _ (List.mem_of_getElem? ha))).1
  · obtain ⟨x, hx, ha⟩ := hzs k hk
    obtain ⟨y, hy, hb⟩ := hzs l hl'
    have e' : zs.getD k ⟨0, 0, none⟩ = zs.getD l ⟨0, 0, none⟩ := e
    rw [← e'] at hb
    exact (List.getElem?_inj (by omega) hn).1 (ha.trans hb.symm)
end Go.Proofs.YtpogcedghbokbaaGreatDoor
/-
  What the rows list of the package-level variables gives the walks: thirteen errors at thirteen addresses and the handle of type error (Env); and a world that meets the list: the one that the program's own initialisers leave.
-/
namespace Go.Proofs.YtpogcedghbokbaaGreatDoor
open Go.ChangeShapes Go.WideShapes Go.RowKit

theorem Tryz.rt : (Tryz.prog.cutTypes.find? (·.1 == "internal/reflectlite.rtype")).map (·.2) = some 144 := by kernel_rfl
theorem Tryz.size : Tryz.prog.types.size = 205 := by kernel_rfl
theorem Tryz.oneRow : ((List.range 205).filter fun t => Tryz.prog.rowNamed t [101, 114, 114, 111, 114]) = [28] := by kernel_rfl
theorem Tryz.gErrType : Tryz.prog.globalNamed "errors.errorType" = some 13 := by kernel_rfl

def errTexts : List (String × List UInt8) := [
  ("chandlery/api.ErrText", [99, 104, 97, 110, 100, 108, 101, 114, 121, 58, 32, 116, 101, 120, 116]),
  ("chandlery/api.ErrBound", [99, 104, 97, 110, 100, 108, 101, 114, 121, 58, 32, 98, 111, 117, 110, 100]),
  ("chandlery/api.ErrShape", [99, 104, 97, 110, 100, 108, 101, 114, 121, 58, 32, 115, 104, 97, 112, 101]),
  ("chandlery/api.ErrKind", [99, 104, 97, 110, 100, 108, 101, 114, 121, 58, 32, 107, 105, 110, 100]),
  ("chandlery/api.ErrName", [99, 104, 97, 110, 100, 108, 101, 114, 121, 58, 32, 110, 97, 109, 101]),
  ("chandlery/api.ErrNone", [99, 104, 97, 110, 100, 108, 101, 114, 121, 58, 32, 110, 111, 110, 101]),
  ("chandlery/api.ErrExist", [99, 104, 97, 110, 100, 108, 101, 114, 121, 58, 32, 101, 120, 105, 115, 116]),
  ("chandlery/api.ErrFull", [99, 104, 97, 110, 100, 108, 101, 114, 121, 58, 32, 102, 117, 108, 108]),
  ("chandlery/api.ErrOrder", [99, 104, 97, 110, 100, 108, 101, 114, 121, 58, 32, 111, 114, 100, 101, 114]),
  ("chandlery/api.ErrOut", [99, 104, 97, 110, 100, 108, 101, 114, 121, 58, 32, 111, 117, 116]),
  ("chandlery/api.ErrClash", [99, 104, 97, 110, 100, 108, 101, 114, 121, 58, 32, 99, 108, 97, 115, 104]),
  ("chandlery/api.ErrSum", [99, 104, 97, 110, 100, 108, 101, 114, 121, 58, 32, 115, 117, 109]),
  ("chandlery/api.ErrOff", [99, 104, 97, 110, 100, 108, 101, 114, 121, 58, 32, 111, 102, 102])]

def handleList : List (String × DataW Unit) := [("errors.errorType", Rows.laid_errors_errorType)]

theorem filterSome : (Rows.treeGraftsRow.laid.filter fun x => x.2.handleName?.isSome) = handleList := by kernel_rfl
theorem filterNone : (Rows.treeGraftsRow.laid.filter fun x => x.2.handleName?.isNone) = (errTexts.map fun x => (x.1, .iface "*errors.errorString" (.ptr (.agg [.lit (.string x.2)])))) := by kernel_rfl

/-- The thirteen variables' numbers. -/
def errNums : List Nat := [7, 1, 8, 9, 6, 2, 3, 0, 4, 10, 5, 11, 12]

theorem errGlobals : (List.range 13).all (fun i => match errTexts[i]? with | some x => Tryz.prog.globalNamed x.1 == some (errNums.getD i 0) && (Tryz.prog.globals[errNums.getD i 0]?).map (·.type) == some 28 | none => false) = true := by kernel_rfl

theorem errGlobal (i : Nat) (x : String × List UInt8) (h : errTexts[i]? = some x) : Tryz.prog.globalNamed x.1 = some (errNums.getD i 0) ∧ (Tryz.prog.globals[errNums.getD i 0]?).map (·.type) = some 28 := by
  have hl : i < 13 := by
    have := (List.getElem?_eq_some_iff.1 h).1
    simpa [errTexts] using this
  have := List.all_eq_true.1 errGlobals i (List.mem_range.2 hl)
  rw [h] at this
  simpa using this

theorem env_of_laid {W : World} (h : laidMetH Tryz.prog Rows.treeGraftsRow.laid W) : ∃ p, Env p W := by
  unfold laidMetH at h
  rw [filterSome, filterNone] at h
  have h' : laidMet Tryz.prog (errTexts.map fun x => (x.1, .iface "*errors.errorString" (.ptr (.agg [.lit (.string x.2)])))) W ∧ handlesMet Tryz.prog handleList W := h
  obtain ⟨⟨ps, hv, hnd, hrows⟩, hh⟩ := h'
  obtain ⟨zs, hl, hn, hm, hr⟩ := sentinels_of_laid Tryz.underlying28 Tryz.row56 Tryz.underlying175 Tryz.underlying194 rfl rfl Tryz.underlying9 Tryz.cells58 Tryz.cells9 errTexts ps
    (fun x hx => by
      obtain ⟨i, hi, e⟩ := List.getElem_of_mem hx
      exact ⟨errNums.getD i 0, errGlobal i x (by rw [List.getElem?_eq_getElem hi, e])⟩) hv hnd hrows
  have hl13 : zs.length = 13 := by rw [hl]; rfl
  have hzs : ∀ k, k < 13 → ∃ x, errTexts[k]? = some x ∧ zs[k]? = some (zs.getD k ⟨0, 0, none⟩) := fun k hk => by
    have h1 : k < errTexts.length := by simpa [errTexts] using hk
    have h2 : k < zs.length := by omega
    exact ⟨errTexts[k], List.getElem?_eq_getElem h1, by rw [List.getD_eq_getElem?_getD, List.getElem?_eq_getElem h2]; rfl⟩
  have hs : ∀ k, k < 13 → W.cell? ⟨errNums.getD k 0, 0, none⟩ = some (.iface 175 (.pointer (some (zs.getD k ⟨0, 0, none⟩)))) := fun k hk => by
    obtain ⟨x, hx, ha⟩ := hzs k hk
    have := hr k x _ hx ha
    simpa using World.var?_cell (errGlobal k x hx).1 this 0
  refine ⟨fun k => zs.getD k ⟨0, 0, none⟩, ⟨hs 0 (by decide), hs 1 (by decide), hs 2 (by decide), hs 3 (by decide), hs 4 (by decide), hs 5 (by decide), hs 6 (by decide), hs 7 (by decide), hs 8 (by decide), hs 9 (by decide), hs 10 (by decide), hs 11 (by decide), hs 12 (by decide), ?_, fun k hk => ?_, fun k l hk hl' e => ?_⟩⟩
  · obtain ⟨name, u, ty, e1, e2, e3, e4, e5⟩ := hh _ (List.mem_singleton.2 rfl)
    have en : name = [101, 114, 114, 111, 114] := (Option.some.inj e1).symm
    subst en
    obtain rfl := Option.some.inj (Tryz.rt.symm.trans e2)
    have hm : ty ∈ (List.range 205).filter fun t => Tryz.prog.rowNamed t [101, 114, 114, 111, 114] := List.mem_filter.2 ⟨List.mem_range.2 (by rw [← Tryz.size]; exact e3), e4⟩
    rw [Tryz.oneRow] at hm
    obtain rfl := List.mem_singleton.1 hm
    have hh : typeHandle Tryz.prog 28 = .pointer (some ⟨15, 28, none⟩) := by kernel_rfl
    rw [hh] at e5
    simpa using World.var?_cell Tryz.gErrType e5 0
  · obtain ⟨x, hx, ha⟩ := hzs k hk
    exact (hrows _ _ (hm _ (List.mem_of_getElem? ha))).1
  · obtain ⟨x, hx, ha⟩ := hzs k hk
    obtain ⟨y, hy, hb⟩ := hzs l hl'
    have e' : zs.getD k ⟨0, 0, none⟩ = zs.getD l ⟨0, 0, none⟩ := e
    rw [← e'] at hb
    exact (List.getElem?_inj (by omega) hn).1 (ha.trans hb.symm)

/-- The heap that the program's own initialisers leave meets the list. -/
theorem door_met (os : Os) (args : Array Value) : laidMetH Tryz.prog Rows.treeGraftsRow.laid ((World.doorLaid Tryz.prog 263 os).forCall (fun _ _ => 0) ⟨#[], args, []⟩).memory :=
  laidMetH_of_parts3 (fuel := 8) (laidMet_of_run' 8 (by kernel_rfl) (by kernel_rfl)) (by kernel_rfl) (by kernel_rfl)
end Go.Proofs.YtpogcedghbokbaaGreatDoor
/-
  Five parameters read and written back: for whatever program.
-/
namespace Go.Proofs.YtpogcedghbokbaaGreatDoor
open Go.ChangeShapes Go.WideShapes Go.ChangeAt Go.RowKit

section
variable {H : Type} {enc : TypeId × Value → H} {P : Program} {w : World} {base : Nat} {spare : Nat → Bool} {held : Bool}
theorem trodAll_five {t t' t'' t3 t4 : TypeId} {args : Array Value} {ds : List (DataW H)} {ps : List MemPlace} (h : DataW.TrodAll enc P w base spare held [t, t', t'', t3, t4] args.toList ds ps) :
    ∃ v v' v'' v3 v4 d d' d'' d3 d4 p p' p'' p3 p4, args = #[v, v', v'', v3, v4] ∧ ds = [d, d', d'', d3, d4] ∧ ps = p ++ p' ++ p'' ++ p3 ++ p4 ∧ DataW.Trod enc P w base spare held t v d p ∧ DataW.Trod enc P w base spare held t' v' d' p' ∧ DataW.Trod enc P w base spare held t'' v'' d'' p'' ∧ DataW.Trod enc P w base spare held t3 v3 d3 p3 ∧ DataW.Trod enc P w base spare held t4 v4 d4 p4 := by
  obtain ⟨v, vs, d, ds', p, q, hargs, rfl, rfl, hd, hrest⟩ := trodAll_cons h
  obtain ⟨v', v'', v3, v4, d', d'', d3, d4, p', p'', p3, p4, he, rfl, rfl, h', h'', h3, h4⟩ := trodAll_four (args := vs.toArray) (by simpa using hrest)
  refine ⟨v, v', v'', v3, v4, d, d', d'', d3, d4, p, p', p'', p3, p4, ?_, rfl, by simp, hd, h', h'', h3, h4⟩
  have e : vs = [v', v'', v3, v4] := by simpa using congrArg Array.toList he
  subst e
  cases args
  simp_all
theorem trodAll_mk5 {t t' t'' t3 t4 : TypeId} {v v' v'' v3 v4 : Value} {d d' d'' d3 d4 : DataW H} {p p' p'' p3 p4 : List MemPlace} (h : DataW.Trod enc P w base spare held t v d p) (h' : DataW.Trod enc P w base spare held t' v' d' p')
    (h'' : DataW.Trod enc P w base spare held t'' v'' d'' p'') (h3 : DataW.Trod enc P w base spare held t3 v3 d3 p3) (h4 : DataW.Trod enc P w base spare held t4 v4 d4 p4) : DataW.TrodAll enc P w base spare held [t, t', t'', t3, t4] [v, v', v'', v3, v4] [d, d', d'', d3, d4] (p ++ (p' ++ (p'' ++ (p3 ++ p4)))) := ⟨p, p' ++ (p'' ++ (p3 ++ p4)), h, trodAll_mk4 h' h'' h3 h4, rfl⟩
end
end Go.Proofs.YtpogcedghbokbaaGreatDoor
