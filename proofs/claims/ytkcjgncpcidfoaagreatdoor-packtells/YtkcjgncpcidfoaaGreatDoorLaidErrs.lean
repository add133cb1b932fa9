/-
  Errors of errors.New's make that a row lists among other variables: each holds a pointer of its own, to an unmarked block: over this seat's translation.
-/
import Derived.Test.YtkcjgncpcidfoaaGreatDoorChecked
import Derived.ProofKit
import Derived.LaidMore
import Derived.LaidLaws
import Derived.LaidSub
import Derived.Stop.Joined
namespace Go.Proofs.YtkcjgncpcidfoaaGreatDoor
open Go.ChangeShapes Go.WideShapes Go.RowKit

theorem Tryz.own : ownKnob Tryz.prog.godebug = none := by kernel_rfl
theorem Tryz.cells58 : Tryz.prog.cellsOf 173 = 1 := by kernel_rfl
theorem Tryz.cells9 : Tryz.prog.cellsOf 9 = 1 := by kernel_rfl

/-- Errors of errors.New's make, listed one behind the other: each variable holds a pointer, no two the same, each to an unmarked block. -/
theorem sentinels_of_laid {P : Program} {nm : String} {W : World} {ti tp te ts : TypeId} {ms : Array (String × TypeId)} {f : Field}
    (hi : P.underlying ti = some (.interface ms)) (hrow : ∀ u, P.typeName? 3 u = some nm → u = tp)
    (hp : P.underlying tp = some (.pointer te)) (he : P.underlying te = some (.struct #[f])) (hft : f.type = ts) (hfo : f.offset = 0) (hs : P.underlying ts = some .string) (hc : P.cellsOf te = 1) (hcs : P.cellsOf ts = 1) :
    ∀ (L : List (String × List UInt8)) (ps : List MemPlace),
    (∀ x ∈ L, ∃ g, P.globalNamed x.1 = some g ∧ (P.globals[g]?).map (·.type) = some ti) →
    DataW.LaidVars P W (L.map fun x => (x.1, .iface nm (.ptr (.agg [.lit (.string x.2)])))) ps → ps.Nodup →
    (∀ b off, MemPlace.cell b off ∈ ps → (∃ c t, W.heap[b]? = some (.cells c t (0, 0))) ∧ ∀ u v, W.cell? ⟨b, off, none⟩ = some (.iface u v) → Value.okWide P W .any 0 u v) →
    ∃ zs : List Addr, zs.length = L.length ∧ zs.Nodup ∧ (∀ a ∈ zs, MemPlace.cell a.block a.off ∈ ps) ∧
      ∀ (i : Nat) (x : String × List UInt8) (a : Addr), L[i]? = some x → zs[i]? = some a → W.var? P x.1 = some #[.iface tp (.pointer (some a))]
  | [], ps, _, _, _, _ => ⟨[], rfl, List.nodup_nil, (fun _ h => by cases h), (fun _ _ _ h => by simp at h)⟩
  | x :: L, ps, hg, hv, hnd, hrows => by
    obtain ⟨g', t', cs, fuel, p, q, hg', ht', hv', hd', hq, rfl⟩ := hv
    obtain ⟨g, hg0, ht0⟩ := hg x List.mem_cons_self
    obtain rfl := Option.some.inj (hg0.symm.trans hg')
    obtain rfl := Option.some.inj (ht0.symm.trans ht')
    obtain ⟨l0⟩ := cs
    have ok0 : ∀ u v, l0 = [.iface u v] → Value.okWide P W .any 0 u v := fun u v e => by
      subst e
      exact (hrows g 0 (by simp [MemPlace.row])).2 u v (by simpa using World.var?_cell hg' hv' 0)
    obtain ⟨a, s, rfl, hca, hsa, hza, rfl⟩ := errorString_of_trod hi hrow hp he hft hfo hs hc hcs hd' ok0
    have hnq : q.Nodup := List.Nodup.sublist (List.sublist_append_right _ _) hnd
    obtain ⟨zs, hl, hn, hm, hr⟩ := sentinels_of_laid hi hrow hp he hft hfo hs hc hcs L q (fun y hy => hg y (List.mem_cons_of_mem _ hy)) hq hnq (fun b off hb => hrows b off (List.mem_append_right _ hb))
    refine ⟨a :: zs, by simp [hl], ?_, ?_, ?_⟩
    · refine List.nodup_cons.2 ⟨fun ha => ?_, hn⟩
      have h1 : MemPlace.cell a.block a.off ∈ q := hm a ha
      have h2 := (List.nodup_append.1 hnd).2.2 (MemPlace.cell a.block a.off) (by simp [MemPlace.row]) _ h1
      exact h2 rfl
    · intro b hb
      rcases List.mem_cons.1 hb with rfl | hb
      · simp [MemPlace.row]
      · exact List.mem_append_right _ (hm b hb)
    · intro i y b hy hb
      cases i with
      | zero =>
        simp only [List.getElem?_cons_zero, Option.some.injEq] at hy hb
        subst hy hb
        exact hv'
      | succ i =>
        simp only [List.getElem?_cons_succ] at hy hb
        exact hr i y b hy hb

theorem Tryz.star : "*" ++ "errors.errorString" = "*errors.errorString" := by decide +kernel
theorem Tryz.row56 (u : TypeId) (h : Tryz.prog.typeName? 3 u = some "*errors.errorString") : u = 171 :=
  typeName_ptr_named (nm := "errors.errorString") (by rw [Tryz.star]; kernel_rfl) (by kernel_rfl) (by decide) u (by rw [Tryz.star]; exact h)

/-- The datum of an error as a row lists it. -/
def errData (x : String × List UInt8) : String × DataW Unit := (x.1, .iface "*errors.errorString" (.ptr (.agg [.lit (.string x.2)])))

/-- Out of a row's whole list: its errors, by their names' numbers. -/
theorem errs_of_laid {W : World} (L : List (String × DataW Unit)) (texts : List (String × List UInt8)) (nums : List Nat) (keep : String × DataW Unit → Bool)
    (hf : L.filter keep = texts.map errData)
    (hg : ((List.range texts.length).all fun i => match texts[i]? with | some x => Tryz.prog.globalNamed x.1 == some (nums.getD i 0) && (Tryz.prog.globals[nums.getD i 0]?).map (·.type) == some 26 | none => false) = true)
    (h : laidMet Tryz.prog L W) :
    ∃ z : Nat → Addr, (∀ k, k < texts.length → W.cell? ⟨nums.getD k 0, 0, none⟩ = some (.iface 171 (.pointer (some (z k))))) ∧ (∀ k, k < texts.length → ∃ c t, W.heap[(z k).block]? = some (.cells c t (0, 0))) ∧ ∀ k l, k < texts.length → l < texts.length → z k = z l → k = l := by
  have h' := h.filter keep
  rw [hf] at h'
  obtain ⟨ps, hv, hnd, hrows⟩ := h'
  have hglob : ∀ (i : Nat) (x : String × List UInt8), texts[i]? = some x → Tryz.prog.globalNamed x.1 = some (nums.getD i 0) ∧ (Tryz.prog.globals[nums.getD i 0]?).map (·.type) = some 26 := fun i x hx => by
    have hl := (List.getElem?_eq_some_iff.1 hx).1
    have := List.all_eq_true.1 hg i (List.mem_range.2 hl)
    rw [hx] at this
    simpa using this
  obtain ⟨zs, hl, hn, hm, hr⟩ := sentinels_of_laid Tryz.underlying26 Tryz.row56 Tryz.underlying171 Tryz.underlying173 rfl rfl Tryz.underlying9 Tryz.cells58 Tryz.cells9 texts ps
    (fun x hx => by
      obtain ⟨i, hi, e⟩ := List.getElem_of_mem hx
      exact ⟨nums.getD i 0, hglob i x (by rw [List.getElem?_eq_getElem hi, e])⟩) hv hnd hrows
  have hzs : ∀ k, k < texts.length → ∃ x, texts[k]? = some x ∧ zs[k]? = some (zs.getD k ⟨0, 0, none⟩) := fun k hk => by
    have h2 : k < zs.length := by omega
    exact ⟨texts[k], List.getElem?_eq_getElem hk, by rw [List.getD_eq_getElem?_getD, List.getElem?_eq_getElem h2]; rfl⟩
  refine ⟨fun k => zs.getD k ⟨0, 0, none⟩, fun k hk => ?_, fun k hk => ?_, fun k l hk hl' e => ?_⟩
  · obtain ⟨x, hx, ha⟩ := hzs k hk
    have := hr k x _ hx ha
    simpa using World.var?_cell (hglob k x hx).1 this 0
  · obtain ⟨x, hx, ha⟩ := hzs k hk
    exact (hrows _ _ (hm _ (List.mem_of_getElem? ha))).1
  · obtain ⟨x, hx, ha⟩ := hzs k hk
    obtain ⟨y, hy, hb⟩ := hzs l hl'
    have e' : zs.getD k ⟨0, 0, none⟩ = zs.getD l ⟨0, 0, none⟩ := e
    rw [← e'] at hb
    exact (List.getElem?_inj (by omega) hn).1 (ha.trans hb.symm)
end Go.Proofs.YtkcjgncpcidfoaaGreatDoor
