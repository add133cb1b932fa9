/-
  Own texts of the proof, joined by program: Opened, HeldMem.
-/
import Derived.Test.YtmcfkoenpikldaaGreatDoorLawTreeCame
import Derived.Deep.Slices
import Derived.OpenShut
import Derived.Carry
/-
  Arguments that are files, opened: what a walk wants of them, out of what the rows say: over this seat's translation.
-/
namespace Go.Proofs.YtmcfkoenpikldaaGreatDoor
open Go.RowKit Go.Shelf Go.ChangeShapes Go.WideShapes Go.Deep

theorem Tryz.cellsFile : Tryz.prog.cellsOf 103 = 3 := by kernel_rfl
theorem Tryz.cellsStr : Tryz.prog.cellsOf 9 = 1 := by kernel_rfl
theorem Tryz.cellsBool : Tryz.prog.cellsOf 4 = 1 := by kernel_rfl
theorem Tryz.laidOut : laidOutB Tryz.prog = true := by kernel_rfl

set_option maxRecDepth 100000 in
/-- A file's cells, opened. -/
theorem open_file {H : Type} {enc : TypeId × Value → H} {W : World} {base : Nat} {sp : Nat → Bool} {held : Bool} {fuel : Nat} {cs : List Value} {x : DataW H × List MemPlace} (h : DataW.trod enc Tryz.prog W base sp held fuel 103 cs = some x) :
    ∃ f : F, cs = fcells f ∧ f.p.length ≤ maxLen ∧ f.t.length ≤ maxLen := by
  obtain ⟨xs, n, _, _, hlen, hxl, hf⟩ := DataW.trod_struct Tryz.underlying103 h
  rw [Tryz.cellsFile] at hlen
  match cs, hlen with
  | [v0, v1, v2], _ =>
    have l3 : xs.length = 3 := hxl
    match xs, l3 with
    | [y0, y1, y2], _ =>
      have g0 : DataW.trod enc Tryz.prog W base sp held n 9 (([v0, v1, v2].drop 0).take (Tryz.prog.cellsOf 9)) = some y0 := hf 0 _ rfl
      have g1 : DataW.trod enc Tryz.prog W base sp held n 4 (([v0, v1, v2].drop 1).take (Tryz.prog.cellsOf 4)) = some y1 := hf 1 _ rfl
      have g2 : DataW.trod enc Tryz.prog W base sp held n 9 (([v0, v1, v2].drop 2).take (Tryz.prog.cellsOf 9)) = some y2 := hf 2 _ rfl
      rw [Tryz.cellsStr] at g0 g2
      rw [Tryz.cellsBool] at g1
      obtain ⟨s, e0, _, hs⟩ := DataW.trod_string Tryz.underlying9 g0
      obtain ⟨b, e1, _⟩ := DataW.trod_bool Tryz.underlying4 g1
      obtain ⟨t, e2, _, ht⟩ := DataW.trod_string Tryz.underlying9 g2
      refine ⟨⟨s.data.toList, b, t.data.toList⟩, ?_, ?_, ?_⟩
      · have e0' : [v0] = [.string s] := e0
        have e1' : [v1] = [.bool b] := e1
        have e2' : [v2] = [.string t] := e2
        cases e0'
        cases e1'
        cases e2'
        rfl
      · exact hs
      · exact ht

set_option maxRecDepth 100000 in
/-- Files among the arguments, opened. -/
theorem open_files {H : Type} {enc : TypeId × Value → H} {W : World} {base : Nat} {sp : Nat → Bool} {held : Bool} {r : Reach} {b0 : Nat} {v : Value} {d : DataW H} {ps : List MemPlace} (hval : Value.okWide Tryz.prog W r b0 43 v) (hd : DataW.Trod enc Tryz.prog W base sp held 43 v d ps) :
    ∃ l a ca, v = .slice a (List.length l) ca ∧ Came W a ca l := by
  obtain ⟨a0, len0, cap0, rfl⟩ := okWide_slice Tryz.underlying43 hval
  obtain ⟨fuel, hf⟩ := hd
  rcases open_slice Tryz.underlying43 hf with ⟨hc, _⟩ | ⟨a, len, cap, m, n, D, Pl, hc, _, hl, hm, hmm, _, hx⟩
  · have hc' : Value.slice a0 len0 cap0 = .slice none 0 0 := by simpa [Value.cells] using hc
    cases hc'
    exact ⟨[], none, 0, rfl, fun h => absurd rfl h, Nat.le_refl _, Nat.zero_le _, fun f hf => by simp at hf, fun _ => ⟨rfl, rfl⟩⟩
  · have hc' : Value.slice a0 len0 cap0 = .slice (some a) len cap := by simpa [Value.cells] using hc
    cases hc'
    have hlm : len0 ≤ m := by rw [hmm]; split <;> omega
    have each : ∀ i, i < len0 → ∃ f : F, (∀ j u, (fcells f)[j]? = some u → W.cell? ((a.add (i * 3)).add j) = some u) ∧ f.p.length ≤ maxLen ∧ f.t.length ≤ maxLen := fun i hi => by
      obtain ⟨cs', h1, h2⟩ := hx i (by omega)
      rw [Tryz.cellsFile] at h1
      obtain ⟨_, hlen, hcell⟩ := World.cells?_some h1
      obtain ⟨f, rfl, hp, ht⟩ := open_file h2
      refine ⟨f, fun j u hj => ?_, hp, ht⟩
      have hj3 : j < 3 := (List.getElem?_eq_some_iff.1 hj).1
      rw [hcell j hj3]
      exact hj
    haveI : Inhabited F := ⟨⟨[], false, []⟩⟩
    obtain ⟨q, hq⟩ := choose_lt each
    refine ⟨(List.range len0).map q, some a, cap0, by simp, ?_, by rw [List.length_map, List.length_range]; exact hl, by rw [List.length_map, List.length_range]; omega, fun f hf => ?_, fun h => by cases h⟩
    · intro hne
      have hpos : 0 < len0 := by
        cases len0 with
        | zero => exact absurd rfl hne
        | succ k => omega
      obtain ⟨b, o, spot⟩ := a
      have hspot : spot = none := by
        have := World.cell?_spot ((hq 0 hpos).1 0 _ rfl)
        simpa [Addr.add] using this
      subst hspot
      refine ⟨b, o, rfl, fun k hk => ?_⟩
      have hk' : k < len0 := by simpa using hk
      have hg : ((List.range len0).map q)[k] = q k := by simp
      rw [hg]
      have hc := (hq k hk').1
      have hadd : ∀ j, ((⟨b, o, none⟩ : Addr).add (k * 3)).add j = ⟨b, o + k * 3 + j, none⟩ := fun j => by rw [Addr.add_lit, Addr.add_lit]
      exact ⟨by simpa [hadd] using hc 0 _ rfl, by simpa [hadd] using hc 1 _ rfl, by simpa [hadd] using hc 2 _ rfl⟩
    · obtain ⟨i, hi, rfl⟩ := List.mem_map.1 hf
      exact (hq i (List.mem_range.1 hi)).2

set_option maxRecDepth 100000 in
/-- A file among the arguments, opened. -/
theorem open_one {H : Type} {enc : TypeId × Value → H} {W : World} {base : Nat} {sp : Nat → Bool} {held : Bool} {r : Reach} {b0 : Nat} {v : Value} {d : DataW H} {ps : List MemPlace} (hval : Value.okWide Tryz.prog W r b0 103 v) (hd : DataW.Trod enc Tryz.prog W base sp held 103 v d ps) :
    ∃ f : F, v = fv f ∧ f.p.length ≤ maxLen ∧ f.t.length ≤ maxLen := by
  obtain ⟨cs, rfl, hcs⟩ := okWide_struct Tryz.underlying103 hval
  obtain ⟨fuel, hf⟩ := hd
  obtain ⟨f, e, hp, ht⟩ := open_file hf
  refine ⟨f, ?_, hp, ht⟩
  have : cs.toList = fcells f := by simpa [Value.cells] using e
  rw [show cs = (fcells f).toArray by rw [← this]]
  rfl
end Go.Proofs.YtmcfkoenpikldaaGreatDoor
/-
  Holdings in memory, three cells each, a tree that each leads to; those that are too long; as an argument, opened: over this seat's translation.
-/
namespace Go.Proofs.YtmcfkoenpikldaaGreatDoor
open Go.RowKit Go.Shelf Go.ChangeShapes Go.WideShapes Go.Deep

/-- A holding: put a tree, or drop by a number. -/
structure Hd where
  put : Bool
  l : List F
  a : Option Addr
  c : Nat
  n : Int
def hdcells (h : Hd) : List Value := [.bool h.put, .slice h.a h.l.length h.c, .int .i64 h.n]
/-- Holdings that lie in memory from an address on. -/
def HoldsAt (w : World) (a : Option Addr) (l : List Hd) : Prop :=
  l ≠ [] → ∃ b o, a = some ⟨b, o, none⟩ ∧ ∀ k (h : k < l.length), w.cell? ⟨b, o + k * 3, none⟩ = some (.bool l[k].put) ∧ w.cell? ⟨b, o + k * 3 + 1, none⟩ = some (.slice l[k].a l[k].l.length l[k].c) ∧ w.cell? ⟨b, o + k * 3 + 2, none⟩ = some (.int .i64 l[k].n)
theorem HoldsAt.at {w : World} {a : Option Addr} {l : List Hd} (h : HoldsAt w a l) {k : Nat} (hk : k < l.length) : ∃ b o, a = some ⟨b, o, none⟩ ∧ w.cell? ⟨b, o + k * 3, none⟩ = some (.bool l[k].put) ∧ w.cell? ⟨b, o + k * 3 + 1, none⟩ = some (.slice l[k].a l[k].l.length l[k].c) ∧ w.cell? ⟨b, o + k * 3 + 2, none⟩ = some (.int .i64 l[k].n) := by
  obtain ⟨b, o, e, hc⟩ := h (fun e => by simp [e] at hk)
  exact ⟨b, o, e, hc k hk⟩
theorem HoldsAt.below {w w' : World} {a : Option Addr} {l : List Hd} (h : HoldsAt w a l) (hb : Below w.heap.size w w') : HoldsAt w' a l := fun hl => by
  obtain ⟨b, o, e, hc⟩ := h hl
  refine ⟨b, o, e, fun k hk => ?_⟩
  obtain ⟨h0, h1, h2⟩ := hc k hk
  have hlt : b < w.heap.size := block_lt_of_cell h0
  exact ⟨(hb.cell (p := ⟨b, o + k * 3, none⟩) hlt).trans h0, (hb.cell (p := ⟨b, o + k * 3 + 1, none⟩) hlt).trans h1, (hb.cell (p := ⟨b, o + k * 3 + 2, none⟩) hlt).trans h2⟩
/-- What is asked of holdings that came in. -/
structure CameH (w : World) (a : Option Addr) (l : List Hd) : Prop where
  lies : HoldsAt w a l
  len : l.length ≤ maxLen
  each : ∀ h ∈ l, Came w h.a h.c h.l
theorem CameH.below {w w' : World} {a : Option Addr} {l : List Hd} (h : CameH w a l) (hb : Below w.heap.size w w') : CameH w' a l := ⟨h.lies.below hb, h.len, fun x hx => (h.each x hx).below hb⟩

/-- Are they too many, or too long? -/
def longH (l : List Hd) : Bool := decide (60 < l.length) || l.any fun h => decide (longL h.l ≠ 0)
theorem longH_no {l : List Hd} (h : longH l = false) : l.length ≤ 60 ∧ ∀ x ∈ l, (longL x.l : Int) = 0 := by
  simp only [longH, Bool.or_eq_false_iff, decide_eq_false_iff_not, List.any_eq_false] at h
  refine ⟨by omega, fun x hx => ?_⟩
  have := h.2 x hx
  simp at this
  omega

theorem Tryz.cellsFilesH : Tryz.prog.cellsOf 43 = 1 := by kernel_rfl
theorem Tryz.cellsBoolH : Tryz.prog.cellsOf 4 = 1 := by kernel_rfl
theorem Tryz.cellsIntH : Tryz.prog.cellsOf 3 = 1 := by kernel_rfl
theorem Tryz.laidOutH : laidOutB Tryz.prog = true := by kernel_rfl

set_option maxRecDepth 100000 in
/-- Files in a cell, opened. -/
theorem open_tree {H : Type} {enc : TypeId × Value → H} {W : World} {base : Nat} {sp : Nat → Bool} {held : Bool} {fuel : Nat} {v : Value} {x : DataW H × List MemPlace} (hf : DataW.trod enc Tryz.prog W base sp held fuel 43 [v] = some x) :
    ∃ l a ca, v = .slice a (List.length l) ca ∧ Came W a ca l := by
  rcases open_slice Tryz.underlying43 hf with ⟨hc, _⟩ | ⟨a, len0, cap0, m, n, D, Pl, hc, _, hl, hm, hmm, _, hx⟩
  · have hc' : v = .slice none 0 0 := by simpa using hc
    subst hc'
    exact ⟨[], none, 0, rfl, fun h => absurd rfl h, Nat.le_refl _, Nat.zero_le _, fun f hf => by simp at hf, fun _ => ⟨rfl, rfl⟩⟩
  · have hc' : v = .slice (some a) len0 cap0 := by simpa using hc
    subst hc'
    have hlm : len0 ≤ m := by rw [hmm]; split <;> omega
    have each : ∀ i, i < len0 → ∃ f : F, (∀ j u, (fcells f)[j]? = some u → W.cell? ((a.add (i * 3)).add j) = some u) ∧ f.p.length ≤ maxLen ∧ f.t.length ≤ maxLen := fun i hi => by
      obtain ⟨cs', h1, h2⟩ := hx i (by omega)
      rw [Tryz.cellsFile] at h1
      obtain ⟨_, hlen, hcell⟩ := World.cells?_some h1
      obtain ⟨f, rfl, hp, ht⟩ := open_file h2
      refine ⟨f, fun j u hj => ?_, hp, ht⟩
      have hj3 : j < 3 := (List.getElem?_eq_some_iff.1 hj).1
      rw [hcell j hj3]
      exact hj
    haveI : Inhabited F := ⟨⟨[], false, []⟩⟩
    obtain ⟨q, hq⟩ := choose_lt each
    refine ⟨(List.range len0).map q, some a, cap0, by simp, ?_, by rw [List.length_map, List.length_range]; exact hl, by rw [List.length_map, List.length_range]; omega, fun f hf => ?_, fun h => by cases h⟩
    · intro hne
      have hpos : 0 < len0 := by
        cases len0 with
        | zero => exact absurd rfl hne
        | succ k => omega
      obtain ⟨b, o, spot⟩ := a
      have hspot : spot = none := by
        have := World.cell?_spot ((hq 0 hpos).1 0 _ rfl)
        simpa [Addr.add] using this
      subst hspot
      refine ⟨b, o, rfl, fun k hk => ?_⟩
      have hk' : k < len0 := by simpa using hk
      have hg : ((List.range len0).map q)[k] = q k := by simp
      rw [hg]
      have hc := (hq k hk').1
      have hadd : ∀ j, ((⟨b, o, none⟩ : Addr).add (k * 3)).add j = ⟨b, o + k * 3 + j, none⟩ := fun j => by rw [Addr.add_lit, Addr.add_lit]
      exact ⟨by simpa [hadd] using hc 0 _ rfl, by simpa [hadd] using hc 1 _ rfl, by simpa [hadd] using hc 2 _ rfl⟩
    · obtain ⟨i, hi, rfl⟩ := List.mem_map.1 hf
      exact (hq i (List.mem_range.1 hi)).2

end Go.Proofs.YtmcfkoenpikldaaGreatDoor
