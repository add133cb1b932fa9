/-
  Own texts of the proof, joined by program: Opened, HeldMem, CameRules, WantOpened.
-/
import Derived.Test.YtmcfkoenpikldaaGreatDoorLawTreeCame
import Derived.Deep.Slices
import Derived.OpenShut
import Derived.Carry
import Derived.Test.YtmcfkoenpikldaaGreatDoorRuMemPkMirrorPkRulesPkWays
import Derived.Test.YtmcfkoenpikldaaGreatDoorPkWantPkWantText
/-
  Arguments that are files, opened: what a walk wants of them, out of what the rows say: over this seat's translation.
-/
namespace Go.Proofs.YtmcfkoenpikldaaGreatDoor
open Go.RowKit Go.Shelf Go.ChangeShapes Go.WideShapes Go.Deep

theorem Tryz.cellsFile : Tryz.prog.cellsOf 103 = 3 := by kernel_rfl
theorem Tryz.cellsStr : Tryz.prog.cellsOf 9 = 1 := by kernel_rfl
theorem Tryz.cellsBool : Tryz.prog.cellsOf 4 = 1 := by kernel_rfl
theorem Tryz.laidOut : laidOutB Tryz.prog = true := by kernel_rfl

set_option maxRecDepth 100000 in
/-- A file's cells, opened. -/
theorem open_file {H : Type} {enc : TypeId × Value → H} {W : World} {base : Nat} {sp : Nat → Bool} {held : Bool} {fuel : Nat} {cs : List Value} {x : DataW H × List MemPlace} (h : DataW.trod enc Tryz.prog W base sp held fuel 103 cs = some x) :
    ∃ f : F, cs = fcells f ∧ f.p.length ≤ maxLen ∧ f.t.length ≤ maxLen := by
  obtain ⟨xs, n, _, _, hlen, hxl, hf⟩ := DataW.trod_struct Tryz.underlying103 h
  rw [Tryz.cellsFile] at hlen
  match cs, hlen with
  | [v0, v1, v2], _ =>
    have l3 : xs.length = 3 := hxl
    match xs, l3 with
    | [y0, y1, y2], _ =>
      have g0 : DataW.trod enc Tryz.prog W base sp held n 9 (([v0, v1, v2].drop 0).take (Tryz.prog.cellsOf 9)) = some y0 := hf 0 _ rfl
      have g1 : DataW.trod enc Tryz.prog W base sp held n 4 (([v0, v1, v2].drop 1).take (Tryz.prog.cellsOf 4)) = some y1 := hf 1 _ rfl
      have g2 : DataW.trod enc Tryz.prog W base sp held n 9 (([v0, v1, v2].drop 2).take (Tryz.prog.cellsOf 9)) = some y2 := hf 2 _ rfl
      rw [Tryz.cellsStr] at g0 g2
      rw [Tryz.cellsBool] at g1
      obtain ⟨s, e0, _, hs⟩ := DataW.trod_string Tryz.underlying9 g0
      obtain ⟨b, e1, _⟩ := DataW.trod_bool Tryz.underlying4 g1
      obtain ⟨t, e2, _, ht⟩ := DataW.trod_string Tryz.underlying9 g2
      refine ⟨⟨s.data.toList, b, t.data.toList⟩, ?_, ?_, ?_⟩
      · have e0' : [v0] = [.string s] := e0
        have e1' : [v1] = [.bool b] := e1
        have e2' : [v2] = [.string t] := e2
        cases e0'
        cases e1'
        cases e2'
        rfl
      · exact hs
      · exact ht

set_option maxRecDepth 100000 in
/-- Files among the arguments, opened. -/
theorem open_files {H : Type} {enc : TypeId × Value → H} {W : World} {base : Nat} {sp : Nat → Bool} {held : Bool} {r : Reach} {b0 : Nat} {v : Value} {d : DataW H} {ps : List MemPlace} (hval : Value.okWide Tryz.prog W r b0 43 v) (hd : DataW.Trod enc Tryz.prog W base sp held 43 v d ps) :
    ∃ l a ca, v = .slice a (List.length l) ca ∧ Came W a ca l := by
  obtain ⟨a0, len0, cap0, rfl⟩ := okWide_slice Tryz.underlying43 hval
  obtain ⟨fuel, hf⟩ := hd
  rcases open_slice Tryz.underlying43 hf with ⟨hc, _⟩ | ⟨a, len, cap, m, n, D, Pl, hc, _, hl, hm, hmm, _, hx⟩
  · have hc' : Value.slice a0 len0 cap0 = .slice none 0 0 := by simpa [Value.cells] using hc
    cases hc'
    exact ⟨[], none, 0, rfl, fun h => absurd rfl h, Nat.le_refl _, Nat.zero_le _, fun f hf => by simp at hf, fun _ => ⟨rfl, rfl⟩⟩
  · have hc' : Value.slice a0 len0 cap0 = .slice (some a) len cap := by simpa [Value.cells] using hc
    cases hc'
    have hlm : len0 ≤ m := by rw [hmm]; split <;> omega
    have each : ∀ i, i < len0 → ∃ f : F, (∀ j u, (fcells f)[j]? = some u → W.cell? ((a.add (i * 3)).add j) = some u) ∧ f.p.length ≤ maxLen ∧ f.t.length ≤ maxLen := fun i hi => by
      obtain ⟨cs', h1, h2⟩ := hx i (by omega)
      rw [Tryz.cellsFile] at h1
      obtain ⟨_, hlen, hcell⟩ := World.cells?_some h1
      obtain ⟨f, rfl, hp, ht⟩ := open_file h2
      refine ⟨f, fun j u hj => ?_, hp, ht⟩
      have hj3 : j < 3 := (List.getElem?_eq_some_iff.1 hj).1
      rw [hcell j hj3]
      exact hj
    haveI : Inhabited F := ⟨⟨[], false, []⟩⟩
    obtain ⟨q, hq⟩ := choose_lt each
    refine ⟨(List.range len0).map q, some a, cap0, by simp, ?_, by rw [List.length_map, List.length_range]; exact hl, by rw [List.length_map, List.length_range]; omega, fun f hf => ?_, fun h => by cases h⟩
    · intro hne
      have hpos : 0 < len0 := by
        cases len0 with
        | zero => exact absurd rfl hne
        | succ k => omega
      obtain ⟨b, o, spot⟩ := a
      have hspot : spot = none := by
        have := World.cell?_spot ((hq 0 hpos).1 0 _ rfl)
        simpa [Addr.add] using this
      subst hspot
      refine ⟨b, o, rfl, fun k hk => ?_⟩
      have hk' : k < len0 := by simpa using hk
      have hg : ((List.range len0).map q)[k] = q k := by simp
      rw [hg]
      have hc := (hq k hk').1
      have hadd : ∀ j, ((⟨b, o, none⟩ : Addr).add (k * 3)).add j = ⟨b, o + k * 3 + j, none⟩ := fun j => by rw [Addr.add_lit, Addr.add_lit]
      exact ⟨by simpa [hadd] using hc 0 _ rfl, by simpa [hadd] using hc 1 _ rfl, by simpa [hadd] using hc 2 _ rfl⟩
    · obtain ⟨i, hi, rfl⟩ := List.mem_map.1 hf
      exact (hq i (List.mem_range.1 hi)).2

set_option maxRecDepth 100000 in
/-- A file among the arguments, opened. -/
theorem open_one {H : Type} {enc : TypeId × Value → H} {W : World} {base : Nat} {sp : Nat → Bool} {held : Bool} {r : Reach} {b0 : Nat} {v : Value} {d : DataW H} {ps : List MemPlace} (hval : Value.okWide Tryz.prog W r b0 103 v) (hd : DataW.Trod enc Tryz.prog W base sp held 103 v d ps) :
    ∃ f : F, v = fv f ∧ f.p.length ≤ maxLen ∧ f.t.length ≤ maxLen := by
  obtain ⟨cs, rfl, hcs⟩ := okWide_struct Tryz.underlying103 hval
  obtain ⟨fuel, hf⟩ := hd
  obtain ⟨f, e, hp, ht⟩ := open_file hf
  refine ⟨f, ?_, hp, ht⟩
  have : cs.toList = fcells f := by simpa [Value.cells] using e
  rw [show cs = (fcells f).toArray by rw [← this]]
  rfl
end Go.Proofs.YtmcfkoenpikldaaGreatDoor
/-
  Holdings in memory, three cells each, a tree that each leads to; those that are too long; as an argument, opened: over this seat's translation.
-/
namespace Go.Proofs.YtmcfkoenpikldaaGreatDoor
open Go.RowKit Go.Shelf Go.ChangeShapes Go.WideShapes Go.Deep

/-- A holding: put a tree, or drop by a number. -/
structure Hd where
  put : Bool
  l : List F
  a : Option Addr
  c : Nat
  n : Int
def hdcells (h : Hd) : List Value := [.bool h.put, .slice h.a h.l.length h.c, .int .i64 h.n]
/-- Holdings that lie in memory from an address on. -/
def HoldsAt (w : World) (a : Option Addr) (l : List Hd) : Prop :=
  l ≠ [] → ∃ b o, a = some ⟨b, o, none⟩ ∧ ∀ k (h : k < l.length), w.cell? ⟨b, o + k * 3, none⟩ = some (.bool l[k].put) ∧ w.cell? ⟨b, o + k * 3 + 1, none⟩ = some (.slice l[k].a l[k].l.length l[k].c) ∧ w.cell? ⟨b, o + k * 3 + 2, none⟩ = some (.int .i64 l[k].n)
theorem HoldsAt.at {w : World} {a : Option Addr} {l : List Hd} (h : HoldsAt w a l) {k : Nat} (hk : k < l.length) : ∃ b o, a = some ⟨b, o, none⟩ ∧ w.cell? ⟨b, o + k * 3, none⟩ = some (.bool l[k].put) ∧ w.cell? ⟨b, o + k * 3 + 1, none⟩ = some (.slice l[k].a l[k].l.length l[k].c) ∧ w.cell? ⟨b, o + k * 3 + 2, none⟩ = some (.int .i64 l[k].n) := by
  obtain ⟨b, o, e, hc⟩ := h (fun e => by simp [e] at hk)
  exact ⟨b, o, e, hc k hk⟩
theorem HoldsAt.below {w w' : World} {a : Option Addr} {l : List Hd} (h : HoldsAt w a l) (hb : Below w.heap.size w w') : HoldsAt w' a l := fun hl => by
  obtain ⟨b, o, e, hc⟩ := h hl
  refine ⟨b, o, e, fun k hk => ?_⟩
  obtain ⟨h0, h1, h2⟩ := hc k hk
  have hlt : b < w.heap.size := block_lt_of_cell h0
  exact ⟨(hb.cell (p := ⟨b, o + k * 3, none⟩) hlt).trans h0, (hb.cell (p := ⟨b, o + k * 3 + 1, none⟩) hlt).trans h1, (hb.cell (p := ⟨b, o + k * 3 + 2, none⟩) hlt).trans h2⟩
/-- What is asked of holdings that came in. -/
structure CameH (w : World) (a : Option Addr) (l : List Hd) : Prop where
  lies : HoldsAt w a l
  len : l.length ≤ maxLen
  each : ∀ h ∈ l, Came w h.a h.c h.l
theorem CameH.below {w w' : World} {a : Option Addr} {l : List Hd} (h : CameH w a l) (hb : Below w.heap.size w w') : CameH w' a l := ⟨h.lies.below hb, h.len, fun x hx => (h.each x hx).below hb⟩

/-- Are they too many, or too long? -/
def longH (l : List Hd) : Bool := decide (60 < l.length) || l.any fun h => decide (longL h.l ≠ 0)
theorem longH_no {l : List Hd} (h : longH l = false) : l.length ≤ 60 ∧ ∀ x ∈ l, (longL x.l : Int) = 0 := by
  simp only [longH, Bool.or_eq_false_iff, decide_eq_false_iff_not, List.any_eq_false] at h
  refine ⟨by omega, fun x hx => ?_⟩
  have := h.2 x hx
  simp at this
  omega

theorem Tryz.cellsFilesH : Tryz.prog.cellsOf 43 = 1 := by kernel_rfl
theorem Tryz.cellsBoolH : Tryz.prog.cellsOf 4 = 1 := by kernel_rfl
theorem Tryz.cellsIntH : Tryz.prog.cellsOf 3 = 1 := by kernel_rfl
theorem Tryz.laidOutH : laidOutB Tryz.prog = true := by kernel_rfl

set_option maxRecDepth 100000 in
/-- Files in a cell, opened. -/
theorem open_tree {H : Type} {enc : TypeId × Value → H} {W : World} {base : Nat} {sp : Nat → Bool} {held : Bool} {fuel : Nat} {v : Value} {x : DataW H × List MemPlace} (hf : DataW.trod enc Tryz.prog W base sp held fuel 43 [v] = some x) :
    ∃ l a ca, v = .slice a (List.length l) ca ∧ Came W a ca l := by
  rcases open_slice Tryz.underlying43 hf with ⟨hc, _⟩ | ⟨a, len0, cap0, m, n, D, Pl, hc, _, hl, hm, hmm, _, hx⟩
  · have hc' : v = .slice none 0 0 := by simpa using hc
    subst hc'
    exact ⟨[], none, 0, rfl, fun h => absurd rfl h, Nat.le_refl _, Nat.zero_le _, fun f hf => by simp at hf, fun _ => ⟨rfl, rfl⟩⟩
  · have hc' : v = .slice (some a) len0 cap0 := by simpa using hc
    subst hc'
    have hlm : len0 ≤ m := by rw [hmm]; split <;> omega
    have each : ∀ i, i < len0 → ∃ f : F, (∀ j u, (fcells f)[j]? = some u → W.cell? ((a.add (i * 3)).add j) = some u) ∧ f.p.length ≤ maxLen ∧ f.t.length ≤ maxLen := fun i hi => by
      obtain ⟨cs', h1, h2⟩ := hx i (by omega)
      rw [Tryz.cellsFile] at h1
      obtain ⟨_, hlen, hcell⟩ := World.cells?_some h1
      obtain ⟨f, rfl, hp, ht⟩ := open_file h2
      refine ⟨f, fun j u hj => ?_, hp, ht⟩
      have hj3 : j < 3 := (List.getElem?_eq_some_iff.1 hj).1
      rw [hcell j hj3]
      exact hj
    haveI : Inhabited F := ⟨⟨[], false, []⟩⟩
    obtain ⟨q, hq⟩ := choose_lt each
    refine ⟨(List.range len0).map q, some a, cap0, by simp, ?_, by rw [List.length_map, List.length_range]; exact hl, by rw [List.length_map, List.length_range]; omega, fun f hf => ?_, fun h => by cases h⟩
    · intro hne
      have hpos : 0 < len0 := by
        cases len0 with
        | zero => exact absurd rfl hne
        | succ k => omega
      obtain ⟨b, o, spot⟩ := a
      have hspot : spot = none := by
        have := World.cell?_spot ((hq 0 hpos).1 0 _ rfl)
        simpa [Addr.add] using this
      subst hspot
      refine ⟨b, o, rfl, fun k hk => ?_⟩
      have hk' : k < len0 := by simpa using hk
      have hg : ((List.range len0).map q)[k] = q k := by simp
      rw [hg]
      have hc := (hq k hk').1
      have hadd : ∀ j, ((⟨b, o, none⟩ : Addr).add (k * 3)).add j = ⟨b, o + k * 3 + j, none⟩ := fun j => by rw [Addr.add_lit, Addr.add_lit]
      exact ⟨by simpa [hadd] using hc 0 _ rfl, by simpa [hadd] using hc 1 _ rfl, by simpa [hadd] using hc 2 _ rfl⟩
    · obtain ⟨i, hi, rfl⟩ := List.mem_map.1 hf
      exact (hq i (List.mem_range.1 hi)).2

end Go.Proofs.YtmcfkoenpikldaaGreatDoor
/-
  Rules that came in, as an argument: what a walk asks of them, and how they are opened: over this seat's translation.
-/
namespace Go.Proofs.YtmcfkoenpikldaaGreatDoor
open Go.RowKit Go.Shelf Go.ChangeShapes Go.WideShapes Go.Deep

/-- What is asked of rules that came in. -/
structure CameR (w : World) (a : Option Addr) (ca : Nat) (l : List Ru) : Prop where
  lies : RulesAt w a l
  cap : l.length ≤ ca
  len : l.length ≤ maxLen
  texts : ∀ r ∈ l, r.f.length ≤ maxLen ∧ r.t.length ≤ maxLen ∧ ∀ t ∈ r.t, t.length ≤ maxLen
  nil : a = none → ca = 0 ∧ l = []

theorem Tryz.cellsRule : Tryz.prog.cellsOf 126 = 2 := by kernel_rfl
theorem Tryz.cellsText : Tryz.prog.cellsOf 9 = 1 := by kernel_rfl
theorem Tryz.cellsTexts : Tryz.prog.cellsOf 35 = 1 := by kernel_rfl
theorem Tryz.laidOutR : laidOutB Tryz.prog = true := by kernel_rfl

set_option maxRecDepth 100000 in
/-- Texts, opened. -/
theorem open_texts {H : Type} {enc : TypeId × Value → H} {W : World} {base : Nat} {sp : Nat → Bool} {held : Bool} {fuel : Nat} {v : Value} {x : DataW H × List MemPlace} (h : DataW.trod enc Tryz.prog W base sp held fuel 35 [v] = some x) :
    ∃ (t : List (List UInt8)) (a : Option Addr) (c : Nat), v = .slice a t.length c ∧ TextsAt W a t ∧ t.length ≤ c ∧ t.length ≤ maxLen ∧ (∀ s ∈ t, s.length ≤ maxLen) ∧ (a = none → c = 0 ∧ t = []) := by
  rcases open_slice Tryz.underlying35 h with ⟨hc, _⟩ | ⟨a, len, cap, m, n, D, Pl, hc, _, hl, hm, hmm, _, hx⟩
  · have hc' : v = .slice none 0 0 := by simpa using hc
    exact ⟨[], none, 0, hc', fun h => absurd rfl h, Nat.le_refl _, Nat.zero_le _, fun f hf => by simp at hf, fun _ => ⟨rfl, rfl⟩⟩
  · have hc' : v = .slice (some a) len cap := by simpa using hc
    have hlm : len ≤ m := by rw [hmm]; split <;> omega
    have each : ∀ i, i < len → ∃ s : List UInt8, W.cell? ((a.add (i * 1)).add 0) = some (sv s) ∧ s.length ≤ maxLen := fun i hi => by
      obtain ⟨cs', h1, h2⟩ := hx i (by omega)
      rw [Tryz.cellsText] at h1
      obtain ⟨_, hlen, hcell⟩ := World.cells?_some h1
      obtain ⟨s, e0, _, hs⟩ := DataW.trod_string Tryz.underlying9 h2
      refine ⟨s.data.toList, ?_, hs⟩
      have h3 := hcell 0 (by decide)
      rw [e0] at h3
      have es : (⟨s.data.toList.toArray⟩ : ByteArray) = s := by cases s; simp
      show W.cell? _ = some (.string ⟨s.data.toList.toArray⟩)
      rw [es]
      exact h3
    obtain ⟨q, hq⟩ := choose_lt each
    refine ⟨(List.range len).map q, some a, cap, by rw [hc']; simp, ?_, by rw [List.length_map, List.length_range]; exact hl, by rw [List.length_map, List.length_range]; omega, fun f hf => ?_, fun h => by cases h⟩
    · intro hne
      have hpos : 0 < len := by
        cases len with
        | zero => exact absurd rfl hne
        | succ k => omega
      obtain ⟨b, o, spot⟩ := a
      have hspot : spot = none := by
        have := World.cell?_spot ((hq 0 hpos).1)
        simpa [Addr.add] using this
      subst hspot
      refine ⟨b, o, rfl, fun k hk => ?_⟩
      have hk' : k < len := by simpa using hk
      have hg : ((List.range len).map q)[k] = q k := by simp
      rw [hg]
      have hcq := (hq k hk').1
      rw [Addr.add_lit, Addr.add_lit, Nat.mul_one, Nat.add_zero] at hcq
      exact hcq
    · obtain ⟨i, hi, rfl⟩ := List.mem_map.1 hf
      exact (hq i (List.mem_range.1 hi)).2

set_option maxRecDepth 100000 in
/-- A rule's cells, opened. -/
theorem open_rule {H : Type} {enc : TypeId × Value → H} {W : World} {base : Nat} {sp : Nat → Bool} {held : Bool} {fuel : Nat} {cs : List Value} {x : DataW H × List MemPlace} (h : DataW.trod enc Tryz.prog W base sp held fuel 126 cs = some x) :
    ∃ r : Ru, cs = rucells r ∧ r.Lies W ∧ r.f.length ≤ maxLen ∧ r.t.length ≤ maxLen ∧ ∀ t ∈ r.t, t.length ≤ maxLen := by
  obtain ⟨xs, n, _, _, hlen, hxl, hf⟩ := DataW.trod_struct Tryz.underlying126 h
  rw [Tryz.cellsRule] at hlen
  match cs, hlen with
  | [v0, v1], _ =>
    have l2 : xs.length = 2 := hxl
    match xs, l2 with
    | [y0, y1], _ =>
      have g0 : DataW.trod enc Tryz.prog W base sp held n 9 (([v0, v1].drop 0).take (Tryz.prog.cellsOf 9)) = some y0 := hf 0 _ rfl
      have g1 : DataW.trod enc Tryz.prog W base sp held n 35 (([v0, v1].drop 1).take (Tryz.prog.cellsOf 35)) = some y1 := hf 1 _ rfl
      rw [Tryz.cellsText] at g0
      rw [Tryz.cellsTexts] at g1
      obtain ⟨s, e0, _, hs⟩ := DataW.trod_string Tryz.underlying9 g0
      have g1' : DataW.trod enc Tryz.prog W base sp held n 35 [v1] = some y1 := g1
      obtain ⟨t, a, c, e1, ht, hc, hm, htt, hn⟩ := open_texts g1'
      refine ⟨⟨s.data.toList, t, a, c⟩, ?_, ⟨ht, hc, hn⟩, hs, hm, htt⟩
      have e0' : [v0] = [.string s] := e0
      cases e0'
      cases e1
      rfl

set_option maxRecDepth 100000 in
/-- Rules among the arguments, opened. -/
theorem open_rules {H : Type} {enc : TypeId × Value → H} {W : World} {base : Nat} {sp : Nat → Bool} {held : Bool} {r : Reach} {b0 : Nat} {v : Value} {d : DataW H} {ps : List MemPlace} (hval : Value.okWide Tryz.prog W r b0 23 v) (hd : DataW.Trod enc Tryz.prog W base sp held 23 v d ps) :
    ∃ l a ca, v = .slice a (List.length l) ca ∧ CameR W a ca l := by
  obtain ⟨a0, len0, cap0, rfl⟩ := okWide_slice Tryz.underlying23 hval
  obtain ⟨fuel, hf⟩ := hd
  rcases open_slice Tryz.underlying23 hf with ⟨hc, _⟩ | ⟨a, len, cap, m, n, D, Pl, hc, _, hl, hm, hmm, _, hx⟩
  · have hc' : Value.slice a0 len0 cap0 = .slice none 0 0 := by simpa [Value.cells] using hc
    cases hc'
    exact ⟨[], none, 0, rfl, ⟨fun r hr => by simp at hr, fun h => absurd rfl h⟩, Nat.le_refl _, Nat.zero_le _, fun f hf => by simp at hf, fun _ => ⟨rfl, rfl⟩⟩
  · have hc' : Value.slice a0 len0 cap0 = .slice (some a) len cap := by simpa [Value.cells] using hc
    cases hc'
    have hlm : len0 ≤ m := by rw [hmm]; split <;> omega
    have each : ∀ i, i < len0 → ∃ r : Ru, (∀ j u, (rucells r)[j]? = some u → W.cell? ((a.add (i * 2)).add j) = some u) ∧ r.Lies W ∧ r.f.length ≤ maxLen ∧ r.t.length ≤ maxLen ∧ ∀ t ∈ r.t, t.length ≤ maxLen := fun i hi => by
      obtain ⟨cs', h1, h2⟩ := hx i (by omega)
      rw [Tryz.cellsRule] at h1
      obtain ⟨_, hlen, hcell⟩ := World.cells?_some h1
      obtain ⟨r, rfl, hp⟩ := open_rule h2
      refine ⟨r, fun j u hj => ?_, hp⟩
      have hj2 : j < 2 := (List.getElem?_eq_some_iff.1 hj).1
      rw [hcell j hj2]
      exact hj
    haveI : Inhabited Ru := ⟨⟨[], [], none, 0⟩⟩
    obtain ⟨q, hq⟩ := choose_lt each
    refine ⟨(List.range len0).map q, some a, cap0, by simp, ⟨fun r hr => ?_, ?_⟩, by rw [List.length_map, List.length_range]; exact hl, by rw [List.length_map, List.length_range]; omega, fun f hf => ?_, fun h => by cases h⟩
    · obtain ⟨i, hi, rfl⟩ := List.mem_map.1 hr
      exact (hq i (List.mem_range.1 hi)).2.1
    · intro hne
      have hpos : 0 < len0 := by
        cases len0 with
        | zero => exact absurd rfl hne
        | succ k => omega
      obtain ⟨b, o, spot⟩ := a
      have hspot : spot = none := by
        have := World.cell?_spot ((hq 0 hpos).1 0 _ rfl)
        simpa [Addr.add] using this
      subst hspot
      refine ⟨b, o, rfl, fun k hk => ?_⟩
      have hk' : k < len0 := by simpa using hk
      have hg : ((List.range len0).map q)[k] = q k := by simp
      rw [hg]
      have hcq := (hq k hk').1
      have hadd : ∀ j, ((⟨b, o, none⟩ : Addr).add (k * 2)).add j = ⟨b, o + k * 2 + j, none⟩ := fun j => by rw [Addr.add_lit, Addr.add_lit]
      exact ⟨by simpa [hadd] using hcq 0 _ rfl, by simpa [hadd] using hcq 1 _ rfl⟩
    · obtain ⟨i, hi, rfl⟩ := List.mem_map.1 hf
      exact (hq i (List.mem_range.1 hi)).2.2
end Go.Proofs.YtmcfkoenpikldaaGreatDoor
/-
  What is wanted, as an argument, opened: over this seat's translation.
-/
namespace Go.Proofs.YtmcfkoenpikldaaGreatDoor
open Go.RowKit Go.Shelf Go.ChangeShapes Go.WideShapes Go.Deep

theorem Tryz.cellsWant : Tryz.prog.cellsOf 25 = 5 := by kernel_rfl
theorem Tryz.cellsInt : Tryz.prog.cellsOf 3 = 1 := by kernel_rfl

set_option maxRecDepth 100000 in
theorem open_want {H : Type} {enc : TypeId × Value → H} {W : World} {base : Nat} {sp : Nat → Bool} {held : Bool} {r : Reach} {b0 : Nat} {v : Value} {d : DataW H} {ps : List MemPlace} (hval : Value.okWide Tryz.prog W r b0 25 v) (hd : DataW.Trod enc Tryz.prog W base sp held 25 v d ps) :
    ∃ (n u k : List UInt8) (s m : Int), v = wv ⟨n, u, k, s, m⟩ := by
  obtain ⟨cs, rfl, hcs⟩ := okWide_struct Tryz.underlying25 hval
  obtain ⟨fuel, h⟩ := hd
  have hcl : (Value.agg cs).cells.toList = cs.toList := by simp [Value.cells]
  rw [hcl] at h
  obtain ⟨xs, q, _, _, hlen, hxl, hf⟩ := DataW.trod_struct Tryz.underlying25 h
  rw [Tryz.cellsWant] at hlen
  generalize hcs2 : cs.toList = l at h hlen hxl hf
  match l, hlen with
  | [v0, v1, v2, v3, v4], _ =>
    have l5 : xs.length = 5 := hxl
    match xs, l5 with
    | [y0, y1, y2, y3, y4], _ =>
      have g0 : DataW.trod enc Tryz.prog W base sp held q 9 (([v0, v1, v2, v3, v4].drop 0).take (Tryz.prog.cellsOf 9)) = some y0 := hf 0 _ rfl
      have g1 : DataW.trod enc Tryz.prog W base sp held q 9 (([v0, v1, v2, v3, v4].drop 1).take (Tryz.prog.cellsOf 9)) = some y1 := hf 1 _ rfl
      have g2 : DataW.trod enc Tryz.prog W base sp held q 9 (([v0, v1, v2, v3, v4].drop 2).take (Tryz.prog.cellsOf 9)) = some y2 := hf 2 _ rfl
      have g3 : DataW.trod enc Tryz.prog W base sp held q 3 (([v0, v1, v2, v3, v4].drop 3).take (Tryz.prog.cellsOf 3)) = some y3 := hf 3 _ rfl
      have g4 : DataW.trod enc Tryz.prog W base sp held q 3 (([v0, v1, v2, v3, v4].drop 4).take (Tryz.prog.cellsOf 3)) = some y4 := hf 4 _ rfl
      rw [Tryz.cellsStr] at g0 g1 g2
      rw [Tryz.cellsInt] at g3 g4
      obtain ⟨s0, e0, _, _⟩ := DataW.trod_string Tryz.underlying9 g0
      obtain ⟨s1, e1, _, _⟩ := DataW.trod_string Tryz.underlying9 g1
      obtain ⟨s2, e2, _, _⟩ := DataW.trod_string Tryz.underlying9 g2
      obtain ⟨i3, e3, _⟩ := DataW.trod_int Tryz.underlying3 g3
      obtain ⟨i4, e4, _⟩ := DataW.trod_int Tryz.underlying3 g4
      have e0' : [v0] = [.string s0] := e0
      have e1' : [v1] = [.string s1] := e1
      have e2' : [v2] = [.string s2] := e2
      have e3' : [v3] = [.int .i64 i3] := e3
      have e4' : [v4] = [.int .i64 i4] := e4
      cases e0'
      cases e1'
      cases e2'
      cases e3'
      cases e4'
      refine ⟨s0.data.toList, s1.data.toList, s2.data.toList, i3, i4, ?_⟩
      have hcs3 : cs = #[.string s0, .string s1, .string s2, .int .i64 i3, .int .i64 i4] := by
        rw [← Array.toList_inj]
        exact hcs2
      rw [hcs3]
end Go.Proofs.YtmcfkoenpikldaaGreatDoor
