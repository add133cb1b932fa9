/-
  Rules that came in, as an argument: what a walk asks of them, and how they are opened: over this seat's translation.
-/
import Derived.Test.YtmpfjambenkeeaaDoorRuMem
import Derived.Deep.Slices
import Derived.OpenShut
import Derived.Carry
namespace Go.Proofs.YtmpfjambenkeeaaDoor
open Go.RowKit Go.Shelf Go.ChangeShapes Go.WideShapes Go.Deep

/-- What is asked of rules that came in. -/
structure CameR (w : World) (a : Option Addr) (ca : Nat) (l : List Ru) : Prop where
  lies : RulesAt w a l
  cap : l.length ≤ ca
  len : l.length ≤ maxLen
  texts : ∀ r ∈ l, r.f.length ≤ maxLen ∧ r.t.length ≤ maxLen ∧ ∀ t ∈ r.t, t.length ≤ maxLen
  nil : a = none → ca = 0 ∧ l = []

theorem Tryd.cellsRule : Tryd.prog.cellsOf 45 = 2 := by kernel_rfl
theorem Tryd.cellsText : Tryd.prog.cellsOf 9 = 1 := by kernel_rfl
theorem Tryd.cellsTexts : Tryd.prog.cellsOf 34 = 1 := by kernel_rfl
theorem Tryd.laidOutR : laidOutB Tryd.prog = true := by kernel_rfl

set_option maxRecDepth 100000 in
/-- Texts, opened. -/
theorem open_texts {H : Type} {enc : TypeId × Value → H} {W : World} {base : Nat} {sp : Nat → Bool} {held : Bool} {fuel : Nat} {v : Value} {x : DataW H × List MemPlace} (h : DataW.trod enc Tryd.prog W base sp held fuel 34 [v] = some x) :
    ∃ (t : List (List UInt8)) (a : Option Addr) (c : Nat), v = .slice a t.length c ∧ TextsAt W a t ∧ t.length ≤ c ∧ t.length ≤ maxLen ∧ (∀ s ∈ t, s.length ≤ maxLen) ∧ (a = none → c = 0 ∧ t = []) := by
  rcases open_slice Tryd.underlying34 h with ⟨hc, _⟩ | ⟨a, len, cap, m, n, D, Pl, hc, _, hl, hm, hmm, _, hx⟩
  · have hc' : v = .slice none 0 0 := by simpa using hc
    exact ⟨[], none, 0, hc', fun h => absurd rfl h, Nat.le_refl _, Nat.zero_le _, fun f hf => by simp at hf, fun _ => ⟨rfl, rfl⟩⟩
  · have hc' : v = .slice (some a) len cap := by simpa using hc
    have hlm : len ≤ m := by rw [hmm]; split <;> omega
    have each : ∀ i, i < len → ∃ s : List UInt8, W.cell? ((a.add (i * 1)).add 0) = some (sv s) ∧ s.length ≤ maxLen := fun i hi => by
      obtain ⟨cs', h1, h2⟩ := hx i (by omega)
      rw [Tryd.cellsText] at h1
      obtain ⟨_, hlen, hcell⟩ := World.cells?_some h1
      obtain ⟨s, e0, _, hs⟩ := DataW.trod_string Tryd.underlying9 h2
      refine ⟨s.data.toList, ?_, hs⟩
      have h3 := hcell 0 (by decide)
      rw [e0] at h3
      have es : (⟨s.data.toList.toArray⟩ : ByteArray) = s := by cases s; simp
      show W.cell? _ = some (.string ⟨s.data.toList.toArray⟩)
      rw [es]
      exact h3
    obtain ⟨q, hq⟩ := choose_lt each
    refine ⟨(List.range len).map q, some a, cap, by rw [hc']; simp, ?_, by rw [List.length_map, List.length_range]; exact hl, by rw [List.length_map, List.length_range]; omega, fun f hf => ?_, fun h => by cases h⟩
    · intro hne
      have hpos : 0 < len := by
        cases len with
        | zero => exact absurd rfl hne
        | succ k => omega
      obtain ⟨b, o, spot⟩ := a
      have hspot : spot = none := by
        have := World.cell?_spot ((hq 0 hpos).1)
        simpa [Addr.add] using this
      subst hspot
      refine ⟨b, o, rfl, fun k hk => ?_⟩
      have hk' : k < len := by simpa using hk
      have hg : ((List.range len).map q)[k] = q k := by simp
      rw [hg]
      have hcq := (hq k hk').1
      rw [Addr.add_lit, Addr.add_lit, Nat.mul_one, Nat.add_zero] at hcq
      exact hcq
    · obtain ⟨i, hi, rfl⟩ := List.mem_map.1 hf
      exact (hq i (List.mem_range.1 hi)).2

set_option maxRecDepth 100000 in
/-- A rule's cells, opened. -/
theorem open_rule {H : Type} {enc : TypeId × Value → H} {W : World} {base : Nat} {sp : Nat → Bool} {held : Bool} {fuel : Nat} {cs : List Value} {x : DataW H × List MemPlace} (h : DataW.trod enc Tryd.prog W base sp held fuel 45 cs = some x) :
    ∃ r : Ru, cs = rucells r ∧ r.Lies W ∧ r.f.length ≤ maxLen ∧ r.t.length ≤ maxLen ∧ ∀ t ∈ r.t, t.length ≤ maxLen := by
  obtain ⟨xs, n, _, _, hlen, hxl, hf⟩ := DataW.trod_struct Tryd.underlying45 h
  rw [Tryd.cellsRule] at hlen
  match cs, hlen with
  | [v0, v1], _ =>
    have l2 : xs.length = 2 := hxl
    match xs, l2 with
    | [y0, y1], _ =>
      have g0 : DataW.trod enc Tryd.prog W base sp held n 9 (([v0, v1].drop 0).take (Tryd.prog.cellsOf 9)) = some y0 := hf 0 _ rfl
      have g1 : DataW.trod enc Tryd.prog W base sp held n 34 (([v0, v1].drop 1).take (Tryd.prog.cellsOf 34)) = some y1 := hf 1 _ rfl
      rw [Tryd.cellsText] at g0
      rw [Tryd.cellsTexts] at g1
      obtain ⟨s, e0, _, hs⟩ := DataW.trod_string Tryd.underlying9 g0
      have g1' : DataW.trod enc Tryd.prog W base sp held n 34 [v1] = some y1 := g1
      obtain ⟨t, a, c, e1, ht, hc, hm, htt, hn⟩ := open_texts g1'
      refine ⟨⟨s.data.toList, t, a, c⟩, ?_, ⟨ht, hc, hn⟩, hs, hm, htt⟩
      have e0' : [v0] = [.string s] := e0
      cases e0'
      cases e1
      rfl

set_option maxRecDepth 100000 in
/-- Rules among the arguments, opened. -/
theorem open_rules {H : Type} {enc : TypeId × Value → H} {W : World} {base : Nat} {sp : Nat → Bool} {held : Bool} {r : Reach} {b0 : Nat} {v : Value} {d : DataW H} {ps : List MemPlace} (hval : Value.okWide Tryd.prog W r b0 39 v) (hd : DataW.Trod enc Tryd.prog W base sp held 39 v d ps) :
    ∃ l a ca, v = .slice a (List.length l) ca ∧ CameR W a ca l := by
  obtain ⟨a0, len0, cap0, rfl⟩ := okWide_slice Tryd.underlying39 hval
  obtain ⟨fuel, hf⟩ := hd
  rcases open_slice Tryd.underlying39 hf with ⟨hc, _⟩ | ⟨a, len, cap, m, n, D, Pl, hc, _, hl, hm, hmm, _, hx⟩
  · have hc' : Value.slice a0 len0 cap0 = .slice none 0 0 := by simpa [Value.cells] using hc
    cases hc'
    exact ⟨[], none, 0, rfl, ⟨fun r hr => by simp at hr, fun h => absurd rfl h⟩, Nat.le_refl _, Nat.zero_le _, fun f hf => by simp at hf, fun _ => ⟨rfl, rfl⟩⟩
  · have hc' : Value.slice a0 len0 cap0 = .slice (some a) len cap := by simpa [Value.cells] using hc
    cases hc'
    have hlm : len0 ≤ m := by rw [hmm]; split <;> omega
    have each : ∀ i, i < len0 → ∃ r : Ru, (∀ j u, (rucells r)[j]? = some u → W.cell? ((a.add (i * 2)).add j) = some u) ∧ r.Lies W ∧ r.f.length ≤ maxLen ∧ r.t.length ≤ maxLen ∧ ∀ t ∈ r.t, t.length ≤ maxLen := fun i hi => by
      obtain ⟨cs', h1, h2⟩ := hx i (by omega)
      rw [Tryd.cellsRule] at h1
      obtain ⟨_, hlen, hcell⟩ := World.cells?_some h1
      obtain ⟨r, rfl, hp⟩ := open_rule h2
      refine ⟨r, fun j u hj => ?_, hp⟩
      have hj2 : j < 2 := (List.getElem?_eq_some_iff.1 hj).1
      rw [hcell j hj2]
      exact hj
    haveI : Inhabited Ru := ⟨⟨[], [], none, 0⟩⟩
    obtain ⟨q, hq⟩ := choose_lt each
    refine ⟨(List.range len0).map q, some a, cap0, by simp, ⟨fun r hr => ?_, ?_⟩, by rw [List.length_map, List.length_range]; exact hl, by rw [List.length_map, List.length_range]; omega, fun f hf => ?_, fun h => by cases h⟩
    · obtain ⟨i, hi, rfl⟩ := List.mem_map.1 hr
      exact (hq i (List.mem_range.1 hi)).2.1
    · intro hne
      have hpos : 0 < len0 := by
        cases len0 with
        | zero => exact absurd rfl hne
        | succ k => omega
      obtain ⟨b, o, spot⟩ := a
      have hspot : spot = none := by
        have := World.cell?_spot ((hq 0 hpos).1 0 _ rfl)
        simpa [Addr.add] using this
      subst hspot
      refine ⟨b, o, rfl, fun k hk => ?_⟩
      have hk' : k < len0 := by simpa using hk
      have hg : ((List.range len0).map q)[k] = q k := by simp
      rw [hg]
      have hcq := (hq k hk').1
      have hadd : ∀ j, ((⟨b, o, none⟩ : Addr).add (k * 2)).add j = ⟨b, o + k * 2 + j, none⟩ := fun j => by rw [Addr.add_lit, Addr.add_lit]
      exact ⟨by simpa [hadd] using hcq 0 _ rfl, by simpa [hadd] using hcq 1 _ rfl⟩
    · obtain ⟨i, hi, rfl⟩ := List.mem_map.1 hf
      exact (hq i (List.mem_range.1 hi)).2.2
end Go.Proofs.YtmpfjambenkeeaaDoor
