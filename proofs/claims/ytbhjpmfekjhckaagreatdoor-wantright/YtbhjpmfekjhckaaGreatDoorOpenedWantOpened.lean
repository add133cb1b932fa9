/-
  Own texts of the proof, joined by program: Opened, WantOpened.
-/
import Derived.Test.YtbhjpmfekjhckaaGreatDoorLawTreeCame
import Derived.Deep.Slices
import Derived.OpenShut
import Derived.Carry
import Derived.Test.YtbhjpmfekjhckaaGreatDoorPkWantPkWantText
/-
  Arguments that are files, opened: what a walk wants of them, out of what the rows say: over this seat's translation.
-/
namespace Go.Proofs.YtbhjpmfekjhckaaGreatDoor
open Go.RowKit Go.Shelf Go.ChangeShapes Go.WideShapes Go.Deep

theorem Tryz.cellsFile : Tryz.prog.cellsOf 49 = 3 := by kernel_rfl
theorem Tryz.cellsStr : Tryz.prog.cellsOf 9 = 1 := by kernel_rfl
theorem Tryz.cellsBool : Tryz.prog.cellsOf 4 = 1 := by kernel_rfl
theorem Tryz.laidOut : laidOutB Tryz.prog = true := by kernel_rfl

set_option maxRecDepth 100000 in
/-- A file's cells, opened. -/
theorem open_file {H : Type} {enc : TypeId × Value → H} {W : World} {base : Nat} {sp : Nat → Bool} {held : Bool} {fuel : Nat} {cs : List Value} {x : DataW H × List MemPlace} (h : DataW.trod enc Tryz.prog W base sp held fuel 49 cs = some x) :
    ∃ f : F, cs = fcells f ∧ f.p.length ≤ maxLen ∧ f.t.length ≤ maxLen := by
  obtain ⟨xs, n, _, _, hlen, hxl, hf⟩ := DataW.trod_struct Tryz.underlying49 h
  rw [Tryz.cellsFile] at hlen
  match cs, hlen with
  | [v0, v1, v2], _ =>
    have l3 : xs.length = 3 := hxl
    match xs, l3 with
    | [y0, y1, y2], _ =>
      have g0 : DataW.trod enc Tryz.prog W base sp held n 9 (([v0, v1, v2].drop 0).take (Tryz.prog.cellsOf 9)) = some y0 := hf 0 _ rfl
      have g1 : DataW.trod enc Tryz.prog W base sp held n 4 (([v0, v1, v2].drop 1).take (Tryz.prog.cellsOf 4)) = some y1 := hf 1 _ rfl
      have g2 : DataW.trod enc Tryz.prog W base sp held n 9 (([v0, v1, v2].drop 2).take (Tryz.prog.cellsOf 9)) = some y2 := hf 2 _ rfl
      rw [Tryz.cellsStr] at g0 g2
      rw [Tryz.cellsBool] at g1
      obtain ⟨s, e0, _, hs⟩ := DataW.trod_string Tryz.underlying9 g0
      obtain ⟨b, e1, _⟩ := DataW.trod_bool Tryz.underlying4 g1
      obtain ⟨t, e2, _, ht⟩ := DataW.trod_string Tryz.underlying9 g2
      refine ⟨⟨s.data.toList, b, t.data.toList⟩, ?_, ?_, ?_⟩
      · have e0' : [v0] = [.string s] := e0
        have e1' : [v1] = [.bool b] := e1
        have e2' : [v2] = [.string t] := e2
        cases e0'
        cases e1'
        cases e2'
        rfl
      · exact hs
      · exact ht

set_option maxRecDepth 100000 in
/-- Files among the arguments, opened. -/
theorem open_files {H : Type} {enc : TypeId × Value → H} {W : World} {base : Nat} {sp : Nat → Bool} {held : Bool} {r : Reach} {b0 : Nat} {v : Value} {d : DataW H} {ps : List MemPlace} (hval : Value.okWide Tryz.prog W r b0 24 v) (hd : DataW.Trod enc Tryz.prog W base sp held 24 v d ps) :
    ∃ l a ca, v = .slice a (List.length l) ca ∧ Came W a ca l := by
  obtain ⟨a0, len0, cap0, rfl⟩ := okWide_slice Tryz.underlying24 hval
  obtain ⟨fuel, hf⟩ := hd
  rcases open_slice Tryz.underlying24 hf with ⟨hc, _⟩ | ⟨a, len, cap, m, n, D, Pl, hc, _, hl, hm, hmm, _, hx⟩
  · have hc' : Value.slice a0 len0 cap0 = .slice none 0 0 := by simpa [Value.cells] using hc
    cases hc'
    exact ⟨[], none, 0, rfl, fun h => absurd rfl h, Nat.le_refl _, Nat.zero_le _, fun f hf => by simp at hf, fun _ => ⟨rfl, rfl⟩⟩
  · have hc' : Value.slice a0 len0 cap0 = .slice (some a) len cap := by simpa [Value.cells] using hc
    cases hc'
    have hlm : len0 ≤ m := by rw [hmm]; split <;> omega
    have each : ∀ i, i < len0 → ∃ f : F, (∀ j u, (fcells f)[j]? = some u → W.cell? ((a.add (i * 3)).add j) = some u) ∧ f.p.length ≤ maxLen ∧ f.t.length ≤ maxLen := fun i hi => by
      obtain ⟨cs', h1, h2⟩ := hx i (by omega)
      rw [Tryz.cellsFile] at h1
      obtain ⟨_, hlen, hcell⟩ := World.cells?_some h1
      obtain ⟨f, rfl, hp, ht⟩ := open_file h2
      refine ⟨f, fun j u hj => ?_, hp, ht⟩
      have hj3 : j < 3 := (List.getElem?_eq_some_iff.1 hj).1
      rw [hcell j hj3]
      exact hj
    haveI : Inhabited F := ⟨⟨[], false, []⟩⟩
    obtain ⟨q, hq⟩ := choose_lt each
    refine ⟨(List.range len0).map q, some a, cap0, by simp, ?_, by rw [List.length_map, List.length_range]; exact hl, by rw [List.length_map, List.length_range]; omega, fun f hf => ?_, fun h => by cases h⟩
    · intro hne
      have hpos : 0 < len0 := by
        cases len0 with
        | zero => exact absurd rfl hne
        | succ k => omega
      obtain ⟨b, o, spot⟩ := a
      have hspot : spot = none := by
        have := World.cell?_spot ((hq 0 hpos).1 0 _ rfl)
        simpa [Addr.add] using this
      subst hspot
      refine ⟨b, o, rfl, fun k hk => ?_⟩
      have hk' : k < len0 := by simpa using hk
      have hg : ((List.range len0).map q)[k] = q k := by simp
      rw [hg]
      have hc := (hq k hk').1
      have hadd : ∀ j, ((⟨b, o, none⟩ : Addr).add (k * 3)).add j = ⟨b, o + k * 3 + j, none⟩ := fun j => by rw [Addr.add_lit, Addr.add_lit]
      exact ⟨by simpa [hadd] using hc 0 _ rfl, by simpa [hadd] using hc 1 _ rfl, by simpa [hadd] using hc 2 _ rfl⟩
    · obtain ⟨i, hi, rfl⟩ := List.mem_map.1 hf
      exact (hq i (List.mem_range.1 hi)).2

set_option maxRecDepth 100000 in
/-- A file among the arguments, opened. -/
theorem open_one {H : Type} {enc : TypeId × Value → H} {W : World} {base : Nat} {sp : Nat → Bool} {held : Bool} {r : Reach} {b0 : Nat} {v : Value} {d : DataW H} {ps : List MemPlace} (hval : Value.okWide Tryz.prog W r b0 49 v) (hd : DataW.Trod enc Tryz.prog W base sp held 49 v d ps) :
    ∃ f : F, v = fv f ∧ f.p.length ≤ maxLen ∧ f.t.length ≤ maxLen := by
  obtain ⟨cs, rfl, hcs⟩ := okWide_struct Tryz.underlying49 hval
  obtain ⟨fuel, hf⟩ := hd
  obtain ⟨f, e, hp, ht⟩ := open_file hf
  refine ⟨f, ?_, hp, ht⟩
  have : cs.toList = fcells f := by simpa [Value.cells] using e
  rw [show cs = (fcells f).toArray by rw [← this]]
  rfl
end Go.Proofs.YtbhjpmfekjhckaaGreatDoor
/-
  What is wanted, as an argument, opened: over this seat's translation.
-/
namespace Go.Proofs.YtbhjpmfekjhckaaGreatDoor
open Go.RowKit Go.Shelf Go.ChangeShapes Go.WideShapes Go.Deep

theorem Tryz.cellsWant : Tryz.prog.cellsOf 23 = 5 := by kernel_rfl
theorem Tryz.cellsInt : Tryz.prog.cellsOf 3 = 1 := by kernel_rfl

set_option maxRecDepth 100000 in
theorem open_want {H : Type} {enc : TypeId × Value → H} {W : World} {base : Nat} {sp : Nat → Bool} {held : Bool} {r : Reach} {b0 : Nat} {v : Value} {d : DataW H} {ps : List MemPlace} (hval : Value.okWide Tryz.prog W r b0 23 v) (hd : DataW.Trod enc Tryz.prog W base sp held 23 v d ps) :
    ∃ (n u k : List UInt8) (s m : Int), v = wv ⟨n, u, k, s, m⟩ := by
  obtain ⟨cs, rfl, hcs⟩ := okWide_struct Tryz.underlying23 hval
  obtain ⟨fuel, h⟩ := hd
  have hcl : (Value.agg cs).cells.toList = cs.toList := by simp [Value.cells]
  rw [hcl] at h
  obtain ⟨xs, q, _, _, hlen, hxl, hf⟩ := DataW.trod_struct Tryz.underlying23 h
  rw [Tryz.cellsWant] at hlen
  generalize hcs2 : cs.toList = l at h hlen hxl hf
  match l, hlen with
  | [v0, v1, v2, v3, v4], _ =>
    have l5 : xs.length = 5 := hxl
    match xs, l5 with
    | [y0, y1, y2, y3, y4], _ =>
      have g0 : DataW.trod enc Tryz.prog W base sp held q 9 (([v0, v1, v2, v3, v4].drop 0).take (Tryz.prog.cellsOf 9)) = some y0 := hf 0 _ rfl
      have g1 : DataW.trod enc Tryz.prog W base sp held q 9 (([v0, v1, v2, v3, v4].drop 1).take (Tryz.prog.cellsOf 9)) = some y1 := hf 1 _ rfl
      have g2 : DataW.trod enc Tryz.prog W base sp held q 9 (([v0, v1, v2, v3, v4].drop 2).take (Tryz.prog.cellsOf 9)) = some y2 := hf 2 _ rfl
      have g3 : DataW.trod enc Tryz.prog W base sp held q 3 (([v0, v1, v2, v3, v4].drop 3).take (Tryz.prog.cellsOf 3)) = some y3 := hf 3 _ rfl
      have g4 : DataW.trod enc Tryz.prog W base sp held q 3 (([v0, v1, v2, v3, v4].drop 4).take (Tryz.prog.cellsOf 3)) = some y4 := hf 4 _ rfl
      rw [Tryz.cellsStr] at g0 g1 g2
      rw [Tryz.cellsInt] at g3 g4
      obtain ⟨s0, e0, _, _⟩ := DataW.trod_string Tryz.underlying9 g0
      obtain ⟨s1, e1, _, _⟩ := DataW.trod_string Tryz.underlying9 g1
      obtain ⟨s2, e2, _, _⟩ := DataW.trod_string Tryz.underlying9 g2
      obtain ⟨i3, e3, _⟩ := DataW.trod_int Tryz.underlying3 g3
      obtain ⟨i4, e4, _⟩ := DataW.trod_int Tryz.underlying3 g4
      have e0' : [v0] = [.string s0] := e0
      have e1' : [v1] = [.string s1] := e1
      have e2' : [v2] = [.string s2] := e2
      have e3' : [v3] = [.int .i64 i3] := e3
      have e4' : [v4] = [.int .i64 i4] := e4
      cases e0'
      cases e1'
      cases e2'
      cases e3'
      cases e4'
      refine ⟨s0.data.toList, s1.data.toList, s2.data.toList, i3, i4, ?_⟩
      have hcs3 : cs = #[.string s0, .string s1, .string s2, .int .i64 i3, .int .i64 i4] := by
        rw [← Array.toList_inj]
        exact hcs2
      rw [hcs3]
end Go.Proofs.YtbhjpmfekjhckaaGreatDoor
