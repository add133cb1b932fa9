/-
  Acts on a net in memory, five cells each; those that are too long; as an argument, opened: over this seat's translation.
-/
import Derived.Test.YtkokdpidgikdkaaDoorNetRow
import Derived.Deep.Slices
import Derived.OpenShut
import Derived.Carry
namespace Go.Proofs.YtkokdpidgikdkaaDoor
open Go.RowKit Go.Shelf Go.ChangeShapes Go.WideShapes Go.Deep

/-- An act: its kind, a link (or a host), a text, a number, on or off. -/
structure Ac where
  k : List UInt8
  u : List UInt8
  s : List UInt8
  n : Int
  on : Bool
abbrev av (a : Ac) : Value := .agg #[.string ⟨a.k.toArray⟩, .string ⟨a.u.toArray⟩, .string ⟨a.s.toArray⟩, .int .i64 a.n, .bool a.on]
def acells (a : Ac) : List Value := [.string ⟨a.k.toArray⟩, .string ⟨a.u.toArray⟩, .string ⟨a.s.toArray⟩, .int .i64 a.n, .bool a.on]
/-- Acts that lie in memory from an address on. -/
def ActsAt (w : World) (a : Option Addr) (l : List Ac) : Prop :=
  l ≠ [] → ∃ b o, a = some ⟨b, o, none⟩ ∧ ∀ k (h : k < l.length), w.cell? ⟨b, o + k * 5, none⟩ = some (.string ⟨l[k].k.toArray⟩) ∧ w.cell? ⟨b, o + k * 5 + 1, none⟩ = some (.string ⟨l[k].u.toArray⟩) ∧ w.cell? ⟨b, o + k * 5 + 2, none⟩ = some (.string ⟨l[k].s.toArray⟩) ∧ w.cell? ⟨b, o + k * 5 + 3, none⟩ = some (.int .i64 l[k].n) ∧ w.cell? ⟨b, o + k * 5 + 4, none⟩ = some (.bool l[k].on)
theorem ActsAt.at {w : World} {a : Option Addr} {l : List Ac} (h : ActsAt w a l) {k : Nat} (hk : k < l.length) : ∃ b o, a = some ⟨b, o, none⟩ ∧ w.cell? ⟨b, o + k * 5, none⟩ = some (.string ⟨l[k].k.toArray⟩) ∧ w.cell? ⟨b, o + k * 5 + 1, none⟩ = some (.string ⟨l[k].u.toArray⟩) ∧ w.cell? ⟨b, o + k * 5 + 2, none⟩ = some (.string ⟨l[k].s.toArray⟩) ∧ w.cell? ⟨b, o + k * 5 + 3, none⟩ = some (.int .i64 l[k].n) ∧ w.cell? ⟨b, o + k * 5 + 4, none⟩ = some (.bool l[k].on) := by
  obtain ⟨b, o, e, hc⟩ := h (fun e => by simp [e] at hk)
  exact ⟨b, o, e, hc k hk⟩
theorem ActsAt.below {w w' : World} {a : Option Addr} {l : List Ac} (h : ActsAt w a l) (hb : Below w.heap.size w w') : ActsAt w' a l := fun hl => by
  obtain ⟨b, o, e, hc⟩ := h hl
  refine ⟨b, o, e, fun k hk => ?_⟩
  obtain ⟨h0, h1, h2, h3, h4⟩ := hc k hk
  have hlt : b < w.heap.size := block_lt_of_cell h0
  exact ⟨(hb.cell (p := ⟨b, o + k * 5, none⟩) hlt).trans h0, (hb.cell (p := ⟨b, o + k * 5 + 1, none⟩) hlt).trans h1, (hb.cell (p := ⟨b, o + k * 5 + 2, none⟩) hlt).trans h2, (hb.cell (p := ⟨b, o + k * 5 + 3, none⟩) hlt).trans h3, (hb.cell (p := ⟨b, o + k * 5 + 4, none⟩) hlt).trans h4⟩

/-- Is an act too long? -/
def longA (a : Ac) : Bool := decide (120 < a.u.length) || (decide (2000 < a.s.length) && !decide (a.s.length = 20001))
def longAs (l : List Ac) (most : Int) : Nat := if most < (l.length : Int) then 1 else if l.any longA then 1 else 0
theorem longAs_zero {l : List Ac} {most : Int} (h : longAs l most = 0) : (l.length : Int) ≤ most ∧ ∀ a ∈ l, a.u.length ≤ 120 ∧ a.s.length ≤ 20001 := by
  unfold longAs at h
  split at h
  · cases h
  · split at h
    · cases h
    · rename_i h1 h2
      refine ⟨by omega, fun a ha => ?_⟩
      have hf : longA a = false := by
        cases e : longA a with
        | false => rfl
        | true => exact absurd (List.any_eq_true.2 ⟨a, ha, e⟩) h2
      simp only [longA, Bool.or_eq_false_iff, Bool.and_eq_false_iff, Bool.not_eq_false', decide_eq_true_eq, decide_eq_false_iff_not] at hf
      omega
theorem longAs_or (l : List Ac) (most : Int) : longAs l most = 0 ∨ longAs l most = 1 := by
  unfold longAs
  repeat' split
  all_goals simp

set_option maxRecDepth 100000 in
set_option maxHeartbeats 2000000 in
theorem longActs_any (l : List Ac) (a : Option Addr) (ca : Nat) (most : Int) (w : World) (hl : ActsAt w a l) (hm : l.length ≤ maxLen) (hp : ∀ x ∈ l, x.u.length ≤ maxLen ∧ x.s.length ≤ maxLen) :
    Calls Tryd.prog 6 #[.slice a l.length ca, .int .i64 most] w fun e w' => e = .returned (.int .i64 (longAs l most)) ∧ w' = w := by
  unfold maxLen at hm hp
  by_cases hmany : most < (l.length : Int)
  · have HF : Hid (longAs l most = 1) := if_pos hmany
    clear hl hp
    go_enter Tryd.func6, Tryd.ntmps6
    go_wp2
    go_ret
    exact ⟨by rw [HF.out]; rfl, rfl⟩
  · have HL := Lib.hid hl
    have HP := Lib.hid hp
    have HM := Lib.hid hmany
    have hmany' : decide (most < (l.length : Int)) = false := by simp; omega
    clear hl hp hmany
    go_enter Tryd.func6, Tryd.ntmps6
    go_wp2_with fail
    go_loopw [5] (fun i wr => ∃ q : Nat, q ≤ l.length ∧ i = .int .i64 q ∧ (l.take q).any longA = false ∧ wr = w) (fun i _ => l.length - (intOf i).toNat)
    case atStart => exact ⟨0, by omega, rfl, by simp, rfl⟩
    case round =>
      obtain ⟨q, hq, rfl, hno, hb⟩ := hrel
      subst hb
      have HNO := Lib.hid hno
      clear hno
      by_cases hlt : q < l.length
      · have hlt' : (q : Int) < (l.length : Int) := by omega
        obtain ⟨b, o, rfl, c0, c1, c2, c3, c4⟩ := HL.out.at hlt
        obtain ⟨hpl, htl⟩ := HP.out _ (List.getElem_mem hlt)
        cases hf : longA l[q] with
        | true =>
          have HF : Hid (longAs l most = 1) := by
            show longAs l most = 1
            unfold longAs
            rw [if_neg (by have := HM.out; omega), if_pos (List.any_eq_true.2 ⟨_, List.getElem_mem hlt, hf⟩)]
          generalize l[q] = f at c0 c1 c2 c3 c4 hpl htl hf
          simp only [longA, Bool.or_eq_true, Bool.and_eq_true, Bool.not_eq_true', decide_eq_true_eq, decide_eq_false_iff_not] at hf
          by_cases hp1 : 120 < f.u.length
          · have hp1' : (120 : Int) < (f.u.length : Int) := by omega
            clear hf hp1
            go_wp2
            go_ret
            exact ⟨by rw [HF.out]; rfl, rfl⟩
          · have hp1' : decide ((120 : Int) < (f.u.length : Int)) = false := by simp; omega
            have ht1 : (2000 : Int) < (f.s.length : Int) := by omega
            have ht2 : ((f.s.length : Int) != 20001) = true := by simp; omega
            clear hf hp1
            go_wp2
            go_ret
            exact ⟨by rw [HF.out]; rfl, rfl⟩
        | false =>
          have HN : Hid ((l.take (q + 1)).any longA = false) := by
            show List.any _ _ = false
            rw [List.take_succ_eq_append_getElem hlt, List.any_append, HNO.out]
            simp only [List.any_cons, List.any_nil, hf, Bool.or_false]
          generalize l[q] = f at c0 c1 c2 c3 c4 hpl htl hf
          simp only [longA, Bool.or_eq_false_iff, Bool.and_eq_false_iff, Bool.not_eq_false', decide_eq_true_eq, decide_eq_false_iff_not] at hf
          have hp1' : decide ((120 : Int) < (f.u.length : Int)) = false := by simp; omega
          by_cases ht : 2000 < f.s.length
          · have ht1 : (2000 : Int) < (f.s.length : Int) := by omega
            have ht2 : ((f.s.length : Int) != 20001) = false := by simp; omega
            clear hf ht
            go_wp2
            go_roundw
            case rel => exact ⟨q + 1, by omega, by go_num, HN.out, trivial⟩
            case measure => simp [intOf]; omega
          · have ht1 : decide ((2000 : Int) < (f.s.length : Int)) = false := by simp; omega
            clear hf ht
            go_wp2
            go_roundw
            case rel => exact ⟨q + 1, by omega, by go_num, HN.out, trivial⟩
            case measure => simp [intOf]; omega
      · have hql : q = l.length := by omega
        have HF : Hid (longAs l most = 0) := by
          show longAs l most = 0
          have := HNO.out
          rw [hql, List.take_length] at this
          unfold longAs
          rw [if_neg (by have := HM.out; omega), if_neg (by rw [this]; simp)]
        clear hql
        go_wp2
        go_ret
        exact ⟨by rw [HF.out]; rfl, rfl⟩

theorem Tryd.cellsAct : Tryd.prog.cellsOf 29 = 5 := by kernel_rfl
theorem Tryd.cellsStrA : Tryd.prog.cellsOf 9 = 1 := by kernel_rfl
theorem Tryd.cellsIntA : Tryd.prog.cellsOf 3 = 1 := by kernel_rfl
theorem Tryd.cellsBoolA : Tryd.prog.cellsOf 4 = 1 := by kernel_rfl
theorem Tryd.laidOutA : laidOutB Tryd.prog = true := by kernel_rfl

set_option maxRecDepth 100000 in
/-- An act's cells, opened. -/
theorem open_act {H : Type} {enc : TypeId × Value → H} {W : World} {base : Nat} {sp : Nat → Bool} {held : Bool} {fuel : Nat} {cs : List Value} {x : DataW H × List MemPlace} (h : DataW.trod enc Tryd.prog W base sp held fuel 29 cs = some x) :
    ∃ f : Ac, cs = acells f ∧ f.u.length ≤ maxLen ∧ f.s.length ≤ maxLen := by
  obtain ⟨xs, n, _, _, hlen, hxl, hf⟩ := DataW.trod_struct Tryd.underlying29 h
  rw [Tryd.cellsAct] at hlen
  match cs, hlen with
  | [v0, v1, v2, v3, v4], _ =>
    have l5 : xs.length = 5 := hxl
    match xs, l5 with
    | [y0, y1, y2, y3, y4], _ =>
      have g0 : DataW.trod enc Tryd.prog W base sp held n 9 (([v0, v1, v2, v3, v4].drop 0).take (Tryd.prog.cellsOf 9)) = some y0 := hf 0 _ rfl
      have g1 : DataW.trod enc Tryd.prog W base sp held n 9 (([v0, v1, v2, v3, v4].drop 1).take (Tryd.prog.cellsOf 9)) = some y1 := hf 1 _ rfl
      have g2 : DataW.trod enc Tryd.prog W base sp held n 9 (([v0, v1, v2, v3, v4].drop 2).take (Tryd.prog.cellsOf 9)) = some y2 := hf 2 _ rfl
      have g3 : DataW.trod enc Tryd.prog W base sp held n 3 (([v0, v1, v2, v3, v4].drop 3).take (Tryd.prog.cellsOf 3)) = some y3 := hf 3 _ rfl
      have g4 : DataW.trod enc Tryd.prog W base sp held n 4 (([v0, v1, v2, v3, v4].drop 4).take (Tryd.prog.cellsOf 4)) = some y4 := hf 4 _ rfl
      rw [Tryd.cellsStrA] at g0 g1 g2
      rw [Tryd.cellsIntA] at g3
      rw [Tryd.cellsBoolA] at g4
      obtain ⟨s0, e0, _, _⟩ := DataW.trod_string Tryd.underlying9 g0
      obtain ⟨s1, e1, _, h1⟩ := DataW.trod_string Tryd.underlying9 g1
      obtain ⟨s2, e2, _, h2⟩ := DataW.trod_string Tryd.underlying9 g2
      obtain ⟨i3, e3, _⟩ := DataW.trod_int Tryd.underlying3 g3
      obtain ⟨b4, e4, _⟩ := DataW.trod_bool Tryd.underlying4 g4
      have e0' : [v0] = [.string s0] := e0
      have e1' : [v1] = [.string s1] := e1
      have e2' : [v2] = [.string s2] := e2
      have e3' : [v3] = [.int .i64 i3] := e3
      have e4' : [v4] = [.bool b4] := e4
      cases e0'
      cases e1'
      cases e2'
      cases e3'
      cases e4'
      exact ⟨⟨s0.data.toList, s1.data.toList, s2.data.toList, i3, b4⟩, rfl, h1, h2⟩

/-- What is asked of acts that came in. -/
structure CameA (w : World) (a : Option Addr) (l : List Ac) : Prop where
  lies : ActsAt w a l
  len : l.length ≤ maxLen
  texts : ∀ f ∈ l, f.u.length ≤ maxLen ∧ f.s.length ≤ maxLen
theorem CameA.below {w w' : World} {a : Option Addr} {l : List Ac} (h : CameA w a l) (hb : Below w.heap.size w w') : CameA w' a l := ⟨h.lies.below hb, h.len, h.texts⟩

set_option maxRecDepth 100000 in
/-- Acts among the arguments, opened. -/
theorem open_acts {H : Type} {enc : TypeId × Value → H} {W : World} {base : Nat} {sp : Nat → Bool} {held : Bool} {r : Reach} {b0 : Nat} {v : Value} {d : DataW H} {ps : List MemPlace} (hval : Value.okWide Tryd.prog W r b0 22 v) (hd : DataW.Trod enc Tryd.prog W base sp held 22 v d ps) :
    ∃ l a ca, v = .slice a (List.length l) ca ∧ CameA W a l := by
  obtain ⟨a0, len0, cap0, rfl⟩ := okWide_slice Tryd.underlying22 hval
  obtain ⟨fuel, hf⟩ := hd
  rcases open_slice Tryd.underlying22 hf with ⟨hc, _⟩ | ⟨a, len, cap, m, n, D, Pl, hc, _, hl, hm, hmm, _, hx⟩
  · have hc' : Value.slice a0 len0 cap0 = .slice none 0 0 := by simpa [Value.cells] using hc
    cases hc'
    exact ⟨[], none, 0, rfl, fun h => absurd rfl h, Nat.zero_le _, fun f hf => by simp at hf⟩
  · have hc' : Value.slice a0 len0 cap0 = .slice (some a) len cap := by simpa [Value.cells] using hc
    cases hc'
    have hlm : len0 ≤ m := by rw [hmm]; split <;> omega
    have each : ∀ i, i < len0 → ∃ f : Ac, (∀ j u, (acells f)[j]? = some u → W.cell? ((a.add (i * 5)).add j) = some u) ∧ f.u.length ≤ maxLen ∧ f.s.length ≤ maxLen := fun i hi => by
      obtain ⟨cs', h1, h2⟩ := hx i (by omega)
      rw [Tryd.cellsAct] at h1
      obtain ⟨_, hlen, hcell⟩ := World.cells?_some h1
      obtain ⟨f, rfl, hp, ht⟩ := open_act h2
      refine ⟨f, fun j u hj => ?_, hp, ht⟩
      have hj5 : j < 5 := (List.getElem?_eq_some_iff.1 hj).1
      rw [hcell j hj5]
      exact hj
    haveI : Inhabited Ac := ⟨⟨[], [], [], 0, false⟩⟩
    obtain ⟨q, hq⟩ := choose_lt each
    refine ⟨(List.range len0).map q, some a, cap0, by simp, ?_, by rw [List.length_map, List.length_range]; omega, fun f hf => ?_⟩
    · intro hne
      have hpos : 0 < len0 := by
        cases len0 with
        | zero => exact absurd rfl hne
        | succ k => omega
      obtain ⟨b, o, spot⟩ := a
      have hspot : spot = none := by
        have := World.cell?_spot ((hq 0 hpos).1 0 _ rfl)
        simpa [Addr.add] using this
      subst hspot
      refine ⟨b, o, rfl, fun k hk => ?_⟩
      have hk' : k < len0 := by simpa using hk
      have hg : ((List.range len0).map q)[k] = q k := by simp
      rw [hg]
      have hc := (hq k hk').1
      have hadd : ∀ j, ((⟨b, o, none⟩ : Addr).add (k * 5)).add j = ⟨b, o + k * 5 + j, none⟩ := fun j => by rw [Addr.add_lit, Addr.add_lit]
      exact ⟨by simpa [hadd] using hc 0 _ rfl, by simpa [hadd] using hc 1 _ rfl, by simpa [hadd] using hc 2 _ rfl, by simpa [hadd] using hc 3 _ rfl, by simpa [hadd] using hc 4 _ rfl⟩
    · obtain ⟨i, hi, rfl⟩ := List.mem_map.1 hf
      exact (hq i (List.mem_range.1 hi)).2
end Go.Proofs.YtkokdpidgikdkaaDoor
