/-
  Own texts of the proof, joined by program: CameWants, LawWants.
-/
import Derived.Test.YtmeipangcgdinaaGreatDoorWtRowWtInsertWtInsertGrowWtDelete
import Derived.Deep.Slices
import Derived.OpenShut
import Derived.Carry
import Derived.Test.YtmeipangcgdinaaGreatDoorPkWantReadWantBox
import Derived.Test.YtmeipangcgdinaaGreatDoorWtEqPkLockMark
/-
  Wants that came in, as an argument: what a walk asks of them, and how they are opened: over this seat's translation.
-/
namespace Go.Proofs.YtmeipangcgdinaaGreatDoor
open Go.RowKit Go.Shelf Go.ChangeShapes Go.WideShapes Go.Deep

/-- What is asked of wants that came in. -/
structure CameW (w : World) (a : Option Addr) (ca : Nat) (l : List Wt) : Prop where
  lies : WLies w a l
  cap : l.length ≤ ca
  len : l.length ≤ maxLen
  nil : a = none → ca = 0 ∧ l = []

theorem Tryz.cellsWantC : Tryz.prog.cellsOf 41 = 5 := by kernel_rfl
theorem Tryz.cellsIntC : Tryz.prog.cellsOf 3 = 1 := by kernel_rfl
theorem Tryz.cellsStrC : Tryz.prog.cellsOf 9 = 1 := by kernel_rfl

set_option maxRecDepth 100000 in
/-- A want's cells, opened. -/
theorem open_cells_w {H : Type} {enc : TypeId × Value → H} {W : World} {base : Nat} {sp : Nat → Bool} {held : Bool} {q : Nat} {l : List Value} {x : DataW H × List MemPlace} (h : DataW.trod enc Tryz.prog W base sp held q 41 l = some x) :
    ∃ y : Wt, l = wcells y := by
  obtain ⟨xs, q, _, _, hlen, hxl, hf⟩ := DataW.trod_struct Tryz.underlying41 h
  rw [Tryz.cellsWantC] at hlen
  match l, hlen with
  | [v0, v1, v2, v3, v4], _ =>
    have l5 : xs.length = 5 := hxl
    match xs, l5 with
    | [y0, y1, y2, y3, y4], _ =>
      have g0 : DataW.trod enc Tryz.prog W base sp held q 9 (([v0, v1, v2, v3, v4].drop 0).take (Tryz.prog.cellsOf 9)) = some y0 := hf 0 _ rfl
      have g1 : DataW.trod enc Tryz.prog W base sp held q 9 (([v0, v1, v2, v3, v4].drop 1).take (Tryz.prog.cellsOf 9)) = some y1 := hf 1 _ rfl
      have g2 : DataW.trod enc Tryz.prog W base sp held q 9 (([v0, v1, v2, v3, v4].drop 2).take (Tryz.prog.cellsOf 9)) = some y2 := hf 2 _ rfl
      have g3 : DataW.trod enc Tryz.prog W base sp held q 3 (([v0, v1, v2, v3, v4].drop 3).take (Tryz.prog.cellsOf 3)) = some y3 := hf 3 _ rfl
      have g4 : DataW.trod enc Tryz.prog W base sp held q 3 (([v0, v1, v2, v3, v4].drop 4).take (Tryz.prog.cellsOf 3)) = some y4 := hf 4 _ rfl
      rw [Tryz.cellsStrC] at g0 g1 g2
      rw [Tryz.cellsIntC] at g3 g4
      obtain ⟨s0, e0, _, _⟩ := DataW.trod_string Tryz.underlying9 g0
      obtain ⟨s1, e1, _, _⟩ := DataW.trod_string Tryz.underlying9 g1
      obtain ⟨s2, e2, _, _⟩ := DataW.trod_string Tryz.underlying9 g2
      obtain ⟨i3, e3, _⟩ := DataW.trod_int Tryz.underlying3 g3
      obtain ⟨i4, e4, _⟩ := DataW.trod_int Tryz.underlying3 g4
      have e0' : [v0] = [.string s0] := e0
      have e1' : [v1] = [.string s1] := e1
      have e2' : [v2] = [.string s2] := e2
      have e3' : [v3] = [.int .i64 i3] := e3
      have e4' : [v4] = [.int .i64 i4] := e4
      cases e0'
      cases e1'
      cases e2'
      cases e3'
      cases e4'
      exact ⟨⟨s0.data.toList, s1.data.toList, s2.data.toList, i3, i4⟩, rfl⟩

set_option maxRecDepth 100000 in
/-- Wants among the arguments, opened. -/
theorem open_wants {H : Type} {enc : TypeId × Value → H} {W : World} {base : Nat} {sp : Nat → Bool} {held : Bool} {r : Reach} {b0 : Nat} {v : Value} {d : DataW H} {ps : List MemPlace} (hval : Value.okWide Tryz.prog W r b0 22 v) (hd : DataW.Trod enc Tryz.prog W base sp held 22 v d ps) :
    ∃ l a ca, v = .slice a (List.length l) ca ∧ CameW W a ca l := by
  obtain ⟨a0, len0, cap0, rfl⟩ := okWide_slice Tryz.underlying22 hval
  obtain ⟨fuel, hf⟩ := hd
  rcases open_slice Tryz.underlying22 hf with ⟨hc, _⟩ | ⟨a, len, cap, m, n, D, Pl, hc, _, hl, hm, hmm, _, hx⟩
  · have hc' : Value.slice a0 len0 cap0 = .slice none 0 0 := by simpa [Value.cells] using hc
    cases hc'
    exact ⟨[], none, 0, rfl, fun h => absurd rfl h, Nat.le_refl _, Nat.zero_le _, fun _ => ⟨rfl, rfl⟩⟩
  · have hc' : Value.slice a0 len0 cap0 = .slice (some a) len cap := by simpa [Value.cells] using hc
    cases hc'
    have hlm : len0 ≤ m := by rw [hmm]; split <;> omega
    have each : ∀ i, i < len0 → ∃ y : Wt, ∀ j u, (wcells y)[j]? = some u → W.cell? ((a.add (i * 5)).add j) = some u := fun i hi => by
      obtain ⟨cs', h1, h2⟩ := hx i (by omega)
      rw [Tryz.cellsWantC] at h1
      obtain ⟨_, hlen, hcell⟩ := World.cells?_some h1
      obtain ⟨y, rfl⟩ := open_cells_w h2
      refine ⟨y, fun j u hj => ?_⟩
      have hj5 : j < 5 := (List.getElem?_eq_some_iff.1 hj).1
      rw [hcell j hj5]
      exact hj
    haveI : Inhabited Wt := ⟨⟨[], [], [], 0, 0⟩⟩
    obtain ⟨q, hq⟩ := choose_lt each
    refine ⟨(List.range len0).map q, some a, cap0, by simp, ?_, by rw [List.length_map, List.length_range]; exact hl, by rw [List.length_map, List.length_range]; omega, fun h => by cases h⟩
    intro hne
    have hpos : 0 < len0 := by
      cases len0 with
      | zero => exact absurd rfl hne
      | succ k => omega
    obtain ⟨b, o, spot⟩ := a
    have hspot : spot = none := by
      have := World.cell?_spot (hq 0 hpos 0 _ rfl)
      simpa [Addr.add] using this
    subst hspot
    refine ⟨b, o, rfl, fun k hk => ?_⟩
    have hk' : k < len0 := by simpa using hk
    have hg : ((List.range len0).map q)[k] = q k := by simp
    rw [hg]
    have hc := hq k hk'
    have hadd : ∀ j, ((⟨b, o, none⟩ : Addr).add (k * 5)).add j = ⟨b, o + k * 5 + j, none⟩ := fun j => by rw [Addr.add_lit, Addr.add_lit]
    exact ⟨by simpa [hadd] using hc 0 _ rfl, by simpa [hadd] using hc 1 _ rfl, by simpa [hadd] using hc 2 _ rfl, by simpa [hadd] using hc 3 _ rfl, by simpa [hadd] using hc 4 _ rfl⟩
end Go.Proofs.YtmeipangcgdinaaGreatDoor
/-
  The laws' own functions on wants: too many or too long, own memory, compared: contracts, over this seat's translation.
-/
namespace Go.Proofs.YtmeipangcgdinaaGreatDoor
open Go.RowKit Go.Shelf

/-- Are wants too many, or too long? -/
def longWs (l : List Wt) : Bool := decide (22 < l.length) || l.any fun x => decide (longW x.n x.u x.k ≠ 0)
theorem longWs_many {l : List Wt} (h : 22 < l.length) : longWs l = true := by simp [longWs, h]
theorem longWs_at {l : List Wt} {k : Nat} (hk : k < l.length) (h : longW l[k].n l[k].u l[k].k ≠ 0) : longWs l = true := by
  unfold longWs
  rw [Bool.or_eq_true]
  right
  rw [List.any_eq_true]
  exact ⟨_, List.getElem_mem hk, by simpa using h⟩
theorem longWs_no {l : List Wt} (hn : ¬ 22 < l.length) (h : ∀ k (hk : k < l.length), longW l[k].n l[k].u l[k].k = 0) : longWs l = false := by
  unfold longWs
  rw [Bool.or_eq_false_iff]
  refine ⟨by simpa using hn, ?_⟩
  rw [List.any_eq_false]
  intro x hx
  obtain ⟨k, hk, rfl⟩ := List.getElem_of_mem hx
  simp [h k hk]
theorem longWs_false {l : List Wt} (h : longWs l = false) : l.length ≤ 22 ∧ ∀ x ∈ l, x.n.length ≤ 30 ∧ x.u.length ≤ 120 ∧ x.k.length ≤ 20 := by
  unfold longWs at h
  rw [Bool.or_eq_false_iff] at h
  refine ⟨by have := h.1; simp at this; omega, fun x hx => longW_zero ?_⟩
  have := List.any_eq_false.1 h.2 x hx
  simpa using this

set_option maxRecDepth 100000 in
set_option maxHeartbeats 2000000 in
theorem longWants_any (l : List Wt) (a : Option Addr) (ca : Nat) (w : World) (hl : WLies w a l) (hlen : l.length ≤ 9223372036854775807) :
    Calls Tryz.prog 5 #[.slice a l.length ca] w fun e w' => e = .returned (.bool (longWs l)) ∧ Below w.heap.size w w' := by
  have HL := Lib.hid hl
  clear hl
  by_cases hm : 22 < l.length
  · have HT := Lib.hid (longWs_many hm)
    have hm' : (22 : Int) < (l.length : Int) := by omega
    go_enter Tryz.func5, Tryz.ntmps5
    go_wp2
    go_ret
    exact ⟨by rw [HT.out]; rfl, Below.refl _ _⟩
  · have hm' : ¬ (22 : Int) < (l.length : Int) := by omega
    go_enter Tryz.func5, Tryz.ntmps5
    go_wp2_with fail
    go_loopw [3] (fun i wr => ∃ q : Nat, q ≤ l.length ∧ i = .int .i64 q ∧ (∀ k (hk : k < l.length), k < q → longW l[k].n l[k].u l[k].k = 0) ∧ Below w.heap.size w wr) (fun i _ => l.length - (intOf i).toNat)
    case atStart => exact ⟨0, by omega, rfl, fun _ _ h => by omega, Below.refl _ _⟩
    case round =>
      obtain ⟨q, hq, rfl, h0, hb⟩ := hrel
      have H0 := Lib.hid h0
      have HB := Lib.hid hb
      clear h0 hb
      by_cases hlt : q < l.length
      · have hlt' : (q : Int) < (l.length : Int) := by omega
        obtain ⟨b, o, rfl, c0, c1, c2, c3, c4⟩ := (HL.out.below HB.out).at hlt
        have HN : Hid (longW l[q].n l[q].u l[q].k = 0 → ∀ k (hk : k < l.length), k < q + 1 → longW l[k].n l[k].u l[k].k = 0) := fun e k hk hkq => by
          by_cases ek : k = q
          · subst ek; exact e
          · exact H0.out k hk (by omega)
        have HY : Hid (longW l[q].n l[q].u l[q].k ≠ 0 → longWs l = true) := fun e => longWs_at hlt e
        generalize l[q] = x at c0 c1 c2 c3 c4 HN HY
        obtain ⟨n, u, k, s, m⟩ := x
        simp only at c0 c1 c2 c3 c4 HN HY
        rcases longW_or n u k with hx | hx
        · have HX : Hid (longW n u k = 0) := hx
          go_wp2_with fail
          refine (longWant_is n u k s m 0 _ (by rw [hx]; rfl)).mono ?_
          rintro e w1 ⟨rfl, hb1⟩
          have HB1 := Lib.hid (HB.out.trans (hb1.mono HB.out.size))
          clear hx hb1
          go_wp2
          go_roundw
          case rel => exact ⟨q + 1, by omega, by go_num, HN.out HX.out, HB1.out⟩
          case measure => simp [intOf]; omega
        · have HX : Hid (longWs l = true) := HY.out (by omega)
          go_wp2_with fail
          refine (longWant_is n u k s m 1 _ (by rw [hx]; rfl)).mono ?_
          rintro e w1 ⟨rfl, hb1⟩
          have HB1 := Lib.hid (HB.out.trans (hb1.mono HB.out.size))
          clear hx hb1
          go_wp2
          go_ret
          exact ⟨by rw [HX.out]; rfl, HB1.out⟩
      · obtain rfl : q = l.length := by omega
        have HX := Lib.hid (longWs_no hm (fun k hk => H0.out k hk hk))
        clear H0
        go_wp2
        go_ret
        exact ⟨by rw [HX.out]; rfl, HB.out⟩

set_option maxRecDepth 100000 in
set_option maxHeartbeats 1000000 in
theorem ownWants_any (l : List Wt) (a : Option Addr) (ca : Nat) (w : World) (hl : WLies w a l) (hn : a = none → ca = 0 ∧ l = []) (hm : l.length ≤ 100000) :
    Calls Tryz.prog 11 #[.slice a l.length ca] w fun e w' => (∃ v, e = .returned v ∧ w'.ownsRow w.heap.size 41 5 v l.length (wlcells l)) ∧ Below w.heap.size w w' := by
  obtain ⟨i0, hi, hz0, hz1, hz2⟩ := info_parts Tryz.infoWant
  cases a with
  | none =>
    obtain ⟨rfl, rfl⟩ := hn rfl
    clear hl hn
    show Calls _ _ #[.slice none 0 0] _ _
    go_enter Tryz.func11, Tryz.ntmps11
    go_wp2
    go_ret
    exact ⟨⟨_, rfl, World.ownsRow_nil _ _ _ _⟩, Below.refl _ _⟩
  | some ad =>
    have HN := hl.news
    clear hl hn
    go_enter Tryz.func11, Tryz.ntmps11
    go_wp2_with (at_builtin; refine wpList_append_own _ rfl _ _ 22 rfl w.heap.size 41 i0 (.agg #[.string ⟨#[]⟩, .string ⟨#[]⟩, .string ⟨#[]⟩, .int .i64 0, .int .i64 0]) 5 64 Tryz.underlying22 hi hz0 hz1 hz2 rfl (by decide) (.slice none 0 0) 0 [] rfl (World.ownsRow_nil _ _ _ _) ad l.length ca (wlcells l) rfl (wlcells_length l) HN (wlcells_one l) (by unfold maxLen; omega) (by omega) (by omega) ?_; intro v' w2 hown' hgrow _)
    go_ret
    exact ⟨⟨_, rfl, by simpa using hown'⟩, (Below.refl _ _).grown hgrow (Nat.le_refl _) (fun k e => by cases e)⟩

set_option maxRecDepth 100000 in
set_option maxHeartbeats 2000000 in
theorem sameWants_same (l : List Wt) (a b : Option Addr) (ca cb : Nat) (w : World) (hl : WLies w a l) (hm : WLies w b l) (hll : l.length ≤ 100000) :
    Calls Tryz.prog 9 #[.slice a l.length ca, .slice b l.length cb] w fun e w' => e = .returned (.bool true) ∧ Below w.heap.size w w' := by
  have HL := Lib.hid hl
  have HM := Lib.hid hm
  clear hl hm
  go_enter Tryz.func9, Tryz.ntmps9
  go_wp2_with fail
  go_loopw [5] (fun i wr => ∃ q : Nat, q ≤ l.length ∧ i = .int .i64 q ∧ Below w.heap.size w wr) (fun i _ => l.length - (intOf i).toNat)
  case atStart => exact ⟨0, by omega, rfl, Below.refl _ _⟩
  case round =>
    obtain ⟨q, hq, rfl, hb⟩ := hrel
    have HB := Lib.hid hb
    clear hb
    by_cases hlt : q < l.length
    · have hlt' : (q : Int) < (l.length : Int) := by omega
      obtain ⟨b1, o1, rfl, c0, c1, c2, c3, c4⟩ := (HL.out.below HB.out).at hlt
      obtain ⟨b2, o2, rfl, d0, d1, d2, d3, d4⟩ := (HM.out.below HB.out).at hlt
      generalize l[q] = x at c0 c1 c2 c3 c4 d0 d1 d2 d3 d4
      have g1 := fun op s t w => want_guard op x x s t w
      have e1 := fun w => want_neq x x true (by simp) w
      obtain ⟨n, u, k, s, m⟩ := x
      go_wp2_with fail
      go_quiet (fail)
      go_wp2
      go_roundw
      case rel => exact ⟨q + 1, by omega, by go_num, below_drewN HB.out _⟩
      case measure => simp [intOf]; omega
    · obtain rfl : q = l.length := by omega
      go_wp2
      go_ret
      exact ⟨rfl, HB.out⟩
end Go.Proofs.YtmeipangcgdinaaGreatDoor
