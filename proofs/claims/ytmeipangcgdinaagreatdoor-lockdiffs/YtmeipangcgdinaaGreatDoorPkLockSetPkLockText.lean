/-
  Own texts of the proof, joined by program: PkLockSet, PkLockText.
-/
import Derived.Test.YtmeipangcgdinaaGreatDoorPkLock
import Derived.Test.YtmeipangcgdinaaGreatDoorWtRowWtInsertWtInsertGrowWtDelete
import Derived.Test.YtmeipangcgdinaaGreatDoorPkClonePkFindPkSortFnPkSort
import Derived.Laws.OwnMore
import Derived.Test.YtmeipangcgdinaaGreatDoorPkWantPkWantText
import Derived.Test.YtmeipangcgdinaaGreatDoorPkMakePkPackMake
/-
  Package lock: Set, with slices.BinarySearchFunc over wants: contracts, over this seat's translation.
-/
namespace Go.Proofs.YtmeipangcgdinaaGreatDoor
open Go.RowKit Go.Shelf

theorem setCmp_any (n u k : List UInt8) (s m : Int) (t : List UInt8) (w : World) :
    Calls Tryz.prog 33 #[wv ⟨n, u, k, s, m⟩, .string ⟨t.toArray⟩] w fun e w' => e = .returned (.int .i64 (Lib.compareBytes n t)) ∧ Below w.heap.size w w' := by
  go_enter Tryz.func33, Tryz.ntmps33
  go_wp2_with fail
  refine (compare_is n t _).mono ?_
  rintro e w1 ⟨rfl, rfl⟩
  go_wp2
  go_ret
  exact ⟨rfl, (Below.refl _ _).alloc (Nat.le_refl _) _⟩

set_option maxRecDepth 100000 in
set_option maxHeartbeats 4000000 in
theorem searchW_any (l : List Wt) (a : Option Addr) (ca : Nat) (t : List UInt8) (w : World) (hl : WLies w a l) (hn : l.length ≤ 100000) (hlk : Lock l) :
    Calls Tryz.prog 32 #[.slice a l.length ca, .string ⟨t.toArray⟩, .func (.func 33) #[] #[]] w fun e w' => e = .returned (.tuple #[.int .i64 (placeL l t : Nat), .bool (thereL l t)]) ∧ Below w.heap.size w w' := by
  have HL := Lib.hid hl
  have HK := Lib.hid hlk
  clear hl hlk
  go_enter Tryz.func32, Tryz.ntmps32
  go_wp2_with fail
  go_loopw [9, 10] (fun si sj wr => ∃ i j : Nat, si = .int .i64 i ∧ sj = .int .i64 j ∧ i ≤ j ∧ j ≤ l.length ∧ ((∀ k (h : k < l.length), k < i → less l[k].n t = true) ∧ (∀ k (h : k < l.length), j ≤ k → less l[k].n t = false)) ∧ Below w.heap.size w wr) (fun si sj _ => (intOf sj).toNat - (intOf si).toNat)
  case atStart => exact ⟨0, l.length, rfl, rfl, by omega, by omega, ⟨fun _ _ h => by omega, fun _ _ h => by omega⟩, Below.refl _ _⟩
  case round =>
    obtain ⟨i, j, rfl, rfl, hij, hjl, hI, hb⟩ := hrel
    have HB := Lib.hid hb
    have HI := Lib.hid hI
    clear hb hI
    by_cases hlt : i < j
    · have hh : (i + j) / 2 < l.length := by omega
      obtain ⟨b, o, rfl, c0, c1, c2, c3, c4⟩ := (HL.out.below HB.out).at hh
      have hle := cmp_less l[(i + j) / 2].n t
      cases hq : less l[(i + j) / 2].n t with
      | true =>
        have HN : Hid (∀ k (h : k < l.length), k < (i + j) / 2 + 1 → less l[k].n t = true) := fun k hk hkh => by
          by_cases e : k = (i + j) / 2
          · subst e; exact hq
          · exact less_trans (HK.out.le hk hh (by omega)) hq
        have hneg : Lib.compareBytes l[(i + j) / 2].n t < 0 := of_decide_eq_true (hle.trans hq)
        clear hle hq
        generalize l[(i + j) / 2] = f at c0 c1 c2 c3 c4 hneg
        obtain ⟨n, u, kk, s, m⟩ := f
        go_wp2_with fail
        refine (setCmp_any n u kk s m t _).mono ?_
        rintro e w1 ⟨rfl, hb1⟩
        have HB1 := Lib.hid (HB.out.trans (hb1.mono HB.out.size))
        clear hb1
        go_wp2
        go_roundw
        case rel => exact ⟨(i + j) / 2 + 1, j, by congr 1, rfl, by omega, hjl, ⟨HN.out, HI.out.2⟩, HB1.out⟩
        case measure => simp [intOf]; omega
      | false =>
        have HN : Hid (∀ k (h : k < l.length), (i + j) / 2 ≤ k → less l[k].n t = false) := fun k hk hkh => by
          by_cases e : k = (i + j) / 2
          · subst e; exact hq
          · cases e2 : less l[k].n t with
            | false => rfl
            | true => rw [less_trans (HK.out.le hh hk (by omega)) e2] at hq; cases hq
        have hneg : ¬ Lib.compareBytes l[(i + j) / 2].n t < 0 := of_decide_eq_false (hle.trans hq)
        clear hle hq
        generalize l[(i + j) / 2] = f at c0 c1 c2 c3 c4 hneg
        obtain ⟨n, u, kk, s, m⟩ := f
        go_wp2_with fail
        refine (setCmp_any n u kk s m t _).mono ?_
        rintro e w1 ⟨rfl, hb1⟩
        have HB1 := Lib.hid (HB.out.trans (hb1.mono HB.out.size))
        clear hb1
        go_wp2
        go_roundw
        case rel => exact ⟨i, (i + j) / 2, rfl, by congr 1, by omega, by omega, ⟨HI.out.1, HN.out⟩, HB1.out⟩
        case measure => simp [intOf]; omega
    · obtain rfl : i = j := by omega
      have hpl : placeL l t = i := place_is hjl HI.out.1 (fun h => HI.out.2 i h (Nat.le_refl _))
      have HP := Lib.hid hpl
      by_cases hn : i < l.length
      · obtain ⟨b, o, rfl, c0, c1, c2, c3, c4⟩ := (HL.out.below HB.out).at hn
        have HT : Hid (thereL l t = (l[i].n == t)) := by show thereL l t = _; unfold thereL; rw [hpl, List.getElem?_eq_getElem hn]
        have hz := cmp_zero l[i].n t
        clear hpl
        by_cases he : l[i].n = t
        · have hz' : Lib.compareBytes l[i].n t = 0 := hz.2 he
          have HT' : Hid (thereL l t = true) := HT.out.trans (by simp [he])
          clear hz he HT
          generalize l[i] = f at c0 c1 c2 c3 c4 hz'
          obtain ⟨n, u, kk, s, m⟩ := f
          go_wp2_with fail
          refine (setCmp_any n u kk s m t _).mono ?_
          rintro e w1 ⟨rfl, hb1⟩
          go_wp2
          go_ret2
          exact ⟨by rw [HT'.out, HP.out]; rfl, HB.out.trans (hb1.mono HB.out.size)⟩
        · have hz' : (Lib.compareBytes l[i].n t == 0) = false := by simp [hz, he]
          have HT' : Hid (thereL l t = false) := HT.out.trans (by simp [he])
          clear hz he HT
          generalize l[i] = f at c0 c1 c2 c3 c4 hz'
          obtain ⟨n, u, kk, s, m⟩ := f
          go_wp2_with fail
          refine (setCmp_any n u kk s m t _).mono ?_
          rintro e w1 ⟨rfl, hb1⟩
          go_wp2
          go_ret2
          exact ⟨by rw [HT'.out, HP.out]; rfl, HB.out.trans (hb1.mono HB.out.size)⟩
      · have HT : Hid (thereL l t = false) := by show thereL l t = false; unfold thereL; rw [hpl, List.getElem?_eq_none (by omega)]
        clear hpl
        go_wp2
        go_ret2
        exact ⟨by rw [HT.out, HP.out]; rfl, HB.out⟩

/-- What a call tells that makes a lock: the wants, and an error's number and place. -/
def ToldW (p : Nat → Addr) (w : World) (e : Ending) (r : List Wt × Nat × Int) : Prop :=
  ∃ a c v, e = .returned (.tuple #[.slice a r.1.length c, v]) ∧ WLies w a r.1 ∧ r.1.length ≤ c ∧ ErrAt p w v r.2.1 r.2.2
theorem toldW_none {p : Nat → Addr} {w : World} {v : Value} {c : Nat} {i : Int} (h : ErrAt p w v c i) : ToldW p w (.returned (.tuple #[.slice none 0 0, v])) ([], c, i) :=
  ⟨none, 0, v, rfl, fun h => absurd rfl h, Nat.le_refl _, h⟩

/-- The same, in memory that is new. -/
def ToldWN (p : Nat → Addr) (B : Nat) (w : World) (e : Ending) (r : List Wt × Nat × Int) : Prop :=
  ∃ a c v, e = .returned (.tuple #[.slice a r.1.length c, v]) ∧ WLies w a r.1 ∧ r.1.length ≤ c ∧ ErrAt p w v r.2.1 r.2.2 ∧ ∀ b o t, a = some ⟨b, o, t⟩ → B ≤ b
theorem toldWN_none {p : Nat → Addr} {B : Nat} {w : World} {v : Value} {c : Nat} {i : Int} (h : ErrAt p w v c i) : ToldWN p B w (.returned (.tuple #[.slice none 0 0, v])) ([], c, i) :=
  ⟨none, 0, v, rfl, fun h => absurd rfl h, Nat.le_refl _, h, fun _ _ _ e => by cases e⟩
theorem ToldWN.told {p : Nat → Addr} {B : Nat} {w : World} {e : Ending} {r : List Wt × Nat × Int} (h : ToldWN p B w e r) : ToldW p w e r := by
  obtain ⟨a, c, v, h1, h2, h3, h4, _⟩ := h
  exact ⟨a, c, v, h1, h2, h3, h4⟩
theorem put_cells_w {l : List Wt} {j : Nat} (hj : j < l.length) (x : Wt) : (((((wlcells l).set (j * 5) (sv x.n)).set (j * 5 + 1) (sv x.u)).set (j * 5 + 2) (sv x.k)).set (j * 5 + 3) (.int .i64 x.s)).set (j * 5 + 4) (.int .i64 x.m) = wlcells (l.set j x) := by
  have hl := wlcells_take_length (l := l) (j := j) (by omega)
  have e : wlcells l = wlcells (l.take j) ++ (wcells l[j] ++ wlcells (l.drop (j + 1))) := by
    have : l = l.take j ++ l[j] :: l.drop (j + 1) := by rw [← List.drop_eq_getElem_cons hj, List.take_append_drop]
    conv => lhs; rw [this]
    rw [wlcells_app]
    rfl
  have es : l.set j x = l.take j ++ x :: l.drop (j + 1) := by rw [List.set_eq_take_append_cons_drop, if_pos hj]
  rw [es, e, List.set_append_right _ _ (by omega), List.set_append_right _ _ (by omega), List.set_append_right _ _ (by omega), List.set_append_right _ _ (by omega), List.set_append_right _ _ (by omega), hl, wlcells_app]
  rw [show j * 5 - j * 5 = 0 by omega, show j * 5 + 1 - j * 5 = 1 by omega, show j * 5 + 2 - j * 5 = 2 by omega, show j * 5 + 3 - j * 5 = 3 by omega, show j * 5 + 4 - j * 5 = 4 by omega]
  rfl
theorem lockWant_none {p : Nat → Addr} {w : World} {c : Nat} (h : c ≠ 0) (hc : c ≤ 13) : ErrAt p w (errV p c) c (-1) := by
  obtain ⟨k, rfl⟩ : ∃ k, c = k + 1 := ⟨c - 1, by omega⟩
  rw [errV_some p (Nat.succ_ne_zero k)]
  exact .inr (.inl ⟨k, rfl, by omega, rfl, rfl⟩)

set_option maxRecDepth 100000 in
set_option maxHeartbeats 8000000 in
theorem lockSet_new (p : Nat → Addr) (l : List Wt) (a : Option Addr) (ca : Nat) (n u k : List UInt8) (s m : Int) (w : World) (hE : WEnv p w) (hl : WLies w a l) (hca : l.length ≤ ca) (hs : SmallW l) (hn : n.length ≤ 90000) (hu : u.length ≤ 90000) :
    Calls Tryz.prog 14 #[.slice a l.length ca, wv ⟨n, u, k, s, m⟩] w fun e w' => ToldWN p w.heap.size w' e (setL l ⟨n, u, k, s, m⟩) ∧ Below w.heap.size w w' := by
  have hfew := hs.1
  have HE := Lib.hid hE
  have HL := Lib.hid hl
  have HS := Lib.hid hs
  have hB0 : Below w.heap.size w (w.alloc (wo n u k s m)) := (Below.refl _ _).alloc (Nat.le_refl _) _
  have HE0 := Lib.hid (hE.below hB0)
  have HL0 := Lib.hid (hl.below hB0)
  clear hE hl hs hB0
  by_cases hz : (lockFault l).1 = 0
  · have hlk := lock_iff.1 hz
    have HK := Lib.hid hlk
    have HF := Lib.hid (lock_zero hlk)
    have h20 : l.length ≤ 20 := hlk.few
    clear hlk
    go_enter Tryz.func14, Tryz.ntmps14
    go_wp2_with fail
    refine (lockCheck_any p l a ca _ HE0.out HL0.out hca HS.out).mono ?_
    rintro e w0 ⟨⟨v, rfl, hv⟩, hb0⟩
    rw [HF.out] at hv
    have := hv.isNil
    subst this
    obtain ⟨hw0, hB⟩ := want_box hb0
    have HW0 := Lib.hid hw0
    have HB0 := Lib.hid hB
    have HX0 : Hid (Below (w.heap.size + 1) (w.alloc (wo n u k s m)) w0) := hb0.mono (by simp)
    clear hv hb0 hw0 hB
    obtain ⟨g0, g1, g2, g3, g4⟩ := HW0.out
    go_wp2_with fail
    cases hc : wantCode ⟨n, u, k, s, m⟩ with
    | succ j =>
      have HT := Lib.hid (setL_want (x := ⟨n, u, k, s, m⟩) hz hc)
      have hj13 : j + 1 ≤ 13 := by have := want_le ⟨n, u, k, s, m⟩; omega
      have HC := Lib.hid hc
      clear hc hz
      refine (wantCheck_is p n u k s m _ _ (HE.out.below HB0.out) hn hu HC.out).mono ?_
      rintro e w1 ⟨rfl, hb1⟩
      have HB1 := Lib.hid (HB0.out.trans (hb1.mono HB0.out.size))
      have HV : Hid (ErrAt p w1 (errV p (j + 1)) (j + 1) (-1)) := lockWant_none (Nat.succ_ne_zero j) hj13
      have hes := errV_some p (Nat.succ_ne_zero j)
      rw [hes] at HV ⊢
      clear hb1 hes
      go_wp2
      go_ret2
      exact ⟨by rw [HT.out]; exact toldWN_none HV.out, HB1.out⟩
    | zero =>
      have HC := Lib.hid hc
      refine (wantCheck_is p n u k s m _ _ (HE.out.below HB0.out) hn hu hc).mono ?_
      clear hc
      rintro e w1 ⟨rfl, hb1⟩
      rw [errV_zero]
      have hs0 : w.heap.size + 1 ≤ w0.heap.size := by have := HX0.out.size; simpa using this
      have HX1 := Lib.hid (HX0.out.trans (hb1.mono hs0))
      have HB1 := Lib.hid (HB0.out.trans (hb1.mono HB0.out.size))
      have hw1 := HW0.out.below hb1
      have HW1 := Lib.hid hw1
      clear hb1 g0 g1 g2 g3 g4 HW0 HB0 HX0 hs0 hw1
      obtain ⟨g0, g1, g2, g3, g4⟩ := HW1.out
      go_wp2_with fail
      refine (clone_any_w l a ca _ (HL.out.below HB1.out) hfew).mono ?_
      rintro e w2 ⟨⟨v, rfl, hown⟩, hb2⟩
      have hs1 : w.heap.size + 1 ≤ w1.heap.size := by have := HX1.out.size; simpa using this
      have HOWN := Lib.hid (hown.mono hs1)
      have HX2 := Lib.hid (HX1.out.trans (hb2.mono hs1))
      have HB2 := Lib.hid (HB1.out.trans (hb2.mono HB1.out.size))
      have HW2 := Lib.hid (HW1.out.below hb2)
      clear hb2 hown g0 g1 g2 g3 g4 HW1 HB1 HX1 hs1
      obtain ⟨g0, g1, g2, g3, g4⟩ := HW2.out
      go_wp2_with fail
      refine (searchW_any l a ca n _ (HL.out.below HB2.out) hfew HK.out).mono ?_
      rintro e w3 ⟨rfl, hb3⟩
      have hs2 : w.heap.size + 1 ≤ w2.heap.size := by have := HX2.out.size; simpa using this
      have HX3 := Lib.hid (HX2.out.trans (hb3.mono hs2))
      have HB3 := Lib.hid (HB2.out.trans (hb3.mono HB2.out.size))
      have HW3 := Lib.hid (HW2.out.below hb3)
      have HOWN3 := Lib.hid (owns_below HOWN.out hb3)
      clear hb3 g0 g1 g2 g3 g4 HW2 HB2 HX2 HOWN hs2
      obtain ⟨g0, g1, g2, g3, g4⟩ := HW3.out
      have hs3 : w.heap.size + 1 ≤ w3.heap.size := by have := HX3.out.size; simpa using this
      cases ht : thereL l n with
      | true =>
        have HT := Lib.hid (setL_there (x := ⟨n, u, k, s, m⟩) hz HC.out ht)
        obtain ⟨hj, _⟩ := there_yes ht
        have HLEN : Hid ((l.set (placeL l n) ⟨n, u, k, s, m⟩).length = l.length) := List.length_set
        generalize placeL l n = j at hj HT HLEN ⊢
        obtain ⟨g, cap, rfl, hcap⟩ : ∃ g cap, v = .slice (some ⟨g, 0, none⟩) l.length cap ∧ l.length ≤ cap := by
          rcases HOWN3.out.2 with ⟨_, h0⟩ | ⟨g, cap, cur, h', _, _, hn, _⟩
          · omega
          · exact ⟨g, cap, h', hn⟩
        have hrow := HOWN3.out
        have hgw := hrow.lt g rfl
        have m0 : w3.cell? ⟨g, j * 5, none⟩ = some (sv l[j].n) := by
          rw [hrow.cellAt (j * 5) (by omega)]
          have := wlcells_at l j hj 0 (by decide)
          rw [Nat.add_zero] at this
          exact this
        have m1 : w3.cell? ⟨g, j * 5 + 1, none⟩ = some (sv l[j].u) := by
          rw [hrow.cellAt (j * 5 + 1) (by omega)]
          exact wlcells_at l j hj 1 (by decide)
        have m2 : w3.cell? ⟨g, j * 5 + 2, none⟩ = some (sv l[j].k) := by
          rw [hrow.cellAt (j * 5 + 2) (by omega)]
          exact wlcells_at l j hj 2 (by decide)
        have m3 : w3.cell? ⟨g, j * 5 + 3, none⟩ = some (.int .i64 l[j].s) := by
          rw [hrow.cellAt (j * 5 + 3) (by omega)]
          exact wlcells_at l j hj 3 (by decide)
        have m4 : w3.cell? ⟨g, j * 5 + 4, none⟩ = some (.int .i64 l[j].m) := by
          rw [hrow.cellAt (j * 5 + 4) (by omega)]
          exact wlcells_at l j hj 4 (by decide)
        have f0 := hrow.frozenAt (j * 5)
        have f1 := hrow.frozenAt (j * 5 + 1)
        have f2 := hrow.frozenAt (j * 5 + 2)
        have f3 := hrow.frozenAt (j * 5 + 3)
        have f4 := hrow.frozenAt (j * 5 + 4)
        have hr5 := (((((hrow.stored (j * 5) (sv n)).1.stored (j * 5 + 1) (sv u)).1.stored (j * 5 + 2) (sv k)).1.stored (j * 5 + 3) (.int .i64 s)).1.stored (j * 5 + 4) (.int .i64 m)).1
        rw [put_cells_w hj ⟨n, u, k, s, m⟩, ← HLEN.out] at hr5
        obtain ⟨a3, c3, e3, hlies3, _⟩ := owns_lies_w hr5
        rw [HLEN.out] at e3
        cases e3
        have HLI := Lib.hid hlies3
        have HB4 : Hid (Below w.heap.size w (((((w3.setCell ⟨g, j * 5, none⟩ (sv n)).setCell ⟨g, j * 5 + 1, none⟩ (sv u)).setCell ⟨g, j * 5 + 2, none⟩ (sv k)).setCell ⟨g, j * 5 + 3, none⟩ (.int .i64 s)).setCell ⟨g, j * 5 + 4, none⟩ (.int .i64 m))) :=
          ((((HB3.out.setCell (p := ⟨g, j * 5, none⟩) (by show _ ≤ g; omega) _).setCell (p := ⟨g, j * 5 + 1, none⟩) (by show _ ≤ g; omega) _).setCell (p := ⟨g, j * 5 + 2, none⟩) (by show _ ≤ g; omega) _).setCell (p := ⟨g, j * 5 + 3, none⟩) (by show _ ≤ g; omega) _).setCell (p := ⟨g, j * 5 + 4, none⟩) (by show _ ≤ g; omega) _
        have hj' : (j : Int) < (l.length : Int) := by omega
        have hgb : w.heap.size ≤ g := by omega
        clear ht hr5 hlies3 hrow HOWN3 HX3 hgw hz
        generalize l[j] = y at m0 m1 m2 m3 m4
        go_wp2
        go_ret2
        refine ⟨?_, HB4.out⟩
        rw [HT.out]
        exact ⟨some ⟨g, 0, none⟩, cap, _, by rw [HLEN.out] <;> rfl, HLI.out, by rw [HLEN.out]; exact hcap, ErrAt.fine p _, fun b o t e => by cases e; omega⟩
      | false =>
        by_cases hfull : l.length = 20
        · have HT := Lib.hid (setL_full (x := ⟨n, u, k, s, m⟩) hz HC.out ht hfull)
          have hfi : (l.length : Int) = 20 := by omega
          have s7 := (HE.out.below HB3.out).env.s7
          clear ht hz
          go_wp2_with fail
          go_quiet (fail)
          go_wp2
          go_ret2
          exact ⟨by rw [HT.out]; exact toldWN_none (.inr (.inl ⟨7, rfl, by omega, rfl, rfl⟩)), below_drewN HB3.out _⟩
        · have HT := Lib.hid (setL_new (x := ⟨n, u, k, s, m⟩) hz HC.out ht hfull)
          have hfi : ((l.length : Int) == 20) = false := by simp; omega
          have hple := place_le l n
          have HLEN : Hid ((l.take (placeL l n) ++ (⟨n, u, k, s, m⟩ : Wt) :: l.drop (placeL l n)).length = l.length + 1) := by
            show _ = _
            rw [List.length_append, List.length_cons, List.length_take, List.length_drop]; omega
          have HINS := Lib.hid (insert_any_w l v w3.heap.size (placeL l n) (w.heap.size + 1) ⟨n, u, k, s, m⟩ _ (HOWN3.out.alloc (wo n u k s m)) hfew hple (heap_new _ _) (fun e => by have := (HOWN3.out.lt _ e).2; omega) (by simp; omega))
          clear ht hz
          generalize placeL l n = j at hple HT HLEN HINS ⊢
          go_wp2_with fail
          refine HINS.out.mono ?_
          rintro e w4 ⟨⟨a4, c4, rfl, hlies, hc4, hnw⟩, hb4⟩
          have HLI := Lib.hid hlies
          have HNW := Lib.hid hnw
          have HB4 := Lib.hid ((HB3.out.alloc (by omega) _).trans (hb4.mono (by omega)))
          clear hlies hb4 hnw HINS g0 g1 g2 g3 g4
          go_wp2
          go_ret2
          refine ⟨?_, HB4.out⟩
          rw [HT.out]
          exact ⟨a4, c4, _, by rw [HLEN.out] <;> rfl, HLI.out, by rw [HLEN.out]; exact hc4, ErrAt.fine p _, fun b o t e => by have := HNW.out b o t e; omega⟩
  · have HT := Lib.hid (setL_bad (x := ⟨n, u, k, s, m⟩) hz)
    have HZ := Lib.hid hz
    clear hz
    go_enter Tryz.func14, Tryz.ntmps14
    go_wp2_with fail
    refine (lockCheck_any p l a ca _ HE0.out HL0.out hca HS.out).mono ?_
    rintro e w1 ⟨⟨v, rfl, hv⟩, hb1⟩
    obtain ⟨T, u, rfl⟩ := hv.some HZ.out
    have HV := Lib.hid hv
    have HB1 := Lib.hid (want_box hb1).2
    clear hv hb1
    go_wp2
    go_ret2
    exact ⟨by rw [HT.out]; exact toldWN_none HV.out, HB1.out⟩
theorem lockSet_any (p : Nat → Addr) (l : List Wt) (a : Option Addr) (ca : Nat) (n u k : List UInt8) (s m : Int) (w : World) (hE : WEnv p w) (hl : WLies w a l) (hca : l.length ≤ ca) (hs : SmallW l) (hn : n.length ≤ 90000) (hu : u.length ≤ 90000) :
    Calls Tryz.prog 14 #[.slice a l.length ca, wv ⟨n, u, k, s, m⟩] w fun e w' => ToldW p w' e (setL l ⟨n, u, k, s, m⟩) ∧ Below w.heap.size w w' :=
  (lockSet_new p l a ca n u k s m w hE hl hca hs hn hu).mono fun _ _ h => ⟨h.1.told, h.2⟩
end Go.Proofs.YtmeipangcgdinaaGreatDoor
/-
  Package lock: Text: a contract; the closed fact of the laws on locks: over this seat's translation.
-/
namespace Go.Proofs.YtmeipangcgdinaaGreatDoor
open Go.RowKit Go.Shelf

/-- A lock as text, where it is right. -/
def linesK (l : List Wt) : List UInt8 := l.flatMap fun x => textW x ++ [10]
def textK (l : List Wt) : List UInt8 := if (lockFault l).1 = 0 then linesK l else []
theorem textK_yes {l : List Wt} (h : Lock l) : textK l = linesK l := by unfold textK; rw [if_pos (lock_iff.2 h)]
theorem textK_no {l : List Wt} (h : (lockFault l).1 ≠ 0) : textK l = [] := by unfold textK; rw [if_neg h]
theorem textW_short {x : Wt} (h : wantCode x = 0) (hu : x.u.length ≤ 90000) : (textW x).length ≤ 100000 := by
  obtain ⟨h1, _, h3, h4, _, h6⟩ := want_zero h
  have hn : x.n.length ≤ 12 := by
    simp only [isPart, Bool.and_eq_true, decide_eq_true_eq] at h1
    omega
  have hk : x.k.length ≤ 5 := by
    rcases kind_cases h3 with e | e | e <;> (rw [e]; decide)
  have hd : (digitsL x.s.toNat).length ≤ 1 := digits_length 0 x.s.toNat (by omega)
  have hm : (textS x.m).length ≤ 20 := by
    rw [text_is h6]
    have hb : x.m.toNat < 10 ^ (18 + 1) := by
      have := h6
      simp only [isS, decide_eq_true_eq] at this
      omega
    have := digits_length 18 x.m.toNat hb
    simp only [List.length_cons]
    omega
  rw [textW_yes h]
  unfold wordsW
  rw [join_words]
  simp only [List.length_append, List.length_cons]
  omega
theorem linesK_short : ∀ {l : List Wt}, (∀ x ∈ l, wantCode x = 0 ∧ x.u.length ≤ 90000) → (linesK l).length ≤ l.length * 100001
  | [], _ => by simp [linesK]
  | x :: r, h => by
    have h1 := textW_short (h x List.mem_cons_self).1 (h x List.mem_cons_self).2
    have h2 := linesK_short (l := r) fun y hy => h y (List.mem_cons_of_mem _ hy)
    show (textW x ++ [10] ++ linesK r).length ≤ _
    simp only [List.length_append, List.length_cons, List.length_nil]
    omega
theorem lines_take {l : List Wt} {q : Nat} (h : q < l.length) : linesK (l.take (q + 1)) = linesK (l.take q) ++ (textW l[q] ++ [10]) := by
  rw [List.take_succ_eq_append_getElem h]
  unfold linesK
  rw [List.flatMap_append]
  congr 1
  exact List.append_nil _

set_option maxRecDepth 100000 in
set_option maxHeartbeats 4000000 in
theorem lockText_any (p : Nat → Addr) (l : List Wt) (a : Option Addr) (ca : Nat) (w : World) (hE : WEnv p w) (hl : WLies w a l) (hca : l.length ≤ ca) (hs : SmallW l) :
    Calls Tryz.prog 7 #[.slice a l.length ca] w fun e w' => (∃ v, e = .returned (.tuple #[.string ⟨(textK l).toArray⟩, v]) ∧ ErrAt p w' v (lockFault l).1 (lockFault l).2) ∧ Below w.heap.size w w' := by
  have HE := Lib.hid hE
  have HL := Lib.hid hl
  have HS := Lib.hid hs
  clear hE hl hs
  go_enter Tryz.func7, Tryz.ntmps7
  go_wp2_with fail
  refine (lockCheck_any p l a ca _ HE.out HL.out hca HS.out).mono ?_
  rintro e w1 ⟨⟨v, rfl, hv⟩, hb1⟩
  have HB1 := Lib.hid hb1
  clear hb1
  by_cases hz : (lockFault l).1 = 0
  · have hlk := lock_iff.1 hz
    have HK := Lib.hid hlk
    have HM := Lib.hid (textK_yes hlk)
    have HF := Lib.hid (lock_zero hlk)
    have h20 := hlk.few
    rw [hz] at hv
    have := hv.isNil
    subst this
    have HBD := Lib.hid (built_fresh w1)
    have hB1s := HB1.out.size
    clear hv hz hlk
    go_wp2_with fail
    obtain ⟨W0, hW0⟩ : ∃ W0, W0 = w1.alloc (.cells #[.pointer none, .slice none 0 0] 50) := ⟨_, rfl⟩
    have HB0 : Hid (Below w.heap.size w W0) := by
      show Below _ _ _
      rw [hW0]
      exact HB1.out.alloc HB1.out.size _
    rw [← hW0] at HBD ⊢
    clear hW0 HB1
    generalize w1.heap.size = b at HBD hB1s ⊢
    clear w1
    go_loopw [15] (fun i wr => ∃ q : Nat, q ≤ l.length ∧ i = .int .i64 q ∧ Built b b (linesK (l.take q)) wr ∧ Below w.heap.size w wr) (fun i _ => l.length - (intOf i).toNat)
    case atStart => exact ⟨0, by omega, rfl, by simpa [linesK] using HBD.out, HB0.out⟩
    case round =>
      obtain ⟨q, hq, rfl, hbd, hb⟩ := hrel
      have HBQ := Lib.hid hbd
      have HB := Lib.hid hb
      clear hbd hb
      by_cases hlt : q < l.length
      · have hlt' : (q : Int) < (l.length : Int) := by omega
        obtain ⟨bb, o, rfl, c0, c1, c2, c3, c4⟩ := (HL.out.below HB.out).at hlt
        obtain ⟨hpl, hul⟩ := HS.out.2 _ (List.getElem_mem hlt)
        have hrt := HK.out.right _ (List.getElem_mem hlt)
        have hlen := linesK_short (l := l.take q) (fun x hx => ⟨HK.out.right x (List.mem_of_mem_take hx), (HS.out.2 x (List.mem_of_mem_take hx)).2⟩)
        have htk : (l.take q).length ≤ q := by rw [List.length_take]; omega
        have hws := textW_short hrt hul
        have HPK := Lib.hid (lines_take hlt)
        generalize l[q] = f at c0 c1 c2 c3 c4 hpl hul HPK hws
        generalize linesK (l.take q) = pk at HBQ HPK hlen
        have hpk : pk.length ≤ 60000000000 := by omega
        clear hlen htk hrt
        obtain ⟨n, u, k, s, m⟩ := f
        go_wp2_with fail
        obtain ⟨W, hW⟩ : ∃ W, W = wr.alloc (wo n u k s m) := ⟨_, rfl⟩
        have hBW : Below wr.heap.size wr W := by rw [hW]; exact (Below.refl _ _).alloc (Nat.le_refl _) _
        have HBW := Lib.hid (HB.out.trans (hBW.mono HB.out.size))
        have HQ1 := Lib.hid (HBQ.out.below hBW)
        rw [← hW]
        clear hW hBW HBQ c0 c1 c2 c3 c4
        refine (wantText_any p n u k s m _ (HE.out.below HBW.out) hpl hul).mono ?_
        rintro e w2 ⟨rfl, hb2⟩
        have HB2 := Lib.hid (HBW.out.trans (hb2.mono HBW.out.size))
        have HQ2 := Lib.hid (HQ1.out.below hb2)
        clear hb2 HQ1
        go_wp2_with fail
        refine (built_write b b pk (textW ⟨n, u, k, s, m⟩) _ HQ2.out (by omega) (Nat.le_of_lt HQ2.out.lt)).mono ?_
        rintro e w3 ⟨rfl, hq3, hb3, _⟩
        have HB3 := Lib.hid (HB2.out.trans (hb3.mono hB1s))
        have HQ3 := Lib.hid hq3
        clear hq3 hb3 HQ2
        go_wp2_with fail
        refine (built_write b b (pk ++ textW ⟨n, u, k, s, m⟩) [10] _ HQ3.out (by simp; omega) (Nat.le_of_lt HQ3.out.lt)).mono ?_
        rintro e w4 ⟨rfl, hq4, hb4, _⟩
        have HB4 := Lib.hid (HB3.out.trans (hb4.mono hB1s))
        have HQ4 := Lib.hid hq4
        clear hq4 hb4 HQ3
        go_wp2
        go_roundw
        case rel =>
          refine ⟨q + 1, by omega, by go_num, ?_, HB4.out⟩
          rw [HPK.out, ← List.append_assoc]
          exact HQ4.out
        case measure => simp [intOf]; omega
      · obtain rfl : q = l.length := by omega
        rw [List.take_length] at HBQ
        go_wp2_with fail
        refine (built_string b b _ _ HBQ.out (Nat.le_of_lt HBQ.out.lt)).mono ?_
        rintro e w2 ⟨rfl, hb2⟩
        have HB2 := Lib.hid (HB.out.trans (hb2.mono hB1s))
        clear hb2
        go_wp2
        go_ret2
        exact ⟨⟨_, by rw [HM.out] <;> rfl, by rw [HF.out]; exact ErrAt.fine p _⟩, HB2.out⟩
  · have HM := Lib.hid (textK_no hz)
    obtain ⟨T, u, rfl⟩ := hv.some hz
    have HV := Lib.hid hv
    clear hv hz
    go_wp2
    go_ret2
    exact ⟨⟨_, by rw [HM.out] <;> rfl, HV.out⟩, HB1.out⟩

/-- The closed fact's want. -/
abbrev lockedW : Wt := ⟨[97], [104, 116, 116, 112, 58, 47, 47, 104, 47, 120], [112, 108, 97, 105, 110], 0, 7⟩
theorem locked_code : wantCode lockedW = 0 := by kernel_rfl
theorem locked_set : setL [] lockedW = ([lockedW], 0, -1) := by
  rw [setL_new (lock_iff.2 Lock.nil) locked_code rfl (by simp)]
  rfl
theorem locked_lock : Lock [lockedW] := ⟨by simp, fun x hx => by simp at hx; subst hx; exact locked_code, by simp⟩
theorem locked_text : textK [lockedW] = [97, 32, 104, 116, 116, 112, 58, 47, 47, 104, 47, 120, 32, 112, 108, 97, 105, 110, 32, 48, 32, 115, 55, 10] := by
  have h1 : digitsL (0 : Int).toNat = [48] := by
    show digitsL 0 = [48]
    rw [digits_small (by decide)]
    rfl
  have h7 : textS 7 = [115, 55] := by
    rw [text_is (by decide)]
    show 115 :: digitsL 7 = [115, 55]
    rw [digits_small (by decide)]
    rfl
  rw [textK_yes locked_lock]
  show textW lockedW ++ [10] ++ [] = _
  rw [textW_yes locked_code]
  simp only [wordsW, h1, h7]
  rw [join_words]
  rfl

set_option maxRecDepth 100000 in
set_option maxHeartbeats 2000000 in
theorem locked_any (p : Nat → Addr) (w : World) (hE : WEnv p w) : Calls Tryz.prog 4 #[] w fun e w' => e = .returned (.bool true) ∧ Below w.heap.size w w' := by
  have HE := Lib.hid hE
  have hbx : Below w.heap.size w (w.alloc (wo [97] [104, 116, 116, 112, 58, 47, 47, 104, 47, 120] [112, 108, 97, 105, 110] 0 7)) := (Below.refl _ _).alloc (Nat.le_refl _) _
  have HSET : Hid (∀ W, WEnv p W → Calls Tryz.prog 14 #[.slice none 0 0, wv lockedW] W fun e w' => ToldW p w' e ([lockedW], 0, -1) ∧ Below W.heap.size W w') := fun W hW => by
    have := lockSet_any p [] none 0 [97] [104, 116, 116, 112, 58, 47, 47, 104, 47, 120] [112, 108, 97, 105, 110] 0 7 W hW (WLies.nil _ _) (Nat.le_refl _) ⟨by simp, fun x hx => by simp at hx⟩ (by simp) (by simp)
    rw [locked_set] at this
    exact this
  clear hE
  go_enter Tryz.func4, Tryz.ntmps4
  go_wp2_with fail
  refine (HSET.out _ (HE.out.below hbx)).mono ?_
  rintro e w1 ⟨⟨a1, c1, v1, rfl, hl1, hc1, hv1⟩, hb1⟩
  have := hv1.isNil
  subst this
  have HB1 := Lib.hid (hbx.trans (hb1.mono hbx.size))
  have HL1 := Lib.hid hl1
  clear hv1 hb1 hl1 hbx
  go_wp2_with fail
  refine (lockText_any p [lockedW] a1 c1 _ (HE.out.below HB1.out) HL1.out hc1 ⟨by simp, fun x hx => by simp at hx; subst hx; simp⟩).mono ?_
  rintro e w2 ⟨⟨v2, rfl, hv2⟩, hb2⟩
  rw [lock_zero locked_lock] at hv2
  have := hv2.isNil
  subst this
  rw [locked_text]
  have HB2 := Lib.hid (HB1.out.trans (hb2.mono HB1.out.size))
  clear hv2 hb2
  go_wp2
  go_ret
  exact ⟨rfl, HB2.out⟩
end Go.Proofs.YtmeipangcgdinaaGreatDoor
