/-
  Own texts of the proof, joined by program: PkWantRead, WantBox.
-/
import Derived.Test.YtmeipangcgdinaaGreatDoorPkWantPkWantText
import Derived.Test.YtmeipangcgdinaaGreatDoorPkHasPkTimes
import Derived.Test.YtmeipangcgdinaaGreatDoorPkReadPkWords
import Derived.Test.YtmeipangcgdinaaGreatDoorPkFilePkCutFile
import Derived.Test.YtmeipangcgdinaaGreatDoorTreeMemTreeSlotsTreeOwn
/-
  Package want: Read: a contract, over this seat's translation.
-/
namespace Go.Proofs.YtmeipangcgdinaaGreatDoor
open Go.RowKit Go.Shelf

/-- A result's own five cells, still as they were laid. -/
theorem slot_five {w wr : World} {a b c d e : Value} {T : TypeId} (h : Below (w.heap.size + 1) (w.alloc (.cells #[a, b, c, d, e] T)) wr) :
    (wr.cell? ⟨w.heap.size, 0, none⟩ = some a ∧ wr.cell? ⟨w.heap.size, 1, none⟩ = some b ∧ wr.cell? ⟨w.heap.size, 2, none⟩ = some c ∧ wr.cell? ⟨w.heap.size, 3, none⟩ = some d ∧ wr.cell? ⟨w.heap.size, 4, none⟩ = some e) ∧
    (wr.frozen? ⟨w.heap.size, 0, none⟩ = false ∧ wr.frozen? ⟨w.heap.size, 1, none⟩ = false ∧ wr.frozen? ⟨w.heap.size, 2, none⟩ = false ∧ wr.frozen? ⟨w.heap.size, 3, none⟩ = false ∧ wr.frozen? ⟨w.heap.size, 4, none⟩ = false) ∧ Below w.heap.size w wr := by
  have e := h.block w.heap.size (Nat.lt_succ_self _)
  rw [heap_new] at e
  exact ⟨⟨by simp [World.cell?, e], by simp [World.cell?, e], by simp [World.cell?, e], by simp [World.cell?, e], by simp [World.cell?, e]⟩, ⟨by simp [World.frozen?, e], by simp [World.frozen?, e], by simp [World.frozen?, e], by simp [World.frozen?, e], by simp [World.frozen?, e]⟩, ((Below.refl _ _).alloc (Nat.le_refl _) _).trans (h.mono (by omega))⟩

/-- The world behind five stores. -/
abbrev set5 (wr : World) (b : Nat) (v0 v1 v2 v3 v4 : Value) : World := ((((wr.setCell ⟨b, 0, none⟩ v0).setCell ⟨b, 1, none⟩ v1).setCell ⟨b, 2, none⟩ v2).setCell ⟨b, 3, none⟩ v3).setCell ⟨b, 4, none⟩ v4
theorem slot_set5 {w wr : World} {b : Nat} {u0 u1 u2 u3 u4 : Value} (v0 v1 v2 v3 v4 : Value) (h0 : wr.cell? ⟨b, 0, none⟩ = some u0) (h1 : wr.cell? ⟨b, 1, none⟩ = some u1) (h2 : wr.cell? ⟨b, 2, none⟩ = some u2) (h3 : wr.cell? ⟨b, 3, none⟩ = some u3) (h4 : wr.cell? ⟨b, 4, none⟩ = some u4) (hb : Below b w wr) :
    ((set5 wr b v0 v1 v2 v3 v4).cell? ⟨b, 0, none⟩ = some v0 ∧ (set5 wr b v0 v1 v2 v3 v4).cell? ⟨b, 1, none⟩ = some v1 ∧ (set5 wr b v0 v1 v2 v3 v4).cell? ⟨b, 2, none⟩ = some v2 ∧ (set5 wr b v0 v1 v2 v3 v4).cell? ⟨b, 3, none⟩ = some v3 ∧ (set5 wr b v0 v1 v2 v3 v4).cell? ⟨b, 4, none⟩ = some v4) ∧ Below b w (set5 wr b v0 v1 v2 v3 v4) := by
  refine ⟨⟨?_, ?_, ?_, ?_, ?_⟩, ((((hb.setCell (p := ⟨b, 0, none⟩) (Nat.le_refl _) _).setCell (p := ⟨b, 1, none⟩) (Nat.le_refl _) _).setCell (p := ⟨b, 2, none⟩) (Nat.le_refl _) _).setCell (p := ⟨b, 3, none⟩) (Nat.le_refl _) _).setCell (p := ⟨b, 4, none⟩) (Nat.le_refl _) _⟩
  · unfold set5
    rw [World.cell?_setCell_other (h := by simp), World.cell?_setCell_other (h := by simp), World.cell?_setCell_other (h := by simp), World.cell?_setCell_other (h := by simp)]
    exact World.cell?_setCell_same' _ _ _ (by rw [h0]; rfl)
  · unfold set5
    rw [World.cell?_setCell_other (h := by simp), World.cell?_setCell_other (h := by simp), World.cell?_setCell_other (h := by simp)]
    exact World.cell?_setCell_same' _ _ _ (by rw [World.cell?_setCell_other (h := by simp), h1]; rfl)
  · unfold set5
    rw [World.cell?_setCell_other (h := by simp), World.cell?_setCell_other (h := by simp)]
    exact World.cell?_setCell_same' _ _ _ (by rw [World.cell?_setCell_other (h := by simp), World.cell?_setCell_other (h := by simp), h2]; rfl)
  · unfold set5
    rw [World.cell?_setCell_other (h := by simp)]
    exact World.cell?_setCell_same' _ _ _ (by rw [World.cell?_setCell_other (h := by simp), World.cell?_setCell_other (h := by simp), World.cell?_setCell_other (h := by simp), h3]; rfl)
  · unfold set5
    exact World.cell?_setCell_same' _ _ _ (by rw [World.cell?_setCell_other (h := by simp), World.cell?_setCell_other (h := by simp), World.cell?_setCell_other (h := by simp), World.cell?_setCell_other (h := by simp), h4]; rfl)

/-- Texts in a new block, cell by cell. -/
theorem words_new (w : World) (k : List (List UInt8)) : ∀ j (h : j < k.length), (w.alloc (.cells (k.map sv).toArray 9)).cell? ⟨w.heap.size, 0 + j, none⟩ = some (.string ⟨(k[j]).toArray⟩) := by
  intro j hj
  have e := heap_new w (.cells (k.map sv).toArray 9)
  generalize w.alloc (.cells (k.map sv).toArray 9) = W at e ⊢
  simp [World.cell?, e, hj]

/-- A variable that lies below what is written. -/
theorem far_text {w : World} {g b : Nat} {v : Value} (h : w.cell? ⟨g, 0, none⟩ = some v) (hb : g < b) : (w.setCell ⟨b, 0, none⟩ (.string ⟨#[]⟩)).cell? ⟨g, 0, none⟩ = some v := by
  have hne : (⟨b, 0, none⟩ : Addr) ≠ ⟨g, 0, none⟩ := fun e => by
    have : b = g := congrArg Addr.block e
    omega
  rw [World.cell?_setCell_other (h := hne)]
  exact h
abbrev slot0 : Obj := .cells #[.string ⟨#[]⟩, .string ⟨#[]⟩, .string ⟨#[]⟩, .int .i64 0, .int .i64 0] 41

set_option maxRecDepth 100000 in
set_option maxHeartbeats 8000000 in
theorem wantRead_any (p : Nat → Addr) (s : List UInt8) (w : World) (hE : WEnv p w) (hs : s.length ≤ 90000) :
    Calls Tryz.prog 42 #[.string ⟨s.toArray⟩] w fun e w' => e = .returned (.tuple #[wv (readW s).1, errV p (readW s).2]) ∧ Below w.heap.size w w' := by
  have hpl := piecesBy_length 32 s
  have hcl : s.count 32 ≤ s.length := List.count_le_length
  have HE := Lib.hid hE
  clear hE
  by_cases hl : (piecesBy 32 s).length = 5
  case neg =>
    have HR := Lib.hid (readW_few hl)
    have hl' : ¬ (((piecesBy 32 s).length : Nat) : Int) = 5 := by omega
    go_enter Tryz.func42, Tryz.ntmps42
    go_wp2_with fail
    refine (split_any 32 s _ (by omega)).mono ?_
    rintro x w1 ⟨rfl, hw1⟩
    have HS1 : Hid (Below (w.heap.size + 1) (w.alloc slot0) w1) := by
      show Below (w.heap.size + 1) (w.alloc slot0) w1
      rw [hw1]
      exact (Below.refl _ _).alloc (by simp) _
    clear hw1 hpl hcl hl
    generalize (piecesBy 32 s).length = nn at hl' ⊢
    generalize (w.alloc slot0).heap.size = bb
    obtain ⟨⟨s0, s1, s2, s3, s4⟩, ⟨z0, z1, z2, z3, z4⟩, hB⟩ := slot_five HS1.out
    have HB := Lib.hid hB
    have hg := (HE.out.below hB).env.s0
    have hg1 := far_text (w := w1) hg (block_lt_of_cell HE.out.env.s0)
    clear hB
    go_wp2_with fail
    go_region
    go_wp2
    obtain ⟨⟨q0, q1, q2, q3, q4⟩, q5⟩ := slot_set5 (w := w) (.string ⟨#[]⟩) (.string ⟨#[]⟩) (.string ⟨#[]⟩) (.int .i64 0) (.int .i64 0) s0 s1 s2 s3 s4 HB.out
    exact bodyPost_ret (v := .tuple #[wv Wt.zero, errV p 1]) (by simp [results, Tryz.results42, go_sem, q0, q1, q2, q3, q4, Wt.zero, errV]) rfl ⟨by rw [HR.out], q5.drew⟩
  case pos =>
    obtain ⟨a, b, c, d, e, h5⟩ := five_of hl
    have hle := piecesBy_le 32 s
    rw [h5] at hle
    have ha : a.length ≤ s.length := hle a (by simp)
    have hb : b.length ≤ s.length := hle b (by simp)
    have he : e.length ≤ s.length := hle e (by simp)
    have HR := Lib.hid (readW_five h5)
    have hlen5 : ([a, b, c, d, e] : List (List UInt8)).length = 5 := rfl
    go_enter Tryz.func42, Tryz.ntmps42
    go_wp2_with fail
    refine (split_any 32 s _ (by omega)).mono ?_
    rw [h5, hlen5]
    rintro x w1 ⟨rfl, hw1⟩
    have HS1 : Hid (Below (w.heap.size + 1) (w.alloc slot0) w1) := by
      show Below (w.heap.size + 1) (w.alloc slot0) w1
      rw [hw1]
      exact (Below.refl _ _).alloc (by simp) _
    have hcell : ∀ j (h : j < ([a, b, c, d, e] : List (List UInt8)).length), w1.cell? ⟨(w.alloc slot0).heap.size, 0 + j, none⟩ = some (.string ⟨(([a, b, c, d, e] : List (List UInt8))[j]).toArray⟩) := by
      rw [hw1]
      exact words_new _ _
    clear hw1 hpl hcl hl h5 hle
    generalize (w.alloc slot0).heap.size = bb at hcell ⊢
    have hbb : bb < w1.heap.size := block_lt_of_cell (hcell 0 (by simp))
    have HH : Hid (Calls Tryz.prog 59 #[.slice (some ⟨bb, 0, none⟩) 5 5, .string ⟨#[]⟩] w1 fun x w' => x = .returned (.bool (decide ([] ∈ ([a, b, c, d, e] : List (List UInt8))))) ∧ w' = w1) := has_any [] bb 0 5 [a, b, c, d, e] w1 (by simp) hcell
    have k3 : w1.cell? ⟨bb, 3, none⟩ = some (.string ⟨d.toArray⟩) := hcell 3 (by simp)
    have HW : Hid (∀ W, Below w1.heap.size w1 W → W.cell? ⟨bb, 0, none⟩ = some (.string ⟨a.toArray⟩) ∧ W.cell? ⟨bb, 1, none⟩ = some (.string ⟨b.toArray⟩) ∧ W.cell? ⟨bb, 2, none⟩ = some (.string ⟨c.toArray⟩) ∧ W.cell? ⟨bb, 3, none⟩ = some (.string ⟨d.toArray⟩) ∧ W.cell? ⟨bb, 4, none⟩ = some (.string ⟨e.toArray⟩)) := fun W hW =>
      ⟨(hW.cell (p := ⟨bb, 0, none⟩) hbb).trans (hcell 0 (by simp)), (hW.cell (p := ⟨bb, 1, none⟩) hbb).trans (hcell 1 (by simp)), (hW.cell (p := ⟨bb, 2, none⟩) hbb).trans (hcell 2 (by simp)), (hW.cell (p := ⟨bb, 3, none⟩) hbb).trans (hcell 3 (by simp)), (hW.cell (p := ⟨bb, 4, none⟩) hbb).trans (hcell 4 (by simp))⟩
    have HMEM : Hid ((a = [] ∨ b = [] ∨ c = [] ∨ d = [] ∨ e = []) ↔ [] ∈ ([a, b, c, d, e] : List (List UInt8))) := by
      show _ ↔ _
      simp only [List.mem_cons, List.not_mem_nil, or_false, eq_comm (a := ([] : List UInt8))]
    clear hcell hlen5
    go_wp2_with fail
    refine HH.out.mono ?_
    rintro x w' ⟨rfl, hw'⟩
    obtain rfl : w1 = w' := hw'.symm
    by_cases hm : [] ∈ ([a, b, c, d, e] : List (List UInt8))
    · have HX : Hid (readW s = (Wt.zero, 1)) := HR.out.trans (if_pos (.inl (HMEM.out.2 hm)))
      rw [decide_eq_true hm]
      clear hm HMEM HR HH HW
      obtain ⟨⟨s0, s1, s2, s3, s4⟩, ⟨z0, z1, z2, z3, z4⟩, hB⟩ := slot_five HS1.out
      have HB := Lib.hid hB
      have hg := (HE.out.below hB).env.s0
      have hg1 := far_text (w := w1) hg (block_lt_of_cell HE.out.env.s0)
      clear hB
      go_wp2_with fail
      go_region
      go_wp2
      obtain ⟨⟨q0, q1, q2, q3, q4⟩, q5⟩ := slot_set5 (w := w) (.string ⟨#[]⟩) (.string ⟨#[]⟩) (.string ⟨#[]⟩) (.int .i64 0) (.int .i64 0) s0 s1 s2 s3 s4 HB.out
      exact bodyPost_ret (v := .tuple #[wv Wt.zero, errV p 1]) (by simp [results, Tryz.results42, go_sem, q0, q1, q2, q3, q4, Wt.zero, errV]) rfl ⟨by rw [HX.out], q5.drew⟩
    · rw [decide_eq_false hm]
      have HM : Hid (¬ (a = [] ∨ b = [] ∨ c = [] ∨ d = [] ∨ e = [])) := fun h => hm (HMEM.out.1 h)
      clear hm HMEM HH
      go_wp2_with fail
      refine (wantDigit_any d _).mono ?_
      rintro x w' ⟨rfl, hw'⟩
      obtain rfl : w1 = w' := hw'.symm
      cases hd : digitW d with
      | false =>
        have HX : Hid (readW s = (Wt.zero, 1)) := HR.out.trans (if_pos (.inr (.inl hd)))
        clear hd HM HR HW
        obtain ⟨⟨s0, s1, s2, s3, s4⟩, ⟨z0, z1, z2, z3, z4⟩, hB⟩ := slot_five HS1.out
        have HB := Lib.hid hB
        have hg := (HE.out.below hB).env.s0
        have hg1 := far_text (w := w1) hg (block_lt_of_cell HE.out.env.s0)
        clear hB
        go_wp2_with fail
        go_region
        go_wp2
        obtain ⟨⟨q0, q1, q2, q3, q4⟩, q5⟩ := slot_set5 (w := w) (.string ⟨#[]⟩) (.string ⟨#[]⟩) (.string ⟨#[]⟩) (.int .i64 0) (.int .i64 0) s0 s1 s2 s3 s4 HB.out
        exact bodyPost_ret (v := .tuple #[wv Wt.zero, errV p 1]) (by simp [results, Tryz.results42, go_sem, q0, q1, q2, q3, q4, Wt.zero, errV]) rfl ⟨by rw [HX.out], q5.drew⟩
      | true =>
        have HD := Lib.hid hd
        obtain ⟨k0, k1, k2, k3', k4⟩ := HW.out _ (Below.refl _ _)
        have HE1 : Hid (WEnv p w1) := HE.out.below (slot_five HS1.out).2.2
        clear hd
        go_wp2_with fail
        refine (pkRead_any p e _ HE1.out.sum (by omega)).mono ?_
        rintro x w2 ⟨rfl, hb2⟩
        have HS2 : Hid (Below (w.heap.size + 1) (w.alloc slot0) w2) := HS1.out.trans (hb2.mono (by have := HS1.out.size; simp at this; omega))
        have HW2 := Lib.hid (HW.out _ hb2)
        have HBW := Lib.hid hb2
        clear hb2 k0 k1 k2 k3 k3' k4 HW HE1
        obtain ⟨⟨z, cz⟩, hz⟩ : ∃ y, readS e = y := ⟨_, rfl⟩
        rw [hz]
        cases cz with
        | succ j =>
          have HX : Hid (readW s = (Wt.zero, 1)) := HR.out.trans (if_pos (.inr (.inr (by rw [hz]; simp))))
          simp only [errV_some p (Nat.succ_ne_zero j)]
          clear hz HM HR HD
          obtain ⟨⟨s0, s1, s2, s3, s4⟩, ⟨z0, z1, z2, z3, z4⟩, hB⟩ := slot_five HS2.out
          have HB := Lib.hid hB
          have hg := (HE.out.below hB).env.s0
          have hg1 := far_text (w := w2) hg (block_lt_of_cell HE.out.env.s0)
          clear hB
          go_wp2_with fail
          go_region
          go_wp2
          obtain ⟨⟨q0, q1, q2, q3, q4⟩, q5⟩ := slot_set5 (w := w) (.string ⟨#[]⟩) (.string ⟨#[]⟩) (.string ⟨#[]⟩) (.int .i64 0) (.int .i64 0) s0 s1 s2 s3 s4 HB.out
          exact bodyPost_ret (v := .tuple #[wv Wt.zero, errV p 1]) (by simp [results, Tryz.results42, go_sem, q0, q1, q2, q3, q4, Wt.zero, errV]) rfl ⟨by rw [HX.out], q5.drew⟩
        | zero =>
          have hx : readW s = if wantCode ⟨a, b, c, valueW d, z⟩ ≠ 0 then (Wt.zero, wantCode ⟨a, b, c, valueW d, z⟩) else (⟨a, b, c, valueW d, z⟩, 0) := by
            have := HR.out
            rw [if_neg (fun h => h.elim HM.out (fun h => h.elim (by rw [HD.out]; simp) (fun h => h (by rw [hz]))))] at this
            rw [this]
            simp only [fiveW, hz]
          have HX := Lib.hid hx
          simp only [errV_zero]
          have hdig := HD.out
          simp only [digitW, Bool.and_eq_true, beq_iff_eq] at hdig
          obtain ⟨d0, rfl⟩ := List.length_eq_one_iff.1 hdig.1
          have hd1 : isDigit d0 = true := by simpa using hdig.2
          have hsub := sub_digit hd1
          have hdl := digit_le hd1
          have hval : valueW [d0] = ((d0.toNat - 48 : Nat) : Int) := by
            show ((d0.toNat : Nat) : Int) - 48 = _
            omega
          rw [hval] at HX
          have hat : (({ data := #[d0] } : ByteArray)[0]'(by simp [ByteArray.size])) = d0 := rfl
          obtain ⟨k0, k1, k2, k3, k4⟩ := HW2.out
          have hb2 : bb < w2.heap.size := block_lt_of_cell k0
          have m0 : (w2.alloc slot0).cell? ⟨bb, 0, none⟩ = _ := (World.cell?_alloc_lt w2 slot0 ⟨bb, 0, none⟩ hb2).trans k0
          have m1 : (w2.alloc slot0).cell? ⟨bb, 1, none⟩ = _ := (World.cell?_alloc_lt w2 slot0 ⟨bb, 1, none⟩ hb2).trans k1
          have m2 : (w2.alloc slot0).cell? ⟨bb, 2, none⟩ = _ := (World.cell?_alloc_lt w2 slot0 ⟨bb, 2, none⟩ hb2).trans k2
          have m3 : (w2.alloc slot0).cell? ⟨bb, 3, none⟩ = _ := (World.cell?_alloc_lt w2 slot0 ⟨bb, 3, none⟩ hb2).trans k3
          have m4 : (w2.alloc slot0).cell? ⟨bb, 4, none⟩ = _ := (World.cell?_alloc_lt w2 slot0 ⟨bb, 4, none⟩ hb2).trans k4
          obtain ⟨⟨s0, s1, s2, s3, s4⟩, ⟨z0, z1, z2, z3, z4⟩, hB⟩ := slot_five HS2.out
          have HB := Lib.hid hB
          have HE2 := Lib.hid (HE.out.below hB)
          clear hx hz HM HR HD hdig hd1 hB hval
          go_wp2_with fail
          go_region
          go_wp2_with fail
          have hW0 : WantAt (w2.alloc (wo a b c ((d0.toNat - 48 : Nat) : Int) z)).drew w2.heap.size a b c ((d0.toNat - 48 : Nat) : Int) z := (WantAt.new w2 a b c ((d0.toNat - 48 : Nat) : Int) z).below (Below.refl _ _).drew
          have hB20 : Below w2.heap.size w2 (w2.alloc (wo a b c ((d0.toNat - 48 : Nat) : Int) z)).drew := ((Below.refl _ _).alloc (Nat.le_refl _) _).drew
          have HS20 : Hid (Below (w.heap.size + 1) (w.alloc slot0) (w2.alloc (wo a b c ((d0.toNat - 48 : Nat) : Int) z)).drew) := HS2.out.trans (hB20.mono (by have := HS2.out.size; simp at this; omega))
          refine (wantCheck_any p a b c ((d0.toNat - 48 : Nat) : Int) z _ (HE2.out.below hB20) (by omega) (by omega)).mono ?_
          rintro x w3 ⟨rfl, hb3⟩
          have hW3 := hW0.below hb3
          have HS3 : Hid (Below (w.heap.size + 1) (w.alloc slot0) w3) := HS20.out.trans (hb3.mono (by have := HS20.out.size; simp at this; simp; omega))
          clear hW0 hB20 HS20 hb3 s0 s1 s2 s3 s4 z0 z1 z2 z3 z4 k0 k1 k2 k3 k4 m0 m1 m2 m3 m4 HS2 HW2 HBW HB HE2
          obtain ⟨⟨s0, s1, s2, s3, s4⟩, ⟨z0, z1, z2, z3, z4⟩, hB⟩ := slot_five HS3.out
          have HB := Lib.hid hB
          obtain ⟨k0, k1, k2, k3, k4⟩ := hW3
          generalize w2.heap.size = ww at k0 k1 k2 k3 k4 ⊢
          clear hB
          cases hc : wantCode ⟨a, b, c, ((d0.toNat - 48 : Nat) : Int), z⟩ with
          | succ j =>
            have HY : Hid (readW s = (Wt.zero, j + 1)) := by
              show readW s = (Wt.zero, j + 1)
              rw [HX.out, if_pos (by omega), hc]
            rw [errV_some p (Nat.succ_ne_zero j)]
            clear hc HX
            go_wp2
            obtain ⟨⟨q0, q1, q2, q3, q4⟩, q5⟩ := slot_set5 (w := w) (.string ⟨#[]⟩) (.string ⟨#[]⟩) (.string ⟨#[]⟩) (.int .i64 0) (.int .i64 0) s0 s1 s2 s3 s4 HB.out
            exact bodyPost_ret (v := .tuple #[wv Wt.zero, .iface 156 (.pointer (some (p j)))]) (by simp [results, Tryz.results42, go_sem, q0, q1, q2, q3, q4, Wt.zero]) rfl ⟨by rw [HY.out]; rfl, q5⟩
          | zero =>
            have HY : Hid (readW s = (⟨a, b, c, ((d0.toNat - 48 : Nat) : Int), z⟩, 0)) := by
              show readW s = _
              rw [HX.out, if_neg (by omega)]
            rw [errV_zero]
            clear hc HX
            go_wp2
            obtain ⟨⟨q0, q1, q2, q3, q4⟩, q5⟩ := slot_set5 (w := w) (.string ⟨a.toArray⟩) (.string ⟨b.toArray⟩) (.string ⟨c.toArray⟩) (.int .i64 ((d0.toNat - 48 : Nat) : Int)) (.int .i64 z) s0 s1 s2 s3 s4 HB.out
            exact bodyPost_ret (v := .tuple #[wv ⟨a, b, c, ((d0.toNat - 48 : Nat) : Int), z⟩, .nilIface]) (by simp [results, Tryz.results42, go_sem, q0, q1, q2, q3, q4]) rfl ⟨by rw [HY.out]; rfl, q5⟩
end Go.Proofs.YtmeipangcgdinaaGreatDoor
/-
  What is wanted in a block of one's own that is written; how long a thing wanted may be; the closed fact: over this seat's translation.
-/
namespace Go.Proofs.YtmeipangcgdinaaGreatDoor
open Go.RowKit Go.Shelf

/-- The block itself. -/
def BlockAt (w : World) (b : Nat) (n u k : List UInt8) (s m : Int) : Prop := w.heap[b]? = some (wo n u k s m)
theorem BlockAt.at {w : World} {b : Nat} {n u k : List UInt8} {s m : Int} (h : BlockAt w b n u k s m) : WantAt w b n u k s m := by
  unfold BlockAt at h
  exact ⟨by simp [World.cell?, h], by simp [World.cell?, h], by simp [World.cell?, h], by simp [World.cell?, h], by simp [World.cell?, h]⟩
theorem BlockAt.live {w : World} {b : Nat} {n u k : List UInt8} {s m : Int} (h : BlockAt w b n u k s m) (j : Nat) : w.frozen? ⟨b, j, none⟩ = false := by
  unfold BlockAt at h
  simp [World.frozen?, h]
theorem BlockAt.below {w w' : World} {b : Nat} {n u k : List UInt8} {s m : Int} (h : BlockAt w b n u k s m) (hb : Below w.heap.size w w') : BlockAt w' b n u k s m :=
  (hb.block b h.at.lt).trans h
theorem BlockAt.box {w w' : World} {n u k : List UInt8} {s m : Int} (hb : Below (w.alloc (wo n u k s m)).heap.size (w.alloc (wo n u k s m)) w') : BlockAt w' w.heap.size n u k s m :=
  BlockAt.below (w := w.alloc (wo n u k s m)) (heap_new w _) hb
theorem BlockAt.setM {w : World} {b : Nat} {n u k : List UInt8} {s m : Int} (h : BlockAt w b n u k s m) (v : Int) : BlockAt (w.setCell ⟨b, 4, none⟩ (.int .i64 v)) b n u k s v := by
  unfold BlockAt at h ⊢
  simp [World.setCell, Array.getElem?_modify, h]
theorem BlockAt.setS {w : World} {b : Nat} {n u k : List UInt8} {s m : Int} (h : BlockAt w b n u k s m) (v : Int) : BlockAt (w.setCell ⟨b, 3, none⟩ (.int .i64 v)) b n u k v m := by
  unfold BlockAt at h ⊢
  simp [World.setCell, Array.getElem?_modify, h]
theorem BlockAt.noBool {w : World} {b : Nat} {n u k : List UInt8} {s m : Int} (h : BlockAt w b n u k s m) (o : Nat) (x : Bool) : w.cell? ⟨b, o, none⟩ ≠ some (.bool x) := by
  unfold BlockAt at h
  rcases o with _ | _ | _ | _ | _ | o
  · simp [World.cell?, h]
  · simp [World.cell?, h]
  · simp [World.cell?, h]
  · simp [World.cell?, h]
  · simp [World.cell?, h]
  · simp [World.cell?, h]
/-- Files lie apart from it. -/
theorem LiesAt.apart {w : World} {a : Option Addr} {l : List F} {b : Nat} {n u k : List UInt8} {s m : Int} (h : LiesAt w a l) (hk : BlockAt w b n u k s m) (j : Nat) (v : Value) : LiesAt (w.setCell ⟨b, j, none⟩ v) a l := fun hl => by
  obtain ⟨g, o, e, hc⟩ := h hl
  have hne : b ≠ g := fun e => by
    subst e
    have h0 := List.length_pos_iff.2 hl
    exact hk.noBool _ _ (hc 0 h0).2.1
  have far : ∀ (i : Nat) (x : Value), w.cell? ⟨g, i, none⟩ = some x → (w.setCell ⟨b, j, none⟩ v).cell? ⟨g, i, none⟩ = some x := fun i x hx => by
    have hne' : (⟨b, j, none⟩ : Addr) ≠ ⟨g, i, none⟩ := fun e => hne (congrArg Addr.block e)
    rw [World.cell?_setCell_other (h := hne')]
    exact hx
  exact ⟨g, o, e, fun q hq => ⟨far _ _ (hc q hq).1, far _ _ (hc q hq).2.1, far _ _ (hc q hq).2.2⟩⟩

/-- 1: too long. -/
def longW (n u k : List UInt8) : Nat := if 30 < n.length ∨ 120 < u.length ∨ 20 < k.length then 1 else 0
set_option maxRecDepth 100000 in
set_option maxHeartbeats 1000000 in
theorem longWant_any (n u k : List UInt8) (s m : Int) (w : World) :
    Calls Tryz.prog 15 #[wv ⟨n, u, k, s, m⟩] w fun e w' => e = .returned (.int .i64 (longW n u k)) ∧ Below w.heap.size w w' := by
  have hB : Hid (Below w.heap.size w (w.alloc (wo n u k s m))) := (Below.refl _ _).alloc (Nat.le_refl _) _
  by_cases h1 : 30 < n.length
  · have HL : Hid (longW n u k = 1) := by show longW n u k = 1; unfold longW; rw [if_pos (.inl h1)]
    have h1' : (30 : Int) < (n.length : Int) := by omega
    go_enter Tryz.func15, Tryz.ntmps15
    go_wp2
    go_ret
    exact ⟨by rw [HL.out]; rfl, hB.out⟩
  · have h1' : decide ((30 : Int) < (n.length : Int)) = false := by simp; omega
    by_cases h2 : 120 < u.length
    · have HL : Hid (longW n u k = 1) := by show longW n u k = 1; unfold longW; rw [if_pos (.inr (.inl h2))]
      have h2' : (120 : Int) < (u.length : Int) := by omega
      clear h1
      go_enter Tryz.func15, Tryz.ntmps15
      go_wp2
      go_ret
      exact ⟨by rw [HL.out]; rfl, hB.out⟩
    · have h2' : decide ((120 : Int) < (u.length : Int)) = false := by simp; omega
      by_cases h3 : 20 < k.length
      · have HL : Hid (longW n u k = 1) := by show longW n u k = 1; unfold longW; rw [if_pos (.inr (.inr h3))]
        have h3' : (20 : Int) < (k.length : Int) := by omega
        clear h1 h2
        go_enter Tryz.func15, Tryz.ntmps15
        go_wp2
        go_ret
        exact ⟨by rw [HL.out]; rfl, hB.out⟩
      · have HL : Hid (longW n u k = 0) := by show longW n u k = 0; unfold longW; rw [if_neg (fun h => h.elim h1 (fun h => h.elim h2 h3))]
        have h3' : decide ((20 : Int) < (k.length : Int)) = false := by simp; omega
        clear h1 h2 h3
        go_enter Tryz.func15, Tryz.ntmps15
        go_wp2
        go_ret
        exact ⟨by rw [HL.out]; rfl, hB.out⟩
theorem longWant_is (n u k : List UInt8) (s m : Int) (z : Int) (w : World) (h : ((longW n u k : Nat) : Int) = z) :
    Calls Tryz.prog 15 #[wv ⟨n, u, k, s, m⟩] w fun e w' => e = .returned (.int .i64 z) ∧ Below w.heap.size w w' := by
  have := longWant_any n u k s m w
  rwa [h] at this
theorem longW_zero {n u k : List UInt8} (h : longW n u k = 0) : n.length ≤ 30 ∧ u.length ≤ 120 ∧ k.length ≤ 20 := by
  unfold longW at h
  split at h
  · cases h
  · omega
theorem longW_or (n u k : List UInt8) : longW n u k = 0 ∨ longW n u k = 1 := by
  unfold longW
  split
  · exact .inr rfl
  · exact .inl rfl

/-- The closed fact: what is read, and its text. -/
theorem wanted_read : readW [97, 32, 104, 116, 116, 112, 58, 47, 47, 104, 47, 120, 32, 112, 97, 99, 107, 32, 49, 32, 115, 55] = (⟨[97], [104, 116, 116, 112, 58, 47, 47, 104, 47, 120], [112, 97, 99, 107], 1, 7⟩, 0) := by kernel_rfl
theorem wanted_code : wantCode ⟨[97], [104, 116, 116, 112, 58, 47, 47, 104, 47, 120], [112, 97, 99, 107], 1, 7⟩ = 0 := by kernel_rfl
theorem wanted_text : textW ⟨[97], [104, 116, 116, 112, 58, 47, 47, 104, 47, 120], [112, 97, 99, 107], 1, 7⟩ = [97, 32, 104, 116, 116, 112, 58, 47, 47, 104, 47, 120, 32, 112, 97, 99, 107, 32, 49, 32, 115, 55] := by
  have h1 : digitsL (1 : Int).toNat = [49] := by
    show digitsL 1 = [49]
    rw [digits_small (by decide)]
    rfl
  have h7 : textS 7 = [115, 55] := by
    rw [text_is (by decide)]
    show 115 :: digitsL 7 = [115, 55]
    rw [digits_small (by decide)]
    rfl
  rw [textW_yes wanted_code]
  simp only [wordsW, h1, h7]
  rw [join_words]
  rfl

end Go.Proofs.YtmeipangcgdinaaGreatDoor
