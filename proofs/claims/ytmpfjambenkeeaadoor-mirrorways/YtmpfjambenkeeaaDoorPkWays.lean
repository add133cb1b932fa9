/-
  Package mirror: Ways: a contract, over this seat's translation.
-/
import Derived.Test.YtmpfjambenkeeaaDoorPkRules
namespace Go.Proofs.YtmpfjambenkeeaaDoor
open Go.RowKit Go.Shelf

theorem linkSwap_is (p : Nat → Addr) (a b s x : List UInt8) (k : Nat) (w : World) (hE : LEnv p w) (ha : a.length ≤ 40000) (hb : b.length ≤ 40000) (hs : s.length ≤ 40000) (h : swapK a b s = (x, k)) :
    Calls Tryd.prog 9 #[.string ⟨a.toArray⟩, .string ⟨b.toArray⟩, .string ⟨s.toArray⟩] w fun e w' => e = .returned (.tuple #[.string ⟨x.toArray⟩, errV p k]) ∧ Below w.heap.size w w' := by
  have := linkSwap_any p a b s w hE ha hb hs
  rwa [h] at this

/-- What Ways tells: texts of its own, and an error. -/
def ToldWays (p : Nat → Addr) (base : Nat) (x : List (List UInt8) × (Nat × Int)) (v u : Value) (w : World) : Prop :=
  ErrAt p w u x.2.1 x.2.2 ∧ w.ownsRow base 9 1 v x.1.length (x.1.map sv)

set_option maxRecDepth 100000 in
set_option maxHeartbeats 4000000 in
theorem ways_any (p : Nat → Addr) (s : List UInt8) (l : List Ru) (a : Option Addr) (ca : Nat) (w : World) (hE : LEnv p w) (hl : RulesAt w a l) (hs : RuSmall l) (hsl : s.length ≤ 20000) :
    Calls Tryd.prog 22 #[.slice a l.length ca, .string ⟨s.toArray⟩] w fun e w' => (∃ v u, e = .returned (.tuple #[v, u]) ∧ ToldWays p w.heap.size (waysQ (l.map Ru.q) s) v u w') ∧ Below w.heap.size w w' := by
  have HE := Lib.hid hE
  have HL := Lib.hid hl
  have HS := Lib.hid hs
  clear hE hl hs
  by_cases h0 : (rulesF (l.map Ru.q)).1 = 0
  · cases h1 : checkK s with
    | succ k =>
      have HW := Lib.hid (waysQ_link (s := s) h0 (by rw [h1]; simp))
      have H1 := Lib.hid h1
      have H0 := Lib.hid h0
      have hk13 : k < 13 := by have := checkK_small s; omega
      clear h0 h1
      go_enter Tryd.func22, Tryd.ntmps22
      go_wp2_with fail
      refine (mirrorCheck_any p l a ca _ HE.out HL.out HS.out).mono ?_
      rintro e w1 ⟨⟨v, rfl, herr⟩, hb1⟩
      rw [H0.out] at herr
      obtain rfl := herr.isNil
      have HB1 := Lib.hid hb1
      clear hb1 herr
      go_wp2_with fail
      refine (linkCheck_is p s _ _ (HE.out.below HB1.out) (by omega) H1.out).mono ?_
      rintro e w2 ⟨rfl, hb2⟩
      have HB2 := Lib.hid (HB1.out.trans (hb2.mono HB1.out.size))
      clear hb2
      rw [errV_some p (Nat.succ_ne_zero k)]
      go_wp2
      go_ret2
      refine ⟨⟨_, _, rfl, ?_, ?_⟩, HB2.out⟩
      · rw [HW.out, H1.out]
        exact .inr (.inl ⟨k, rfl, hk13, rfl, rfl⟩)
      · rw [HW.out]
        exact World.ownsRow_nil _ _ _ _
    | zero =>
      have HW := Lib.hid (waysQ_ok (s := s) h0 h1)
      have H1 := Lib.hid h1
      have H0 := Lib.hid h0
      clear h0 h1
      obtain ⟨best, hbest⟩ : ∃ r, closestR s l = r := ⟨_, rfl⟩
      have HQ : Hid (closestQ s (l.map Ru.q) = best.q) := by show closestQ s _ = _; rw [← closestR_q, hbest]
      have hbf : best.f.length ≤ 20000 := by rw [← hbest]; exact closestR_small (s := s) (l := l) (fun r => r.f.length ≤ 20000) (by simp [noRu]) HS.out.begin
      have hbn : best.t.length ≤ 1000 := by rw [← hbest]; exact closestR_small (s := s) (l := l) (fun r => r.t.length ≤ 1000) (by simp [noRu]) HS.out.many
      have HBT : Hid (∀ t ∈ best.t, t.length ≤ 20000) := by show ∀ t ∈ best.t, t.length ≤ 20000; rw [← hbest]; exact closestR_small (s := s) (l := l) (fun r => ∀ t ∈ r.t, t.length ≤ 20000) (by simp [noRu]) HS.out.texts
      have HBL : Hid (best.Lies w) := by show best.Lies w; rw [← hbest]; exact closestR_small (s := s) (l := l) (fun r => r.Lies w) (noRu_lies w) HL.out.each
      obtain ⟨bf, bt, ba, bc⟩ := best
      have HBX : Hid (TextsAt w ba bt) := HBL.out.texts
      have HBE := Lib.hid hbest
      simp only at hbf hbn HBT
      clear hbest HBL
      go_enter Tryd.func22, Tryd.ntmps22
      go_wp2_with fail
      refine (mirrorCheck_any p l a ca _ HE.out HL.out HS.out).mono ?_
      rintro e w1 ⟨⟨v, rfl, herr⟩, hb1⟩
      rw [H0.out] at herr
      obtain rfl := herr.isNil
      have HB1 := Lib.hid hb1
      clear hb1 herr
      go_wp2_with fail
      refine (linkCheck_is p s _ _ (HE.out.below HB1.out) (by omega) H1.out).mono ?_
      rintro e w2 ⟨rfl, hb2⟩
      have HB2 := Lib.hid (HB1.out.trans (hb2.mono HB1.out.size))
      clear hb2
      rw [errV_zero]
      go_wp2_with fail
      refine (closest_any s l a ca _ (HL.out.below HB2.out) HS.out).mono ?_
      rintro e w3 ⟨rfl, hb3⟩
      have HB3 := Lib.hid (HB2.out.trans (hb3.mono HB2.out.size))
      clear hb3
      rw [HBE.out]
      obtain ⟨B, hB⟩ : ∃ B, B = w3.heap.size := ⟨_, rfl⟩
      have hwB : w.heap.size ≤ B := by rw [hB]; exact HB3.out.size
      obtain ⟨W, hW⟩ : ∃ W, W = w3.alloc (.cells #[.string ⟨bf.toArray⟩, .slice ba bt.length bc] 45) := ⟨_, rfl⟩
      have hTW : Two W B (.string ⟨bf.toArray⟩) (.slice ba bt.length bc) 45 := by rw [hW, hB]; exact Two.new _ _ _ _
      have hBW : Below w.heap.size w W := by rw [hW]; exact HB3.out.alloc HB3.out.size _
      have hWs : W.heap.size = B + 1 := by rw [hW, World.size_alloc, hB]
      have HTW := Lib.hid hTW
      have HBW := Lib.hid hBW
      obtain ⟨g0, g1, _, _⟩ := hTW.cells
      go_wp2_with fail
      rw [← hW, ← hB]
      clear hTW hBW hW hB
      go_loopw [9, 30] (fun v i wr => ∃ q : Nat, q ≤ bt.length ∧ i = .int .i64 q ∧ wr.ownsRow (B + 1) 9 1 v (waysTo bf s (bt.take q)).length ((waysTo bf s (bt.take q)).map sv) ∧ Two wr B (.string ⟨bf.toArray⟩) (.slice ba bt.length bc) 45 ∧ Below w.heap.size w wr ∧ B + 1 ≤ wr.heap.size) (fun _ i _ => bt.length - (intOf i).toNat)
      case atStart => exact ⟨0, by omega, rfl, World.ownsRow_nil _ _ _ _, HTW.out, HBW.out, by omega⟩
      case round =>
        obtain ⟨q, hq, rfl, hrow, htwo, hb, hsz⟩ := hrel
        have HB := Lib.hid hb
        have HR := Lib.hid hrow
        have HT := Lib.hid htwo
        obtain ⟨k0, k1, _, _⟩ := htwo.cells
        clear hb hrow htwo
        have hal := waysTo_length bf s (bt.take q)
        rw [List.length_take] at hal
        by_cases hlt : q < bt.length
        · have hlt' : (q : Int) < (bt.length : Int) := by omega
          have HN := Lib.hid (waysTo_take (a := bf) (s := s) hlt)
          have hxl := HBT.out _ (List.getElem_mem hlt)
          obtain ⟨b, o, rfl, c0⟩ := (HBX.out.below HB.out).at hlt
          generalize waysTo bf s (bt.take q) = acc at HR HN hal
          generalize bt[q] = x at c0 hxl HN
          obtain ⟨⟨y, c⟩, hsw⟩ : ∃ r, swapK bf x s = r := ⟨_, rfl⟩
          cases c with
          | succ k =>
            have HNN := Lib.hid (HN.out.trans (wayStep_bad hsw))
            have HSW := Lib.hid hsw
            clear hsw
            go_wp2_with fail
            refine (linkSwap_is p bf x s _ _ _ (HE.out.below HB.out) (by omega) (by omega) (by omega) HSW.out).mono ?_
            rintro e w4 ⟨rfl, hb4⟩
            have HB4 := Lib.hid (HB.out.trans (hb4.mono HB.out.size))
            have HR4 := Lib.hid (row_below HR.out hb4)
            have HT4 := Lib.hid (HT.out.below hb4 HT.out.lt)
            have hsz4 := hb4.size
            clear hb4
            rw [errV_some p (Nat.succ_ne_zero k)]
            go_wp2
            go_roundw
            case rel => exact ⟨q + 1, by omega, by go_num, by rw [HNN.out]; exact HR4.out, HT4.out, HB4.out, by omega⟩
            case measure => simp [intOf]; omega
          | zero =>
            have HNN := Lib.hid (HN.out.trans (wayStep_ok hsw))
            have HSW := Lib.hid hsw
            clear hsw
            go_wp2_with fail
            refine (linkSwap_is p bf x s _ _ _ (HE.out.below HB.out) (by omega) (by omega) (by omega) HSW.out).mono ?_
            rintro e w4 ⟨rfl, hb4⟩
            have HB4 := Lib.hid (HB.out.trans (hb4.mono HB.out.size))
            have HR4 := Lib.hid (row_below HR.out hb4)
            have HT4 := Lib.hid (HT.out.below hb4 HT.out.lt)
            have hsz4 := hb4.size
            clear hb4
            rw [errV_zero]
            go_wp2_with fail
            refine (addOnce_any (B + 1) y acc _ _ (by omega) HR4.out (by omega)).mono ?_
            rintro e w5 ⟨⟨v', rfl, hr5⟩, hb5⟩
            have HB5 := Lib.hid (HB4.out.trans (hb5.mono (by omega)))
            have HR5 := Lib.hid hr5
            have HT5 := Lib.hid (HT4.out.below hb5 (by omega))
            have hsz5 := hb5.size
            clear hb5 hr5
            go_wp2
            go_roundw
            case rel => exact ⟨q + 1, by omega, by go_num, by rw [HNN.out]; exact HR5.out, HT5.out, HB5.out, by omega⟩
            case measure => simp [intOf]; omega
        · obtain rfl : q = bt.length := by omega
          rw [List.take_length] at HR hal
          have HF : Hid (waysL (closestQ s (l.map Ru.q)) s = addL (waysTo bf s bt) s) := by show waysL (closestQ s (l.map Ru.q)) s = _; rw [HQ.out]; rfl
          generalize waysTo bf s bt = acc at HR HF hal
          go_wp2_with fail
          refine (addOnce_any (B + 1) s acc _ _ (by omega) HR.out (by omega)).mono ?_
          rintro e w5 ⟨⟨v', rfl, hr5⟩, hb5⟩
          have HB5 := Lib.hid (HB.out.trans (hb5.mono (by omega)))
          have HR5 := Lib.hid hr5
          clear hb5 hr5
          go_wp2
          go_ret2
          refine ⟨⟨_, _, rfl, ?_, ?_⟩, HB5.out⟩
          · rw [HW.out]
            exact .inl ⟨rfl, rfl, rfl⟩
          · rw [HW.out, HF.out]
            exact HR5.out.mono (by omega)
  · have HW := Lib.hid (waysQ_bad (s := s) h0)
    have H0 := Lib.hid h0
    clear h0
    go_enter Tryd.func22, Tryd.ntmps22
    go_wp2_with fail
    refine (mirrorCheck_any p l a ca _ HE.out HL.out HS.out).mono ?_
    rintro e w1 ⟨⟨v, rfl, herr⟩, hb1⟩
    obtain ⟨T, u, rfl⟩ := herr.some H0.out
    have HB1 := Lib.hid hb1
    have HERR := Lib.hid herr
    clear hb1 herr
    go_wp2
    go_ret2
    refine ⟨⟨_, _, rfl, ?_, ?_⟩, HB1.out⟩
    · rw [HW.out]
      exact HERR.out
    · rw [HW.out]
      exact World.ownsRow_nil _ _ _ _
end Go.Proofs.YtmpfjambenkeeaaDoor
