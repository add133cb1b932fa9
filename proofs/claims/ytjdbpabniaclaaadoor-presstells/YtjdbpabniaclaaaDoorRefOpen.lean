/-
  The document's answer for pressed texts: OpenOf: over this seat's translation.
-/
import Derived.Test.YtjdbpabniaclaaaDoorRefRuns
import Derived.Laws.BytesArg
import Derived.Lib.Builder
namespace Go.Proofs.YtjdbpabniaclaaaDoor
open Go.RowKit Go.Shelf

theorem conv_own {w : World} {base : Nat} {v : Value} {l : List UInt8} (h : w.ownsRow base 5 1 v l.length (Lib.byteCells l)) : ∃ a cap, v = .slice a l.length cap ∧ ∀ W : World, (∀ g, base ≤ g → W.heap[g]? = w.heap[g]?) → (convert 42 9 (.slice a l.length cap)).run Tryd.prog W = .ok (.string ⟨l.toArray⟩) W := by
  rcases h.2 with ⟨rfl, hn⟩ | ⟨g, cap, cur, rfl, hb, hg, hcap, hm, hsz, htk⟩
  · have e : l = [] := List.length_eq_zero_iff.1 hn
    subst e
    exact ⟨none, 0, rfl, fun W _ => run_convert_bytes_nil W 42 5 Tryd.underlying42 Tryd.underlying5 _ _ 9 Tryd.underlying9⟩
  · refine ⟨some ⟨g, 0, none⟩, cap, rfl, fun W hW => run_convert_bytes_back (P := Tryd.prog) W 42 9 5 ⟨g, 0, none⟩ cap l Tryd.underlying42 Tryd.underlying5 Tryd.underlying9 (fun j hj => ?_)⟩
    have hc : W.cell? ⟨g, 0 + j, none⟩ = (Lib.byteCells l)[j]? := by
      rw [← htk, List.getElem?_take_of_lt (by omega)]
      simp [World.cell?, hW g hb, hg]
    have e : (⟨g, 0, none⟩ : Addr).add j = ⟨g, 0 + j, none⟩ := by
      by_cases h : j = 0
      · subst h; rfl
      · simp [Addr.add, h]
    rw [e, hc]
    simp [Lib.byteCells, List.getElem?_eq_getElem hj]

theorem Tryd.infoByteO : (Tryd.prog.info? 5).map (fun i => (i.zero, i.size, i.bytes)) = some (some (.int .u8 0), 1, 1) := by kernel_rfl
theorem byte_new (w : World) (v : Value) (T : TypeId) : ∀ j u, ([v] : List Value)[j]? = some u → (w.alloc (.cells #[v] T)).cell? ((⟨w.heap.size, 0, none⟩ : Addr).add j) = some u := by
  intro j u h
  have hn := heap_new w (.cells #[v] T)
  have hc : ∀ k, (w.alloc (.cells #[v] T)).cell? ⟨w.heap.size, k, none⟩ = #[v][k]? := fun k => by
    unfold World.cell?
    rw [hn]
    rfl
  rcases j with _ | j
  · exact (hc 0).trans h
  · simp at h
theorem open_take {l : List (Nat × UInt8)} {q : Nat} (h : q < l.length) : openL (l.take (q + 1)) = openL (l.take q) ++ List.replicate l[q].1 l[q].2 := by
  rw [List.take_succ_eq_append_getElem h, openL_snoc]
theorem size_take {l : List (Nat × UInt8)} {q : Nat} (h : q < l.length) : sizeL (l.take q) + l[q].1 ≤ sizeL l := by
  have e : sizeL (l.take (q + 1)) = sizeL (l.take q) + l[q].1 := by rw [List.take_succ_eq_append_getElem h, sizeL_snoc]
  conv => rhs; rw [← List.take_append_drop (q + 1) l, sizeL_app]
  omega

set_option maxRecDepth 100000 in
set_option maxHeartbeats 8000000 in
theorem openOf_any (s : List UInt8) (most : Int) (w : World) (hs : s.length ≤ 300000) (hm : most ≤ 1000000000) :
    Calls Tryd.prog 14 #[.string ⟨s.toArray⟩, .int .i64 most] w fun e w' => e = .returned (.tuple #[.string ⟨(openS s most).1.toArray⟩, .agg #[.int .i64 (openS s most).2.1, .int .i64 (openS s most).2.2]]) ∧ Below w.heap.size w w' := by
  have hsb := size_runsS s
  go_enter Tryd.func14, Tryd.ntmps14
  go_wp2_with fail
  refine (runsOf_any s _ (by omega)).mono ?_
  rintro e w1 ⟨⟨v, rfl, hrow⟩, hb1⟩
  have HB1 := Lib.hid (hb1.mono (Nat.le_of_eq (show w.heap.size + 1 = _ by simp)))
  obtain ⟨av, cv, rfl, hl, hcv⟩ := rowns_lies hrow
  have HL := Lib.hid hl
  have hs1 : w.heap.size + 1 ≤ w1.heap.size := by have := hb1.size; simpa using this
  clear hrow hl hb1
  cases hr : (readL s).2 with
  | some k =>
    have HX := Lib.hid (openS_some most hr)
    have hp : placeE (some k) = (1, (k : Int)) := rfl
    rw [hp]
    clear hr hp
    obtain ⟨t0, t1, y0, y1, tb⟩ := slot_two (HB1.out.alloc hs1 (.cells #[.int .i64 1, .int .i64 k] 34))
    go_wp2
    go_region
    all_goals go_wp2
    all_goals
      obtain ⟨q0, q1, q2⟩ := slot_set (w := w) (.int .i64 1) (.int .i64 k) t0 t1 tb
      exact bodyPost_ret (v := .tuple #[.string ⟨#[]⟩, .agg #[.int .i64 1, .int .i64 k]]) (by simp [results, Tryd.results14, go_sem, q0, q1]) rfl ⟨by rw [HX.out]; rfl, q2.drew⟩
  | none =>
    have hp : placeE none = (0, -1) := rfl
    rw [hp]
    have HR := Lib.hid (runsS_none hr)
    have hfew := (read_few s.length s (Nat.le_refl _)).1
    rw [HR.out] at HL hsb hcv ⊢
    have HBF := Lib.hid (fun h => openS_full (most := most) hr h)
    have HBG := Lib.hid (fun h => openS_fine (most := most) hr h)
    generalize (readL s).1 = l at HL hsb hfew HBF HBG hcv ⊢
    clear hr hp HR
    obtain ⟨W0, hW0⟩ : ∃ W0, W0 = w1.alloc (.cells #[.int .i64 0, .int .i64 (-1)] 34) := ⟨_, rfl⟩
    have hW0s : W0.heap.size = w1.heap.size + 1 := by rw [hW0]; simp
    have hf0 : W0.heap[w1.heap.size]? = some (.cells #[.int .i64 0, .int .i64 (-1)] 34) := by rw [hW0]; exact heap_new _ _
    have hB0 : Below w1.heap.size w1 W0 := by rw [hW0]; exact (Below.refl _ _).alloc (Nat.le_refl _) _
    have HBW := Lib.hid (HB1.out.trans (hB0.mono hs1))
    have HL0 := Lib.hid (HL.out.below hB0)
    have f00 : W0.cell? ⟨w1.heap.size, 0, none⟩ = some (.int .i64 0) := by simp [World.cell?, hf0]
    by_cases hfull : most < (sizeL l : Int)
    · have HX := Lib.hid (HBF.out hfull)
      go_wp2_with fail
      rw [← hW0]
      clear hW0 hB0
      go_wp2_with fail
      refine (sizeOf_any l av cv _ HL0.out (by omega) (by omega)).mono ?_
      rintro e w2 ⟨rfl, rfl⟩
      go_wp2_with fail
      refine (bareOf_any 8 _).mono ?_
      rintro e w3 ⟨rfl, hb3⟩
      obtain ⟨t0, t1, y0, y1, tb⟩ := slot_two (show Below (w.heap.size + 1) (w.alloc (.cells #[.int .i64 0, .int .i64 0] 34)) w3 from HBW.out.trans (hb3.mono (show w.heap.size + 1 ≤ w2.heap.size by omega)))
      clear hb3
      go_wp2
      obtain ⟨q0, q1, q2⟩ := slot_set (w := w) (.int .i64 8) (.int .i64 (-1)) t0 t1 tb
      exact bodyPost_ret (v := .tuple #[.string ⟨#[]⟩, .agg #[.int .i64 8, .int .i64 (-1)]]) (by simp [results, Tryd.results14, go_sem, q0, q1]) rfl ⟨by rw [HX.out]; rfl, q2⟩
    · have HX := Lib.hid (HBG.out hfull)
      have hfull' : ¬ most < (sizeL l : Int) := hfull
      have hlm : sizeL l ≤ 1000000000 := by omega
      obtain ⟨i0, hi0, hz0, hz1, hz2⟩ := info_parts Tryd.infoByteO
      go_wp2_with fail
      rw [← hW0]
      clear hW0 hB0
      go_wp2_with fail
      refine (sizeOf_any l av cv _ HL0.out (by omega) (by omega)).mono ?_
      rintro e w2 ⟨rfl, rfl⟩
      clear HBF HBG HL
      go_wp2_with fail
      go_loopw [8, 9] (fun ov iv wr => ∃ q : Nat, q ≤ l.length ∧ iv = .int .i64 (q : Int) ∧ wr.ownsRow (w1.heap.size + 1) 5 1 ov (openL (l.take q)).length (Lib.byteCells (openL (l.take q))) ∧ Below (w1.heap.size + 1) w2 wr) (fun _ iv _ => l.length - (intOf iv).toNat)
      case atStart => exact ⟨0, by omega, rfl, World.ownsRow_nil _ _ _ _, Below.refl _ _⟩
      case round =>
        obtain ⟨q, hq, rfl, hrow, hb⟩ := hrel
        have HO := Lib.hid hrow
        have HB := Lib.hid hb
        clear hrow hb
        by_cases hlt : q < l.length
        · have hlt' : (q : Int) < (l.length : Int) := by omega
          have htk := size_take hlt
          have HOT := Lib.hid (open_take hlt)
          have HLQ := Lib.hid (HL0.out.at hlt)
          have hol := openL_length (l.take q)
          generalize l[q] = r at htk HOT HLQ
          obtain ⟨rn, rb⟩ := r
          simp only at htk HOT HLQ
          have HOL := Lib.hid hol
          clear hol
          generalize openL (l.take q) = o at HO HOT HOL
          generalize sizeL (l.take q) = so at htk HOL
          have hso := HOL.out
          go_wp2_with fail
          obtain ⟨wo, rfl⟩ : ∃ wo, wo = wr := ⟨_, rfl⟩
          go_loopw [8, 10] (fun ov kv wq => ∃ m : Nat, m ≤ rn ∧ kv = .int .i64 (m : Int) ∧ wq.ownsRow (w1.heap.size + 1) 5 1 ov (o ++ List.replicate m rb).length (Lib.byteCells (o ++ List.replicate m rb)) ∧ Below (w1.heap.size + 1) w2 wq) (fun _ kv _ => rn - (intOf kv).toNat)
          case atStart => exact ⟨0, by omega, rfl, by simpa using HO.out, HB.out⟩
          case round =>
            obtain ⟨m, hm', rfl, hrow, hb⟩ := hrel
            obtain ⟨b, oo, rfl, c0, c1⟩ := HLQ.out
            have hbl : b < w1.heap.size + 1 := by have := block_lt_of_cell c0; simp at this; omega
            have d0 := (hb.cell (p := ⟨b, oo + q * 2, none⟩) hbl).trans c0
            have d1 := (hb.cell (p := ⟨b, oo + q * 2 + 1, none⟩) hbl).trans c1
            have hbs : w1.heap.size + 1 ≤ wr.heap.size := by have := hb.size; omega
            have HB2 := Lib.hid hb
            have hlen : (o ++ List.replicate m rb).length = so + m := by rw [List.length_append, List.length_replicate, hso]
            by_cases hmn : m < rn
            · have hmn' : (m : Int) < (rn : Int) := by omega
              have HREP : Hid (Lib.byteCells (o ++ List.replicate (m + 1) rb) = Lib.byteCells (o ++ List.replicate m rb) ++ [.int .u8 (rb.toNat : Int)]) := by
                show Lib.byteCells _ = _
                rw [List.replicate_succ', ← List.append_assoc]
                simp [Lib.byteCells]
              have HLEN : Hid ((o ++ List.replicate (m + 1) rb).length = (o ++ List.replicate m rb).length + 1) := by
                show List.length _ = _
                simp only [List.length_append, List.length_replicate]
                omega
              generalize o ++ List.replicate m rb = om at hrow hlen HREP HLEN
              clear hb c0 c1
              go_wp2_with (at_builtin; refine wpList_append_own _ rfl _ _ 42 rfl (w1.heap.size + 1) 5 i0 (.int .u8 0) 1 1 Tryd.underlying42 hi0 hz0 hz1 hz2 rfl (by decide) _ _ _ rfl (hrow.alloc _) ⟨wr.heap.size, 0, none⟩ 1 1 [.int .u8 (rb.toNat : Int)] rfl rfl (byte_new wr _ _) (by simp [Value.oneCell']) (by unfold maxLen; omega) (by omega) (by simp; omega) ?_; intro v' w4 hown' hgrow _)
              have HB4 : Below (w1.heap.size + 1) w2 w4 := (HB2.out.alloc hbs _).grown hgrow (by simp; omega) (fun j ej => (hrow.lt j ej).1)
              refine ⟨⟨m + 1, by omega, by go_num, ?_, HB4⟩, by simp [intOf]; omega⟩
              rw [HREP.out, HLEN.out]
              exact hown'
            · obtain rfl : m = rn := by omega
              go_wp2
              go_roundw
              case rel => exact ⟨q + 1, by omega, by go_num, by rw [HOT.out]; exact hrow, HB2.out⟩
              case measure => simp [intOf]; omega
        · obtain rfl : q = l.length := by omega
          rw [List.take_length] at HO
          obtain ⟨oa, oc, rfl, hcn⟩ := conv_own HO.out
          have hcv1 := hcn wr.drew (fun g _ => rfl)
          have hbl0 : w1.heap.size < w1.heap.size + 1 := Nat.lt_succ_self _
          have hfw := (HB.out.block w1.heap.size hbl0).trans hf0
          have e0 : wr.cell? ⟨w1.heap.size, 0, none⟩ = some (.int .i64 0) := by simp [World.cell?, hfw]
          have e1 : wr.cell? ⟨w1.heap.size, 1, none⟩ = some (.int .i64 (-1)) := by simp [World.cell?, hfw]
          obtain ⟨t0, t1, y0, y1, tb⟩ := slot_two (show Below (w.heap.size + 1) (w.alloc (.cells #[.int .i64 0, .int .i64 0] 34)) wr from HBW.out.trans (HB.out.mono (show w.heap.size + 1 ≤ w1.heap.size + 1 by omega)))
          clear hcn hfw
          generalize openL l = ol at hcv1 HX ⊢
          go_wp2
          go_region
          all_goals go_wp2
          all_goals
            obtain ⟨q0, q1, q2⟩ := slot_set (w := w) (.int .i64 0) (.int .i64 (-1)) t0 t1 tb
            exact bodyPost_ret (v := .tuple #[.string ⟨ol.toArray⟩, .agg #[.int .i64 0, .int .i64 (-1)]]) (by simp [results, Tryd.results14, go_sem, q0, q1]) rfl ⟨by rw [HX.out]; rfl, q2.drew⟩
end Go.Proofs.YtjdbpabniaclaaaDoor
