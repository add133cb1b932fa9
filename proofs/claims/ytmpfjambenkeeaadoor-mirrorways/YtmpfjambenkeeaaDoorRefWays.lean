/-
  The document's answer for mirrors: WaysOf: a contract, over this seat's translation.
-/
import Derived.Test.YtmpfjambenkeeaaDoorRefRules
import Derived.Test.YtmpfjambenkeeaaDoorPkRules
import Derived.OwnWalk
import Derived.Deep.RegionHeld3
namespace Go.Proofs.YtmpfjambenkeeaaDoor
open Go.RowKit Go.Shelf

theorem rulesFault_is (l : List Ru) (a : Option Addr) (ca : Nat) (c i : Int) (w : World) (hl : RulesAt w a l) (hs : RuSmall l) (hc : (((rulesF (l.map Ru.q)).1 : Nat) : Int) = c) (hi : (rulesF (l.map Ru.q)).2 = i) :
    Calls Tryd.prog 28 #[.slice a l.length ca] w fun e w' => e = .returned (.agg #[.int .i64 c, .int .i64 i]) ∧ Below w.heap.size w w' := by
  have := rulesFault_any l a ca w hl hs
  rwa [hc, hi] at this
theorem begins_same (s q : List UInt8) (r : Bool) (w : World) (hs : s.length ≤ 200000) (hq : q.length ≤ 200000) (h : Lib.hasPrefix s q = r) : Calls Tryd.prog 11 #[.string ⟨s.toArray⟩, .string ⟨q.toArray⟩] w fun e w' => e = .returned (.bool r) ∧ w' = w := by
  have h0 := begins_any s q w hs hq
  rwa [h] at h0
theorem swapOf_is (a b s x : List UInt8) (c : Nat) (z : Int) (w : World) (ha : a.length ≤ 40000) (hb : b.length ≤ 40000) (hs : s.length ≤ 40000) (h : swapK a b s = (x, c)) (hz : (c : Int) = z) :
    Calls Tryd.prog 19 #[.string ⟨a.toArray⟩, .string ⟨b.toArray⟩, .string ⟨s.toArray⟩] w fun e w' => e = .returned (.tuple #[.string ⟨x.toArray⟩, .int .i64 z]) ∧ Below w.heap.size w w' := by
  have := swapOf_any a b s w ha hb hs
  rwa [h, hz] at this
theorem from_some {q : Q} (h : ruleK q = 0) : 0 < q.1.length := by
  have h1 := (ruleK_zero h).1
  cases hq : q.1 with
  | nil => rw [hq] at h1; exact absurd h1 (by decide +kernel)
  | cons c r => simp
/-- What WaysOf hands back, behind its last two stores. -/
theorem row_slot {w : World} {b B : Nat} {e : TypeId} {size : Nat} {v : Value} {n : Nat} {xs : List Value} (x y : Value) (h : w.ownsRow B e size v n xs) (hb : b < B) : ((w.setCell ⟨b, 0, none⟩ x).setCell ⟨b, 1, none⟩ y).ownsRow B e size v n xs :=
  row_keep h fun g hg _ => heap_store _ _ (by omega)

set_option maxRecDepth 100000 in
set_option maxHeartbeats 16000000 in
theorem waysOf_any (s : List UInt8) (l : List Ru) (a : Option Addr) (ca : Nat) (w : World) (hl : RulesAt w a l) (hs : RuSmall l) (hsl : s.length ≤ 20000) :
    Calls Tryd.prog 29 #[.slice a l.length ca, .string ⟨s.toArray⟩] w fun e w' => (∃ v, e = .returned (.tuple #[v, .agg #[.int .i64 ((waysQ (l.map Ru.q) s).2.1 : Nat), .int .i64 (waysQ (l.map Ru.q) s).2.2]]) ∧ w'.ownsRow w.heap.size 9 1 v (waysQ (l.map Ru.q) s).1.length ((waysQ (l.map Ru.q) s).1.map sv)) ∧ Below w.heap.size w w' := by
  obtain ⟨i0, hi, hz0, hz1, hz2⟩ := info_parts Tryd.info9
  have hfew := hs.few
  have HL := Lib.hid hl
  have HS := Lib.hid hs
  clear hl hs
  have hmx : Tryd.prog.follows .mixedOrders = true := by kernel_rfl
  obtain ⟨c, hc⟩ : ∃ c : Int, (((rulesF (l.map Ru.q)).1 : Nat) : Int) = c := ⟨_, rfl⟩
  obtain ⟨i, hif⟩ : ∃ i : Int, (rulesF (l.map Ru.q)).2 = i := ⟨_, rfl⟩
  have HC := Lib.hid hc
  have HI := Lib.hid hif
  by_cases h0 : (rulesF (l.map Ru.q)).1 = 0
  · obtain rfl : c = 0 := by rw [← hc, h0]; rfl
    obtain rfl : i = -1 := by rw [← hif, rulesF_fine h0]
    obtain ⟨z, hz⟩ : ∃ z : Int, ((checkK s : Nat) : Int) = z := ⟨_, rfl⟩
    have HZ := Lib.hid hz
    by_cases h1 : checkK s = 0
    · obtain rfl : z = 0 := by rw [← hz, h1]; rfl
      have HW := Lib.hid (waysQ_ok (s := s) h0 h1)
      have HPOS : Hid (∀ r ∈ l, 0 < r.f.length) := fun r hr => from_some (q := r.q) ((rulesF_zero.1 h0).2 _ (List.mem_map_of_mem hr))
      clear h0 h1 hc hif hz
      go_enter Tryd.func29, Tryd.ntmps29
      go_wp2_with fail
      refine (rulesFault_is l a ca _ _ _ (HL.out.below ((Below.refl _ _).alloc (Nat.le_refl _) _)) HS.out HC.out HI.out).mono ?_
      rintro e w1 ⟨rfl, hb1⟩
      have HB1 := Lib.hid (show Below (w.heap.size + 1) (w.alloc (.cells #[.int .i64 0, .int .i64 0] 52)) w1 from hb1.mono (by simp))
      have hs1 : w.heap.size + 1 ≤ w1.heap.size := by have := hb1.size; simpa using this
      clear hb1

      obtain ⟨fb, hfb⟩ : ∃ fb, fb = w1.heap.size := ⟨_, rfl⟩
      obtain ⟨W1, hW1⟩ : ∃ W1, W1 = w1.alloc (.cells #[.int .i64 0, .int .i64 (-1)] 52) := ⟨_, rfl⟩
      have hT1 : Two W1 fb (.int .i64 0) (.int .i64 (-1)) 52 := by rw [hW1, hfb]; exact Two.new _ _ _ _
      have hR1 : Below (w.heap.size + 1) (w.alloc (.cells #[.int .i64 0, .int .i64 0] 52)) W1 := by rw [hW1]; exact HB1.out.alloc hs1 _
      have hsz1 : W1.heap.size = fb + 1 := by rw [hW1, World.size_alloc, hfb]
      obtain ⟨x0, x1, _, _⟩ := hT1.cells
      go_wp2_with fail
      rw [← hW1, ← hfb]
      have hnfb : w.heap.size < fb := by omega
      clear hW1 hfb hs1 HB1
      refine (linkError_is s _ _ (by omega) HZ.out).mono ?_
      rintro e w2 ⟨rfl, hb2⟩
      have hT2 := hT1.below hb2 hT1.lt
      have hR2 := hR1.trans (hb2.mono (by omega))
      have hsz2 : fb + 1 ≤ w2.heap.size := by have := hb2.size; omega
      clear hb2 hT1 hR1 hsz1 x0 x1
      go_wp2_with fail
      refine (rBare_any _ _).mono ?_
      rintro e w3 ⟨rfl, hb3⟩
      have hT3 := hT2.below hb3 hT2.lt
      have hR3 := hR2.trans (hb3.mono (by omega))
      have hsz3 : fb + 1 ≤ w3.heap.size := by have := hb3.size; omega
      clear hb3 hT2 hR2 hsz2
      obtain ⟨x0, x1, x2, x3⟩ := hT3.cells
      obtain ⟨y0, y1, y2, y3⟩ := (hT3.store (.int .i64 0) (.int .i64 (-1))).cells

      go_wp2_with fail
      obtain ⟨W4, hW4⟩ : ∃ W4, W4 = (w3.setCell ⟨fb, 0, none⟩ (.int .i64 0)).setCell ⟨fb, 1, none⟩ (.int .i64 (-1)) := ⟨_, rfl⟩
      rw [← hW4]
      have HF4 : Hid (Two W4 fb (.int .i64 0) (.int .i64 (-1)) 52) := by show Two W4 _ _ _ _; rw [hW4]; exact hT3.store _ _
      have HN4 : Hid (Two W4 w.heap.size (.int .i64 0) (.int .i64 0) 52) := by
        show Two W4 _ _ _ _
        rw [hW4]
        exact ((Two.new w _ _ _).below hR3 (by omega)).keep (heap_store _ _ (by omega))
      have HB4 : Hid (Below w.heap.size w W4) := by
        show Below _ _ W4
        rw [hW4]
        exact below_store _ _ (((Below.refl _ w).alloc (Nat.le_refl _) _).trans (hR3.mono (by omega))) (by omega)
      have hs4 : fb + 1 ≤ W4.heap.size := HF4.out.lt
      clear hW4 hT3 hR3 hsz3 x0 x1 x2 x3 y0 y1 y2 y3 w1 w2 w3
      go_loop [7, 8, 9] (fun av fv iv => ∃ q : Nat, q ≤ l.length ∧ iv = .int .i64 q ∧ ((av = .int .i64 (-1) ∧ fv = .int .i64 (-1) ∧ closestR s (l.take q) = noRu) ∨ ∃ k m : Nat, ∃ hk : k < l.length, av = .int .i64 k ∧ fv = .int .i64 m ∧ l[k].f.length = m ∧ closestR s (l.take q) = l[k])) (fun _ _ iv => l.length - (intOf iv).toNat)
      case atStart => exact ⟨0, by omega, rfl, .inl ⟨rfl, rfl, rfl⟩⟩
      case round =>
        obtain ⟨q, hq, rfl, hcl⟩ := hrel
        by_cases hlt : q < l.length
        · have hlt' : (q : Int) < (l.length : Int) := by omega
          have hlw := HL.out.below HB4.out
          obtain ⟨b, o, rfl, c0, c1⟩ := hlw.at hlt
          have hfl := HS.out.begin _ (List.getElem_mem hlt)
          have hfp := HPOS.out _ (List.getElem_mem hlt)
          have HNX := Lib.hid (closestR_take (s := s) hlt)
          clear hlw
          obtain ⟨r, hr⟩ : ∃ r, l[q] = r := ⟨_, rfl⟩
          rw [hr] at c0 c1 hfl hfp HNX
          have HRQ := Lib.hid hr
          clear hr
          cases hp : Lib.hasPrefix s r.f with
          | false =>
            have HNN := Lib.hid (HNX.out.trans (by rw [nearer_no hp, if_neg (by decide)]))
            have HP := Lib.hid hp
            clear hp
            rcases hcl with ⟨rfl, rfl, hcl⟩ | ⟨k, m, hk, rfl, rfl, hm, hcl⟩
            · have HCL := Lib.hid hcl
              clear hcl
              go_wp2_with fail
              refine (begins_same s r.f _ _ (by omega) (by omega) HP.out).mono ?_
              rintro e w' ⟨rfl, rfl⟩
              go_wp2
              go_round
              case rel => exact ⟨q + 1, by omega, by go_num, .inl ⟨rfl, rfl, HNN.out.trans HCL.out⟩⟩
              case measure => simp [intOf]; omega
            · have HCL := Lib.hid hcl
              have HM := Lib.hid hm
              clear hcl hm
              go_wp2_with fail
              refine (begins_same s r.f _ _ (by omega) (by omega) HP.out).mono ?_
              rintro e w' ⟨rfl, rfl⟩
              go_wp2
              go_round
              case rel => exact ⟨q + 1, by omega, by go_num, .inr ⟨k, m, hk, rfl, rfl, HM.out, HNN.out.trans HCL.out⟩⟩
              case measure => simp [intOf]; omega
          | true =>
            have HP := Lib.hid hp
            rcases hcl with ⟨rfl, rfl, hcl⟩ | ⟨k, m, hk, rfl, rfl, hm, hcl⟩
            · have HNN := Lib.hid (HNX.out.trans (by rw [hcl, nearer_yes hp (by simpa [noRu] using hfp), if_pos rfl]))
              have hlen : (-1 : Int) < (r.f.length : Int) := by omega
              clear hcl hp
              go_wp2_with fail
              refine (begins_same s r.f _ _ (by omega) (by omega) HP.out).mono ?_
              rintro e w' ⟨rfl, rfl⟩
              go_wp2
              go_round
              case rel => exact ⟨q + 1, by omega, by go_num, .inr ⟨q, r.f.length, hlt, rfl, rfl, by rw [HRQ.out], by rw [HRQ.out]; exact HNN.out⟩⟩
              case measure => simp [intOf]; omega
            · by_cases hlen : m < r.f.length
              · have HNN := Lib.hid (HNX.out.trans (by rw [hcl, nearer_yes hp (by rw [hm]; exact hlen), if_pos rfl]))
                have hlen' : (m : Int) < (r.f.length : Int) := by omega
                clear hcl hp hm
                go_wp2_with fail
                refine (begins_same s r.f _ _ (by omega) (by omega) HP.out).mono ?_
                rintro e w' ⟨rfl, rfl⟩
                go_wp2
                go_round
                case rel => exact ⟨q + 1, by omega, by go_num, .inr ⟨q, r.f.length, hlt, rfl, rfl, by rw [HRQ.out], by rw [HRQ.out]; exact HNN.out⟩⟩
                case measure => simp [intOf]; omega
              · have HNN := Lib.hid (HNX.out.trans (by rw [hcl, nearer_short (by rw [hm]; exact hlen), if_neg (by decide)]))
                have HM := Lib.hid hm
                have hlen' : ¬ (m : Int) < (r.f.length : Int) := by omega
                clear hcl hp hm
                go_wp2_with fail
                refine (begins_same s r.f _ _ (by omega) (by omega) HP.out).mono ?_
                rintro e w' ⟨rfl, rfl⟩
                go_wp2
                go_round
                case rel => exact ⟨q + 1, by omega, by go_num, .inr ⟨k, m, hk, rfl, rfl, HM.out, HNN.out⟩⟩
                case measure => simp [intOf]; omega
        · obtain rfl : q = l.length := by omega
          rw [List.take_length] at hcl
          obtain ⟨B, hB⟩ : ∃ B, B = W4.heap.size := ⟨_, rfl⟩
          have hfbB : fb < B := by omega
          rcases hcl with ⟨rfl, rfl, hcl⟩ | ⟨k, m, hk, rfl, rfl, hm, hcl⟩
          · have HV : Hid (waysL (closestQ s (l.map Ru.q)) s = addL [] s) := by show waysL (closestQ s (l.map Ru.q)) s = _; rw [← closestR_q, hcl]; rfl
            clear hcl
            have HR : Hid (W4.ownsRow B 9 1 (.slice none 0 0) 0 []) := World.ownsRow_nil _ _ _ _
            have HN := HN4
            have HFq := HF4
            have HBq := HB4
            have HTA : Hid (TextsAt W4 none ([] : List (List UInt8))) := fun h => absurd rfl h
            have hin : s ∉ ([] : List (List UInt8)) := by simp
            have HIN : Hid (decide (s ∈ ([] : List (List UInt8))) = false) := by show decide (s ∈ ([] : List (List UInt8))) = false; simp
            have HAD := Lib.hid (addL_out hin)
            clear hin
            have hrw := HR.out
            go_wp2_with fail
            refine (inTexts_is s none 0 _ ([] : List (List UInt8)) false _ (by simp) HTA.out rfl HIN.out).mono ?_
            rintro e w' ⟨rfl, rfl⟩
            go_wp2_with (at_builtin; refine wpList_append_own _ rfl _ _ 34 rfl B 9 i0 (.string ⟨#[]⟩) 1 16 Tryd.underlying34 hi hz0 hz1 hz2 rfl (by decide) _ _ _ rfl (hrw.alloc _) ⟨w'.heap.size, 0, none⟩ 1 1 [sv s] rfl rfl (text_new _ _ _) (by simp [Value.oneCell']) (by unfold maxLen; omega) (by omega) (by simp; omega) ?_; intro v' w6 hown' hgrow' _)
            have hkeep : ∀ g, g < B → w6.heap[g]? = w'.heap[g]? := fun g hg => by rw [hgrow'.block g (by simp; omega) (fun h => by have := (hrw.lt g h.symm).1; omega)]; exact Below.heap_alloc _ _ _ (by omega)
            obtain ⟨n0, n1, n2, n3⟩ := (HN.out.keep (hkeep _ (by omega))).cells
            obtain ⟨k0, k1, _, _⟩ := (HFq.out.keep (hkeep _ (by omega))).cells
            have HB6 : Hid (Below w.heap.size w w6) := (HBq.out.alloc HBq.out.size _).grown hgrow' (by have := HBq.out.size; simp; omega) (fun k e => by have := (hrw.lt k e).1; omega)
            have HR6 : Hid (w6.ownsRow B 9 1 v' (([] : List (List UInt8)) ++ [s]).length ((([] : List (List UInt8)) ++ [s]).map sv)) := by show w6.ownsRow _ _ _ _ _ _; rw [List.length_append, List.map_append]; exact hown'
            clear hkeep hgrow' hown'
            go_region
            all_goals go_wp2
            all_goals
              obtain ⟨q0, q1, q2⟩ := slot_set (w := w) (.int .i64 0) (.int .i64 (-1)) n0 n1 HB6.out
              exact bodyPost_ret (v := .tuple #[v', .agg #[.int .i64 0, .int .i64 (-1)]]) (by simp [results, Tryd.results29, go_sem, q0, q1]) rfl ⟨⟨_, by rw [HW.out]; rfl, by rw [HW.out, HV.out, HAD.out]; exact (row_slot _ _ HR6.out (by omega)).mono (by omega)⟩, q2.drew⟩
          · have HV : Hid (waysL (closestQ s (l.map Ru.q)) s = addL (waysTo l[k].f s l[k].t) s) := by show waysL (closestQ s (l.map Ru.q)) s = _; rw [← closestR_q, hcl]; rfl
            have hkl : (k : Int) < (l.length : Int) := by omega
            have hk0 : (0 : Int) ≤ (k : Int) := by omega
            have hlw := HL.out.below HB4.out
            have HRL := Lib.hid (hlw.each _ (List.getElem_mem hk)).texts
            obtain ⟨b, o, rfl, c0, c1⟩ := hlw.at hk
            have hfl := HS.out.begin _ (List.getElem_mem hk)
            have hnl := HS.out.many _ (List.getElem_mem hk)
            have HTX := Lib.hid (HS.out.texts _ (List.getElem_mem hk))
            clear hlw hcl hm
            generalize l[k] = r at c0 c1 hfl hnl HRL HTX HV
            obtain ⟨f, t, ta, tc⟩ := r
            simp only at c0 c1 hfl hnl HRL HTX HV
            go_wp2_with fail
            go_loopw [11, 12] (fun v iv wr => ∃ q : Nat, q ≤ t.length ∧ iv = .int .i64 q ∧ wr.ownsRow B 9 1 v (waysTo f s (t.take q)).length ((waysTo f s (t.take q)).map sv) ∧ Below B W4 wr) (fun _ iv _ => t.length - (intOf iv).toNat)
            case atStart => exact ⟨0, by omega, rfl, World.ownsRow_nil _ _ _ _, Below.refl _ _⟩
            case round =>
              obtain ⟨q, hq2, rfl, hrow, hb⟩ := hrel
              have HR := Lib.hid hrow
              have HW4 := Lib.hid hb
              have hb' : Below W4.heap.size W4 wr := by rw [← hB]; exact hb
              have HWW := Lib.hid hb'
              have hBr : B ≤ wr.heap.size := by have := hb'.size; omega
              have HN := Lib.hid (HN4.out.below hb (by omega))
              have HFq := Lib.hid (HF4.out.below hb (by omega))
              have HBq := Lib.hid (HB4.out.trans (hb.mono (by omega)))
              have d0 : wr.cell? ⟨b, o + k * 2, none⟩ = some (sv f) := (hb'.cell (p := ⟨b, o + k * 2, none⟩) (block_lt_of_cell c0)).trans c0
              have d1 : wr.cell? ⟨b, o + k * 2 + 1, none⟩ = some (.slice ta t.length tc) := (hb'.cell (p := ⟨b, o + k * 2 + 1, none⟩) (block_lt_of_cell c1)).trans c1
              have hal := waysTo_length f s (t.take q)
              rw [List.length_take] at hal
              clear hb hb' hrow
              by_cases hlt2 : q < t.length
              · have hlt2' : (q : Int) < (t.length : Int) := by omega
                have hq0 : (0 : Int) ≤ (q : Int) := by omega
                have HNX := Lib.hid (waysTo_take (a := f) (s := s) hlt2)
                have hxl := HTX.out _ (List.getElem_mem hlt2)
                obtain ⟨b2, o2, rfl, x0⟩ := (HRL.out.below HWW.out).at hlt2
                have hbl : b < wr.heap.size := block_lt_of_cell d0
                have hbl2 : b2 < wr.heap.size := block_lt_of_cell x0
                generalize waysTo f s (t.take q) = acc at HR HNX hal
                generalize t[q] = x at x0 hxl HNX
                obtain ⟨⟨y, cc⟩, hsw⟩ : ∃ r, swapK f x s = r := ⟨_, rfl⟩
                cases cc with
                | succ j =>
                  have HNN := Lib.hid (HNX.out.trans (wayStep_bad hsw))
                  have HSW := Lib.hid hsw
                  obtain ⟨zz, hzz⟩ : ∃ zz : Int, ((j + 1 : Nat) : Int) = zz := ⟨_, rfl⟩
                  have hz0' : (zz == 0) = false := by rw [← hzz]; simp; omega
                  have HZZ := Lib.hid hzz
                  clear hsw hzz
                  go_wp2_with fail
                  have HD := swapOf_is f x s y _ zz wr.drew (by omega) (by omega) (by omega) HSW.out HZZ.out
                  go_region_held3 (fun w' => w'.cell? ⟨b, o + k * 2, none⟩ = some (sv f) ∧ w'.cell? ⟨b, o + k * 2 + 1, none⟩ = some (.slice (some ⟨b2, o2, none⟩) t.length tc) ∧ w'.cell? ⟨b2, o2 + q, none⟩ = some (sv x)) (go_keep) (first
                    | (go_at_call 19; (with_reducible refine HD.mono ?_); rintro e w5 ⟨rfl, hb5⟩; have e0 := (hb5.cell (p := ⟨b, o + k * 2, none⟩) hbl).trans d0; have e1 := (hb5.cell (p := ⟨b, o + k * 2 + 1, none⟩) hbl).trans d1; have e2 := (hb5.cell (p := ⟨b2, o2 + q, none⟩) hbl2).trans x0; have hb5' : Below wr.heap.size wr w5 := (Below.refl _ _).drew.trans hb5; have hs5 := hb5'.size; have HB5 := Lib.hid (HW4.out.trans (hb5'.mono hBr)); have HR5 := Lib.hid (row_below HR.out hb5'); clear hb5 hb5'))
                  obtain ⟨va, vc, rfl, hta, _, _⟩ := texts_of_owns HR5.out
                  have HTA := Lib.hid hta
                  clear hta
                  go_wp2_with fail
                  refine (inTexts_is y va vc _ acc _ _ (by omega) HTA.out rfl rfl).mono ?_
                  rintro e w' ⟨rfl, rfl⟩
                  go_wp2
                  go_roundw
                  case rel => exact ⟨q + 1, by omega, by go_num, by rw [HNN.out]; exact HR5.out, HB5.out⟩
                  case measure => simp [intOf]; omega
                | zero =>
                  have HNN := Lib.hid (HNX.out.trans (wayStep_ok hsw))
                  have HSW := Lib.hid hsw
                  clear hsw
                  go_wp2_with fail
                  have HD := swapOf_is f x s y _ 0 wr.drew (by omega) (by omega) (by omega) HSW.out rfl
                  go_region_held3 (fun w' => w'.cell? ⟨b, o + k * 2, none⟩ = some (sv f) ∧ w'.cell? ⟨b, o + k * 2 + 1, none⟩ = some (.slice (some ⟨b2, o2, none⟩) t.length tc) ∧ w'.cell? ⟨b2, o2 + q, none⟩ = some (sv x)) (go_keep) (first
                    | (go_at_call 19; (with_reducible refine HD.mono ?_); rintro e w5 ⟨rfl, hb5⟩; have e0 := (hb5.cell (p := ⟨b, o + k * 2, none⟩) hbl).trans d0; have e1 := (hb5.cell (p := ⟨b, o + k * 2 + 1, none⟩) hbl).trans d1; have e2 := (hb5.cell (p := ⟨b2, o2 + q, none⟩) hbl2).trans x0; have hb5' : Below wr.heap.size wr w5 := (Below.refl _ _).drew.trans hb5; have hs5 := hb5'.size; have HB5 := Lib.hid (HW4.out.trans (hb5'.mono hBr)); have HR5 := Lib.hid (row_below HR.out hb5'); clear hb5 hb5'))
                  obtain ⟨va, vc, rfl, hta, _, _⟩ := texts_of_owns HR5.out
                  have HTA := Lib.hid hta
                  clear hta
                  by_cases hin : y ∈ acc
                  · have HIN : Hid (decide (y ∈ acc) = true) := by show decide (y ∈ acc) = true; simpa using hin
                    have HAD := Lib.hid (addL_in hin)
                    clear hin
                    go_wp2_with fail
                    refine (inTexts_is y va vc _ acc _ _ (by omega) HTA.out rfl HIN.out).mono ?_
                    rintro e w' ⟨rfl, rfl⟩
                    go_wp2
                    go_roundw
                    case rel => exact ⟨q + 1, by omega, by go_num, by rw [HNN.out, HAD.out]; exact HR5.out, HB5.out⟩
                    case measure => simp [intOf]; omega
                  · have HIN : Hid (decide (y ∈ acc) = false) := by show decide (y ∈ acc) = false; simpa using hin
                    have HAD := Lib.hid (addL_out hin)
                    have hrw := HR5.out
                    clear hin
                    go_wp2_with fail
                    refine (inTexts_is y va vc _ acc _ _ (by omega) HTA.out rfl HIN.out).mono ?_
                    rintro e w' ⟨rfl, rfl⟩
                    go_wp2_with (at_builtin; refine wpList_append_own _ rfl _ _ 34 rfl B 9 i0 (.string ⟨#[]⟩) 1 16 Tryd.underlying34 hi hz0 hz1 hz2 rfl (by decide) _ _ _ rfl (hrw.alloc _) ⟨w'.heap.size, 0, none⟩ 1 1 [sv y] rfl rfl (text_new _ _ _) (by simp [Value.oneCell']) (by unfold maxLen; omega) (by omega) (by simp; omega) ?_; intro v' w6 hown' hgrow' _)
                    have HB6 : Hid (Below B W4 w6) := (HB5.out.alloc (by omega) _).grown hgrow' (by simp; omega) (fun k e => (hrw.lt k e).1)
                    go_roundw
                    case rel => exact ⟨q + 1, by omega, by go_num, by rw [HNN.out, HAD.out, List.length_append, List.map_append]; exact hown', HB6.out⟩
                    case measure => simp [intOf]; omega
              · obtain rfl : q = t.length := by omega
                rw [List.take_length] at HR hal
                generalize waysTo f s t = acc at HR HV hal
                obtain ⟨va, vc, rfl, hta, _, _⟩ := texts_of_owns HR.out
                have HTA := Lib.hid hta
                clear hta
                by_cases hin : s ∈ acc
                · have HIN : Hid (decide (s ∈ acc) = true) := by show decide (s ∈ acc) = true; simpa using hin
                  have HAD := Lib.hid (addL_in hin)
                  clear hin
                  obtain ⟨n0, n1, n2, n3⟩ := HN.out.cells
                  obtain ⟨k0, k1, _, _⟩ := HFq.out.cells
                  go_wp2_with fail
                  refine (inTexts_is s va vc _ acc true _ (by omega) HTA.out rfl HIN.out).mono ?_
                  rintro e w' ⟨rfl, rfl⟩
                  go_wp2
                  go_region
                  all_goals go_wp2
                  all_goals
                    obtain ⟨q0, q1, q2⟩ := slot_set (w := w) (.int .i64 0) (.int .i64 (-1)) n0 n1 HBq.out
                    exact bodyPost_ret (v := .tuple #[.slice va (List.length acc) vc, .agg #[.int .i64 0, .int .i64 (-1)]]) (by simp [results, Tryd.results29, go_sem, q0, q1]) rfl ⟨⟨_, by rw [HW.out]; rfl, by rw [HW.out, HV.out, HAD.out]; exact (row_slot _ _ HR.out (by omega)).mono (by omega)⟩, q2.drew⟩

                · have HIN : Hid (decide (s ∈ acc) = false) := by show decide (s ∈ acc) = false; simpa using hin
                  have HAD := Lib.hid (addL_out hin)
                  clear hin
                  have hrw := HR.out
                  go_wp2_with fail
                  refine (inTexts_is s va vc _ acc false _ (by omega) HTA.out rfl HIN.out).mono ?_
                  rintro e w' ⟨rfl, rfl⟩
                  go_wp2_with (at_builtin; refine wpList_append_own _ rfl _ _ 34 rfl B 9 i0 (.string ⟨#[]⟩) 1 16 Tryd.underlying34 hi hz0 hz1 hz2 rfl (by decide) _ _ _ rfl (hrw.alloc _) ⟨w'.heap.size, 0, none⟩ 1 1 [sv s] rfl rfl (text_new _ _ _) (by simp [Value.oneCell']) (by unfold maxLen; omega) (by omega) (by simp; omega) ?_; intro v' w6 hown' hgrow' _)
                  have hkeep : ∀ g, g < B → w6.heap[g]? = w'.heap[g]? := fun g hg => by rw [hgrow'.block g (by simp; omega) (fun h => by have := (hrw.lt g h.symm).1; omega)]; exact Below.heap_alloc _ _ _ (by omega)
                  obtain ⟨n0, n1, n2, n3⟩ := (HN.out.keep (hkeep _ (by omega))).cells
                  obtain ⟨k0, k1, _, _⟩ := (HFq.out.keep (hkeep _ (by omega))).cells
                  have HB6 : Hid (Below w.heap.size w w6) := (HBq.out.alloc HBq.out.size _).grown hgrow' (by have := HBq.out.size; simp; omega) (fun k e => by have := (hrw.lt k e).1; omega)
                  have HR6 : Hid (w6.ownsRow B 9 1 v' (acc ++ [s]).length ((acc ++ [s]).map sv)) := by show w6.ownsRow _ _ _ _ _ _; rw [List.length_append, List.map_append]; exact hown'
                  clear hkeep hgrow' hown'
                  go_region
                  all_goals go_wp2
                  all_goals
                    obtain ⟨q0, q1, q2⟩ := slot_set (w := w) (.int .i64 0) (.int .i64 (-1)) n0 n1 HB6.out
                    exact bodyPost_ret (v := .tuple #[v', .agg #[.int .i64 0, .int .i64 (-1)]]) (by simp [results, Tryd.results29, go_sem, q0, q1]) rfl ⟨⟨_, by rw [HW.out]; rfl, by rw [HW.out, HV.out, HAD.out]; exact (row_slot _ _ HR6.out (by omega)).mono (by omega)⟩, q2.drew⟩
    · have HW := Lib.hid (waysQ_link (s := s) h0 h1)
      have hp0 : (0 : Int) < z := by omega
      clear h0 h1 hc hif hz

      go_enter Tryd.func29, Tryd.ntmps29
      go_wp2_with fail
      refine (rulesFault_is l a ca _ _ _ (HL.out.below ((Below.refl _ _).alloc (Nat.le_refl _) _)) HS.out HC.out HI.out).mono ?_
      rintro e w1 ⟨rfl, hb1⟩
      have HB1 := Lib.hid (show Below (w.heap.size + 1) (w.alloc (.cells #[.int .i64 0, .int .i64 0] 52)) w1 from hb1.mono (by simp))
      have hs1 : w.heap.size + 1 ≤ w1.heap.size := by have := hb1.size; simpa using this
      clear hb1

      obtain ⟨fb, hfb⟩ : ∃ fb, fb = w1.heap.size := ⟨_, rfl⟩
      obtain ⟨W1, hW1⟩ : ∃ W1, W1 = w1.alloc (.cells #[.int .i64 0, .int .i64 (-1)] 52) := ⟨_, rfl⟩
      have hT1 : Two W1 fb (.int .i64 0) (.int .i64 (-1)) 52 := by rw [hW1, hfb]; exact Two.new _ _ _ _
      have hR1 : Below (w.heap.size + 1) (w.alloc (.cells #[.int .i64 0, .int .i64 0] 52)) W1 := by rw [hW1]; exact HB1.out.alloc hs1 _
      have hsz1 : W1.heap.size = fb + 1 := by rw [hW1, World.size_alloc, hfb]
      obtain ⟨x0, x1, _, _⟩ := hT1.cells
      go_wp2_with fail
      rw [← hW1, ← hfb]
      have hnfb : w.heap.size < fb := by omega
      clear hW1 hfb hs1 HB1
      refine (linkError_is s _ _ (by omega) HZ.out).mono ?_
      rintro e w2 ⟨rfl, hb2⟩
      have hT2 := hT1.below hb2 hT1.lt
      have hR2 := hR1.trans (hb2.mono (by omega))
      have hsz2 : fb + 1 ≤ w2.heap.size := by have := hb2.size; omega
      clear hb2 hT1 hR1 hsz1 x0 x1
      go_wp2_with fail
      refine (rBare_any _ _).mono ?_
      rintro e w3 ⟨rfl, hb3⟩
      have hT3 := hT2.below hb3 hT2.lt
      have hR3 := hR2.trans (hb3.mono (by omega))
      have hsz3 : fb + 1 ≤ w3.heap.size := by have := hb3.size; omega
      clear hb3 hT2 hR2 hsz2
      obtain ⟨x0, x1, x2, x3⟩ := hT3.cells
      obtain ⟨y0, y1, y2, y3⟩ := (hT3.store (.int .i64 z) (.int .i64 (-1))).cells

      have HB3 := Lib.hid hR3
      have HT3 := Lib.hid hT3
      clear hT3 hR3
      go_wp2
      obtain ⟨W4, hW4⟩ : ∃ W4, W4 = (w3.setCell ⟨fb, 0, none⟩ (.int .i64 z)).setCell ⟨fb, 1, none⟩ (.int .i64 (-1)) := ⟨_, rfl⟩
      rw [← hW4] at y0 y1 ⊢
      have HN4 : Hid (Two W4 w.heap.size (.int .i64 0) (.int .i64 0) 52) := by
        show Two W4 _ _ _ _
        rw [hW4]
        exact ((Two.new w _ _ _).below HB3.out (by omega)).keep (heap_store _ _ (by omega))
      have HB4 : Hid (Below w.heap.size w W4) := by
        show Below _ _ W4
        rw [hW4]
        exact below_store _ _ (((Below.refl _ w).alloc (Nat.le_refl _) _).trans (HB3.out.mono (by omega))) (by omega)
      obtain ⟨n0, n1, n2, n3⟩ := HN4.out.cells
      clear hW4 y2 y3 x0 x1 x2 x3
      go_region
      all_goals go_wp2
      all_goals
        obtain ⟨q0, q1, q2⟩ := slot_set (w := w) (.int .i64 z) (.int .i64 (-1)) n0 n1 HB4.out
        exact bodyPost_ret (v := .tuple #[.slice none 0 0, .agg #[.int .i64 z, .int .i64 (-1)]]) (by simp [results, Tryd.results29, go_sem, q0, q1]) rfl ⟨⟨_, by rw [HW.out, ← HZ.out], by rw [HW.out]; exact World.ownsRow_nil _ _ _ _⟩, q2.drew⟩
  · have HW := Lib.hid (waysQ_bad (s := s) h0)
    have hn0 : (c == 0) = false := by rw [← hc]; simp; exact h0
    have hp0 : (0 : Int) < c := by omega
    clear h0 hc hif

    go_enter Tryd.func29, Tryd.ntmps29
    go_wp2_with fail
    refine (rulesFault_is l a ca _ _ _ (HL.out.below ((Below.refl _ _).alloc (Nat.le_refl _) _)) HS.out HC.out HI.out).mono ?_
    rintro e w1 ⟨rfl, hb1⟩
    have HB1 := Lib.hid (show Below (w.heap.size + 1) (w.alloc (.cells #[.int .i64 0, .int .i64 0] 52)) w1 from hb1.mono (by simp))
    have hs1 : w.heap.size + 1 ≤ w1.heap.size := by have := hb1.size; simpa using this
    clear hb1

    obtain ⟨n0, n1, n2, n3, hBn⟩ := slot_two (HB1.out.alloc hs1 (.cells #[.int .i64 c, .int .i64 i] 52))
    have HBn := Lib.hid hBn
    clear hBn
    go_wp2
    go_region
    all_goals go_wp2
    all_goals
      obtain ⟨q0, q1, q2⟩ := slot_set (w := w) (.int .i64 c) (.int .i64 i) n0 n1 HBn.out
      exact bodyPost_ret (v := .tuple #[.slice none 0 0, .agg #[.int .i64 c, .int .i64 i]]) (by simp [results, Tryd.results29, go_sem, q0, q1]) rfl ⟨⟨_, by rw [HW.out, ← HC.out, ← HI.out], by rw [HW.out]; exact World.ownsRow_nil _ _ _ _⟩, q2.drew⟩
end Go.Proofs.YtmpfjambenkeeaaDoor
