/-
  Own texts of the proof, joined by program: RefRules, LawRules, RefWant, RefWays, RefAsk.
-/
import Derived.Test.YtmcfkoenpikldaaGreatDoorRuMemPkMirrorPkRulesPkWays
import Derived.Test.YtmcfkoenpikldaaGreatDoorRefLinkRefLinks
import Derived.OwnWalk
import Derived.Test.YtmcfkoenpikldaaGreatDoorPkWantPkWantText
import Derived.Test.YtmcfkoenpikldaaGreatDoorRefDigitsRefSumPkSumSumEnv
import Derived.Deep.RegionHeld3
import Derived.Test.YtmcfkoenpikldaaGreatDoorFetchPureFetchMemPkFetchPkFetchWaysPkFetchDoFetchAt
import Derived.Deep.CutRange
/-
  The document's answer for mirrors: InTexts, SameTexts, RulesFault: contracts, over this seat's translation.
-/
namespace Go.Proofs.YtmcfkoenpikldaaGreatDoor
open Go.RowKit Go.Shelf

theorem rBare_any (c : Int) (w : World) : Calls Tryz.prog 73 #[.int .i64 c] w fun e w' => e = .returned (.agg #[.int .i64 c, .int .i64 (-1)]) ∧ Below w.heap.size w w' := by
  go_enter Tryz.func73, Tryz.ntmps73
  go_wp2
  exact bodyPost_ret (v := .agg #[.int .i64 c, .int .i64 (-1)]) (by simp [results, Tryz.results73, go_sem]) rfl ⟨rfl, (Below.refl _ _).alloc (Nat.le_refl _) _⟩
theorem rFine_any (w : World) : Calls Tryz.prog 98 #[] w fun e w' => e = .returned (.agg #[.int .i64 0, .int .i64 (-1)]) ∧ Below w.heap.size w w' := by
  go_enter Tryz.func98, Tryz.ntmps98
  go_wp2
  exact bodyPost_ret (v := .agg #[.int .i64 0, .int .i64 (-1)]) (by simp [results, Tryz.results98, go_sem]) rfl ⟨rfl, (Below.refl _ _).alloc (Nat.le_refl _) _⟩

set_option maxHeartbeats 1000000 in
theorem inTexts_at (s : List UInt8) (a : Option Addr) (cap : Nat) (k : List (List UInt8)) (w : World) (hk : k.length ≤ 100000) (h : TextsAt w a k) :
    Calls Tryz.prog 126 #[.string ⟨s.toArray⟩, .slice a k.length cap] w fun e w' => e = .returned (.bool (decide (s ∈ k))) ∧ w' = w := by
  have H := Lib.hid h
  clear h
  go_enter Tryz.func126, Tryz.ntmps126
  go_wp2_with fail
  go_loop [5] (fun i => ∃ q : Nat, q ≤ k.length ∧ i = .int .i64 q ∧ (k.take q).contains s = false) (fun i => k.length - (intOf i).toNat)
  case atStart => exact ⟨0, by omega, rfl, by simp⟩
  case round =>
    obtain ⟨q, hq, rfl, hn⟩ := hrel
    have HN := Lib.hid hn
    clear hn
    by_cases hlt : q < k.length
    · obtain ⟨b, o, rfl, hc⟩ := H.out.at hlt
      have hlt' : (q : Int) < (k.length : Int) := by omega
      by_cases hx : k[q] = s
      · have HF : Hid (decide (s ∈ k) = true) := by
          show decide (s ∈ k) = true
          rw [decide_eq_true_eq, ← hx]
          exact List.getElem_mem hlt
        rw [hx] at hc
        clear hx
        go_wp2
        go_ret
        exact ⟨ret_bool HF.out.symm, rfl⟩
      · have HF := Lib.hid (contains_take hlt HN.out hx)
        have hx' : (k[q] == s) = false := by simpa using hx
        clear hx
        generalize k[q] = x at hc hx'
        go_wp2
        go_round
        case rel => exact ⟨q + 1, by omega, by go_num, HF.out⟩
        case measure => simp [intOf]; omega
    · have hql : q = k.length := by omega
      have HF : Hid (decide (s ∈ k) = false) := by
        have := HN.out
        rw [hql, List.take_length, List.contains_eq_mem] at this
        exact this
      clear hql
      go_wp2
      go_ret
      exact ⟨ret_bool HF.out.symm, rfl⟩
theorem inTexts_is (s : List UInt8) (a : Option Addr) (cap n : Nat) (k : List (List UInt8)) (r : Bool) (w : World) (hk : k.length ≤ 100000) (h : TextsAt w a k) (hn : k.length = n) (hr : decide (s ∈ k) = r) :
    Calls Tryz.prog 126 #[.string ⟨s.toArray⟩, .slice a n cap] w fun e w' => e = .returned (.bool r) ∧ w' = w := by
  have := inTexts_at s a cap k w hk h
  rwa [hr, hn] at this

set_option maxHeartbeats 1000000 in
theorem sameTexts_at (l m : List (List UInt8)) (a b : Option Addr) (ca cb : Nat) (w : World) (hl : TextsAt w a l) (hm : TextsAt w b m) (hll : l.length ≤ 100000) (hml : m.length ≤ 100000) :
    Calls Tryz.prog 20 #[.slice a l.length ca, .slice b m.length cb] w fun e w' => e = .returned (.bool (decide (l = m))) ∧ Below w.heap.size w w' := by
  by_cases hlen : l.length = m.length
  · have HL := Lib.hid hl
    have HM := Lib.hid hm
    have HLEN := Lib.hid hlen
    clear hl hm
    rw [← hlen]
    clear hlen
    go_enter Tryz.func20, Tryz.ntmps20
    go_wp2_with fail
    go_loopw [5] (fun i wr => ∃ q : Nat, q ≤ l.length ∧ i = .int .i64 q ∧ l.take q = m.take q ∧ Below w.heap.size w wr) (fun i _ => l.length - (intOf i).toNat)
    case atStart => exact ⟨0, by omega, rfl, by simp, Below.refl _ _⟩
    case round =>
      obtain ⟨q, hq, rfl, ht, hb⟩ := hrel
      have HB := Lib.hid hb
      have HT := Lib.hid ht
      clear hb ht
      by_cases hlt : q < l.length
      · have hlt2 : q < m.length := HLEN.out ▸ hlt
        obtain ⟨b1, o1, rfl, c0⟩ := (HL.out.below HB.out).at hlt
        obtain ⟨b2, o2, rfl, d0⟩ := (HM.out.below HB.out).at hlt2
        have hlt' : (q : Int) < (l.length : Int) := by omega
        by_cases he : l[q] = m[q]
        · have HN : Hid (l.take (q + 1) = m.take (q + 1)) := by
            show l.take (q + 1) = m.take (q + 1)
            rw [List.take_succ_eq_append_getElem hlt, List.take_succ_eq_append_getElem hlt2, HT.out, he]
          rw [← he] at d0
          clear he
          generalize l[q] = x at c0 d0
          go_wp2_with fail
          go_quiet (fail)
          go_wp2
          go_roundw
          case rel => exact ⟨q + 1, by omega, by go_num, HN.out, below_drewN HB.out _⟩
          case measure => simp [intOf]; omega
        · have HN : Hid (decide (l = m) = false) := by
            show decide (l = m) = false
            rw [decide_eq_false_iff_not]
            intro e
            subst e
            exact he rfl
          have he' : (l[q] == m[q]) = false := by simpa using he
          clear he
          generalize l[q] = x at c0 he'
          generalize m[q] = y at d0 he'
          go_wp2_with fail
          go_quiet (fail)
          go_wp2
          go_ret
          exact ⟨ret_bool HN.out.symm, below_drewN HB.out _⟩
      · have hql : q = l.length := by omega
        have HN : Hid (decide (l = m) = true) := by
          show decide (l = m) = true
          rw [decide_eq_true_iff]
          have := HT.out
          rw [hql, List.take_length, HLEN.out, List.take_length] at this
          exact this
        clear hql
        go_wp2
        go_ret
        exact ⟨ret_bool HN.out.symm, HB.out⟩
  · have HN : Hid (decide (l = m) = false) := by
      show decide (l = m) = false
      rw [decide_eq_false_iff_not]
      intro e
      exact hlen (by rw [e])
    have hlen' : ((l.length : Int) == (m.length : Int)) = false := by simp; omega
    clear hl hm
    go_enter Tryz.func20, Tryz.ntmps20
    go_wp2
    go_ret
    exact ⟨ret_bool HN.out.symm, Below.refl _ _⟩
theorem sameTexts_yes {l : List (List UInt8)} {w : World} {b1 b2 : Nat} {v u : Value} (hv : w.ownsRow b1 9 1 v l.length (l.map sv)) (hu : w.ownsRow b2 9 1 u l.length (l.map sv)) (hl : l.length ≤ 100000) :
    Calls Tryz.prog 20 #[v, u] w fun e w' => e = .returned (.bool true) ∧ Below w.heap.size w w' := by
  obtain ⟨a, ca, rfl, ha, _, _⟩ := texts_of_owns hv
  obtain ⟨b, cb, rfl, hb, _, _⟩ := texts_of_owns hu
  have := sameTexts_at l l a b ca cb w ha hb hl hl
  rwa [show decide (l = l) = true by simp] at this

theorem firstK_cons (s : List UInt8) (l : List (List UInt8)) : firstK (s :: l) = if beginK s ≠ 0 then beginK s else firstK l := rfl
theorem firstK_app : ∀ (a b : List (List UInt8)), firstK (a ++ b) = if firstK a ≠ 0 then firstK a else firstK b
  | [], b => by simp [firstK]
  | s :: a, b => by
    show firstK (s :: (a ++ b)) = _
    by_cases h : beginK s = 0
    · have e : ∀ l, firstK (s :: l) = firstK l := fun l => by rw [firstK_cons, if_neg (by rw [h]; simp)]
      rw [e, e]
      exact firstK_app a b
    · have e : ∀ l, firstK (s :: l) = beginK s := fun l => by rw [firstK_cons, if_pos h]
      rw [e, e, if_pos h]
theorem firstK_take_ne {t : List (List UInt8)} {k : Nat} (h : firstK (t.take k) ≠ 0) : firstK t = firstK (t.take k) := by
  have := firstK_app (t.take k) (t.drop k)
  rwa [List.take_append_drop, if_pos h] at this
theorem firstK_take_next {t : List (List UInt8)} {k : Nat} (hk : k < t.length) (h : firstK (t.take k) = 0) : firstK (t.take (k + 1)) = beginK t[k] := by
  rw [List.take_succ_eq_append_getElem hk, firstK_app, if_neg (by rw [h]; simp), firstK_cons]
  by_cases h1 : beginK t[k] = 0
  · rw [if_neg (by rw [h1]; simp), h1]; rfl
  · rw [if_pos h1]
theorem rq_at {l : List Ru} {k : Nat} (hk : k < l.length) : (l.map Ru.q)[k]'(by simpa using hk) = l[k].q := by simp
theorem rulesF_is_at {l : List Ru} {k : Nat} {z : Nat} (hn : ¬ 10 < l.length) (hk : k < l.length) (hz : ∀ j (h : j < l.length), j < k → ruleK l[j].q = 0) (h : ruleK l[k].q = z) (h0 : z ≠ 0) : rulesF (l.map Ru.q) = (z, (k : Int)) := by
  have := rulesF_at (l := l.map Ru.q) (k := k) (by simpa using hn) (by simpa using hk) (fun j hj hjk => by rw [rq_at (by simpa using hj)]; exact hz j _ hjk) (by rw [rq_at hk, h]; exact h0)
  rwa [rq_at hk, h] at this
theorem rulesF_is_end {l : List Ru} (hn : ¬ 10 < l.length) (hz : ∀ j (h : j < l.length), ruleK l[j].q = 0) : rulesF (l.map Ru.q) = (0, -1) :=
  rulesF_end (by simpa using hn) fun j hj => by rw [rq_at (by simpa using hj)]; exact hz j _

set_option maxRecDepth 100000 in
set_option maxHeartbeats 8000000 in
theorem rulesFault_any (l : List Ru) (a : Option Addr) (ca : Nat) (w : World) (hl : RulesAt w a l) (hs : RuSmall l) :
    Calls Tryz.prog 130 #[.slice a l.length ca] w fun e w' => e = .returned (.agg #[.int .i64 ((rulesF (l.map Ru.q)).1 : Nat), .int .i64 (rulesF (l.map Ru.q)).2]) ∧ Below w.heap.size w w' := by
  have hfew := hs.few
  by_cases hlong : 10 < l.length
  · have HT : Hid (rulesF (l.map Ru.q) = (8, -1)) := rulesF_long (by simpa using hlong)
    have h10 : (10 : Int) < (l.length : Int) := by omega
    clear hl
    go_enter Tryz.func130, Tryz.ntmps130
    go_wp2_with fail
    refine (rBare_any 8 _).mono ?_
    rintro e w1 ⟨rfl, hb⟩
    obtain ⟨s0, s1, s2, s3, s4⟩ := slot_two (w := w) (hb.mono (by simp))
    clear hb
    go_wp2
    obtain ⟨q0, q1, q2⟩ := slot_set (w := w) (.int .i64 8) (.int .i64 (-1)) s0 s1 s4
    exact bodyPost_ret (v := .agg #[.int .i64 8, .int .i64 (-1)]) (by simp [results, Tryz.results130, go_sem, q0, q1]) rfl ⟨by rw [HT.out]; rfl, q2⟩
  · have h10 : ¬ (10 : Int) < (l.length : Int) := by omega
    have HL := Lib.hid hl
    have HS := Lib.hid hs
    clear hl hs
    go_enter Tryz.func130, Tryz.ntmps130
    go_wp2_with fail
    go_loopw [3] (fun i wr => ∃ q : Nat, q ≤ l.length ∧ i = .int .i64 q ∧ (∀ j (h : j < l.length), j < q → ruleK l[j].q = 0) ∧ Below (w.heap.size + 1) (w.alloc (.cells #[.int .i64 0, .int .i64 0] 50)) wr) (fun i _ => l.length - (intOf i).toNat)
    case atStart => exact ⟨0, by omega, rfl, fun _ _ h => by omega, Below.refl _ _⟩
    case round =>
      obtain ⟨q, hq, rfl, hz, hb⟩ := hrel
      have HB := Lib.hid hb
      have HZ := Lib.hid hz
      have hsz := hb.size
      have HW := Lib.hid (slot_two hb).2.2.2.2
      clear hb hz
      by_cases hlt : q < l.length
      · have hlt' : (q : Int) < (l.length : Int) := by omega
        have hlw := HL.out.below HW.out
        have HRL := Lib.hid (hlw.each _ (List.getElem_mem hlt)).texts
        obtain ⟨b, o, rfl, c0, c1⟩ := hlw.at hlt
        have hfl := HS.out.begin _ (List.getElem_mem hlt)
        have hnl := HS.out.many _ (List.getElem_mem hlt)
        have HTX := Lib.hid (HS.out.texts _ (List.getElem_mem hlt))
        have HAT := Lib.hid (fun z h h0 => rulesF_is_at (l := l) (k := q) (z := z) hlong hlt HZ.out h h0)
        have HNX : Hid (ruleK l[q].q = 0 → ∀ j (h : j < l.length), j < q + 1 → ruleK l[j].q = 0) := by
          intro hc j hj hjq
          by_cases e : j = q
          · subst e; exact hc
          · exact HZ.out j hj (by omega)
        clear hlw
        generalize l[q] = r at c0 c1 hfl hnl HRL HTX HAT HNX
        obtain ⟨f, t, ta, tc⟩ := r
        simp only at c0 c1 hfl hnl HRL HTX
        obtain ⟨z, hz⟩ : ∃ z : Int, ((beginK f : Nat) : Int) = z := ⟨_, rfl⟩
        by_cases h1 : beginK f = 0
        · obtain rfl : z = 0 := by rw [← hz, h1]; rfl
          have HZ1 := Lib.hid hz
          clear hz
          by_cases h8 : 8 < t.length
          · have HF := Lib.hid (HAT.out 8 (ruleK_full h1 h8) (by decide))
            have h8' : (8 : Int) < (t.length : Int) := by omega
            clear h1 h8
            go_wp2_with fail
            refine (beginError_is f _ _ (by omega) HZ1.out).mono ?_
            rintro e w1 ⟨rfl, hb1⟩
            have HB1 := HB.out.trans (hb1.mono (by rw [World.size_alloc] at hsz; omega))
            obtain ⟨s0, s1, s2, s3, s4⟩ := slot_two HB1
            have d1 : w1.cell? ⟨b, o + q * 2 + 1, none⟩ = some (.slice ta t.length tc) := (hb1.cell (p := ⟨b, o + q * 2 + 1, none⟩) (block_lt_of_cell c1)).trans c1
            clear hb1 HB1 c0 c1
            go_wp2_with fail
            refine wp_loop_rounds 1 ?_
            rw [rounds_succ]
            go_wp2
            all_goals
              obtain ⟨q0, q1, q2⟩ := slot_set (w := w) (.int .i64 8) (.int .i64 q) s0 s1 s4
              exact bodyPost_ret (v := .agg #[.int .i64 8, .int .i64 q]) (by simp [results, Tryz.results130, go_sem, q0, q1]) rfl ⟨by rw [HF.out]; rfl, q2⟩
          · have HK := Lib.hid (ruleK_to (q := (f, t)) h1 h8)
            have h8' : ¬ (8 : Int) < (t.length : Int) := by omega
            clear h1
            go_wp2_with fail
            refine (beginError_is f _ _ (by omega) HZ1.out).mono ?_
            rintro e w1 ⟨rfl, hb1⟩
            have HB1 := Lib.hid (HB.out.trans (hb1.mono (by rw [World.size_alloc] at hsz; omega)))
            have HW1 := Lib.hid hb1
            have d1 : w1.cell? ⟨b, o + q * 2 + 1, none⟩ = some (.slice ta t.length tc) := (hb1.cell (p := ⟨b, o + q * 2 + 1, none⟩) (block_lt_of_cell c1)).trans c1
            clear hb1
            go_wp2_with fail
            obtain ⟨wo, hwo⟩ : ∃ wo, wo = wr := ⟨_, rfl⟩
            rw [← hwo] at HB HW HRL c0 c1 HW1 hsz
            clear hwo
            go_loopw [4, 5] (fun e i wr => ∃ k : Nat, k ≤ t.length ∧ i = .int .i64 k ∧ e = .int .i64 ((firstK (t.take k) : Nat) : Int) ∧ Below wo.heap.size wo wr) (fun _ i _ => t.length - (intOf i).toNat)
            case atStart => exact ⟨0, by omega, rfl, by simp [firstK], HW1.out⟩
            case round =>
              obtain ⟨k, hk, rfl, rfl, hb2⟩ := hrel
              have HB2 := Lib.hid (HB.out.trans (hb2.mono (by rw [World.size_alloc] at hsz; omega)))
              have HW2 := Lib.hid hb2
              have e1 : wr.cell? ⟨b, o + q * 2 + 1, none⟩ = some (.slice ta t.length tc) := (hb2.cell (p := ⟨b, o + q * 2 + 1, none⟩) (block_lt_of_cell c1)).trans c1
              obtain ⟨s0, s1, s2, s3, s4⟩ := slot_two HB2.out
              clear hb2
              by_cases h0 : firstK (t.take k) = 0
              · by_cases hkl : k < t.length
                · have hkl' : (k : Int) < (t.length : Int) := by omega
                  have HN := Lib.hid (firstK_take_next hkl h0)
                  obtain ⟨b2, o2, rfl, x0⟩ := (HRL.out.below HW2.out).at hkl
                  have hxl := HTX.out _ (List.getElem_mem hkl)
                  rw [h0]
                  clear h0
                  generalize t[k] = x at x0 hxl HN
                  go_wp2_with fail
                  refine (beginError_is x _ _ (by omega) rfl).mono ?_
                  rintro e w3 ⟨rfl, hb3⟩
                  have HW3 := Lib.hid (HW2.out.trans (hb3.mono HW2.out.size))
                  clear hb3
                  go_wp2
                  go_roundw
                  case rel => exact ⟨k + 1, by omega, by go_num, by rw [HN.out], HW3.out⟩
                  case measure => simp [intOf]; omega
                · obtain rfl : k = t.length := by omega
                  have HC := Lib.hid (HNX.out (HK.out.trans (by rw [List.take_length] at h0; exact h0)))
                  have hkl' : ¬ (t.length : Int) < (t.length : Int) := by omega
                  rw [h0]
                  clear h0
                  go_wp2
                  go_roundw
                  case rel => exact ⟨q + 1, by omega, by go_num, HC.out, HB2.out⟩
                  case measure => simp [intOf]; omega
              · have HF := Lib.hid (HAT.out (firstK (t.take k)) (HK.out.trans (firstK_take_ne h0)) h0)
                have hn0 : (((firstK (t.take k) : Nat) : Int) == 0) = false := by simp; exact h0
                have hp0 : (0 : Int) < ((firstK (t.take k) : Nat) : Int) := by omega
                clear h0
                generalize firstK (t.take k) = z at HF hn0 hp0
                go_wp2
                all_goals
                  obtain ⟨q0, q1, q2⟩ := slot_set (w := w) (.int .i64 (z : Int)) (.int .i64 q) s0 s1 s4
                  exact bodyPost_ret (v := .agg #[.int .i64 (z : Int), .int .i64 q]) (by simp [results, Tryz.results130, go_sem, q0, q1]) rfl ⟨by rw [HF.out], q2⟩
        · have HF := Lib.hid (HAT.out (beginK f) (ruleK_from h1) h1)
          have hn0 : (z == 0) = false := by rw [← hz]; simp; exact h1
          have hp0 : (0 : Int) < z := by omega
          have HZ1 := Lib.hid hz
          clear hz h1
          go_wp2_with fail
          refine (beginError_is f _ _ (by omega) HZ1.out).mono ?_
          rintro e w1 ⟨rfl, hb1⟩
          have HB1 := HB.out.trans (hb1.mono (by rw [World.size_alloc] at hsz; omega))
          obtain ⟨s0, s1, s2, s3, s4⟩ := slot_two HB1
          have d1 : w1.cell? ⟨b, o + q * 2 + 1, none⟩ = some (.slice ta t.length tc) := (hb1.cell (p := ⟨b, o + q * 2 + 1, none⟩) (block_lt_of_cell c1)).trans c1
          clear hb1 HB1 c0 c1
          go_wp2_with fail
          refine wp_loop_rounds 1 ?_
          rw [rounds_succ]
          go_wp2
          all_goals
            obtain ⟨q0, q1, q2⟩ := slot_set (w := w) (.int .i64 z) (.int .i64 q) s0 s1 s4
            exact bodyPost_ret (v := .agg #[.int .i64 z, .int .i64 q]) (by simp [results, Tryz.results130, go_sem, q0, q1]) rfl ⟨by rw [HF.out, ← HZ1.out], q2⟩
      · obtain rfl : q = l.length := by omega
        have HF : Hid (rulesF (l.map Ru.q) = (0, -1)) := rulesF_is_end hlong fun j hj => HZ.out j hj hj
        go_wp2_with fail
        refine (rFine_any _).mono ?_
        rintro e w1 ⟨rfl, hb1⟩
        have HB1 := HB.out.trans (hb1.mono (by rw [World.size_alloc] at hsz; omega))
        obtain ⟨s0, s1, s2, s3, s4⟩ := slot_two HB1
        clear hb1 HB1
        go_wp2
        obtain ⟨q0, q1, q2⟩ := slot_set (w := w) (.int .i64 0) (.int .i64 (-1)) s0 s1 s4
        exact bodyPost_ret (v := .agg #[.int .i64 0, .int .i64 (-1)]) (by simp [results, Tryz.results130, go_sem, q0, q1]) rfl ⟨by rw [HF.out]; rfl, q2⟩
end Go.Proofs.YtmcfkoenpikldaaGreatDoor
/-
  The law package's LongRules and OwnRules: over this seat's translation.
-/
namespace Go.Proofs.YtmcfkoenpikldaaGreatDoor
open Go.RowKit Go.Shelf

def longT (t : List UInt8) : Bool := decide (120 < t.length)
def longRu (r : Ru) : Bool := decide (120 < r.f.length) || decide (10 < r.t.length) || r.t.any longT
def longR (l : List Ru) : Nat := if 12 < l.length then 1 else if l.any longRu then 1 else 0
theorem longR_or (l : List Ru) : (longR l : Int) = 0 ∨ (longR l : Int) = 1 := by
  unfold longR
  repeat' split
  all_goals simp
theorem longR_small {l : List Ru} (h : (longR l : Int) = 0) : RuSmall l ∧ l.length ≤ 12 ∧ ∀ r ∈ l, r.t.length ≤ 10 ∧ ∀ t ∈ r.t, t.length ≤ 120 := by
  unfold longR at h
  split at h
  · simp at h
  · split at h
    · simp at h
    · rename_i h1 h2
      have h3 : ∀ r ∈ l, r.f.length ≤ 120 ∧ r.t.length ≤ 10 ∧ ∀ t ∈ r.t, t.length ≤ 120 := by
        intro r hr
        have : longRu r = false := by
          cases hc : longRu r with
          | false => rfl
          | true => exact absurd (List.any_eq_true.2 ⟨r, hr, hc⟩) h2
        simp only [longRu, Bool.or_eq_false_iff, decide_eq_false_iff_not, List.any_eq_false, longT, decide_eq_true_eq] at this
        exact ⟨by omega, by omega, fun t ht => by have := this.2 t ht; omega⟩
      exact ⟨⟨by omega, fun r hr => by have := (h3 r hr).1; omega, fun r hr => by have := (h3 r hr).2.1; omega, fun r hr t ht => by have := (h3 r hr).2.2 t ht; omega⟩, by omega, fun r hr => (h3 r hr).2⟩

set_option maxRecDepth 100000 in
set_option maxHeartbeats 4000000 in
theorem longRules_any (l : List Ru) (a : Option Addr) (ca : Nat) (w : World) (hl : RulesAt w a l) (hm : l.length ≤ maxLen) (hf : ∀ r ∈ l, r.f.length ≤ maxLen ∧ r.t.length ≤ maxLen ∧ ∀ t ∈ r.t, t.length ≤ maxLen) :
    Calls Tryz.prog 58 #[.slice a l.length ca] w fun e w' => e = .returned (.int .i64 (longR l)) ∧ w' = w := by
  unfold maxLen at hm hf
  by_cases hlong : 12 < l.length
  · have HT : Hid (longR l = 1) := by show longR l = 1; unfold longR; rw [if_pos hlong]
    have h12 : (12 : Int) < (l.length : Int) := by omega
    clear hl hf
    go_enter Tryz.func58, Tryz.ntmps58
    go_wp2
    go_ret
    exact ⟨by rw [HT.out]; rfl, rfl⟩
  · have h12 : ¬ (12 : Int) < (l.length : Int) := by omega
    have HM := Lib.hid hlong
    have HL := Lib.hid hl
    have HF := Lib.hid hf
    clear hl hf hlong
    go_enter Tryz.func58, Tryz.ntmps58
    go_wp2_with fail
    go_loopw [3] (fun i wr => ∃ q : Nat, q ≤ l.length ∧ i = .int .i64 q ∧ (l.take q).any longRu = false ∧ wr = w) (fun i _ => l.length - (intOf i).toNat)
    case atStart => exact ⟨0, by omega, rfl, by simp, rfl⟩
    case round =>
      obtain ⟨q, hq, rfl, hn, rfl⟩ := hrel
      have HN := Lib.hid hn
      clear hn
      by_cases hlt : q < l.length
      · have hlt' : (q : Int) < (l.length : Int) := by omega
        have HRL := Lib.hid (HL.out.each _ (List.getElem_mem hlt)).texts
        obtain ⟨b, o, rfl, c0, c1⟩ := HL.out.at hlt
        have hbound := HF.out _ (List.getElem_mem hlt)
        have HYES : Hid (longRu l[q] = true → longR l = 1) := by
          intro h
          unfold longR
          rw [if_neg HM.out, if_pos (List.any_eq_true.2 ⟨_, List.getElem_mem hlt, h⟩)]
        have HNO : Hid (longRu l[q] = false → (l.take (q + 1)).any longRu = false) := by
          intro h
          rw [List.take_succ_eq_append_getElem hlt, List.any_append, HN.out]
          simp only [List.any_cons, List.any_nil, h, Bool.or_false]
        generalize l[q] = r at c0 c1 hbound HRL HYES HNO
        obtain ⟨f, t, ta, tc⟩ := r
        simp only at c0 c1 hbound HRL
        obtain ⟨hfl, htl, htt⟩ := hbound
        have HTT := Lib.hid htt
        clear htt
        by_cases h1 : 120 < f.length
        · have HY := Lib.hid (HYES.out (by simp [longRu, h1]))
          have h1' : (120 : Int) < (f.length : Int) := by omega
          clear h1
          go_wp2
          go_ret
          exact ⟨by rw [HY.out]; rfl, rfl⟩
        · have h1' : decide ((120 : Int) < (f.length : Int)) = false := by simp; omega
          by_cases h2 : 10 < t.length
          · have HY := Lib.hid (HYES.out (by simp [longRu, h2]))
            have h2' : (10 : Int) < (t.length : Int) := by omega
            clear h1 h2
            go_wp2
            go_ret
            exact ⟨by rw [HY.out]; rfl, rfl⟩
          · have h2' : decide ((10 : Int) < (t.length : Int)) = false := by simp; omega
            have HT1 : Hid (t.any longT = true → longR l = 1) := fun h => HYES.out (by simp [longRu, h])
            have HT0 : Hid (t.any longT = false → (l.take (q + 1)).any longRu = false) := fun h => HNO.out (by simp [longRu, h]; omega)
            clear h1 h2
            go_wp2_with fail
            go_loopw [4] (fun i wq => ∃ k : Nat, k ≤ t.length ∧ i = .int .i64 k ∧ (t.take k).any longT = false ∧ wq = wr) (fun i _ => t.length - (intOf i).toNat)
            case atStart => exact ⟨0, by omega, rfl, by simp, rfl⟩
            case round =>
              obtain ⟨k, hk, rfl, hn2, rfl⟩ := hrel
              have HN2 := Lib.hid hn2
              clear hn2
              by_cases hkl : k < t.length
              · have hkl' : (k : Int) < (t.length : Int) := by omega
                obtain ⟨b2, o2, rfl, x0⟩ := HRL.out.at hkl
                have hxl := HTT.out _ (List.getElem_mem hkl)
                by_cases h3 : 120 < t[k].length
                · have HY := Lib.hid (HT1.out (List.any_eq_true.2 ⟨_, List.getElem_mem hkl, by simp [longT, h3]⟩))
                  have h3' : (120 : Int) < (t[k].length : Int) := by omega
                  clear h3
                  generalize t[k] = x at x0 hxl h3'
                  go_wp2
                  go_ret
                  exact ⟨by rw [HY.out]; rfl, rfl⟩
                · have HN3 : Hid ((t.take (k + 1)).any longT = false) := by
                    show List.any _ _ = false
                    rw [List.take_succ_eq_append_getElem hkl, List.any_append, HN2.out]
                    simp only [List.any_cons, List.any_nil, Bool.or_false, longT, Bool.false_or, decide_eq_false_iff_not]
                    exact h3
                  have h3' : ¬ (120 : Int) < (t[k].length : Int) := by omega
                  clear h3
                  generalize t[k] = x at x0 hxl h3'
                  go_wp2
                  go_roundw
                  case rel => exact ⟨k + 1, by omega, by go_num, HN3.out, trivial⟩
                  case measure => simp [intOf]; omega
              · obtain rfl : k = t.length := by omega
                have HNN := Lib.hid (HT0.out (by have := HN2.out; rwa [List.take_length] at this))
                go_wp2
                go_roundw
                case rel => exact ⟨q + 1, by omega, by go_num, HNN.out, trivial⟩
                case measure => simp [intOf]; omega
      · obtain rfl : q = l.length := by omega
        have HT : Hid (longR l = 0) := by
          have := HN.out
          rw [List.take_length] at this
          show longR l = 0
          unfold longR
          rw [if_neg HM.out, if_neg (by rw [this]; decide)]
        go_wp2
        go_ret
        exact ⟨by rw [HT.out]; rfl, rfl⟩
theorem longRules_is (l : List Ru) (a : Option Addr) (ca : Nat) (c : Int) (w : World) (hl : RulesAt w a l) (hm : l.length ≤ maxLen) (hf : ∀ r ∈ l, r.f.length ≤ maxLen ∧ r.t.length ≤ maxLen ∧ ∀ t ∈ r.t, t.length ≤ maxLen) (h : (longR l : Int) = c) :
    Calls Tryz.prog 58 #[.slice a l.length ca] w fun e w' => e = .returned (.int .i64 c) ∧ w' = w := by
  have := longRules_any l a ca w hl hm hf
  rwa [h] at this
end Go.Proofs.YtmcfkoenpikldaaGreatDoor
/-
  The document's answer for what is wanted: WantError: a contract, over this seat's translation.
-/
namespace Go.Proofs.YtmcfkoenpikldaaGreatDoor
open Go.RowKit Go.Shelf

abbrev kindsObj : Obj := .cells #[.string ⟨#[112, 108, 97, 105, 110]⟩, .string ⟨#[112, 97, 99, 107]⟩, .string ⟨#[112, 114, 101, 115, 115]⟩] 9
theorem wantKinds_cells (W : World) : ∀ j (h : j < ([[112, 108, 97, 105, 110], [112, 97, 99, 107], [112, 114, 101, 115, 115]] : List (List UInt8)).length), (W.alloc kindsObj).cell? ⟨W.heap.size, 0 + j, none⟩ = some (.string ⟨(([[112, 108, 97, 105, 110], [112, 97, 99, 107], [112, 114, 101, 115, 115]] : List (List UInt8))[j]).toArray⟩) := by
  intro j hj
  have e := heap_new W kindsObj
  generalize W.alloc kindsObj = V at e ⊢
  rcases j with _ | _ | _ | j
  · simp [World.cell?, e]
  · simp [World.cell?, e]
  · simp [World.cell?, e]
  · simp at hj
    omega
theorem wantKinds_in (k : List UInt8) (W : World) : Calls Tryz.prog 126 #[.string ⟨k.toArray⟩, .slice (some ⟨W.heap.size, 0, none⟩) 3 3] (W.alloc kindsObj) fun e w' => e = .returned (.bool (kindW k)) ∧ w' = W.alloc kindsObj := by
  have h := inTexts_any k W.heap.size 0 3 [[112, 108, 97, 105, 110], [112, 97, 99, 107], [112, 114, 101, 115, 115]] (W.alloc kindsObj) (by decide) (wantKinds_cells W)
  have hk : decide (k ∈ [[112, 108, 97, 105, 110], [112, 97, 99, 107], [112, 114, 101, 115, (115 : UInt8)]]) = kindW k := by
    rw [← List.contains_eq_mem]
    simp only [kindW, List.contains_cons, List.contains_nil, Bool.or_false, Bool.or_assoc]
  rw [hk] at h
  exact h

theorem refIsS_any (n : Int) (w : World) : Calls Tryz.prog 153 #[.int .i64 n] w fun e w' => e = .returned (.bool (isS n)) ∧ w' = w := isSum_any n w

set_option maxRecDepth 100000 in
set_option maxHeartbeats 4000000 in
theorem wantError_any (n u k : List UInt8) (s m : Int) (w : World) (hn : n.length ≤ 90000) (hu : u.length ≤ 90000) :
    Calls Tryz.prog 97 #[wv ⟨n, u, k, s, m⟩] w fun e w' => e = .returned (.int .i64 (wantCode ⟨n, u, k, s, m⟩)) ∧ Below w.heap.size w w' := by
  have HB0 : Hid (Below w.heap.size w (w.alloc (wo n u k s m))) := (Below.refl _ _).alloc (Nat.le_refl _) _
  have HW0 := Lib.hid (WantAt.new w n u k s m)
  go_enter Tryz.func97, Tryz.ntmps97
  cases hp : isPart n with
  | false =>
    have HC : Hid (wantCode ⟨n, u, k, s, m⟩ = 5) := want_name hp
    go_wp2_with fail
    refine (refIsPart_is n false _ (by omega) hp).mono ?_
    rintro e w' ⟨rfl, rfl⟩
    go_wp2
    go_ret
    exact ⟨by rw [HC.out]; rfl, HB0.out⟩
  | true =>
    have HP := Lib.hid hp
    go_wp2_with fail
    refine (refIsPart_is n true _ (by omega) hp).mono ?_
    rintro e w' ⟨rfl, rfl⟩
    obtain ⟨c, hc⟩ : ∃ c, checkK u = c := ⟨_, rfl⟩
    obtain ⟨z, hz⟩ : ∃ z : Int, ((c : Nat) : Int) = z := ⟨_, rfl⟩
    have hcz : ((checkK u : Nat) : Int) = z := by rw [hc, hz]
    clear hp
    go_wp2_with fail
    refine (linkError_is u z _ hu hcz).mono ?_
    rintro e w2 ⟨rfl, hb2⟩
    have HW2 := Lib.hid (HW0.out.below hb2)
    have HB2 := Lib.hid (HB0.out.trans (hb2.mono HB0.out.size))
    clear hb2 HW0 HB0
    by_cases hpos : 0 < c
    · have HC : Hid (((wantCode ⟨n, u, k, s, m⟩ : Nat) : Int) = z) := by
        show ((wantCode ⟨n, u, k, s, m⟩ : Nat) : Int) = z
        obtain ⟨j, rfl⟩ : ∃ j, c = j + 1 := ⟨c - 1, by omega⟩
        rw [want_link HP.out hc, hz]
      have hz0 : 0 < z := by omega
      clear hc hz hcz hpos
      go_wp2
      go_ret
      exact ⟨by rw [HC.out]; rfl, HB2.out⟩
    · obtain rfl : c = 0 := by omega
      obtain rfl : z = 0 := by omega
      have HK := Lib.hid hc
      clear hc hz hcz hpos
      obtain ⟨c0, c1, c2, c3, c4⟩ := HW2.out
      go_wp2_with fail
      refine (wantKinds_in k _).mono ?_
      rintro e w3 ⟨rfl, hw3⟩
      have hb3 : Below w2.heap.size w2 w3 := by
        rw [hw3]
        exact (Below.refl _ _).alloc (Nat.le_refl _) _
      have HW3 := Lib.hid (HW2.out.below hb3)
      have HB3 := Lib.hid (HB2.out.trans (hb3.mono HB2.out.size))
      clear hb3 hw3 HW2 HB2 c0 c1 c2 c3 c4
      cases hkk : kindW k with
      | false =>
        have HC : Hid (wantCode ⟨n, u, k, s, m⟩ = 4) := want_kind HP.out HK.out hkk
        clear hkk
        go_wp2
        go_ret
        exact ⟨by rw [HC.out]; rfl, HB3.out⟩
      | true =>
        have HKK := Lib.hid hkk
        obtain ⟨c0, c1, c2, c3, c4⟩ := HW3.out
        clear hkk
        by_cases hs0 : s < 0
        · have HC : Hid (wantCode ⟨n, u, k, s, m⟩ = 2) := want_strip HP.out HK.out HKK.out (.inl hs0)
          go_wp2
          go_ret
          exact ⟨by rw [HC.out]; rfl, HB3.out⟩
        · have hs0' : decide (s < 0) = false := by simp; omega
          by_cases hs6 : 6 < s
          · have HC : Hid (wantCode ⟨n, u, k, s, m⟩ = 2) := want_strip HP.out HK.out HKK.out (.inr hs6)
            clear hs0
            go_wp2
            go_ret
            exact ⟨by rw [HC.out]; rfl, HB3.out⟩
          · have hs6' : decide (6 < s) = false := by simp; omega
            have HS : Hid (¬ (s < 0 ∨ 6 < s)) := fun h => h.elim hs0 hs6
            clear hs0 hs6
            by_cases hsh : s ≠ 0 ∧ k = kPlain
            · have HC : Hid (wantCode ⟨n, u, k, s, m⟩ = 3) := want_shape HP.out HK.out HKK.out HS.out hsh
              obtain ⟨h0, h1⟩ := hsh
              subst h1
              unfold kPlain at c2
              have h0' : ¬ s = 0 := h0
              clear h0
              go_wp2
              go_ret
              exact ⟨by rw [HC.out]; rfl, HB3.out⟩
            · have HC : Hid (wantCode ⟨n, u, k, s, m⟩ = if isS m = false then 2 else 0) := want_sum HP.out HK.out HKK.out HS.out hsh
              by_cases hk1 : k = kPlain
              · have h0 : s = 0 := by
                  by_cases h : s = 0
                  · exact h
                  · exact absurd ⟨h, hk1⟩ hsh
                subst h0
                subst hk1
                unfold kPlain at c2
                clear hsh hs0' hs6'
                go_wp2_with fail
                refine (refIsS_any m _).mono ?_
                rintro e w' ⟨rfl, rfl⟩
                cases hm : isS m with
                | false =>
                  have HM : Hid ((if isS m = false then 2 else 0) = 2) := by show (if isS m = false then 2 else 0) = 2; rw [if_pos hm]
                  clear hm
                  go_wp2
                  go_ret
                  exact ⟨by rw [HC.out, HM.out]; rfl, HB3.out⟩
                | true =>
                  have HM : Hid ((if isS m = false then 2 else 0) = 0) := by show (if isS m = false then 2 else 0) = 0; rw [if_neg (by simp [hm])]
                  clear hm
                  go_wp2
                  go_ret
                  exact ⟨by rw [HC.out, HM.out]; rfl, HB3.out⟩
              · have hk2 : (k == [112, 108, 97, 105, 110]) = false := by
                  rw [beq_eq_false_iff_ne]
                  exact hk1
                clear hsh hk1
                go_wp2_with fail
                refine (refIsS_any m _).mono ?_
                rintro e w' ⟨rfl, rfl⟩
                cases hm : isS m with
                | false =>
                  have HM : Hid ((if isS m = false then 2 else 0) = 2) := by show (if isS m = false then 2 else 0) = 2; rw [if_pos hm]
                  clear hm
                  go_wp2
                  go_ret
                  exact ⟨by rw [HC.out, HM.out]; rfl, HB3.out⟩
                | true =>
                  have HM : Hid ((if isS m = false then 2 else 0) = 0) := by show (if isS m = false then 2 else 0) = 0; rw [if_neg (by simp [hm])]
                  clear hm
                  go_wp2
                  go_ret
                  exact ⟨by rw [HC.out, HM.out]; rfl, HB3.out⟩
theorem wantError_is (n u k : List UInt8) (s m : Int) (z : Int) (w : World) (hn : n.length ≤ 90000) (hu : u.length ≤ 90000) (h : ((wantCode ⟨n, u, k, s, m⟩ : Nat) : Int) = z) :
    Calls Tryz.prog 97 #[wv ⟨n, u, k, s, m⟩] w fun e w' => e = .returned (.int .i64 z) ∧ Below w.heap.size w w' := by
  have := wantError_any n u k s m w hn hu
  rwa [h] at this
end Go.Proofs.YtmcfkoenpikldaaGreatDoor
/-
  The document's answer for mirrors: WaysOf: a contract, over this seat's translation.
-/
namespace Go.Proofs.YtmcfkoenpikldaaGreatDoor
open Go.RowKit Go.Shelf

theorem rulesFault_is (l : List Ru) (a : Option Addr) (ca : Nat) (c i : Int) (w : World) (hl : RulesAt w a l) (hs : RuSmall l) (hc : (((rulesF (l.map Ru.q)).1 : Nat) : Int) = c) (hi : (rulesF (l.map Ru.q)).2 = i) :
    Calls Tryz.prog 130 #[.slice a l.length ca] w fun e w' => e = .returned (.agg #[.int .i64 c, .int .i64 i]) ∧ Below w.heap.size w w' := by
  have := rulesFault_any l a ca w hl hs
  rwa [hc, hi] at this
theorem begins_same (s q : List UInt8) (r : Bool) (w : World) (hs : s.length ≤ 200000) (hq : q.length ≤ 200000) (h : Lib.hasPrefix s q = r) : Calls Tryz.prog 131 #[.string ⟨s.toArray⟩, .string ⟨q.toArray⟩] w fun e w' => e = .returned (.bool r) ∧ w' = w := by
  have h0 := begins_any s q w hs hq
  rwa [h] at h0
theorem swapOf_is (a b s x : List UInt8) (c : Nat) (z : Int) (w : World) (ha : a.length ≤ 40000) (hb : b.length ≤ 40000) (hs : s.length ≤ 40000) (h : swapK a b s = (x, c)) (hz : (c : Int) = z) :
    Calls Tryz.prog 132 #[.string ⟨a.toArray⟩, .string ⟨b.toArray⟩, .string ⟨s.toArray⟩] w fun e w' => e = .returned (.tuple #[.string ⟨x.toArray⟩, .int .i64 z]) ∧ Below w.heap.size w w' := by
  have := swapOf_any a b s w ha hb hs
  rwa [h, hz] at this
theorem from_some {q : Q} (h : ruleK q = 0) : 0 < q.1.length := by
  have h1 := (ruleK_zero h).1
  cases hq : q.1 with
  | nil => rw [hq] at h1; exact absurd h1 (by decide +kernel)
  | cons c r => simp
/-- What WaysOf hands back, behind its last two stores. -/
theorem row_slot {w : World} {b B : Nat} {e : TypeId} {size : Nat} {v : Value} {n : Nat} {xs : List Value} (x y : Value) (h : w.ownsRow B e size v n xs) (hb : b < B) : ((w.setCell ⟨b, 0, none⟩ x).setCell ⟨b, 1, none⟩ y).ownsRow B e size v n xs :=
  row_keep h fun g hg _ => heap_store _ _ (by omega)

set_option maxRecDepth 100000 in
set_option maxHeartbeats 16000000 in
theorem waysOf_any (s : List UInt8) (l : List Ru) (a : Option Addr) (ca : Nat) (w : World) (hl : RulesAt w a l) (hs : RuSmall l) (hsl : s.length ≤ 20000) :
    Calls Tryz.prog 70 #[.slice a l.length ca, .string ⟨s.toArray⟩] w fun e w' => (∃ v, e = .returned (.tuple #[v, .agg #[.int .i64 ((waysQ (l.map Ru.q) s).2.1 : Nat), .int .i64 (waysQ (l.map Ru.q) s).2.2]]) ∧ w'.ownsRow w.heap.size 9 1 v (waysQ (l.map Ru.q) s).1.length ((waysQ (l.map Ru.q) s).1.map sv)) ∧ Below w.heap.size w w' := by
  obtain ⟨i0, hi, hz0, hz1, hz2⟩ := info_parts Tryz.info9
  have hfew := hs.few
  have HL := Lib.hid hl
  have HS := Lib.hid hs
  clear hl hs
  have hmx : Tryz.prog.follows .mixedOrders = true := by kernel_rfl
  obtain ⟨c, hc⟩ : ∃ c : Int, (((rulesF (l.map Ru.q)).1 : Nat) : Int) = c := ⟨_, rfl⟩
  obtain ⟨i, hif⟩ : ∃ i : Int, (rulesF (l.map Ru.q)).2 = i := ⟨_, rfl⟩
  have HC := Lib.hid hc
  have HI := Lib.hid hif
  by_cases h0 : (rulesF (l.map Ru.q)).1 = 0
  · obtain rfl : c = 0 := by rw [← hc, h0]; rfl
    obtain rfl : i = -1 := by rw [← hif, rulesF_fine h0]
    obtain ⟨z, hz⟩ : ∃ z : Int, ((checkK s : Nat) : Int) = z := ⟨_, rfl⟩
    have HZ := Lib.hid hz
    by_cases h1 : checkK s = 0
    · obtain rfl : z = 0 := by rw [← hz, h1]; rfl
      have HW := Lib.hid (waysQ_ok (s := s) h0 h1)
      have HPOS : Hid (∀ r ∈ l, 0 < r.f.length) := fun r hr => from_some (q := r.q) ((rulesF_zero.1 h0).2 _ (List.mem_map_of_mem hr))
      clear h0 h1 hc hif hz
      go_enter Tryz.func70, Tryz.ntmps70
      go_wp2_with fail
      refine (rulesFault_is l a ca _ _ _ (HL.out.below ((Below.refl _ _).alloc (Nat.le_refl _) _)) HS.out HC.out HI.out).mono ?_
      rintro e w1 ⟨rfl, hb1⟩
      have HB1 := Lib.hid (show Below (w.heap.size + 1) (w.alloc (.cells #[.int .i64 0, .int .i64 0] 50)) w1 from hb1.mono (by simp))
      have hs1 : w.heap.size + 1 ≤ w1.heap.size := by have := hb1.size; simpa using this
      clear hb1

      obtain ⟨fb, hfb⟩ : ∃ fb, fb = w1.heap.size := ⟨_, rfl⟩
      obtain ⟨W1, hW1⟩ : ∃ W1, W1 = w1.alloc (.cells #[.int .i64 0, .int .i64 (-1)] 50) := ⟨_, rfl⟩
      have hT1 : Two W1 fb (.int .i64 0) (.int .i64 (-1)) 50 := by rw [hW1, hfb]; exact Two.new _ _ _ _
      have hR1 : Below (w.heap.size + 1) (w.alloc (.cells #[.int .i64 0, .int .i64 0] 50)) W1 := by rw [hW1]; exact HB1.out.alloc hs1 _
      have hsz1 : W1.heap.size = fb + 1 := by rw [hW1, World.size_alloc, hfb]
      obtain ⟨x0, x1, _, _⟩ := hT1.cells
      go_wp2_with fail
      rw [← hW1, ← hfb]
      have hnfb : w.heap.size < fb := by omega
      clear hW1 hfb hs1 HB1
      refine (linkError_is s _ _ (by omega) HZ.out).mono ?_
      rintro e w2 ⟨rfl, hb2⟩
      have hT2 := hT1.below hb2 hT1.lt
      have hR2 := hR1.trans (hb2.mono (by omega))
      have hsz2 : fb + 1 ≤ w2.heap.size := by have := hb2.size; omega
      clear hb2 hT1 hR1 hsz1 x0 x1
      go_wp2_with fail
      refine (rBare_any _ _).mono ?_
      rintro e w3 ⟨rfl, hb3⟩
      have hT3 := hT2.below hb3 hT2.lt
      have hR3 := hR2.trans (hb3.mono (by omega))
      have hsz3 : fb + 1 ≤ w3.heap.size := by have := hb3.size; omega
      clear hb3 hT2 hR2 hsz2
      obtain ⟨x0, x1, x2, x3⟩ := hT3.cells
      obtain ⟨y0, y1, y2, y3⟩ := (hT3.store (.int .i64 0) (.int .i64 (-1))).cells

      go_wp2_with fail
      obtain ⟨W4, hW4⟩ : ∃ W4, W4 = (w3.setCell ⟨fb, 0, none⟩ (.int .i64 0)).setCell ⟨fb, 1, none⟩ (.int .i64 (-1)) := ⟨_, rfl⟩
      rw [← hW4]
      have HF4 : Hid (Two W4 fb (.int .i64 0) (.int .i64 (-1)) 50) := by show Two W4 _ _ _ _; rw [hW4]; exact hT3.store _ _
      have HN4 : Hid (Two W4 w.heap.size (.int .i64 0) (.int .i64 0) 50) := by
        show Two W4 _ _ _ _
        rw [hW4]
        exact ((Two.new w _ _ _).below hR3 (by omega)).keep (heap_store _ _ (by omega))
      have HB4 : Hid (Below w.heap.size w W4) := by
        show Below _ _ W4
        rw [hW4]
        exact below_store _ _ (((Below.refl _ w).alloc (Nat.le_refl _) _).trans (hR3.mono (by omega))) (by omega)
      have hs4 : fb + 1 ≤ W4.heap.size := HF4.out.lt
      clear hW4 hT3 hR3 hsz3 x0 x1 x2 x3 y0 y1 y2 y3 w1 w2 w3
      go_loop [7, 8, 9] (fun av fv iv => ∃ q : Nat, q ≤ l.length ∧ iv = .int .i64 q ∧ ((av = .int .i64 (-1) ∧ fv = .int .i64 (-1) ∧ closestR s (l.take q) = noRu) ∨ ∃ k m : Nat, ∃ hk : k < l.length, av = .int .i64 k ∧ fv = .int .i64 m ∧ l[k].f.length = m ∧ closestR s (l.take q) = l[k])) (fun _ _ iv => l.length - (intOf iv).toNat)
      case atStart => exact ⟨0, by omega, rfl, .inl ⟨rfl, rfl, rfl⟩⟩
      case round =>
        obtain ⟨q, hq, rfl, hcl⟩ := hrel
        by_cases hlt : q < l.length
        · have hlt' : (q : Int) < (l.length : Int) := by omega
          have hlw := HL.out.below HB4.out
          obtain ⟨b, o, rfl, c0, c1⟩ := hlw.at hlt
          have hfl := HS.out.begin _ (List.getElem_mem hlt)
          have hfp := HPOS.out _ (List.getElem_mem hlt)
          have HNX := Lib.hid (closestR_take (s := s) hlt)
          clear hlw
          obtain ⟨r, hr⟩ : ∃ r, l[q] = r := ⟨_, rfl⟩
          rw [hr] at c0 c1 hfl hfp HNX
          have HRQ := Lib.hid hr
          clear hr
          cases hp : Lib.hasPrefix s r.f with
          | false =>
            have HNN := Lib.hid (HNX.out.trans (by rw [nearer_no hp, if_neg (by decide)]))
            have HP := Lib.hid hp
            clear hp
            rcases hcl with ⟨rfl, rfl, hcl⟩ | ⟨k, m, hk, rfl, rfl, hm, hcl⟩
            · have HCL := Lib.hid hcl
              clear hcl
              go_wp2_with fail
              refine (begins_same s r.f _ _ (by omega) (by omega) HP.out).mono ?_
              rintro e w' ⟨rfl, rfl⟩
              go_wp2
              go_round
              case rel => exact ⟨q + 1, by omega, by go_num, .inl ⟨rfl, rfl, HNN.out.trans HCL.out⟩⟩
              case measure => simp [intOf]; omega
            · have HCL := Lib.hid hcl
              have HM := Lib.hid hm
              clear hcl hm
              go_wp2_with fail
              refine (begins_same s r.f _ _ (by omega) (by omega) HP.out).mono ?_
              rintro e w' ⟨rfl, rfl⟩
              go_wp2
              go_round
              case rel => exact ⟨q + 1, by omega, by go_num, .inr ⟨k, m, hk, rfl, rfl, HM.out, HNN.out.trans HCL.out⟩⟩
              case measure => simp [intOf]; omega
          | true =>
            have HP := Lib.hid hp
            rcases hcl with ⟨rfl, rfl, hcl⟩ | ⟨k, m, hk, rfl, rfl, hm, hcl⟩
            · have HNN := Lib.hid (HNX.out.trans (by rw [hcl, nearer_yes hp (by simpa [noRu] using hfp), if_pos rfl]))
              have hlen : (-1 : Int) < (r.f.length : Int) := by omega
              clear hcl hp
              go_wp2_with fail
              refine (begins_same s r.f _ _ (by omega) (by omega) HP.out).mono ?_
              rintro e w' ⟨rfl, rfl⟩
              go_wp2
              go_round
              case rel => exact ⟨q + 1, by omega, by go_num, .inr ⟨q, r.f.length, hlt, rfl, rfl, by rw [HRQ.out], by rw [HRQ.out]; exact HNN.out⟩⟩
              case measure => simp [intOf]; omega
            · by_cases hlen : m < r.f.length
              · have HNN := Lib.hid (HNX.out.trans (by rw [hcl, nearer_yes hp (by rw [hm]; exact hlen), if_pos rfl]))
                have hlen' : (m : Int) < (r.f.length : Int) := by omega
                clear hcl hp hm
                go_wp2_with fail
                refine (begins_same s r.f _ _ (by omega) (by omega) HP.out).mono ?_
                rintro e w' ⟨rfl, rfl⟩
                go_wp2
                go_round
                case rel => exact ⟨q + 1, by omega, by go_num, .inr ⟨q, r.f.length, hlt, rfl, rfl, by rw [HRQ.out], by rw [HRQ.out]; exact HNN.out⟩⟩
                case measure => simp [intOf]; omega
              · have HNN := Lib.hid (HNX.out.trans (by rw [hcl, nearer_short (by rw [hm]; exact hlen), if_neg (by decide)]))
                have HM := Lib.hid hm
                have hlen' : ¬ (m : Int) < (r.f.length : Int) := by omega
                clear hcl hp hm
                go_wp2_with fail
                refine (begins_same s r.f _ _ (by omega) (by omega) HP.out).mono ?_
                rintro e w' ⟨rfl, rfl⟩
                go_wp2
                go_round
                case rel => exact ⟨q + 1, by omega, by go_num, .inr ⟨k, m, hk, rfl, rfl, HM.out, HNN.out⟩⟩
                case measure => simp [intOf]; omega
        · obtain rfl : q = l.length := by omega
          rw [List.take_length] at hcl
          obtain ⟨B, hB⟩ : ∃ B, B = W4.heap.size := ⟨_, rfl⟩
          have hfbB : fb < B := by omega
          rcases hcl with ⟨rfl, rfl, hcl⟩ | ⟨k, m, hk, rfl, rfl, hm, hcl⟩
          · have HV : Hid (waysL (closestQ s (l.map Ru.q)) s = addL [] s) := by show waysL (closestQ s (l.map Ru.q)) s = _; rw [← closestR_q, hcl]; rfl
            clear hcl
            have HR : Hid (W4.ownsRow B 9 1 (.slice none 0 0) 0 []) := World.ownsRow_nil _ _ _ _
            have HN := HN4
            have HFq := HF4
            have HBq := HB4
            have HTA : Hid (TextsAt W4 none ([] : List (List UInt8))) := fun h => absurd rfl h
            have hin : s ∉ ([] : List (List UInt8)) := by simp
            have HIN : Hid (decide (s ∈ ([] : List (List UInt8))) = false) := by show decide (s ∈ ([] : List (List UInt8))) = false; simp
            have HAD := Lib.hid (addL_out hin)
            clear hin
            have hrw := HR.out
            go_wp2_with fail
            refine (inTexts_is s none 0 _ ([] : List (List UInt8)) false _ (by simp) HTA.out rfl HIN.out).mono ?_
            rintro e w' ⟨rfl, rfl⟩
            go_wp2_with (at_builtin; refine wpList_append_own _ rfl _ _ 35 rfl B 9 i0 (.string ⟨#[]⟩) 1 16 Tryz.underlying35 hi hz0 hz1 hz2 rfl (by decide) _ _ _ rfl (hrw.alloc _) ⟨w'.heap.size, 0, none⟩ 1 1 [sv s] rfl rfl (text_new _ _ _) (by simp [Value.oneCell']) (by unfold maxLen; omega) (by omega) (by simp; omega) ?_; intro v' w6 hown' hgrow' _)
            have hkeep : ∀ g, g < B → w6.heap[g]? = w'.heap[g]? := fun g hg => by rw [hgrow'.block g (by simp; omega) (fun h => by have := (hrw.lt g h.symm).1; omega)]; exact Below.heap_alloc _ _ _ (by omega)
            obtain ⟨n0, n1, n2, n3⟩ := (HN.out.keep (hkeep _ (by omega))).cells
            obtain ⟨k0, k1, _, _⟩ := (HFq.out.keep (hkeep _ (by omega))).cells
            have HB6 : Hid (Below w.heap.size w w6) := (HBq.out.alloc HBq.out.size _).grown hgrow' (by have := HBq.out.size; simp; omega) (fun k e => by have := (hrw.lt k e).1; omega)
            have HR6 : Hid (w6.ownsRow B 9 1 v' (([] : List (List UInt8)) ++ [s]).length ((([] : List (List UInt8)) ++ [s]).map sv)) := by show w6.ownsRow _ _ _ _ _ _; rw [List.length_append, List.map_append]; exact hown'
            clear hkeep hgrow' hown'
            go_region
            all_goals go_wp2
            all_goals
              obtain ⟨q0, q1, q2⟩ := slot_set (w := w) (.int .i64 0) (.int .i64 (-1)) n0 n1 HB6.out
              exact bodyPost_ret (v := .tuple #[v', .agg #[.int .i64 0, .int .i64 (-1)]]) (by simp [results, Tryz.results70, go_sem, q0, q1]) rfl ⟨⟨_, by rw [HW.out]; rfl, by rw [HW.out, HV.out, HAD.out]; exact (row_slot _ _ HR6.out (by omega)).mono (by omega)⟩, q2.drew⟩
          · have HV : Hid (waysL (closestQ s (l.map Ru.q)) s = addL (waysTo l[k].f s l[k].t) s) := by show waysL (closestQ s (l.map Ru.q)) s = _; rw [← closestR_q, hcl]; rfl
            have hkl : (k : Int) < (l.length : Int) := by omega
            have hk0 : (0 : Int) ≤ (k : Int) := by omega
            have hlw := HL.out.below HB4.out
            have HRL := Lib.hid (hlw.each _ (List.getElem_mem hk)).texts
            obtain ⟨b, o, rfl, c0, c1⟩ := hlw.at hk
            have hfl := HS.out.begin _ (List.getElem_mem hk)
            have hnl := HS.out.many _ (List.getElem_mem hk)
            have HTX := Lib.hid (HS.out.texts _ (List.getElem_mem hk))
            clear hlw hcl hm
            generalize l[k] = r at c0 c1 hfl hnl HRL HTX HV
            obtain ⟨f, t, ta, tc⟩ := r
            simp only at c0 c1 hfl hnl HRL HTX HV
            go_wp2_with fail
            go_loopw [11, 12] (fun v iv wr => ∃ q : Nat, q ≤ t.length ∧ iv = .int .i64 q ∧ wr.ownsRow B 9 1 v (waysTo f s (t.take q)).length ((waysTo f s (t.take q)).map sv) ∧ Below B W4 wr) (fun _ iv _ => t.length - (intOf iv).toNat)
            case atStart => exact ⟨0, by omega, rfl, World.ownsRow_nil _ _ _ _, Below.refl _ _⟩
            case round =>
              obtain ⟨q, hq2, rfl, hrow, hb⟩ := hrel
              have HR := Lib.hid hrow
              have HW4 := Lib.hid hb
              have hb' : Below W4.heap.size W4 wr := by rw [← hB]; exact hb
              have HWW := Lib.hid hb'
              have hBr : B ≤ wr.heap.size := by have := hb'.size; omega
              have HN := Lib.hid (HN4.out.below hb (by omega))
              have HFq := Lib.hid (HF4.out.below hb (by omega))
              have HBq := Lib.hid (HB4.out.trans (hb.mono (by omega)))
              have d0 : wr.cell? ⟨b, o + k * 2, none⟩ = some (sv f) := (hb'.cell (p := ⟨b, o + k * 2, none⟩) (block_lt_of_cell c0)).trans c0
              have d1 : wr.cell? ⟨b, o + k * 2 + 1, none⟩ = some (.slice ta t.length tc) := (hb'.cell (p := ⟨b, o + k * 2 + 1, none⟩) (block_lt_of_cell c1)).trans c1
              have hal := waysTo_length f s (t.take q)
              rw [List.length_take] at hal
              clear hb hb' hrow
              by_cases hlt2 : q < t.length
              · have hlt2' : (q : Int) < (t.length : Int) := by omega
                have hq0 : (0 : Int) ≤ (q : Int) := by omega
                have HNX := Lib.hid (waysTo_take (a := f) (s := s) hlt2)
                have hxl := HTX.out _ (List.getElem_mem hlt2)
                obtain ⟨b2, o2, rfl, x0⟩ := (HRL.out.below HWW.out).at hlt2
                have hbl : b < wr.heap.size := block_lt_of_cell d0
                have hbl2 : b2 < wr.heap.size := block_lt_of_cell x0
                generalize waysTo f s (t.take q) = acc at HR HNX hal
                generalize t[q] = x at x0 hxl HNX
                obtain ⟨⟨y, cc⟩, hsw⟩ : ∃ r, swapK f x s = r := ⟨_, rfl⟩
                cases cc with
                | succ j =>
                  have HNN := Lib.hid (HNX.out.trans (wayStep_bad hsw))
                  have HSW := Lib.hid hsw
                  obtain ⟨zz, hzz⟩ : ∃ zz : Int, ((j + 1 : Nat) : Int) = zz := ⟨_, rfl⟩
                  have hz0' : (zz == 0) = false := by rw [← hzz]; simp; omega
                  have HZZ := Lib.hid hzz
                  clear hsw hzz
                  go_wp2_with fail
                  have HD := swapOf_is f x s y _ zz wr.drew (by omega) (by omega) (by omega) HSW.out HZZ.out
                  go_region_held3 (fun w' => w'.cell? ⟨b, o + k * 2, none⟩ = some (sv f) ∧ w'.cell? ⟨b, o + k * 2 + 1, none⟩ = some (.slice (some ⟨b2, o2, none⟩) t.length tc) ∧ w'.cell? ⟨b2, o2 + q, none⟩ = some (sv x)) (go_keep) (first
                    | (go_at_call 132; (with_reducible refine HD.mono ?_); rintro e w5 ⟨rfl, hb5⟩; have e0 := (hb5.cell (p := ⟨b, o + k * 2, none⟩) hbl).trans d0; have e1 := (hb5.cell (p := ⟨b, o + k * 2 + 1, none⟩) hbl).trans d1; have e2 := (hb5.cell (p := ⟨b2, o2 + q, none⟩) hbl2).trans x0; have hb5' : Below wr.heap.size wr w5 := (Below.refl _ _).drew.trans hb5; have hs5 := hb5'.size; have HB5 := Lib.hid (HW4.out.trans (hb5'.mono hBr)); have HR5 := Lib.hid (row_below HR.out hb5'); clear hb5 hb5'))
                  obtain ⟨va, vc, rfl, hta, _, _⟩ := texts_of_owns HR5.out
                  have HTA := Lib.hid hta
                  clear hta
                  go_wp2_with fail
                  refine (inTexts_is y va vc _ acc _ _ (by omega) HTA.out rfl rfl).mono ?_
                  rintro e w' ⟨rfl, rfl⟩
                  go_wp2
                  go_roundw
                  case rel => exact ⟨q + 1, by omega, by go_num, by rw [HNN.out]; exact HR5.out, HB5.out⟩
                  case measure => simp [intOf]; omega
                | zero =>
                  have HNN := Lib.hid (HNX.out.trans (wayStep_ok hsw))
                  have HSW := Lib.hid hsw
                  clear hsw
                  go_wp2_with fail
                  have HD := swapOf_is f x s y _ 0 wr.drew (by omega) (by omega) (by omega) HSW.out rfl
                  go_region_held3 (fun w' => w'.cell? ⟨b, o + k * 2, none⟩ = some (sv f) ∧ w'.cell? ⟨b, o + k * 2 + 1, none⟩ = some (.slice (some ⟨b2, o2, none⟩) t.length tc) ∧ w'.cell? ⟨b2, o2 + q, none⟩ = some (sv x)) (go_keep) (first
                    | (go_at_call 132; (with_reducible refine HD.mono ?_); rintro e w5 ⟨rfl, hb5⟩; have e0 := (hb5.cell (p := ⟨b, o + k * 2, none⟩) hbl).trans d0; have e1 := (hb5.cell (p := ⟨b, o + k * 2 + 1, none⟩) hbl).trans d1; have e2 := (hb5.cell (p := ⟨b2, o2 + q, none⟩) hbl2).trans x0; have hb5' : Below wr.heap.size wr w5 := (Below.refl _ _).drew.trans hb5; have hs5 := hb5'.size; have HB5 := Lib.hid (HW4.out.trans (hb5'.mono hBr)); have HR5 := Lib.hid (row_below HR.out hb5'); clear hb5 hb5'))
                  obtain ⟨va, vc, rfl, hta, _, _⟩ := texts_of_owns HR5.out
                  have HTA := Lib.hid hta
                  clear hta
                  by_cases hin : y ∈ acc
                  · have HIN : Hid (decide (y ∈ acc) = true) := by show decide (y ∈ acc) = true; simpa using hin
                    have HAD := Lib.hid (addL_in hin)
                    clear hin
                    go_wp2_with fail
                    refine (inTexts_is y va vc _ acc _ _ (by omega) HTA.out rfl HIN.out).mono ?_
                    rintro e w' ⟨rfl, rfl⟩
                    go_wp2
                    go_roundw
                    case rel => exact ⟨q + 1, by omega, by go_num, by rw [HNN.out, HAD.out]; exact HR5.out, HB5.out⟩
                    case measure => simp [intOf]; omega
                  · have HIN : Hid (decide (y ∈ acc) = false) := by show decide (y ∈ acc) = false; simpa using hin
                    have HAD := Lib.hid (addL_out hin)
                    have hrw := HR5.out
                    clear hin
                    go_wp2_with fail
                    refine (inTexts_is y va vc _ acc _ _ (by omega) HTA.out rfl HIN.out).mono ?_
                    rintro e w' ⟨rfl, rfl⟩
                    go_wp2_with (at_builtin; refine wpList_append_own _ rfl _ _ 35 rfl B 9 i0 (.string ⟨#[]⟩) 1 16 Tryz.underlying35 hi hz0 hz1 hz2 rfl (by decide) _ _ _ rfl (hrw.alloc _) ⟨w'.heap.size, 0, none⟩ 1 1 [sv y] rfl rfl (text_new _ _ _) (by simp [Value.oneCell']) (by unfold maxLen; omega) (by omega) (by simp; omega) ?_; intro v' w6 hown' hgrow' _)
                    have HB6 : Hid (Below B W4 w6) := (HB5.out.alloc (by omega) _).grown hgrow' (by simp; omega) (fun k e => (hrw.lt k e).1)
                    go_roundw
                    case rel => exact ⟨q + 1, by omega, by go_num, by rw [HNN.out, HAD.out, List.length_append, List.map_append]; exact hown', HB6.out⟩
                    case measure => simp [intOf]; omega
              · obtain rfl : q = t.length := by omega
                rw [List.take_length] at HR hal
                generalize waysTo f s t = acc at HR HV hal
                obtain ⟨va, vc, rfl, hta, _, _⟩ := texts_of_owns HR.out
                have HTA := Lib.hid hta
                clear hta
                by_cases hin : s ∈ acc
                · have HIN : Hid (decide (s ∈ acc) = true) := by show decide (s ∈ acc) = true; simpa using hin
                  have HAD := Lib.hid (addL_in hin)
                  clear hin
                  obtain ⟨n0, n1, n2, n3⟩ := HN.out.cells
                  obtain ⟨k0, k1, _, _⟩ := HFq.out.cells
                  go_wp2_with fail
                  refine (inTexts_is s va vc _ acc true _ (by omega) HTA.out rfl HIN.out).mono ?_
                  rintro e w' ⟨rfl, rfl⟩
                  go_wp2
                  go_region
                  all_goals go_wp2
                  all_goals
                    obtain ⟨q0, q1, q2⟩ := slot_set (w := w) (.int .i64 0) (.int .i64 (-1)) n0 n1 HBq.out
                    exact bodyPost_ret (v := .tuple #[.slice va (List.length acc) vc, .agg #[.int .i64 0, .int .i64 (-1)]]) (by simp [results, Tryz.results70, go_sem, q0, q1]) rfl ⟨⟨_, by rw [HW.out]; rfl, by rw [HW.out, HV.out, HAD.out]; exact (row_slot _ _ HR.out (by omega)).mono (by omega)⟩, q2.drew⟩

                · have HIN : Hid (decide (s ∈ acc) = false) := by show decide (s ∈ acc) = false; simpa using hin
                  have HAD := Lib.hid (addL_out hin)
                  clear hin
                  have hrw := HR.out
                  go_wp2_with fail
                  refine (inTexts_is s va vc _ acc false _ (by omega) HTA.out rfl HIN.out).mono ?_
                  rintro e w' ⟨rfl, rfl⟩
                  go_wp2_with (at_builtin; refine wpList_append_own _ rfl _ _ 35 rfl B 9 i0 (.string ⟨#[]⟩) 1 16 Tryz.underlying35 hi hz0 hz1 hz2 rfl (by decide) _ _ _ rfl (hrw.alloc _) ⟨w'.heap.size, 0, none⟩ 1 1 [sv s] rfl rfl (text_new _ _ _) (by simp [Value.oneCell']) (by unfold maxLen; omega) (by omega) (by simp; omega) ?_; intro v' w6 hown' hgrow' _)
                  have hkeep : ∀ g, g < B → w6.heap[g]? = w'.heap[g]? := fun g hg => by rw [hgrow'.block g (by simp; omega) (fun h => by have := (hrw.lt g h.symm).1; omega)]; exact Below.heap_alloc _ _ _ (by omega)
                  obtain ⟨n0, n1, n2, n3⟩ := (HN.out.keep (hkeep _ (by omega))).cells
                  obtain ⟨k0, k1, _, _⟩ := (HFq.out.keep (hkeep _ (by omega))).cells
                  have HB6 : Hid (Below w.heap.size w w6) := (HBq.out.alloc HBq.out.size _).grown hgrow' (by have := HBq.out.size; simp; omega) (fun k e => by have := (hrw.lt k e).1; omega)
                  have HR6 : Hid (w6.ownsRow B 9 1 v' (acc ++ [s]).length ((acc ++ [s]).map sv)) := by show w6.ownsRow _ _ _ _ _ _; rw [List.length_append, List.map_append]; exact hown'
                  clear hkeep hgrow' hown'
                  go_region
                  all_goals go_wp2
                  all_goals
                    obtain ⟨q0, q1, q2⟩ := slot_set (w := w) (.int .i64 0) (.int .i64 (-1)) n0 n1 HB6.out
                    exact bodyPost_ret (v := .tuple #[v', .agg #[.int .i64 0, .int .i64 (-1)]]) (by simp [results, Tryz.results70, go_sem, q0, q1]) rfl ⟨⟨_, by rw [HW.out]; rfl, by rw [HW.out, HV.out, HAD.out]; exact (row_slot _ _ HR6.out (by omega)).mono (by omega)⟩, q2.drew⟩
    · have HW := Lib.hid (waysQ_link (s := s) h0 h1)
      have hp0 : (0 : Int) < z := by omega
      clear h0 h1 hc hif hz

      go_enter Tryz.func70, Tryz.ntmps70
      go_wp2_with fail
      refine (rulesFault_is l a ca _ _ _ (HL.out.below ((Below.refl _ _).alloc (Nat.le_refl _) _)) HS.out HC.out HI.out).mono ?_
      rintro e w1 ⟨rfl, hb1⟩
      have HB1 := Lib.hid (show Below (w.heap.size + 1) (w.alloc (.cells #[.int .i64 0, .int .i64 0] 50)) w1 from hb1.mono (by simp))
      have hs1 : w.heap.size + 1 ≤ w1.heap.size := by have := hb1.size; simpa using this
      clear hb1

      obtain ⟨fb, hfb⟩ : ∃ fb, fb = w1.heap.size := ⟨_, rfl⟩
      obtain ⟨W1, hW1⟩ : ∃ W1, W1 = w1.alloc (.cells #[.int .i64 0, .int .i64 (-1)] 50) := ⟨_, rfl⟩
      have hT1 : Two W1 fb (.int .i64 0) (.int .i64 (-1)) 50 := by rw [hW1, hfb]; exact Two.new _ _ _ _
      have hR1 : Below (w.heap.size + 1) (w.alloc (.cells #[.int .i64 0, .int .i64 0] 50)) W1 := by rw [hW1]; exact HB1.out.alloc hs1 _
      have hsz1 : W1.heap.size = fb + 1 := by rw [hW1, World.size_alloc, hfb]
      obtain ⟨x0, x1, _, _⟩ := hT1.cells
      go_wp2_with fail
      rw [← hW1, ← hfb]
      have hnfb : w.heap.size < fb := by omega
      clear hW1 hfb hs1 HB1
      refine (linkError_is s _ _ (by omega) HZ.out).mono ?_
      rintro e w2 ⟨rfl, hb2⟩
      have hT2 := hT1.below hb2 hT1.lt
      have hR2 := hR1.trans (hb2.mono (by omega))
      have hsz2 : fb + 1 ≤ w2.heap.size := by have := hb2.size; omega
      clear hb2 hT1 hR1 hsz1 x0 x1
      go_wp2_with fail
      refine (rBare_any _ _).mono ?_
      rintro e w3 ⟨rfl, hb3⟩
      have hT3 := hT2.below hb3 hT2.lt
      have hR3 := hR2.trans (hb3.mono (by omega))
      have hsz3 : fb + 1 ≤ w3.heap.size := by have := hb3.size; omega
      clear hb3 hT2 hR2 hsz2
      obtain ⟨x0, x1, x2, x3⟩ := hT3.cells
      obtain ⟨y0, y1, y2, y3⟩ := (hT3.store (.int .i64 z) (.int .i64 (-1))).cells

      have HB3 := Lib.hid hR3
      have HT3 := Lib.hid hT3
      clear hT3 hR3
      go_wp2
      obtain ⟨W4, hW4⟩ : ∃ W4, W4 = (w3.setCell ⟨fb, 0, none⟩ (.int .i64 z)).setCell ⟨fb, 1, none⟩ (.int .i64 (-1)) := ⟨_, rfl⟩
      rw [← hW4] at y0 y1 ⊢
      have HN4 : Hid (Two W4 w.heap.size (.int .i64 0) (.int .i64 0) 50) := by
        show Two W4 _ _ _ _
        rw [hW4]
        exact ((Two.new w _ _ _).below HB3.out (by omega)).keep (heap_store _ _ (by omega))
      have HB4 : Hid (Below w.heap.size w W4) := by
        show Below _ _ W4
        rw [hW4]
        exact below_store _ _ (((Below.refl _ w).alloc (Nat.le_refl _) _).trans (HB3.out.mono (by omega))) (by omega)
      obtain ⟨n0, n1, n2, n3⟩ := HN4.out.cells
      clear hW4 y2 y3 x0 x1 x2 x3
      go_region
      all_goals go_wp2
      all_goals
        obtain ⟨q0, q1, q2⟩ := slot_set (w := w) (.int .i64 z) (.int .i64 (-1)) n0 n1 HB4.out
        exact bodyPost_ret (v := .tuple #[.slice none 0 0, .agg #[.int .i64 z, .int .i64 (-1)]]) (by simp [results, Tryz.results70, go_sem, q0, q1]) rfl ⟨⟨_, by rw [HW.out, ← HZ.out], by rw [HW.out]; exact World.ownsRow_nil _ _ _ _⟩, q2.drew⟩
  · have HW := Lib.hid (waysQ_bad (s := s) h0)
    have hn0 : (c == 0) = false := by rw [← hc]; simp; exact h0
    have hp0 : (0 : Int) < c := by omega
    clear h0 hc hif

    go_enter Tryz.func70, Tryz.ntmps70
    go_wp2_with fail
    refine (rulesFault_is l a ca _ _ _ (HL.out.below ((Below.refl _ _).alloc (Nat.le_refl _) _)) HS.out HC.out HI.out).mono ?_
    rintro e w1 ⟨rfl, hb1⟩
    have HB1 := Lib.hid (show Below (w.heap.size + 1) (w.alloc (.cells #[.int .i64 0, .int .i64 0] 50)) w1 from hb1.mono (by simp))
    have hs1 : w.heap.size + 1 ≤ w1.heap.size := by have := hb1.size; simpa using this
    clear hb1

    obtain ⟨n0, n1, n2, n3, hBn⟩ := slot_two (HB1.out.alloc hs1 (.cells #[.int .i64 c, .int .i64 i] 50))
    have HBn := Lib.hid hBn
    clear hBn
    go_wp2
    go_region
    all_goals go_wp2
    all_goals
      obtain ⟨q0, q1, q2⟩ := slot_set (w := w) (.int .i64 c) (.int .i64 i) n0 n1 HBn.out
      exact bodyPost_ret (v := .tuple #[.slice none 0 0, .agg #[.int .i64 c, .int .i64 i]]) (by simp [results, Tryz.results70, go_sem, q0, q1]) rfl ⟨⟨_, by rw [HW.out, ← HC.out, ← HI.out], by rw [HW.out]; exact World.ownsRow_nil _ _ _ _⟩, q2.drew⟩
end Go.Proofs.YtmcfkoenpikldaaGreatDoor
/-
  The document's answer for fetching: ErrorText, askFault: contracts, over this seat's translation.
-/
namespace Go.Proofs.YtmcfkoenpikldaaGreatDoor
open Go.RowKit Go.Shelf

set_option maxRecDepth 100000 in
set_option maxHeartbeats 4000000 in
theorem errorText_any (c : Nat) (w : World) (h1 : 1 ≤ c) (h2 : c ≤ 13) :
    Calls Tryz.prog 72 #[.int .i64 (c : Int)] w fun e w' => e = .returned (.string ⟨(textE c).toArray⟩) ∧ Below w.heap.size w w' := by
  have h : c = 1 ∨ c = 2 ∨ c = 3 ∨ c = 4 ∨ c = 5 ∨ c = 6 ∨ c = 7 ∨ c = 8 ∨ c = 9 ∨ c = 10 ∨ c = 11 ∨ c = 12 ∨ c = 13 := by omega
  have hb : ∀ o, Hid (Below w.heap.size w (w.alloc o)) := fun o => (Below.refl _ _).alloc (Nat.le_refl _) o
  rcases h with rfl | rfl | rfl | rfl | rfl | rfl | rfl | rfl | rfl | rfl | rfl | rfl | rfl
  all_goals
    clear h1 h2
    go_enter Tryz.func72, Tryz.ntmps72
    go_wp2
    go_ret
    exact ⟨rfl, (hb _).out⟩

set_option maxRecDepth 100000 in
set_option maxHeartbeats 2000000 in
theorem askFault_any (l : List Ru) (a : Option Addr) (ca : Nat) (n u k : List UInt8) (g m : Int) (w : World) (hl : RulesAt w a l) (hs : RuSmall l) (hn : n.length ≤ 40000) (hu : u.length ≤ 20000) :
    Calls Tryz.prog 69 #[.slice a l.length ca, wv ⟨n, u, k, g, m⟩] w fun e w' => e = .returned (.agg #[.int .i64 ((askF (l.map Ru.q) ⟨n, u, k, g, m⟩).1 : Nat), .int .i64 (askF (l.map Ru.q) ⟨n, u, k, g, m⟩).2]) ∧ Below w.heap.size w w' := by
  obtain ⟨W0, hW0⟩ : ∃ W0, W0 = (w.alloc (wo n u k g m)).alloc (.cells #[.int .i64 0, .int .i64 0] 50) := ⟨_, rfl⟩
  have hr0 : Two W0 (w.heap.size + 1) (.int .i64 0) (.int .i64 0) 50 := by
    rw [hW0]
    have := Two.new (w.alloc (wo n u k g m)) (.int .i64 0) (.int .i64 0) 50
    rwa [World.size_alloc] at this
  have hw0 : WantAt W0 w.heap.size n u k g m := by rw [hW0]; exact (WantAt.new w n u k g m).below ((Below.refl _ _).alloc (Nat.le_refl _) _)
  have hb0 : Below w.heap.size w W0 := by rw [hW0]; exact ((Below.refl _ _).alloc (Nat.le_refl _) _).alloc (by simp) _
  have hz0 : W0.heap.size = w.heap.size + 2 := by rw [hW0]; simp
  have HL := Lib.hid (hl.below hb0)
  have HS := Lib.hid hs
  have HR0 := Lib.hid hr0
  have HW := Lib.hid hw0
  have HB0 := Lib.hid hb0
  obtain ⟨c0, c1, c2, c3, c4⟩ := hw0
  obtain ⟨c, hc⟩ : ∃ c, (rulesF (l.map Ru.q)).1 = c := ⟨_, rfl⟩
  obtain ⟨zc, hzc⟩ : ∃ z : Int, ((c : Nat) : Int) = z := ⟨_, rfl⟩
  obtain ⟨i, hi⟩ : ∃ i, (rulesF (l.map Ru.q)).2 = i := ⟨_, rfl⟩
  have HC := Lib.hid hc
  have HI := Lib.hid hi
  clear hl hs hb0 hr0 hc hi
  go_enter Tryz.func69, Tryz.ntmps69
  go_wp2_with fail
  rw [← hW0]
  clear hW0
  refine (rulesFault_is l a ca zc i _ HL.out HS.out (by rw [HC.out, hzc]) HI.out).mono ?_
  rintro e w1 ⟨rfl, hb1⟩
  have hR1 := HR0.out.below hb1 HR0.out.lt
  have hz1 := hb1.size
  have hB1 := HB0.out.trans (hb1.mono HB0.out.size)
  have hw1 := HW.out.below hb1
  obtain ⟨W, hW⟩ : ∃ W, W = w1.alloc (.cells #[.int .i64 zc, .int .i64 i] 50) := ⟨_, rfl⟩
  have hT : Two W w1.heap.size (.int .i64 zc) (.int .i64 i) 50 := by rw [hW]; exact Two.new _ _ _ _
  have hbW : Below w1.heap.size w1 W := by rw [hW]; exact (Below.refl _ _).alloc (Nat.le_refl _) _
  have hRW := hR1.below hbW hR1.lt
  have HBW := Lib.hid (hB1.trans (hbW.mono hB1.size))
  have hbx : Below w1.heap.size w1 (w1.alloc (.cells #[.int .i64 zc, .int .i64 i] 50)) := (Below.refl _ _).alloc (Nat.le_refl _) _
  have hzW : w1.heap.size < W.heap.size := hT.lt
  clear c0 c1 c2 c3 c4
  obtain ⟨x0, x1, x2, x3⟩ := (Two.new w1 (.int .i64 zc) (.int .i64 i) 50).cells
  obtain ⟨r0, r1, r2, r3⟩ := (hR1.below hbx hR1.lt).cells
  obtain ⟨c0, c1, c2, c3, c4⟩ := hw1.below hbx
  clear hb1 hbW hbx hR1 hB1 hw1 HL HS HR0 HB0 HW
  have hfl : w.heap.size + 1 < w1.heap.size := by omega
  obtain ⟨fb, hfb⟩ : ∃ fb, fb = w1.heap.size := ⟨_, rfl⟩
  have hne : fb ≠ w.heap.size + 1 := by omega
  cases c with
  | zero =>
    have HF := Lib.hid (ask_want (x := ⟨n, u, k, g, m⟩) HC.out)
    obtain ⟨z, hz⟩ : ∃ z : Int, ((wantCode ⟨n, u, k, g, m⟩ : Nat) : Int) = z := ⟨_, rfl⟩
    have HZ := Lib.hid hz
    have hz0 : zc = 0 := by omega
    subst hz0
    clear hz hzc
    go_wp2_with fail
    rw [← hW]
    clear hW x0 x1 x2 x3 r0 r1 r2 r3 c0 c1 c2 c3 c4
    rw [← hfb] at hT hzW hfl ⊢
    clear hfb
    refine (wantError_is n u k g m z _ (by omega) (by omega) HZ.out).mono ?_
    rintro e w3 ⟨rfl, hb3⟩
    have hT3 := hT.below hb3 hT.lt
    have hR3 := hRW.below hb3 hRW.lt
    have HB3 := Lib.hid (HBW.out.trans (hb3.mono HBW.out.size))
    clear hb3 hT hRW HBW
    go_wp2_with fail
    refine (rBare_any z _).mono ?_
    rintro e w4 ⟨rfl, hb4⟩
    have hT4 := hT3.below hb4 hT3.lt
    have hR4 := hR3.below hb4 hR3.lt
    have HB4 := Lib.hid (HB3.out.trans (hb4.mono HB3.out.size))
    clear hb4 hT3 hR3 HB3
    obtain ⟨x0, x1, x2, x3⟩ := hT4.cells
    have hT5 := hT4.store (.int .i64 z) (.int .i64 (-1))
    obtain ⟨y0, y1, y2, y3⟩ := hT5.cells
    have hR5 := hR4.keep (heap_store (b := fb) (.int .i64 z) (.int .i64 (-1)) (by omega))
    obtain ⟨r0, r1, r2, r3⟩ := hR5.cells
    have HB5 := Lib.hid (below_store (b := fb) (.int .i64 z) (.int .i64 (-1)) HB4.out (by omega))
    clear hT4 hR4 hT5
    go_wp2
    all_goals
      obtain ⟨q0, q1, _, _⟩ := (hR5.store (.int .i64 z) (.int .i64 (-1))).cells
      exact bodyPost_ret (v := .agg #[.int .i64 z, .int .i64 (-1)]) (by simp [results, Tryz.results69, go_sem, q0, q1]) rfl ⟨by rw [HF.out]; simp only [HZ.out], below_store _ _ HB5.out (by omega)⟩
  | succ c =>
    have HF := Lib.hid (ask_rules (l := l.map Ru.q) (x := ⟨n, u, k, g, m⟩) (by rw [HC.out]; simp))
    have hcz : (zc == 0) = false := by simp; omega
    have HZ := Lib.hid hzc
    clear c0 c1 c2 c3 c4 hzc
    go_upto_region 4 with fail
    rw [← hW]
    clear r0 r1 r2 r3 x0 x1 x2 x3 hW
    obtain ⟨x0, x1, x2, x3⟩ := hT.cells
    obtain ⟨r0, r1, r2, r3⟩ := hRW.cells
    go_wp2
    all_goals
      obtain ⟨q0, q1, _, _⟩ := (hRW.store (.int .i64 zc) (.int .i64 i)).cells
      exact bodyPost_ret (v := .agg #[.int .i64 zc, .int .i64 i]) (by simp [results, Tryz.results69, go_sem, q0, q1]) rfl ⟨by rw [HF.out, HC.out, HI.out, HZ.out], below_store _ _ HBW.out (by omega)⟩
end Go.Proofs.YtmcfkoenpikldaaGreatDoor
