/-
  Own texts of the proof, joined by program: RefRules, LawRules.
-/
import Derived.Test.YtaegcoidpjcbaaaGreatDoorRuMemPkMirrorPkRulesPkWays
import Derived.Test.YtaegcoidpjcbaaaGreatDoorRefLinkRefLinks
import Derived.OwnWalk
/-
  The document's answer for mirrors: InTexts, SameTexts, RulesFault: contracts, over this seat's translation.
-/
namespace Go.Proofs.YtaegcoidpjcbaaaGreatDoor
open Go.RowKit Go.Shelf

theorem rBare_any (c : Int) (w : World) : Calls Tryz.prog 50 #[.int .i64 c] w fun e w' => e = .returned (.agg #[.int .i64 c, .int .i64 (-1)]) ∧ Below w.heap.size w w' := by
  go_enter Tryz.func50, Tryz.ntmps50
  go_wp2
  exact bodyPost_ret (v := .agg #[.int .i64 c, .int .i64 (-1)]) (by simp [results, Tryz.results50, go_sem]) rfl ⟨rfl, (Below.refl _ _).alloc (Nat.le_refl _) _⟩
theorem rFine_any (w : World) : Calls Tryz.prog 98 #[] w fun e w' => e = .returned (.agg #[.int .i64 0, .int .i64 (-1)]) ∧ Below w.heap.size w w' := by
  go_enter Tryz.func98, Tryz.ntmps98
  go_wp2
  exact bodyPost_ret (v := .agg #[.int .i64 0, .int .i64 (-1)]) (by simp [results, Tryz.results98, go_sem]) rfl ⟨rfl, (Below.refl _ _).alloc (Nat.le_refl _) _⟩

set_option maxHeartbeats 1000000 in
theorem inTexts_at (s : List UInt8) (a : Option Addr) (cap : Nat) (k : List (List UInt8)) (w : World) (hk : k.length ≤ 100000) (h : TextsAt w a k) :
    Calls Tryz.prog 61 #[.string ⟨s.toArray⟩, .slice a k.length cap] w fun e w' => e = .returned (.bool (decide (s ∈ k))) ∧ w' = w := by
  have H := Lib.hid h
  clear h
  go_enter Tryz.func61, Tryz.ntmps61
  go_wp2_with fail
  go_loop [5] (fun i => ∃ q : Nat, q ≤ k.length ∧ i = .int .i64 q ∧ (k.take q).contains s = false) (fun i => k.length - (intOf i).toNat)
  case atStart => exact ⟨0, by omega, rfl, by simp⟩
  case round =>
    obtain ⟨q, hq, rfl, hn⟩ := hrel
    have HN := Lib.hid hn
    clear hn
    by_cases hlt : q < k.length
    · obtain ⟨b, o, rfl, hc⟩ := H.out.at hlt
      have hlt' : (q : Int) < (k.length : Int) := by omega
      by_cases hx : k[q] = s
      · have HF : Hid (decide (s ∈ k) = true) := by
          show decide (s ∈ k) = true
          rw [decide_eq_true_eq, ← hx]
          exact List.getElem_mem hlt
        rw [hx] at hc
        clear hx
        go_wp2
        go_ret
        exact ⟨ret_bool HF.out.symm, rfl⟩
      · have HF := Lib.hid (contains_take hlt HN.out hx)
        have hx' : (k[q] == s) = false := by simpa using hx
        clear hx
        generalize k[q] = x at hc hx'
        go_wp2
        go_round
        case rel => exact ⟨q + 1, by omega, by go_num, HF.out⟩
        case measure => simp [intOf]; omega
    · have hql : q = k.length := by omega
      have HF : Hid (decide (s ∈ k) = false) := by
        have := HN.out
        rw [hql, List.take_length, List.contains_eq_mem] at this
        exact this
      clear hql
      go_wp2
      go_ret
      exact ⟨ret_bool HF.out.symm, rfl⟩
theorem inTexts_is (s : List UInt8) (a : Option Addr) (cap n : Nat) (k : List (List UInt8)) (r : Bool) (w : World) (hk : k.length ≤ 100000) (h : TextsAt w a k) (hn : k.length = n) (hr : decide (s ∈ k) = r) :
    Calls Tryz.prog 61 #[.string ⟨s.toArray⟩, .slice a n cap] w fun e w' => e = .returned (.bool r) ∧ w' = w := by
  have := inTexts_at s a cap k w hk h
  rwa [hr, hn] at this

set_option maxHeartbeats 1000000 in
theorem sameTexts_at (l m : List (List UInt8)) (a b : Option Addr) (ca cb : Nat) (w : World) (hl : TextsAt w a l) (hm : TextsAt w b m) (hll : l.length ≤ 100000) (hml : m.length ≤ 100000) :
    Calls Tryz.prog 17 #[.slice a l.length ca, .slice b m.length cb] w fun e w' => e = .returned (.bool (decide (l = m))) ∧ Below w.heap.size w w' := by
  by_cases hlen : l.length = m.length
  · have HL := Lib.hid hl
    have HM := Lib.hid hm
    have HLEN := Lib.hid hlen
    clear hl hm
    rw [← hlen]
    clear hlen
    go_enter Tryz.func17, Tryz.ntmps17
    go_wp2_with fail
    go_loopw [5] (fun i wr => ∃ q : Nat, q ≤ l.length ∧ i = .int .i64 q ∧ l.take q = m.take q ∧ Below w.heap.size w wr) (fun i _ => l.length - (intOf i).toNat)
    case atStart => exact ⟨0, by omega, rfl, by simp, Below.refl _ _⟩
    case round =>
      obtain ⟨q, hq, rfl, ht, hb⟩ := hrel
      have HB := Lib.hid hb
      have HT := Lib.hid ht
      clear hb ht
      by_cases hlt : q < l.length
      · have hlt2 : q < m.length := HLEN.out ▸ hlt
        obtain ⟨b1, o1, rfl, c0⟩ := (HL.out.below HB.out).at hlt
        obtain ⟨b2, o2, rfl, d0⟩ := (HM.out.below HB.out).at hlt2
        have hlt' : (q : Int) < (l.length : Int) := by omega
        by_cases he : l[q] = m[q]
        · have HN : Hid (l.take (q + 1) = m.take (q + 1)) := by
            show l.take (q + 1) = m.take (q + 1)
            rw [List.take_succ_eq_append_getElem hlt, List.take_succ_eq_append_getElem hlt2, HT.out, he]
          rw [← he] at d0
          clear he
          generalize l[q] = x at c0 d0
          go_wp2_with fail
          go_quiet (fail)
          go_wp2
          go_roundw
          case rel => exact ⟨q + 1, by omega, by go_num, HN.out, below_drewN HB.out _⟩
          case measure => simp [intOf]; omega
        · have HN : Hid (decide (l = m) = false) := by
            show decide (l = m) = false
            rw [decide_eq_false_iff_not]
            intro e
            subst e
            exact he rfl
          have he' : (l[q] == m[q]) = false := by simpa using he
          clear he
          generalize l[q] = x at c0 he'
          generalize m[q] = y at d0 he'
          go_wp2_with fail
          go_quiet (fail)
          go_wp2
          go_ret
          exact ⟨ret_bool HN.out.symm, below_drewN HB.out _⟩
      · have hql : q = l.length := by omega
        have HN : Hid (decide (l = m) = true) := by
          show decide (l = m) = true
          rw [decide_eq_true_iff]
          have := HT.out
          rw [hql, List.take_length, HLEN.out, List.take_length] at this
          exact this
        clear hql
        go_wp2
        go_ret
        exact ⟨ret_bool HN.out.symm, HB.out⟩
  · have HN : Hid (decide (l = m) = false) := by
      show decide (l = m) = false
      rw [decide_eq_false_iff_not]
      intro e
      exact hlen (by rw [e])
    have hlen' : ((l.length : Int) == (m.length : Int)) = false := by simp; omega
    clear hl hm
    go_enter Tryz.func17, Tryz.ntmps17
    go_wp2
    go_ret
    exact ⟨ret_bool HN.out.symm, Below.refl _ _⟩
theorem sameTexts_yes {l : List (List UInt8)} {w : World} {b1 b2 : Nat} {v u : Value} (hv : w.ownsRow b1 9 1 v l.length (l.map sv)) (hu : w.ownsRow b2 9 1 u l.length (l.map sv)) (hl : l.length ≤ 100000) :
    Calls Tryz.prog 17 #[v, u] w fun e w' => e = .returned (.bool true) ∧ Below w.heap.size w w' := by
  obtain ⟨a, ca, rfl, ha, _, _⟩ := texts_of_owns hv
  obtain ⟨b, cb, rfl, hb, _, _⟩ := texts_of_owns hu
  have := sameTexts_at l l a b ca cb w ha hb hl hl
  rwa [show decide (l = l) = true by simp] at this

theorem firstK_cons (s : List UInt8) (l : List (List UInt8)) : firstK (s :: l) = if beginK s ≠ 0 then beginK s else firstK l := rfl
theorem firstK_app : ∀ (a b : List (List UInt8)), firstK (a ++ b) = if firstK a ≠ 0 then firstK a else firstK b
  | [], b => by simp [firstK]
  | s :: a, b => by
    show firstK (s :: (a ++ b)) = _
    by_cases h : beginK s = 0
    · have e : ∀ l, firstK (s :: l) = firstK l := fun l => by rw [firstK_cons, if_neg (by rw [h]; simp)]
      rw [e, e]
      exact firstK_app a b
    · have e : ∀ l, firstK (s :: l) = beginK s := fun l => by rw [firstK_cons, if_pos h]
      rw [e, e, if_pos h]
theorem firstK_take_ne {t : List (List UInt8)} {k : Nat} (h : firstK (t.take k) ≠ 0) : firstK t = firstK (t.take k) := by
  have := firstK_app (t.take k) (t.drop k)
  rwa [List.take_append_drop, if_pos h] at this
theorem firstK_take_next {t : List (List UInt8)} {k : Nat} (hk : k < t.length) (h : firstK (t.take k) = 0) : firstK (t.take (k + 1)) = beginK t[k] := by
  rw [List.take_succ_eq_append_getElem hk, firstK_app, if_neg (by rw [h]; simp), firstK_cons]
  by_cases h1 : beginK t[k] = 0
  · rw [if_neg (by rw [h1]; simp), h1]; rfl
  · rw [if_pos h1]
theorem rq_at {l : List Ru} {k : Nat} (hk : k < l.length) : (l.map Ru.q)[k]'(by simpa using hk) = l[k].q := by simp
theorem rulesF_is_at {l : List Ru} {k : Nat} {z : Nat} (hn : ¬ 10 < l.length) (hk : k < l.length) (hz : ∀ j (h : j < l.length), j < k → ruleK l[j].q = 0) (h : ruleK l[k].q = z) (h0 : z ≠ 0) : rulesF (l.map Ru.q) = (z, (k : Int)) := by
  have := rulesF_at (l := l.map Ru.q) (k := k) (by simpa using hn) (by simpa using hk) (fun j hj hjk => by rw [rq_at (by simpa using hj)]; exact hz j _ hjk) (by rw [rq_at hk, h]; exact h0)
  rwa [rq_at hk, h] at this
theorem rulesF_is_end {l : List Ru} (hn : ¬ 10 < l.length) (hz : ∀ j (h : j < l.length), ruleK l[j].q = 0) : rulesF (l.map Ru.q) = (0, -1) :=
  rulesF_end (by simpa using hn) fun j hj => by rw [rq_at (by simpa using hj)]; exact hz j _

set_option maxRecDepth 100000 in
set_option maxHeartbeats 8000000 in
theorem rulesFault_any (l : List Ru) (a : Option Addr) (ca : Nat) (w : World) (hl : RulesAt w a l) (hs : RuSmall l) :
    Calls Tryz.prog 73 #[.slice a l.length ca] w fun e w' => e = .returned (.agg #[.int .i64 ((rulesF (l.map Ru.q)).1 : Nat), .int .i64 (rulesF (l.map Ru.q)).2]) ∧ Below w.heap.size w w' := by
  have hfew := hs.few
  by_cases hlong : 10 < l.length
  · have HT : Hid (rulesF (l.map Ru.q) = (8, -1)) := rulesF_long (by simpa using hlong)
    have h10 : (10 : Int) < (l.length : Int) := by omega
    clear hl
    go_enter Tryz.func73, Tryz.ntmps73
    go_wp2_with fail
    refine (rBare_any 8 _).mono ?_
    rintro e w1 ⟨rfl, hb⟩
    obtain ⟨s0, s1, s2, s3, s4⟩ := slot_two (w := w) (hb.mono (by simp))
    clear hb
    go_wp2
    obtain ⟨q0, q1, q2⟩ := slot_set (w := w) (.int .i64 8) (.int .i64 (-1)) s0 s1 s4
    exact bodyPost_ret (v := .agg #[.int .i64 8, .int .i64 (-1)]) (by simp [results, Tryz.results73, go_sem, q0, q1]) rfl ⟨by rw [HT.out]; rfl, q2⟩
  · have h10 : ¬ (10 : Int) < (l.length : Int) := by omega
    have HL := Lib.hid hl
    have HS := Lib.hid hs
    clear hl hs
    go_enter Tryz.func73, Tryz.ntmps73
    go_wp2_with fail
    go_loopw [3] (fun i wr => ∃ q : Nat, q ≤ l.length ∧ i = .int .i64 q ∧ (∀ j (h : j < l.length), j < q → ruleK l[j].q = 0) ∧ Below (w.heap.size + 1) (w.alloc (.cells #[.int .i64 0, .int .i64 0] 60)) wr) (fun i _ => l.length - (intOf i).toNat)
    case atStart => exact ⟨0, by omega, rfl, fun _ _ h => by omega, Below.refl _ _⟩
    case round =>
      obtain ⟨q, hq, rfl, hz, hb⟩ := hrel
      have HB := Lib.hid hb
      have HZ := Lib.hid hz
      have hsz := hb.size
      have HW := Lib.hid (slot_two hb).2.2.2.2
      clear hb hz
      by_cases hlt : q < l.length
      · have hlt' : (q : Int) < (l.length : Int) := by omega
        have hlw := HL.out.below HW.out
        have HRL := Lib.hid (hlw.each _ (List.getElem_mem hlt)).texts
        obtain ⟨b, o, rfl, c0, c1⟩ := hlw.at hlt
        have hfl := HS.out.begin _ (List.getElem_mem hlt)
        have hnl := HS.out.many _ (List.getElem_mem hlt)
        have HTX := Lib.hid (HS.out.texts _ (List.getElem_mem hlt))
        have HAT := Lib.hid (fun z h h0 => rulesF_is_at (l := l) (k := q) (z := z) hlong hlt HZ.out h h0)
        have HNX : Hid (ruleK l[q].q = 0 → ∀ j (h : j < l.length), j < q + 1 → ruleK l[j].q = 0) := by
          intro hc j hj hjq
          by_cases e : j = q
          · subst e; exact hc
          · exact HZ.out j hj (by omega)
        clear hlw
        generalize l[q] = r at c0 c1 hfl hnl HRL HTX HAT HNX
        obtain ⟨f, t, ta, tc⟩ := r
        simp only at c0 c1 hfl hnl HRL HTX
        obtain ⟨z, hz⟩ : ∃ z : Int, ((beginK f : Nat) : Int) = z := ⟨_, rfl⟩
        by_cases h1 : beginK f = 0
        · obtain rfl : z = 0 := by rw [← hz, h1]; rfl
          have HZ1 := Lib.hid hz
          clear hz
          by_cases h8 : 8 < t.length
          · have HF := Lib.hid (HAT.out 8 (ruleK_full h1 h8) (by decide))
            have h8' : (8 : Int) < (t.length : Int) := by omega
            clear h1 h8
            go_wp2_with fail
            refine (beginError_is f _ _ (by omega) HZ1.out).mono ?_
            rintro e w1 ⟨rfl, hb1⟩
            have HB1 := HB.out.trans (hb1.mono (by rw [World.size_alloc] at hsz; omega))
            obtain ⟨s0, s1, s2, s3, s4⟩ := slot_two HB1
            have d1 : w1.cell? ⟨b, o + q * 2 + 1, none⟩ = some (.slice ta t.length tc) := (hb1.cell (p := ⟨b, o + q * 2 + 1, none⟩) (block_lt_of_cell c1)).trans c1
            clear hb1 HB1 c0 c1
            go_wp2_with fail
            refine wp_loop_rounds 1 ?_
            rw [rounds_succ]
            go_wp2
            all_goals
              obtain ⟨q0, q1, q2⟩ := slot_set (w := w) (.int .i64 8) (.int .i64 q) s0 s1 s4
              exact bodyPost_ret (v := .agg #[.int .i64 8, .int .i64 q]) (by simp [results, Tryz.results73, go_sem, q0, q1]) rfl ⟨by rw [HF.out]; rfl, q2⟩
          · have HK := Lib.hid (ruleK_to (q := (f, t)) h1 h8)
            have h8' : ¬ (8 : Int) < (t.length : Int) := by omega
            clear h1
            go_wp2_with fail
            refine (beginError_is f _ _ (by omega) HZ1.out).mono ?_
            rintro e w1 ⟨rfl, hb1⟩
            have HB1 := Lib.hid (HB.out.trans (hb1.mono (by rw [World.size_alloc] at hsz; omega)))
            have HW1 := Lib.hid hb1
            have d1 : w1.cell? ⟨b, o + q * 2 + 1, none⟩ = some (.slice ta t.length tc) := (hb1.cell (p := ⟨b, o + q * 2 + 1, none⟩) (block_lt_of_cell c1)).trans c1
            clear hb1
            go_wp2_with fail
            obtain ⟨wo, hwo⟩ : ∃ wo, wo = wr := ⟨_, rfl⟩
            rw [← hwo] at HB HW HRL c0 c1 HW1 hsz
            clear hwo
            go_loopw [4, 5] (fun e i wr => ∃ k : Nat, k ≤ t.length ∧ i = .int .i64 k ∧ e = .int .i64 ((firstK (t.take k) : Nat) : Int) ∧ Below wo.heap.size wo wr) (fun _ i _ => t.length - (intOf i).toNat)
            case atStart => exact ⟨0, by omega, rfl, by simp [firstK], HW1.out⟩
            case round =>
              obtain ⟨k, hk, rfl, rfl, hb2⟩ := hrel
              have HB2 := Lib.hid (HB.out.trans (hb2.mono (by rw [World.size_alloc] at hsz; omega)))
              have HW2 := Lib.hid hb2
              have e1 : wr.cell? ⟨b, o + q * 2 + 1, none⟩ = some (.slice ta t.length tc) := (hb2.cell (p := ⟨b, o + q * 2 + 1, none⟩) (block_lt_of_cell c1)).trans c1
              obtain ⟨s0, s1, s2, s3, s4⟩ := slot_two HB2.out
              clear hb2
              by_cases h0 : firstK (t.take k) = 0
              · by_cases hkl : k < t.length
                · have hkl' : (k : Int) < (t.length : Int) := by omega
                  have HN := Lib.hid (firstK_take_next hkl h0)
                  obtain ⟨b2, o2, rfl, x0⟩ := (HRL.out.below HW2.out).at hkl
                  have hxl := HTX.out _ (List.getElem_mem hkl)
                  rw [h0]
                  clear h0
                  generalize t[k] = x at x0 hxl HN
                  go_wp2_with fail
                  refine (beginError_is x _ _ (by omega) rfl).mono ?_
                  rintro e w3 ⟨rfl, hb3⟩
                  have HW3 := Lib.hid (HW2.out.trans (hb3.mono HW2.out.size))
                  clear hb3
                  go_wp2
                  go_roundw
                  case rel => exact ⟨k + 1, by omega, by go_num, by rw [HN.out], HW3.out⟩
                  case measure => simp [intOf]; omega
                · obtain rfl : k = t.length := by omega
                  have HC := Lib.hid (HNX.out (HK.out.trans (by rw [List.take_length] at h0; exact h0)))
                  have hkl' : ¬ (t.length : Int) < (t.length : Int) := by omega
                  rw [h0]
                  clear h0
                  go_wp2
                  go_roundw
                  case rel => exact ⟨q + 1, by omega, by go_num, HC.out, HB2.out⟩
                  case measure => simp [intOf]; omega
              · have HF := Lib.hid (HAT.out (firstK (t.take k)) (HK.out.trans (firstK_take_ne h0)) h0)
                have hn0 : (((firstK (t.take k) : Nat) : Int) == 0) = false := by simp; exact h0
                have hp0 : (0 : Int) < ((firstK (t.take k) : Nat) : Int) := by omega
                clear h0
                generalize firstK (t.take k) = z at HF hn0 hp0
                go_wp2
                all_goals
                  obtain ⟨q0, q1, q2⟩ := slot_set (w := w) (.int .i64 (z : Int)) (.int .i64 q) s0 s1 s4
                  exact bodyPost_ret (v := .agg #[.int .i64 (z : Int), .int .i64 q]) (by simp [results, Tryz.results73, go_sem, q0, q1]) rfl ⟨by rw [HF.out], q2⟩
        · have HF := Lib.hid (HAT.out (beginK f) (ruleK_from h1) h1)
          have hn0 : (z == 0) = false := by rw [← hz]; simp; exact h1
          have hp0 : (0 : Int) < z := by omega
          have HZ1 := Lib.hid hz
          clear hz h1
          go_wp2_with fail
          refine (beginError_is f _ _ (by omega) HZ1.out).mono ?_
          rintro e w1 ⟨rfl, hb1⟩
          have HB1 := HB.out.trans (hb1.mono (by rw [World.size_alloc] at hsz; omega))
          obtain ⟨s0, s1, s2, s3, s4⟩ := slot_two HB1
          have d1 : w1.cell? ⟨b, o + q * 2 + 1, none⟩ = some (.slice ta t.length tc) := (hb1.cell (p := ⟨b, o + q * 2 + 1, none⟩) (block_lt_of_cell c1)).trans c1
          clear hb1 HB1 c0 c1
          go_wp2_with fail
          refine wp_loop_rounds 1 ?_
          rw [rounds_succ]
          go_wp2
          all_goals
            obtain ⟨q0, q1, q2⟩ := slot_set (w := w) (.int .i64 z) (.int .i64 q) s0 s1 s4
            exact bodyPost_ret (v := .agg #[.int .i64 z, .int .i64 q]) (by simp [results, Tryz.results73, go_sem, q0, q1]) rfl ⟨by rw [HF.out, ← HZ1.out], q2⟩
      · obtain rfl : q = l.length := by omega
        have HF : Hid (rulesF (l.map Ru.q) = (0, -1)) := rulesF_is_end hlong fun j hj => HZ.out j hj hj
        go_wp2_with fail
        refine (rFine_any _).mono ?_
        rintro e w1 ⟨rfl, hb1⟩
        have HB1 := HB.out.trans (hb1.mono (by rw [World.size_alloc] at hsz; omega))
        obtain ⟨s0, s1, s2, s3, s4⟩ := slot_two HB1
        clear hb1 HB1
        go_wp2
        obtain ⟨q0, q1, q2⟩ := slot_set (w := w) (.int .i64 0) (.int .i64 (-1)) s0 s1 s4
        exact bodyPost_ret (v := .agg #[.int .i64 0, .int .i64 (-1)]) (by simp [results, Tryz.results73, go_sem, q0, q1]) rfl ⟨by rw [HF.out]; rfl, q2⟩
end Go.Proofs.YtaegcoidpjcbaaaGreatDoor
/-
  The law package's LongRules and OwnRules: over this seat's translation.
-/
namespace Go.Proofs.YtaegcoidpjcbaaaGreatDoor
open Go.RowKit Go.Shelf

def longT (t : List UInt8) : Bool := decide (120 < t.length)
def longRu (r : Ru) : Bool := decide (120 < r.f.length) || decide (10 < r.t.length) || r.t.any longT
def longR (l : List Ru) : Nat := if 12 < l.length then 1 else if l.any longRu then 1 else 0
theorem longR_or (l : List Ru) : (longR l : Int) = 0 ∨ (longR l : Int) = 1 := by
  unfold longR
  repeat' split
  all_goals simp
theorem longR_small {l : List Ru} (h : (longR l : Int) = 0) : RuSmall l ∧ l.length ≤ 12 ∧ ∀ r ∈ l, r.t.length ≤ 10 ∧ ∀ t ∈ r.t, t.length ≤ 120 := by
  unfold longR at h
  split at h
  · simp at h
  · split at h
    · simp at h
    · rename_i h1 h2
      have h3 : ∀ r ∈ l, r.f.length ≤ 120 ∧ r.t.length ≤ 10 ∧ ∀ t ∈ r.t, t.length ≤ 120 := by
        intro r hr
        have : longRu r = false := by
          cases hc : longRu r with
          | false => rfl
          | true => exact absurd (List.any_eq_true.2 ⟨r, hr, hc⟩) h2
        simp only [longRu, Bool.or_eq_false_iff, decide_eq_false_iff_not, List.any_eq_false, longT, decide_eq_true_eq] at this
        exact ⟨by omega, by omega, fun t ht => by have := this.2 t ht; omega⟩
      exact ⟨⟨by omega, fun r hr => by have := (h3 r hr).1; omega, fun r hr => by have := (h3 r hr).2.1; omega, fun r hr t ht => by have := (h3 r hr).2.2 t ht; omega⟩, by omega, fun r hr => (h3 r hr).2⟩

set_option maxRecDepth 100000 in
set_option maxHeartbeats 4000000 in
theorem longRules_any (l : List Ru) (a : Option Addr) (ca : Nat) (w : World) (hl : RulesAt w a l) (hm : l.length ≤ maxLen) (hf : ∀ r ∈ l, r.f.length ≤ maxLen ∧ r.t.length ≤ maxLen ∧ ∀ t ∈ r.t, t.length ≤ maxLen) :
    Calls Tryz.prog 28 #[.slice a l.length ca] w fun e w' => e = .returned (.int .i64 (longR l)) ∧ w' = w := by
  unfold maxLen at hm hf
  by_cases hlong : 12 < l.length
  · have HT : Hid (longR l = 1) := by show longR l = 1; unfold longR; rw [if_pos hlong]
    have h12 : (12 : Int) < (l.length : Int) := by omega
    clear hl hf
    go_enter Tryz.func28, Tryz.ntmps28
    go_wp2
    go_ret
    exact ⟨by rw [HT.out]; rfl, rfl⟩
  · have h12 : ¬ (12 : Int) < (l.length : Int) := by omega
    have HM := Lib.hid hlong
    have HL := Lib.hid hl
    have HF := Lib.hid hf
    clear hl hf hlong
    go_enter Tryz.func28, Tryz.ntmps28
    go_wp2_with fail
    go_loopw [3] (fun i wr => ∃ q : Nat, q ≤ l.length ∧ i = .int .i64 q ∧ (l.take q).any longRu = false ∧ wr = w) (fun i _ => l.length - (intOf i).toNat)
    case atStart => exact ⟨0, by omega, rfl, by simp, rfl⟩
    case round =>
      obtain ⟨q, hq, rfl, hn, rfl⟩ := hrel
      have HN := Lib.hid hn
      clear hn
      by_cases hlt : q < l.length
      · have hlt' : (q : Int) < (l.length : Int) := by omega
        have HRL := Lib.hid (HL.out.each _ (List.getElem_mem hlt)).texts
        obtain ⟨b, o, rfl, c0, c1⟩ := HL.out.at hlt
        have hbound := HF.out _ (List.getElem_mem hlt)
        have HYES : Hid (longRu l[q] = true → longR l = 1) := by
          intro h
          unfold longR
          rw [if_neg HM.out, if_pos (List.any_eq_true.2 ⟨_, List.getElem_mem hlt, h⟩)]
        have HNO : Hid (longRu l[q] = false → (l.take (q + 1)).any longRu = false) := by
          intro h
          rw [List.take_succ_eq_append_getElem hlt, List.any_append, HN.out]
          simp only [List.any_cons, List.any_nil, h, Bool.or_false]
        generalize l[q] = r at c0 c1 hbound HRL HYES HNO
        obtain ⟨f, t, ta, tc⟩ := r
        simp only at c0 c1 hbound HRL
        obtain ⟨hfl, htl, htt⟩ := hbound
        have HTT := Lib.hid htt
        clear htt
        by_cases h1 : 120 < f.length
        · have HY := Lib.hid (HYES.out (by simp [longRu, h1]))
          have h1' : (120 : Int) < (f.length : Int) := by omega
          clear h1
          go_wp2
          go_ret
          exact ⟨by rw [HY.out]; rfl, rfl⟩
        · have h1' : decide ((120 : Int) < (f.length : Int)) = false := by simp; omega
          by_cases h2 : 10 < t.length
          · have HY := Lib.hid (HYES.out (by simp [longRu, h2]))
            have h2' : (10 : Int) < (t.length : Int) := by omega
            clear h1 h2
            go_wp2
            go_ret
            exact ⟨by rw [HY.out]; rfl, rfl⟩
          · have h2' : decide ((10 : Int) < (t.length : Int)) = false := by simp; omega
            have HT1 : Hid (t.any longT = true → longR l = 1) := fun h => HYES.out (by simp [longRu, h])
            have HT0 : Hid (t.any longT = false → (l.take (q + 1)).any longRu = false) := fun h => HNO.out (by simp [longRu, h]; omega)
            clear h1 h2
            go_wp2_with fail
            go_loopw [4] (fun i wq => ∃ k : Nat, k ≤ t.length ∧ i = .int .i64 k ∧ (t.take k).any longT = false ∧ wq = wr) (fun i _ => t.length - (intOf i).toNat)
            case atStart => exact ⟨0, by omega, rfl, by simp, rfl⟩
            case round =>
              obtain ⟨k, hk, rfl, hn2, rfl⟩ := hrel
              have HN2 := Lib.hid hn2
              clear hn2
              by_cases hkl : k < t.length
              · have hkl' : (k : Int) < (t.length : Int) := by omega
                obtain ⟨b2, o2, rfl, x0⟩ := HRL.out.at hkl
                have hxl := HTT.out _ (List.getElem_mem hkl)
                by_cases h3 : 120 < t[k].length
                · have HY := Lib.hid (HT1.out (List.any_eq_true.2 ⟨_, List.getElem_mem hkl, by simp [longT, h3]⟩))
                  have h3' : (120 : Int) < (t[k].length : Int) := by omega
                  clear h3
                  generalize t[k] = x at x0 hxl h3'
                  go_wp2
                  go_ret
                  exact ⟨by rw [HY.out]; rfl, rfl⟩
                · have HN3 : Hid ((t.take (k + 1)).any longT = false) := by
                    show List.any _ _ = false
                    rw [List.take_succ_eq_append_getElem hkl, List.any_append, HN2.out]
                    simp only [List.any_cons, List.any_nil, Bool.or_false, longT, Bool.false_or, decide_eq_false_iff_not]
                    exact h3
                  have h3' : ¬ (120 : Int) < (t[k].length : Int) := by omega
                  clear h3
                  generalize t[k] = x at x0 hxl h3'
                  go_wp2
                  go_roundw
                  case rel => exact ⟨k + 1, by omega, by go_num, HN3.out, trivial⟩
                  case measure => simp [intOf]; omega
              · obtain rfl : k = t.length := by omega
                have HNN := Lib.hid (HT0.out (by have := HN2.out; rwa [List.take_length] at this))
                go_wp2
                go_roundw
                case rel => exact ⟨q + 1, by omega, by go_num, HNN.out, trivial⟩
                case measure => simp [intOf]; omega
      · obtain rfl : q = l.length := by omega
        have HT : Hid (longR l = 0) := by
          have := HN.out
          rw [List.take_length] at this
          show longR l = 0
          unfold longR
          rw [if_neg HM.out, if_neg (by rw [this]; decide)]
        go_wp2
        go_ret
        exact ⟨by rw [HT.out]; rfl, rfl⟩
theorem longRules_is (l : List Ru) (a : Option Addr) (ca : Nat) (c : Int) (w : World) (hl : RulesAt w a l) (hm : l.length ≤ maxLen) (hf : ∀ r ∈ l, r.f.length ≤ maxLen ∧ r.t.length ≤ maxLen ∧ ∀ t ∈ r.t, t.length ≤ maxLen) (h : (longR l : Int) = c) :
    Calls Tryz.prog 28 #[.slice a l.length ca] w fun e w' => e = .returned (.int .i64 c) ∧ w' = w := by
  have := longRules_any l a ca w hl hm hf
  rwa [h] at this
end Go.Proofs.YtaegcoidpjcbaaaGreatDoor
