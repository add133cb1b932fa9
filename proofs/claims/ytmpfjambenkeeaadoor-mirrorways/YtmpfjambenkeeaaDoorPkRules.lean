/-
  Package mirror: checkRule, Check, closest: contracts, over this seat's translation.
-/
import Derived.Test.YtmpfjambenkeeaaDoorPkMirror
namespace Go.Proofs.YtmpfjambenkeeaaDoor
open Go.RowKit Go.Shelf

set_option maxRecDepth 100000 in
set_option maxHeartbeats 2000000 in
theorem checkRule_any (p : Nat → Addr) (r : Ru) (w : World) (hE : LEnv p w) (hr : r.Lies w) (hf : r.f.length ≤ 20000) (hn : r.t.length ≤ 1000) (ht : ∀ t ∈ r.t, t.length ≤ 20000) :
    Calls Tryd.prog 41 #[rv r] w fun e w' => e = .returned (errV p (ruleK r.q)) ∧ Below w.heap.size w w' := by
  obtain ⟨f, t, a, c⟩ := r
  have HT := Lib.hid hr.texts
  have HE := Lib.hid hE
  have HTL := Lib.hid ht
  simp only at hf hn HT HTL ⊢
  clear hE hr ht
  obtain ⟨W, hW⟩ : ∃ W, W = w.alloc (.cells #[.string ⟨f.toArray⟩, .slice a t.length c] 45) := ⟨_, rfl⟩
  have hBW : Below w.heap.size w W := by rw [hW]; exact (Below.refl _ _).alloc (Nat.le_refl _) _
  have hTwo : Two W w.heap.size (.string ⟨f.toArray⟩) (.slice a t.length c) 45 := by rw [hW]; exact Two.new _ _ _ _
  have HBW := Lib.hid hBW
  have HTwo := Lib.hid hTwo
  obtain ⟨x0, x1, _, _⟩ := hTwo.cells
  clear hBW hTwo
  cases h1 : beginK f with
  | succ k =>
    have HR : Hid (ruleK (f, t) = k + 1) := by show ruleK (f, t) = k + 1; rw [ruleK_from (by rw [h1]; simp)]; exact h1
    have H1 := Lib.hid h1
    clear h1
    go_enter Tryd.func41, Tryd.ntmps41
    go_wp2_with fail
    rw [← hW]
    refine (linkBegins_is p f _ _ (HE.out.below HBW.out) (by omega) H1.out).mono ?_
    rintro e w1 ⟨rfl, hb1⟩
    have HB1 := Lib.hid (HBW.out.trans (hb1.mono HBW.out.size))
    clear hb1
    rw [errV_some p (Nat.succ_ne_zero k)]
    go_wp2
    go_ret
    exact ⟨by show _ = Ending.returned (errV p (ruleK (f, t))); rw [HR.out]; rfl, HB1.out⟩
  | zero =>
    have H1 := Lib.hid h1
    by_cases h8 : 8 < t.length
    · have HR : Hid (ruleK (f, t) = 8) := ruleK_full h1 h8
      have h8' : (8 : Int) < (t.length : Int) := by omega
      clear h1 h8
      go_enter Tryd.func41, Tryd.ntmps41
      go_wp2_with fail
      rw [← hW]
      refine (linkBegins_is p f _ _ (HE.out.below HBW.out) (by omega) H1.out).mono ?_
      rintro e w1 ⟨rfl, hb1⟩
      have HB1 := Lib.hid (HBW.out.trans (hb1.mono HBW.out.size))
      obtain ⟨y0, y1, _, _⟩ := (HTwo.out.below hb1 HTwo.out.lt).cells
      have hg := (HE.out.below HB1.out).s7
      clear hb1
      rw [errV_zero]
      go_wp2
      go_ret
      exact ⟨by show _ = Ending.returned (errV p (ruleK (f, t))); rw [HR.out]; rfl, HB1.out⟩
    · have HR : Hid (ruleK (f, t) = firstK t) := ruleK_to h1 h8
      have h8' : ¬ (8 : Int) < (t.length : Int) := by omega
      clear h1
      go_enter Tryd.func41, Tryd.ntmps41
      go_wp2_with fail
      rw [← hW]
      refine (linkBegins_is p f _ _ (HE.out.below HBW.out) (by omega) H1.out).mono ?_
      rintro e w1 ⟨rfl, hb1⟩
      have HB1 := Lib.hid (HBW.out.trans (hb1.mono HBW.out.size))
      obtain ⟨y0, y1, _, _⟩ := (HTwo.out.below hb1 HTwo.out.lt).cells
      clear hb1
      rw [errV_zero]
      go_wp2_with fail
      go_loopw [21] (fun i wr => ∃ q : Nat, q ≤ t.length ∧ i = .int .i64 q ∧ (∀ j (h : j < t.length), j < q → beginK t[j] = 0) ∧ Below w.heap.size w wr) (fun i _ => t.length - (intOf i).toNat)
      case atStart => exact ⟨0, by omega, rfl, fun _ _ h => by omega, HB1.out⟩
      case round =>
        obtain ⟨q, hq, rfl, hz, hb⟩ := hrel
        have HB := Lib.hid hb
        have HZ := Lib.hid hz
        clear hb hz
        by_cases hlt : q < t.length
        · have hlt' : (q : Int) < (t.length : Int) := by omega
          obtain ⟨b, o, rfl, c0⟩ := (HT.out.below HB.out).at hlt
          have hxl := HTL.out _ (List.getElem_mem hlt)
          cases h2 : beginK t[q] with
          | succ k =>
            have HF : Hid (firstK t = k + 1) := by show firstK t = _; rw [firstK_at hlt HZ.out (by rw [h2]; simp)]; exact h2
            have H2 := Lib.hid h2
            clear h2
            generalize t[q] = x at c0 hxl H2
            go_wp2_with fail
            refine (linkBegins_is p x _ _ (HE.out.below HB.out) (by omega) H2.out).mono ?_
            rintro e w2 ⟨rfl, hb2⟩
            have HB2 := Lib.hid (HB.out.trans (hb2.mono HB.out.size))
            clear hb2
            rw [errV_some p (Nat.succ_ne_zero k)]
            go_wp2
            go_ret
            exact ⟨by show _ = Ending.returned (errV p (ruleK (f, t))); rw [HR.out, HF.out]; rfl, HB2.out⟩
          | zero =>
            have HN : Hid (∀ j (h : j < t.length), j < q + 1 → beginK t[j] = 0) := by
              intro j hj hjq
              by_cases e : j = q
              · subst e; exact h2
              · exact HZ.out j hj (by omega)
            have H2 := Lib.hid h2
            clear h2
            generalize t[q] = x at c0 hxl H2
            go_wp2_with fail
            refine (linkBegins_is p x _ _ (HE.out.below HB.out) (by omega) H2.out).mono ?_
            rintro e w2 ⟨rfl, hb2⟩
            have HB2 := Lib.hid (HB.out.trans (hb2.mono HB.out.size))
            clear hb2
            rw [errV_zero]
            go_wp2
            go_roundw
            case rel => exact ⟨q + 1, by omega, by go_num, HN.out, HB2.out⟩
            case measure => simp [intOf]; omega
        · obtain rfl : q = t.length := by omega
          have HF : Hid (firstK t = 0) := firstK_end fun j hj => HZ.out j hj hj
          go_wp2
          go_ret
          exact ⟨by show _ = Ending.returned (errV p (ruleK (f, t))); rw [HR.out, HF.out]; rfl, HB.out⟩
theorem checkRule_is (p : Nat → Addr) (r : Ru) (k : Nat) (w : World) (hE : LEnv p w) (hr : r.Lies w) (hf : r.f.length ≤ 20000) (hn : r.t.length ≤ 1000) (ht : ∀ t ∈ r.t, t.length ≤ 20000) (h : ruleK r.q = k) :
    Calls Tryd.prog 41 #[rv r] w fun e w' => e = .returned (errV p k) ∧ Below w.heap.size w w' := by
  have := checkRule_any p r w hE hr hf hn ht
  rwa [h] at this

theorem map_q_at {l : List Ru} {k : Nat} (hk : k < l.length) : (l.map Ru.q)[k]'(by simpa using hk) = l[k].q := by simp
theorem rulesF_ru_at {l : List Ru} {k : Nat} (hn : ¬ 10 < l.length) (hk : k < l.length) (hz : ∀ j (h : j < l.length), j < k → ruleK l[j].q = 0) (h : ruleK l[k].q ≠ 0) : rulesF (l.map Ru.q) = (ruleK l[k].q, (k : Int)) := by
  have := rulesF_at (l := l.map Ru.q) (k := k) (by simpa using hn) (by simpa using hk) (fun j hj hjk => by rw [map_q_at (by simpa using hj)]; exact hz j _ hjk) (by rw [map_q_at hk]; exact h)
  rwa [map_q_at hk] at this
theorem rulesF_ru_end {l : List Ru} (hn : ¬ 10 < l.length) (hz : ∀ j (h : j < l.length), ruleK l[j].q = 0) : rulesF (l.map Ru.q) = (0, -1) :=
  rulesF_end (by simpa using hn) fun j hj => by rw [map_q_at (by simpa using hj)]; exact hz j _

set_option maxRecDepth 100000 in
set_option maxHeartbeats 4000000 in
theorem mirrorCheck_any (p : Nat → Addr) (l : List Ru) (a : Option Addr) (ca : Nat) (w : World) (hE : LEnv p w) (hl : RulesAt w a l) (hs : RuSmall l) :
    Calls Tryd.prog 27 #[.slice a l.length ca] w fun e w' => (∃ v, e = .returned v ∧ ErrAt p w' v (rulesF (l.map Ru.q)).1 (rulesF (l.map Ru.q)).2) ∧ Below w.heap.size w w' := by
  have hfew := hs.few
  have HE := Lib.hid hE
  by_cases hlong : 10 < l.length
  · have HT : Hid (rulesF (l.map Ru.q) = (8, -1)) := rulesF_long (by simpa using hlong)
    have h10 : (10 : Int) < (l.length : Int) := by omega
    have s7 := hE.s7
    clear hl hE
    go_enter Tryd.func27, Tryd.ntmps27
    go_wp2
    go_ret
    exact ⟨⟨_, rfl, by rw [HT.out]; exact .inr (.inl ⟨7, rfl, by omega, rfl, rfl⟩)⟩, Below.refl _ _⟩
  · have h10 : ¬ (10 : Int) < (l.length : Int) := by omega
    have HL := Lib.hid hl
    have HS := Lib.hid hs
    clear hl hs hE
    go_enter Tryd.func27, Tryd.ntmps27
    go_wp2_with fail
    go_loopw [12] (fun i wr => ∃ q : Nat, q ≤ l.length ∧ i = .int .i64 q ∧ (∀ j (h : j < l.length), j < q → ruleK l[j].q = 0) ∧ Below w.heap.size w wr) (fun i _ => l.length - (intOf i).toNat)
    case atStart => exact ⟨0, by omega, rfl, fun _ _ h => by omega, Below.refl _ _⟩
    case round =>
      obtain ⟨q, hq, rfl, hz, hb⟩ := hrel
      have HB := Lib.hid hb
      have HZ := Lib.hid hz
      clear hb hz
      by_cases hlt : q < l.length
      · have hlt' : (q : Int) < (l.length : Int) := by omega
        have hlw := HL.out.below HB.out
        have HRL := Lib.hid (hlw.each _ (List.getElem_mem hlt))
        obtain ⟨b, o, rfl, c0, c1⟩ := hlw.at hlt
        have hfl := HS.out.begin _ (List.getElem_mem hlt)
        have hnl := HS.out.many _ (List.getElem_mem hlt)
        have HTX := Lib.hid (HS.out.texts _ (List.getElem_mem hlt))
        clear hlw
        cases hc : ruleK l[q].q with
        | succ k =>
          have HF : Hid (rulesF (l.map Ru.q) = (k + 1, (q : Int))) := by
            have := rulesF_ru_at (l := l) hlong hlt HZ.out (by rw [hc]; simp)
            rwa [hc] at this
          have HC := Lib.hid hc
          have hk13 : k < 13 := by have := ruleK_small l[q].q; omega
          clear hc
          generalize l[q] = r at c0 c1 hfl hnl HC HRL HTX
          go_wp2_with fail
          obtain ⟨W, hW⟩ : ∃ W, W = wr.alloc (.cells #[.string ⟨r.f.toArray⟩, .slice r.a r.t.length r.c] 45) := ⟨_, rfl⟩
          have hBW : Below wr.heap.size wr W := by rw [hW]; exact (Below.refl _ _).alloc (Nat.le_refl _) _
          rw [← hW]
          clear hW
          have hB0 : Below w.heap.size w W := HB.out.trans (hBW.mono HB.out.size)
          refine (checkRule_is p r _ _ (HE.out.below hB0) (lies_below HRL.out hBW) hfl hnl HTX.out HC.out).mono ?_
          rintro e w2 ⟨rfl, hb2⟩
          have HB2 := Lib.hid (hB0.trans (hb2.mono hB0.size))
          clear hb2 hB0 hBW
          rw [errV_some p (Nat.succ_ne_zero k)]
          go_wp2
          go_ret
          have hpc := (Two.new w2 (.int .i64 q) (.iface 123 (.pointer (some (p k)))) 71).cells
          exact ⟨⟨_, rfl, by rw [HF.out]; exact .inr (.inr ⟨k, _, _, rfl, hk13, rfl, hpc.1, hpc.2.1⟩)⟩, HB2.out.alloc HB2.out.size _⟩
        | zero =>
          have HN : Hid (∀ j (h : j < l.length), j < q + 1 → ruleK l[j].q = 0) := by
            intro j hj hjq
            by_cases e : j = q
            · subst e; exact hc
            · exact HZ.out j hj (by omega)
          have HC := Lib.hid hc
          clear hc
          generalize l[q] = r at c0 c1 hfl hnl HC HRL HTX
          go_wp2_with fail
          obtain ⟨W, hW⟩ : ∃ W, W = wr.alloc (.cells #[.string ⟨r.f.toArray⟩, .slice r.a r.t.length r.c] 45) := ⟨_, rfl⟩
          have hBW : Below wr.heap.size wr W := by rw [hW]; exact (Below.refl _ _).alloc (Nat.le_refl _) _
          rw [← hW]
          clear hW
          have hB0 : Below w.heap.size w W := HB.out.trans (hBW.mono HB.out.size)
          refine (checkRule_is p r _ _ (HE.out.below hB0) (lies_below HRL.out hBW) hfl hnl HTX.out HC.out).mono ?_
          rintro e w2 ⟨rfl, hb2⟩
          have HB2 := Lib.hid (hB0.trans (hb2.mono hB0.size))
          clear hb2 hB0 hBW
          rw [errV_zero]
          go_wp2
          go_roundw
          case rel => exact ⟨q + 1, by omega, by go_num, HN.out, HB2.out⟩
          case measure => simp [intOf]; omega
      · obtain rfl : q = l.length := by omega
        have HF : Hid (rulesF (l.map Ru.q) = (0, -1)) := rulesF_ru_end hlong fun j hj => HZ.out j hj hj
        go_wp2
        go_ret
        exact ⟨⟨_, rfl, by rw [HF.out]; exact .inl ⟨rfl, rfl, rfl⟩⟩, HB.out⟩

theorem hasPrefix_any (s q : List UInt8) (w : World) : Calls Tryd.prog 55 #[.string ⟨s.toArray⟩, .string ⟨q.toArray⟩] w fun e w' => e = .returned (.bool (Lib.hasPrefix s q)) ∧ w' = w :=
  Tryd.strings_HasPrefix ⟨s.toArray⟩ ⟨q.toArray⟩ w
theorem hasPrefix_is' (s q : List UInt8) (r : Bool) (w : World) (h : Lib.hasPrefix s q = r) : Calls Tryd.prog 55 #[.string ⟨s.toArray⟩, .string ⟨q.toArray⟩] w fun e w' => e = .returned (.bool r) ∧ w' = w := by
  have := hasPrefix_any s q w
  rwa [h] at this

/-- The closest of rules. -/
def closestR (s : List UInt8) (l : List Ru) : Ru := closestG Ru.f s noRu l
theorem closestR_q (s : List UInt8) (l : List Ru) : (closestR s l).q = closestQ s (l.map Ru.q) := closestG_map Ru.f Prod.fst Ru.q (fun _ => rfl) s l noRu
theorem closestR_take {s : List UInt8} {l : List Ru} {k : Nat} (hk : k < l.length) : closestR s (l.take (k + 1)) = if nearer Ru.f s (closestR s (l.take k)) l[k] then l[k] else closestR s (l.take k) := by
  unfold closestR
  rw [List.take_succ_eq_append_getElem hk, closestG_snoc]
theorem closestR_small {s : List UInt8} {l : List Ru} (P : Ru → Prop) (h0 : P noRu) (h : ∀ r ∈ l, P r) : P (closestR s l) := by
  rcases closestG_mem Ru.f s l noRu with h1 | h1
  · unfold closestR; rw [h1]; exact h0
  · exact h _ h1
theorem nearer_no {s : List UInt8} {b r : Ru} (h : Lib.hasPrefix s r.f = false) : nearer Ru.f s b r = false := by unfold nearer; rw [h]; rfl
theorem nearer_short {s : List UInt8} {b r : Ru} (h : ¬ b.f.length < r.f.length) : nearer Ru.f s b r = false := by unfold nearer; simp [h]
theorem nearer_yes {s : List UInt8} {b r : Ru} (h : Lib.hasPrefix s r.f = true) (h1 : b.f.length < r.f.length) : nearer Ru.f s b r = true := by unfold nearer; simp [h, h1]

set_option maxRecDepth 100000 in
set_option maxHeartbeats 4000000 in
theorem closest_any (s : List UInt8) (l : List Ru) (a : Option Addr) (ca : Nat) (w : World) (hl : RulesAt w a l) (hs : RuSmall l) :
    Calls Tryd.prog 39 #[.slice a l.length ca, .string ⟨s.toArray⟩] w fun e w' => e = .returned (rv (closestR s l)) ∧ Below w.heap.size w w' := by
  have hfew := hs.few
  have HL := Lib.hid hl
  have HS := Lib.hid hs
  clear hl hs
  go_enter Tryd.func39, Tryd.ntmps39
  go_wp2_with fail
  go_loopw [10] (fun i wr => ∃ q : Nat, q ≤ l.length ∧ i = .int .i64 q ∧ Two wr w.heap.size (.string ⟨#[]⟩) (.slice none 0 0) 45 ∧ Two wr (w.heap.size + 1) (sv (closestR s (l.take q)).f) (.slice (closestR s (l.take q)).a (closestR s (l.take q)).t.length (closestR s (l.take q)).c) 45 ∧ Below w.heap.size w wr) (fun i _ => l.length - (intOf i).toNat)
  case atStart =>
    refine ⟨0, by omega, rfl, ?_, ?_, ((Below.refl _ _).alloc (Nat.le_refl _) _).alloc (by simp) _⟩
    · exact (Two.new w _ _ _).keep (Below.heap_alloc _ _ _ (by simp))
    · have := Two.new (w.alloc (.cells #[.string ⟨#[]⟩, .slice none 0 0] 45)) (.string ⟨#[]⟩) (.slice none 0 0) 45
      rw [World.size_alloc] at this
      exact this
  case round =>
    obtain ⟨q, hq, rfl, h0, h1, hb⟩ := hrel
    have HB := Lib.hid hb
    have H0 := Lib.hid h0
    have H1 := Lib.hid h1
    clear hb h0 h1
    by_cases hlt : q < l.length
    · have hlt' : (q : Int) < (l.length : Int) := by omega
      have HN := Lib.hid (closestR_take (s := s) hlt)
      have hlw := HL.out.below HB.out
      obtain ⟨b, o, rfl, c0, c1⟩ := hlw.at hlt
      have hfl := HS.out.begin _ (List.getElem_mem hlt)
      have hbl := closestR_small (s := s) (l := l.take q) (fun r => r.f.length ≤ 20000) (by simp [noRu]) (fun r hr => HS.out.begin r (List.mem_of_mem_take hr))
      clear hlw
      generalize closestR s (l.take q) = best at H1 HN hbl
      generalize l[q] = r at c0 c1 hfl HN
      go_wp2_with fail
      obtain ⟨W, hW⟩ : ∃ W, W = wr.alloc (.cells #[.string ⟨r.f.toArray⟩, .slice r.a r.t.length r.c] 45) := ⟨_, rfl⟩
      have hBW : Below wr.heap.size wr W := by rw [hW]; exact (Below.refl _ _).alloc (Nat.le_refl _) _
      have hTW : Two W wr.heap.size (.string ⟨r.f.toArray⟩) (.slice r.a r.t.length r.c) 45 := by rw [hW]; exact Two.new _ _ _ _
      rw [← hW]
      clear hW
      have HB0 := Lib.hid (HB.out.trans (hBW.mono HB.out.size))
      have HA0 := Lib.hid (H0.out.below hBW H0.out.lt)
      have HA1 := Lib.hid (H1.out.below hBW H1.out.lt)
      obtain ⟨g0, g1, _, _⟩ := hTW.cells
      obtain ⟨k0, k1, z0, z1⟩ := HA1.out.cells
      clear hBW hTW
      cases hp : Lib.hasPrefix s r.f with
      | false =>
        have HNN := Lib.hid (HN.out.trans (by rw [nearer_no hp, if_neg (by decide)]))
        have HP := Lib.hid hp
        clear hp
        refine (hasPrefix_is' s r.f _ _ HP.out).mono ?_
        rintro e w' ⟨rfl, rfl⟩
        go_wp2
        go_roundw
        case rel => exact ⟨q + 1, by omega, by go_num, HA0.out, by rw [HNN.out]; exact HA1.out, HB0.out⟩
        case measure => simp [intOf]; omega
      | true =>
        have HP := Lib.hid hp
        by_cases hlen : best.f.length < r.f.length
        · have HNN := Lib.hid (HN.out.trans (by rw [nearer_yes hp hlen, if_pos rfl]))
          have hlen' : (best.f.length : Int) < (r.f.length : Int) := by omega
          clear hp
          refine (hasPrefix_is' s r.f _ _ HP.out).mono ?_
          rintro e w' ⟨rfl, rfl⟩
          go_wp2
          go_roundw
          case rel => exact ⟨q + 1, by omega, by go_num, HA0.out.keep (heap_store _ _ (by omega)), by rw [HNN.out]; exact HA1.out.store _ _, below_store _ _ HB0.out (by omega)⟩
          case measure => simp [intOf]; omega
        · have HNN := Lib.hid (HN.out.trans (by rw [nearer_short hlen, if_neg (by decide)]))
          have hlen' : ¬ (best.f.length : Int) < (r.f.length : Int) := by omega
          clear hp
          refine (hasPrefix_is' s r.f _ _ HP.out).mono ?_
          rintro e w' ⟨rfl, rfl⟩
          go_wp2
          go_roundw
          case rel => exact ⟨q + 1, by omega, by go_num, HA0.out, by rw [HNN.out]; exact HA1.out, HB0.out⟩
          case measure => simp [intOf]; omega
    · obtain rfl : q = l.length := by omega
      rw [List.take_length] at H1
      obtain ⟨best, hbest⟩ : ∃ r, closestR s l = r := ⟨_, rfl⟩
      rw [hbest] at H1
      have HBE := Lib.hid hbest
      clear hbest
      obtain ⟨k0, k1, z0, z1⟩ := H1.out.cells
      obtain ⟨s0, s1, s2, s3⟩ := H0.out.cells
      go_wp2
      obtain ⟨q0, q1, q2⟩ := slot_set (w := w) (.string ⟨best.f.toArray⟩) (.slice best.a best.t.length best.c) s0 s1 HB.out
      exact bodyPost_ret (v := .agg #[.string ⟨best.f.toArray⟩, .slice best.a best.t.length best.c]) (by simp [results, Tryd.results39, go_sem, q0, q1]) rfl ⟨by rw [HBE.out], q2⟩
end Go.Proofs.YtmpfjambenkeeaaDoor
