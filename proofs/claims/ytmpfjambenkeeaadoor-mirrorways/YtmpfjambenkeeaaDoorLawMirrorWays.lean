/-
  The law MirrorWays, whatever rules, whatever link and whatever number it is called with: a walk over this seat's translation.
-/
import Derived.Test.YtmpfjambenkeeaaDoorMirrored
import Derived.Test.YtmpfjambenkeeaaDoorRefWays
import Derived.Test.YtmpfjambenkeeaaDoorCameRules
import Derived.Deep.AppendLies
import Derived.Deep.RegionHeld3
import Derived.BigQuiet
namespace Go.Proofs.YtmpfjambenkeeaaDoor
open Go.RowKit Go.Shelf

/-- A rule that is not the longest. -/
def NotLong (s : List UInt8) (l : List Ru) (k : Nat) : Prop := ∃ hk : k < l.length, Lib.hasPrefix s l[k].f = false ∨ ∃ j, ∃ hj : j < l.length, Lib.hasPrefix s l[j].f = true ∧ l[k].f.length < l[j].f.length
theorem less_ways {l : List Ru} {s : List UInt8} {k : Nat} (h0 : (rulesF (l.map Ru.q)).1 = 0) (h1 : checkK s = 0) (h : NotLong s l k) : waysQ ((l.take k).map Ru.q ++ (l.drop (k + 1)).map Ru.q) s = waysQ (l.map Ru.q) s := by
  obtain ⟨hk, h⟩ := h
  rw [List.map_take, List.map_drop]
  refine waysQ_less (l := l.map Ru.q) (k := k) (by simpa using hk) h0 h1 ?_
  rcases h with h | ⟨j, hj, hp, hlen⟩
  · exact .inl (by rw [rq_at hk]; exact h)
  · exact .inr ⟨j, by simpa using hj, by rw [rq_at hj]; exact hp, by rw [rq_at hk, rq_at hj]; exact hlen⟩
/-- append of nothing, within a region. -/
theorem step_append_none {P : Program} (w : World) {ops : Array Oper} {o : Oper} {a : Act} {K : Act → World → Prop} {Q : Exit → Act → World → Prop} {E : Prop} (hgd : o.guard = none) (s x : Operand) (t : TypeId)
    (ho : o.op = .call { callee := .builtin .append, args := #[s, x], argTypes := #[t, t] }) (base : Nat) (e : TypeId) (i : TypeInfo) (size : Nat) (ht : P.underlying t = some (.slice e)) (hi : P.info? e = some i)
    (v : Value) (n : Nat) (xs : List Value) (hs : a.eval s = v) (hown : w.ownsRow base e size v n xs) (hx : a.eval x = .slice none 0 0) (h : K (a.put o.dst v) w) :
    if Region.wanted o (yielded ops a.tmps) = true then Oper.wp P o a w K Q else E := by
  have hw : Region.wanted o (yielded ops a.tmps) = true := by simp [Region.wanted, hgd]
  rw [if_pos hw]
  have hrun := run_append_owned_none (P := P) (w := w) base t o.type e i size ht hi v n xs hown
  unfold Oper.wp
  simp [execOp, ho, resolve, invoke, builtin, hs, hx, hrun, Result.andThen]
  exact h
theorem ownRules_nil (a : Option Addr) (ca : Nat) (w : World) : Calls Tryd.prog 24 #[.slice a 0 ca] w fun e w' => e = .returned (.slice none 0 0) ∧ w' = w := by
  go_enter Tryd.func24, Tryd.ntmps24
  go_wp2_with fail
  refine wp_loop_rounds 1 ?_
  rw [rounds_succ]
  go_wp2
  go_ret
  exact ⟨rfl, rfl⟩
theorem ownRules_zero (a : Option Addr) (n ca : Nat) (w : World) (h : n = 0) : Calls Tryd.prog 24 #[.slice a n ca] w fun e w' => e = .returned (.slice none 0 0) ∧ w' = w := by
  subst h
  exact ownRules_nil a ca w
theorem RuSmall.less {l : List Ru} (h : RuSmall l) (k : Nat) (hk : k < l.length) : RuSmall (l.take k ++ l.drop (k + 1)) := by
  have hm : ∀ r ∈ l.take k ++ l.drop (k + 1), r ∈ l := fun r hr => (List.mem_append.1 hr).elim List.mem_of_mem_take List.mem_of_mem_drop
  exact ⟨by have := h.few; rw [List.length_append, List.length_take, List.length_drop]; omega, fun r hr => h.begin r (hm r hr), fun r hr => h.many r (hm r hr), fun r hr => h.texts r (hm r hr)⟩
/-- Rules of one's own, others of one's own put behind them. -/
theorem rules_joined {w w' : World} {base base' : Nat} {v v' : Value} {m m' : List Ru} {g c : Nat} (h : OwnedRules base w v m) (h' : OwnedRules base' w v' m')
    (hown : w'.ownsRow base 45 2 (.slice (some ⟨g, 0, none⟩) (m.length + m'.length) c) (m.length + m'.length) (rlcells m ++ rlcells m')) (hg : w.grownBy w' v.ownBlock) : RulesAt w' (some ⟨g, 0, none⟩) (m ++ m') := by
  have hr : w'.ownsRow base 45 2 (.slice (some ⟨g, 0, none⟩) (m.length + m'.length) c) (m ++ m').length (rlcells (m ++ m')) := by rw [List.length_append, rlcells_app]; exact hown
  obtain ⟨a, cap, e, hl, _, _⟩ := rules_of_owns hr fun r hr => by
    rcases List.mem_append.1 hr with hx | hx
    · exact owned_lies (row_other h.row (h.texts r hx) (by decide) (fun g _ => rfl) (Nat.le_refl _) hg)
    · exact owned_lies (row_other h.row (h'.texts r hx) (by decide) (fun g _ => rfl) (Nat.le_refl _) hg)
  obtain rfl := (Value.slice.inj e).1
  exact hl
theorem ownRules_is (l : List Ru) (a : Option Addr) (n ca : Nat) (w : World) (hl : RulesAt w a l) (hs : RuSmall l) (hn : l.length = n) :
    Calls Tryd.prog 24 #[.slice a n ca] w fun e w' => (∃ v m, e = .returned v ∧ m.map Ru.q = l.map Ru.q ∧ OwnedRules w.heap.size w' v m) ∧ Below w.heap.size w w' := by
  have := ownRules_any l a ca w hl hs
  rwa [hn] at this
theorem RulesAt.take {w : World} {a : Option Addr} {l : List Ru} (h : RulesAt w a l) (k : Nat) : RulesAt w a (l.take k) := ⟨fun r hr => h.each r (List.mem_of_mem_take hr), fun hne => by
  have hl : l ≠ [] := fun e => hne (by rw [e]; simp)
  obtain ⟨b, o, e, hc⟩ := h.row hl
  refine ⟨b, o, e, fun j hj => ?_⟩
  rw [List.getElem_take]
  exact hc j (by rw [List.length_take] at hj; omega)⟩
theorem RulesAt.drop {w : World} {b o : Nat} {l : List Ru} (h : RulesAt w (some ⟨b, o, none⟩) l) (k : Nat) : RulesAt w (some ⟨b, o + k * 2, none⟩) (l.drop k) := ⟨fun r hr => h.each r (List.mem_of_mem_drop hr), fun hne => by
  have hl : l ≠ [] := fun e => hne (by rw [e]; simp)
  obtain ⟨b', o', e, hc⟩ := h.row hl
  cases e
  refine ⟨b, o + k * 2, rfl, fun j hj => ?_⟩
  rw [List.length_drop] at hj
  rw [List.getElem_drop]
  have := hc (k + j) (by omega)
  rw [show o + k * 2 + j * 2 = o + (k + j) * 2 by omega]
  exact this⟩
theorem RuSmall.take {l : List Ru} (h : RuSmall l) (k : Nat) : RuSmall (l.take k) := ⟨by have := h.few; rw [List.length_take]; omega, fun r hr => h.begin r (List.mem_of_mem_take hr), fun r hr => h.many r (List.mem_of_mem_take hr), fun r hr => h.texts r (List.mem_of_mem_take hr)⟩
theorem RuSmall.drop {l : List Ru} (h : RuSmall l) (k : Nat) : RuSmall (l.drop k) := ⟨by have := h.few; rw [List.length_drop]; omega, fun r hr => h.begin r (List.mem_of_mem_drop hr), fun r hr => h.many r (List.mem_of_mem_drop hr), fun r hr => h.texts r (List.mem_of_mem_drop hr)⟩
theorem linkCheck_fine (p : Nat → Addr) (s : List UInt8) (w : World) (hE : LEnv p w) (hs : s.length ≤ 90000) (h : checkK s = 0) :
    Calls Tryd.prog 8 #[.string ⟨s.toArray⟩] w fun e w' => e = .returned .nilIface ∧ Below w.heap.size w w' := by
  have := linkCheck_is p s 0 w hE hs h
  rwa [errV_zero] at this

set_option maxRecDepth 100000 in
set_option maxHeartbeats 16000000 in
theorem mirrorWays_main (p : Nat → Addr) (l : List Ru) (a : Option Addr) (ca : Nat) (s : List UInt8) (n : Int) (w : World) (hL : LEnv p w) (hc : CameR w a ca l) (hs : s.length ≤ 120) (h : (longR l : Int) = 0) :
    Calls Tryd.prog 5 #[.slice a l.length ca, .string ⟨s.toArray⟩, .int .i64 n] w fun e w' => e = .returned (.bool true) ∧ Below w.heap.size w w' := by
  obtain ⟨j0, hj, hy0, hy1, hy2⟩ := info_parts Tryd.infoRule
  have HSM := Lib.hid (longR_small h).1
  have hl12 := (longR_small h).2.1
  have HTX := Lib.hid (longR_small h).2.2
  have HLE := Lib.hid hL
  have HC := Lib.hid hc
  have HLG := Lib.hid h
  have hcap := hc.cap
  have hs' : ¬ (120 : Int) < s.length := by omega
  clear hL hc h
  by_cases h0 : (waysQ (l.map Ru.q) s).2.1 = 0
  · have hz : (rulesF (l.map Ru.q)).1 = 0 ∧ checkK s = 0 := by
      unfold waysQ at h0
      split at h0
      · rename_i h1; exact absurd h0 h1
      · split at h0
        · rename_i h1 h2; exact absurd h0 h2
        · rename_i h1 h2; exact ⟨by omega, by omega⟩
    obtain ⟨hz1, hz2⟩ := hz
    have HWQ := Lib.hid (waysQ_ok (s := s) hz1 hz2)
    have hgood := waysL_good (closestQ s (l.map Ru.q)) hz2
    have hshort : ∀ x ∈ waysL (closestQ s (l.map Ru.q)) s, x.length ≤ 120 + s.length := waysL_short _ _ (by
      rw [← closestR_q]
      exact closestR_small (s := s) (l := l) (fun r => ∀ t ∈ r.t, t.length ≤ 120) (by simp [noRu]) (fun r hr => (HTX.out r hr).2))
    have hwl : (waysL (closestQ s (l.map Ru.q)) s).length ≤ 100000 := by
      have h1 := waysL_length (closestQ s (l.map Ru.q)) s
      have h2 : (closestQ s (l.map Ru.q)).2.length ≤ 1000 := by
        rw [← closestR_q]
        exact closestR_small (s := s) (l := l) (fun r => r.t.length ≤ 1000) (by simp [noRu]) HSM.out.many
      omega
    have HLESS := Lib.hid (fun k hk => less_ways (l := l) (s := s) (k := k) hz1 hz2 hk)
    rw [HWQ.out] at HLESS
    obtain ⟨X, hX⟩ : ∃ X, waysL (closestQ s (l.map Ru.q)) s = X := ⟨_, rfl⟩
    rw [hX] at HWQ hgood hshort hwl HLESS
    obtain ⟨hg1, hg2, hg3⟩ := hgood
    have HND := Lib.hid hg1
    have HCK := Lib.hid hg2
    have HIN : Hid (decide (s ∈ X) = true) := by show decide (s ∈ X) = true; simpa using hg3
    have HSH := Lib.hid hshort
    clear hX h0 hz1 hz2 hg1 hg2 hg3 hshort
    go_enter Tryd.func5, Tryd.ntmps5
    go_wp2_with fail
    refine (mirrored_any p _ HLE.out).mono ?_
    rintro e w1 ⟨rfl, hb1⟩
    have HB1 := Lib.hid hb1
    clear hb1
    go_wp2_with fail
    refine (longRules_is l a ca _ _ (HC.out.lies.below HB1.out) HC.out.len HC.out.texts HLG.out).mono ?_
    rintro e w' ⟨rfl, rfl⟩
    go_wp2_with fail
    refine (waysOn_any p s l a _ ca _ _ (HLE.out.below HB1.out) (HC.out.lies.below HB1.out) HSM.out (by omega) rfl HWQ.out).mono ?_
    rintro e w2 ⟨⟨v, u, rfl, herr, hrow⟩, hb2⟩
    obtain rfl := herr.isNil
    have HB2 := Lib.hid (HB1.out.trans (hb2.mono HB1.out.size))
    have HROW := Lib.hid hrow
    obtain ⟨va, vc, rfl, hta, hvc, hvn⟩ := texts_of_owns hrow
    have HTA := Lib.hid hta
    clear hb2 herr hrow hta hvn
    go_wp2_with fail
    go_loopw [10] (fun i wr => ∃ q : Nat, q ≤ X.length ∧ i = .int .i64 q ∧ Below w2.heap.size w2 wr) (fun i _ => X.length - (intOf i).toNat)
    case atStart => exact ⟨0, by omega, rfl, Below.refl _ _⟩
    case round =>
      obtain ⟨q, hq, rfl, hb⟩ := hrel
      have HW := Lib.hid hb
      have HB := Lib.hid (HB2.out.trans (hb.mono HB2.out.size))
      clear hb
      by_cases hlt : q < X.length
      · have hlt' : (q : Int) < (X.length : Int) := by omega
        have hq0 : (0 : Int) ≤ (q : Int) := by omega
        have hqc : (q : Int) ≤ (vc : Int) := by omega
        obtain ⟨b, o, rfl, x0⟩ := (HTA.out.below HW.out).at hlt
        have hbl : b < wr.heap.size := block_lt_of_cell x0
        have hxl := HSH.out _ (List.getElem_mem hlt)
        have hck := HCK.out _ (List.getElem_mem hlt)
        have HNI : Hid (decide (X[q] ∈ X.take q) = false) := by show decide (X[q] ∈ X.take q) = false; rw [decide_eq_false_iff_not]; exact nodup_take HND.out hlt
        have HTQ : Hid ((X.take q).length = q) := by show (X.take q).length = q; rw [List.length_take]; omega
        generalize X[q] = x at x0 hxl hck HNI
        have HD := linkCheck_fine p x wr.drew (HLE.out.below HB.out.drew) (by omega) hck
        clear hck
        go_wp2_with fail
        go_region_held3 (fun w' => w'.cell? ⟨b, o + q, none⟩ = some (sv x)) (go_keep) (first
          | (go_at_call 8; (with_reducible refine HD.mono ?_); rintro e w5 ⟨rfl, hb5⟩; have e0 := (hb5.cell (p := ⟨b, o + q, none⟩) hbl).trans x0; have hb5' : Below wr.heap.size wr w5 := (Below.refl _ _).drew.trans hb5; have HB5 := Lib.hid (HW.out.trans (hb5'.mono HW.out.size)); clear hb5 hb5')
          | (go_at_call 23; (with_reducible refine (inTexts_is x (some ⟨b, o, none⟩) vc q (X.take q) false w5 (by rw [HTQ.out]; omega) ((HTA.out.below HB5.out).take q) HTQ.out HNI.out).mono ?_); rintro e w6 ⟨rfl, rfl⟩))
        go_wp2
        go_roundw
        case rel => exact ⟨q + 1, by omega, by go_num, HB5.out⟩
        case measure => simp [intOf]; omega
      · obtain rfl : q = X.length := by omega
        by_cases hn : n < 0 ∨ (l.length : Int) ≤ n
        · have HTW := Lib.hid (HTA.out.below HW.out)
          have hcc : n < 0 ∨ (¬ n < 0 ∧ (l.length : Int) ≤ n) := by omega
          clear hn
          rcases hcc with hn | ⟨hn, hn2⟩
          all_goals
            go_wp2_with fail
            refine (inTexts_is s va vc _ X true _ (by omega) HTW.out rfl HIN.out).mono ?_
            rintro e w' ⟨rfl, rfl⟩
            go_wp2_with fail
            refine (inTexts_is s va vc _ X true _ (by omega) HTW.out rfl HIN.out).mono ?_
            rintro e w' ⟨rfl, rfl⟩
            go_wp2
            go_ret
            exact ⟨rfl, HB.out⟩
        · obtain ⟨k, rfl⟩ : ∃ k : Nat, n = (k : Int) := ⟨n.toNat, by omega⟩
          have hk : k < l.length := by omega
          have hk0 : ¬ (k : Int) < 0 := by omega
          have hk0' : (0 : Int) ≤ (k : Int) := by omega
          have hkl : (k : Int) < (l.length : Int) := by omega
          have hkl' : ¬ (l.length : Int) ≤ (k : Int) := by omega
          clear hn
          have HTW := Lib.hid (HTA.out.below HW.out)
          have hlw := HC.out.lies.below HB.out
          obtain ⟨b, o, rfl, c0, c1⟩ := hlw.at hk
          have hfl := HSM.out.begin _ (List.getElem_mem hk)
          clear hlw
          obtain ⟨f, hf⟩ : ∃ f, l[k].f = f := ⟨_, rfl⟩
          rw [hf] at c0 hfl
          have HFK := Lib.hid hf
          obtain ⟨g0, hg0⟩ : ∃ g, Lib.hasPrefix s f = g := ⟨_, rfl⟩
          have HG0 := Lib.hid hg0
          have HNL0 : Hid ((!g0) = true → NotLong s l k) := fun h => ⟨hk, .inl (by rw [HFK.out, HG0.out]; simpa using h)⟩
          clear hf hg0
          go_wp2_with fail
          refine (inTexts_is s va vc _ X true _ (by omega) HTW.out rfl HIN.out).mono ?_
          rintro e w' ⟨rfl, rfl⟩
          go_wp2_with fail
          refine (begins_same s f _ _ (by omega) (by omega) HG0.out).mono ?_
          rintro e w' ⟨rfl, rfl⟩
          go_wp2_with fail
          obtain ⟨wo, hwo⟩ : ∃ wo, wo = w' := ⟨_, rfl⟩
          rw [← hwo] at HB HW HTW c0 c1 ⊢
          clear hwo
          go_loopw [11, 12] (fun gv i wr => ∃ (q : Nat) (g : Bool), q ≤ l.length ∧ i = .int .i64 q ∧ gv = .bool g ∧ (g = true → NotLong s l k) ∧ Below wo.heap.size wo wr) (fun _ i _ => l.length - (intOf i).toNat)
          case atStart => exact ⟨0, !g0, by omega, rfl, rfl, HNL0.out, Below.refl _ _⟩
          case round =>
            obtain ⟨q, g, hq3, rfl, rfl, hgl, hb3⟩ := hrel
            have HGL := Lib.hid hgl
            have HW3 := Lib.hid hb3
            have HB3 := Lib.hid (HB.out.trans (hb3.mono HB.out.size))
            have d0 : wr.cell? ⟨b, o + k * 2, none⟩ = some (sv f) := (hb3.cell (p := ⟨b, o + k * 2, none⟩) (block_lt_of_cell c0)).trans c0
            have hbl : b < wr.heap.size := block_lt_of_cell d0
            clear hgl hb3
            by_cases hlt3 : q < l.length
            · have hlt3' : (q : Int) < (l.length : Int) := by omega
              have hq0 : (0 : Int) ≤ (q : Int) := by omega
              obtain ⟨b', o', e', x0, _⟩ := (HC.out.lies.below HB3.out).at hlt3
              cases e'
              have hrl := HSM.out.begin _ (List.getElem_mem hlt3)
              have HJ : Hid (Lib.hasPrefix s l[q].f = true → f.length < l[q].f.length → NotLong s l k) := fun h1 h2 => ⟨hk, .inr ⟨q, hlt3, h1, by rw [HFK.out]; exact h2⟩⟩
              generalize l[q].f = r at x0 hrl HJ
              cases g with
              | true =>
                have HN := Lib.hid (HGL.out rfl)
                clear HGL
                go_wp2_with fail
                go_quiet (fail)
                go_wp2
                go_roundw
                case rel => exact ⟨q + 1, true, by omega, by go_num, rfl, fun _ => HN.out, below_drewN HW3.out _⟩
                case measure => simp [intOf]; omega
              | false =>
                cases hp : Lib.hasPrefix s r with
                | false =>
                  have HP := Lib.hid hp
                  clear hp
                  go_wp2_with fail
                  go_quiet (first | (go_at_call 11; refine Calls.quiet_of_same (begins_same s r _ _ (by omega) (by omega) HP.out)))
                  go_wp2
                  go_roundw
                  case rel => exact ⟨q + 1, false, by omega, by go_num, rfl, fun h => by (cases h), below_drewN HW3.out _⟩
                  case measure => simp [intOf]; omega
                | true =>
                  have HP := Lib.hid hp
                  by_cases hlen : f.length < r.length
                  · have HN := Lib.hid (HJ.out hp hlen)
                    have hlen' : decide ((f.length : Int) < (r.length : Int)) = true := by simp; omega
                    have HLT : Hid (decide (f.length < r.length) = true) := by show decide (f.length < r.length) = true; simpa using hlen
                    clear hp hlen
                    go_wp2_with fail
                    go_quiet (first | (go_at_call 11; refine Calls.quiet_of_same (begins_same s r _ _ (by omega) (by omega) HP.out)))
                    go_wp2
                    go_roundw
                    case rel => exact ⟨q + 1, true, by omega, by go_num, by rw [HLT.out], fun _ => HN.out, below_drewN HW3.out _⟩
                    case measure => simp [intOf]; omega
                  · have hlen' : decide ((f.length : Int) < (r.length : Int)) = false := by simp; omega
                    have HLT : Hid (decide (f.length < r.length) = false) := by show decide (f.length < r.length) = false; simpa using hlen
                    clear hp hlen
                    go_wp2_with fail
                    go_quiet (first | (go_at_call 11; refine Calls.quiet_of_same (begins_same s r _ _ (by omega) (by omega) HP.out)))
                    go_wp2
                    go_roundw
                    case rel => exact ⟨q + 1, false, by omega, by go_num, by rw [HLT.out], fun h => by (cases h), below_drewN HW3.out _⟩
                    case measure => simp [intOf]; omega
            · obtain rfl : q = l.length := by omega
              cases g with
              | false =>
                go_wp2
                go_ret
                exact ⟨rfl, HB3.out⟩
              | true =>
                have HX := Lib.hid (HLESS.out k (HGL.out rfl))
                have hlw := HC.out.lies.below HB3.out.drew
                have HD1 := ownRules_is (l.take k) (some ⟨b, o, none⟩) k ca wr.drew (hlw.take k) (HSM.out.take k) (by rw [List.length_take]; omega)
                have HROW3 := Lib.hid (row_below (row_below HROW.out HW.out) HW3.out)
                have hw1 : IntKind.i64.wrap ((k : Int) + 1) = (k : Int) + 1 := by rw [IntKind.wrap_i64]; omega
                have hk1 : (0 : Int) ≤ (k : Int) + 1 := by omega
                have hk2 : (k : Int) + 1 ≤ (l.length : Int) := by omega
                have hkc : (k : Int) ≤ (ca : Int) := by omega
                have htn : ((k : Int) + 1).toNat = k + 1 := by omega
                clear hlw
                by_cases hlast : k + 1 < l.length
                · have hcne : ¬ ca = k + 1 := by omega
                  go_wp2_with fail
                  go_region_held3 (fun w' => w'.cell? ⟨b, o + k * 2, none⟩ = some (sv f)) (go_keep) (first
                    | (go_at_call 24; (with_reducible refine HD1.mono ?_); rintro e w5 ⟨⟨v5, m5, rfl, hm5, hown5⟩, hb5⟩; have e0 := (hb5.cell (p := ⟨b, o + k * 2, none⟩) hbl).trans d0; have HR5 := Lib.hid (show Below wr.heap.size wr w5 from (Below.refl _ _).drew.trans hb5); have HOW5 := Lib.hid (show OwnedRules wr.heap.size w5 v5 m5 from hown5); have HM5 := Lib.hid hm5; have HM5L := Lib.hid (show m5.length = k from (by have := congrArg List.length hm5; simp at this; omega)); have hs5 : wr.heap.size ≤ w5.heap.size := HR5.out.size; clear hb5 hown5 hm5)
                    | (go_at_call 24; refine (ownRules_is (l.drop (k + 1)) (some ⟨b, o + (k + 1) * 2, none⟩) _ _ w5 ((HC.out.lies.below (HB3.out.trans (HR5.out.mono HB3.out.size))).drop (k + 1)) (HSM.out.drop (k + 1)) (by rw [List.length_drop])).mono ?_; rintro e w6 ⟨⟨v6, m6, rfl, hm6, hown6⟩, hb6⟩; have e1 := (hb6.cell (p := ⟨b, o + k * 2, none⟩) (by show b < w5.heap.size; omega)).trans e0; have HM6L := Lib.hid (show m6.length = l.length - (k + 1) from (by have := congrArg List.length hm6; simpa using this)); have hs6 : w5.heap.size ≤ w6.heap.size := hb6.size; have HOW6 := Lib.hid (HOW5.out.below hb6); have HR6 := Lib.hid (HR5.out.trans (hb6.mono hs5)); have HM6 := Lib.hid hm6; obtain ⟨a6, c6, rfl, hr6, _, _⟩ := hown6.rules; obtain ⟨g6, og6, e6, _⟩ := hr6.row (fun e => by have hm6l := HM6L.out; rw [e] at hm6l; simp at hm6l; omega); subst e6; have HR6L := Lib.hid hr6; have HO6 := Lib.hid hown6; clear hb6 hm6 hr6 hown6)
                    | (refine step_append_lies _ (by rfl) _ _ _ (by rfl) wr.heap.size 45 j0 (.agg #[.string ⟨#[]⟩, .slice none 0 0]) 2 40 Tryd.underlying39 hj hy0 hy1 hy2 rfl (by decide) _ _ _ (by rfl) HOW6.out.row ⟨g6, og6, none⟩ m6.length c6 (rlcells m6) (by rfl) (rlcells_length m6) HR6L.out.news (rlcells_one m6) (by have := HM6L.out; omega) (by have := HM6L.out; have := HM5L.out; unfold maxLen; omega) (by have := HM6L.out; have := HM5L.out; omega) (by omega) w6.heap.size rfl ?_; intro g7 c7 w7 hown7 hgrow7 hat7 hlt7; have e2 : w7.cell? ⟨b, o + k * 2, none⟩ = some (sv f) := (World.cell?_of_block (hgrow7.block b (by omega) (fun h => by have := (HOW6.out.row.lt b h.symm).1; omega))).trans e1; have HOWN := Lib.hid hown7; have HGR := Lib.hid hgrow7; clear hown7 hgrow7 hat7 hlt7))
                  have HBR := Lib.hid (show Below wr.heap.size wr w7 from HR6.out.grown HGR.out (by omega) (fun k e => (HOW6.out.row.lt k e).1))
                  have HB7 := Lib.hid (HB3.out.trans (HBR.out.mono HB3.out.size))
                  have HROW7 := Lib.hid (row_below HROW3.out HBR.out)
                  have HRA := Lib.hid (rules_joined HOW6.out HO6.out HOWN.out HGR.out)
                  have HMM : Hid ((m5 ++ m6).map Ru.q = (l.take k ++ l.drop (k + 1)).map Ru.q) := by show (m5 ++ m6).map Ru.q = (l.take k ++ l.drop (k + 1)).map Ru.q; rw [List.map_append, List.map_append, HM5.out, HM6.out]
                  have HSL := Lib.hid (small_of_q HMM.out (HSM.out.less k hk))
                  have HWM : Hid (waysQ ((m5 ++ m6).map Ru.q) s = (X, 0, -1)) := by show waysQ ((m5 ++ m6).map Ru.q) s = (X, 0, -1); rw [HMM.out, List.map_append]; exact HX.out
                  go_wp2_with fail
                  refine (waysOn_any p s (m5 ++ m6) _ _ _ _ _ (HLE.out.below HB7.out) HRA.out HSL.out (by omega) (by simp) HWM.out).mono ?_
                  rintro e w8 ⟨⟨v8, u8, rfl, herr8, hrow8⟩, hb8⟩
                  obtain rfl := herr8.isNil
                  have HB8 := Lib.hid (HB7.out.trans (hb8.mono HB7.out.size))
                  have HR8 := Lib.hid (row_below HROW7.out hb8)
                  have HR9 := Lib.hid hrow8
                  clear herr8 hrow8 hb8
                  go_wp2_with fail
                  refine (sameTexts_yes HR8.out HR9.out hwl).mono ?_
                  rintro e w9 ⟨rfl, hb9⟩
                  have HB9 := Lib.hid (HB8.out.trans (hb9.mono HB8.out.size))
                  clear hb9
                  go_wp2
                  go_ret
                  exact ⟨rfl, HB9.out⟩
                · have HKL : Hid (l.length = k + 1) := by show l.length = k + 1; omega
                  have hkz : l.length - (k + 1) = 0 := by omega
                  have hkz' : ((l.length : Int) - ((k : Int) + 1)).toNat = 0 := by omega
                  clear hlast
                  by_cases hcne : ca = k + 1
                  all_goals
                    try subst hcne
                    have hkc3 : (k : Int) ≤ (k : Int) + 1 := by omega
                    have hlc3 : (l.length : Int) ≤ (k : Int) + 1 := by omega
                    go_wp2_with fail
                    go_region_held3 (fun w' => w'.cell? ⟨b, o + k * 2, none⟩ = some (sv f)) (go_keep) (first
                      | (go_at_call 24; (with_reducible refine HD1.mono ?_); rintro e w5 ⟨⟨v5, m5, rfl, hm5, hown5⟩, hb5⟩; have e0 := (hb5.cell (p := ⟨b, o + k * 2, none⟩) hbl).trans d0; have HR5 := Lib.hid (show Below wr.heap.size wr w5 from (Below.refl _ _).drew.trans hb5); have HOW5 := Lib.hid (show OwnedRules wr.heap.size w5 v5 m5 from hown5); have HM5 := Lib.hid hm5; clear hb5 hown5 hm5)
                      | (go_at_call 24; refine (ownRules_zero _ _ _ _ (by omega)).mono ?_; rintro e w6 ⟨rfl, rfl⟩)
                      | (refine step_append_none _ (by rfl) _ _ _ (by rfl) wr.heap.size 45 j0 2 Tryd.underlying39 hj _ _ _ (by rfl) HOW5.out.row (by rfl) ?_))
                    obtain ⟨a5, c5, rfl, hr5, _, _⟩ := HOW5.out.rules
                    have HBR := HR5
                    have HB7 := Lib.hid (HB3.out.trans (HBR.out.mono HB3.out.size))
                    have HROW7 := Lib.hid (row_below HROW3.out HBR.out)
                    have HRA := Lib.hid hr5
                    have HMM : Hid (m5.map Ru.q = (l.take k ++ l.drop (k + 1)).map Ru.q) := by show m5.map Ru.q = (l.take k ++ l.drop (k + 1)).map Ru.q; rw [List.drop_eq_nil_of_le (by have := HKL.out; omega), List.append_nil]; exact HM5.out
                    have HSL := Lib.hid (small_of_q HMM.out (HSM.out.less k hk))
                    have HWM : Hid (waysQ (m5.map Ru.q) s = (X, 0, -1)) := by show waysQ (m5.map Ru.q) s = (X, 0, -1); rw [HMM.out, List.map_append]; exact HX.out
                    clear hr5
                    go_wp2_with fail
                    refine (waysOn_any p s m5 _ _ _ _ _ (HLE.out.below HB7.out) HRA.out HSL.out (by omega) (rfl) HWM.out).mono ?_
                    rintro e w8 ⟨⟨v8, u8, rfl, herr8, hrow8⟩, hb8⟩
                    obtain rfl := herr8.isNil
                    have HB8 := Lib.hid (HB7.out.trans (hb8.mono HB7.out.size))
                    have HR8 := Lib.hid (row_below HROW7.out hb8)
                    have HR9 := Lib.hid hrow8
                    clear herr8 hrow8 hb8
                    go_wp2_with fail
                    refine (sameTexts_yes HR8.out HR9.out hwl).mono ?_
                    rintro e w9 ⟨rfl, hb9⟩
                    have HB9 := Lib.hid (HB8.out.trans (hb9.mono HB8.out.size))
                    clear hb9
                    go_wp2
                    go_ret
                    exact ⟨rfl, HB9.out⟩
  · have hx : (waysQ (l.map Ru.q) s).1 = [] := by
      unfold waysQ at h0 ⊢
      split
      · rfl
      · rename_i h1
        rw [if_neg h1] at h0
        split
        · rfl
        · rename_i h2
          rw [if_neg h2] at h0
          exact absurd rfl h0
    obtain ⟨Y, hY⟩ : ∃ Y, waysQ (l.map Ru.q) s = Y := ⟨_, rfl⟩
    rw [hY] at h0 hx
    have HWQ := Lib.hid hY
    have H0 := Lib.hid h0
    have HX := Lib.hid hx
    clear hY h0 hx
    go_enter Tryd.func5, Tryd.ntmps5
    go_wp2_with fail
    refine (mirrored_any p _ HLE.out).mono ?_
    rintro e w1 ⟨rfl, hb1⟩
    have HB1 := Lib.hid hb1
    clear hb1
    go_wp2_with fail
    refine (longRules_is l a ca _ _ (HC.out.lies.below HB1.out) HC.out.len HC.out.texts HLG.out).mono ?_
    rintro e w' ⟨rfl, rfl⟩
    go_wp2_with fail
    refine (waysOn_any p s l a _ ca _ _ (HLE.out.below HB1.out) (HC.out.lies.below HB1.out) HSM.out (by omega) rfl HWQ.out).mono ?_
    rintro e w2 ⟨⟨v, u, rfl, herr, hrow⟩, hb2⟩
    rw [HX.out] at hrow
    obtain ⟨T, t, rfl⟩ := herr.some H0.out
    have HB2 := Lib.hid (HB1.out.trans (hb2.mono HB1.out.size))
    obtain ⟨va, vc, rfl, _, _, _⟩ := texts_of_owns hrow
    clear hb2 herr hrow
    go_wp2
    go_ret
    exact ⟨rfl, HB2.out⟩
end Go.Proofs.YtmpfjambenkeeaaDoor
