/-
  Own texts of the proof, joined by program: RefDrop, RefSort, RefStrip, RefClean.
-/
import Derived.Test.YtpogcedghbokbaaGreatDoorTreeOwn
import Derived.Test.YtpogcedghbokbaaGreatDoorRefTree
import Derived.Test.YtpogcedghbokbaaGreatDoorTreeInsert
import Derived.Test.YtpogcedghbokbaaGreatDoorLawTree
import Derived.Laws.AppendOwnNone
import Derived.Test.YtpogcedghbokbaaGreatDoorPkStrip
import Derived.Test.YtpogcedghbokbaaGreatDoorRefCutRefRefBeginsRefMore
/-
  The document's answer for trees: DropFile: over this seat's translation.
-/
namespace Go.Proofs.YtpogcedghbokbaaGreatDoor
open Go.RowKit Go.Shelf

theorem refTreeFault_is (l : List F) (a : Option Addr) (ca : Nat) (c n : Int) (w : World) (hl : LiesAt w a l) (hs : Small l) (h0 : ((treeFault l).1 : Int) = c) (h1 : (treeFault l).2 = n) :
    Calls Tryz.prog 15 #[.slice a l.length ca] w fun e w' => e = .returned (.agg #[.int .i64 c, .int .i64 n]) ∧ Below w.heap.size w w' := by
  have := refTreeFault_any l a ca w hl hs
  rwa [h0, h1] at this

theorem without_take {l : List F} {k : Nat} (q : List UInt8) (hk : k < l.length) : without (l.take (k + 1)) q = without (l.take k) q ++ (if l[k].p = q then [] else [l[k]]) := by
  rw [List.take_succ_eq_append_getElem hk]
  unfold without
  rw [List.filter_append]
  by_cases h : l[k].p = q
  · rw [if_pos h, List.filter_cons, if_neg (by simp [h])]; rfl
  · rw [if_neg h, List.filter_cons, if_pos (by simp [h])]; rfl

set_option maxRecDepth 100000 in
set_option maxHeartbeats 4000000 in
theorem refDrop_any (l : List F) (a : Option Addr) (ca : Nat) (q : List UInt8) (w : World) (hl : LiesAt w a l) (hs : Small l) :
    Calls Tryz.prog 21 #[.slice a l.length ca, .string ⟨q.toArray⟩] w fun e w' => (∃ v, e = .returned (.tuple #[v, .agg #[.int .i64 (dropT l q).2.1, .int .i64 (dropT l q).2.2]]) ∧ w'.ownsRow w.heap.size 24 3 v (dropT l q).1.length (lcells (dropT l q).1)) ∧ Below w.heap.size w w' := by
  have hfew := hs.few
  by_cases hc : (treeFault l).1 = 0
  · have HL : Hid (LiesAt w a l) := hl
    have HS : Hid (Small l) := hs
    have hz := treeFault_zero hc
    have HZ : Hid (treeFault l = (0, -1)) := hz
    clear hl hs hz
    obtain ⟨i0, hi, hz0, hz1, hz2⟩ := info_parts Tryz.infoFile
    go_enter Tryz.func21, Tryz.ntmps21
    go_wp2_with fail
    refine (refTreeFault_is l a ca 0 (-1) _ (HL.out.below ((Below.refl _ _).alloc (Nat.le_refl _) _)) HS.out (by rw [HZ.out]; rfl) (by rw [HZ.out])).mono ?_
    rintro e w1 ⟨rfl, hb1⟩
    have HB1 : Hid (Below (w.heap.size + 1) (w.alloc (.cells #[.int .i64 0, .int .i64 0] 38)) w1) := hb1.mono (by simp)
    have hs1 : w.heap.size + 1 ≤ w1.heap.size := by have := hb1.size; simpa using this
    clear hb1
    go_wp2_with fail
    go_loopw [7, 8] (fun out i wr => ∃ k : Nat, k ≤ l.length ∧ i = .int .i64 k ∧ wr.ownsRow (w.heap.size + 1) 24 3 out (without (l.take k) q).length (lcells (without (l.take k) q)) ∧ Below (w.heap.size + 1) (w.alloc (.cells #[.int .i64 0, .int .i64 0] 38)) wr) (fun _ i _ => l.length - (intOf i).toNat)
    case atStart => exact ⟨0, by omega, rfl, World.ownsRow_nil _ _ _ _, HB1.out.alloc (by omega) _⟩
    case round =>
      obtain ⟨k, hk, rfl, hrow, hb⟩ := hrel
      have HB : Hid (Below (w.heap.size + 1) (w.alloc (.cells #[.int .i64 0, .int .i64 0] 38)) wr) := hb
      have hbs : w.heap.size + 1 ≤ wr.heap.size := by have := hb.size; simpa using this
      clear hb
      have hwl : (without (l.take k) q).length ≤ k := by
        refine Nat.le_trans (List.length_filter_le _ _) ?_
        simp; omega
      by_cases hlt : k < l.length
      · have hlt' : (k : Int) < (l.length : Int) := by omega
        obtain ⟨b, o, rfl, c0, c1, c2⟩ := (HL.out.below (slot_two HB.out).2.2.2.2).at hlt
        by_cases hpq : l[k].p = q
        · have HW : Hid (without (l.take (k + 1)) q = without (l.take k) q) := by
            show without _ _ = without _ _
            rw [without_take q hlt, if_pos hpq, List.append_nil]
          have hpq' : (l[k].p == q) = true := by simp [hpq]
          clear hpq
          generalize l[k] = f at c0 c1 c2 hpq'
          go_wp2
          go_roundw
          case rel => exact ⟨k + 1, by omega, by go_num, by rw [HW.out]; exact hrow, HB.out⟩
          case measure => simp [intOf]; omega
        · have HW : Hid (without (l.take (k + 1)) q = without (l.take k) q ++ [l[k]]) := by
            show without _ _ = _
            rw [without_take q hlt, if_neg hpq]
          have hpq' : (l[k].p == q) = false := by simp [hpq]
          clear hpq
          generalize l[k] = f at c0 c1 c2 hpq' HW
          go_wp2_with (at_builtin; refine wpList_append_own _ rfl _ _ 22 rfl (w.heap.size + 1) 24 i0 (.agg #[.string ⟨#[]⟩, .bool false, .string ⟨#[]⟩]) 3 40 Tryz.underlying22 hi hz0 hz1 hz2 rfl (by decide) _ _ _ rfl (hrow.alloc _) ⟨wr.heap.size, 0, none⟩ 1 1 (fcells f) rfl rfl (cells_new wr f _) (by simp [fcells, Value.oneCell']) (by unfold maxLen; omega) (by omega) (by simp; omega) ?_; intro v' w2 hown' hgrow _)
          have HB2 : Below (w.heap.size + 1) (w.alloc (.cells #[.int .i64 0, .int .i64 0] 38)) w2 := (HB.out.alloc hbs _).grown hgrow (by simp; omega) (fun j ej => (hrow.lt j ej).1)
          refine ⟨⟨k + 1, by omega, by go_num, ?_, HB2⟩, by simp [intOf]; omega⟩
          rw [HW.out, lcells_app, List.length_append]
          simpa [lcells] using hown'
      · obtain rfl : k = l.length := by omega
        rw [List.take_length] at hrow hwl
        obtain ⟨av, cv, rfl, hlies, _⟩ := owns_lies hrow
        by_cases hall : (without l q).length = l.length
        · have HD : Hid (dropT l q = ([], 6, -1)) := by
            show dropT l q = _
            simp [dropT, hc, hall]
          have hall' : (((without l q).length : Int) == (l.length : Int)) = true := by simp; omega
          clear hall
          go_wp2_with fail
          refine (bare_any 6 _).mono ?_
          rintro e w3 ⟨rfl, hb3⟩
          have HB3 := more_below HB.out rfl hb3
          obtain ⟨s0, s1, s2, s3, s4⟩ := slot_two HB3
          clear hb3 HB3
          go_wp2
          obtain ⟨q0, q1, q2⟩ := slot_set (w := w) (.int .i64 6) (.int .i64 (-1)) s0 s1 s4
          exact bodyPost_ret (v := .tuple #[.slice none 0 0, .agg #[.int .i64 6, .int .i64 (-1)]]) (by simp [results, Tryz.results21, go_sem, q0, q1]) rfl ⟨⟨_, by rw [HD.out]; rfl, by rw [HD.out]; exact World.ownsRow_nil _ _ _ _⟩, q2⟩
        · have HD : Hid (dropT l q = (without l q, 0, -1)) := by
            show dropT l q = _
            simp [dropT, hc, hall]
          have hall' : (((without l q).length : Int) == (l.length : Int)) = false := by simp; omega
          clear hall
          go_wp2_with fail
          refine (fine_any _).mono ?_
          rintro e w3 ⟨rfl, hb3⟩
          have HB3 := more_below HB.out rfl hb3
          have hrow3 : w3.ownsRow (w.heap.size + 1) 24 3 (.slice av (without l q).length cv) (without l q).length (lcells (without l q)) := owns_below hrow hb3
          obtain ⟨s0, s1, s2, s3, s4⟩ := slot_two HB3
          clear hb3 HB3
          go_wp2
          obtain ⟨q0, q1, q2⟩ := slot_set (w := w) (.int .i64 0) (.int .i64 (-1)) s0 s1 s4
          exact bodyPost_ret (v := .tuple #[.slice av (without l q).length cv, .agg #[.int .i64 0, .int .i64 (-1)]]) (by simp [results, Tryz.results21, go_sem, q0, q1]) rfl ⟨⟨_, by rw [HD.out]; rfl, by rw [HD.out]; exact owns_slot _ _ hrow3⟩, q2⟩
  · have HD : Hid (dropT l q = ([], treeFault l)) := by
      show dropT l q = _
      simp [dropT, hc]
    have hpos : (0 : Int) < ((treeFault l).1 : Int) := by omega
    have HL : Hid (LiesAt w a l) := hl
    have HS : Hid (Small l) := hs
    clear hl hs hc
    go_enter Tryz.func21, Tryz.ntmps21
    go_wp2_with fail
    refine (refTreeFault_any l a ca _ (HL.out.below ((Below.refl _ _).alloc (Nat.le_refl _) _)) HS.out).mono ?_
    rintro e w1 ⟨rfl, hb1⟩
    have HB1 : Below (w.heap.size + 1) (w.alloc (.cells #[.int .i64 0, .int .i64 0] 38)) w1 := hb1.mono (by simp)
    have hs1 : w.heap.size + 1 ≤ w1.heap.size := by have := hb1.size; simpa using this
    obtain ⟨s0, s1, s2, s3, s4⟩ := slot_two (HB1.alloc hs1 (.cells #[.int .i64 (treeFault l).1, .int .i64 (treeFault l).2] 38))
    clear hb1 HB1
    generalize treeFault l = tf at *
    go_wp2
    go_region
    all_goals go_wp2
    all_goals
      obtain ⟨q0, q1, q2⟩ := slot_set (w := w) (.int .i64 tf.1) (.int .i64 tf.2) s0 s1 s4
      exact bodyPost_ret (v := .tuple #[.slice none 0 0, .agg #[.int .i64 tf.1, .int .i64 tf.2]]) (by simp [results, Tryz.results21, go_sem, q0, q1]) rfl ⟨⟨_, by rw [HD.out], by rw [HD.out]; exact World.ownsRow_nil _ _ _ _⟩, q2.drew⟩
end Go.Proofs.YtpogcedghbokbaaGreatDoor
/-
  The document's answer for trees: SortTree: over this seat's translation.
-/
namespace Go.Proofs.YtpogcedghbokbaaGreatDoor
open Go.RowKit Go.Shelf

/-- Behind a place of a row of the call's own: where it begins. -/
theorem tail_src {w : World} {g cap j : Nat} {s : List F} (hl : LiesAt w (some ⟨g, 0, none⟩) s) (hj : j ≤ s.length) (hcap : s.length ≤ cap) :
    ∃ A : Addr, (if cap = j then some (⟨g, 0, none⟩ : Addr) else some ⟨g, j * 3, none⟩) = some A ∧ Hid (∀ t u, (lcells (s.drop j))[t]? = some u → w.cell? (A.add t) = some u) := by
  have hld : (lcells (s.drop j)).length = (s.length - j) * 3 := by rw [lcells_length, List.length_drop]
  have hlt : (lcells (s.take j)).length = j * 3 := by rw [lcells_length, List.length_take]; congr 1; omega
  by_cases hcj : cap = j
  · refine ⟨⟨g, 0, none⟩, by simp [hcj], fun t u hu => ?_⟩
    have ht := (List.getElem?_eq_some_iff.1 hu).1
    omega
  · refine ⟨⟨g, j * 3, none⟩, by simp [hcj], fun t u hu => ?_⟩
    have hn := hl.news (j * 3 + t) u (by
      have : lcells s = lcells (s.take j) ++ lcells (s.drop j) := by rw [← lcells_app, List.take_append_drop]
      rw [this, List.getElem?_append_right (by omega), hlt, Nat.add_sub_cancel_left]
      exact hu)
    rw [Addr.add_lit, Nat.zero_add] at hn
    rw [Addr.add_lit]
    exact hn

theorem head_src {w : World} {g j : Nat} {s : List F} (hl : LiesAt w (some ⟨g, 0, none⟩) s) : ∀ t u, (lcells (s.take j))[t]? = some u → w.cell? ((⟨g, 0, none⟩ : Addr).add t) = some u := fun t u hu => by
  refine hl.news t u ?_
  have ht := (List.getElem?_eq_some_iff.1 hu).1
  have : lcells s = lcells (s.take j) ++ lcells (s.drop j) := by rw [← lcells_app, List.take_append_drop]
  rw [this, List.getElem?_append_left ht]
  exact hu

set_option maxRecDepth 100000 in
set_option maxHeartbeats 8000000 in
theorem refSort_any (l : List F) (a : Option Addr) (ca : Nat) (w : World) (hl : LiesAt w a l) (hs : Small l) :
    Calls Tryz.prog 18 #[.slice a l.length ca] w fun e w' => (∃ v, e = .returned (.tuple #[v, .agg #[.int .i64 (sortT l).2.1, .int .i64 (sortT l).2.2]]) ∧ w'.ownsRow w.heap.size 24 3 v (sortT l).1.length (lcells (sortT l).1)) ∧ Below w.heap.size w w' := by
  have hfew := hs.few
  have HL : Hid (LiesAt w a l) := hl
  have HS : Hid (Small l) := hs
  clear hl hs
  obtain ⟨i0, hi, hz0, hz1, hz2⟩ := info_parts Tryz.infoFile
  go_enter Tryz.func18, Tryz.ntmps18
  go_wp2_with fail
  go_loopw [4, 5] (fun out i wr => ∃ k : Nat, k ≤ l.length ∧ i = .int .i64 k ∧ (∃ s : List F, (s.Perm (l.take k) ∧ Weak s) ∧ wr.ownsRow (w.heap.size + 1) 24 3 out s.length (lcells s)) ∧ Below (w.heap.size + 1) (w.alloc (.cells #[.int .i64 0, .int .i64 0] 38)) wr) (fun _ i _ => l.length - (intOf i).toNat)
  case atStart => exact ⟨0, by omega, rfl, ⟨[], ⟨by simp, List.Pairwise.nil⟩, World.ownsRow_nil _ _ _ _⟩, Below.refl _ _⟩
  case round =>
    obtain ⟨k, hk, rfl, ⟨s, hps, hrow⟩, hb⟩ := hrel
    have HPS : Hid (s.Perm (l.take k) ∧ Weak s) := hps
    have HB : Hid (Below (w.heap.size + 1) (w.alloc (.cells #[.int .i64 0, .int .i64 0] 38)) wr) := hb
    have hbs : w.heap.size + 1 ≤ wr.heap.size := by have := hb.size; simpa using this
    have hs1000 : s.length ≤ 100000 := by
      have := hps.1.length_eq
      rw [List.length_take] at this; omega
    have HROW : Hid (wr.ownsRow (w.heap.size + 1) 24 3 _ s.length (lcells s)) := hrow
    clear hb hps
    by_cases hlt : k < l.length
    · have hlt' : (k : Int) < (l.length : Int) := by omega
      obtain ⟨b, o, rfl, c0, c1, c2⟩ := (HL.out.below (slot_two HB.out).2.2.2.2).at hlt
      have HX : Hid (∀ W, Below wr.heap.size wr W → W.cell? ⟨b, o + k * 3, none⟩ = some (sv l[k].p) ∧ W.cell? ⟨b, o + k * 3 + 1, none⟩ = some (.bool l[k].r) ∧ W.cell? ⟨b, o + k * 3 + 2, none⟩ = some (sv l[k].t)) := fun W hW =>
        ⟨(hW.cell (p := ⟨b, o + k * 3, none⟩) (block_lt_of_cell c0)).trans c0, (hW.cell (p := ⟨b, o + k * 3 + 1, none⟩) (block_lt_of_cell c1)).trans c1, (hW.cell (p := ⟨b, o + k * 3 + 2, none⟩) (block_lt_of_cell c2)).trans c2⟩
      have HT : Hid (l.take (k + 1) = l.take k ++ [l[k]]) := List.take_succ_eq_append_getElem hlt
      have hk0 : (0 : Int) ≤ (k : Int) := by omega
      generalize l[k] = f at c0 c1 c2 HX HT
      rcases hrow.2 with ⟨rfl, h0⟩ | ⟨g, cap, cur, rfl, hgb, hgh, hcap, _⟩
      · have hs0 : s = [] := List.length_eq_zero_iff.1 h0
        subst hs0
        have HN : Hid ([f].Perm (l.take (k + 1)) ∧ Weak [f]) := by
          refine ⟨?_, List.pairwise_singleton _ _⟩
          rw [HT.out]
          exact (HPS.out.1.append_right [f])
        clear hrow h0
        go_wp2_with fail
        refine wp_loop_rounds 1 ?_
        rw [rounds_succ]
        go_wp2_with fail
        go_quiet (fail)
        go_wp2_with (at_builtin; first
          | (refine wpList_append_own_none rfl _ _ 22 rfl (w.heap.size + 1) 24 i0 3 Tryz.underlying22 hi _ _ _ rfl hown2 rfl ?_)
          | (refine wpList_append_own_none rfl _ _ 22 rfl (w.heap.size + 1) 24 i0 3 Tryz.underlying22 hi _ 0 [] rfl (World.ownsRow_nil _ _ _ _) rfl ?_)
          | (refine wpList_append_own _ rfl _ _ 22 rfl (w.heap.size + 1) 24 i0 (.agg #[.string ⟨#[]⟩, .bool false, .string ⟨#[]⟩]) 3 40 Tryz.underlying22 hi hz0 hz1 hz2 rfl (by decide) (.slice none 0 0) 0 [] rfl (World.ownsRow_nil _ _ _ _) ⟨wr.heap.size, 0, none⟩ 1 1 (fcells f) rfl rfl (cells_new wr f _) (by simp [fcells, Value.oneCell']) (by unfold maxLen; omega) (by omega) (by simp; omega) ?_; intro v2 w2 hown2 hgrow2 _))
        have HB2 : Below (w.heap.size + 1) (w.alloc (.cells #[.int .i64 0, .int .i64 0] 38)) w2 := ((below_drewN HB.out _).alloc hbs _).grown hgrow2 (by simp; omega) (fun j ej => by cases ej)
        refine ⟨⟨k + 1, by omega, by go_num, ⟨[f], HN.out, by simpa [lcells] using hown2⟩, HB2⟩, by simp [intOf]; omega⟩
      · obtain ⟨_, _, e', hl0, _⟩ := owns_lies hrow
        cases e'
        have HLIES : Hid (LiesAt wr (some ⟨g, 0, none⟩) s) := hl0
        clear hrow hl0 hgh hgb HROW c0 c1 c2
        obtain ⟨wo, rfl⟩ : ∃ wo, wo = wr := ⟨_, rfl⟩
        go_wp2_with fail
        go_loopw [6] (fun ja wr => ∃ j : Nat, j ≤ s.length ∧ ja = .int .i64 j ∧ (∀ m (h : m < s.length), j ≤ m → less f.p s[m].p = true) ∧ Below wo.heap.size wo wr) (fun ja _ => (intOf ja).toNat)
        case atStart => exact ⟨s.length, by omega, rfl, fun _ _ h => by omega, Below.refl _ _⟩
        case round =>
          obtain ⟨j, hj, rfl, hup, hbk⟩ := hrel
          have HUP : Hid (∀ m (h : m < s.length), j ≤ m → less f.p s[m].p = true) := hup
          have HBK : Hid (Below wo.heap.size wo wr) := hbk
          have HBKW : Hid (Below (w.heap.size + 1) (w.alloc (.cells #[.int .i64 0, .int .i64 0] 38)) wr) := HB.out.trans (hbk.mono hbs)
          clear hup hbk
          obtain ⟨x0, x1, x2⟩ := HX.out wr HBK.out
          by_cases hj1 : 0 < j
          · obtain ⟨b', o', e', d0, d1, d2⟩ := (HLIES.out.below HBK.out).at (k := j - 1) (by omega)
            cases e'
            rw [Nat.zero_add] at d0 d1 d2
            have hjp : (0 : Int) < (j : Int) := by omega
            have hsub : (j : Int) - 1 = ((j - 1 : Nat) : Int) := by omega
            have hjl : ((j - 1 : Nat) : Int) < (s.length : Int) := by omega
            cases hle : less f.p (s[j - 1]'(by omega)).p with
            | true =>
              have HUP2 : Hid (∀ m (h : m < s.length), j - 1 ≤ m → less f.p s[m].p = true) := by
                intro m hm hjm
                by_cases e : m = j - 1
                · subst e; exact hle
                · exact HUP.out m hm (by omega)
              have hle' : Op.bytesLess f.p (s[j - 1]'(by omega)).p = true := hle
              clear hle
              generalize (s[j - 1]'(by omega)) = y at d0 d1 d2 hle'
              go_wp2_with fail
              go_quiet (fail)
              go_wp2
              go_roundw
              case rel => exact ⟨j - 1, by omega, by first | rfl | (congr 1; omega), HUP2.out, below_drewN HBK.out _⟩
              case measure => simp [intOf]; omega
            | false =>
              have hlow : ∀ h : 0 < j, less f.p (s[j - 1]'(by omega)).p = false := fun _ => hle
              have hle' : Op.bytesLess f.p (s[j - 1]'(by omega)).p = false := hle
              clear hle
              have HLOW : Hid (∀ h : 0 < j, less f.p (s[j - 1]'(by omega)).p = false) := hlow
              clear hlow
              generalize hy : (s[j - 1]'(by omega)) = y at d0 d1 d2 hle'
              clear hy
              go_wp2_with fail
              go_quiet (fail)
              clear d0 d1 d2 hle' x0 x1 x2
              have hlow := HLOW.out
              have hj0 : (0 : Int) ≤ (j : Int) := by omega
              have hjs : (j : Int) ≤ (s.length : Int) := by omega
              have hjc : (j : Int) ≤ (cap : Int) := by omega
              have HNEW : Hid ((s.take j ++ f :: s.drop j).Perm (l.take (k + 1)) ∧ Weak (s.take j ++ f :: s.drop j)) := by
                refine ⟨?_, insert_weak HPS.out.2 hj hlow HUP.out⟩
                rw [HT.out]
                exact (insert_perm s f j).trans (HPS.out.1.append_right [f])
              have HLIESK : Hid (LiesAt wr (some ⟨g, 0, none⟩) s) := HLIES.out.below HBK.out
              obtain ⟨A, hA, hsrc⟩ := tail_src HLIESK.out hj hcap
              have HSRC1 : Hid (∀ t u, (lcells (s.take j))[t]? = some u → wr.cell? ((⟨g, 0, none⟩ : Addr).add t) = some u) := head_src HLIESK.out
              have HLT : Hid ((lcells (s.take j)).length = j * 3) := by show _ = _; rw [lcells_length, List.length_take]; congr 1; omega
              have HLD : Hid ((lcells (s.drop j)).length = (s.length - j) * 3) := by show _ = _; rw [lcells_length, List.length_drop]
              have hks := HBK.out.size
              clear hlow
              go_wp2_with (at_builtin; first
                | (refine wpList_append_own _ rfl _ _ 22 rfl wr.heap.size 24 i0 (.agg #[.string ⟨#[]⟩, .bool false, .string ⟨#[]⟩]) 3 40 Tryz.underlying22 hi hz0 hz1 hz2 rfl (by decide) _ _ _ rfl hown2 A (s.length - j) (cap - j) (lcells (s.drop j)) rfl HLD.out (fun t u hu => (HB2.cell (p := A.add t) (block_lt_of_cell (hsrc.out t u hu))).trans (hsrc.out t u hu)) (lcells_one _) (by unfold maxLen; omega) (by omega) HB2.size ?_; intro v3 w3 hown3 hgrow3 _)
                | (refine wpList_append_own _ rfl _ _ 22 rfl wr.heap.size 24 i0 (.agg #[.string ⟨#[]⟩, .bool false, .string ⟨#[]⟩]) 3 40 Tryz.underlying22 hi hz0 hz1 hz2 rfl (by decide) _ _ _ rfl (hown1.alloc _) ⟨w1.heap.size, 0, none⟩ 1 1 (fcells f) rfl rfl (cells_new w1 f _) (by simp [fcells, Value.oneCell']) (by unfold maxLen; omega) (by omega) (Nat.le_trans HB1.size (by simp)) ?_; intro v2 w2 hown2 hgrow2 _; have HB2 : Below wr.heap.size wr w2 := (HB1.alloc HB1.size _).grown hgrow2 (Nat.le_trans HB1.size (by simp)) (fun j ej => (hown1.lt j ej).1))
                | (refine wpList_append_own _ rfl _ _ 22 rfl wr.heap.size 24 i0 (.agg #[.string ⟨#[]⟩, .bool false, .string ⟨#[]⟩]) 3 40 Tryz.underlying22 hi hz0 hz1 hz2 rfl (by decide) (.slice none 0 0) 0 [] rfl (World.ownsRow_nil _ _ _ _) ⟨g, 0, none⟩ j cap (lcells (s.take j)) rfl HLT.out HSRC1.out (lcells_one _) (by unfold maxLen; omega) (by omega) (Nat.le_refl _) ?_; intro v1 w1 hown1 hgrow1 _; have HB1 : Below wr.heap.size wr w1 := (below_drewN (Below.refl _ wr) _).grown hgrow1 (Nat.le_refl _) (fun k e => by cases e); obtain ⟨e0, e1, e2⟩ := HX.out w1 (HBK.out.trans (HB1.mono HBK.out.size))))
              have HB3 : Below wr.heap.size wr w3 := HB2.grown hgrow3 HB2.size (fun j ej => (hown2.lt j ej).1)
              have HB3W : Below (w.heap.size + 1) (w.alloc (.cells #[.int .i64 0, .int .i64 0] 38)) w3 := HBKW.out.trans (HB3.mono (by omega))
              refine ⟨⟨k + 1, by omega, by go_num, ⟨s.take j ++ f :: s.drop j, HNEW.out, ?_⟩, HB3W⟩, by simp [intOf]; omega⟩
              have e1 : (s.take j ++ f :: s.drop j).length = 0 + j + 1 + (s.length - j) := by rw [List.length_append, List.length_cons, List.length_take, List.length_drop]; omega
              have e2 : lcells (s.take j ++ f :: s.drop j) = [] ++ lcells (s.take j) ++ fcells f ++ lcells (s.drop j) := by rw [lcells_app, List.nil_append, List.append_assoc]; rfl
              rw [e1, e2]
              exact hown3.mono (by omega)
          · have hjn : ¬ (0 : Int) < (j : Int) := by omega
            have hjd : decide ((0 : Int) < (j : Int)) = false := by simp; omega
            have hlow : ∀ h : 0 < j, less f.p (s[j - 1]'(by omega)).p = false := fun h => absurd h hj1
            have HLOW : Hid (∀ h : 0 < j, less f.p (s[j - 1]'(by omega)).p = false) := hlow
            clear hlow
            go_wp2_with fail
            go_quiet (fail)
            clear x0 x1 x2 hjn hjd
            have hlow := HLOW.out
            have hj0 : (0 : Int) ≤ (j : Int) := by omega
            have hjs : (j : Int) ≤ (s.length : Int) := by omega
            have hjc : (j : Int) ≤ (cap : Int) := by omega
            have HNEW : Hid ((s.take j ++ f :: s.drop j).Perm (l.take (k + 1)) ∧ Weak (s.take j ++ f :: s.drop j)) := by
              refine ⟨?_, insert_weak HPS.out.2 hj hlow HUP.out⟩
              rw [HT.out]
              exact (insert_perm s f j).trans (HPS.out.1.append_right [f])
            have HLIESK : Hid (LiesAt wr (some ⟨g, 0, none⟩) s) := HLIES.out.below HBK.out
            obtain ⟨A, hA, hsrc⟩ := tail_src HLIESK.out hj hcap
            have HSRC1 : Hid (∀ t u, (lcells (s.take j))[t]? = some u → wr.cell? ((⟨g, 0, none⟩ : Addr).add t) = some u) := head_src HLIESK.out
            have HLT : Hid ((lcells (s.take j)).length = j * 3) := by show _ = _; rw [lcells_length, List.length_take]; congr 1; omega
            have HLD : Hid ((lcells (s.drop j)).length = (s.length - j) * 3) := by show _ = _; rw [lcells_length, List.length_drop]
            have hks := HBK.out.size
            clear hlow
            go_wp2_with (at_builtin; first
              | (refine wpList_append_own _ rfl _ _ 22 rfl wr.heap.size 24 i0 (.agg #[.string ⟨#[]⟩, .bool false, .string ⟨#[]⟩]) 3 40 Tryz.underlying22 hi hz0 hz1 hz2 rfl (by decide) _ _ _ rfl hown2 A (s.length - j) (cap - j) (lcells (s.drop j)) rfl HLD.out (fun t u hu => (HB2.cell (p := A.add t) (block_lt_of_cell (hsrc.out t u hu))).trans (hsrc.out t u hu)) (lcells_one _) (by unfold maxLen; omega) (by omega) HB2.size ?_; intro v3 w3 hown3 hgrow3 _)
              | (refine wpList_append_own _ rfl _ _ 22 rfl wr.heap.size 24 i0 (.agg #[.string ⟨#[]⟩, .bool false, .string ⟨#[]⟩]) 3 40 Tryz.underlying22 hi hz0 hz1 hz2 rfl (by decide) _ _ _ rfl (hown1.alloc _) ⟨w1.heap.size, 0, none⟩ 1 1 (fcells f) rfl rfl (cells_new w1 f _) (by simp [fcells, Value.oneCell']) (by unfold maxLen; omega) (by omega) (Nat.le_trans HB1.size (by simp)) ?_; intro v2 w2 hown2 hgrow2 _; have HB2 : Below wr.heap.size wr w2 := (HB1.alloc HB1.size _).grown hgrow2 (Nat.le_trans HB1.size (by simp)) (fun j ej => (hown1.lt j ej).1))
              | (refine wpList_append_own _ rfl _ _ 22 rfl wr.heap.size 24 i0 (.agg #[.string ⟨#[]⟩, .bool false, .string ⟨#[]⟩]) 3 40 Tryz.underlying22 hi hz0 hz1 hz2 rfl (by decide) (.slice none 0 0) 0 [] rfl (World.ownsRow_nil _ _ _ _) ⟨g, 0, none⟩ j cap (lcells (s.take j)) rfl HLT.out HSRC1.out (lcells_one _) (by unfold maxLen; omega) (by omega) (Nat.le_refl _) ?_; intro v1 w1 hown1 hgrow1 _; have HB1 : Below wr.heap.size wr w1 := (below_drewN (Below.refl _ wr) _).grown hgrow1 (Nat.le_refl _) (fun k e => by cases e); obtain ⟨e0, e1, e2⟩ := HX.out w1 (HBK.out.trans (HB1.mono HBK.out.size))))
            have HB3 : Below wr.heap.size wr w3 := HB2.grown hgrow3 HB2.size (fun j ej => (hown2.lt j ej).1)
            have HB3W : Below (w.heap.size + 1) (w.alloc (.cells #[.int .i64 0, .int .i64 0] 38)) w3 := HBKW.out.trans (HB3.mono (by omega))
            refine ⟨⟨k + 1, by omega, by go_num, ⟨s.take j ++ f :: s.drop j, HNEW.out, ?_⟩, HB3W⟩, by simp [intOf]; omega⟩
            have e1 : (s.take j ++ f :: s.drop j).length = 0 + j + 1 + (s.length - j) := by rw [List.length_append, List.length_cons, List.length_take, List.length_drop]; omega
            have e2 : lcells (s.take j ++ f :: s.drop j) = [] ++ lcells (s.take j) ++ fcells f ++ lcells (s.drop j) := by rw [lcells_app, List.nil_append, List.append_assoc]; rfl
            rw [e1, e2]
            exact hown3.mono (by omega)
    · obtain rfl : k = l.length := by omega
      have hperm := HPS.out.1
      rw [List.take_length] at hperm
      have HP : Hid (s.Perm l) := hperm
      have HW : Hid (Weak s) := HPS.out.2
      have HSS : Hid (Small s) := ⟨by rw [hperm.length_eq]; exact hfew, fun f hf => HS.out.path f (hperm.mem_iff.1 hf), fun f hf => HS.out.text f (hperm.mem_iff.1 hf)⟩
      obtain ⟨av, cv, rfl, hlies, _⟩ := owns_lies hrow
      have HLIES : Hid (LiesAt wr av s) := hlies
      have hsf := HSS.out.few
      obtain ⟨wo, rfl⟩ : ∃ wo, wo = wr := ⟨_, rfl⟩
      clear hrow hlies hperm
      go_wp2_with fail
      go_loopw [8] (fun i wr => ∃ q : Nat, q ≤ s.length + 1 ∧ 1 ≤ q ∧ i = .int .i64 q ∧ (∀ j (hj : j + 1 < s.length), j + 1 < q → s[j + 1].p ≠ s[j].p) ∧ Below wo.heap.size wo wr) (fun i _ => s.length + 1 - (intOf i).toNat)
      case atStart => exact ⟨1, by omega, by omega, rfl, fun _ _ h => by omega, Below.refl _ _⟩
      case round =>
        obtain ⟨q, hq, hq1, rfl, hz, hb⟩ := hrel
        have HBQ : Hid (Below wo.heap.size wo wr) := hb
        have HBW : Hid (Below (w.heap.size + 1) (w.alloc (.cells #[.int .i64 0, .int .i64 0] 38)) wr) := HB.out.trans (hb.mono hbs)
        have HZ : Hid (∀ j (hj : j + 1 < s.length), j + 1 < q → s[j + 1].p ≠ s[j].p) := hz
        clear hb hz
        by_cases hqs : q < s.length
        · obtain ⟨r, rfl⟩ : ∃ r, q = r + 1 := ⟨q - 1, by omega⟩
          obtain ⟨b, o, rfl, c0, c1, c2⟩ := (HLIES.out.below HBQ.out).at hqs
          obtain ⟨b', o', e', d0, d1, d2⟩ := (HLIES.out.below HBQ.out).at (k := r) (by omega)
          cases e'
          have hqs' : (r : Int) + 1 < (s.length : Int) := by omega
          by_cases he : s[r + 1].p = (s[r]'(by omega)).p
          · have HD : Hid (sortT l = ([], 7, -1)) := sortT_twice HP.out (not_nodup_of_step (by omega) he)
            have he' : (s[r + 1].p == (s[r]'(by omega)).p) = true := by simp [he]
            clear he
            generalize s[r + 1] = f at c0 c1 c2 he'
            generalize (s[r]'(by omega)) = y at d0 d1 d2 he'
            go_wp2_with fail
            go_quiet (fail)
            go_wp2_with fail
            refine (bare_any 7 _).mono ?_
            rintro e w3 ⟨rfl, hb3⟩
            have HB3 := more_below (below_drewN HBW.out _) rfl hb3
            obtain ⟨s0, s1, s2, s3, s4⟩ := slot_two HB3
            clear hb3 HB3 c0 c1 c2 d0 d1 d2 he'
            go_wp2
            obtain ⟨q0, q1, q2⟩ := slot_set (w := w) (.int .i64 7) (.int .i64 (-1)) s0 s1 s4
            exact bodyPost_ret (v := .tuple #[.slice none 0 0, .agg #[.int .i64 7, .int .i64 (-1)]]) (by simp [results, Tryz.results18, go_sem, q0, q1]) rfl ⟨⟨_, by rw [HD.out]; rfl, by rw [HD.out]; exact World.ownsRow_nil _ _ _ _⟩, q2⟩
          · have HN : Hid (∀ j (hj : j + 1 < s.length), j + 1 < r + 1 + 1 → s[j + 1].p ≠ s[j].p) := by
              intro j hj hjr
              by_cases e : j = r
              · subst e; exact he
              · exact HZ.out j hj (by omega)
            have he' : (s[r + 1].p == (s[r]'(by omega)).p) = false := by simp [he]
            clear he
            generalize s[r + 1] = f at c0 c1 c2 he'
            generalize (s[r]'(by omega)) = y at d0 d1 d2 he'
            go_wp2_with fail
            go_quiet (fail)
            go_wp2
            go_roundw
            case rel => exact ⟨r + 1 + 1, by omega, by omega, by go_num, HN.out, below_drewN HBQ.out _⟩
            case measure => simp [intOf]; omega
        · have hnd : (s.map (·.p)).Nodup := nodup_of_step HW.out fun j hj => HZ.out j hj (by omega)
          have hqs' : ¬ (q : Int) < (s.length : Int) := by omega
          have HROWQ : Hid (wr.ownsRow (w.heap.size + 1) 24 3 (.slice av s.length cv) s.length (lcells s)) := owns_below HROW.out HBQ.out
          by_cases hc : (treeFault s).1 = 0
          · have HD : Hid (sortT l = (s, 0, -1)) := sortT_ok HP.out HW.out hnd hc
            have HF : Hid (treeFault s = (0, -1)) := treeFault_zero hc
            clear hnd hc
            go_wp2_with fail
            refine (refTreeFault_is s av cv 0 (-1) _ (HLIES.out.below HBQ.out) HSS.out (by rw [HF.out]; rfl) (by rw [HF.out])).mono ?_
            rintro e w3 ⟨rfl, hb3⟩
            have HB3 : Hid (Below (w.heap.size + 1) (w.alloc (.cells #[.int .i64 0, .int .i64 0] 38)) w3) := more_below HBW.out rfl hb3
            have HROW3 : Hid (w3.ownsRow (w.heap.size + 1) 24 3 (.slice av s.length cv) s.length (lcells s)) := owns_below HROWQ.out hb3
            have hs3 : w.heap.size + 1 ≤ w3.heap.size := by have := HB3.out.size; simpa using this
            clear hb3
            go_wp2_with fail
            refine (fine_any _).mono ?_
            rintro e w4 ⟨rfl, hb4⟩
            have hB4 := more_below (HB3.out.alloc hs3 (.cells #[.int .i64 0, .int .i64 (-1)] 38)) rfl hb4
            have HROW4 : Hid (w4.ownsRow (w.heap.size + 1) 24 3 (.slice av s.length cv) s.length (lcells s)) := owns_below (HROW3.out.alloc _) hb4
            obtain ⟨s0, s1, s2, s3, s4⟩ := slot_two hB4
            clear hb4 hB4
            go_wp2
            obtain ⟨q0, q1, q2⟩ := slot_set (w := w) (.int .i64 0) (.int .i64 (-1)) s0 s1 s4
            exact bodyPost_ret (v := .tuple #[.slice av s.length cv, .agg #[.int .i64 0, .int .i64 (-1)]]) (by simp [results, Tryz.results18, go_sem, q0, q1]) rfl ⟨⟨_, by rw [HD.out]; rfl, by rw [HD.out]; exact owns_slot _ _ HROW4.out⟩, q2⟩
          · have HD : Hid (sortT l = ([], treeFault s)) := sortT_bad HP.out HW.out hnd hc
            have hpos : (0 : Int) < ((treeFault s).1 : Int) := by omega
            clear hnd hc
            go_wp2_with fail
            refine (refTreeFault_any s av cv _ (HLIES.out.below HBQ.out) HSS.out).mono ?_
            rintro e w3 ⟨rfl, hb3⟩
            have HB3 : Below (w.heap.size + 1) (w.alloc (.cells #[.int .i64 0, .int .i64 0] 38)) w3 := more_below HBW.out rfl hb3
            have hs3 : w.heap.size + 1 ≤ w3.heap.size := by have := HB3.size; simpa using this
            obtain ⟨s0, s1, s2, s3, s4⟩ := slot_two (HB3.alloc hs3 (.cells #[.int .i64 (treeFault s).1, .int .i64 (treeFault s).2] 38))
            clear hb3 HB3
            generalize treeFault s = tf at *
            go_wp2
            go_region
            all_goals go_wp2
            all_goals
              obtain ⟨q0, q1, q2⟩ := slot_set (w := w) (.int .i64 tf.1) (.int .i64 tf.2) s0 s1 s4
              exact bodyPost_ret (v := .tuple #[.slice none 0 0, .agg #[.int .i64 tf.1, .int .i64 tf.2]]) (by simp [results, Tryz.results18, go_sem, q0, q1]) rfl ⟨⟨_, by rw [HD.out], by rw [HD.out]; exact World.ownsRow_nil _ _ _ _⟩, q2.drew⟩
end Go.Proofs.YtpogcedghbokbaaGreatDoor
/-
  The document's answer for trees: StripTree: over this seat's translation.
-/
namespace Go.Proofs.YtpogcedghbokbaaGreatDoor
open Go.RowKit Go.Shelf

theorem stripOf_is (s c : List UInt8) (k : Int) (n : Int) (w : World) (hs : s.length ≤ 90000) (h0 : (stripL s n).1 = c) (h1 : ((stripL s n).2 : Int) = k) :
    Calls Tryz.prog 49 #[.string ⟨s.toArray⟩, .int .i64 n] w fun e w' => e = .returned (.tuple #[.string ⟨c.toArray⟩, .int .i64 k]) ∧ Below w.heap.size w w' := by
  have := stripOf_any s n w hs
  rwa [h0, h1] at this

theorem refSort_is (l : List F) (r : List F × Nat × Int) (c i : Int) (a : Option Addr) (ca : Nat) (w : World) (hl : LiesAt w a l) (hs : Small l) (h : sortT l = r) (hc : (r.2.1 : Int) = c) (hi : r.2.2 = i) :
    Calls Tryz.prog 18 #[.slice a l.length ca] w fun e w' => (∃ v, e = .returned (.tuple #[v, .agg #[.int .i64 c, .int .i64 i]]) ∧ w'.ownsRow w.heap.size 24 3 v r.1.length (lcells r.1)) ∧ Below w.heap.size w w' := by
  have := refSort_any l a ca w hl hs
  rwa [h, hc, hi] at this

set_option maxRecDepth 100000 in
set_option maxHeartbeats 8000000 in
theorem refStripTree_any (l : List F) (a : Option Addr) (ca : Nat) (n : Int) (w : World) (hl : LiesAt w a l) (hs : Small l) :
    Calls Tryz.prog 25 #[.slice a l.length ca, .int .i64 n] w fun e w' => (∃ v, e = .returned (.tuple #[v, .agg #[.int .i64 (stripT l n).2.1, .int .i64 (stripT l n).2.2]]) ∧ w'.ownsRow w.heap.size 24 3 v (stripT l n).1.length (lcells (stripT l n).1)) ∧ Below w.heap.size w w' := by
  have hfew := hs.few
  by_cases hc : (treeFault l).1 = 0
  · have HL : Hid (LiesAt w a l) := hl
    have HS : Hid (Small l) := hs
    have HZ : Hid (treeFault l = (0, -1)) := treeFault_zero hc
    have HC0 : Hid ((treeFault l).1 = 0) := hc
    clear hl hs hc
    obtain ⟨i0, hi, hz0, hz1, hz2⟩ := info_parts Tryz.infoFile
    go_enter Tryz.func25, Tryz.ntmps25
    go_wp2_with fail
    refine (refTreeFault_is l a ca 0 (-1) _ (HL.out.below ((Below.refl _ _).alloc (Nat.le_refl _) _)) HS.out (by rw [HZ.out]; rfl) (by rw [HZ.out])).mono ?_
    rintro e w1 ⟨rfl, hb1⟩
    have HB1 : Hid (Below (w.heap.size + 1) (w.alloc (.cells #[.int .i64 0, .int .i64 0] 38)) w1) := hb1.mono (by simp)
    have hs1 : w.heap.size + 1 ≤ w1.heap.size := by have := hb1.size; simpa using this
    clear hb1
    go_wp2_with fail
    go_loopw [7, 8] (fun out i wr => ∃ k : Nat, k ≤ l.length ∧ i = .int .i64 k ∧ ((∀ j (h : j < l.length), j < k → (stripL l[j].p n).2 = 0) ∧ wr.ownsRow (w.heap.size + 1) 24 3 out ((l.take k).map fun f => ({ f with p := (stripL f.p n).1 } : F)).length (lcells ((l.take k).map fun f => { f with p := (stripL f.p n).1 }))) ∧ Below (w.heap.size + 1) (w.alloc (.cells #[.int .i64 0, .int .i64 0] 38)) wr) (fun _ i _ => l.length - (intOf i).toNat)
    case atStart => exact ⟨0, by omega, rfl, ⟨fun _ _ h => by omega, World.ownsRow_nil _ _ _ _⟩, HB1.out.alloc (by omega) _⟩
    case round =>
      obtain ⟨k, hk, rfl, ⟨hz, hrow⟩, hb⟩ := hrel
      have HB : Hid (Below (w.heap.size + 1) (w.alloc (.cells #[.int .i64 0, .int .i64 0] 38)) wr) := hb
      have HBW : Hid (Below w.heap.size w wr) := (slot_two hb).2.2.2.2
      have hbs : w.heap.size + 1 ≤ wr.heap.size := by have := hb.size; simpa using this
      have HZZ : Hid (∀ j (h : j < l.length), j < k → (stripL l[j].p n).2 = 0) := hz
      have HROW : Hid (wr.ownsRow (w.heap.size + 1) 24 3 _ ((l.take k).map fun f => ({ f with p := (stripL f.p n).1 } : F)).length (lcells ((l.take k).map fun f => { f with p := (stripL f.p n).1 }))) := hrow
      clear hb hrow hz
      have hwl : ((l.take k).map fun f => ({ f with p := (stripL f.p n).1 } : F)).length ≤ 100000 := by rw [List.length_map, List.length_take]; omega
      by_cases hlt : k < l.length
      · have hlt' : (k : Int) < (l.length : Int) := by omega
        obtain ⟨b, o, rfl, c0, c1, c2⟩ := (HL.out.below HBW.out).at hlt
        have hpl := HS.out.path _ (List.getElem_mem hlt)
        cases hst : stripL l[k].p n with
        | mk c kk =>
        by_cases hkk : kk = 0
        · subst hkk
          have HN : Hid (∀ j (h : j < l.length), j < k + 1 → (stripL l[j].p n).2 = 0) := by
            intro j hj hjk
            by_cases e : j = k
            · subst e; rw [hst]
            · exact HZZ.out j hj (by omega)
          have HW : Hid (((l.take (k + 1)).map fun f => ({ f with p := (stripL f.p n).1 } : F)) = ((l.take k).map fun f => ({ f with p := (stripL f.p n).1 } : F)) ++ [{ l[k] with p := c }]) := by
            show _ = _
            rw [List.take_succ_eq_append_getElem hlt, List.map_append]
            simp [hst]
          have HST : Hid ((stripL l[k].p n).1 = c ∧ ((stripL l[k].p n).2 : Int) = 0) := by rw [hst]; exact ⟨rfl, rfl⟩
          clear hst
          generalize l[k] = f at c0 c1 c2 hpl HST HW
          go_wp2_with fail
          refine (stripOf_is f.p c 0 n _ (by omega) HST.out.1 HST.out.2).mono ?_
          rintro e w5 ⟨rfl, hb5⟩
          have hbx : Below (wr.heap.size + 1) (wr.alloc (.cells #[sv f.p, .bool f.r, sv f.t] 24)) w5 := hb5.mono (by simp)
          obtain ⟨g0, g1, g2, hB5⟩ := box_three hbx
          have gf := box_frozen hbx
          have hsz5 : wr.heap.size + 1 ≤ w5.heap.size := by have := hb5.size; simpa using this
          have hrow2 := owns_later (j := 0) (sv c) HROW.out hB5 (Nat.le_refl _)
          have HB5 : Hid (Below (w.heap.size + 1) (w.alloc (.cells #[.int .i64 0, .int .i64 0] 38)) w5) := HB.out.trans (hB5.mono hbs)
          clear hb5 hbx hB5
          obtain ⟨j0, j1, j2⟩ := box_set (sv c) g0 g1 g2
          go_wp2_with (at_builtin; refine wpList_append_own _ rfl _ _ 22 rfl (w.heap.size + 1) 24 i0 (.agg #[.string ⟨#[]⟩, .bool false, .string ⟨#[]⟩]) 3 40 Tryz.underlying22 hi hz0 hz1 hz2 rfl (by decide) _ _ _ rfl (hrow2.alloc _) ⟨w5.heap.size, 0, none⟩ 1 1 [sv c, .bool f.r, sv f.t] rfl rfl (three_new _ _ _ _ _ _ (by simp)) (by simp [Value.oneCell']) (by unfold maxLen; omega) (by omega) (by simp; omega) ?_; intro v' w6 hown' hgrow _)
          have HB6 : Below (w.heap.size + 1) (w.alloc (.cells #[.int .i64 0, .int .i64 0] 38)) w6 := ((HB5.out.setCell (p := ⟨wr.heap.size, 0, none⟩) hbs _).alloc (by simp; omega) _).grown hgrow (by simp; omega) (fun j ej => (hrow2.lt j ej).1)
          refine ⟨⟨k + 1, by omega, by go_num, ⟨HN.out, ?_⟩, HB6⟩, by simp [intOf]; omega⟩
          rw [HW.out, lcells_app, List.length_append]
          simpa [lcells, fcells] using hown'
        · have HT : Hid (stripT l n = ([], kk, (k : Int))) := by
            show stripT l n = _
            have := mapPaths_at (fun s => stripL s n) l k 0 hlt HZZ.out (by show (stripL l[k].p n).2 ≠ 0; rw [hst]; exact hkk)
            have e : stripAll n l = ([], kk, k) := by
              show mapPaths _ 0 l = _
              rw [this]
              show ([], (stripL l[k].p n).2, 0 + k) = _
              rw [hst, Nat.zero_add]
            unfold stripT
            rw [if_neg (by simp [HC0.out]), e, if_pos hkk]
          have hpos : (0 : Int) < (kk : Int) := by omega
          have HST : Hid ((stripL l[k].p n).1 = c ∧ ((stripL l[k].p n).2 : Int) = kk) := by rw [hst]; exact ⟨rfl, rfl⟩
          clear hst hkk
          generalize l[k] = f at c0 c1 c2 hpl HST
          go_wp2_with fail
          refine (stripOf_is f.p c kk n _ (by omega) HST.out.1 HST.out.2).mono ?_
          rintro e w5 ⟨rfl, hb5⟩
          have hB5 : Below wr.heap.size wr w5 := ((Below.refl _ wr).alloc (Nat.le_refl _) _).trans (hb5.mono (by simp))
          have HB5 := HB.out.trans (hB5.mono hbs)
          obtain ⟨s0, s1, s2, s3, s4⟩ := slot_two HB5
          clear hb5 hB5 HB5
          go_wp2
          obtain ⟨q0, q1, q2⟩ := slot_set (w := w) (.int .i64 kk) (.int .i64 k) s0 s1 s4
          exact bodyPost_ret (v := .tuple #[.slice none 0 0, .agg #[.int .i64 kk, .int .i64 k]]) (by simp [results, Tryz.results25, go_sem, q0, q1]) rfl ⟨⟨_, by rw [HT.out], by rw [HT.out]; exact World.ownsRow_nil _ _ _ _⟩, q2⟩
      · obtain rfl : k = l.length := by omega
        have hall : ∀ f ∈ l, (stripL f.p n).2 = 0 := fun f hf => by
          obtain ⟨j, hj, rfl⟩ := List.getElem_of_mem hf
          exact HZZ.out j hj hj
        have hst : stripAll n l = (l.map fun f => { f with p := (stripL f.p n).1 }, 0, 0) := mapPaths_all (fun s => stripL s n) l 0 hall
        have HT : Hid (stripT l n = sortT (l.map fun f => { f with p := (stripL f.p n).1 })) := by
          show stripT l n = _
          unfold stripT
          rw [if_neg (by simp [HC0.out]), hst]
          rfl
        have hrow := HROW.out
        rw [List.take_length] at hrow hwl
        have HSM := map_small n HS.out
        obtain ⟨av, cv, rfl, hlies, _⟩ := owns_lies hrow
        have HLI : Hid (LiesAt wr av (l.map fun f => { f with p := (stripL f.p n).1 })) := hlies
        clear hrow hlies hst hall
        generalize (l.map fun f => ({ f with p := (stripL f.p n).1 } : F)) = m at HLI HSM hwl HT
        obtain ⟨R, rc, ri, hr⟩ : ∃ R rc ri, sortT m = (R, rc, ri) := ⟨_, _, _, rfl⟩
        have HR : Hid (sortT m = (R, rc, ri)) := hr
        have HTR : Hid (stripT l n = (R, rc, ri)) := HT.out.trans hr
        clear hr HT
        go_wp2_with fail
        refine (refSort_is m (R, rc, ri) rc ri av cv _ HLI.out HSM HR.out rfl rfl).mono ?_
        rintro e w5 ⟨⟨v, rfl, hown⟩, hb5⟩
        have HB5 := more_below HB.out rfl hb5
        have hrow5 : w5.ownsRow (w.heap.size + 1) 24 3 v R.length (lcells R) := hown.mono hbs
        obtain ⟨s0, s1, s2, s3, s4⟩ := slot_two HB5
        clear hb5 HB5 hown
        go_wp2
        obtain ⟨q0, q1, q2⟩ := slot_set (w := w) (.int .i64 rc) (.int .i64 ri) s0 s1 s4
        exact bodyPost_ret (v := .tuple #[v, .agg #[.int .i64 rc, .int .i64 ri]]) (by simp [results, Tryz.results25, go_sem, q0, q1]) rfl ⟨⟨_, by rw [HTR.out], by rw [HTR.out]; exact owns_slot _ _ hrow5⟩, q2⟩
  · have HD : Hid (stripT l n = ([], treeFault l)) := by
      show stripT l n = _
      simp [stripT, hc]
    have hpos : (0 : Int) < ((treeFault l).1 : Int) := by omega
    have HL : Hid (LiesAt w a l) := hl
    have HS : Hid (Small l) := hs
    clear hl hs hc
    go_enter Tryz.func25, Tryz.ntmps25
    go_wp2_with fail
    refine (refTreeFault_any l a ca _ (HL.out.below ((Below.refl _ _).alloc (Nat.le_refl _) _)) HS.out).mono ?_
    rintro e w1 ⟨rfl, hb1⟩
    have HB1 : Below (w.heap.size + 1) (w.alloc (.cells #[.int .i64 0, .int .i64 0] 38)) w1 := hb1.mono (by simp)
    have hs1 : w.heap.size + 1 ≤ w1.heap.size := by have := hb1.size; simpa using this
    obtain ⟨s0, s1, s2, s3, s4⟩ := slot_two (HB1.alloc hs1 (.cells #[.int .i64 (treeFault l).1, .int .i64 (treeFault l).2] 38))
    clear hb1 HB1
    generalize treeFault l = tf at *
    go_wp2
    go_region
    all_goals go_wp2
    all_goals
      obtain ⟨q0, q1, q2⟩ := slot_set (w := w) (.int .i64 tf.1) (.int .i64 tf.2) s0 s1 s4
      exact bodyPost_ret (v := .tuple #[.slice none 0 0, .agg #[.int .i64 tf.1, .int .i64 tf.2]]) (by simp [results, Tryz.results25, go_sem, q0, q1]) rfl ⟨⟨_, by rw [HD.out], by rw [HD.out]; exact World.ownsRow_nil _ _ _ _⟩, q2.drew⟩
end Go.Proofs.YtpogcedghbokbaaGreatDoor
/-
  CleanOf and JoinOf of the document's answer tell what the plain functions tell: contracts, over this seat's translation.
-/
namespace Go.Proofs.YtpogcedghbokbaaGreatDoor
open Go.RowKit Go.Shelf

/-- The pieces kept and the error's number behind the first k pieces. -/
def keptAt (s : List UInt8) (k : Nat) : List (List UInt8) := (cleanF ((pieces s).take k)).1
def codeTo (s : List UInt8) (k : Nat) : Nat := (cleanF ((pieces s).take k)).2

theorem step_to {s : List UInt8} {k : Nat} (h : k < (pieces s).length) {c : List (List UInt8) × Nat} (hc : cleanStep (keptAt s k, codeTo s k) (pieces s)[k] = c) : keptAt s (k + 1) = c.1 ∧ codeTo s (k + 1) = c.2 := by
  have : cleanF ((pieces s).take (k + 1)) = c := by
    rw [List.take_succ_eq_append_getElem h, cleanF_snoc]
    exact hc
  exact ⟨by unfold keptAt; rw [this], by unfold codeTo; rw [this]⟩

theorem clean_stop {s : List UInt8} {k c : Nat} (hh : s.head? ≠ some 47) (h : codeTo s k = c + 1) : cleanL s = ([], c + 1) := by
  have hp : (pieces s).take k <+: pieces s := List.take_prefix _ _
  have e := cleanF_prefix hp (by unfold codeTo at h; rw [h]; simp)
  have e2 : (cleanF (pieces s)).2 = c + 1 := by rw [e]; exact h
  unfold cleanL
  rw [if_neg hh, e2, if_pos (by simp)]

theorem clean_end {s : List UInt8} (hh : s.head? ≠ some 47) (h : codeTo s (pieces s).length = 0) : cleanL s = if 6 < (keptAt s (pieces s).length).length then ([], 8) else (Lib.join (keptAt s (pieces s).length) [47], 0) := by
  unfold codeTo at h
  unfold keptAt
  rw [List.take_length] at h ⊢
  unfold cleanL
  rw [if_neg hh, h]
  simp

set_option maxRecDepth 100000 in
set_option maxHeartbeats 1000000 in
theorem cleanOf_root (s : List UInt8) (w : World) (hs : s.length ≤ 90000) (h : s.head? = some 47) :
    Calls Tryz.prog 68 #[.string ⟨s.toArray⟩] w fun e w' => e = .returned (.tuple #[.string ⟨(cleanL s).1.toArray⟩, .int .i64 (cleanL s).2]) ∧ Below w.heap.size w w' := by
  have e : cleanL s = ([], 3) := by unfold cleanL; rw [if_pos h]
  rw [e]
  clear e
  obtain ⟨r, rfl⟩ : ∃ r, s = 47 :: r := by
    cases s with
    | nil => simp at h
    | cons c r => simp at h; exact ⟨r, by rw [h]⟩
  clear h
  go_enter Tryz.func68, Tryz.ntmps68
  go_wp2
  go_ret2
  exact ⟨rfl, Below.refl _ _⟩

set_option maxRecDepth 100000 in
set_option maxHeartbeats 1000000 in
theorem cleanOf_nil (w : World) : Calls Tryz.prog 68 #[.string ⟨#[]⟩] w fun e w' => e = .returned (.tuple #[.string ⟨#[]⟩, .int .i64 0]) ∧ Below w.heap.size w w' := by
  go_enter Tryz.func68, Tryz.ntmps68
  go_wp2_with fail
  refine (refCut_any [] _ (by decide)).mono ?_
  rintro e w1 ⟨v, rfl, hrow, hb⟩
  have HB : Hid (Below w.heap.size w w1) := hb
  rw [show pieces [] = [[]] from rfl] at hrow
  obtain ⟨g, cap, rfl⟩ := ownsRow_succ (k := 0) hrow
  have hcell := hrow.cellAt 0 (by decide)
  simp at hcell
  clear hrow hb
  go_wp2_with fail
  refine wp_loop_rounds 2 ?_
  rw [rounds_succ]
  go_wp2
  rw [rounds_succ]
  go_wp2_with fail
  refine (glue_none _ _ _).mono ?_
  rintro e w2 ⟨rfl, rfl⟩
  go_wp2
  go_ret2
  exact ⟨rfl, HB.out⟩

theorem glue_all (base cap : Nat) (a : Option Addr) (k : List (List UInt8)) (w : World) (hrow : w.ownsRow base 9 1 (.slice a k.length cap) k.length (k.map sv)) (hk : k.length ≤ 100000) (hM : ∀ x ∈ k, x.length ≤ 100000) :
    Calls Tryz.prog 71 #[.slice a k.length cap] w fun e w' => e = .returned (.string ⟨(Lib.join k [47]).toArray⟩) ∧ w' = w := by
  cases k with
  | nil => exact glue_none a cap w
  | cons x k =>
    obtain ⟨g, cap', hv⟩ := ownsRow_succ (k := k.length) hrow
    simp only [Value.slice.injEq] at hv
    obtain ⟨rfl, _, rfl⟩ := hv
    obtain ⟨hcell, _⟩ := owns_cells (k := x :: k) hrow rfl
    exact glue_own g 0 cap (x :: k) w hk hM (fun j h => by rw [Nat.zero_add]; exact hcell j h)

set_option maxRecDepth 100000 in
set_option maxHeartbeats 4000000 in
theorem cleanOf_text (s : List UInt8) (w : World) (hs : s.length ≤ 90000) (h0 : s ≠ []) (hh : s.head? ≠ some 47) :
    Calls Tryz.prog 68 #[.string ⟨s.toArray⟩] w fun e w' => e = .returned (.tuple #[.string ⟨(cleanL s).1.toArray⟩, .int .i64 (cleanL s).2]) ∧ Below w.heap.size w w' := by
  obtain ⟨i0, hi, hz0, hz1, hz2⟩ := info_parts Tryz.info9
  have HH : Hid (s.head? ≠ some 47) := hh
  have hpl := pieces_length s
  have hpn : 1 ≤ (pieces s).length := by
    have := pieces_ne s
    rcases hl : pieces s with _ | ⟨x, r⟩
    · exact absurd hl this
    · simp
  have hlen : 0 < s.length := List.length_pos_iff.2 h0
  have hsz : 0 < ({ data := s.toArray } : ByteArray).size := by simpa [ByteArray.size] using hlen
  have hbyte : (((({ data := s.toArray } : ByteArray)[0]'hsz).toNat : Int) == 47) = false := by
    show (((s[0]).toNat : Int) == 47) = false
    rw [beq_eq_false_iff_ne]
    intro e
    apply hh
    rw [List.head?_eq_getElem?, List.getElem?_eq_getElem hlen]
    congr 1
    apply UInt8.toNat_inj.1
    have : (47 : UInt8).toNat = 47 := rfl
    omega
  have hlen' : (0 : Int) < s.length := by omega
  clear hh h0
  go_enter Tryz.func68, Tryz.ntmps68
  go_wp2_with fail
  refine (refCut_any s _ hs).mono ?_
  rintro e w1 ⟨v, rfl, hrow, hb⟩
  have HB : Hid (Below w.heap.size w w1) := hb
  obtain ⟨q, hq⟩ : ∃ q, (pieces s).length = q + 1 := ⟨(pieces s).length - 1, by omega⟩
  have hrow' := hrow
  rw [hq] at hrow'
  obtain ⟨g, cap, rfl⟩ := ownsRow_succ hrow'
  rw [← hq] at hrow
  obtain ⟨hcell, hgl, _, _⟩ := owns_cells hrow rfl
  have HCELL : Hid (∀ j (h : j < (pieces s).length), w1.cell? ⟨g, j, none⟩ = some (.string ⟨((pieces s)[j]).toArray⟩)) := hcell
  rw [← hq]
  clear hrow hrow' hcell hb hq hbyte
  go_wp2_with fail
  go_loopw [5, 6] (fun out i wr => ∃ k : Nat, k ≤ (pieces s).length ∧ i = .int .i64 k ∧ codeTo s k = 0 ∧ wr.ownsRow w1.heap.size 9 1 out (keptAt s k).length ((keptAt s k).map sv) ∧ Below w1.heap.size w1 wr) (fun _ i _ => (pieces s).length - (intOf i).toNat)
  case atStart => exact ⟨0, by omega, rfl, rfl, World.ownsRow_nil _ _ _ _, Below.refl _ _⟩
  case round =>
    obtain ⟨k, hk, rfl, hcode, hrow, hb⟩ := hrel
    have HCO : Hid (codeTo s k = 0) := hcode
    have HBR : Hid (Below w1.heap.size w1 wr) := hb
    have hbs := hb.size
    have hkl : (keptAt s k).length ≤ k := by
      have := cleanF_length ((pieces s).take k)
      rw [List.length_take] at this
      unfold keptAt
      omega
    clear hcode hb
    by_cases hlt : k < (pieces s).length
    · have hc : wr.cell? ⟨g, k, none⟩ = some (.string ⟨((pieces s)[k]).toArray⟩) := (HBR.out.cell (p := ⟨g, k, none⟩) hgl).trans (HCELL.out k hlt)
      have hxl := pieces_le s _ (List.getElem_mem hlt)
      have HST : Hid (∀ c, cleanStep (keptAt s k, codeTo s k) (pieces s)[k] = c → keptAt s (k + 1) = c.1 ∧ codeTo s (k + 1) = c.2) := fun c h => step_to hlt h
      generalize (pieces s)[k] = x at hc hxl HST
      by_cases h0 : x = []
      · subst h0
        obtain ⟨e1, e2⟩ := HST.out _ (cleanStep_dot (st := (keptAt s k, codeTo s k)) HCO.out (.inl rfl))
        have HK : Hid (keptAt s (k + 1) = keptAt s k ∧ codeTo s (k + 1) = 0) := ⟨e1, e2.trans HCO.out⟩
        clear e1 e2
        go_wp2
        go_roundw
        case rel => exact ⟨k + 1, by omega, by go_num, HK.out.2, by rw [HK.out.1]; exact hrow, HBR.out⟩
        case measure => simp [intOf]; omega
      by_cases h1 : x = [46]
      · subst h1
        obtain ⟨e1, e2⟩ := HST.out _ (cleanStep_dot (st := (keptAt s k, codeTo s k)) HCO.out (.inr rfl))
        have HK : Hid (keptAt s (k + 1) = keptAt s k ∧ codeTo s (k + 1) = 0) := ⟨e1, e2.trans HCO.out⟩
        clear e1 e2 h0
        go_wp2
        go_roundw
        case rel => exact ⟨k + 1, by omega, by go_num, HK.out.2, by rw [HK.out.1]; exact hrow, HBR.out⟩
        case measure => simp [intOf]; omega
      have hb0 : x.isEmpty = false := by simpa using h0
      have hb1 : (x == [46]) = false := by simpa using h1
      by_cases h2 : x = [46, 46]
      · subst h2
        clear h0 h1
        by_cases hke : keptAt s k = []
        · obtain ⟨e1, e2⟩ := HST.out _ (cleanStep_out (st := (keptAt s k, codeTo s k)) HCO.out hke)
          have HC : Hid (cleanL s = ([], 9 + 1)) := clean_stop (k := k + 1) HH.out e2
          rw [hke] at hrow
          obtain ⟨a, cap', rfl⟩ := ownsRow_slice hrow
          clear e1 e2 hke hrow
          go_wp2
          go_ret2
          exact ⟨by rw [HC.out]; rfl, HB.out.trans (HBR.out.mono HB.out.size)⟩
        · obtain ⟨ks, y, hky⟩ : ∃ ks y, keptAt s k = ks ++ [y] := ⟨_, _, (List.dropLast_concat_getLast hke).symm⟩
          obtain ⟨e1, e2⟩ := HST.out _ (cleanStep_up (st := (keptAt s k, codeTo s k)) HCO.out hke)
          simp only [hky, List.dropLast_concat] at e1
          have HK : Hid (keptAt s (k + 1) = ks ∧ codeTo s (k + 1) = 0) := ⟨e1, e2⟩
          rw [hky] at hrow hkl
          simp only [List.length_append, List.length_cons, List.length_nil, Nat.zero_add] at hrow hkl
          obtain ⟨g2, cap2, rfl⟩ := ownsRow_succ hrow
          have hcap : ks.length + 1 ≤ cap2 ∧ cap2 ≤ maxLen := by
            rcases hrow.2 with ⟨h, _⟩ | ⟨g', cap', cur, hv', _, _, h1, h2, _⟩
            · cases h
            · cases hv'; exact ⟨h1, h2⟩
          rw [List.map_append] at hrow
          have HP : Hid (wr.ownsRow w1.heap.size 9 1 (.slice (some ⟨g2, 0, none⟩) ks.length cap2) ks.length (ks.map sv)) := ownsRow_pop (by simp) hrow
          obtain ⟨hcap1, hcap2⟩ := hcap
          unfold maxLen at hcap2
          clear e1 e2 hke hky hrow
          go_wp2
          go_roundw
          case rel => exact ⟨k + 1, by omega, by go_num, HK.out.2, by rw [HK.out.1]; exact HP.out, HBR.out⟩
          case measure => simp [intOf]; omega
      have hb2 : (x == [46, 46]) = false := by simpa using h2
      by_cases hp : isPart x = true
      · obtain ⟨e1, e2⟩ := HST.out _ (cleanStep_part (st := (keptAt s k, codeTo s k)) HCO.out h0 h1 h2 hp)
        have HK : Hid (keptAt s (k + 1) = keptAt s k ++ [x] ∧ codeTo s (k + 1) = 0) := ⟨e1, e2⟩
        have HPI : Hid (isPart x = true) := hp
        clear e1 e2 h0 h1 h2 hp
        rcases hrow.2 with ⟨hnil, hz⟩ | ⟨g2, cap2, cur2, hsl, hg2, hh2, hn2, hc2, hs2, ht2⟩
        · have hke : keptAt s k = [] := List.eq_nil_of_length_eq_zero hz
          subst hnil
          go_wp2_with fail
          refine (refIsPart_is x true _ (by omega) HPI.out).mono ?_
          rintro e w2 ⟨rfl, hw2⟩
          subst hw2
          clear hrow hz
          go_wp2_with (at_builtin; first | (refine wpList_append_own_none rfl _ _ 51 rfl w1.heap.size 9 i0 1 Tryz.underlying51 hi _ 0 [] rfl (World.ownsRow_nil _ _ _ _) rfl ?_) | (refine wpList_append_own _ rfl _ _ 51 rfl w1.heap.size 9 i0 (.string ⟨#[]⟩) 1 16 Tryz.underlying51 hi hz0 hz1 hz2 rfl (by decide) (.slice none 0 0) 0 [] rfl (World.ownsRow_nil _ _ _ _) ⟨w2.heap.size, 0, none⟩ 1 1 [.string ⟨x.toArray⟩] rfl rfl (cell_one_new _ _ _) (by simp [Value.oneCell']) (by unfold maxLen; omega) (by omega) (by simp; omega) ?_; intro v' w3 hown' hgrow _))
          have HB3 : Below w1.heap.size w1 w3 := (HBR.out.alloc hbs _).grown hgrow (by simp; omega) (fun j ej => by cases ej)
          refine ⟨⟨k + 1, by omega, by go_num, HK.out.2, ?_, HB3⟩, by simp [intOf]; omega⟩
          rw [HK.out.1, hke]
          simpa using hown'
        · subst hsl
          have hnews := hrow.cells (g := g2) rfl
          have hkl2 : (keptAt s k).length ≤ 90001 := by omega
          go_wp2_with fail
          refine (refIsPart_is x true _ (by omega) HPI.out).mono ?_
          rintro e w2 ⟨rfl, hw2⟩
          subst hw2
          go_wp2_with (at_builtin; first | (refine wpList_append_own _ rfl _ _ 51 rfl w1.heap.size 9 i0 (.string ⟨#[]⟩) 1 16 Tryz.underlying51 hi hz0 hz1 hz2 rfl (by decide) _ _ _ rfl (hown1.alloc _) ⟨w3.heap.size, 0, none⟩ 1 1 [.string ⟨x.toArray⟩] rfl rfl (cell_one_new _ _ _) (by simp [Value.oneCell']) (by unfold maxLen; omega) (by omega) (by simp; omega) ?_; intro v' w4 hown' hgrow _) | (refine wpList_append_own _ rfl _ _ 51 rfl w1.heap.size 9 i0 (.string ⟨#[]⟩) 1 16 Tryz.underlying51 hi hz0 hz1 hz2 rfl (by decide) (.slice none 0 0) 0 [] rfl (World.ownsRow_nil _ _ _ _) ⟨g2, 0, none⟩ (keptAt s k).length cap2 ((keptAt s k).map sv) rfl (by simp) hnews (by simp [Value.oneCell']) (by unfold maxLen; omega) (by omega) (by omega) ?_; intro v1 w3 hown1 hgrow1 _; have hz3 := hgrow1.size; have hc3 : w3.cell? ⟨g, k, none⟩ = some (.string ⟨x.toArray⟩) := (World.cell?_of_block (hgrow1.block g (by omega) (fun e => by cases e))).trans hc))
          have HB3 : Below w1.heap.size w1 w3 := HBR.out.grown hgrow1 hbs (fun j ej => by cases ej)
          have HB4 : Below w1.heap.size w1 w4 := (HB3.alloc (by omega) _).grown hgrow (by simp; omega) (fun j ej => (hown1.lt j ej).1)
          refine ⟨⟨k + 1, by omega, by go_num, HK.out.2, ?_, HB4⟩, by simp [intOf]; omega⟩
          rw [HK.out.1]
          simpa using hown'
      · have hp' : isPart x = false := by simpa using hp
        obtain ⟨e1, e2⟩ := HST.out _ (cleanStep_none (st := (keptAt s k, codeTo s k)) HCO.out h0 h1 h2 hp')
        have HC : Hid (cleanL s = ([], 4 + 1)) := clean_stop (k := k + 1) HH.out e2
        have HPI : Hid (isPart x = false) := hp'
        clear e1 e2 h0 h1 h2 hp hp'
        go_wp2_with fail
        refine (refIsPart_is x false _ (by omega) HPI.out).mono ?_
        rintro e w2 ⟨rfl, rfl⟩
        go_wp2
        go_ret2
        exact ⟨by rw [HC.out]; rfl, HB.out.trans (HBR.out.mono HB.out.size)⟩
    · have hkeq : k = (pieces s).length := by omega
      have HCL : Hid (cleanL s = if 6 < (keptAt s k).length then ([], 8) else (Lib.join (keptAt s k) [47], 0)) := by
        subst hkeq
        exact clean_end HH.out HCO.out
      have HPT : Hid (∀ x ∈ keptAt s k, x.length ≤ 100000) := fun x hx => by have := isPart_length (cleanF_parts _ x hx); omega
      clear hkeq
      generalize keptAt s k = kk at hrow hkl HCL HPT
      obtain ⟨a, cap2, rfl⟩ := ownsRow_slice hrow
      by_cases hl : 6 < kk.length
      · have hl' : (6 : Int) < kk.length := by omega
        go_wp2
        go_ret2
        exact ⟨by rw [HCL.out, if_pos hl]; rfl, HB.out.trans (HBR.out.mono HB.out.size)⟩
      · have hl' : ¬ (6 : Int) < kk.length := by omega
        go_wp2_with fail
        refine (glue_all w1.heap.size cap2 a kk _ hrow (by omega) HPT.out).mono ?_
        rintro e w2 ⟨rfl, rfl⟩
        go_wp2
        go_ret2
        exact ⟨by rw [HCL.out, if_neg hl]; rfl, HB.out.trans (HBR.out.mono HB.out.size)⟩

theorem cleanOf_any (s : List UInt8) (w : World) (hs : s.length ≤ 90000) :
    Calls Tryz.prog 68 #[.string ⟨s.toArray⟩] w fun e w' => e = .returned (.tuple #[.string ⟨(cleanL s).1.toArray⟩, .int .i64 (cleanL s).2]) ∧ Below w.heap.size w w' := by
  by_cases hh : s.head? = some 47
  · exact cleanOf_root s w hs hh
  · by_cases h0 : s = []
    · subst h0
      have e : cleanL [] = ([], 0) := by decide +kernel
      rw [e]
      exact cleanOf_nil w
    · exact cleanOf_text s w hs h0 hh

set_option maxHeartbeats 1000000 in
theorem joinOf_any (dir s : List UInt8) (w : World) (hd : dir.length ≤ 40000) (hs : s.length ≤ 40000) :
    Calls Tryz.prog 47 #[.string ⟨dir.toArray⟩, .string ⟨s.toArray⟩] w fun e w' => e = .returned (.tuple #[.string ⟨(cleanL (joinTo dir s)).1.toArray⟩, .int .i64 (cleanL (joinTo dir s)).2]) ∧ Below w.heap.size w w' := by
  by_cases h0 : dir = []
  · subst h0
    have e : joinTo [] s = s := by simp [joinTo]
    rw [e]
    go_enter Tryz.func47, Tryz.ntmps47
    go_wp2_with fail
    refine (cleanOf_any s _ (by omega)).mono ?_
    rintro e w1 ⟨rfl, hb⟩
    have HB : Hid (Below w.heap.size w w1) := hb
    clear hb
    go_wp2
    go_ret2
    exact ⟨rfl, HB.out⟩
  · have e : joinTo dir s = dir ++ 47 :: s := by simp [joinTo, h0]
    rw [e]
    have hb0 : dir.isEmpty = false := by simpa using h0
    clear h0 e
    go_enter Tryz.func47, Tryz.ntmps47
    go_wp2_with fail
    rw [show ({ data := dir.toArray } : ByteArray) ++ { data := #[47] } ++ { data := s.toArray } = ⟨(dir ++ 47 :: s).toArray⟩ from by
      rw [show ({ data := #[47] } : ByteArray) = ⟨[47].toArray⟩ from rfl, cat_list, cat_list]; simp]
    refine (cleanOf_any (dir ++ 47 :: s) _ (by simp; omega)).mono ?_
    rintro e w1 ⟨rfl, hb⟩
    have HB : Hid (Below w.heap.size w w1) := hb
    clear hb
    go_wp2
    go_ret2
    exact ⟨rfl, HB.out⟩
end Go.Proofs.YtpogcedghbokbaaGreatDoor
