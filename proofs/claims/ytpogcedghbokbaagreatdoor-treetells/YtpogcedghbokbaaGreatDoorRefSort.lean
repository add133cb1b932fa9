/-
  The document's answer for trees: SortTree: over this seat's translation.
-/
import Derived.Test.YtpogcedghbokbaaGreatDoorRefDrop
import Derived.Test.YtpogcedghbokbaaGreatDoorTreeInsert
import Derived.Test.YtpogcedghbokbaaGreatDoorLawTree
import Derived.Laws.AppendOwnNone
namespace Go.Proofs.YtpogcedghbokbaaGreatDoor
open Go.RowKit Go.Shelf

/-- Behind a place of a row of the call's own: where it begins. -/
theorem tail_src {w : World} {g cap j : Nat} {s : List F} (hl : LiesAt w (some ⟨g, 0, none⟩) s) (hj : j ≤ s.length) (hcap : s.length ≤ cap) :
    ∃ A : Addr, (if cap = j then some (⟨g, 0, none⟩ : Addr) else some ⟨g, j * 3, none⟩) = some A ∧ Hid (∀ t u, (lcells (s.drop j))[t]? = some u → w.cell? (A.add t) = some u) := by
  have hld : (lcells (s.drop j)).length = (s.length - j) * 3 := by rw [lcells_length, List.length_drop]
  have hlt : (lcells (s.take j)).length = j * 3 := by rw [lcells_length, List.length_take]; congr 1; omega
  by_cases hcj : cap = j
  · refine ⟨⟨g, 0, none⟩, by simp [hcj], fun t u hu => ?_⟩
    have ht := (List.getElem?_eq_some_iff.1 hu).1
    omega
  · refine ⟨⟨g, j * 3, none⟩, by simp [hcj], fun t u hu => ?_⟩
    have hn := hl.news (j * 3 + t) u (by
      have : lcells s = lcells (s.take j) ++ lcells (s.drop j) := by rw [← lcells_app, List.take_append_drop]
      rw [this, List.getElem?_append_right (by omega), hlt, Nat.add_sub_cancel_left]
      exact hu)
    rw [Addr.add_lit, Nat.zero_add] at hn
    rw [Addr.add_lit]
    exact hn

theorem head_src {w : World} {g j : Nat} {s : List F} (hl : LiesAt w (some ⟨g, 0, none⟩) s) : ∀ t u, (lcells (s.take j))[t]? = some u → w.cell? ((⟨g, 0, none⟩ : Addr).add t) = some u := fun t u hu => by
  refine hl.news t u ?_
  have ht := (List.getElem?_eq_some_iff.1 hu).1
  have : lcells s = lcells (s.take j) ++ lcells (s.drop j) := by rw [← lcells_app, List.take_append_drop]
  rw [this, List.getElem?_append_left ht]
  exact hu

set_option maxRecDepth 100000 in
set_option maxHeartbeats 8000000 in
theorem refSort_any (l : List F) (a : Option Addr) (ca : Nat) (w : World) (hl : LiesAt w a l) (hs : Small l) :
    Calls Tryz.prog 18 #[.slice a l.length ca] w fun e w' => (∃ v, e = .returned (.tuple #[v, .agg #[.int .i64 (sortT l).2.1, .int .i64 (sortT l).2.2]]) ∧ w'.ownsRow w.heap.size 24 3 v (sortT l).1.length (lcells (sortT l).1)) ∧ Below w.heap.size w w' := by
  have hfew := hs.few
  have HL : Hid (LiesAt w a l) := hl
  have HS : Hid (Small l) := hs
  clear hl hs
  obtain ⟨i0, hi, hz0, hz1, hz2⟩ := info_parts Tryz.infoFile
  go_enter Tryz.func18, Tryz.ntmps18
  go_wp2_with fail
  go_loopw [4, 5] (fun out i wr => ∃ k : Nat, k ≤ l.length ∧ i = .int .i64 k ∧ (∃ s : List F, (s.Perm (l.take k) ∧ Weak s) ∧ wr.ownsRow (w.heap.size + 1) 24 3 out s.length (lcells s)) ∧ Below (w.heap.size + 1) (w.alloc (.cells #[.int .i64 0, .int .i64 0] 38)) wr) (fun _ i _ => l.length - (intOf i).toNat)
  case atStart => exact ⟨0, by omega, rfl, ⟨[], ⟨by simp, List.Pairwise.nil⟩, World.ownsRow_nil _ _ _ _⟩, Below.refl _ _⟩
  case round =>
    obtain ⟨k, hk, rfl, ⟨s, hps, hrow⟩, hb⟩ := hrel
    have HPS : Hid (s.Perm (l.take k) ∧ Weak s) := hps
    have HB : Hid (Below (w.heap.size + 1) (w.alloc (.cells #[.int .i64 0, .int .i64 0] 38)) wr) := hb
    have hbs : w.heap.size + 1 ≤ wr.heap.size := by have := hb.size; simpa using this
    have hs1000 : s.length ≤ 100000 := by
      have := hps.1.length_eq
      rw [List.length_take] at this; omega
    have HROW : Hid (wr.ownsRow (w.heap.size + 1) 24 3 _ s.length (lcells s)) := hrow
    clear hb hps
    by_cases hlt : k < l.length
    · have hlt' : (k : Int) < (l.length : Int) := by omega
      obtain ⟨b, o, rfl, c0, c1, c2⟩ := (HL.out.below (slot_two HB.out).2.2.2.2).at hlt
      have HX : Hid (∀ W, Below wr.heap.size wr W → W.cell? ⟨b, o + k * 3, none⟩ = some (sv l[k].p) ∧ W.cell? ⟨b, o + k * 3 + 1, none⟩ = some (.bool l[k].r) ∧ W.cell? ⟨b, o + k * 3 + 2, none⟩ = some (sv l[k].t)) := fun W hW =>
        ⟨(hW.cell (p := ⟨b, o + k * 3, none⟩) (block_lt_of_cell c0)).trans c0, (hW.cell (p := ⟨b, o + k * 3 + 1, none⟩) (block_lt_of_cell c1)).trans c1, (hW.cell (p := ⟨b, o + k * 3 + 2, none⟩) (block_lt_of_cell c2)).trans c2⟩
      have HT : Hid (l.take (k + 1) = l.take k ++ [l[k]]) := List.take_succ_eq_append_getElem hlt
      have hk0 : (0 : Int) ≤ (k : Int) := by omega
      generalize l[k] = f at c0 c1 c2 HX HT
      rcases hrow.2 with ⟨rfl, h0⟩ | ⟨g, cap, cur, rfl, hgb, hgh, hcap, _⟩
      · have hs0 : s = [] := List.length_eq_zero_iff.1 h0
        subst hs0
        have HN : Hid ([f].Perm (l.take (k + 1)) ∧ Weak [f]) := by
          refine ⟨?_, List.pairwise_singleton _ _⟩
          rw [HT.out]
          exact (HPS.out.1.append_right [f])
        clear hrow h0
        go_wp2_with fail
        refine wp_loop_rounds 1 ?_
        rw [rounds_succ]
        go_wp2_with fail
        go_quiet (fail)
        go_wp2_with (at_builtin; first
          | (refine wpList_append_own_none rfl _ _ 22 rfl (w.heap.size + 1) 24 i0 3 Tryz.underlying22 hi _ _ _ rfl hown2 rfl ?_)
          | (refine wpList_append_own_none rfl _ _ 22 rfl (w.heap.size + 1) 24 i0 3 Tryz.underlying22 hi _ 0 [] rfl (World.ownsRow_nil _ _ _ _) rfl ?_)
          | (refine wpList_append_own _ rfl _ _ 22 rfl (w.heap.size + 1) 24 i0 (.agg #[.string ⟨#[]⟩, .bool false, .string ⟨#[]⟩]) 3 40 Tryz.underlying22 hi hz0 hz1 hz2 rfl (by decide) (.slice none 0 0) 0 [] rfl (World.ownsRow_nil _ _ _ _) ⟨wr.heap.size, 0, none⟩ 1 1 (fcells f) rfl rfl (cells_new wr f _) (by simp [fcells, Value.oneCell']) (by unfold maxLen; omega) (by omega) (by simp; omega) ?_; intro v2 w2 hown2 hgrow2 _))
        have HB2 : Below (w.heap.size + 1) (w.alloc (.cells #[.int .i64 0, .int .i64 0] 38)) w2 := ((below_drewN HB.out _).alloc hbs _).grown hgrow2 (by simp; omega) (fun j ej => by cases ej)
        refine ⟨⟨k + 1, by omega, by go_num, ⟨[f], HN.out, by simpa [lcells] using hown2⟩, HB2⟩, by simp [intOf]; omega⟩
      · obtain ⟨_, _, e', hl0, _⟩ := owns_lies hrow
        cases e'
        have HLIES : Hid (LiesAt wr (some ⟨g, 0, none⟩) s) := hl0
        clear hrow hl0 hgh hgb HROW c0 c1 c2
        obtain ⟨wo, rfl⟩ : ∃ wo, wo = wr := ⟨_, rfl⟩
        go_wp2_with fail
        go_loopw [6] (fun ja wr => ∃ j : Nat, j ≤ s.length ∧ ja = .int .i64 j ∧ (∀ m (h : m < s.length), j ≤ m → less f.p s[m].p = true) ∧ Below wo.heap.size wo wr) (fun ja _ => (intOf ja).toNat)
        case atStart => exact ⟨s.length, by omega, rfl, fun _ _ h => by omega, Below.refl _ _⟩
        case round =>
          obtain ⟨j, hj, rfl, hup, hbk⟩ := hrel
          have HUP : Hid (∀ m (h : m < s.length), j ≤ m → less f.p s[m].p = true) := hup
          have HBK : Hid (Below wo.heap.size wo wr) := hbk
          have HBKW : Hid (Below (w.heap.size + 1) (w.alloc (.cells #[.int .i64 0, .int .i64 0] 38)) wr) := HB.out.trans (hbk.mono hbs)
          clear hup hbk
          obtain ⟨x0, x1, x2⟩ := HX.out wr HBK.out
          by_cases hj1 : 0 < j
          · obtain ⟨b', o', e', d0, d1, d2⟩ := (HLIES.out.below HBK.out).at (k := j - 1) (by omega)
            cases e'
            rw [Nat.zero_add] at d0 d1 d2
            have hjp : (0 : Int) < (j : Int) := by omega
            have hsub : (j : Int) - 1 = ((j - 1 : Nat) : Int) := by omega
            have hjl : ((j - 1 : Nat) : Int) < (s.length : Int) := by omega
            cases hle : less f.p (s[j - 1]'(by omega)).p with
            | true =>
              have HUP2 : Hid (∀ m (h : m < s.length), j - 1 ≤ m → less f.p s[m].p = true) := by
                intro m hm hjm
                by_cases e : m = j - 1
                · subst e; exact hle
                · exact HUP.out m hm (by omega)
              have hle' : Op.bytesLess f.p (s[j - 1]'(by omega)).p = true := hle
              clear hle
              generalize (s[j - 1]'(by omega)) = y at d0 d1 d2 hle'
              go_wp2_with fail
              go_quiet (fail)
              go_wp2
              go_roundw
              case rel => exact ⟨j - 1, by omega, by first | rfl | (congr 1; omega), HUP2.out, below_drewN HBK.out _⟩
              case measure => simp [intOf]; omega
            | false =>
              have hlow : ∀ h : 0 < j, less f.p (s[j - 1]'(by omega)).p = false := fun _ => hle
              have hle' : Op.bytesLess f.p (s[j - 1]'(by omega)).p = false := hle
              clear hle
              have HLOW : Hid (∀ h : 0 < j, less f.p (s[j - 1]'(by omega)).p = false) := hlow
              clear hlow
              generalize hy : (s[j - 1]'(by omega)) = y at d0 d1 d2 hle'
              clear hy
              go_wp2_with fail
              go_quiet (fail)
              clear d0 d1 d2 hle' x0 x1 x2
              have hlow := HLOW.out
              have hj0 : (0 : Int) ≤ (j : Int) := by omega
              have hjs : (j : Int) ≤ (s.length : Int) := by omega
              have hjc : (j : Int) ≤ (cap : Int) := by omega
              have HNEW : Hid ((s.take j ++ f :: s.drop j).Perm (l.take (k + 1)) ∧ Weak (s.take j ++ f :: s.drop j)) := by
                refine ⟨?_, insert_weak HPS.out.2 hj hlow HUP.out⟩
                rw [HT.out]
                exact (insert_perm s f j).trans (HPS.out.1.append_right [f])
              have HLIESK : Hid (LiesAt wr (some ⟨g, 0, none⟩) s) := HLIES.out.below HBK.out
              obtain ⟨A, hA, hsrc⟩ := tail_src HLIESK.out hj hcap
              have HSRC1 : Hid (∀ t u, (lcells (s.take j))[t]? = some u → wr.cell? ((⟨g, 0, none⟩ : Addr).add t) = some u) := head_src HLIESK.out
              have HLT : Hid ((lcells (s.take j)).length = j * 3) := by show _ = _; rw [lcells_length, List.length_take]; congr 1; omega
              have HLD : Hid ((lcells (s.drop j)).length = (s.length - j) * 3) := by show _ = _; rw [lcells_length, List.length_drop]
              have hks := HBK.out.size
              clear hlow
              go_wp2_with (at_builtin; first
                | (refine wpList_append_own _ rfl _ _ 22 rfl wr.heap.size 24 i0 (.agg #[.string ⟨#[]⟩, .bool false, .string ⟨#[]⟩]) 3 40 Tryz.underlying22 hi hz0 hz1 hz2 rfl (by decide) _ _ _ rfl hown2 A (s.length - j) (cap - j) (lcells (s.drop j)) rfl HLD.out (fun t u hu => (HB2.cell (p := A.add t) (block_lt_of_cell (hsrc.out t u hu))).trans (hsrc.out t u hu)) (lcells_one _) (by unfold maxLen; omega) (by omega) HB2.size ?_; intro v3 w3 hown3 hgrow3 _)
                | (refine wpList_append_own _ rfl _ _ 22 rfl wr.heap.size 24 i0 (.agg #[.string ⟨#[]⟩, .bool false, .string ⟨#[]⟩]) 3 40 Tryz.underlying22 hi hz0 hz1 hz2 rfl (by decide) _ _ _ rfl (hown1.alloc _) ⟨w1.heap.size, 0, none⟩ 1 1 (fcells f) rfl rfl (cells_new w1 f _) (by simp [fcells, Value.oneCell']) (by unfold maxLen; omega) (by omega) (Nat.le_trans HB1.size (by simp)) ?_; intro v2 w2 hown2 hgrow2 _; have HB2 : Below wr.heap.size wr w2 := (HB1.alloc HB1.size _).grown hgrow2 (Nat.le_trans HB1.size (by simp)) (fun j ej => (hown1.lt j ej).1))
                | (refine wpList_append_own _ rfl _ _ 22 rfl wr.heap.size 24 i0 (.agg #[.string ⟨#[]⟩, .bool false, .string ⟨#[]⟩]) 3 40 Tryz.underlying22 hi hz0 hz1 hz2 rfl (by decide) (.slice none 0 0) 0 [] rfl (World.ownsRow_nil _ _ _ _) ⟨g, 0, none⟩ j cap (lcells (s.take j)) rfl HLT.out HSRC1.out (lcells_one _) (by unfold maxLen; omega) (by omega) (Nat.le_refl _) ?_; intro v1 w1 hown1 hgrow1 _; have HB1 : Below wr.heap.size wr w1 := (below_drewN (Below.refl _ wr) _).grown hgrow1 (Nat.le_refl _) (fun k e => by cases e); obtain ⟨e0, e1, e2⟩ := HX.out w1 (HBK.out.trans (HB1.mono HBK.out.size))))
              have HB3 : Below wr.heap.size wr w3 := HB2.grown hgrow3 HB2.size (fun j ej => (hown2.lt j ej).1)
              have HB3W : Below (w.heap.size + 1) (w.alloc (.cells #[.int .i64 0, .int .i64 0] 38)) w3 := HBKW.out.trans (HB3.mono (by omega))
              refine ⟨⟨k + 1, by omega, by go_num, ⟨s.take j ++ f :: s.drop j, HNEW.out, ?_⟩, HB3W⟩, by simp [intOf]; omega⟩
              have e1 : (s.take j ++ f :: s.drop j).length = 0 + j + 1 + (s.length - j) := by rw [List.length_append, List.length_cons, List.length_take, List.length_drop]; omega
              have e2 : lcells (s.take j ++ f :: s.drop j) = [] ++ lcells (s.take j) ++ fcells f ++ lcells (s.drop j) := by rw [lcells_app, List.nil_append, List.append_assoc]; rfl
              rw [e1, e2]
              exact hown3.mono (by omega)
          · have hjn : ¬ (0 : Int) < (j : Int) := by omega
            have hjd : decide ((0 : Int) < (j : Int)) = false := by simp; omega
            have hlow : ∀ h : 0 < j, less f.p (s[j - 1]'(by omega)).p = false := fun h => absurd h hj1
            have HLOW : Hid (∀ h : 0 < j, less f.p (s[j - 1]'(by omega)).p = false) := hlow
            clear hlow
            go_wp2_with fail
            go_quiet (fail)
            clear x0 x1 x2 hjn hjd
            have hlow := HLOW.out
            have hj0 : (0 : Int) ≤ (j : Int) := by omega
            have hjs : (j : Int) ≤ (s.length : Int) := by omega
            have hjc : (j : Int) ≤ (cap : Int) := by omega
            have HNEW : Hid ((s.take j ++ f :: s.drop j).Perm (l.take (k + 1)) ∧ Weak (s.take j ++ f :: s.drop j)) := by
              refine ⟨?_, insert_weak HPS.out.2 hj hlow HUP.out⟩
              rw [HT.out]
              exact (insert_perm s f j).trans (HPS.out.1.append_right [f])
            have HLIESK : Hid (LiesAt wr (some ⟨g, 0, none⟩) s) := HLIES.out.below HBK.out
            obtain ⟨A, hA, hsrc⟩ := tail_src HLIESK.out hj hcap
            have HSRC1 : Hid (∀ t u, (lcells (s.take j))[t]? = some u → wr.cell? ((⟨g, 0, none⟩ : Addr).add t) = some u) := head_src HLIESK.out
            have HLT : Hid ((lcells (s.take j)).length = j * 3) := by show _ = _; rw [lcells_length, List.length_take]; congr 1; omega
            have HLD : Hid ((lcells (s.drop j)).length = (s.length - j) * 3) := by show _ = _; rw [lcells_length, List.length_drop]
            have hks := HBK.out.size
            clear hlow
            go_wp2_with (at_builtin; first
              | (refine wpList_append_own _ rfl _ _ 22 rfl wr.heap.size 24 i0 (.agg #[.string ⟨#[]⟩, .bool false, .string ⟨#[]⟩]) 3 40 Tryz.underlying22 hi hz0 hz1 hz2 rfl (by decide) _ _ _ rfl hown2 A (s.length - j) (cap - j) (lcells (s.drop j)) rfl HLD.out (fun t u hu => (HB2.cell (p := A.add t) (block_lt_of_cell (hsrc.out t u hu))).trans (hsrc.out t u hu)) (lcells_one _) (by unfold maxLen; omega) (by omega) HB2.size ?_; intro v3 w3 hown3 hgrow3 _)
              | (refine wpList_append_own _ rfl _ _ 22 rfl wr.heap.size 24 i0 (.agg #[.string ⟨#[]⟩, .bool false, .string ⟨#[]⟩]) 3 40 Tryz.underlying22 hi hz0 hz1 hz2 rfl (by decide) _ _ _ rfl (hown1.alloc _) ⟨w1.heap.size, 0, none⟩ 1 1 (fcells f) rfl rfl (cells_new w1 f _) (by simp [fcells, Value.oneCell']) (by unfold maxLen; omega) (by omega) (Nat.le_trans HB1.size (by simp)) ?_; intro v2 w2 hown2 hgrow2 _; have HB2 : Below wr.heap.size wr w2 := (HB1.alloc HB1.size _).grown hgrow2 (Nat.le_trans HB1.size (by simp)) (fun j ej => (hown1.lt j ej).1))
              | (refine wpList_append_own _ rfl _ _ 22 rfl wr.heap.size 24 i0 (.agg #[.string ⟨#[]⟩, .bool false, .string ⟨#[]⟩]) 3 40 Tryz.underlying22 hi hz0 hz1 hz2 rfl (by decide) (.slice none 0 0) 0 [] rfl (World.ownsRow_nil _ _ _ _) ⟨g, 0, none⟩ j cap (lcells (s.take j)) rfl HLT.out HSRC1.out (lcells_one _) (by unfold maxLen; omega) (by omega) (Nat.le_refl _) ?_; intro v1 w1 hown1 hgrow1 _; have HB1 : Below wr.heap.size wr w1 := (below_drewN (Below.refl _ wr) _).grown hgrow1 (Nat.le_refl _) (fun k e => by cases e); obtain ⟨e0, e1, e2⟩ := HX.out w1 (HBK.out.trans (HB1.mono HBK.out.size))))
            have HB3 : Below wr.heap.size wr w3 := HB2.grown hgrow3 HB2.size (fun j ej => (hown2.lt j ej).1)
            have HB3W : Below (w.heap.size + 1) (w.alloc (.cells #[.int .i64 0, .int .i64 0] 38)) w3 := HBKW.out.trans (HB3.mono (by omega))
            refine ⟨⟨k + 1, by omega, by go_num, ⟨s.take j ++ f :: s.drop j, HNEW.out, ?_⟩, HB3W⟩, by simp [intOf]; omega⟩
            have e1 : (s.take j ++ f :: s.drop j).length = 0 + j + 1 + (s.length - j) := by rw [List.length_append, List.length_cons, List.length_take, List.length_drop]; omega
            have e2 : lcells (s.take j ++ f :: s.drop j) = [] ++ lcells (s.take j) ++ fcells f ++ lcells (s.drop j) := by rw [lcells_app, List.nil_append, List.append_assoc]; rfl
            rw [e1, e2]
            exact hown3.mono (by omega)
    · obtain rfl : k = l.length := by omega
      have hperm := HPS.out.1
      rw [List.take_length] at hperm
      have HP : Hid (s.Perm l) := hperm
      have HW : Hid (Weak s) := HPS.out.2
      have HSS : Hid (Small s) := ⟨by rw [hperm.length_eq]; exact hfew, fun f hf => HS.out.path f (hperm.mem_iff.1 hf), fun f hf => HS.out.text f (hperm.mem_iff.1 hf)⟩
      obtain ⟨av, cv, rfl, hlies, _⟩ := owns_lies hrow
      have HLIES : Hid (LiesAt wr av s) := hlies
      have hsf := HSS.out.few
      obtain ⟨wo, rfl⟩ : ∃ wo, wo = wr := ⟨_, rfl⟩
      clear hrow hlies hperm
      go_wp2_with fail
      go_loopw [8] (fun i wr => ∃ q : Nat, q ≤ s.length + 1 ∧ 1 ≤ q ∧ i = .int .i64 q ∧ (∀ j (hj : j + 1 < s.length), j + 1 < q → s[j + 1].p ≠ s[j].p) ∧ Below wo.heap.size wo wr) (fun i _ => s.length + 1 - (intOf i).toNat)
      case atStart => exact ⟨1, by omega, by omega, rfl, fun _ _ h => by omega, Below.refl _ _⟩
      case round =>
        obtain ⟨q, hq, hq1, rfl, hz, hb⟩ := hrel
        have HBQ : Hid (Below wo.heap.size wo wr) := hb
        have HBW : Hid (Below (w.heap.size + 1) (w.alloc (.cells #[.int .i64 0, .int .i64 0] 38)) wr) := HB.out.trans (hb.mono hbs)
        have HZ : Hid (∀ j (hj : j + 1 < s.length), j + 1 < q → s[j + 1].p ≠ s[j].p) := hz
        clear hb hz
        by_cases hqs : q < s.length
        · obtain ⟨r, rfl⟩ : ∃ r, q = r + 1 := ⟨q - 1, by omega⟩
          obtain ⟨b, o, rfl, c0, c1, c2⟩ := (HLIES.out.below HBQ.out).at hqs
          obtain ⟨b', o', e', d0, d1, d2⟩ := (HLIES.out.below HBQ.out).at (k := r) (by omega)
          cases e'
          have hqs' : (r : Int) + 1 < (s.length : Int) := by omega
          by_cases he : s[r + 1].p = (s[r]'(by omega)).p
          · have HD : Hid (sortT l = ([], 7, -1)) := sortT_twice HP.out (not_nodup_of_step (by omega) he)
            have he' : (s[r + 1].p == (s[r]'(by omega)).p) = true := by simp [he]
            clear he
            generalize s[r + 1] = f at c0 c1 c2 he'
            generalize (s[r]'(by omega)) = y at d0 d1 d2 he'
            go_wp2_with fail
            go_quiet (fail)
            go_wp2_with fail
            refine (bare_any 7 _).mono ?_
            rintro e w3 ⟨rfl, hb3⟩
            have HB3 := more_below (below_drewN HBW.out _) rfl hb3
            obtain ⟨s0, s1, s2, s3, s4⟩ := slot_two HB3
            clear hb3 HB3 c0 c1 c2 d0 d1 d2 he'
            go_wp2
            obtain ⟨q0, q1, q2⟩ := slot_set (w := w) (.int .i64 7) (.int .i64 (-1)) s0 s1 s4
            exact bodyPost_ret (v := .tuple #[.slice none 0 0, .agg #[.int .i64 7, .int .i64 (-1)]]) (by simp [results, Tryz.results18, go_sem, q0, q1]) rfl ⟨⟨_, by rw [HD.out]; rfl, by rw [HD.out]; exact World.ownsRow_nil _ _ _ _⟩, q2⟩
          · have HN : Hid (∀ j (hj : j + 1 < s.length), j + 1 < r + 1 + 1 → s[j + 1].p ≠ s[j].p) := by
              intro j hj hjr
              by_cases e : j = r
              · subst e; exact he
              · exact HZ.out j hj (by omega)
            have he' : (s[r + 1].p == (s[r]'(by omega)).p) = false := by simp [he]
            clear he
            generalize s[r + 1] = f at c0 c1 c2 he'
            generalize (s[r]'(by omega)) = y at d0 d1 d2 he'
            go_wp2_with fail
            go_quiet (fail)
            go_wp2
            go_roundw
            case rel => exact ⟨r + 1 + 1, by omega, by omega, by go_num, HN.out, below_drewN HBQ.out _⟩
            case measure => simp [intOf]; omega
        · have hnd : (s.map (·.p)).Nodup := nodup_of_step HW.out fun j hj => HZ.out j hj (by omega)
          have hqs' : ¬ (q : Int) < (s.length : Int) := by omega
          have HROWQ : Hid (wr.ownsRow (w.heap.size + 1) 24 3 (.slice av s.length cv) s.length (lcells s)) := owns_below HROW.out HBQ.out
          by_cases hc : (treeFault s).1 = 0
          · have HD : Hid (sortT l = (s, 0, -1)) := sortT_ok HP.out HW.out hnd hc
            have HF : Hid (treeFault s = (0, -1)) := treeFault_zero hc
            clear hnd hc
            go_wp2_with fail
            refine (refTreeFault_is s av cv 0 (-1) _ (HLIES.out.below HBQ.out) HSS.out (by rw [HF.out]; rfl) (by rw [HF.out])).mono ?_
            rintro e w3 ⟨rfl, hb3⟩
            have HB3 : Hid (Below (w.heap.size + 1) (w.alloc (.cells #[.int .i64 0, .int .i64 0] 38)) w3) := more_below HBW.out rfl hb3
            have HROW3 : Hid (w3.ownsRow (w.heap.size + 1) 24 3 (.slice av s.length cv) s.length (lcells s)) := owns_below HROWQ.out hb3
            have hs3 : w.heap.size + 1 ≤ w3.heap.size := by have := HB3.out.size; simpa using this
            clear hb3
            go_wp2_with fail
            refine (fine_any _).mono ?_
            rintro e w4 ⟨rfl, hb4⟩
            have hB4 := more_below (HB3.out.alloc hs3 (.cells #[.int .i64 0, .int .i64 (-1)] 38)) rfl hb4
            have HROW4 : Hid (w4.ownsRow (w.heap.size + 1) 24 3 (.slice av s.length cv) s.length (lcells s)) := owns_below (HROW3.out.alloc _) hb4
            obtain ⟨s0, s1, s2, s3, s4⟩ := slot_two hB4
            clear hb4 hB4
            go_wp2
            obtain ⟨q0, q1, q2⟩ := slot_set (w := w) (.int .i64 0) (.int .i64 (-1)) s0 s1 s4
            exact bodyPost_ret (v := .tuple #[.slice av s.length cv, .agg #[.int .i64 0, .int .i64 (-1)]]) (by simp [results, Tryz.results18, go_sem, q0, q1]) rfl ⟨⟨_, by rw [HD.out]; rfl, by rw [HD.out]; exact owns_slot _ _ HROW4.out⟩, q2⟩
          · have HD : Hid (sortT l = ([], treeFault s)) := sortT_bad HP.out HW.out hnd hc
            have hpos : (0 : Int) < ((treeFault s).1 : Int) := by omega
            clear hnd hc
            go_wp2_with fail
            refine (refTreeFault_any s av cv _ (HLIES.out.below HBQ.out) HSS.out).mono ?_
            rintro e w3 ⟨rfl, hb3⟩
            have HB3 : Below (w.heap.size + 1) (w.alloc (.cells #[.int .i64 0, .int .i64 0] 38)) w3 := more_below HBW.out rfl hb3
            have hs3 : w.heap.size + 1 ≤ w3.heap.size := by have := HB3.size; simpa using this
            obtain ⟨s0, s1, s2, s3, s4⟩ := slot_two (HB3.alloc hs3 (.cells #[.int .i64 (treeFault s).1, .int .i64 (treeFault s).2] 38))
            clear hb3 HB3
            generalize treeFault s = tf at *
            go_wp2
            go_region
            all_goals go_wp2
            all_goals
              obtain ⟨q0, q1, q2⟩ := slot_set (w := w) (.int .i64 tf.1) (.int .i64 tf.2) s0 s1 s4
              exact bodyPost_ret (v := .tuple #[.slice none 0 0, .agg #[.int .i64 tf.1, .int .i64 tf.2]]) (by simp [results, Tryz.results18, go_sem, q0, q1]) rfl ⟨⟨_, by rw [HD.out], by rw [HD.out]; exact World.ownsRow_nil _ _ _ _⟩, q2.drew⟩
end Go.Proofs.YtpogcedghbokbaaGreatDoor
