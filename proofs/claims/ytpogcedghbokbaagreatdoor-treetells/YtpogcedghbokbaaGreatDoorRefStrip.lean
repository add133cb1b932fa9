/-
  The document's answer for trees: StripTree: over this seat's translation.
-/
import Derived.Test.YtpogcedghbokbaaGreatDoorRefSort
import Derived.Test.YtpogcedghbokbaaGreatDoorPkStrip
import Derived.Test.YtpogcedghbokbaaGreatDoorRefMore
namespace Go.Proofs.YtpogcedghbokbaaGreatDoor
open Go.RowKit Go.Shelf

theorem stripOf_is (s c : List UInt8) (k : Int) (n : Int) (w : World) (hs : s.length ≤ 90000) (h0 : (stripL s n).1 = c) (h1 : ((stripL s n).2 : Int) = k) :
    Calls Tryz.prog 49 #[.string ⟨s.toArray⟩, .int .i64 n] w fun e w' => e = .returned (.tuple #[.string ⟨c.toArray⟩, .int .i64 k]) ∧ Below w.heap.size w w' := by
  have := stripOf_any s n w hs
  rwa [h0, h1] at this

theorem refSort_is (l : List F) (r : List F × Nat × Int) (c i : Int) (a : Option Addr) (ca : Nat) (w : World) (hl : LiesAt w a l) (hs : Small l) (h : sortT l = r) (hc : (r.2.1 : Int) = c) (hi : r.2.2 = i) :
    Calls Tryz.prog 18 #[.slice a l.length ca] w fun e w' => (∃ v, e = .returned (.tuple #[v, .agg #[.int .i64 c, .int .i64 i]]) ∧ w'.ownsRow w.heap.size 24 3 v r.1.length (lcells r.1)) ∧ Below w.heap.size w w' := by
  have := refSort_any l a ca w hl hs
  rwa [h, hc, hi] at this

set_option maxRecDepth 100000 in
set_option maxHeartbeats 8000000 in
theorem refStripTree_any (l : List F) (a : Option Addr) (ca : Nat) (n : Int) (w : World) (hl : LiesAt w a l) (hs : Small l) :
    Calls Tryz.prog 25 #[.slice a l.length ca, .int .i64 n] w fun e w' => (∃ v, e = .returned (.tuple #[v, .agg #[.int .i64 (stripT l n).2.1, .int .i64 (stripT l n).2.2]]) ∧ w'.ownsRow w.heap.size 24 3 v (stripT l n).1.length (lcells (stripT l n).1)) ∧ Below w.heap.size w w' := by
  have hfew := hs.few
  by_cases hc : (treeFault l).1 = 0
  · have HL : Hid (LiesAt w a l) := hl
    have HS : Hid (Small l) := hs
    have HZ : Hid (treeFault l = (0, -1)) := treeFault_zero hc
    have HC0 : Hid ((treeFault l).1 = 0) := hc
    clear hl hs hc
    obtain ⟨i0, hi, hz0, hz1, hz2⟩ := info_parts Tryz.infoFile
    go_enter Tryz.func25, Tryz.ntmps25
    go_wp2_with fail
    refine (refTreeFault_is l a ca 0 (-1) _ (HL.out.below ((Below.refl _ _).alloc (Nat.le_refl _) _)) HS.out (by rw [HZ.out]; rfl) (by rw [HZ.out])).mono ?_
    rintro e w1 ⟨rfl, hb1⟩
    have HB1 : Hid (Below (w.heap.size + 1) (w.alloc (.cells #[.int .i64 0, .int .i64 0] 38)) w1) := hb1.mono (by simp)
    have hs1 : w.heap.size + 1 ≤ w1.heap.size := by have := hb1.size; simpa using this
    clear hb1
    go_wp2_with fail
    go_loopw [7, 8] (fun out i wr => ∃ k : Nat, k ≤ l.length ∧ i = .int .i64 k ∧ ((∀ j (h : j < l.length), j < k → (stripL l[j].p n).2 = 0) ∧ wr.ownsRow (w.heap.size + 1) 24 3 out ((l.take k).map fun f => ({ f with p := (stripL f.p n).1 } : F)).length (lcells ((l.take k).map fun f => { f with p := (stripL f.p n).1 }))) ∧ Below (w.heap.size + 1) (w.alloc (.cells #[.int .i64 0, .int .i64 0] 38)) wr) (fun _ i _ => l.length - (intOf i).toNat)
    case atStart => exact ⟨0, by omega, rfl, ⟨fun _ _ h => by omega, World.ownsRow_nil _ _ _ _⟩, HB1.out.alloc (by omega) _⟩
    case round =>
      obtain ⟨k, hk, rfl, ⟨hz, hrow⟩, hb⟩ := hrel
      have HB : Hid (Below (w.heap.size + 1) (w.alloc (.cells #[.int .i64 0, .int .i64 0] 38)) wr) := hb
      have HBW : Hid (Below w.heap.size w wr) := (slot_two hb).2.2.2.2
      have hbs : w.heap.size + 1 ≤ wr.heap.size := by have := hb.size; simpa using this
      have HZZ : Hid (∀ j (h : j < l.length), j < k → (stripL l[j].p n).2 = 0) := hz
      have HROW : Hid (wr.ownsRow (w.heap.size + 1) 24 3 _ ((l.take k).map fun f => ({ f with p := (stripL f.p n).1 } : F)).length (lcells ((l.take k).map fun f => { f with p := (stripL f.p n).1 }))) := hrow
      clear hb hrow hz
      have hwl : ((l.take k).map fun f => ({ f with p := (stripL f.p n).1 } : F)).length ≤ 100000 := by rw [List.length_map, List.length_take]; omega
      by_cases hlt : k < l.length
      · have hlt' : (k : Int) < (l.length : Int) := by omega
        obtain ⟨b, o, rfl, c0, c1, c2⟩ := (HL.out.below HBW.out).at hlt
        have hpl := HS.out.path _ (List.getElem_mem hlt)
        cases hst : stripL l[k].p n with
        | mk c kk =>
        by_cases hkk : kk = 0
        · subst hkk
          have HN : Hid (∀ j (h : j < l.length), j < k + 1 → (stripL l[j].p n).2 = 0) := by
            intro j hj hjk
            by_cases e : j = k
            · subst e; rw [hst]
            · exact HZZ.out j hj (by omega)
          have HW : Hid (((l.take (k + 1)).map fun f => ({ f with p := (stripL f.p n).1 } : F)) = ((l.take k).map fun f => ({ f with p := (stripL f.p n).1 } : F)) ++ [{ l[k] with p := c }]) := by
            show _ = _
            rw [List.take_succ_eq_append_getElem hlt, List.map_append]
            simp [hst]
          have HST : Hid ((stripL l[k].p n).1 = c ∧ ((stripL l[k].p n).2 : Int) = 0) := by rw [hst]; exact ⟨rfl, rfl⟩
          clear hst
          generalize l[k] = f at c0 c1 c2 hpl HST HW
          go_wp2_with fail
          refine (stripOf_is f.p c 0 n _ (by omega) HST.out.1 HST.out.2).mono ?_
          rintro e w5 ⟨rfl, hb5⟩
          have hbx : Below (wr.heap.size + 1) (wr.alloc (.cells #[sv f.p, .bool f.r, sv f.t] 24)) w5 := hb5.mono (by simp)
          obtain ⟨g0, g1, g2, hB5⟩ := box_three hbx
          have gf := box_frozen hbx
          have hsz5 : wr.heap.size + 1 ≤ w5.heap.size := by have := hb5.size; simpa using this
          have hrow2 := owns_later (j := 0) (sv c) HROW.out hB5 (Nat.le_refl _)
          have HB5 : Hid (Below (w.heap.size + 1) (w.alloc (.cells #[.int .i64 0, .int .i64 0] 38)) w5) := HB.out.trans (hB5.mono hbs)
          clear hb5 hbx hB5
          obtain ⟨j0, j1, j2⟩ := box_set (sv c) g0 g1 g2
          go_wp2_with (at_builtin; refine wpList_append_own _ rfl _ _ 22 rfl (w.heap.size + 1) 24 i0 (.agg #[.string ⟨#[]⟩, .bool false, .string ⟨#[]⟩]) 3 40 Tryz.underlying22 hi hz0 hz1 hz2 rfl (by decide) _ _ _ rfl (hrow2.alloc _) ⟨w5.heap.size, 0, none⟩ 1 1 [sv c, .bool f.r, sv f.t] rfl rfl (three_new _ _ _ _ _ _ (by simp)) (by simp [Value.oneCell']) (by unfold maxLen; omega) (by omega) (by simp; omega) ?_; intro v' w6 hown' hgrow _)
          have HB6 : Below (w.heap.size + 1) (w.alloc (.cells #[.int .i64 0, .int .i64 0] 38)) w6 := ((HB5.out.setCell (p := ⟨wr.heap.size, 0, none⟩) hbs _).alloc (by simp; omega) _).grown hgrow (by simp; omega) (fun j ej => (hrow2.lt j ej).1)
          refine ⟨⟨k + 1, by omega, by go_num, ⟨HN.out, ?_⟩, HB6⟩, by simp [intOf]; omega⟩
          rw [HW.out, lcells_app, List.length_append]
          simpa [lcells, fcells] using hown'
        · have HT : Hid (stripT l n = ([], kk, (k : Int))) := by
            show stripT l n = _
            have := mapPaths_at (fun s => stripL s n) l k 0 hlt HZZ.out (by show (stripL l[k].p n).2 ≠ 0; rw [hst]; exact hkk)
            have e : stripAll n l = ([], kk, k) := by
              show mapPaths _ 0 l = _
              rw [this]
              show ([], (stripL l[k].p n).2, 0 + k) = _
              rw [hst, Nat.zero_add]
            unfold stripT
            rw [if_neg (by simp [HC0.out]), e, if_pos hkk]
          have hpos : (0 : Int) < (kk : Int) := by omega
          have HST : Hid ((stripL l[k].p n).1 = c ∧ ((stripL l[k].p n).2 : Int) = kk) := by rw [hst]; exact ⟨rfl, rfl⟩
          clear hst hkk
          generalize l[k] = f at c0 c1 c2 hpl HST
          go_wp2_with fail
          refine (stripOf_is f.p c kk n _ (by omega) HST.out.1 HST.out.2).mono ?_
          rintro e w5 ⟨rfl, hb5⟩
          have hB5 : Below wr.heap.size wr w5 := ((Below.refl _ wr).alloc (Nat.le_refl _) _).trans (hb5.mono (by simp))
          have HB5 := HB.out.trans (hB5.mono hbs)
          obtain ⟨s0, s1, s2, s3, s4⟩ := slot_two HB5
          clear hb5 hB5 HB5
          go_wp2
          obtain ⟨q0, q1, q2⟩ := slot_set (w := w) (.int .i64 kk) (.int .i64 k) s0 s1 s4
          exact bodyPost_ret (v := .tuple #[.slice none 0 0, .agg #[.int .i64 kk, .int .i64 k]]) (by simp [results, Tryz.results25, go_sem, q0, q1]) rfl ⟨⟨_, by rw [HT.out], by rw [HT.out]; exact World.ownsRow_nil _ _ _ _⟩, q2⟩
      · obtain rfl : k = l.length := by omega
        have hall : ∀ f ∈ l, (stripL f.p n).2 = 0 := fun f hf => by
          obtain ⟨j, hj, rfl⟩ := List.getElem_of_mem hf
          exact HZZ.out j hj hj
        have hst : stripAll n l = (l.map fun f => { f with p := (stripL f.p n).1 }, 0, 0) := mapPaths_all (fun s => stripL s n) l 0 hall
        have HT : Hid (stripT l n = sortT (l.map fun f => { f with p := (stripL f.p n).1 })) := by
          show stripT l n = _
          unfold stripT
          rw [if_neg (by simp [HC0.out]), hst]
          rfl
        have hrow := HROW.out
        rw [List.take_length] at hrow hwl
        have HSM := map_small n HS.out
        obtain ⟨av, cv, rfl, hlies, _⟩ := owns_lies hrow
        have HLI : Hid (LiesAt wr av (l.map fun f => { f with p := (stripL f.p n).1 })) := hlies
        clear hrow hlies hst hall
        generalize (l.map fun f => ({ f with p := (stripL f.p n).1 } : F)) = m at HLI HSM hwl HT
        obtain ⟨R, rc, ri, hr⟩ : ∃ R rc ri, sortT m = (R, rc, ri) := ⟨_, _, _, rfl⟩
        have HR : Hid (sortT m = (R, rc, ri)) := hr
        have HTR : Hid (stripT l n = (R, rc, ri)) := HT.out.trans hr
        clear hr HT
        go_wp2_with fail
        refine (refSort_is m (R, rc, ri) rc ri av cv _ HLI.out HSM HR.out rfl rfl).mono ?_
        rintro e w5 ⟨⟨v, rfl, hown⟩, hb5⟩
        have HB5 := more_below HB.out rfl hb5
        have hrow5 : w5.ownsRow (w.heap.size + 1) 24 3 v R.length (lcells R) := hown.mono hbs
        obtain ⟨s0, s1, s2, s3, s4⟩ := slot_two HB5
        clear hb5 HB5 hown
        go_wp2
        obtain ⟨q0, q1, q2⟩ := slot_set (w := w) (.int .i64 rc) (.int .i64 ri) s0 s1 s4
        exact bodyPost_ret (v := .tuple #[v, .agg #[.int .i64 rc, .int .i64 ri]]) (by simp [results, Tryz.results25, go_sem, q0, q1]) rfl ⟨⟨_, by rw [HTR.out], by rw [HTR.out]; exact owns_slot _ _ hrow5⟩, q2⟩
  · have HD : Hid (stripT l n = ([], treeFault l)) := by
      show stripT l n = _
      simp [stripT, hc]
    have hpos : (0 : Int) < ((treeFault l).1 : Int) := by omega
    have HL : Hid (LiesAt w a l) := hl
    have HS : Hid (Small l) := hs
    clear hl hs hc
    go_enter Tryz.func25, Tryz.ntmps25
    go_wp2_with fail
    refine (refTreeFault_any l a ca _ (HL.out.below ((Below.refl _ _).alloc (Nat.le_refl _) _)) HS.out).mono ?_
    rintro e w1 ⟨rfl, hb1⟩
    have HB1 : Below (w.heap.size + 1) (w.alloc (.cells #[.int .i64 0, .int .i64 0] 38)) w1 := hb1.mono (by simp)
    have hs1 : w.heap.size + 1 ≤ w1.heap.size := by have := hb1.size; simpa using this
    obtain ⟨s0, s1, s2, s3, s4⟩ := slot_two (HB1.alloc hs1 (.cells #[.int .i64 (treeFault l).1, .int .i64 (treeFault l).2] 38))
    clear hb1 HB1
    generalize treeFault l = tf at *
    go_wp2
    go_region
    all_goals go_wp2
    all_goals
      obtain ⟨q0, q1, q2⟩ := slot_set (w := w) (.int .i64 tf.1) (.int .i64 tf.2) s0 s1 s4
      exact bodyPost_ret (v := .tuple #[.slice none 0 0, .agg #[.int .i64 tf.1, .int .i64 tf.2]]) (by simp [results, Tryz.results25, go_sem, q0, q1]) rfl ⟨⟨_, by rw [HD.out], by rw [HD.out]; exact World.ownsRow_nil _ _ _ _⟩, q2.drew⟩
end Go.Proofs.YtpogcedghbokbaaGreatDoor
