/-
  The document's answer for trees: DropFile: over this seat's translation.
-/
import Derived.Test.YtpogcedghbokbaaGreatDoorTreeOwn
import Derived.Test.YtpogcedghbokbaaGreatDoorRefTree
namespace Go.Proofs.YtpogcedghbokbaaGreatDoor
open Go.RowKit Go.Shelf

theorem refTreeFault_is (l : List F) (a : Option Addr) (ca : Nat) (c n : Int) (w : World) (hl : LiesAt w a l) (hs : Small l) (h0 : ((treeFault l).1 : Int) = c) (h1 : (treeFault l).2 = n) :
    Calls Tryz.prog 15 #[.slice a l.length ca] w fun e w' => e = .returned (.agg #[.int .i64 c, .int .i64 n]) ∧ Below w.heap.size w w' := by
  have := refTreeFault_any l a ca w hl hs
  rwa [h0, h1] at this

theorem without_take {l : List F} {k : Nat} (q : List UInt8) (hk : k < l.length) : without (l.take (k + 1)) q = without (l.take k) q ++ (if l[k].p = q then [] else [l[k]]) := by
  rw [List.take_succ_eq_append_getElem hk]
  unfold without
  rw [List.filter_append]
  by_cases h : l[k].p = q
  · rw [if_pos h, List.filter_cons, if_neg (by simp [h])]; rfl
  · rw [if_neg h, List.filter_cons, if_pos (by simp [h])]; rfl

set_option maxRecDepth 100000 in
set_option maxHeartbeats 4000000 in
theorem refDrop_any (l : List F) (a : Option Addr) (ca : Nat) (q : List UInt8) (w : World) (hl : LiesAt w a l) (hs : Small l) :
    Calls Tryz.prog 21 #[.slice a l.length ca, .string ⟨q.toArray⟩] w fun e w' => (∃ v, e = .returned (.tuple #[v, .agg #[.int .i64 (dropT l q).2.1, .int .i64 (dropT l q).2.2]]) ∧ w'.ownsRow w.heap.size 24 3 v (dropT l q).1.length (lcells (dropT l q).1)) ∧ Below w.heap.size w w' := by
  have hfew := hs.few
  by_cases hc : (treeFault l).1 = 0
  · have HL : Hid (LiesAt w a l) := hl
    have HS : Hid (Small l) := hs
    have hz := treeFault_zero hc
    have HZ : Hid (treeFault l = (0, -1)) := hz
    clear hl hs hz
    obtain ⟨i0, hi, hz0, hz1, hz2⟩ := info_parts Tryz.infoFile
    go_enter Tryz.func21, Tryz.ntmps21
    go_wp2_with fail
    refine (refTreeFault_is l a ca 0 (-1) _ (HL.out.below ((Below.refl _ _).alloc (Nat.le_refl _) _)) HS.out (by rw [HZ.out]; rfl) (by rw [HZ.out])).mono ?_
    rintro e w1 ⟨rfl, hb1⟩
    have HB1 : Hid (Below (w.heap.size + 1) (w.alloc (.cells #[.int .i64 0, .int .i64 0] 38)) w1) := hb1.mono (by simp)
    have hs1 : w.heap.size + 1 ≤ w1.heap.size := by have := hb1.size; simpa using this
    clear hb1
    go_wp2_with fail
    go_loopw [7, 8] (fun out i wr => ∃ k : Nat, k ≤ l.length ∧ i = .int .i64 k ∧ wr.ownsRow (w.heap.size + 1) 24 3 out (without (l.take k) q).length (lcells (without (l.take k) q)) ∧ Below (w.heap.size + 1) (w.alloc (.cells #[.int .i64 0, .int .i64 0] 38)) wr) (fun _ i _ => l.length - (intOf i).toNat)
    case atStart => exact ⟨0, by omega, rfl, World.ownsRow_nil _ _ _ _, HB1.out.alloc (by omega) _⟩
    case round =>
      obtain ⟨k, hk, rfl, hrow, hb⟩ := hrel
      have HB : Hid (Below (w.heap.size + 1) (w.alloc (.cells #[.int .i64 0, .int .i64 0] 38)) wr) := hb
      have hbs : w.heap.size + 1 ≤ wr.heap.size := by have := hb.size; simpa using this
      clear hb
      have hwl : (without (l.take k) q).length ≤ k := by
        refine Nat.le_trans (List.length_filter_le _ _) ?_
        simp; omega
      by_cases hlt : k < l.length
      · have hlt' : (k : Int) < (l.length : Int) := by omega
        obtain ⟨b, o, rfl, c0, c1, c2⟩ := (HL.out.below (slot_two HB.out).2.2.2.2).at hlt
        by_cases hpq : l[k].p = q
        · have HW : Hid (without (l.take (k + 1)) q = without (l.take k) q) := by
            show without _ _ = without _ _
            rw [without_take q hlt, if_pos hpq, List.append_nil]
          have hpq' : (l[k].p == q) = true := by simp [hpq]
          clear hpq
          generalize l[k] = f at c0 c1 c2 hpq'
          go_wp2
          go_roundw
          case rel => exact ⟨k + 1, by omega, by go_num, by rw [HW.out]; exact hrow, HB.out⟩
          case measure => simp [intOf]; omega
        · have HW : Hid (without (l.take (k + 1)) q = without (l.take k) q ++ [l[k]]) := by
            show without _ _ = _
            rw [without_take q hlt, if_neg hpq]
          have hpq' : (l[k].p == q) = false := by simp [hpq]
          clear hpq
          generalize l[k] = f at c0 c1 c2 hpq' HW
          go_wp2_with (at_builtin; refine wpList_append_own _ rfl _ _ 22 rfl (w.heap.size + 1) 24 i0 (.agg #[.string ⟨#[]⟩, .bool false, .string ⟨#[]⟩]) 3 40 Tryz.underlying22 hi hz0 hz1 hz2 rfl (by decide) _ _ _ rfl (hrow.alloc _) ⟨wr.heap.size, 0, none⟩ 1 1 (fcells f) rfl rfl (cells_new wr f _) (by simp [fcells, Value.oneCell']) (by unfold maxLen; omega) (by omega) (by simp; omega) ?_; intro v' w2 hown' hgrow _)
          have HB2 : Below (w.heap.size + 1) (w.alloc (.cells #[.int .i64 0, .int .i64 0] 38)) w2 := (HB.out.alloc hbs _).grown hgrow (by simp; omega) (fun j ej => (hrow.lt j ej).1)
          refine ⟨⟨k + 1, by omega, by go_num, ?_, HB2⟩, by simp [intOf]; omega⟩
          rw [HW.out, lcells_app, List.length_append]
          simpa [lcells] using hown'
      · obtain rfl : k = l.length := by omega
        rw [List.take_length] at hrow hwl
        obtain ⟨av, cv, rfl, hlies, _⟩ := owns_lies hrow
        by_cases hall : (without l q).length = l.length
        · have HD : Hid (dropT l q = ([], 6, -1)) := by
            show dropT l q = _
            simp [dropT, hc, hall]
          have hall' : (((without l q).length : Int) == (l.length : Int)) = true := by simp; omega
          clear hall
          go_wp2_with fail
          refine (bare_any 6 _).mono ?_
          rintro e w3 ⟨rfl, hb3⟩
          have HB3 := more_below HB.out rfl hb3
          obtain ⟨s0, s1, s2, s3, s4⟩ := slot_two HB3
          clear hb3 HB3
          go_wp2
          obtain ⟨q0, q1, q2⟩ := slot_set (w := w) (.int .i64 6) (.int .i64 (-1)) s0 s1 s4
          exact bodyPost_ret (v := .tuple #[.slice none 0 0, .agg #[.int .i64 6, .int .i64 (-1)]]) (by simp [results, Tryz.results21, go_sem, q0, q1]) rfl ⟨⟨_, by rw [HD.out]; rfl, by rw [HD.out]; exact World.ownsRow_nil _ _ _ _⟩, q2⟩
        · have HD : Hid (dropT l q = (without l q, 0, -1)) := by
            show dropT l q = _
            simp [dropT, hc, hall]
          have hall' : (((without l q).length : Int) == (l.length : Int)) = false := by simp; omega
          clear hall
          go_wp2_with fail
          refine (fine_any _).mono ?_
          rintro e w3 ⟨rfl, hb3⟩
          have HB3 := more_below HB.out rfl hb3
          have hrow3 : w3.ownsRow (w.heap.size + 1) 24 3 (.slice av (without l q).length cv) (without l q).length (lcells (without l q)) := owns_below hrow hb3
          obtain ⟨s0, s1, s2, s3, s4⟩ := slot_two HB3
          clear hb3 HB3
          go_wp2
          obtain ⟨q0, q1, q2⟩ := slot_set (w := w) (.int .i64 0) (.int .i64 (-1)) s0 s1 s4
          exact bodyPost_ret (v := .tuple #[.slice av (without l q).length cv, .agg #[.int .i64 0, .int .i64 (-1)]]) (by simp [results, Tryz.results21, go_sem, q0, q1]) rfl ⟨⟨_, by rw [HD.out]; rfl, by rw [HD.out]; exact owns_slot _ _ hrow3⟩, q2⟩
  · have HD : Hid (dropT l q = ([], treeFault l)) := by
      show dropT l q = _
      simp [dropT, hc]
    have hpos : (0 : Int) < ((treeFault l).1 : Int) := by omega
    have HL : Hid (LiesAt w a l) := hl
    have HS : Hid (Small l) := hs
    clear hl hs hc
    go_enter Tryz.func21, Tryz.ntmps21
    go_wp2_with fail
    refine (refTreeFault_any l a ca _ (HL.out.below ((Below.refl _ _).alloc (Nat.le_refl _) _)) HS.out).mono ?_
    rintro e w1 ⟨rfl, hb1⟩
    have HB1 : Below (w.heap.size + 1) (w.alloc (.cells #[.int .i64 0, .int .i64 0] 38)) w1 := hb1.mono (by simp)
    have hs1 : w.heap.size + 1 ≤ w1.heap.size := by have := hb1.size; simpa using this
    obtain ⟨s0, s1, s2, s3, s4⟩ := slot_two (HB1.alloc hs1 (.cells #[.int .i64 (treeFault l).1, .int .i64 (treeFault l).2] 38))
    clear hb1 HB1
    generalize treeFault l = tf at *
    go_wp2
    go_region
    all_goals go_wp2
    all_goals
      obtain ⟨q0, q1, q2⟩ := slot_set (w := w) (.int .i64 tf.1) (.int .i64 tf.2) s0 s1 s4
      exact bodyPost_ret (v := .tuple #[.slice none 0 0, .agg #[.int .i64 tf.1, .int .i64 tf.2]]) (by simp [results, Tryz.results21, go_sem, q0, q1]) rfl ⟨⟨_, by rw [HD.out], by rw [HD.out]; exact World.ownsRow_nil _ _ _ _⟩, q2.drew⟩
end Go.Proofs.YtpogcedghbokbaaGreatDoor
