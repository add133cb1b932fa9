/-
  The document's answer for trees: TreeFault: over this seat's translation.
-/
import Derived.Test.YtkcjgncpcidfoaaGreatDoorTreeMemTreeSlots
import Derived.Test.YtkcjgncpcidfoaaGreatDoorRefRefMore
import Derived.StillTailTactics
namespace Go.Proofs.YtkcjgncpcidfoaaGreatDoor
open Go.RowKit Go.Shelf

theorem bare_any (c : Int) (w : World) : Calls Tryz.prog 25 #[.int .i64 c] w fun e w' => e = .returned (.agg #[.int .i64 c, .int .i64 (-1)]) ∧ Below w.heap.size w w' := by
  go_enter Tryz.func25, Tryz.ntmps25
  go_wp2
  exact bodyPost_ret (v := .agg #[.int .i64 c, .int .i64 (-1)]) (by simp [results, Tryz.results25, go_sem]) rfl ⟨rfl, (Below.refl _ _).alloc (Nat.le_refl _) _⟩

theorem fine_any (w : World) : Calls Tryz.prog 33 #[] w fun e w' => e = .returned (.agg #[.int .i64 0, .int .i64 (-1)]) ∧ Below w.heap.size w w' := by
  go_enter Tryz.func33, Tryz.ntmps33
  go_wp2
  exact bodyPost_ret (v := .agg #[.int .i64 0, .int .i64 (-1)]) (by simp [results, Tryz.results33, go_sem]) rfl ⟨rfl, (Below.refl _ _).alloc (Nat.le_refl _) _⟩

/-- The code of a file but for those that it is in. -/
def ownCode (pre : List F) (f : F) : Nat :=
  if checkCode f.p ≠ 0 then checkCode f.p
  else if 4000 < f.t.length then 2
  else if pre ≠ [] ∧ less ((pre.getLast?.map (·.p)).getD []) f.p = false then 9
  else 0

theorem pathError_is (s : List UInt8) (c : Int) (w : World) (hs : s.length ≤ 90000) (h : (checkCode s : Int) = c) :
    Calls Tryz.prog 31 #[.string ⟨s.toArray⟩] w fun e w' => e = .returned (.int .i64 c) ∧ Below w.heap.size w w' := by
  have := pathError_any s w hs
  rwa [h] at this

theorem refIsIn_is (s dir : List UInt8) (r : Bool) (w : World) (hs : s.length ≤ 90000) (hd : dir.length ≤ 90000) (h : isIn s dir = r) :
    Calls Tryz.prog 32 #[.string ⟨s.toArray⟩, .string ⟨dir.toArray⟩] w fun e w' => e = .returned (.bool r) ∧ Below w.heap.size w w' := by
  have := refIsIn_any s dir w hs hd
  rwa [h] at this

set_option maxRecDepth 100000 in
set_option maxHeartbeats 4000000 in
theorem refTreeFault_any (l : List F) (a : Option Addr) (ca : Nat) (w : World) (hl : LiesAt w a l) (hs : Small l) :
    Calls Tryz.prog 19 #[.slice a l.length ca] w fun e w' => e = .returned (.agg #[.int .i64 (treeFault l).1, .int .i64 (treeFault l).2]) ∧ Below w.heap.size w w' := by
  have hfew := hs.few
  by_cases hlong : 30 < l.length
  · have HT : Hid (treeFault l = (8, -1)) := treeFault_long hlong
    have h30 : (30 : Int) < (l.length : Int) := by omega
    clear hl
    go_enter Tryz.func19, Tryz.ntmps19
    go_wp2_with fail
    refine (bare_any 8 _).mono ?_
    rintro e w1 ⟨rfl, hb⟩
    have hb' : Below (w.heap.size + 1) (w.alloc (.cells #[.int .i64 0, .int .i64 0] 31)) w1 := hb.mono (by simp)
    obtain ⟨s0, s1, s2, s3, s4⟩ := slot_two hb'
    clear hb hb'
    go_wp2
    obtain ⟨q0, q1, q2⟩ := slot_set (w := w) (.int .i64 8) (.int .i64 (-1)) s0 s1 s4
    exact bodyPost_ret (v := .agg #[.int .i64 8, .int .i64 (-1)]) (by simp [results, Tryz.results19, go_sem, q0, q1]) rfl ⟨by rw [HT.out]; rfl, q2⟩
  · have h30 : ¬ (30 : Int) < (l.length : Int) := by omega
    have HL : Hid (LiesAt w a l) := hl
    have HPATH : Hid (∀ f ∈ l, f.p.length ≤ 40000) := hs.path
    have HTEXT : Hid (∀ f ∈ l, f.t.length ≤ 500000) := hs.text
    clear hl hs
    go_enter Tryz.func19, Tryz.ntmps19
    go_wp2_with fail
    have hmx : Tryz.prog.follows .mixedOrders = true := by kernel_rfl
    go_loopw [3, 4] (fun al i wr => ∃ q : Nat, q ≤ l.length ∧ i = .int .i64 q ∧ al = .int .i64 (total (l.take q)) ∧ (∀ j (h : j < l.length), j < q → fileCode (l.take j) l[j] = 0) ∧ Below (w.heap.size + 1) (w.alloc (.cells #[.int .i64 0, .int .i64 0] 31)) wr) (fun _ i _ => l.length - (intOf i).toNat)
    case atStart => exact ⟨0, by omega, rfl, by simp [total], fun _ _ h => by omega, Below.refl _ _⟩
    case round =>
      obtain ⟨q, hq, rfl, rfl, hz, hb⟩ := hrel
      have HB : Hid (Below (w.heap.size + 1) (w.alloc (.cells #[.int .i64 0, .int .i64 0] 31)) wr) := hb
      have HZ : Hid (∀ j (h : j < l.length), j < q → fileCode (l.take j) l[j] = 0) := hz
      clear hb hz
      by_cases hlt : q < l.length
      · have hlt' : (q : Int) < (l.length : Int) := by omega
        obtain ⟨b, o, rfl, c0, c1, c2⟩ := (HL.out.below (slot_two HB.out).2.2.2.2).at hlt
        have hpl := HPATH.out _ (List.getElem_mem hlt)
        have htl := HTEXT.out _ (List.getElem_mem hlt)
        by_cases hc : checkCode l[q].p = 0
        · by_cases ht : 4000 < l[q].t.length
          · have HF : Hid (treeFault l = (2, (q : Int))) := by
              have e : fileCode (l.take q) l[q] = 2 := by simp [fileCode, hc, ht]
              have := treeFault_at (l := l) (by omega) hlt HZ.out (by rw [e]; decide)
              rwa [e] at this
            have ht' : (4000 : Int) < (l[q].t.length : Int) := by omega
            have HC : Hid ((checkCode l[q].p : Int) = 0) := by show (checkCode l[q].p : Int) = 0; rw [hc]; rfl
            clear hc ht
            generalize l[q] = f at c0 c1 c2 hpl htl HF HC ht'
            go_wp2_with fail
            refine (pathError_is f.p 0 _ (by omega) HC.out).mono ?_
            rintro e w1 ⟨rfl, hb1⟩
            have HB1 := more_below HB.out rfl hb1
            have d2 : w1.cell? ⟨b, o + q * 3 + 2, none⟩ = some (sv f.t) := (hb1.cell (p := ⟨b, o + q * 3 + 2, none⟩) (block_lt_of_cell c2)).trans c2
            have d0 : w1.cell? ⟨b, o + q * 3, none⟩ = some (sv f.p) := (hb1.cell (p := ⟨b, o + q * 3, none⟩) (block_lt_of_cell c0)).trans c0
            have HB1' : Hid (Below (w.heap.size + 1) (w.alloc (.cells #[.int .i64 0, .int .i64 0] 31)) w1) := HB1
            obtain ⟨s0, s1, s2, s3, s4⟩ := slot_two HB1
            clear hb1 HB1
            go_wp2_with fail
            refine wp_loop_rounds 1 ?_
            rw [rounds_succ]
            go_wp2
            all_goals
              obtain ⟨q0, q1, q2⟩ := slot_set (w := w) (.int .i64 2) (.int .i64 q) s0 s1 s4
              exact bodyPost_ret (v := .agg #[.int .i64 2, .int .i64 q]) (by simp [results, Tryz.results19, go_sem, q0, q1]) rfl ⟨by rw [HF.out]; rfl, q2⟩
          · have ht' : ¬ (4000 : Int) < (l[q].t.length : Int) := by omega
            have HC : Hid ((checkCode l[q].p : Int) = 0) := by show (checkCode l[q].p : Int) = 0; rw [hc]; rfl
            rcases q with _ | r
            · have HNEXT : Hid (∀ j (h : j < l.length), j < 0 + 1 → fileCode (l.take j) l[j] = 0) := by
                intro j hj hjr
                obtain rfl : j = 0 := by omega
                exact fileCode_zero.2 ⟨⟨hc, by omega⟩, .inl (by simp), by simp⟩
              have HSUM : Hid (total (l.take (0 + 1)) = total (l.take 0) + l[0].t.length) := total_succ hlt
              have h00 : total (l.take 0) = 0 := by simp [total]
              clear hc ht
              generalize l[0] = f at c0 c1 c2 hpl htl HC ht' HSUM
              rw [Nat.zero_mul, Nat.add_zero] at c0 c1 c2
              go_wp2_with fail
              refine (pathError_is f.p 0 _ (by omega) HC.out).mono ?_
              rintro e w1 ⟨rfl, hb1⟩
              have d2 : w1.cell? ⟨b, o + 2, none⟩ = some (sv f.t) := (hb1.cell (p := ⟨b, o + 2, none⟩) (block_lt_of_cell c2)).trans c2
              have HB1 : Hid (Below (w.heap.size + 1) (w.alloc (.cells #[.int .i64 0, .int .i64 0] 31)) w1) := more_below HB.out rfl hb1
              clear hb1
              go_wp2_with fail
              refine wp_loop_rounds 1 ?_
              rw [rounds_succ]
              go_wp2
              go_roundw
              case rel => exact ⟨0 + 1, by omega, by go_num, by rw [HSUM.out, h00, Nat.zero_add]; show Value.int .i64 (wrap64 ((0 : Int) + (f.t.length : Int))) = _; rw [Int.zero_add, show wrap64 (f.t.length : Int) = f.t.length by unfold wrap64; omega], HNEXT.out, HB1.out⟩
              case measure => simp [intOf]; omega
            · obtain ⟨b', o', e', g0, g1, g2⟩ := (HL.out.below (slot_two HB.out).2.2.2.2).at (k := r) (by omega)
              cases e'
              have hgl := HPATH.out _ (List.getElem_mem (n := r) (by omega))
              have hlast : (l.take (r + 1)).getLast? = some (l[r]'(by omega)) := by
                rw [List.getLast?_eq_getElem?, List.length_take, Nat.min_eq_left (by omega), List.getElem?_take_of_lt (by omega)]
                exact List.getElem?_eq_getElem (by omega)
              by_cases ho : less (l[r]'(by omega)).p l[r + 1].p = false
              · have HF : Hid (treeFault l = (9, ((r + 1 : Nat) : Int))) := by
                  have e : fileCode (l.take (r + 1)) l[r + 1] = 9 := by
                    have hne : l.take (r + 1) ≠ [] := fun e => by rw [e] at hlast; simp at hlast
                    unfold fileCode
                    rw [if_neg (by simp [hc]), if_neg ht, if_pos ⟨hne, by rw [hlast]; exact ho⟩]
                  have := treeFault_at (l := l) (by omega) hlt HZ.out (by rw [e]; decide)
                  rwa [e] at this
                have hle : (Op.bytesLess l[r + 1].p (l[r]'(by omega)).p || l[r + 1].p == (l[r]'(by omega)).p) = true := by
                  cases h : Op.bytesLess l[r + 1].p (l[r]'(by omega)).p with
                  | true => rfl
                  | false => simp [less_total h ho]
                clear hc ht ho hlast
                generalize l[r + 1] = f at c0 c1 c2 hpl htl HF HC ht' hle
                generalize (l[r]'(by omega)) = g at g0 g1 g2 hgl hle
                have h0r : (0 : Int) < (r : Int) + 1 := by omega
                go_wp2_with fail
                refine (pathError_is f.p 0 _ (by omega) HC.out).mono ?_
                rintro e w1 ⟨rfl, hb1⟩
                have HB1 := more_below HB.out rfl hb1
                have d2 : w1.cell? ⟨b, o + (r + 1) * 3 + 2, none⟩ = some (sv f.t) := (hb1.cell (p := ⟨b, o + (r + 1) * 3 + 2, none⟩) (block_lt_of_cell c2)).trans c2
                have d0 : w1.cell? ⟨b, o + (r + 1) * 3, none⟩ = some (sv f.p) := (hb1.cell (p := ⟨b, o + (r + 1) * 3, none⟩) (block_lt_of_cell c0)).trans c0
                have HB1' : Hid (Below (w.heap.size + 1) (w.alloc (.cells #[.int .i64 0, .int .i64 0] 31)) w1) := HB1
                obtain ⟨s0, s1, s2, s3, s4⟩ := slot_two HB1
                have HBW : Hid (Below wr.heap.size wr w1) := hb1
                clear hb1 HB1
                have k0 : w1.cell? ⟨b, o + r * 3, none⟩ = some (sv g.p) := (HBW.out.cell (p := ⟨b, o + r * 3, none⟩) (block_lt_of_cell g0)).trans g0
                go_wp2_with fail
                go_quiet (fail)
                go_wp2_with fail
                refine wp_loop_rounds 1 ?_
                rw [rounds_succ]
                go_wp2
                have hq := slot_setN (w := w) (.int .i64 9) (.int .i64 ((r : Int) + 1)) s0 s1 s4
                exact bodyPost_ret (v := .agg #[.int .i64 9, .int .i64 ((r : Int) + 1)]) (by simp [results, Tryz.results19, go_sem, (hq _).1, (hq _).2.1]) rfl ⟨by rw [HF.out]; rfl, (hq _).2.2⟩
              · have ho' : less (l[r]'(by omega)).p l[r + 1].p = true := by simpa using ho
                have HOWN : Hid (∀ hb : (∀ j (h : j < l.length), j < r + 1 → isIn l[r + 1].p l[j].p = false), fileCode (l.take (r + 1)) l[r + 1] = 0) := by
                  intro hb
                  refine fileCode_zero.2 ⟨⟨hc, by omega⟩, .inr (by rw [hlast]; exact ho'), fun g hg => ?_⟩
                  obtain ⟨k, hk, rfl⟩ := List.getElem_of_mem hg
                  rw [List.length_take] at hk
                  rw [List.getElem_take]
                  exact hb k (by omega) (by omega)
                have HCL : Hid (∀ j (h : j < l.length), j < r + 1 → isIn l[r + 1].p l[j].p = true → treeFault l = (11, ((r + 1 : Nat) : Int))) := by
                  intro j hj hjr hi
                  have e : fileCode (l.take (r + 1)) l[r + 1] = 11 := by
                    unfold fileCode
                    rw [if_neg (by simp [hc]), if_neg ht, if_neg (fun h => by rw [hlast] at h; have := h.2; simp [ho'] at this), if_pos]
                    refine List.any_eq_true.2 ⟨l[j], ?_, hi⟩
                    exact List.mem_take_iff_getElem.2 ⟨j, by omega, rfl⟩
                  have := treeFault_at (l := l) (by omega) hlt HZ.out (by rw [e]; decide)
                  rwa [e] at this
                have hle : (Op.bytesLess l[r + 1].p (l[r]'(by omega)).p || l[r + 1].p == (l[r]'(by omega)).p) = false := by
                  have h1 := less_asymm ho'
                  have h2 := less_ne ho'
                  simp only [less] at h1
                  simp [h1, Ne.symm h2]
                have HSUM : Hid (total (l.take (r + 1 + 1)) = total (l.take (r + 1)) + l[r + 1].t.length) := total_succ hlt
                have HTT := total_take HTEXT.out (r + 1)
                clear hc ht ho ho' hlast
                generalize (l[r]'(by omega)) = g at g0 g1 g2 hgl hle
                generalize hf : l[r + 1] = f at c0 c1 c2 hpl htl HC ht' hle HOWN HCL HSUM
                have h0r : (0 : Int) < (r : Int) + 1 := by omega
                go_wp2_with fail
                refine (pathError_is f.p 0 _ (by omega) HC.out).mono ?_
                rintro e w1 ⟨rfl, hb1⟩
                have HB1 := more_below HB.out rfl hb1
                have d2 : w1.cell? ⟨b, o + (r + 1) * 3 + 2, none⟩ = some (sv f.t) := (hb1.cell (p := ⟨b, o + (r + 1) * 3 + 2, none⟩) (block_lt_of_cell c2)).trans c2
                have d0 : w1.cell? ⟨b, o + (r + 1) * 3, none⟩ = some (sv f.p) := (hb1.cell (p := ⟨b, o + (r + 1) * 3, none⟩) (block_lt_of_cell c0)).trans c0
                have k0 : w1.cell? ⟨b, o + r * 3, none⟩ = some (sv g.p) := (hb1.cell (p := ⟨b, o + r * 3, none⟩) (block_lt_of_cell g0)).trans g0
                have HB1' : Hid (Below (w.heap.size + 1) (w.alloc (.cells #[.int .i64 0, .int .i64 0] 31)) w1) := HB1
                clear hb1 HB1
                go_wp2_with fail
                go_quiet (fail)
                go_wp2_with fail
                go_loopw [5, 6] (fun e k wk => ∃ kk : Nat, kk ≤ r + 1 ∧ k = .int .i64 kk ∧ ((e = .int .i64 0 ∧ ∀ j (h : j < l.length), j < kk → isIn f.p l[j].p = false) ∨ (e = .int .i64 11 ∧ treeFault l = (11, ((r + 1 : Nat) : Int)))) ∧ Below (w.heap.size + 1) (w.alloc (.cells #[.int .i64 0, .int .i64 0] 31)) wk) (fun e k _ => if intOf e = 0 then r + 1 - (intOf k).toNat + 1 else 0)
                case atStart => exact ⟨0, by omega, rfl, .inl ⟨rfl, fun _ _ h => by omega⟩, below_drewN HB1'.out _⟩
                case round =>
                  obtain ⟨kk, hkk, rfl, hcase, hbk⟩ := hrel
                  have HBK : Hid (Below (w.heap.size + 1) (w.alloc (.cells #[.int .i64 0, .int .i64 0] 31)) wr) := hbk
                  clear hbk
                  rcases hcase with ⟨rfl, hno⟩ | ⟨rfl, hF⟩
                  · have HNO : Hid (∀ j (h : j < l.length), j < kk → isIn f.p l[j].p = false) := hno
                    clear hno
                    by_cases hkr : kk < r + 1
                    · have hkr' : (kk : Int) < (r : Int) + 1 := by omega
                      obtain ⟨b', o', e', m0, m1, m2⟩ := (HL.out.below (slot_two HBK.out).2.2.2.2).at (k := kk) (by omega)
                      cases e'
                      obtain ⟨b', o', e', n0, n1, n2⟩ := (HL.out.below (slot_two HBK.out).2.2.2.2).at hlt
                      cases e'
                      rw [hf] at n0 n1 n2
                      have hml := HPATH.out _ (List.getElem_mem (n := kk) (by omega : kk < l.length))
                      cases hin : isIn f.p (l[kk]'(by omega)).p with
                      | true =>
                        have HF := HCL.out kk (by omega) hkr hin
                        have HIN : Hid (isIn f.p (l[kk]'(by omega)).p = true) := hin
                        clear hin
                        generalize (l[kk]'(by omega)) = g2 at m0 m1 m2 hml HIN
                        have HF' : Hid (treeFault l = (11, ((r + 1 : Nat) : Int))) := HF
                        clear HF
                        go_wp2_with fail
                        have hi1 : (r : Int) + 1 < (l.length : Int) := by omega
                        have hi2 : (kk : Int) < (l.length : Int) := by omega
                        have hi0 : (0 : Int) ≤ (r : Int) + 1 := by omega
                        go_still_tail 10, hmx
                        go_wp2_with fail
                        refine (refIsIn_is f.p g2.p true _ (by omega) (by omega) HIN.out).mono ?_
                        rintro e w2 ⟨rfl, hb2⟩
                        have HB2 : Hid (Below (w.heap.size + 1) (w.alloc (.cells #[.int .i64 0, .int .i64 0] 31)) w2) := more_below (wr := wr.drew) HBK.out.drew rfl hb2
                        clear hb2
                        go_wp2
                        go_roundw
                        case rel => exact ⟨kk + 1, by omega, by go_num, .inr ⟨rfl, HF'.out⟩, HB2.out⟩
                        case measure => simp [intOf]
                      | false =>
                        have HIN : Hid (isIn f.p (l[kk]'(by omega)).p = false) := hin
                        have HNO2 : Hid (∀ j (h : j < l.length), j < kk + 1 → isIn f.p l[j].p = false) := by
                          intro j hj hjk
                          by_cases e : j = kk
                          · subst e; exact hin
                          · exact HNO.out j hj (by omega)
                        clear hin
                        generalize (l[kk]'(by omega)) = g2 at m0 m1 m2 hml HIN
                        go_wp2_with fail
                        have hi1 : (r : Int) + 1 < (l.length : Int) := by omega
                        have hi2 : (kk : Int) < (l.length : Int) := by omega
                        have hi0 : (0 : Int) ≤ (r : Int) + 1 := by omega
                        go_still_tail 10, hmx
                        go_wp2_with fail
                        refine (refIsIn_is f.p g2.p false _ (by omega) (by omega) HIN.out).mono ?_
                        rintro e w2 ⟨rfl, hb2⟩
                        have HB2 : Hid (Below (w.heap.size + 1) (w.alloc (.cells #[.int .i64 0, .int .i64 0] 31)) w2) := more_below (wr := wr.drew) HBK.out.drew rfl hb2
                        clear hb2
                        go_wp2
                        go_roundw
                        case rel => exact ⟨kk + 1, by omega, by go_num, .inl ⟨rfl, HNO2.out⟩, HB2.out⟩
                        case measure => simp [intOf]; omega
                    · have hkr' : ¬ (kk : Int) < (r : Int) + 1 := by omega
                      have hkr2 : decide ((kk : Int) < (r : Int) + 1) = false := by simp; omega
                      obtain ⟨b', o', e', n0, n1, n2⟩ := (HL.out.below (slot_two HBK.out).2.2.2.2).at hlt
                      cases e'
                      rw [hf] at n0 n1 n2
                      have HNEXT : Hid (∀ j (h : j < l.length), j < r + 1 + 1 → fileCode (l.take j) l[j] = 0) := by
                        intro j hj hjr
                        by_cases e : j = r + 1
                        · subst e
                          rw [hf]
                          exact HOWN.out fun j hj hjr => HNO.out j hj (by omega)
                        · exact HZ.out j hj (by omega)
                      go_wp2
                      go_roundw
                      case rel => exact ⟨r + 1 + 1, by omega, by go_num, by rw [HSUM.out]; go_num, HNEXT.out, HBK.out⟩
                      case measure => simp [intOf]; omega
                  · have HF : Hid (treeFault l = (11, ((r + 1 : Nat) : Int))) := hF
                    clear hF
                    obtain ⟨s0, s1, s2, s3, s4⟩ := slot_two HBK.out
                    go_wp2
                    all_goals
                      have hq := slot_set (w := w) (.int .i64 11) (.int .i64 ((r : Int) + 1)) s0 s1 s4
                      exact bodyPost_ret (v := .agg #[.int .i64 11, .int .i64 ((r : Int) + 1)]) (by simp [results, Tryz.results19, go_sem, hq.1, hq.2.1]) rfl ⟨by rw [HF.out]; rfl, hq.2.2⟩
        · have HF : Hid (treeFault l = (checkCode l[q].p, (q : Int))) := by
            have e : fileCode (l.take q) l[q] = checkCode l[q].p := by simp [fileCode, hc]
            have := treeFault_at (l := l) (by omega) hlt HZ.out (by rw [e]; exact hc)
            rwa [e] at this
          have hcp : (0 : Int) < (checkCode l[q].p : Int) := by omega
          have hce : ((checkCode l[q].p : Int) == 0) = false := by simp; omega
          clear hc
          generalize l[q] = f at c0 c1 c2 hpl htl HF hcp hce
          go_wp2_with fail
          refine (pathError_is f.p (checkCode f.p) _ (by omega) rfl).mono ?_
          rintro e w1 ⟨rfl, hb1⟩
          have HB1 := more_below HB.out rfl hb1
          have d2 : w1.cell? ⟨b, o + q * 3 + 2, none⟩ = some (sv f.t) := (hb1.cell (p := ⟨b, o + q * 3 + 2, none⟩) (block_lt_of_cell c2)).trans c2
          have d0 : w1.cell? ⟨b, o + q * 3, none⟩ = some (sv f.p) := (hb1.cell (p := ⟨b, o + q * 3, none⟩) (block_lt_of_cell c0)).trans c0
          have HB1' : Hid (Below (w.heap.size + 1) (w.alloc (.cells #[.int .i64 0, .int .i64 0] 31)) w1) := HB1
          obtain ⟨s0, s1, s2, s3, s4⟩ := slot_two HB1
          clear hb1 HB1
          generalize checkCode f.p = cc at HF hcp hce
          go_wp2_with fail
          refine wp_loop_rounds 1 ?_
          rw [rounds_succ]
          go_wp2
          all_goals
            obtain ⟨q0, q1, q2⟩ := slot_set (w := w) (.int .i64 cc) (.int .i64 q) s0 s1 s4
            exact bodyPost_ret (v := .agg #[.int .i64 cc, .int .i64 q]) (by simp [results, Tryz.results19, go_sem, q0, q1]) rfl ⟨by rw [HF.out], q2⟩
      · obtain rfl : q = l.length := by omega
        have hall : ∀ j (h : j < l.length), fileCode (l.take j) l[j] = 0 := fun j hj => HZ.out j hj hj
        have HE := treeFault_end (l := l) (by omega) hall
        have htk := total_take HTEXT.out l.length
        rw [List.take_length] at htk ⊢
        clear hall
        by_cases hbig : 12000 < total l
        · rw [if_pos hbig] at HE
          have HF : Hid (treeFault l = (2, -1)) := HE
          have hbig' : (12000 : Int) < (total l : Int) := by omega
          clear HE
          go_wp2_with fail
          refine (bare_any 2 _).mono ?_
          rintro e w1 ⟨rfl, hb1⟩
          have HB1 := more_below HB.out rfl hb1
          obtain ⟨s0, s1, s2, s3, s4⟩ := slot_two HB1
          clear hb1 HB1
          go_wp2
          obtain ⟨q0, q1, q2⟩ := slot_set (w := w) (.int .i64 2) (.int .i64 (-1)) s0 s1 s4
          exact bodyPost_ret (v := .agg #[.int .i64 2, .int .i64 (-1)]) (by simp [results, Tryz.results19, go_sem, q0, q1]) rfl ⟨by rw [HF.out]; rfl, q2⟩
        · rw [if_neg hbig] at HE
          have HF : Hid (treeFault l = (0, -1)) := HE
          have hbig' : ¬ (12000 : Int) < (total l : Int) := by omega
          clear HE
          go_wp2_with fail
          refine (fine_any _).mono ?_
          rintro e w1 ⟨rfl, hb1⟩
          have HB1 := more_below HB.out rfl hb1
          obtain ⟨s0, s1, s2, s3, s4⟩ := slot_two HB1
          clear hb1 HB1
          go_wp2
          obtain ⟨q0, q1, q2⟩ := slot_set (w := w) (.int .i64 0) (.int .i64 (-1)) s0 s1 s4
          exact bodyPost_ret (v := .agg #[.int .i64 0, .int .i64 (-1)]) (by simp [results, Tryz.results19, go_sem, q0, q1]) rfl ⟨by rw [HF.out]; rfl, q2⟩
end Go.Proofs.YtkcjgncpcidfoaaGreatDoor
