/-
  Own texts of the proof, joined by program: RefPackText, RefTree, RefPackOf, RefTreeSum, RefCutBlank, RefNumber, RefReadPack, RefDrop, RefSort, RefStrip.
-/
import Derived.Test.YtmcfkoenpikldaaGreatDoorPkMakePkPackMakePkPackSum
import Derived.Test.YtmcfkoenpikldaaGreatDoorRefDigitsRefSumPkSumSumEnv
import Derived.Deep.RegionHeld3
import Derived.Test.YtmcfkoenpikldaaGreatDoorTreeMemTreeSlotsTreeErrTreeOwn
import Derived.Test.YtmcfkoenpikldaaGreatDoorRefCutPartsRefRefBeginsRefMore
import Derived.StillTailTactics
import Derived.Test.YtmcfkoenpikldaaGreatDoorCutCheckClean
import Derived.Test.YtmcfkoenpikldaaGreatDoorPackPurePackFactsWantPure
import Derived.OwnWalk
import Derived.Test.YtmcfkoenpikldaaGreatDoorDigitsReadPurePressPureSumPure
import Derived.Deep.AppendLies
import Derived.Test.YtmcfkoenpikldaaGreatDoorTreePureTreeSortTreeFactsTreeInsertTreeAt
import Derived.Test.YtmcfkoenpikldaaGreatDoorLawTreeCame
import Derived.Laws.AppendOwnNone
import Derived.Test.YtmcfkoenpikldaaGreatDoorPkUnderPkStrip
/-
  The document's answer for packs: PackText: over this seat's translation.
-/
namespace Go.Proofs.YtmcfkoenpikldaaGreatDoor
open Go.RowKit Go.Shelf

theorem pack_take_le (l : List F) (q : Nat) : (packL (l.take q)).length ≤ (packL l).length := by
  have h : packL l = packL (l.take q) ++ packL (l.drop q) := by
    show l.flatMap fileL = (l.take q).flatMap fileL ++ (l.drop q).flatMap fileL
    rw [← List.flatMap_append, List.take_append_drop]
  rw [h, List.length_append]
  omega

/-- Six texts behind a first one, one after another. -/
theorem adds6 (s a m d t : List UInt8) (h : s.length + a.length + m.length + d.length + t.length ≤ 1000000) : ∃ x1 x2 x3 x4 x5 x6 : List UInt8,
    (∀ W, (Op.stringOp .add ⟨s.toArray⟩ ⟨a.toArray⟩).run Tryz.prog W = .ok (.string ⟨x1.toArray⟩) W) ∧ (∀ W, (Op.stringOp .add ⟨x1.toArray⟩ ⟨m.toArray⟩).run Tryz.prog W = .ok (.string ⟨x2.toArray⟩) W) ∧
    (∀ W, (Op.stringOp .add ⟨x2.toArray⟩ ⟨d.toArray⟩).run Tryz.prog W = .ok (.string ⟨x3.toArray⟩) W) ∧ (∀ W, (Op.stringOp .add ⟨x3.toArray⟩ ⟨#[10]⟩).run Tryz.prog W = .ok (.string ⟨x4.toArray⟩) W) ∧
    (∀ W, (Op.stringOp .add ⟨x4.toArray⟩ ⟨t.toArray⟩).run Tryz.prog W = .ok (.string ⟨x5.toArray⟩) W) ∧ (∀ W, (Op.stringOp .add ⟨x5.toArray⟩ ⟨#[10]⟩).run Tryz.prog W = .ok (.string ⟨x6.toArray⟩) W) ∧
    x6 = s ++ a ++ m ++ d ++ [10] ++ t ++ [10] :=
  ⟨s ++ a, s ++ a ++ m, s ++ a ++ m ++ d, s ++ a ++ m ++ d ++ [10], s ++ a ++ m ++ d ++ [10] ++ t, s ++ a ++ m ++ d ++ [10] ++ t ++ [10], fun W => run_string_add_lists (P := Tryz.prog) W s a (by omega) (by omega),
    fun W => run_string_add_lists (P := Tryz.prog) W _ m (by simp; omega) (by omega), fun W => run_string_add_lists (P := Tryz.prog) W _ d (by simp; omega) (by omega), fun W => run_string_add_lists (P := Tryz.prog) W _ [10] (by simp; omega) (by simp),
    fun W => run_string_add_lists (P := Tryz.prog) W _ t (by simp; omega) (by omega), fun W => run_string_add_lists (P := Tryz.prog) W _ [10] (by simp; omega) (by simp), rfl⟩

set_option maxRecDepth 100000 in
set_option maxHeartbeats 4000000 in
theorem packText_any (l : List F) (a : Option Addr) (ca : Nat) (w : World) (hl : LiesAt w a l) (hs : Small l) (hpk : (packL l).length ≤ 20000) :
    Calls Tryz.prog 116 #[.slice a l.length ca] w fun e w' => e = .returned (.string ⟨(packL l).toArray⟩) ∧ Below w.heap.size w w' := by
  have HL := Lib.hid hl
  have HSM := Lib.hid hs
  have hfew := hs.few
  clear hl hs
  go_enter Tryz.func116, Tryz.ntmps116
  go_wp2_with fail
  go_loopw [3, 4] (fun sv' i wr => ∃ q : Nat, q ≤ l.length ∧ i = .int .i64 q ∧ sv' = .string ⟨(packL (l.take q)).toArray⟩ ∧ Below w.heap.size w wr) (fun _ i _ => l.length - (intOf i).toNat)
  case atStart => exact ⟨0, by omega, rfl, rfl, Below.refl _ _⟩
  case round =>
    obtain ⟨q, hq, rfl, rfl, hb⟩ := hrel
    have HB := Lib.hid hb
    clear hb
    by_cases hlt : q < l.length
    · have hlt' : (q : Int) < (l.length : Int) := by omega
      have hq0 : (0 : Int) ≤ (q : Int) := by omega
      obtain ⟨b, o, rfl, c0, c1, c2⟩ := (HL.out.below HB.out).at hlt
      have hle := pack_take_le l q
      have hm := pack_mem (l := l) (List.getElem_mem hlt)
      have HPK := Lib.hid (pack_take hlt)
      generalize l[q] = f at c0 c1 c2 hm HPK
      generalize packL (l.take q) = pk at hle HPK
      have hbl : b < wr.heap.size := block_lt_of_cell c0
      have hdl : (digitsL f.t.length).length ≤ 6 := digits_length 5 _ (by omega)
      have HD : Calls Tryz.prog 154 #[.int .i64 f.t.length] wr.drew fun e w' => e = .returned (.string ⟨(digitsL f.t.length).toArray⟩) ∧ Below wr.drew.heap.size wr.drew w' := decimal_any f.t.length wr.drew (by omega)
      have HLN := Lib.hid (line_of f)
      obtain ⟨fp, fr, ft⟩ := f
      simp only at c0 c1 c2 hm hdl HD HLN
      generalize digitsL ft.length = ds at HD hdl HLN
      cases fr with
      | true =>
        obtain ⟨x1, x2, x3, x4, x5, x6, A1, A2, A3, A4, A5, A6, hx⟩ := adds6 pk fp [32, 120, 32] ds ft (by simp; omega)
        have HX : Hid (pk ++ fileL ⟨fp, true, ft⟩ = x6) := by
          show pk ++ fileL ⟨fp, true, ft⟩ = x6
          unfold fileL
          rw [HLN.out, hx]
          simp
        clear hx HLN
        go_wp2_with fail
        go_region_held3 (fun w' => w'.cell? ⟨b, o + q * 3, none⟩ = some (sv fp) ∧ w'.cell? ⟨b, o + q * 3 + 2, none⟩ = some (sv ft)) (go_keep) (first
          | (go_at_call 154; (with_reducible refine HD.mono ?_); rintro e w1 ⟨rfl, hb1⟩; have d0 := (hb1.cell (p := ⟨b, o + q * 3, none⟩) hbl).trans c0; have d2 := (hb1.cell (p := ⟨b, o + q * 3 + 2, none⟩) hbl).trans c2; have HB1 := Lib.hid (HB.out.drew.trans (hb1.mono HB.out.size)); clear hb1))
        go_wp2
        go_roundw
        case rel => exact ⟨q + 1, by omega, by go_num, by rw [HPK.out, HX.out], HB1.out⟩
        case measure => simp [intOf]; omega
      | false =>
        obtain ⟨x1, x2, x3, x4, x5, x6, A1, A2, A3, A4, A5, A6, hx⟩ := adds6 pk fp [32, 102, 32] ds ft (by simp; omega)
        have HX : Hid (pk ++ fileL ⟨fp, false, ft⟩ = x6) := by
          show pk ++ fileL ⟨fp, false, ft⟩ = x6
          unfold fileL
          rw [HLN.out, hx]
          simp
        clear hx HLN
        go_wp2_with fail
        go_region_held3 (fun w' => w'.cell? ⟨b, o + q * 3, none⟩ = some (sv fp) ∧ w'.cell? ⟨b, o + q * 3 + 2, none⟩ = some (sv ft)) (go_keep) (first
          | (go_at_call 154; (with_reducible refine HD.mono ?_); rintro e w1 ⟨rfl, hb1⟩; have d0 := (hb1.cell (p := ⟨b, o + q * 3, none⟩) hbl).trans c0; have d2 := (hb1.cell (p := ⟨b, o + q * 3 + 2, none⟩) hbl).trans c2; have HB1 := Lib.hid (HB.out.drew.trans (hb1.mono HB.out.size)); clear hb1))
        go_wp2
        go_roundw
        case rel => exact ⟨q + 1, by omega, by go_num, by rw [HPK.out, HX.out], HB1.out⟩
        case measure => simp [intOf]; omega
    · obtain rfl : q = l.length := by omega
      rw [List.take_length]
      go_wp2
      go_ret
      exact ⟨rfl, HB.out⟩
end Go.Proofs.YtmcfkoenpikldaaGreatDoor
/-
  The document's answer for trees: TreeFault: over this seat's translation.
-/
namespace Go.Proofs.YtmcfkoenpikldaaGreatDoor
open Go.RowKit Go.Shelf

theorem bare_any (c : Int) (w : World) : Calls Tryz.prog 73 #[.int .i64 c] w fun e w' => e = .returned (.agg #[.int .i64 c, .int .i64 (-1)]) ∧ Below w.heap.size w w' := by
  go_enter Tryz.func73, Tryz.ntmps73
  go_wp2
  exact bodyPost_ret (v := .agg #[.int .i64 c, .int .i64 (-1)]) (by simp [results, Tryz.results73, go_sem]) rfl ⟨rfl, (Below.refl _ _).alloc (Nat.le_refl _) _⟩

theorem fine_any (w : World) : Calls Tryz.prog 98 #[] w fun e w' => e = .returned (.agg #[.int .i64 0, .int .i64 (-1)]) ∧ Below w.heap.size w w' := by
  go_enter Tryz.func98, Tryz.ntmps98
  go_wp2
  exact bodyPost_ret (v := .agg #[.int .i64 0, .int .i64 (-1)]) (by simp [results, Tryz.results98, go_sem]) rfl ⟨rfl, (Below.refl _ _).alloc (Nat.le_refl _) _⟩

/-- The code of a file but for those that it is in. -/
def ownCode (pre : List F) (f : F) : Nat :=
  if checkCode f.p ≠ 0 then checkCode f.p
  else if 4000 < f.t.length then 2
  else if pre ≠ [] ∧ less ((pre.getLast?.map (·.p)).getD []) f.p = false then 9
  else 0

theorem pathError_is (s : List UInt8) (c : Int) (w : World) (hs : s.length ≤ 90000) (h : (checkCode s : Int) = c) :
    Calls Tryz.prog 167 #[.string ⟨s.toArray⟩] w fun e w' => e = .returned (.int .i64 c) ∧ Below w.heap.size w w' := by
  have := pathError_any s w hs
  rwa [h] at this

theorem refIsIn_is (s dir : List UInt8) (r : Bool) (w : World) (hs : s.length ≤ 90000) (hd : dir.length ≤ 90000) (h : isIn s dir = r) :
    Calls Tryz.prog 222 #[.string ⟨s.toArray⟩, .string ⟨dir.toArray⟩] w fun e w' => e = .returned (.bool r) ∧ Below w.heap.size w w' := by
  have := refIsIn_any s dir w hs hd
  rwa [h] at this

set_option maxRecDepth 100000 in
set_option maxHeartbeats 4000000 in
theorem refTreeFault_any (l : List F) (a : Option Addr) (ca : Nat) (w : World) (hl : LiesAt w a l) (hs : Small l) :
    Calls Tryz.prog 166 #[.slice a l.length ca] w fun e w' => e = .returned (.agg #[.int .i64 (treeFault l).1, .int .i64 (treeFault l).2]) ∧ Below w.heap.size w w' := by
  have hfew := hs.few
  by_cases hlong : 30 < l.length
  · have HT : Hid (treeFault l = (8, -1)) := treeFault_long hlong
    have h30 : (30 : Int) < (l.length : Int) := by omega
    clear hl
    go_enter Tryz.func166, Tryz.ntmps166
    go_wp2_with fail
    refine (bare_any 8 _).mono ?_
    rintro e w1 ⟨rfl, hb⟩
    have hb' : Below (w.heap.size + 1) (w.alloc (.cells #[.int .i64 0, .int .i64 0] 50)) w1 := hb.mono (by simp)
    obtain ⟨s0, s1, s2, s3, s4⟩ := slot_two hb'
    clear hb hb'
    go_wp2
    obtain ⟨q0, q1, q2⟩ := slot_set (w := w) (.int .i64 8) (.int .i64 (-1)) s0 s1 s4
    exact bodyPost_ret (v := .agg #[.int .i64 8, .int .i64 (-1)]) (by simp [results, Tryz.results166, go_sem, q0, q1]) rfl ⟨by rw [HT.out]; rfl, q2⟩
  · have h30 : ¬ (30 : Int) < (l.length : Int) := by omega
    have HL : Hid (LiesAt w a l) := hl
    have HPATH : Hid (∀ f ∈ l, f.p.length ≤ 40000) := hs.path
    have HTEXT : Hid (∀ f ∈ l, f.t.length ≤ 500000) := hs.text
    clear hl hs
    go_enter Tryz.func166, Tryz.ntmps166
    go_wp2_with fail
    have hmx : Tryz.prog.follows .mixedOrders = true := by kernel_rfl
    go_loopw [3, 4] (fun al i wr => ∃ q : Nat, q ≤ l.length ∧ i = .int .i64 q ∧ al = .int .i64 (total (l.take q)) ∧ (∀ j (h : j < l.length), j < q → fileCode (l.take j) l[j] = 0) ∧ Below (w.heap.size + 1) (w.alloc (.cells #[.int .i64 0, .int .i64 0] 50)) wr) (fun _ i _ => l.length - (intOf i).toNat)
    case atStart => exact ⟨0, by omega, rfl, by simp [total], fun _ _ h => by omega, Below.refl _ _⟩
    case round =>
      obtain ⟨q, hq, rfl, rfl, hz, hb⟩ := hrel
      have HB : Hid (Below (w.heap.size + 1) (w.alloc (.cells #[.int .i64 0, .int .i64 0] 50)) wr) := hb
      have HZ : Hid (∀ j (h : j < l.length), j < q → fileCode (l.take j) l[j] = 0) := hz
      clear hb hz
      by_cases hlt : q < l.length
      · have hlt' : (q : Int) < (l.length : Int) := by omega
        obtain ⟨b, o, rfl, c0, c1, c2⟩ := (HL.out.below (slot_two HB.out).2.2.2.2).at hlt
        have hpl := HPATH.out _ (List.getElem_mem hlt)
        have htl := HTEXT.out _ (List.getElem_mem hlt)
        by_cases hc : checkCode l[q].p = 0
        · by_cases ht : 4000 < l[q].t.length
          · have HF : Hid (treeFault l = (2, (q : Int))) := by
              have e : fileCode (l.take q) l[q] = 2 := by simp [fileCode, hc, ht]
              have := treeFault_at (l := l) (by omega) hlt HZ.out (by rw [e]; decide)
              rwa [e] at this
            have ht' : (4000 : Int) < (l[q].t.length : Int) := by omega
            have HC : Hid ((checkCode l[q].p : Int) = 0) := by show (checkCode l[q].p : Int) = 0; rw [hc]; rfl
            clear hc ht
            generalize l[q] = f at c0 c1 c2 hpl htl HF HC ht'
            go_wp2_with fail
            refine (pathError_is f.p 0 _ (by omega) HC.out).mono ?_
            rintro e w1 ⟨rfl, hb1⟩
            have HB1 := more_below HB.out rfl hb1
            have d2 : w1.cell? ⟨b, o + q * 3 + 2, none⟩ = some (sv f.t) := (hb1.cell (p := ⟨b, o + q * 3 + 2, none⟩) (block_lt_of_cell c2)).trans c2
            have d0 : w1.cell? ⟨b, o + q * 3, none⟩ = some (sv f.p) := (hb1.cell (p := ⟨b, o + q * 3, none⟩) (block_lt_of_cell c0)).trans c0
            have HB1' : Hid (Below (w.heap.size + 1) (w.alloc (.cells #[.int .i64 0, .int .i64 0] 50)) w1) := HB1
            obtain ⟨s0, s1, s2, s3, s4⟩ := slot_two HB1
            clear hb1 HB1
            go_wp2_with fail
            refine wp_loop_rounds 1 ?_
            rw [rounds_succ]
            go_wp2
            all_goals
              obtain ⟨q0, q1, q2⟩ := slot_set (w := w) (.int .i64 2) (.int .i64 q) s0 s1 s4
              exact bodyPost_ret (v := .agg #[.int .i64 2, .int .i64 q]) (by simp [results, Tryz.results166, go_sem, q0, q1]) rfl ⟨by rw [HF.out]; rfl, q2⟩
          · have ht' : ¬ (4000 : Int) < (l[q].t.length : Int) := by omega
            have HC : Hid ((checkCode l[q].p : Int) = 0) := by show (checkCode l[q].p : Int) = 0; rw [hc]; rfl
            rcases q with _ | r
            · have HNEXT : Hid (∀ j (h : j < l.length), j < 0 + 1 → fileCode (l.take j) l[j] = 0) := by
                intro j hj hjr
                obtain rfl : j = 0 := by omega
                exact fileCode_zero.2 ⟨⟨hc, by omega⟩, .inl (by simp), by simp⟩
              have HSUM : Hid (total (l.take (0 + 1)) = total (l.take 0) + l[0].t.length) := total_succ hlt
              have h00 : total (l.take 0) = 0 := by simp [total]
              clear hc ht
              generalize l[0] = f at c0 c1 c2 hpl htl HC ht' HSUM
              rw [Nat.zero_mul, Nat.add_zero] at c0 c1 c2
              go_wp2_with fail
              refine (pathError_is f.p 0 _ (by omega) HC.out).mono ?_
              rintro e w1 ⟨rfl, hb1⟩
              have d2 : w1.cell? ⟨b, o + 2, none⟩ = some (sv f.t) := (hb1.cell (p := ⟨b, o + 2, none⟩) (block_lt_of_cell c2)).trans c2
              have HB1 : Hid (Below (w.heap.size + 1) (w.alloc (.cells #[.int .i64 0, .int .i64 0] 50)) w1) := more_below HB.out rfl hb1
              clear hb1
              go_wp2_with fail
              refine wp_loop_rounds 1 ?_
              rw [rounds_succ]
              go_wp2
              go_roundw
              case rel => exact ⟨0 + 1, by omega, by go_num, by rw [HSUM.out, h00, Nat.zero_add]; show Value.int .i64 (wrap64 ((0 : Int) + (f.t.length : Int))) = _; rw [Int.zero_add, show wrap64 (f.t.length : Int) = f.t.length by unfold wrap64; omega], HNEXT.out, HB1.out⟩
              case measure => simp [intOf]; omega
            · obtain ⟨b', o', e', g0, g1, g2⟩ := (HL.out.below (slot_two HB.out).2.2.2.2).at (k := r) (by omega)
              cases e'
              have hgl := HPATH.out _ (List.getElem_mem (n := r) (by omega))
              have hlast : (l.take (r + 1)).getLast? = some (l[r]'(by omega)) := by
                rw [List.getLast?_eq_getElem?, List.length_take, Nat.min_eq_left (by omega), List.getElem?_take_of_lt (by omega)]
                exact List.getElem?_eq_getElem (by omega)
              by_cases ho : less (l[r]'(by omega)).p l[r + 1].p = false
              · have HF : Hid (treeFault l = (9, ((r + 1 : Nat) : Int))) := by
                  have e : fileCode (l.take (r + 1)) l[r + 1] = 9 := by
                    have hne : l.take (r + 1) ≠ [] := fun e => by rw [e] at hlast; simp at hlast
                    unfold fileCode
                    rw [if_neg (by simp [hc]), if_neg ht, if_pos ⟨hne, by rw [hlast]; exact ho⟩]
                  have := treeFault_at (l := l) (by omega) hlt HZ.out (by rw [e]; decide)
                  rwa [e] at this
                have hle : (Op.bytesLess l[r + 1].p (l[r]'(by omega)).p || l[r + 1].p == (l[r]'(by omega)).p) = true := by
                  cases h : Op.bytesLess l[r + 1].p (l[r]'(by omega)).p with
                  | true => rfl
                  | false => simp [less_total h ho]
                clear hc ht ho hlast
                generalize l[r + 1] = f at c0 c1 c2 hpl htl HF HC ht' hle
                generalize (l[r]'(by omega)) = g at g0 g1 g2 hgl hle
                have h0r : (0 : Int) < (r : Int) + 1 := by omega
                go_wp2_with fail
                refine (pathError_is f.p 0 _ (by omega) HC.out).mono ?_
                rintro e w1 ⟨rfl, hb1⟩
                have HB1 := more_below HB.out rfl hb1
                have d2 : w1.cell? ⟨b, o + (r + 1) * 3 + 2, none⟩ = some (sv f.t) := (hb1.cell (p := ⟨b, o + (r + 1) * 3 + 2, none⟩) (block_lt_of_cell c2)).trans c2
                have d0 : w1.cell? ⟨b, o + (r + 1) * 3, none⟩ = some (sv f.p) := (hb1.cell (p := ⟨b, o + (r + 1) * 3, none⟩) (block_lt_of_cell c0)).trans c0
                have HB1' : Hid (Below (w.heap.size + 1) (w.alloc (.cells #[.int .i64 0, .int .i64 0] 50)) w1) := HB1
                obtain ⟨s0, s1, s2, s3, s4⟩ := slot_two HB1
                have HBW : Hid (Below wr.heap.size wr w1) := hb1
                clear hb1 HB1
                have k0 : w1.cell? ⟨b, o + r * 3, none⟩ = some (sv g.p) := (HBW.out.cell (p := ⟨b, o + r * 3, none⟩) (block_lt_of_cell g0)).trans g0
                go_wp2_with fail
                go_quiet (fail)
                go_wp2_with fail
                refine wp_loop_rounds 1 ?_
                rw [rounds_succ]
                go_wp2
                have hq := slot_setN (w := w) (.int .i64 9) (.int .i64 ((r : Int) + 1)) s0 s1 s4
                exact bodyPost_ret (v := .agg #[.int .i64 9, .int .i64 ((r : Int) + 1)]) (by simp [results, Tryz.results166, go_sem, (hq _).1, (hq _).2.1]) rfl ⟨by rw [HF.out]; rfl, (hq _).2.2⟩
              · have ho' : less (l[r]'(by omega)).p l[r + 1].p = true := by simpa using ho
                have HOWN : Hid (∀ hb : (∀ j (h : j < l.length), j < r + 1 → isIn l[r + 1].p l[j].p = false), fileCode (l.take (r + 1)) l[r + 1] = 0) := by
                  intro hb
                  refine fileCode_zero.2 ⟨⟨hc, by omega⟩, .inr (by rw [hlast]; exact ho'), fun g hg => ?_⟩
                  obtain ⟨k, hk, rfl⟩ := List.getElem_of_mem hg
                  rw [List.length_take] at hk
                  rw [List.getElem_take]
                  exact hb k (by omega) (by omega)
                have HCL : Hid (∀ j (h : j < l.length), j < r + 1 → isIn l[r + 1].p l[j].p = true → treeFault l = (11, ((r + 1 : Nat) : Int))) := by
                  intro j hj hjr hi
                  have e : fileCode (l.take (r + 1)) l[r + 1] = 11 := by
                    unfold fileCode
                    rw [if_neg (by simp [hc]), if_neg ht, if_neg (fun h => by rw [hlast] at h; have := h.2; simp [ho'] at this), if_pos]
                    refine List.any_eq_true.2 ⟨l[j], ?_, hi⟩
                    exact List.mem_take_iff_getElem.2 ⟨j, by omega, rfl⟩
                  have := treeFault_at (l := l) (by omega) hlt HZ.out (by rw [e]; decide)
                  rwa [e] at this
                have hle : (Op.bytesLess l[r + 1].p (l[r]'(by omega)).p || l[r + 1].p == (l[r]'(by omega)).p) = false := by
                  have h1 := less_asymm ho'
                  have h2 := less_ne ho'
                  simp only [less] at h1
                  simp [h1, Ne.symm h2]
                have HSUM : Hid (total (l.take (r + 1 + 1)) = total (l.take (r + 1)) + l[r + 1].t.length) := total_succ hlt
                have HTT := total_take HTEXT.out (r + 1)
                clear hc ht ho ho' hlast
                generalize (l[r]'(by omega)) = g at g0 g1 g2 hgl hle
                generalize hf : l[r + 1] = f at c0 c1 c2 hpl htl HC ht' hle HOWN HCL HSUM
                have h0r : (0 : Int) < (r : Int) + 1 := by omega
                go_wp2_with fail
                refine (pathError_is f.p 0 _ (by omega) HC.out).mono ?_
                rintro e w1 ⟨rfl, hb1⟩
                have HB1 := more_below HB.out rfl hb1
                have d2 : w1.cell? ⟨b, o + (r + 1) * 3 + 2, none⟩ = some (sv f.t) := (hb1.cell (p := ⟨b, o + (r + 1) * 3 + 2, none⟩) (block_lt_of_cell c2)).trans c2
                have d0 : w1.cell? ⟨b, o + (r + 1) * 3, none⟩ = some (sv f.p) := (hb1.cell (p := ⟨b, o + (r + 1) * 3, none⟩) (block_lt_of_cell c0)).trans c0
                have k0 : w1.cell? ⟨b, o + r * 3, none⟩ = some (sv g.p) := (hb1.cell (p := ⟨b, o + r * 3, none⟩) (block_lt_of_cell g0)).trans g0
                have HB1' : Hid (Below (w.heap.size + 1) (w.alloc (.cells #[.int .i64 0, .int .i64 0] 50)) w1) := HB1
                clear hb1 HB1
                go_wp2_with fail
                go_quiet (fail)
                go_wp2_with fail
                go_loopw [5, 6] (fun e k wk => ∃ kk : Nat, kk ≤ r + 1 ∧ k = .int .i64 kk ∧ ((e = .int .i64 0 ∧ ∀ j (h : j < l.length), j < kk → isIn f.p l[j].p = false) ∨ (e = .int .i64 11 ∧ treeFault l = (11, ((r + 1 : Nat) : Int)))) ∧ Below (w.heap.size + 1) (w.alloc (.cells #[.int .i64 0, .int .i64 0] 50)) wk) (fun e k _ => if intOf e = 0 then r + 1 - (intOf k).toNat + 1 else 0)
                case atStart => exact ⟨0, by omega, rfl, .inl ⟨rfl, fun _ _ h => by omega⟩, below_drewN HB1'.out _⟩
                case round =>
                  obtain ⟨kk, hkk, rfl, hcase, hbk⟩ := hrel
                  have HBK : Hid (Below (w.heap.size + 1) (w.alloc (.cells #[.int .i64 0, .int .i64 0] 50)) wr) := hbk
                  clear hbk
                  rcases hcase with ⟨rfl, hno⟩ | ⟨rfl, hF⟩
                  · have HNO : Hid (∀ j (h : j < l.length), j < kk → isIn f.p l[j].p = false) := hno
                    clear hno
                    by_cases hkr : kk < r + 1
                    · have hkr' : (kk : Int) < (r : Int) + 1 := by omega
                      obtain ⟨b', o', e', m0, m1, m2⟩ := (HL.out.below (slot_two HBK.out).2.2.2.2).at (k := kk) (by omega)
                      cases e'
                      obtain ⟨b', o', e', n0, n1, n2⟩ := (HL.out.below (slot_two HBK.out).2.2.2.2).at hlt
                      cases e'
                      rw [hf] at n0 n1 n2
                      have hml := HPATH.out _ (List.getElem_mem (n := kk) (by omega : kk < l.length))
                      cases hin : isIn f.p (l[kk]'(by omega)).p with
                      | true =>
                        have HF := HCL.out kk (by omega) hkr hin
                        have HIN : Hid (isIn f.p (l[kk]'(by omega)).p = true) := hin
                        clear hin
                        generalize (l[kk]'(by omega)) = g2 at m0 m1 m2 hml HIN
                        have HF' : Hid (treeFault l = (11, ((r + 1 : Nat) : Int))) := HF
                        clear HF
                        go_wp2_with fail
                        have hi1 : (r : Int) + 1 < (l.length : Int) := by omega
                        have hi2 : (kk : Int) < (l.length : Int) := by omega
                        have hi0 : (0 : Int) ≤ (r : Int) + 1 := by omega
                        go_still_tail 10, hmx
                        go_wp2_with fail
                        refine (refIsIn_is f.p g2.p true _ (by omega) (by omega) HIN.out).mono ?_
                        rintro e w2 ⟨rfl, hb2⟩
                        have HB2 : Hid (Below (w.heap.size + 1) (w.alloc (.cells #[.int .i64 0, .int .i64 0] 50)) w2) := more_below (wr := wr.drew) HBK.out.drew rfl hb2
                        clear hb2
                        go_wp2
                        go_roundw
                        case rel => exact ⟨kk + 1, by omega, by go_num, .inr ⟨rfl, HF'.out⟩, HB2.out⟩
                        case measure => simp [intOf]
                      | false =>
                        have HIN : Hid (isIn f.p (l[kk]'(by omega)).p = false) := hin
                        have HNO2 : Hid (∀ j (h : j < l.length), j < kk + 1 → isIn f.p l[j].p = false) := by
                          intro j hj hjk
                          by_cases e : j = kk
                          · subst e; exact hin
                          · exact HNO.out j hj (by omega)
                        clear hin
                        generalize (l[kk]'(by omega)) = g2 at m0 m1 m2 hml HIN
                        go_wp2_with fail
                        have hi1 : (r : Int) + 1 < (l.length : Int) := by omega
                        have hi2 : (kk : Int) < (l.length : Int) := by omega
                        have hi0 : (0 : Int) ≤ (r : Int) + 1 := by omega
                        go_still_tail 10, hmx
                        go_wp2_with fail
                        refine (refIsIn_is f.p g2.p false _ (by omega) (by omega) HIN.out).mono ?_
                        rintro e w2 ⟨rfl, hb2⟩
                        have HB2 : Hid (Below (w.heap.size + 1) (w.alloc (.cells #[.int .i64 0, .int .i64 0] 50)) w2) := more_below (wr := wr.drew) HBK.out.drew rfl hb2
                        clear hb2
                        go_wp2
                        go_roundw
                        case rel => exact ⟨kk + 1, by omega, by go_num, .inl ⟨rfl, HNO2.out⟩, HB2.out⟩
                        case measure => simp [intOf]; omega
                    · have hkr' : ¬ (kk : Int) < (r : Int) + 1 := by omega
                      have hkr2 : decide ((kk : Int) < (r : Int) + 1) = false := by simp; omega
                      obtain ⟨b', o', e', n0, n1, n2⟩ := (HL.out.below (slot_two HBK.out).2.2.2.2).at hlt
                      cases e'
                      rw [hf] at n0 n1 n2
                      have HNEXT : Hid (∀ j (h : j < l.length), j < r + 1 + 1 → fileCode (l.take j) l[j] = 0) := by
                        intro j hj hjr
                        by_cases e : j = r + 1
                        · subst e
                          rw [hf]
                          exact HOWN.out fun j hj hjr => HNO.out j hj (by omega)
                        · exact HZ.out j hj (by omega)
                      go_wp2
                      go_roundw
                      case rel => exact ⟨r + 1 + 1, by omega, by go_num, by rw [HSUM.out]; go_num, HNEXT.out, HBK.out⟩
                      case measure => simp [intOf]; omega
                  · have HF : Hid (treeFault l = (11, ((r + 1 : Nat) : Int))) := hF
                    clear hF
                    obtain ⟨s0, s1, s2, s3, s4⟩ := slot_two HBK.out
                    go_wp2
                    all_goals
                      have hq := slot_set (w := w) (.int .i64 11) (.int .i64 ((r : Int) + 1)) s0 s1 s4
                      exact bodyPost_ret (v := .agg #[.int .i64 11, .int .i64 ((r : Int) + 1)]) (by simp [results, Tryz.results166, go_sem, hq.1, hq.2.1]) rfl ⟨by rw [HF.out]; rfl, hq.2.2⟩
        · have HF : Hid (treeFault l = (checkCode l[q].p, (q : Int))) := by
            have e : fileCode (l.take q) l[q] = checkCode l[q].p := by simp [fileCode, hc]
            have := treeFault_at (l := l) (by omega) hlt HZ.out (by rw [e]; exact hc)
            rwa [e] at this
          have hcp : (0 : Int) < (checkCode l[q].p : Int) := by omega
          have hce : ((checkCode l[q].p : Int) == 0) = false := by simp; omega
          clear hc
          generalize l[q] = f at c0 c1 c2 hpl htl HF hcp hce
          go_wp2_with fail
          refine (pathError_is f.p (checkCode f.p) _ (by omega) rfl).mono ?_
          rintro e w1 ⟨rfl, hb1⟩
          have HB1 := more_below HB.out rfl hb1
          have d2 : w1.cell? ⟨b, o + q * 3 + 2, none⟩ = some (sv f.t) := (hb1.cell (p := ⟨b, o + q * 3 + 2, none⟩) (block_lt_of_cell c2)).trans c2
          have d0 : w1.cell? ⟨b, o + q * 3, none⟩ = some (sv f.p) := (hb1.cell (p := ⟨b, o + q * 3, none⟩) (block_lt_of_cell c0)).trans c0
          have HB1' : Hid (Below (w.heap.size + 1) (w.alloc (.cells #[.int .i64 0, .int .i64 0] 50)) w1) := HB1
          obtain ⟨s0, s1, s2, s3, s4⟩ := slot_two HB1
          clear hb1 HB1
          generalize checkCode f.p = cc at HF hcp hce
          go_wp2_with fail
          refine wp_loop_rounds 1 ?_
          rw [rounds_succ]
          go_wp2
          all_goals
            obtain ⟨q0, q1, q2⟩ := slot_set (w := w) (.int .i64 cc) (.int .i64 q) s0 s1 s4
            exact bodyPost_ret (v := .agg #[.int .i64 cc, .int .i64 q]) (by simp [results, Tryz.results166, go_sem, q0, q1]) rfl ⟨by rw [HF.out], q2⟩
      · obtain rfl : q = l.length := by omega
        have hall : ∀ j (h : j < l.length), fileCode (l.take j) l[j] = 0 := fun j hj => HZ.out j hj hj
        have HE := treeFault_end (l := l) (by omega) hall
        have htk := total_take HTEXT.out l.length
        rw [List.take_length] at htk ⊢
        clear hall
        by_cases hbig : 12000 < total l
        · rw [if_pos hbig] at HE
          have HF : Hid (treeFault l = (2, -1)) := HE
          have hbig' : (12000 : Int) < (total l : Int) := by omega
          clear HE
          go_wp2_with fail
          refine (bare_any 2 _).mono ?_
          rintro e w1 ⟨rfl, hb1⟩
          have HB1 := more_below HB.out rfl hb1
          obtain ⟨s0, s1, s2, s3, s4⟩ := slot_two HB1
          clear hb1 HB1
          go_wp2
          obtain ⟨q0, q1, q2⟩ := slot_set (w := w) (.int .i64 2) (.int .i64 (-1)) s0 s1 s4
          exact bodyPost_ret (v := .agg #[.int .i64 2, .int .i64 (-1)]) (by simp [results, Tryz.results166, go_sem, q0, q1]) rfl ⟨by rw [HF.out]; rfl, q2⟩
        · rw [if_neg hbig] at HE
          have HF : Hid (treeFault l = (0, -1)) := HE
          have hbig' : ¬ (12000 : Int) < (total l : Int) := by omega
          clear HE
          go_wp2_with fail
          refine (fine_any _).mono ?_
          rintro e w1 ⟨rfl, hb1⟩
          have HB1 := more_below HB.out rfl hb1
          obtain ⟨s0, s1, s2, s3, s4⟩ := slot_two HB1
          clear hb1 HB1
          go_wp2
          obtain ⟨q0, q1, q2⟩ := slot_set (w := w) (.int .i64 0) (.int .i64 (-1)) s0 s1 s4
          exact bodyPost_ret (v := .agg #[.int .i64 0, .int .i64 (-1)]) (by simp [results, Tryz.results166, go_sem, q0, q1]) rfl ⟨by rw [HF.out]; rfl, q2⟩
end Go.Proofs.YtmcfkoenpikldaaGreatDoor
/-
  The document's answer for packs: PackOf, TreeSum: over this seat's translation.
-/
namespace Go.Proofs.YtmcfkoenpikldaaGreatDoor
open Go.RowKit Go.Shelf

theorem fault_nat (l : List F) : ∃ c i, treeFault l = (c, i) := ⟨_, _, rfl⟩

set_option maxRecDepth 100000 in
set_option maxHeartbeats 4000000 in
theorem packOf_any (l : List F) (a : Option Addr) (ca : Nat) (w : World) (hl : LiesAt w a l) (hs : Small l) :
    Calls Tryz.prog 188 #[.slice a l.length ca] w fun e w' => e = .returned (.tuple #[.string ⟨(makeL l).toArray⟩, .agg #[.int .i64 (treeFault l).1, .int .i64 (treeFault l).2]]) ∧ Below w.heap.size w w' := by
  have HL := Lib.hid hl
  have HSM := Lib.hid hs
  obtain ⟨W0, hW0⟩ : ∃ W0, W0 = w.alloc (.cells #[.int .i64 0, .int .i64 0] 50) := ⟨_, rfl⟩
  have hb0 : Below w.heap.size w W0 := by rw [hW0]; exact (Below.refl _ _).alloc (Nat.le_refl _) _
  have HT := Lib.hid (refTreeFault_any l a ca W0 (hl.below hb0) hs)
  have HS0 : Hid (Below (w.heap.size + 1) (w.alloc (.cells #[.int .i64 0, .int .i64 0] 50)) W0) := by
    show Below _ _ _
    rw [hW0]
    exact Below.refl _ _
  clear hl hs hb0
  go_enter Tryz.func188, Tryz.ntmps188
  go_wp2_with fail
  rw [← hW0]
  clear hW0
  refine HT.out.mono ?_
  rintro e w1 ⟨rfl, hb1⟩
  have HS1 := Lib.hid (more_below HS0.out rfl hb1)
  clear hb1 HS0 HT
  by_cases hz : (treeFault l).1 = 0
  · have hps := pack_small hz
    have HMK := Lib.hid (make_yes hz)
    have HZ := Lib.hid (treeFault_zero hz)
    rw [HZ.out]
    clear hz
    go_wp2_with fail
    obtain ⟨W, hW⟩ : ∃ W, W = w1.alloc (.cells #[.int .i64 0, .int .i64 (-1)] 50) := ⟨_, rfl⟩
    have hbW : Below w1.heap.size w1 W := by rw [hW]; exact (Below.refl _ _).alloc (Nat.le_refl _) _
    have HSW := Lib.hid (more_below HS1.out rfl hbW)
    obtain ⟨f0, f1, _, _, _⟩ := slot_two (w := w1) (wr := W) (u := .int .i64 0) (v := .int .i64 (-1)) (T := 50) (by rw [hW]; exact Below.refl _ _)
    have hne : w1.heap.size ≠ w.heap.size := by have := HS1.out.size; simp at this; omega
    have hbl : w1.heap.size < W.heap.size := by rw [hW]; simp
    rw [← hW]
    clear hW hbW HS1
    generalize w1.heap.size = fb at f0 f1 hne hbl ⊢
    have HPT := packText_any l a ca W.drew (HL.out.below (slot_two HSW.out).2.2.2.2.drew) HSM.out hps
    obtain ⟨s0, s1, z0, z1, sb⟩ := slot_two HSW.out
    go_region_with (first
      | (go_at_call 116; (with_reducible refine HPT.mono ?_); rintro e w2 ⟨rfl, hb2⟩; have HS2 := Lib.hid (more_below HSW.out.drew rfl hb2); have d0 := (hb2.cell (p := ⟨fb, 0, none⟩) hbl).trans f0; have d1 := (hb2.cell (p := ⟨fb, 1, none⟩) hbl).trans f1; obtain ⟨t0, t1, y0, y1, tb⟩ := slot_two HS2.out; clear hb2))
    all_goals go_wp2
    all_goals
      obtain ⟨q0, q1, q2⟩ := slot_set (w := w) (wr := w2) (.int .i64 0) (.int .i64 (-1)) t0 t1 tb
      exact bodyPost_ret (v := .tuple #[.string ⟨(packL l).toArray⟩, .agg #[.int .i64 0, .int .i64 (-1)]]) (by simp [results, Tryz.results188, go_sem, q0, q1]) rfl ⟨by rw [HMK.out, HZ.out]; rfl, q2⟩
  · have HMK := Lib.hid (make_no hz)
    obtain ⟨c, i, hci⟩ := fault_nat l
    have hc : 0 < c := by rw [hci] at hz; simp at hz; omega
    have hc' : (0 : Int) < (c : Int) := by omega
    rw [hci]
    have HCI := Lib.hid hci
    clear hz hci
    go_wp2_with fail
    obtain ⟨W, hW⟩ : ∃ W, W = w1.alloc (.cells #[.int .i64 c, .int .i64 i] 50) := ⟨_, rfl⟩
    have hbW : Below w1.heap.size w1 W := by rw [hW]; exact (Below.refl _ _).alloc (Nat.le_refl _) _
    have HSW := Lib.hid (more_below HS1.out rfl hbW)
    obtain ⟨f0, f1, _, _, _⟩ := slot_two (w := w1) (wr := W) (u := .int .i64 c) (v := .int .i64 i) (T := 50) (by rw [hW]; exact Below.refl _ _)
    have hne : w1.heap.size ≠ w.heap.size := by have := HS1.out.size; simp at this; omega
    rw [← hW]
    clear hW hbW HS1
    generalize w1.heap.size = fb at f0 f1 hne ⊢
    obtain ⟨s0, s1, z0, z1, sb⟩ := slot_two HSW.out
    go_region
    all_goals go_wp2
    all_goals
      obtain ⟨q0, q1, q2⟩ := slot_set (w := w) (wr := W) (.int .i64 c) (.int .i64 i) s0 s1 sb
      exact bodyPost_ret (v := .tuple #[.string ⟨#[]⟩, .agg #[.int .i64 c, .int .i64 i]]) (by simp [results, Tryz.results188, go_sem, q0, q1]) rfl ⟨by rw [HMK.out, HCI.out], Below.drew q2⟩
end Go.Proofs.YtmcfkoenpikldaaGreatDoor
/-
  The document's answer for packs: TreeSum: over this seat's translation.
-/
namespace Go.Proofs.YtmcfkoenpikldaaGreatDoor
open Go.RowKit Go.Shelf

set_option maxRecDepth 100000 in
set_option maxHeartbeats 4000000 in
theorem treeSum_any (l : List F) (a : Option Addr) (ca : Nat) (w : World) (hl : LiesAt w a l) (hs : Small l) :
    Calls Tryz.prog 137 #[.slice a l.length ca] w fun e w' => e = .returned (.tuple #[.int .i64 (sumT l), .agg #[.int .i64 (treeFault l).1, .int .i64 (treeFault l).2]]) ∧ Below w.heap.size w w' := by
  obtain ⟨W0, hW0⟩ : ∃ W0, W0 = w.alloc (.cells #[.int .i64 0, .int .i64 0] 50) := ⟨_, rfl⟩
  have hb0 : Below w.heap.size w W0 := by rw [hW0]; exact (Below.refl _ _).alloc (Nat.le_refl _) _
  have HT := Lib.hid (packOf_any l a ca W0 (hl.below hb0) hs)
  have HS0 : Hid (Below (w.heap.size + 1) (w.alloc (.cells #[.int .i64 0, .int .i64 0] 50)) W0) := by
    show Below _ _ _
    rw [hW0]
    exact Below.refl _ _
  clear hl hs hb0
  go_enter Tryz.func137, Tryz.ntmps137
  go_wp2_with fail
  rw [← hW0]
  clear hW0
  refine HT.out.mono ?_
  rintro e w1 ⟨rfl, hb1⟩
  have HS1 := Lib.hid (more_below HS0.out rfl hb1)
  clear hb1 HS0 HT
  by_cases hz : (treeFault l).1 = 0
  · have hps := pack_small hz
    have HMK := Lib.hid (sum_yes hz)
    have HZ := Lib.hid (treeFault_zero hz)
    rw [HZ.out, make_yes hz]
    clear hz
    go_wp2_with fail
    obtain ⟨W, hW⟩ : ∃ W, W = w1.alloc (.cells #[.int .i64 0, .int .i64 (-1)] 50) := ⟨_, rfl⟩
    have hbW : Below w1.heap.size w1 W := by rw [hW]; exact (Below.refl _ _).alloc (Nat.le_refl _) _
    have HSW := Lib.hid (more_below HS1.out rfl hbW)
    obtain ⟨f0, f1, _, _, _⟩ := slot_two (w := w1) (wr := W) (u := .int .i64 0) (v := .int .i64 (-1)) (T := 50) (by rw [hW]; exact Below.refl _ _)
    have hne : w1.heap.size ≠ w.heap.size := by have := HS1.out.size; simp at this; omega
    have hbl : w1.heap.size < W.heap.size := by rw [hW]; simp
    rw [← hW]
    clear hW hbW HS1
    generalize w1.heap.size = fb at f0 f1 hne hbl ⊢
    have HPT := refSumOf_any (packL l) W.drew (by omega)
    generalize packL l = pk at HPT HMK hps
    generalize sumL pk = sm at HPT HMK
    obtain ⟨s0, s1, z0, z1, sb⟩ := slot_two HSW.out
    go_region_with (first
      | (go_at_call 134; (with_reducible refine HPT.mono ?_); rintro e w2 ⟨rfl, rfl⟩))
    all_goals go_wp2
    all_goals
      obtain ⟨q0, q1, q2⟩ := slot_set (w := w) (wr := W) (.int .i64 0) (.int .i64 (-1)) s0 s1 sb
      exact bodyPost_ret (v := .tuple #[.int .i64 sm, .agg #[.int .i64 0, .int .i64 (-1)]]) (by simp [results, Tryz.results137, go_sem, q0, q1]) rfl ⟨by rw [HMK.out, HZ.out]; rfl, Below.drew q2⟩
  · have HMK := Lib.hid (sum_no hz)
    rw [make_no hz]
    obtain ⟨c, i, hci⟩ := fault_nat l
    have hc : 0 < c := by rw [hci] at hz; simp at hz; omega
    have hc' : (0 : Int) < (c : Int) := by omega
    rw [hci]
    have HCI := Lib.hid hci
    clear hz hci
    go_wp2_with fail
    obtain ⟨W, hW⟩ : ∃ W, W = w1.alloc (.cells #[.int .i64 c, .int .i64 i] 50) := ⟨_, rfl⟩
    have hbW : Below w1.heap.size w1 W := by rw [hW]; exact (Below.refl _ _).alloc (Nat.le_refl _) _
    have HSW := Lib.hid (more_below HS1.out rfl hbW)
    obtain ⟨f0, f1, _, _, _⟩ := slot_two (w := w1) (wr := W) (u := .int .i64 c) (v := .int .i64 i) (T := 50) (by rw [hW]; exact Below.refl _ _)
    have hne : w1.heap.size ≠ w.heap.size := by have := HS1.out.size; simp at this; omega
    rw [← hW]
    clear hW hbW HS1
    generalize w1.heap.size = fb at f0 f1 hne ⊢
    obtain ⟨s0, s1, z0, z1, sb⟩ := slot_two HSW.out
    go_region
    all_goals go_wp2
    all_goals
      obtain ⟨q0, q1, q2⟩ := slot_set (w := w) (wr := W) (.int .i64 c) (.int .i64 i) s0 s1 sb
      exact bodyPost_ret (v := .tuple #[.int .i64 0, .agg #[.int .i64 c, .int .i64 i]]) (by simp [results, Tryz.results137, go_sem, q0, q1]) rfl ⟨by rw [HMK.out, HCI.out]; rfl, Below.drew q2⟩
end Go.Proofs.YtmcfkoenpikldaaGreatDoor
/-
  Cut of the document's answer hands back, at a blank, the pieces of the text in new memory: a contract, over this seat's translation.
-/
namespace Go.Proofs.YtmcfkoenpikldaaGreatDoor
open Go.RowKit Go.Shelf

theorem drop_cutBy {c : UInt8} {l : List UInt8} {f k : Nat} (hfk : f ≤ k) (hk : k < l.length) (h : l[k] = c) : l.drop f = (l.drop f).take (k - f) ++ c :: l.drop (k + 1) := by
  have e := List.take_append_drop (k - f) (l.drop f)
  rw [List.drop_drop, show f + (k - f) = k by omega, List.drop_eq_getElem_cons hk, h] at e
  exact e.symm

set_option maxRecDepth 100000 in
set_option maxHeartbeats 2000000 in
theorem refCutBlank_any (l : List UInt8) (w : World) (hl : l.length ≤ 90000) :
    Calls Tryz.prog 100 #[.string ⟨l.toArray⟩, .int .u8 32] w fun e w' => ∃ v, e = .returned v ∧ w'.ownsRow w.heap.size 9 1 v (piecesBy 32 l).length ((piecesBy 32 l).map sv) ∧ Below w.heap.size w w' := by
  obtain ⟨i0, hi, hz0, hz1, hz2⟩ := info_parts Tryz.info9
  go_enter Tryz.func100, Tryz.ntmps100
  go_wp2_with fail
  go_loopw [5, 6, 7] (fun out fr i wr => ∃ (ps : List (List UInt8)) (f k : Nat), fr = .int .i64 f ∧ i = .int .i64 k ∧ f ≤ k ∧ k ≤ l.length ∧ ps.length ≤ k ∧ piecesBy 32 l = ps ++ piecesBy 32 (l.drop f) ∧ 32 ∉ (l.drop f).take (k - f) ∧ wr.ownsRow w.heap.size 9 1 out ps.length (ps.map sv) ∧ Below w.heap.size w wr)
    (fun _ _ i _ => l.length - (intOf i).toNat)
  case atStart => exact ⟨[], 0, 0, rfl, rfl, Nat.le_refl _, Nat.zero_le _, by simp, by simp, by simp, World.ownsRow_nil _ _ _ _, Below.refl _ _⟩
  case round =>
    obtain ⟨ps, f, k, rfl, rfl, hfk, hk, hps, hpc, hno, hrow, hb⟩ := hrel
    have HPC : Hid (piecesBy 32 l = ps ++ piecesBy 32 (l.drop f)) := hpc
    have HNO : Hid (32 ∉ (l.drop f).take (k - f)) := hno
    have HB : Hid (Below w.heap.size w wr) := hb
    have hbs := hb.size
    clear hpc hno hb
    by_cases hlt : k < l.length
    · have hsz : k < ({ data := l.toArray } : ByteArray).size := by simpa [ByteArray.size] using hlt
      by_cases h32 : l[k] = 32
      · have hbyte : ((({ data := l.toArray } : ByteArray)[k]'hsz).toNat : Int) = 32 := by
          show ((l[k]).toNat : Int) = 32
          rw [h32]; rfl
        have HD : Hid (l.drop f = (l.drop f).take (k - f) ++ 32 :: l.drop (k + 1)) := drop_cutBy hfk hlt h32
        clear h32
        go_wp2_with (at_builtin; refine wpList_append_own _ rfl _ _ 35 rfl w.heap.size 9 i0 (.string ⟨#[]⟩) 1 16 Tryz.underlying35 hi hz0 hz1 hz2 rfl (by decide) _ _ _ rfl (hrow.alloc _) ⟨wr.heap.size, 0, none⟩ 1 1 [.string (({ data := l.toArray } : ByteArray).extract f k)] rfl rfl (cell_one_new _ _ _) (by simp [Value.oneCell']) (by unfold maxLen; omega) (by omega) (by simp; omega) ?_; intro v' w1 hown' hgrow _)
        have HB1 : Below w.heap.size w w1 := (HB.out.alloc hbs _).grown hgrow (by simp; omega) (fun j ej => (hrow.lt j ej).1)
        refine ⟨⟨ps ++ [(l.drop f).take (k - f)], k + 1, k + 1, by go_num, by go_num, Nat.le_refl _, by omega, by simp; omega, ?_, by simp, ?_, HB1⟩, by simp [intOf]; omega⟩
        · rw [HPC.out, piecesBy_cut (l := l.drop f) (a := (l.drop f).take (k - f)) (b := l.drop (k + 1)) (by have := cutBy_of (l.drop (k + 1)) HNO.out; rwa [← HD.out] at this)]
          simp
        · rw [extract_list] at hown'
          simpa using hown'
      · have hbyte : (((({ data := l.toArray } : ByteArray)[k]'hsz).toNat : Int) == 32) = false := by
          show (((l[k]).toNat : Int) == 32) = false
          rw [beq_eq_false_iff_ne]
          intro e
          apply h32
          apply UInt8.toNat_inj.1
          have : (32 : UInt8).toNat = 32 := rfl
          omega
        have HN2 : Hid (32 ∉ (l.drop f).take (k + 1 - f)) := by
          show 32 ∉ _
          rw [take_more hfk hlt]
          intro h
          rcases List.mem_append.1 h with h | h
          · exact HNO.out h
          · simp at h; exact h32 h.symm
        clear h32
        go_wp2
        go_roundw
        case rel => exact ⟨ps, f, k + 1, rfl, by go_num, by omega, by omega, by omega, HPC.out, HN2.out, hrow, HB.out⟩
        case measure => simp [intOf]; omega
    · have hkl : k = l.length := by omega
      have HPE : Hid (piecesBy 32 l = ps ++ [l.drop f]) := by
        show piecesBy 32 l = _
        rw [HPC.out, piecesBy_none (l := l.drop f) (by have := HNO.out; rwa [List.take_of_length_le (by rw [List.length_drop]; omega)] at this)]
      have hfl : f ≤ l.length := by omega
      clear hkl
      go_wp2_with (at_builtin; refine wpList_append_own _ rfl _ _ 35 rfl w.heap.size 9 i0 (.string ⟨#[]⟩) 1 16 Tryz.underlying35 hi hz0 hz1 hz2 rfl (by decide) _ _ _ rfl (hrow.alloc _) ⟨wr.heap.size, 0, none⟩ 1 1 [.string (({ data := l.toArray } : ByteArray).extract f l.length)] rfl rfl (cell_one_new _ _ _) (by simp [Value.oneCell']) (by unfold maxLen; omega) (by omega) (by simp; omega) ?_; intro v' w1 hown' hgrow _)
      go_ret
      have HB1 : Below w.heap.size w w1 := (HB.out.alloc hbs _).grown hgrow (by simp; omega) (fun j ej => (hrow.lt j ej).1)
      refine ⟨v', rfl, ?_, HB1⟩
      rw [HPE.out]
      rw [extract_list, List.take_of_length_le (by simp)] at hown'
      simpa using hown'
end Go.Proofs.YtmcfkoenpikldaaGreatDoor
/-
  The document's answer for numbers: NumberOf, ReadSum: over this seat's translation.
-/
namespace Go.Proofs.YtmcfkoenpikldaaGreatDoor
open Go.RowKit

theorem number_bad {s : List UInt8} {k : Nat} (h : s.length < 1 ∨ k < s.length ∨ (1 < s.length ∧ s.head? = some 48)) : numberL s k = -1 := by
  unfold numberL
  rw [if_pos h]
theorem number_good {s : List UInt8} {k : Nat} (h : ¬ (s.length < 1 ∨ k < s.length ∨ (1 < s.length ∧ s.head? = some 48))) (hd : s.all isDigit = true) : numberL s k = (valueFrom 0 s : Nat) := by
  unfold numberL
  rw [if_neg h, if_pos hd]
theorem number_none {s : List UInt8} {k : Nat} {b : UInt8} (hb : b ∈ s) (hd : isDigit b = false) : numberL s k = -1 := by
  unfold numberL
  split
  · rfl
  · rw [if_neg]
    intro h
    have := List.all_eq_true.1 h b hb
    rw [hd] at this
    cases this
theorem value_lt17 {s : List UInt8} (h : s.all isDigit = true) (hl : s.length ≤ 17) : valueFrom 0 s < 100000000000000000 := by
  have h1 := value_from s 0 h
  have h2 : 10 ^ s.length ≤ 10 ^ 17 := Nat.pow_le_pow_right (by decide) hl
  omega
theorem head_zero {l : List UInt8} (h : 0 < l.length) : (l[0].toNat = 48) ↔ l.head? = some 48 := by
  cases l with
  | nil => simp at h
  | cons b r =>
    simp
    constructor
    · intro e
      exact UInt8.toNat_inj.1 e
    · intro e
      rw [e]
      rfl

set_option maxRecDepth 100000 in
set_option maxHeartbeats 1000000 in
theorem numberOf_bad (l : List UInt8) (k : Nat) (w : World) (hl : l.length ≤ 281474976710656) (hbad : l.length < 1 ∨ k < l.length ∨ (1 < l.length ∧ l.head? = some 48)) : Calls Tryz.prog 156 #[.string ⟨l.toArray⟩, .int .i64 k] w fun e w' => e = .returned (.int .i64 (numberL l k)) ∧ w' = w := by
  have HN : Hid (numberL l k = -1) := number_bad hbad
  by_cases h1 : l.length < 1
  · have hl0 : l = [] := by cases l with | nil => rfl | cons b r => simp at h1
    subst hl0
    clear h1 hbad
    go_enter Tryz.func156, Tryz.ntmps156
    go_wp2
    go_ret
    exact ⟨by rw [HN.out]; rfl, rfl⟩
  · by_cases h2 : k < l.length
    · have h3 : decide ((l.length : Int) < 1) = false := by simp; omega
      clear h1 hbad
      go_enter Tryz.func156, Tryz.ntmps156
      go_wp2
      all_goals go_ret
      all_goals exact ⟨by rw [HN.out]; rfl, rfl⟩
    · obtain ⟨h3, h4⟩ : 1 < l.length ∧ l.head? = some 48 := by
        rcases hbad with h | h | h
        · exact absurd h h1
        · exact absurd h h2
        · exact h
      have h5 : decide ((l.length : Int) < 1) = false := by simp; omega
      have hsz : 0 < ({ data := l.toArray } : ByteArray).size := by simp [ByteArray.size]; omega
      have hz : ((({ data := l.toArray } : ByteArray)[0]'hsz).toNat : Int) = 48 := by
        have := (head_zero (by omega)).2 h4
        show ((l[0]'(by omega)).toNat : Int) = 48
        omega
      clear h1 h4 hbad
      go_enter Tryz.func156, Tryz.ntmps156
      go_wp2
      all_goals go_ret
      all_goals exact ⟨by rw [HN.out]; rfl, rfl⟩

set_option maxRecDepth 100000 in
set_option maxHeartbeats 1000000 in
theorem numberOf_good (l : List UInt8) (k : Nat) (w : World) (hk : k ≤ 18) (hgood : ¬ (l.length < 1 ∨ k < l.length ∨ (1 < l.length ∧ l.head? = some 48))) : Calls Tryz.prog 156 #[.string ⟨l.toArray⟩, .int .i64 k] w fun e w' => e = .returned (.int .i64 (numberL l k)) ∧ w' = w := by
  have HN := Lib.hid (number_good hgood)
  have h1 : 1 ≤ l.length := by omega
  have h2 : l.length ≤ k := by omega
  have h3 : decide ((l.length : Int) < 1) = false := by simp; omega
  have h4 : decide (k < l.length) = false := by simp; omega
  have hsz : 0 < ({ data := l.toArray } : ByteArray).size := by simp [ByteArray.size]; omega
  have hc : decide ((1 : Int) < l.length) = false ∨ (1 < l.length ∧ (((({ data := l.toArray } : ByteArray)[0]'hsz).toNat : Int) == 48) = false) := by
    by_cases h5 : 1 < l.length
    · refine Or.inr ⟨h5, ?_⟩
      have h6 : l.head? ≠ some 48 := fun e => hgood (Or.inr (Or.inr ⟨h5, e⟩))
      have h7 := (not_congr (head_zero (l := l) (by omega))).2 h6
      show (((l[0]'(by omega)).toNat : Int) == 48) = false
      simp
      omega
    · exact Or.inl (by simp; omega)
  clear hgood
  rcases hc with h5 | ⟨h5, h6⟩
  all_goals
    go_enter Tryz.func156, Tryz.ntmps156
    go_wp2_with fail
    go_loopw [5, 6] (fun nv iv wr => ∃ j : Nat, j ≤ l.length ∧ (l.take j).all isDigit = true ∧ nv = .int .i64 (valueFrom 0 (l.take j) : Nat) ∧ iv = .int .i64 (j : Int) ∧ wr = w) (fun _ iv _ => l.length - (intOf iv).toNat)
    case atStart => exact ⟨0, Nat.zero_le _, rfl, rfl, rfl, rfl⟩
    case round =>
      obtain ⟨j, hj, hd, rfl, rfl, hb⟩ := hrel
      subst hb
      by_cases h0 : j = l.length
      · subst h0
        rw [List.take_length] at hd ⊢
        have HM := Lib.hid (HN.out hd)
        clear HN hd
        go_wp2
        go_ret
        exact ⟨by rw [HM.out]; rfl, rfl⟩
      · have hlt : j < l.length := by omega
        have hv := value_lt17 hd (by rw [List.length_take]; omega)
        have htk : l.take (j + 1) = l.take j ++ [l[j]] := by rw [List.take_add_one, List.getElem?_eq_getElem hlt]; rfl
        have HV := Lib.hid (value_snoc (l.take j) l[j])
        have HX := Lib.hid (fun hx : isDigit l[j] = false => number_none (k := k) (List.getElem_mem hlt) hx)
        have HD := Lib.hid hd
        have HT := Lib.hid htk
        have hjs : j < ({ data := l.toArray } : ByteArray).size := by simp [ByteArray.size]; omega
        obtain ⟨b, hb⟩ : ∃ b, l[j] = b := ⟨_, rfl⟩
        have hbj : ({ data := l.toArray } : ByteArray)[j]'hjs = b := hb
        rw [hb] at HV HX HT
        clear h0 hd htk hb
        generalize valueFrom 0 (l.take j) = n at HV hv ⊢
        by_cases hlo : b.toNat < 48
        · have HM := Lib.hid (HX.out (by simp [isDigit]; omega))
          have hlo' : (b.toNat : Int) < 48 := by omega
          clear HX HN
          go_wp2
          go_ret
          exact ⟨by rw [HM.out]; rfl, rfl⟩
        · have hlo' : decide ((b.toNat : Int) < 48) = false := by simp; omega
          by_cases hhi : 57 < b.toNat
          · have HM := Lib.hid (HX.out (by simp [isDigit]; omega))
            have hhi' : (57 : Int) < (b.toNat : Int) := by omega
            clear HX HN
            go_wp2
            go_ret
            exact ⟨by rw [HM.out]; rfl, rfl⟩
          · have hhi' : decide ((57 : Int) < (b.toNat : Int)) = false := by simp; omega
            clear HX HN
            go_wp2_with fail
            refine ⟨⟨j + 1, by omega, ?_, ?_, rfl, trivial⟩, by simp [intOf]; omega⟩
            · rw [HT.out, List.all_append, HD.out]
              simp [isDigit]
              omega
            · rw [HT.out, HV.out]
              congr 1
              omega

theorem numberOf_any (l : List UInt8) (k : Nat) (w : World) (hk : k ≤ 18) (hl : l.length ≤ 281474976710656) : Calls Tryz.prog 156 #[.string ⟨l.toArray⟩, .int .i64 k] w fun e w' => e = .returned (.int .i64 (numberL l k)) ∧ w' = w := by
  by_cases h : l.length < 1 ∨ k < l.length ∨ (1 < l.length ∧ l.head? = some 48)
  · exact numberOf_bad l k w hl h
  · exact numberOf_good l k w hk h
end Go.Proofs.YtmcfkoenpikldaaGreatDoor
/-
  The document's answer for packs: ReadPack: over this seat's translation.
-/
namespace Go.Proofs.YtmcfkoenpikldaaGreatDoor
open Go.RowKit Go.Shelf

/-- At a place of the text from which on no file can be read. -/
theorem read_stuck {s : List UInt8} {fs : List F} {k : Nat} (hs : s.length ≤ 20000) (hra : readA s = (fs ++ (readA (s.drop k)).1, (readA (s.drop k)).2)) (hk : k < s.length) (hc : cutFileL (s.drop k) = none) : readP s = ([], 1, (fs.length : Int)) := by
  have hne : s.drop k ≠ [] := fun e => by have := congrArg List.length e; simp at this; omega
  have h1 := readA_bad hne hc
  have := readP_none (s := s) hs (by rw [hra, h1])
  rw [hra, h1] at this
  simpa using this
/-- The line from a place on, and what is behind it. -/
theorem line_cut {s : List UInt8} {k e : Nat} (hke : k ≤ e) (he : e < s.length) (hno : 10 ∉ (s.drop k).take (e - k)) (h10 : s[e] = 10) : cutBy 10 (s.drop k) = some ((s.drop k).take (e - k), s.drop (e + 1)) := by
  have := drop_cutBy hke he h10
  rw [this]
  have h2 := cutBy_of (s.drop (e + 1)) hno
  rw [← this] at h2 ⊢
  exact h2
theorem line_none {s : List UInt8} {k e : Nat} (he : e = s.length) (hno : 10 ∉ (s.drop k).take (e - k)) : cutBy 10 (s.drop k) = none := by
  refine cutBy_no.2 ?_
  rwa [List.take_of_length_le (by rw [List.length_drop]; omega)] at hno
theorem owns_three {w : World} {base : Nat} {v : Value} {x y z : List UInt8} (h : w.ownsRow base 9 1 v 3 ([x, y, z].map sv)) : ∃ g cap, v = .slice (some ⟨g, 0, none⟩) 3 cap ∧ base ≤ g ∧ 3 ≤ cap ∧ (∃ cur, w.heap[g]? = some (.cells cur 9 (0, 0))) ∧ w.cell? ⟨g, 0, none⟩ = some (sv x) ∧ w.cell? ⟨g, 1, none⟩ = some (sv y) ∧ w.cell? ⟨g, 2, none⟩ = some (sv z) := by
  rcases h.2 with ⟨_, h0⟩ | ⟨g, cap, cur, rfl, hb, hh, hc, _, _, htk⟩
  · cases h0
  · have hcell := (owns_cells (k := [x, y, z]) h rfl).1
    exact ⟨g, cap, rfl, hb, hc, ⟨cur, hh⟩, hcell 0 (by simp), hcell 1 (by simp), hcell 2 (by simp)⟩

/-- A cell of another row, behind an append. -/
theorem grown_far {w w5 W : World} {row : Option Nat} {g i : Nat} {v : Value} (hg : W.grownBy w5 row) (hc : W.cell? ⟨g, i, none⟩ = some v) (_ : g < w.heap.size) (hne : row ≠ some g) : w5.cell? ⟨g, i, none⟩ = some v :=
  (hg.cell_far ⟨g, i, none⟩ (block_lt_of_cell hc) (Ne.symm hne)).trans hc
/-- A row of files and one of texts lie apart. -/
theorem own_far {w : World} {base g : Nat} {v : Value} {n : Nat} {xs : List Value} {cur : Array Value} (h : w.ownsRow base 103 3 v n xs) (hg : w.heap[g]? = some (.cells cur 9 (0, 0))) : v.ownBlock ≠ some g := by
  rcases h.2 with ⟨rfl, _⟩ | ⟨g', cap, cur', rfl, _, hh, _⟩
  · simp [Value.ownBlock]
  · intro e
    obtain rfl : g' = g := by simpa [Value.ownBlock] using e
    rw [hg] at hh
    simp at hh

set_option maxRecDepth 100000 in
set_option maxHeartbeats 8000000 in
theorem refReadPack_any (s : List UInt8) (w : World) (hl : s.length ≤ 90000) :
    Calls Tryz.prog 170 #[.string ⟨s.toArray⟩] w fun e w' => (∃ v, e = .returned (.tuple #[v, .agg #[.int .i64 (readP s).2.1, .int .i64 (readP s).2.2]]) ∧ w'.ownsRow w.heap.size 103 3 v (readP s).1.length (lcells (readP s).1)) ∧ Below w.heap.size w w' := by
  by_cases hlong : 20000 < s.length
  · have HT := Lib.hid (readP_long hlong)
    have hlong' : (20000 : Int) < (s.length : Int) := by omega
    go_enter Tryz.func170, Tryz.ntmps170
    go_wp2_with fail
    refine (bare_any 2 _).mono ?_
    rintro e w1 ⟨rfl, hb1⟩
    obtain ⟨t0, t1, y0, y1, tb⟩ := slot_two (more_below (Below.refl _ _) rfl hb1)
    clear hb1
    go_wp2
    obtain ⟨q0, q1, q2⟩ := slot_set (w := w) (wr := w1) (.int .i64 2) (.int .i64 (-1)) t0 t1 tb
    exact bodyPost_ret (v := .tuple #[.slice none 0 0, .agg #[.int .i64 2, .int .i64 (-1)]]) (by simp [results, Tryz.results170, go_sem, q0, q1]) rfl ⟨⟨_, by rw [HT.out]; rfl, by rw [HT.out]; exact World.ownsRow_nil _ _ _ _⟩, q2⟩
  have hlong' : ¬ (20000 : Int) < (s.length : Int) := by omega
  obtain ⟨i0, hi, hz0, hz1, hz2⟩ := info_parts Tryz.infoFile
  go_enter Tryz.func170, Tryz.ntmps170
  go_wp2_with fail
  go_loopw [4, 5] (fun out at' wr => ∃ (fs : List F) (k : Nat), at' = .int .i64 k ∧ k ≤ s.length ∧ packL fs ++ s.drop k = s ∧ readA s = (fs ++ (readA (s.drop k)).1, (readA (s.drop k)).2) ∧ wr.ownsRow (w.heap.size + 1) 103 3 out fs.length (lcells fs) ∧ Below (w.heap.size + 1) (w.alloc (.cells #[.int .i64 0, .int .i64 0] 50)) wr) (fun _ at' _ => s.length - (intOf at').toNat)
  case atStart => exact ⟨[], 0, rfl, Nat.zero_le _, by simp [packL], by simp, World.ownsRow_nil _ _ _ _, Below.refl _ _⟩
  case round =>
    obtain ⟨fs, k, rfl, hk, hsr, hra, hrow, hb⟩ := hrel
    have HSR := Lib.hid hsr
    have HRA := Lib.hid hra
    have HB := Lib.hid hb
    have hlr : (packL fs).length + (s.length - k) = s.length := by
      have := congrArg List.length hsr
      rw [List.length_append, List.length_drop] at this
      omega
    have hpc := pack_count fs
    clear hsr hra hb
    by_cases hlt : k < s.length
    · have hlt' : (k : Int) < (s.length : Int) := by omega
      obtain ⟨oa, oc, rfl, hol, hoc⟩ := owns_files hrow
      go_wp2_with fail
      obtain ⟨wo, rfl⟩ : ∃ wo, wo = wr := ⟨_, rfl⟩
      go_loopw [6] (fun ev wq => ∃ e : Nat, ev = .int .i64 e ∧ k ≤ e ∧ e ≤ s.length ∧ 10 ∉ (s.drop k).take (e - k) ∧ wq = wo) (fun ev _ => s.length - (intOf ev).toNat)
      case atStart => exact ⟨k, rfl, Nat.le_refl _, hk, by simp, rfl⟩
      case round =>
        obtain ⟨e, rfl, hke, hes, hno, rfl⟩ := hrel
        have HNO := Lib.hid hno
        clear hno
        by_cases hel : e < s.length
        · have hel' : (e : Int) < (s.length : Int) := by omega
          have hsz : e < ({ data := s.toArray } : ByteArray).size := by simpa [ByteArray.size] using hel
          by_cases h10 : s[e] = 10
          · have hbyte : ((({ data := s.toArray } : ByteArray)[e]'hsz).toNat : Int) = 10 := by
              show ((s[e]).toNat : Int) = 10
              rw [h10]; rfl
            have HLC := Lib.hid (line_cut hke hel HNO.out h10)
            clear h10
            have hll : ((s.drop k).take (e - k)).length ≤ 90000 := by rw [List.length_take, List.length_drop]; omega
            have hsl : ({ data := s.toArray } : ByteArray).extract k e = ⟨((s.drop k).take (e - k)).toArray⟩ := extract_list _ _ _
            have hke' : (k : Int) ≤ (e : Int) := by omega
            have hes' : (e : Int) ≤ (s.length : Int) := by omega
            have hend : ((e : Int) == (s.length : Int)) = false := by rw [beq_eq_false_iff_ne]; omega
            generalize (s.drop k).take (e - k) = line at hll hsl HLC
            go_wp2_with fail
            refine (refCutBlank_any line _ hll).mono ?_
            rintro e1 w2 ⟨v, rfl, hvrow, hb2⟩
            have HS2 := Lib.hid (more_below HB.out rfl hb2)
            have hrow2 := owns_below hrow hb2
            obtain ⟨t0, t1, y0, y1, tb⟩ := slot_two HS2.out
            have hgo : wr.heap.size ≤ w2.heap.size := hb2.size
            have hwo : w.heap.size + 1 ≤ wr.heap.size := by have := HB.out.size; simpa using this
            clear hb2 hrow
            by_cases h3 : (piecesBy 32 line).length = 3
            · obtain ⟨a, m, d, hp⟩ : ∃ a m d, piecesBy 32 line = [a, m, d] := by
                rcases hq : piecesBy 32 line with _ | ⟨a, _ | ⟨m, _ | ⟨d, _ | ⟨x, r⟩⟩⟩⟩ <;> rw [hq] at h3 <;> simp at h3
                exact ⟨a, m, d, rfl⟩
              have HO := Lib.hid (headOf_three hp)
              have hple := piecesBy_le 32 line
              rw [hp] at hvrow hple
              have hdl := hple d (by simp)
              obtain ⟨g, cap, rfl, hg0, hcap, ⟨cur, hgh⟩, c0, c1, c2⟩ := owns_three hvrow
              have hcap' : (3 : Int) ≤ (cap : Int) := by omega
              clear hvrow h3 hp hple
              go_wp2_with fail
              refine (numberOf_any d 6 _ (by decide) (by omega)).mono ?_
              rintro e2 w3 ⟨rfl, rfl⟩
              by_cases hn : numberL d 6 < 0
              · have HT := Lib.hid (read_stuck (by omega) HRA.out hlt (cutFile_noHead HLC.out (HO.out.trans (if_neg (fun h => by omega)))))
                generalize numberL d 6 = nn at hn
                go_wp2
                obtain ⟨q0, q1, q2⟩ := slot_set (w := w) (.int .i64 1) (.int .i64 fs.length) t0 t1 tb
                exact bodyPost_ret (v := .tuple #[.slice none 0 0, .agg #[.int .i64 1, .int .i64 fs.length]]) (by simp [results, Tryz.results170, go_sem, q0, q1]) rfl ⟨⟨_, by rw [HT.out]; rfl, by rw [HT.out]; exact World.ownsRow_nil _ _ _ _⟩, q2⟩
              · obtain ⟨n, hn'⟩ := Int.eq_ofNat_of_zero_le (Int.not_lt.1 hn)
                have hneg : decide ((n : Int) < 0) = false := by simp
                rw [hn']
                by_cases hx : m = [120]
                · subst hx
                  have HH : Hid (headOf line = some (a, true, n)) := HO.out.trans (by rw [if_pos ⟨by simp, by omega⟩, hn']; simp)
                  clear hn hn' HO
                  have HI := Lib.hid (cutFile_head HLC.out HH.out)
                  have hnb := headOf_bound HH.out
                  have hrn : (s.drop (e + 1))[n]? = s[e + 1 + n]? := List.getElem?_drop
                  by_cases hfar : s.length ≤ e + 1 + n
                  · have HT := Lib.hid (read_stuck (by omega) HRA.out hlt (HI.out.trans (if_neg (by rw [hrn, List.getElem?_eq_none hfar]; simp))))
                    have hfar' : (s.length : Int) ≤ (e : Int) + 1 + (n : Int) := by omega
                    go_wp2
                    obtain ⟨q0, q1, q2⟩ := slot_set (w := w) (.int .i64 1) (.int .i64 fs.length) t0 t1 tb
                    exact bodyPost_ret (v := .tuple #[.slice none 0 0, .agg #[.int .i64 1, .int .i64 fs.length]]) (by simp [results, Tryz.results170, go_sem, q0, q1]) rfl ⟨⟨_, by rw [HT.out]; rfl, by rw [HT.out]; exact World.ownsRow_nil _ _ _ _⟩, q2⟩
                  · have hfar' : decide ((s.length : Int) ≤ (e : Int) + 1 + (n : Int)) = false := by simp; omega
                    have hlt2 : e + 1 + n < s.length := by omega
                    have hsz2 : e + 1 + n < ({ data := s.toArray } : ByteArray).size := by simpa [ByteArray.size] using hlt2
                    by_cases hb10 : s[e + 1 + n] = 10
                    · have hbyte2 : ((({ data := s.toArray } : ByteArray)[e + 1 + n]'hsz2).toNat : Int) = 10 := by
                        show ((s[e + 1 + n]).toNat : Int) = 10
                        rw [hb10]; rfl
                      have hi2 : (e : Int) + 1 + (n : Int) < (s.length : Int) := by omega
                      have hc : cutFileL (s.drop k) = some (⟨a, true, (s.drop (e + 1)).take n⟩, s.drop (e + n + 2)) := by
                        rw [HI.out, if_pos (by rw [hrn, List.getElem?_eq_getElem hlt2, hb10]), List.drop_drop]
                        congr 3
                        omega
                      have hne0 : s.drop k ≠ [] := fun h => by have := congrArg List.length h; simp at this; omega
                      have HSR2 : Hid (packL (fs ++ [⟨a, true, (s.drop (e + 1)).take n⟩]) ++ s.drop (e + n + 2) = s) := by
                        show packL (fs ++ [_]) ++ _ = s
                        rw [packL_snoc, List.append_assoc, ← cutFile_some hc]
                        exact HSR.out
                      have HRA2 : Hid (readA s = ((fs ++ [⟨a, true, (s.drop (e + 1)).take n⟩]) ++ (readA (s.drop (e + n + 2))).1, (readA (s.drop (e + n + 2))).2)) := by
                        show readA s = _
                        rw [HRA.out, readA_good hne0 hc]
                        simp
                      have etx : ({ data := s.toArray } : ByteArray).extract (e + 1) (e + 1 + n) = ⟨((s.drop (e + 1)).take n).toArray⟩ := by
                        rw [extract_list]
                        congr 3
                        omega
                      have hneg2 := own_far hrow2 hgh
                      have hwr1 : IntKind.i64.wrap ((e : Int) + 1) = (e : Int) + 1 := by rw [IntKind.wrap_i64]; omega
                      have hwr2 : IntKind.i64.wrap ((e : Int) + 1 + (n : Int)) = (e : Int) + 1 + (n : Int) := by rw [IntKind.wrap_i64]; omega
                      have h00 : (0 : Int) ≤ (e : Int) + 1 := by omega
                      have ht1 : ((e : Int) + 1).toNat = e + 1 := by omega
                      have ht2 : ((e : Int) + 1 + (n : Int)).toNat = e + 1 + n := by omega
                      have hgl : g < w3.heap.size := block_lt_of_cell c0
                      have K0 : Hid (∀ o, (w3.alloc o).cell? ⟨g, 0, none⟩ = some (sv a)) := fun o => (World.cell?_alloc_lt _ _ _ hgl).trans c0
                      have K1 : Hid (∀ o, (w3.alloc o).cell? ⟨g, 1, none⟩ = some (sv [120])) := fun o => (World.cell?_alloc_lt _ _ _ hgl).trans c1
                      have hlo : (e : Int) + 1 ≤ (e : Int) + 1 + (n : Int) := by omega
                      have hup : (e : Int) + 1 + (n : Int) ≤ (s.length : Int) := by omega
                      generalize (s.drop (e + 1)).take n = tx at HSR2 HRA2 etx
                      clear hb10 hc hne0 HI HH hrn
                      go_wp2_with fail
                      go_region_held3 (fun w' => w'.cell? ⟨g, 0, none⟩ = some (sv a) ∧ w'.cell? ⟨g, 1, none⟩ = some (sv [120])) (go_keep)
                        ((refine step_append_lies _ (by rfl) _ _ _ (by rfl) (w.heap.size + 1) 103 i0 (.agg #[.string ⟨#[]⟩, .bool false, .string ⟨#[]⟩]) 3 40 Tryz.underlying43 hi hz0 hz1 hz2 rfl (by decide) _ _ _ (by rfl) (hrow2.alloc _) ⟨w3.heap.size, 0, none⟩ 1 1 (fcells ⟨a, true, tx⟩) (by rfl) rfl (cells_new _ ⟨a, true, tx⟩ _) (by simp [fcells, Value.oneCell']) (by decide) (by unfold maxLen; omega) (by omega) (by simp; omega) (w3.heap.size + 1) (by simp) ?_; intro g' cap' w5 hown5 hgrow5 hat5 hlt5; have d0 : w5.cell? ⟨g, 0, none⟩ = some (sv a) := grown_far (w := w3) hgrow5 (K0.out _) hgl hneg2; have d1 : w5.cell? ⟨g, 1, none⟩ = some (sv [120]) := grown_far (w := w3) hgrow5 (K1.out _) hgl hneg2; have HOWN := Lib.hid hown5; have HGR := Lib.hid hgrow5; clear hown5 hgrow5 hat5 hlt5))
                      have HB5 : Below (w.heap.size + 1) (w.alloc (.cells #[.int .i64 0, .int .i64 0] 50)) w5 := by
                        first
                          | exact (HS2.out.alloc (by omega) _).grown HGR.out (by simp; omega) (fun j ej => (hrow2.lt j ej).1)
                          | exact (HS2.out.alloc (by omega) _).drew.grown HGR.out (by simp; omega) (fun j ej => (hrow2.lt j ej).1)
                          | exact (HS2.out.drew.alloc (by show _ ≤ w3.heap.size; omega) _).grown HGR.out (by simp; omega) (fun j ej => (hrow2.lt j ej).1)
                      have HOWN2 : w5.ownsRow (w.heap.size + 1) 103 3 (.slice (some ⟨g', 0, none⟩) (fs.length + 1) cap') (fs ++ [(⟨a, true, tx⟩ : F)]).length (lcells (fs ++ [(⟨a, true, tx⟩ : F)])) := by
                        rw [lcells_app, List.length_append]
                        simpa [lcells] using HOWN.out
                      have HO2 := Lib.hid HOWN2
                      clear HOWN HOWN2 HGR K0 K1 d0 d1 hrow2 c0 c1 c2
                      go_wp2
                      go_roundw
                      case rel => exact ⟨fs ++ [⟨a, true, tx⟩], e + n + 2, by go_num, by omega, HSR2.out, HRA2.out, HO2.out, HB5⟩
                      case measure => simp [intOf]; omega
                    · have HT := Lib.hid (read_stuck (by omega) HRA.out hlt (HI.out.trans (if_neg (by rw [hrn, List.getElem?_eq_getElem hlt2]; simpa using hb10))))
                      have hbyte2 : ¬ (((({ data := s.toArray } : ByteArray)[e + 1 + n]'hsz2).toNat : Int) = 10) := by
                        show ¬ ((s[e + 1 + n]).toNat : Int) = 10
                        intro e'
                        apply hb10
                        apply UInt8.toNat_inj.1
                        have : (10 : UInt8).toNat = 10 := rfl
                        omega
                      have hi2 : (e : Int) + 1 + (n : Int) < (s.length : Int) := by omega
                      clear hb10
                      go_wp2
                      obtain ⟨q0, q1, q2⟩ := slot_set (w := w) (.int .i64 1) (.int .i64 fs.length) t0 t1 tb
                      exact bodyPost_ret (v := .tuple #[.slice none 0 0, .agg #[.int .i64 1, .int .i64 fs.length]]) (by simp [results, Tryz.results170, go_sem, q0, q1]) rfl ⟨⟨_, by rw [HT.out]; rfl, by rw [HT.out]; exact World.ownsRow_nil _ _ _ _⟩, q2⟩
                · by_cases hf : m = [102]
                  · subst hf
                    have HH : Hid (headOf line = some (a, false, n)) := HO.out.trans (by rw [if_pos ⟨by simp, by omega⟩, hn']; simp)
                    clear hn hn' HO hx
                    have HI := Lib.hid (cutFile_head HLC.out HH.out)
                    have hnb := headOf_bound HH.out
                    have hrn : (s.drop (e + 1))[n]? = s[e + 1 + n]? := List.getElem?_drop
                    by_cases hfar : s.length ≤ e + 1 + n
                    · have HT := Lib.hid (read_stuck (by omega) HRA.out hlt (HI.out.trans (if_neg (by rw [hrn, List.getElem?_eq_none hfar]; simp))))
                      have hfar' : (s.length : Int) ≤ (e : Int) + 1 + (n : Int) := by omega
                      go_wp2
                      obtain ⟨q0, q1, q2⟩ := slot_set (w := w) (.int .i64 1) (.int .i64 fs.length) t0 t1 tb
                      exact bodyPost_ret (v := .tuple #[.slice none 0 0, .agg #[.int .i64 1, .int .i64 fs.length]]) (by simp [results, Tryz.results170, go_sem, q0, q1]) rfl ⟨⟨_, by rw [HT.out]; rfl, by rw [HT.out]; exact World.ownsRow_nil _ _ _ _⟩, q2⟩
                    · have hfar' : decide ((s.length : Int) ≤ (e : Int) + 1 + (n : Int)) = false := by simp; omega
                      have hlt2 : e + 1 + n < s.length := by omega
                      have hsz2 : e + 1 + n < ({ data := s.toArray } : ByteArray).size := by simpa [ByteArray.size] using hlt2
                      by_cases hb10 : s[e + 1 + n] = 10
                      · have hbyte2 : ((({ data := s.toArray } : ByteArray)[e + 1 + n]'hsz2).toNat : Int) = 10 := by
                          show ((s[e + 1 + n]).toNat : Int) = 10
                          rw [hb10]; rfl
                        have hi2 : (e : Int) + 1 + (n : Int) < (s.length : Int) := by omega
                        have hc : cutFileL (s.drop k) = some (⟨a, false, (s.drop (e + 1)).take n⟩, s.drop (e + n + 2)) := by
                          rw [HI.out, if_pos (by rw [hrn, List.getElem?_eq_getElem hlt2, hb10]), List.drop_drop]
                          congr 3
                          omega
                        have hne0 : s.drop k ≠ [] := fun h => by have := congrArg List.length h; simp at this; omega
                        have HSR2 : Hid (packL (fs ++ [⟨a, false, (s.drop (e + 1)).take n⟩]) ++ s.drop (e + n + 2) = s) := by
                          show packL (fs ++ [_]) ++ _ = s
                          rw [packL_snoc, List.append_assoc, ← cutFile_some hc]
                          exact HSR.out
                        have HRA2 : Hid (readA s = ((fs ++ [⟨a, false, (s.drop (e + 1)).take n⟩]) ++ (readA (s.drop (e + n + 2))).1, (readA (s.drop (e + n + 2))).2)) := by
                          show readA s = _
                          rw [HRA.out, readA_good hne0 hc]
                          simp
                        have etx : ({ data := s.toArray } : ByteArray).extract (e + 1) (e + 1 + n) = ⟨((s.drop (e + 1)).take n).toArray⟩ := by
                          rw [extract_list]
                          congr 3
                          omega
                        have hneg2 := own_far hrow2 hgh
                        have hwr1 : IntKind.i64.wrap ((e : Int) + 1) = (e : Int) + 1 := by rw [IntKind.wrap_i64]; omega
                        have hwr2 : IntKind.i64.wrap ((e : Int) + 1 + (n : Int)) = (e : Int) + 1 + (n : Int) := by rw [IntKind.wrap_i64]; omega
                        have h00 : (0 : Int) ≤ (e : Int) + 1 := by omega
                        have ht1 : ((e : Int) + 1).toNat = e + 1 := by omega
                        have ht2 : ((e : Int) + 1 + (n : Int)).toNat = e + 1 + n := by omega
                        have hgl : g < w3.heap.size := block_lt_of_cell c0
                        have K0 : Hid (∀ o, (w3.alloc o).cell? ⟨g, 0, none⟩ = some (sv a)) := fun o => (World.cell?_alloc_lt _ _ _ hgl).trans c0
                        have K1 : Hid (∀ o, (w3.alloc o).cell? ⟨g, 1, none⟩ = some (sv [102])) := fun o => (World.cell?_alloc_lt _ _ _ hgl).trans c1
                        have hlo : (e : Int) + 1 ≤ (e : Int) + 1 + (n : Int) := by omega
                        have hup : (e : Int) + 1 + (n : Int) ≤ (s.length : Int) := by omega
                        generalize (s.drop (e + 1)).take n = tx at HSR2 HRA2 etx
                        clear hb10 hc hne0 HI HH hrn
                        go_wp2_with fail
                        go_region_held3 (fun w' => w'.cell? ⟨g, 0, none⟩ = some (sv a) ∧ w'.cell? ⟨g, 1, none⟩ = some (sv [102])) (go_keep)
                          ((refine step_append_lies _ (by rfl) _ _ _ (by rfl) (w.heap.size + 1) 103 i0 (.agg #[.string ⟨#[]⟩, .bool false, .string ⟨#[]⟩]) 3 40 Tryz.underlying43 hi hz0 hz1 hz2 rfl (by decide) _ _ _ (by rfl) (hrow2.alloc _) ⟨w3.heap.size, 0, none⟩ 1 1 (fcells ⟨a, false, tx⟩) (by rfl) rfl (cells_new _ ⟨a, false, tx⟩ _) (by simp [fcells, Value.oneCell']) (by decide) (by unfold maxLen; omega) (by omega) (by simp; omega) (w3.heap.size + 1) (by simp) ?_; intro g' cap' w5 hown5 hgrow5 hat5 hlt5; have d0 : w5.cell? ⟨g, 0, none⟩ = some (sv a) := grown_far (w := w3) hgrow5 (K0.out _) hgl hneg2; have d1 : w5.cell? ⟨g, 1, none⟩ = some (sv [102]) := grown_far (w := w3) hgrow5 (K1.out _) hgl hneg2; have HOWN := Lib.hid hown5; have HGR := Lib.hid hgrow5; clear hown5 hgrow5 hat5 hlt5))
                        have HB5 : Below (w.heap.size + 1) (w.alloc (.cells #[.int .i64 0, .int .i64 0] 50)) w5 := by
                          first
                            | exact (HS2.out.alloc (by omega) _).grown HGR.out (by simp; omega) (fun j ej => (hrow2.lt j ej).1)
                            | exact (HS2.out.alloc (by omega) _).drew.grown HGR.out (by simp; omega) (fun j ej => (hrow2.lt j ej).1)
                            | exact (HS2.out.drew.alloc (by show _ ≤ w3.heap.size; omega) _).grown HGR.out (by simp; omega) (fun j ej => (hrow2.lt j ej).1)
                        have HOWN2 : w5.ownsRow (w.heap.size + 1) 103 3 (.slice (some ⟨g', 0, none⟩) (fs.length + 1) cap') (fs ++ [(⟨a, false, tx⟩ : F)]).length (lcells (fs ++ [(⟨a, false, tx⟩ : F)])) := by
                          rw [lcells_app, List.length_append]
                          simpa [lcells] using HOWN.out
                        have HO2 := Lib.hid HOWN2
                        clear HOWN HOWN2 HGR K0 K1 d0 d1 hrow2 c0 c1 c2
                        go_wp2
                        go_roundw
                        case rel => exact ⟨fs ++ [⟨a, false, tx⟩], e + n + 2, by go_num, by omega, HSR2.out, HRA2.out, HO2.out, HB5⟩
                        case measure => simp [intOf]; omega
                      · have HT := Lib.hid (read_stuck (by omega) HRA.out hlt (HI.out.trans (if_neg (by rw [hrn, List.getElem?_eq_getElem hlt2]; simpa using hb10))))
                        have hbyte2 : ¬ (((({ data := s.toArray } : ByteArray)[e + 1 + n]'hsz2).toNat : Int) = 10) := by
                          show ¬ ((s[e + 1 + n]).toNat : Int) = 10
                          intro e'
                          apply hb10
                          apply UInt8.toNat_inj.1
                          have : (10 : UInt8).toNat = 10 := rfl
                          omega
                        have hi2 : (e : Int) + 1 + (n : Int) < (s.length : Int) := by omega
                        clear hb10
                        go_wp2
                        obtain ⟨q0, q1, q2⟩ := slot_set (w := w) (.int .i64 1) (.int .i64 fs.length) t0 t1 tb
                        exact bodyPost_ret (v := .tuple #[.slice none 0 0, .agg #[.int .i64 1, .int .i64 fs.length]]) (by simp [results, Tryz.results170, go_sem, q0, q1]) rfl ⟨⟨_, by rw [HT.out]; rfl, by rw [HT.out]; exact World.ownsRow_nil _ _ _ _⟩, q2⟩
                  · have HT := Lib.hid (read_stuck (by omega) HRA.out hlt (cutFile_noHead HLC.out (HO.out.trans (if_neg (fun h => h.1.elim hx hf)))))
                    have hx' : (m == [120]) = false := by simpa using hx
                    have hf' : (m == [102]) = false := by simpa using hf
                    clear hn hn' HO hx hf
                    go_wp2
                    obtain ⟨q0, q1, q2⟩ := slot_set (w := w) (.int .i64 1) (.int .i64 fs.length) t0 t1 tb
                    exact bodyPost_ret (v := .tuple #[.slice none 0 0, .agg #[.int .i64 1, .int .i64 fs.length]]) (by simp [results, Tryz.results170, go_sem, q0, q1]) rfl ⟨⟨_, by rw [HT.out]; rfl, by rw [HT.out]; exact World.ownsRow_nil _ _ _ _⟩, q2⟩
            · have HT := Lib.hid (read_stuck (by omega) HRA.out hlt (cutFile_noHead HLC.out (headOf_few h3)))
              obtain ⟨va, vc, rfl⟩ := ownsRow_slice hvrow
              have h3' : ¬ (((piecesBy 32 line).length : Int) = 3) := by omega
              generalize (piecesBy 32 line).length = pn at h3'
              clear hvrow h3
              go_wp2
              obtain ⟨q0, q1, q2⟩ := slot_set (w := w) (.int .i64 1) (.int .i64 fs.length) t0 t1 tb
              exact bodyPost_ret (v := .tuple #[.slice none 0 0, .agg #[.int .i64 1, .int .i64 fs.length]]) (by simp [results, Tryz.results170, go_sem, q0, q1]) rfl ⟨⟨_, by rw [HT.out]; rfl, by rw [HT.out]; exact World.ownsRow_nil _ _ _ _⟩, q2⟩
          · have hbyte : ¬ (((({ data := s.toArray } : ByteArray)[e]'hsz).toNat : Int) = 10) := by
              show ¬ ((s[e]).toNat : Int) = 10
              intro e'
              apply h10
              apply UInt8.toNat_inj.1
              have : (10 : UInt8).toNat = 10 := rfl
              omega
            have HN2 : Hid (10 ∉ (s.drop k).take (e + 1 - k)) := by
              show 10 ∉ _
              rw [take_more hke hel]
              intro h
              rcases List.mem_append.1 h with h | h
              · exact HNO.out h
              · simp at h; exact h10 h.symm
            clear h10
            go_wp2
            go_roundw
            case rel => exact ⟨e + 1, by go_num, by omega, by omega, HN2.out, trivial⟩
            case measure => simp [intOf]; omega
        · obtain rfl : e = s.length := by omega
          have HT := Lib.hid (read_stuck (by omega) HRA.out hlt (cutFile_noLine (line_none rfl HNO.out)))
          have hkl : (k : Int) ≤ (s.length : Int) := by omega
          have hsl : ({ data := s.toArray } : ByteArray).extract k s.length = ⟨(s.drop k).toArray⟩ := by
            rw [extract_list, List.take_of_length_le (by rw [List.length_drop]; omega)]
          have hdl : (s.drop k).length ≤ 90000 := by rw [List.length_drop]; omega
          go_wp2_with fail
          refine (refCutBlank_any (s.drop k) _ hdl).mono ?_
          rintro e w2 ⟨v, rfl, _, hb2⟩
          obtain ⟨t0, t1, y0, y1, tb⟩ := slot_two (more_below HB.out rfl hb2)
          clear hb2
          go_wp2
          obtain ⟨q0, q1, q2⟩ := slot_set (w := w) (.int .i64 1) (.int .i64 fs.length) t0 t1 tb
          exact bodyPost_ret (v := .tuple #[.slice none 0 0, .agg #[.int .i64 1, .int .i64 fs.length]]) (by simp [results, Tryz.results170, go_sem, q0, q1]) rfl ⟨⟨_, by rw [HT.out]; rfl, by rw [HT.out]; exact World.ownsRow_nil _ _ _ _⟩, q2⟩
    · obtain rfl : k = s.length := by omega
      have hfs : readA s = (fs, true) := by
        have := HRA.out
        rw [List.drop_length, readA_nil] at this
        simpa using this
      have HFS := Lib.hid hfs
      obtain ⟨oa, oc, rfl, hol, hoc⟩ := owns_files hrow
      have HOL := Lib.hid hol
      have HSM : Hid (Small fs) := small_pack (by omega)
      clear hfs hol
      go_wp2_with fail
      refine (refTreeFault_any fs oa oc _ HOL.out HSM.out).mono ?_
      rintro e w1 ⟨rfl, hb1⟩
      have HS1 := Lib.hid (more_below HB.out rfl hb1)
      have hrow1 := owns_below hrow hb1
      clear hb1
      obtain ⟨c, i, hci⟩ := fault_nat fs
      by_cases hz : (treeFault fs).1 = 0
      · have hT := readP_fine (s := s) (by omega) (by rw [HFS.out]) (by rw [HFS.out]; exact hz)
        rw [HFS.out] at hT
        have HT := Lib.hid hT
        rw [treeFault_zero hz]
        clear hz hT hci
        go_wp2_with fail
        obtain ⟨W, hW⟩ : ∃ W, W = w1.alloc (.cells #[.int .i64 0, .int .i64 (-1)] 50) := ⟨_, rfl⟩
        have hbW : Below w1.heap.size w1 W := by rw [hW]; exact (Below.refl _ _).alloc (Nat.le_refl _) _
        have HSW := Lib.hid (more_below HS1.out rfl hbW)
        have hrowW := owns_below hrow1 hbW
        obtain ⟨f0, f1, _, _, _⟩ := slot_two (w := w1) (wr := W) (u := .int .i64 0) (v := .int .i64 (-1)) (T := 50) (by rw [hW]; exact Below.refl _ _)
        have hne : w1.heap.size ≠ w.heap.size := by have := HS1.out.size; simp at this; omega
        rw [← hW]
        clear hW hbW HS1 hrow hrow1
        generalize w1.heap.size = fb at f0 f1 hne ⊢
        obtain ⟨t0, t1, y0, y1, tb⟩ := slot_two HSW.out
        go_region
        all_goals go_wp2
        all_goals
          obtain ⟨q0, q1, q2⟩ := slot_set (w := w) (wr := W) (.int .i64 0) (.int .i64 (-1)) t0 t1 tb
          exact bodyPost_ret (v := .tuple #[.slice oa fs.length oc, .agg #[.int .i64 0, .int .i64 (-1)]]) (by simp [results, Tryz.results170, go_sem, q0, q1]) rfl ⟨⟨_, by rw [HT.out] <;> rfl, by rw [HT.out]; exact owns_slot _ _ hrowW⟩, Below.drew q2⟩
      · have hT := readP_fault (s := s) (by omega) (by rw [HFS.out]) (by rw [HFS.out]; exact hz)
        rw [HFS.out, hci] at hT
        have HT := Lib.hid hT
        have hc : 0 < c := by rw [hci] at hz; simp at hz; omega
        have hc' : (0 : Int) < (c : Int) := by omega
        rw [hci]
        clear hz hT hci
        go_wp2_with fail
        obtain ⟨W, hW⟩ : ∃ W, W = w1.alloc (.cells #[.int .i64 c, .int .i64 i] 50) := ⟨_, rfl⟩
        have hbW : Below w1.heap.size w1 W := by rw [hW]; exact (Below.refl _ _).alloc (Nat.le_refl _) _
        have HSW := Lib.hid (more_below HS1.out rfl hbW)
        have hrowW := owns_below hrow1 hbW
        obtain ⟨f0, f1, _, _, _⟩ := slot_two (w := w1) (wr := W) (u := .int .i64 c) (v := .int .i64 i) (T := 50) (by rw [hW]; exact Below.refl _ _)
        have hne : w1.heap.size ≠ w.heap.size := by have := HS1.out.size; simp at this; omega
        rw [← hW]
        clear hW hbW HS1 hrow hrow1
        generalize w1.heap.size = fb at f0 f1 hne ⊢
        obtain ⟨t0, t1, y0, y1, tb⟩ := slot_two HSW.out
        go_region
        all_goals go_wp2
        all_goals
          obtain ⟨q0, q1, q2⟩ := slot_set (w := w) (wr := W) (.int .i64 c) (.int .i64 i) t0 t1 tb
          exact bodyPost_ret (v := .tuple #[.slice none 0 0, .agg #[.int .i64 c, .int .i64 i]]) (by simp [results, Tryz.results170, go_sem, q0, q1]) rfl ⟨⟨_, by rw [HT.out] <;> rfl, by rw [HT.out]; exact World.ownsRow_nil _ _ _ _⟩, Below.drew q2⟩
end Go.Proofs.YtmcfkoenpikldaaGreatDoor
/-
  The document's answer for trees: DropFile: over this seat's translation.
-/
namespace Go.Proofs.YtmcfkoenpikldaaGreatDoor
open Go.RowKit Go.Shelf

theorem refTreeFault_is (l : List F) (a : Option Addr) (ca : Nat) (c n : Int) (w : World) (hl : LiesAt w a l) (hs : Small l) (h0 : ((treeFault l).1 : Int) = c) (h1 : (treeFault l).2 = n) :
    Calls Tryz.prog 166 #[.slice a l.length ca] w fun e w' => e = .returned (.agg #[.int .i64 c, .int .i64 n]) ∧ Below w.heap.size w w' := by
  have := refTreeFault_any l a ca w hl hs
  rwa [h0, h1] at this

theorem without_take {l : List F} {k : Nat} (q : List UInt8) (hk : k < l.length) : without (l.take (k + 1)) q = without (l.take k) q ++ (if l[k].p = q then [] else [l[k]]) := by
  rw [List.take_succ_eq_append_getElem hk]
  unfold without
  rw [List.filter_append]
  by_cases h : l[k].p = q
  · rw [if_pos h, List.filter_cons, if_neg (by simp [h])]; rfl
  · rw [if_neg h, List.filter_cons, if_pos (by simp [h])]; rfl

end Go.Proofs.YtmcfkoenpikldaaGreatDoor
/-
  The document's answer for trees: SortTree: over this seat's translation.
-/
namespace Go.Proofs.YtmcfkoenpikldaaGreatDoor
open Go.RowKit Go.Shelf

/-- Behind a place of a row of the call's own: where it begins. -/
theorem tail_src {w : World} {g cap j : Nat} {s : List F} (hl : LiesAt w (some ⟨g, 0, none⟩) s) (hj : j ≤ s.length) (hcap : s.length ≤ cap) :
    ∃ A : Addr, (if cap = j then some (⟨g, 0, none⟩ : Addr) else some ⟨g, j * 3, none⟩) = some A ∧ Hid (∀ t u, (lcells (s.drop j))[t]? = some u → w.cell? (A.add t) = some u) := by
  have hld : (lcells (s.drop j)).length = (s.length - j) * 3 := by rw [lcells_length, List.length_drop]
  have hlt : (lcells (s.take j)).length = j * 3 := by rw [lcells_length, List.length_take]; congr 1; omega
  by_cases hcj : cap = j
  · refine ⟨⟨g, 0, none⟩, by simp [hcj], fun t u hu => ?_⟩
    have ht := (List.getElem?_eq_some_iff.1 hu).1
    omega
  · refine ⟨⟨g, j * 3, none⟩, by simp [hcj], fun t u hu => ?_⟩
    have hn := hl.news (j * 3 + t) u (by
      have : lcells s = lcells (s.take j) ++ lcells (s.drop j) := by rw [← lcells_app, List.take_append_drop]
      rw [this, List.getElem?_append_right (by omega), hlt, Nat.add_sub_cancel_left]
      exact hu)
    rw [Addr.add_lit, Nat.zero_add] at hn
    rw [Addr.add_lit]
    exact hn

theorem head_src {w : World} {g j : Nat} {s : List F} (hl : LiesAt w (some ⟨g, 0, none⟩) s) : ∀ t u, (lcells (s.take j))[t]? = some u → w.cell? ((⟨g, 0, none⟩ : Addr).add t) = some u := fun t u hu => by
  refine hl.news t u ?_
  have ht := (List.getElem?_eq_some_iff.1 hu).1
  have : lcells s = lcells (s.take j) ++ lcells (s.drop j) := by rw [← lcells_app, List.take_append_drop]
  rw [this, List.getElem?_append_left ht]
  exact hu

set_option maxRecDepth 100000 in
set_option maxHeartbeats 8000000 in
theorem refSort_any (l : List F) (a : Option Addr) (ca : Nat) (w : World) (hl : LiesAt w a l) (hs : Small l) :
    Calls Tryz.prog 169 #[.slice a l.length ca] w fun e w' => (∃ v, e = .returned (.tuple #[v, .agg #[.int .i64 (sortT l).2.1, .int .i64 (sortT l).2.2]]) ∧ w'.ownsRow w.heap.size 103 3 v (sortT l).1.length (lcells (sortT l).1)) ∧ Below w.heap.size w w' := by
  have hfew := hs.few
  have HL : Hid (LiesAt w a l) := hl
  have HS : Hid (Small l) := hs
  clear hl hs
  obtain ⟨i0, hi, hz0, hz1, hz2⟩ := info_parts Tryz.infoFile
  go_enter Tryz.func169, Tryz.ntmps169
  go_wp2_with fail
  go_loopw [4, 5] (fun out i wr => ∃ k : Nat, k ≤ l.length ∧ i = .int .i64 k ∧ (∃ s : List F, (s.Perm (l.take k) ∧ Weak s) ∧ wr.ownsRow (w.heap.size + 1) 103 3 out s.length (lcells s)) ∧ Below (w.heap.size + 1) (w.alloc (.cells #[.int .i64 0, .int .i64 0] 50)) wr) (fun _ i _ => l.length - (intOf i).toNat)
  case atStart => exact ⟨0, by omega, rfl, ⟨[], ⟨by simp, List.Pairwise.nil⟩, World.ownsRow_nil _ _ _ _⟩, Below.refl _ _⟩
  case round =>
    obtain ⟨k, hk, rfl, ⟨s, hps, hrow⟩, hb⟩ := hrel
    have HPS : Hid (s.Perm (l.take k) ∧ Weak s) := hps
    have HB : Hid (Below (w.heap.size + 1) (w.alloc (.cells #[.int .i64 0, .int .i64 0] 50)) wr) := hb
    have hbs : w.heap.size + 1 ≤ wr.heap.size := by have := hb.size; simpa using this
    have hs1000 : s.length ≤ 100000 := by
      have := hps.1.length_eq
      rw [List.length_take] at this; omega
    have HROW : Hid (wr.ownsRow (w.heap.size + 1) 103 3 _ s.length (lcells s)) := hrow
    clear hb hps
    by_cases hlt : k < l.length
    · have hlt' : (k : Int) < (l.length : Int) := by omega
      obtain ⟨b, o, rfl, c0, c1, c2⟩ := (HL.out.below (slot_two HB.out).2.2.2.2).at hlt
      have HX : Hid (∀ W, Below wr.heap.size wr W → W.cell? ⟨b, o + k * 3, none⟩ = some (sv l[k].p) ∧ W.cell? ⟨b, o + k * 3 + 1, none⟩ = some (.bool l[k].r) ∧ W.cell? ⟨b, o + k * 3 + 2, none⟩ = some (sv l[k].t)) := fun W hW =>
        ⟨(hW.cell (p := ⟨b, o + k * 3, none⟩) (block_lt_of_cell c0)).trans c0, (hW.cell (p := ⟨b, o + k * 3 + 1, none⟩) (block_lt_of_cell c1)).trans c1, (hW.cell (p := ⟨b, o + k * 3 + 2, none⟩) (block_lt_of_cell c2)).trans c2⟩
      have HT : Hid (l.take (k + 1) = l.take k ++ [l[k]]) := List.take_succ_eq_append_getElem hlt
      have hk0 : (0 : Int) ≤ (k : Int) := by omega
      generalize l[k] = f at c0 c1 c2 HX HT
      rcases hrow.2 with ⟨rfl, h0⟩ | ⟨g, cap, cur, rfl, hgb, hgh, hcap, _⟩
      · have hs0 : s = [] := List.length_eq_zero_iff.1 h0
        subst hs0
        have HN : Hid ([f].Perm (l.take (k + 1)) ∧ Weak [f]) := by
          refine ⟨?_, List.pairwise_singleton _ _⟩
          rw [HT.out]
          exact (HPS.out.1.append_right [f])
        clear hrow h0
        go_wp2_with fail
        refine wp_loop_rounds 1 ?_
        rw [rounds_succ]
        go_wp2_with fail
        go_quiet (fail)
        go_wp2_with (at_builtin; first
          | (refine wpList_append_own_none rfl _ _ 43 rfl (w.heap.size + 1) 103 i0 3 Tryz.underlying43 hi _ _ _ rfl hown2 rfl ?_)
          | (refine wpList_append_own_none rfl _ _ 43 rfl (w.heap.size + 1) 103 i0 3 Tryz.underlying43 hi _ 0 [] rfl (World.ownsRow_nil _ _ _ _) rfl ?_)
          | (refine wpList_append_own _ rfl _ _ 43 rfl (w.heap.size + 1) 103 i0 (.agg #[.string ⟨#[]⟩, .bool false, .string ⟨#[]⟩]) 3 40 Tryz.underlying43 hi hz0 hz1 hz2 rfl (by decide) (.slice none 0 0) 0 [] rfl (World.ownsRow_nil _ _ _ _) ⟨wr.heap.size, 0, none⟩ 1 1 (fcells f) rfl rfl (cells_new wr f _) (by simp [fcells, Value.oneCell']) (by unfold maxLen; omega) (by omega) (by simp; omega) ?_; intro v2 w2 hown2 hgrow2 _))
        have HB2 : Below (w.heap.size + 1) (w.alloc (.cells #[.int .i64 0, .int .i64 0] 50)) w2 := ((below_drewN HB.out _).alloc hbs _).grown hgrow2 (by simp; omega) (fun j ej => by cases ej)
        refine ⟨⟨k + 1, by omega, by go_num, ⟨[f], HN.out, by simpa [lcells] using hown2⟩, HB2⟩, by simp [intOf]; omega⟩
      · obtain ⟨_, _, e', hl0, _⟩ := owns_lies hrow
        cases e'
        have HLIES : Hid (LiesAt wr (some ⟨g, 0, none⟩) s) := hl0
        clear hrow hl0 hgh hgb HROW c0 c1 c2
        obtain ⟨wo, rfl⟩ : ∃ wo, wo = wr := ⟨_, rfl⟩
        go_wp2_with fail
        go_loopw [6] (fun ja wr => ∃ j : Nat, j ≤ s.length ∧ ja = .int .i64 j ∧ (∀ m (h : m < s.length), j ≤ m → less f.p s[m].p = true) ∧ Below wo.heap.size wo wr) (fun ja _ => (intOf ja).toNat)
        case atStart => exact ⟨s.length, by omega, rfl, fun _ _ h => by omega, Below.refl _ _⟩
        case round =>
          obtain ⟨j, hj, rfl, hup, hbk⟩ := hrel
          have HUP : Hid (∀ m (h : m < s.length), j ≤ m → less f.p s[m].p = true) := hup
          have HBK : Hid (Below wo.heap.size wo wr) := hbk
          have HBKW : Hid (Below (w.heap.size + 1) (w.alloc (.cells #[.int .i64 0, .int .i64 0] 50)) wr) := HB.out.trans (hbk.mono hbs)
          clear hup hbk
          obtain ⟨x0, x1, x2⟩ := HX.out wr HBK.out
          by_cases hj1 : 0 < j
          · obtain ⟨b', o', e', d0, d1, d2⟩ := (HLIES.out.below HBK.out).at (k := j - 1) (by omega)
            cases e'
            rw [Nat.zero_add] at d0 d1 d2
            have hjp : (0 : Int) < (j : Int) := by omega
            have hsub : (j : Int) - 1 = ((j - 1 : Nat) : Int) := by omega
            have hjl : ((j - 1 : Nat) : Int) < (s.length : Int) := by omega
            cases hle : less f.p (s[j - 1]'(by omega)).p with
            | true =>
              have HUP2 : Hid (∀ m (h : m < s.length), j - 1 ≤ m → less f.p s[m].p = true) := by
                intro m hm hjm
                by_cases e : m = j - 1
                · subst e; exact hle
                · exact HUP.out m hm (by omega)
              have hle' : Op.bytesLess f.p (s[j - 1]'(by omega)).p = true := hle
              clear hle
              generalize (s[j - 1]'(by omega)) = y at d0 d1 d2 hle'
              go_wp2_with fail
              go_quiet (fail)
              go_wp2
              go_roundw
              case rel => exact ⟨j - 1, by omega, by first | rfl | (congr 1; omega), HUP2.out, below_drewN HBK.out _⟩
              case measure => simp [intOf]; omega
            | false =>
              have hlow : ∀ h : 0 < j, less f.p (s[j - 1]'(by omega)).p = false := fun _ => hle
              have hle' : Op.bytesLess f.p (s[j - 1]'(by omega)).p = false := hle
              clear hle
              have HLOW : Hid (∀ h : 0 < j, less f.p (s[j - 1]'(by omega)).p = false) := hlow
              clear hlow
              generalize hy : (s[j - 1]'(by omega)) = y at d0 d1 d2 hle'
              clear hy
              go_wp2_with fail
              go_quiet (fail)
              clear d0 d1 d2 hle' x0 x1 x2
              have hlow := HLOW.out
              have hj0 : (0 : Int) ≤ (j : Int) := by omega
              have hjs : (j : Int) ≤ (s.length : Int) := by omega
              have hjc : (j : Int) ≤ (cap : Int) := by omega
              have HNEW : Hid ((s.take j ++ f :: s.drop j).Perm (l.take (k + 1)) ∧ Weak (s.take j ++ f :: s.drop j)) := by
                refine ⟨?_, insert_weak HPS.out.2 hj hlow HUP.out⟩
                rw [HT.out]
                exact (insert_perm s f j).trans (HPS.out.1.append_right [f])
              have HLIESK : Hid (LiesAt wr (some ⟨g, 0, none⟩) s) := HLIES.out.below HBK.out
              obtain ⟨A, hA, hsrc⟩ := tail_src HLIESK.out hj hcap
              have HSRC1 : Hid (∀ t u, (lcells (s.take j))[t]? = some u → wr.cell? ((⟨g, 0, none⟩ : Addr).add t) = some u) := head_src HLIESK.out
              have HLT : Hid ((lcells (s.take j)).length = j * 3) := by show _ = _; rw [lcells_length, List.length_take]; congr 1; omega
              have HLD : Hid ((lcells (s.drop j)).length = (s.length - j) * 3) := by show _ = _; rw [lcells_length, List.length_drop]
              have hks := HBK.out.size
              clear hlow
              go_wp2_with (at_builtin; first
                | (refine wpList_append_own _ rfl _ _ 43 rfl wr.heap.size 103 i0 (.agg #[.string ⟨#[]⟩, .bool false, .string ⟨#[]⟩]) 3 40 Tryz.underlying43 hi hz0 hz1 hz2 rfl (by decide) _ _ _ rfl hown2 A (s.length - j) (cap - j) (lcells (s.drop j)) rfl HLD.out (fun t u hu => (HB2.cell (p := A.add t) (block_lt_of_cell (hsrc.out t u hu))).trans (hsrc.out t u hu)) (lcells_one _) (by unfold maxLen; omega) (by omega) HB2.size ?_; intro v3 w3 hown3 hgrow3 _)
                | (refine wpList_append_own _ rfl _ _ 43 rfl wr.heap.size 103 i0 (.agg #[.string ⟨#[]⟩, .bool false, .string ⟨#[]⟩]) 3 40 Tryz.underlying43 hi hz0 hz1 hz2 rfl (by decide) _ _ _ rfl (hown1.alloc _) ⟨w1.heap.size, 0, none⟩ 1 1 (fcells f) rfl rfl (cells_new w1 f _) (by simp [fcells, Value.oneCell']) (by unfold maxLen; omega) (by omega) (Nat.le_trans HB1.size (by simp)) ?_; intro v2 w2 hown2 hgrow2 _; have HB2 : Below wr.heap.size wr w2 := (HB1.alloc HB1.size _).grown hgrow2 (Nat.le_trans HB1.size (by simp)) (fun j ej => (hown1.lt j ej).1))
                | (refine wpList_append_own _ rfl _ _ 43 rfl wr.heap.size 103 i0 (.agg #[.string ⟨#[]⟩, .bool false, .string ⟨#[]⟩]) 3 40 Tryz.underlying43 hi hz0 hz1 hz2 rfl (by decide) (.slice none 0 0) 0 [] rfl (World.ownsRow_nil _ _ _ _) ⟨g, 0, none⟩ j cap (lcells (s.take j)) rfl HLT.out HSRC1.out (lcells_one _) (by unfold maxLen; omega) (by omega) (Nat.le_refl _) ?_; intro v1 w1 hown1 hgrow1 _; have HB1 : Below wr.heap.size wr w1 := (below_drewN (Below.refl _ wr) _).grown hgrow1 (Nat.le_refl _) (fun k e => by cases e); obtain ⟨e0, e1, e2⟩ := HX.out w1 (HBK.out.trans (HB1.mono HBK.out.size))))
              have HB3 : Below wr.heap.size wr w3 := HB2.grown hgrow3 HB2.size (fun j ej => (hown2.lt j ej).1)
              have HB3W : Below (w.heap.size + 1) (w.alloc (.cells #[.int .i64 0, .int .i64 0] 50)) w3 := HBKW.out.trans (HB3.mono (by omega))
              refine ⟨⟨k + 1, by omega, by go_num, ⟨s.take j ++ f :: s.drop j, HNEW.out, ?_⟩, HB3W⟩, by simp [intOf]; omega⟩
              have e1 : (s.take j ++ f :: s.drop j).length = 0 + j + 1 + (s.length - j) := by rw [List.length_append, List.length_cons, List.length_take, List.length_drop]; omega
              have e2 : lcells (s.take j ++ f :: s.drop j) = [] ++ lcells (s.take j) ++ fcells f ++ lcells (s.drop j) := by rw [lcells_app, List.nil_append, List.append_assoc]; rfl
              rw [e1, e2]
              exact hown3.mono (by omega)
          · have hjn : ¬ (0 : Int) < (j : Int) := by omega
            have hjd : decide ((0 : Int) < (j : Int)) = false := by simp; omega
            have hlow : ∀ h : 0 < j, less f.p (s[j - 1]'(by omega)).p = false := fun h => absurd h hj1
            have HLOW : Hid (∀ h : 0 < j, less f.p (s[j - 1]'(by omega)).p = false) := hlow
            clear hlow
            go_wp2_with fail
            go_quiet (fail)
            clear x0 x1 x2 hjn hjd
            have hlow := HLOW.out
            have hj0 : (0 : Int) ≤ (j : Int) := by omega
            have hjs : (j : Int) ≤ (s.length : Int) := by omega
            have hjc : (j : Int) ≤ (cap : Int) := by omega
            have HNEW : Hid ((s.take j ++ f :: s.drop j).Perm (l.take (k + 1)) ∧ Weak (s.take j ++ f :: s.drop j)) := by
              refine ⟨?_, insert_weak HPS.out.2 hj hlow HUP.out⟩
              rw [HT.out]
              exact (insert_perm s f j).trans (HPS.out.1.append_right [f])
            have HLIESK : Hid (LiesAt wr (some ⟨g, 0, none⟩) s) := HLIES.out.below HBK.out
            obtain ⟨A, hA, hsrc⟩ := tail_src HLIESK.out hj hcap
            have HSRC1 : Hid (∀ t u, (lcells (s.take j))[t]? = some u → wr.cell? ((⟨g, 0, none⟩ : Addr).add t) = some u) := head_src HLIESK.out
            have HLT : Hid ((lcells (s.take j)).length = j * 3) := by show _ = _; rw [lcells_length, List.length_take]; congr 1; omega
            have HLD : Hid ((lcells (s.drop j)).length = (s.length - j) * 3) := by show _ = _; rw [lcells_length, List.length_drop]
            have hks := HBK.out.size
            clear hlow
            go_wp2_with (at_builtin; first
              | (refine wpList_append_own _ rfl _ _ 43 rfl wr.heap.size 103 i0 (.agg #[.string ⟨#[]⟩, .bool false, .string ⟨#[]⟩]) 3 40 Tryz.underlying43 hi hz0 hz1 hz2 rfl (by decide) _ _ _ rfl hown2 A (s.length - j) (cap - j) (lcells (s.drop j)) rfl HLD.out (fun t u hu => (HB2.cell (p := A.add t) (block_lt_of_cell (hsrc.out t u hu))).trans (hsrc.out t u hu)) (lcells_one _) (by unfold maxLen; omega) (by omega) HB2.size ?_; intro v3 w3 hown3 hgrow3 _)
              | (refine wpList_append_own _ rfl _ _ 43 rfl wr.heap.size 103 i0 (.agg #[.string ⟨#[]⟩, .bool false, .string ⟨#[]⟩]) 3 40 Tryz.underlying43 hi hz0 hz1 hz2 rfl (by decide) _ _ _ rfl (hown1.alloc _) ⟨w1.heap.size, 0, none⟩ 1 1 (fcells f) rfl rfl (cells_new w1 f _) (by simp [fcells, Value.oneCell']) (by unfold maxLen; omega) (by omega) (Nat.le_trans HB1.size (by simp)) ?_; intro v2 w2 hown2 hgrow2 _; have HB2 : Below wr.heap.size wr w2 := (HB1.alloc HB1.size _).grown hgrow2 (Nat.le_trans HB1.size (by simp)) (fun j ej => (hown1.lt j ej).1))
              | (refine wpList_append_own _ rfl _ _ 43 rfl wr.heap.size 103 i0 (.agg #[.string ⟨#[]⟩, .bool false, .string ⟨#[]⟩]) 3 40 Tryz.underlying43 hi hz0 hz1 hz2 rfl (by decide) (.slice none 0 0) 0 [] rfl (World.ownsRow_nil _ _ _ _) ⟨g, 0, none⟩ j cap (lcells (s.take j)) rfl HLT.out HSRC1.out (lcells_one _) (by unfold maxLen; omega) (by omega) (Nat.le_refl _) ?_; intro v1 w1 hown1 hgrow1 _; have HB1 : Below wr.heap.size wr w1 := (below_drewN (Below.refl _ wr) _).grown hgrow1 (Nat.le_refl _) (fun k e => by cases e); obtain ⟨e0, e1, e2⟩ := HX.out w1 (HBK.out.trans (HB1.mono HBK.out.size))))
            have HB3 : Below wr.heap.size wr w3 := HB2.grown hgrow3 HB2.size (fun j ej => (hown2.lt j ej).1)
            have HB3W : Below (w.heap.size + 1) (w.alloc (.cells #[.int .i64 0, .int .i64 0] 50)) w3 := HBKW.out.trans (HB3.mono (by omega))
            refine ⟨⟨k + 1, by omega, by go_num, ⟨s.take j ++ f :: s.drop j, HNEW.out, ?_⟩, HB3W⟩, by simp [intOf]; omega⟩
            have e1 : (s.take j ++ f :: s.drop j).length = 0 + j + 1 + (s.length - j) := by rw [List.length_append, List.length_cons, List.length_take, List.length_drop]; omega
            have e2 : lcells (s.take j ++ f :: s.drop j) = [] ++ lcells (s.take j) ++ fcells f ++ lcells (s.drop j) := by rw [lcells_app, List.nil_append, List.append_assoc]; rfl
            rw [e1, e2]
            exact hown3.mono (by omega)
    · obtain rfl : k = l.length := by omega
      have hperm := HPS.out.1
      rw [List.take_length] at hperm
      have HP : Hid (s.Perm l) := hperm
      have HW : Hid (Weak s) := HPS.out.2
      have HSS : Hid (Small s) := ⟨by rw [hperm.length_eq]; exact hfew, fun f hf => HS.out.path f (hperm.mem_iff.1 hf), fun f hf => HS.out.text f (hperm.mem_iff.1 hf)⟩
      obtain ⟨av, cv, rfl, hlies, _⟩ := owns_lies hrow
      have HLIES : Hid (LiesAt wr av s) := hlies
      have hsf := HSS.out.few
      obtain ⟨wo, rfl⟩ : ∃ wo, wo = wr := ⟨_, rfl⟩
      clear hrow hlies hperm
      go_wp2_with fail
      go_loopw [8] (fun i wr => ∃ q : Nat, q ≤ s.length + 1 ∧ 1 ≤ q ∧ i = .int .i64 q ∧ (∀ j (hj : j + 1 < s.length), j + 1 < q → s[j + 1].p ≠ s[j].p) ∧ Below wo.heap.size wo wr) (fun i _ => s.length + 1 - (intOf i).toNat)
      case atStart => exact ⟨1, by omega, by omega, rfl, fun _ _ h => by omega, Below.refl _ _⟩
      case round =>
        obtain ⟨q, hq, hq1, rfl, hz, hb⟩ := hrel
        have HBQ : Hid (Below wo.heap.size wo wr) := hb
        have HBW : Hid (Below (w.heap.size + 1) (w.alloc (.cells #[.int .i64 0, .int .i64 0] 50)) wr) := HB.out.trans (hb.mono hbs)
        have HZ : Hid (∀ j (hj : j + 1 < s.length), j + 1 < q → s[j + 1].p ≠ s[j].p) := hz
        clear hb hz
        by_cases hqs : q < s.length
        · obtain ⟨r, rfl⟩ : ∃ r, q = r + 1 := ⟨q - 1, by omega⟩
          obtain ⟨b, o, rfl, c0, c1, c2⟩ := (HLIES.out.below HBQ.out).at hqs
          obtain ⟨b', o', e', d0, d1, d2⟩ := (HLIES.out.below HBQ.out).at (k := r) (by omega)
          cases e'
          have hqs' : (r : Int) + 1 < (s.length : Int) := by omega
          by_cases he : s[r + 1].p = (s[r]'(by omega)).p
          · have HD : Hid (sortT l = ([], 7, -1)) := sortT_twice HP.out (not_nodup_of_step (by omega) he)
            have he' : (s[r + 1].p == (s[r]'(by omega)).p) = true := by simp [he]
            clear he
            generalize s[r + 1] = f at c0 c1 c2 he'
            generalize (s[r]'(by omega)) = y at d0 d1 d2 he'
            go_wp2_with fail
            go_quiet (fail)
            go_wp2_with fail
            refine (bare_any 7 _).mono ?_
            rintro e w3 ⟨rfl, hb3⟩
            have HB3 := more_below (below_drewN HBW.out _) rfl hb3
            obtain ⟨s0, s1, s2, s3, s4⟩ := slot_two HB3
            clear hb3 HB3 c0 c1 c2 d0 d1 d2 he'
            go_wp2
            obtain ⟨q0, q1, q2⟩ := slot_set (w := w) (.int .i64 7) (.int .i64 (-1)) s0 s1 s4
            exact bodyPost_ret (v := .tuple #[.slice none 0 0, .agg #[.int .i64 7, .int .i64 (-1)]]) (by simp [results, Tryz.results169, go_sem, q0, q1]) rfl ⟨⟨_, by rw [HD.out]; rfl, by rw [HD.out]; exact World.ownsRow_nil _ _ _ _⟩, q2⟩
          · have HN : Hid (∀ j (hj : j + 1 < s.length), j + 1 < r + 1 + 1 → s[j + 1].p ≠ s[j].p) := by
              intro j hj hjr
              by_cases e : j = r
              · subst e; exact he
              · exact HZ.out j hj (by omega)
            have he' : (s[r + 1].p == (s[r]'(by omega)).p) = false := by simp [he]
            clear he
            generalize s[r + 1] = f at c0 c1 c2 he'
            generalize (s[r]'(by omega)) = y at d0 d1 d2 he'
            go_wp2_with fail
            go_quiet (fail)
            go_wp2
            go_roundw
            case rel => exact ⟨r + 1 + 1, by omega, by omega, by go_num, HN.out, below_drewN HBQ.out _⟩
            case measure => simp [intOf]; omega
        · have hnd : (s.map (·.p)).Nodup := nodup_of_step HW.out fun j hj => HZ.out j hj (by omega)
          have hqs' : ¬ (q : Int) < (s.length : Int) := by omega
          have HROWQ : Hid (wr.ownsRow (w.heap.size + 1) 103 3 (.slice av s.length cv) s.length (lcells s)) := owns_below HROW.out HBQ.out
          by_cases hc : (treeFault s).1 = 0
          · have HD : Hid (sortT l = (s, 0, -1)) := sortT_ok HP.out HW.out hnd hc
            have HF : Hid (treeFault s = (0, -1)) := treeFault_zero hc
            clear hnd hc
            go_wp2_with fail
            refine (refTreeFault_is s av cv 0 (-1) _ (HLIES.out.below HBQ.out) HSS.out (by rw [HF.out]; rfl) (by rw [HF.out])).mono ?_
            rintro e w3 ⟨rfl, hb3⟩
            have HB3 : Hid (Below (w.heap.size + 1) (w.alloc (.cells #[.int .i64 0, .int .i64 0] 50)) w3) := more_below HBW.out rfl hb3
            have HROW3 : Hid (w3.ownsRow (w.heap.size + 1) 103 3 (.slice av s.length cv) s.length (lcells s)) := owns_below HROWQ.out hb3
            have hs3 : w.heap.size + 1 ≤ w3.heap.size := by have := HB3.out.size; simpa using this
            clear hb3
            go_wp2_with fail
            refine (fine_any _).mono ?_
            rintro e w4 ⟨rfl, hb4⟩
            have hB4 := more_below (HB3.out.alloc hs3 (.cells #[.int .i64 0, .int .i64 (-1)] 50)) rfl hb4
            have HROW4 : Hid (w4.ownsRow (w.heap.size + 1) 103 3 (.slice av s.length cv) s.length (lcells s)) := owns_below (HROW3.out.alloc _) hb4
            obtain ⟨s0, s1, s2, s3, s4⟩ := slot_two hB4
            clear hb4 hB4
            go_wp2
            obtain ⟨q0, q1, q2⟩ := slot_set (w := w) (.int .i64 0) (.int .i64 (-1)) s0 s1 s4
            exact bodyPost_ret (v := .tuple #[.slice av s.length cv, .agg #[.int .i64 0, .int .i64 (-1)]]) (by simp [results, Tryz.results169, go_sem, q0, q1]) rfl ⟨⟨_, by rw [HD.out]; rfl, by rw [HD.out]; exact owns_slot _ _ HROW4.out⟩, q2⟩
          · have HD : Hid (sortT l = ([], treeFault s)) := sortT_bad HP.out HW.out hnd hc
            have hpos : (0 : Int) < ((treeFault s).1 : Int) := by omega
            clear hnd hc
            go_wp2_with fail
            refine (refTreeFault_any s av cv _ (HLIES.out.below HBQ.out) HSS.out).mono ?_
            rintro e w3 ⟨rfl, hb3⟩
            have HB3 : Below (w.heap.size + 1) (w.alloc (.cells #[.int .i64 0, .int .i64 0] 50)) w3 := more_below HBW.out rfl hb3
            have hs3 : w.heap.size + 1 ≤ w3.heap.size := by have := HB3.size; simpa using this
            obtain ⟨s0, s1, s2, s3, s4⟩ := slot_two (HB3.alloc hs3 (.cells #[.int .i64 (treeFault s).1, .int .i64 (treeFault s).2] 50))
            clear hb3 HB3
            generalize treeFault s = tf at *
            go_wp2
            go_region
            all_goals go_wp2
            all_goals
              obtain ⟨q0, q1, q2⟩ := slot_set (w := w) (.int .i64 tf.1) (.int .i64 tf.2) s0 s1 s4
              exact bodyPost_ret (v := .tuple #[.slice none 0 0, .agg #[.int .i64 tf.1, .int .i64 tf.2]]) (by simp [results, Tryz.results169, go_sem, q0, q1]) rfl ⟨⟨_, by rw [HD.out], by rw [HD.out]; exact World.ownsRow_nil _ _ _ _⟩, q2.drew⟩
end Go.Proofs.YtmcfkoenpikldaaGreatDoor
/-
  The document's answer for trees: StripTree: over this seat's translation.
-/
namespace Go.Proofs.YtmcfkoenpikldaaGreatDoor
open Go.RowKit Go.Shelf

theorem stripOf_is (s c : List UInt8) (k : Int) (n : Int) (w : World) (hs : s.length ≤ 90000) (h0 : (stripL s n).1 = c) (h1 : ((stripL s n).2 : Int) = k) :
    Calls Tryz.prog 231 #[.string ⟨s.toArray⟩, .int .i64 n] w fun e w' => e = .returned (.tuple #[.string ⟨c.toArray⟩, .int .i64 k]) ∧ Below w.heap.size w w' := by
  have := stripOf_any s n w hs
  rwa [h0, h1] at this

theorem refSort_is (l : List F) (r : List F × Nat × Int) (c i : Int) (a : Option Addr) (ca : Nat) (w : World) (hl : LiesAt w a l) (hs : Small l) (h : sortT l = r) (hc : (r.2.1 : Int) = c) (hi : r.2.2 = i) :
    Calls Tryz.prog 169 #[.slice a l.length ca] w fun e w' => (∃ v, e = .returned (.tuple #[v, .agg #[.int .i64 c, .int .i64 i]]) ∧ w'.ownsRow w.heap.size 103 3 v r.1.length (lcells r.1)) ∧ Below w.heap.size w w' := by
  have := refSort_any l a ca w hl hs
  rwa [h, hc, hi] at this

set_option maxRecDepth 100000 in
set_option maxHeartbeats 8000000 in
theorem refStripTree_any (l : List F) (a : Option Addr) (ca : Nat) (n : Int) (w : World) (hl : LiesAt w a l) (hs : Small l) :
    Calls Tryz.prog 181 #[.slice a l.length ca, .int .i64 n] w fun e w' => (∃ v, e = .returned (.tuple #[v, .agg #[.int .i64 (stripT l n).2.1, .int .i64 (stripT l n).2.2]]) ∧ w'.ownsRow w.heap.size 103 3 v (stripT l n).1.length (lcells (stripT l n).1)) ∧ Below w.heap.size w w' := by
  have hfew := hs.few
  by_cases hc : (treeFault l).1 = 0
  · have HL : Hid (LiesAt w a l) := hl
    have HS : Hid (Small l) := hs
    have HZ : Hid (treeFault l = (0, -1)) := treeFault_zero hc
    have HC0 : Hid ((treeFault l).1 = 0) := hc
    clear hl hs hc
    obtain ⟨i0, hi, hz0, hz1, hz2⟩ := info_parts Tryz.infoFile
    go_enter Tryz.func181, Tryz.ntmps181
    go_wp2_with fail
    refine (refTreeFault_is l a ca 0 (-1) _ (HL.out.below ((Below.refl _ _).alloc (Nat.le_refl _) _)) HS.out (by rw [HZ.out]; rfl) (by rw [HZ.out])).mono ?_
    rintro e w1 ⟨rfl, hb1⟩
    have HB1 : Hid (Below (w.heap.size + 1) (w.alloc (.cells #[.int .i64 0, .int .i64 0] 50)) w1) := hb1.mono (by simp)
    have hs1 : w.heap.size + 1 ≤ w1.heap.size := by have := hb1.size; simpa using this
    clear hb1
    go_wp2_with fail
    go_loopw [7, 8] (fun out i wr => ∃ k : Nat, k ≤ l.length ∧ i = .int .i64 k ∧ ((∀ j (h : j < l.length), j < k → (stripL l[j].p n).2 = 0) ∧ wr.ownsRow (w.heap.size + 1) 103 3 out ((l.take k).map fun f => ({ f with p := (stripL f.p n).1 } : F)).length (lcells ((l.take k).map fun f => { f with p := (stripL f.p n).1 }))) ∧ Below (w.heap.size + 1) (w.alloc (.cells #[.int .i64 0, .int .i64 0] 50)) wr) (fun _ i _ => l.length - (intOf i).toNat)
    case atStart => exact ⟨0, by omega, rfl, ⟨fun _ _ h => by omega, World.ownsRow_nil _ _ _ _⟩, HB1.out.alloc (by omega) _⟩
    case round =>
      obtain ⟨k, hk, rfl, ⟨hz, hrow⟩, hb⟩ := hrel
      have HB : Hid (Below (w.heap.size + 1) (w.alloc (.cells #[.int .i64 0, .int .i64 0] 50)) wr) := hb
      have HBW : Hid (Below w.heap.size w wr) := (slot_two hb).2.2.2.2
      have hbs : w.heap.size + 1 ≤ wr.heap.size := by have := hb.size; simpa using this
      have HZZ : Hid (∀ j (h : j < l.length), j < k → (stripL l[j].p n).2 = 0) := hz
      have HROW : Hid (wr.ownsRow (w.heap.size + 1) 103 3 _ ((l.take k).map fun f => ({ f with p := (stripL f.p n).1 } : F)).length (lcells ((l.take k).map fun f => { f with p := (stripL f.p n).1 }))) := hrow
      clear hb hrow hz
      have hwl : ((l.take k).map fun f => ({ f with p := (stripL f.p n).1 } : F)).length ≤ 100000 := by rw [List.length_map, List.length_take]; omega
      by_cases hlt : k < l.length
      · have hlt' : (k : Int) < (l.length : Int) := by omega
        obtain ⟨b, o, rfl, c0, c1, c2⟩ := (HL.out.below HBW.out).at hlt
        have hpl := HS.out.path _ (List.getElem_mem hlt)
        cases hst : stripL l[k].p n with
        | mk c kk =>
        by_cases hkk : kk = 0
        · subst hkk
          have HN : Hid (∀ j (h : j < l.length), j < k + 1 → (stripL l[j].p n).2 = 0) := by
            intro j hj hjk
            by_cases e : j = k
            · subst e; rw [hst]
            · exact HZZ.out j hj (by omega)
          have HW : Hid (((l.take (k + 1)).map fun f => ({ f with p := (stripL f.p n).1 } : F)) = ((l.take k).map fun f => ({ f with p := (stripL f.p n).1 } : F)) ++ [{ l[k] with p := c }]) := by
            show _ = _
            rw [List.take_succ_eq_append_getElem hlt, List.map_append]
            simp [hst]
          have HST : Hid ((stripL l[k].p n).1 = c ∧ ((stripL l[k].p n).2 : Int) = 0) := by rw [hst]; exact ⟨rfl, rfl⟩
          clear hst
          generalize l[k] = f at c0 c1 c2 hpl HST HW
          go_wp2_with fail
          refine (stripOf_is f.p c 0 n _ (by omega) HST.out.1 HST.out.2).mono ?_
          rintro e w5 ⟨rfl, hb5⟩
          have hbx : Below (wr.heap.size + 1) (wr.alloc (.cells #[sv f.p, .bool f.r, sv f.t] 103)) w5 := hb5.mono (by simp)
          obtain ⟨g0, g1, g2, hB5⟩ := box_three hbx
          have gf := box_frozen hbx
          have hsz5 : wr.heap.size + 1 ≤ w5.heap.size := by have := hb5.size; simpa using this
          have hrow2 := owns_later (j := 0) (sv c) HROW.out hB5 (Nat.le_refl _)
          have HB5 : Hid (Below (w.heap.size + 1) (w.alloc (.cells #[.int .i64 0, .int .i64 0] 50)) w5) := HB.out.trans (hB5.mono hbs)
          clear hb5 hbx hB5
          obtain ⟨j0, j1, j2⟩ := box_set (sv c) g0 g1 g2
          go_wp2_with (at_builtin; refine wpList_append_own _ rfl _ _ 43 rfl (w.heap.size + 1) 103 i0 (.agg #[.string ⟨#[]⟩, .bool false, .string ⟨#[]⟩]) 3 40 Tryz.underlying43 hi hz0 hz1 hz2 rfl (by decide) _ _ _ rfl (hrow2.alloc _) ⟨w5.heap.size, 0, none⟩ 1 1 [sv c, .bool f.r, sv f.t] rfl rfl (three_new _ _ _ _ _ _ (by simp)) (by simp [Value.oneCell']) (by unfold maxLen; omega) (by omega) (by simp; omega) ?_; intro v' w6 hown' hgrow _)
          have HB6 : Below (w.heap.size + 1) (w.alloc (.cells #[.int .i64 0, .int .i64 0] 50)) w6 := ((HB5.out.setCell (p := ⟨wr.heap.size, 0, none⟩) hbs _).alloc (by simp; omega) _).grown hgrow (by simp; omega) (fun j ej => (hrow2.lt j ej).1)
          refine ⟨⟨k + 1, by omega, by go_num, ⟨HN.out, ?_⟩, HB6⟩, by simp [intOf]; omega⟩
          rw [HW.out, lcells_app, List.length_append]
          simpa [lcells, fcells] using hown'
        · have HT : Hid (stripT l n = ([], kk, (k : Int))) := by
            show stripT l n = _
            have := mapPaths_at (fun s => stripL s n) l k 0 hlt HZZ.out (by show (stripL l[k].p n).2 ≠ 0; rw [hst]; exact hkk)
            have e : stripAll n l = ([], kk, k) := by
              show mapPaths _ 0 l = _
              rw [this]
              show ([], (stripL l[k].p n).2, 0 + k) = _
              rw [hst, Nat.zero_add]
            unfold stripT
            rw [if_neg (by simp [HC0.out]), e, if_pos hkk]
          have hpos : (0 : Int) < (kk : Int) := by omega
          have HST : Hid ((stripL l[k].p n).1 = c ∧ ((stripL l[k].p n).2 : Int) = kk) := by rw [hst]; exact ⟨rfl, rfl⟩
          clear hst hkk
          generalize l[k] = f at c0 c1 c2 hpl HST
          go_wp2_with fail
          refine (stripOf_is f.p c kk n _ (by omega) HST.out.1 HST.out.2).mono ?_
          rintro e w5 ⟨rfl, hb5⟩
          have hB5 : Below wr.heap.size wr w5 := ((Below.refl _ wr).alloc (Nat.le_refl _) _).trans (hb5.mono (by simp))
          have HB5 := HB.out.trans (hB5.mono hbs)
          obtain ⟨s0, s1, s2, s3, s4⟩ := slot_two HB5
          clear hb5 hB5 HB5
          go_wp2
          obtain ⟨q0, q1, q2⟩ := slot_set (w := w) (.int .i64 kk) (.int .i64 k) s0 s1 s4
          exact bodyPost_ret (v := .tuple #[.slice none 0 0, .agg #[.int .i64 kk, .int .i64 k]]) (by simp [results, Tryz.results181, go_sem, q0, q1]) rfl ⟨⟨_, by rw [HT.out], by rw [HT.out]; exact World.ownsRow_nil _ _ _ _⟩, q2⟩
      · obtain rfl : k = l.length := by omega
        have hall : ∀ f ∈ l, (stripL f.p n).2 = 0 := fun f hf => by
          obtain ⟨j, hj, rfl⟩ := List.getElem_of_mem hf
          exact HZZ.out j hj hj
        have hst : stripAll n l = (l.map fun f => { f with p := (stripL f.p n).1 }, 0, 0) := mapPaths_all (fun s => stripL s n) l 0 hall
        have HT : Hid (stripT l n = sortT (l.map fun f => { f with p := (stripL f.p n).1 })) := by
          show stripT l n = _
          unfold stripT
          rw [if_neg (by simp [HC0.out]), hst]
          rfl
        have hrow := HROW.out
        rw [List.take_length] at hrow hwl
        have HSM := map_small n HS.out
        obtain ⟨av, cv, rfl, hlies, _⟩ := owns_lies hrow
        have HLI : Hid (LiesAt wr av (l.map fun f => { f with p := (stripL f.p n).1 })) := hlies
        clear hrow hlies hst hall
        generalize (l.map fun f => ({ f with p := (stripL f.p n).1 } : F)) = m at HLI HSM hwl HT
        obtain ⟨R, rc, ri, hr⟩ : ∃ R rc ri, sortT m = (R, rc, ri) := ⟨_, _, _, rfl⟩
        have HR : Hid (sortT m = (R, rc, ri)) := hr
        have HTR : Hid (stripT l n = (R, rc, ri)) := HT.out.trans hr
        clear hr HT
        go_wp2_with fail
        refine (refSort_is m (R, rc, ri) rc ri av cv _ HLI.out HSM HR.out rfl rfl).mono ?_
        rintro e w5 ⟨⟨v, rfl, hown⟩, hb5⟩
        have HB5 := more_below HB.out rfl hb5
        have hrow5 : w5.ownsRow (w.heap.size + 1) 103 3 v R.length (lcells R) := hown.mono hbs
        obtain ⟨s0, s1, s2, s3, s4⟩ := slot_two HB5
        clear hb5 HB5 hown
        go_wp2
        obtain ⟨q0, q1, q2⟩ := slot_set (w := w) (.int .i64 rc) (.int .i64 ri) s0 s1 s4
        exact bodyPost_ret (v := .tuple #[v, .agg #[.int .i64 rc, .int .i64 ri]]) (by simp [results, Tryz.results181, go_sem, q0, q1]) rfl ⟨⟨_, by rw [HTR.out], by rw [HTR.out]; exact owns_slot _ _ hrow5⟩, q2⟩
  · have HD : Hid (stripT l n = ([], treeFault l)) := by
      show stripT l n = _
      simp [stripT, hc]
    have hpos : (0 : Int) < ((treeFault l).1 : Int) := by omega
    have HL : Hid (LiesAt w a l) := hl
    have HS : Hid (Small l) := hs
    clear hl hs hc
    go_enter Tryz.func181, Tryz.ntmps181
    go_wp2_with fail
    refine (refTreeFault_any l a ca _ (HL.out.below ((Below.refl _ _).alloc (Nat.le_refl _) _)) HS.out).mono ?_
    rintro e w1 ⟨rfl, hb1⟩
    have HB1 : Below (w.heap.size + 1) (w.alloc (.cells #[.int .i64 0, .int .i64 0] 50)) w1 := hb1.mono (by simp)
    have hs1 : w.heap.size + 1 ≤ w1.heap.size := by have := hb1.size; simpa using this
    obtain ⟨s0, s1, s2, s3, s4⟩ := slot_two (HB1.alloc hs1 (.cells #[.int .i64 (treeFault l).1, .int .i64 (treeFault l).2] 50))
    clear hb1 HB1
    generalize treeFault l = tf at *
    go_wp2
    go_region
    all_goals go_wp2
    all_goals
      obtain ⟨q0, q1, q2⟩ := slot_set (w := w) (.int .i64 tf.1) (.int .i64 tf.2) s0 s1 s4
      exact bodyPost_ret (v := .tuple #[.slice none 0 0, .agg #[.int .i64 tf.1, .int .i64 tf.2]]) (by simp [results, Tryz.results181, go_sem, q0, q1]) rfl ⟨⟨_, by rw [HD.out], by rw [HD.out]; exact World.ownsRow_nil _ _ _ _⟩, q2.drew⟩
end Go.Proofs.YtmcfkoenpikldaaGreatDoor
