/-
  The document's answer for packs: ReadPack: over this seat's translation.
-/
import Derived.Test.YtkcjgncpcidfoaaGreatDoorRefPackOfRefTreeSum
import Derived.Test.YtkcjgncpcidfoaaGreatDoorRefCutBlank
import Derived.Test.YtkcjgncpcidfoaaGreatDoorRefNumber
import Derived.Test.YtkcjgncpcidfoaaGreatDoorParts
import Derived.Deep.RegionHeld3
import Derived.Deep.AppendLies
namespace Go.Proofs.YtkcjgncpcidfoaaGreatDoor
open Go.RowKit Go.Shelf

/-- At a place of the text from which on no file can be read. -/
theorem read_stuck {s : List UInt8} {fs : List F} {k : Nat} (hs : s.length ≤ 20000) (hra : readA s = (fs ++ (readA (s.drop k)).1, (readA (s.drop k)).2)) (hk : k < s.length) (hc : cutFileL (s.drop k) = none) : readP s = ([], 1, (fs.length : Int)) := by
  have hne : s.drop k ≠ [] := fun e => by have := congrArg List.length e; simp at this; omega
  have h1 := readA_bad hne hc
  have := readP_none (s := s) hs (by rw [hra, h1])
  rw [hra, h1] at this
  simpa using this
/-- The line from a place on, and what is behind it. -/
theorem line_cut {s : List UInt8} {k e : Nat} (hke : k ≤ e) (he : e < s.length) (hno : 10 ∉ (s.drop k).take (e - k)) (h10 : s[e] = 10) : cutBy 10 (s.drop k) = some ((s.drop k).take (e - k), s.drop (e + 1)) := by
  have := drop_cutBy hke he h10
  rw [this]
  have h2 := cutBy_of (s.drop (e + 1)) hno
  rw [← this] at h2 ⊢
  exact h2
theorem line_none {s : List UInt8} {k e : Nat} (he : e = s.length) (hno : 10 ∉ (s.drop k).take (e - k)) : cutBy 10 (s.drop k) = none := by
  refine cutBy_no.2 ?_
  rwa [List.take_of_length_le (by rw [List.length_drop]; omega)] at hno
theorem owns_three {w : World} {base : Nat} {v : Value} {x y z : List UInt8} (h : w.ownsRow base 9 1 v 3 ([x, y, z].map sv)) : ∃ g cap, v = .slice (some ⟨g, 0, none⟩) 3 cap ∧ base ≤ g ∧ 3 ≤ cap ∧ (∃ cur, w.heap[g]? = some (.cells cur 9 (0, 0))) ∧ w.cell? ⟨g, 0, none⟩ = some (sv x) ∧ w.cell? ⟨g, 1, none⟩ = some (sv y) ∧ w.cell? ⟨g, 2, none⟩ = some (sv z) := by
  rcases h.2 with ⟨_, h0⟩ | ⟨g, cap, cur, rfl, hb, hh, hc, _, _, htk⟩
  · cases h0
  · have hcell := (owns_cells (k := [x, y, z]) h rfl).1
    exact ⟨g, cap, rfl, hb, hc, ⟨cur, hh⟩, hcell 0 (by simp), hcell 1 (by simp), hcell 2 (by simp)⟩

/-- A cell of another row, behind an append. -/
theorem grown_far {w w5 W : World} {row : Option Nat} {g i : Nat} {v : Value} (hg : W.grownBy w5 row) (hc : W.cell? ⟨g, i, none⟩ = some v) (_ : g < w.heap.size) (hne : row ≠ some g) : w5.cell? ⟨g, i, none⟩ = some v :=
  (hg.cell_far ⟨g, i, none⟩ (block_lt_of_cell hc) (Ne.symm hne)).trans hc
/-- A row of files and one of texts lie apart. -/
theorem own_far {w : World} {base g : Nat} {v : Value} {n : Nat} {xs : List Value} {cur : Array Value} (h : w.ownsRow base 46 3 v n xs) (hg : w.heap[g]? = some (.cells cur 9 (0, 0))) : v.ownBlock ≠ some g := by
  rcases h.2 with ⟨rfl, _⟩ | ⟨g', cap, cur', rfl, _, hh, _⟩
  · simp [Value.ownBlock]
  · intro e
    obtain rfl : g' = g := by simpa [Value.ownBlock] using e
    rw [hg] at hh
    simp at hh

set_option maxRecDepth 100000 in
set_option maxHeartbeats 8000000 in
theorem refReadPack_any (s : List UInt8) (w : World) (hl : s.length ≤ 90000) :
    Calls Tryz.prog 13 #[.string ⟨s.toArray⟩] w fun e w' => (∃ v, e = .returned (.tuple #[v, .agg #[.int .i64 (readP s).2.1, .int .i64 (readP s).2.2]]) ∧ w'.ownsRow w.heap.size 46 3 v (readP s).1.length (lcells (readP s).1)) ∧ Below w.heap.size w w' := by
  by_cases hlong : 20000 < s.length
  · have HT := Lib.hid (readP_long hlong)
    have hlong' : (20000 : Int) < (s.length : Int) := by omega
    go_enter Tryz.func13, Tryz.ntmps13
    go_wp2_with fail
    refine (bare_any 2 _).mono ?_
    rintro e w1 ⟨rfl, hb1⟩
    obtain ⟨t0, t1, y0, y1, tb⟩ := slot_two (more_below (Below.refl _ _) rfl hb1)
    clear hb1
    go_wp2
    obtain ⟨q0, q1, q2⟩ := slot_set (w := w) (wr := w1) (.int .i64 2) (.int .i64 (-1)) t0 t1 tb
    exact bodyPost_ret (v := .tuple #[.slice none 0 0, .agg #[.int .i64 2, .int .i64 (-1)]]) (by simp [results, Tryz.results13, go_sem, q0, q1]) rfl ⟨⟨_, by rw [HT.out]; rfl, by rw [HT.out]; exact World.ownsRow_nil _ _ _ _⟩, q2⟩
  have hlong' : ¬ (20000 : Int) < (s.length : Int) := by omega
  obtain ⟨i0, hi, hz0, hz1, hz2⟩ := info_parts Tryz.infoFile
  go_enter Tryz.func13, Tryz.ntmps13
  go_wp2_with fail
  go_loopw [4, 5] (fun out at' wr => ∃ (fs : List F) (k : Nat), at' = .int .i64 k ∧ k ≤ s.length ∧ packL fs ++ s.drop k = s ∧ readA s = (fs ++ (readA (s.drop k)).1, (readA (s.drop k)).2) ∧ wr.ownsRow (w.heap.size + 1) 46 3 out fs.length (lcells fs) ∧ Below (w.heap.size + 1) (w.alloc (.cells #[.int .i64 0, .int .i64 0] 31)) wr) (fun _ at' _ => s.length - (intOf at').toNat)
  case atStart => exact ⟨[], 0, rfl, Nat.zero_le _, by simp [packL], by simp, World.ownsRow_nil _ _ _ _, Below.refl _ _⟩
  case round =>
    obtain ⟨fs, k, rfl, hk, hsr, hra, hrow, hb⟩ := hrel
    have HSR := Lib.hid hsr
    have HRA := Lib.hid hra
    have HB := Lib.hid hb
    have hlr : (packL fs).length + (s.length - k) = s.length := by
      have := congrArg List.length hsr
      rw [List.length_append, List.length_drop] at this
      omega
    have hpc := pack_count fs
    clear hsr hra hb
    by_cases hlt : k < s.length
    · have hlt' : (k : Int) < (s.length : Int) := by omega
      obtain ⟨oa, oc, rfl, hol, hoc⟩ := owns_files hrow
      go_wp2_with fail
      obtain ⟨wo, rfl⟩ : ∃ wo, wo = wr := ⟨_, rfl⟩
      go_loopw [6] (fun ev wq => ∃ e : Nat, ev = .int .i64 e ∧ k ≤ e ∧ e ≤ s.length ∧ 10 ∉ (s.drop k).take (e - k) ∧ wq = wo) (fun ev _ => s.length - (intOf ev).toNat)
      case atStart => exact ⟨k, rfl, Nat.le_refl _, hk, by simp, rfl⟩
      case round =>
        obtain ⟨e, rfl, hke, hes, hno, rfl⟩ := hrel
        have HNO := Lib.hid hno
        clear hno
        by_cases hel : e < s.length
        · have hel' : (e : Int) < (s.length : Int) := by omega
          have hsz : e < ({ data := s.toArray } : ByteArray).size := by simpa [ByteArray.size] using hel
          by_cases h10 : s[e] = 10
          · have hbyte : ((({ data := s.toArray } : ByteArray)[e]'hsz).toNat : Int) = 10 := by
              show ((s[e]).toNat : Int) = 10
              rw [h10]; rfl
            have HLC := Lib.hid (line_cut hke hel HNO.out h10)
            clear h10
            have hll : ((s.drop k).take (e - k)).length ≤ 90000 := by rw [List.length_take, List.length_drop]; omega
            have hsl : ({ data := s.toArray } : ByteArray).extract k e = ⟨((s.drop k).take (e - k)).toArray⟩ := extract_list _ _ _
            have hke' : (k : Int) ≤ (e : Int) := by omega
            have hes' : (e : Int) ≤ (s.length : Int) := by omega
            have hend : ((e : Int) == (s.length : Int)) = false := by rw [beq_eq_false_iff_ne]; omega
            generalize (s.drop k).take (e - k) = line at hll hsl HLC
            go_wp2_with fail
            refine (refCutBlank_any line _ hll).mono ?_
            rintro e1 w2 ⟨v, rfl, hvrow, hb2⟩
            have HS2 := Lib.hid (more_below HB.out rfl hb2)
            have hrow2 := owns_below hrow hb2
            obtain ⟨t0, t1, y0, y1, tb⟩ := slot_two HS2.out
            have hgo : wr.heap.size ≤ w2.heap.size := hb2.size
            have hwo : w.heap.size + 1 ≤ wr.heap.size := by have := HB.out.size; simpa using this
            clear hb2 hrow
            by_cases h3 : (piecesBy 32 line).length = 3
            · obtain ⟨a, m, d, hp⟩ : ∃ a m d, piecesBy 32 line = [a, m, d] := by
                rcases hq : piecesBy 32 line with _ | ⟨a, _ | ⟨m, _ | ⟨d, _ | ⟨x, r⟩⟩⟩⟩ <;> rw [hq] at h3 <;> simp at h3
                exact ⟨a, m, d, rfl⟩
              have HO := Lib.hid (headOf_three hp)
              have hple := piecesBy_le 32 line
              rw [hp] at hvrow hple
              have hdl := hple d (by simp)
              obtain ⟨g, cap, rfl, hg0, hcap, ⟨cur, hgh⟩, c0, c1, c2⟩ := owns_three hvrow
              have hcap' : (3 : Int) ≤ (cap : Int) := by omega
              clear hvrow h3 hp hple
              go_wp2_with fail
              refine (numberOf_any d 6 _ (by decide) (by omega)).mono ?_
              rintro e2 w3 ⟨rfl, rfl⟩
              by_cases hn : numberL d 6 < 0
              · have HT := Lib.hid (read_stuck (by omega) HRA.out hlt (cutFile_noHead HLC.out (HO.out.trans (if_neg (fun h => by omega)))))
                generalize numberL d 6 = nn at hn
                go_wp2
                obtain ⟨q0, q1, q2⟩ := slot_set (w := w) (.int .i64 1) (.int .i64 fs.length) t0 t1 tb
                exact bodyPost_ret (v := .tuple #[.slice none 0 0, .agg #[.int .i64 1, .int .i64 fs.length]]) (by simp [results, Tryz.results13, go_sem, q0, q1]) rfl ⟨⟨_, by rw [HT.out]; rfl, by rw [HT.out]; exact World.ownsRow_nil _ _ _ _⟩, q2⟩
              · obtain ⟨n, hn'⟩ := Int.eq_ofNat_of_zero_le (Int.not_lt.1 hn)
                have hneg : decide ((n : Int) < 0) = false := by simp
                rw [hn']
                by_cases hx : m = [120]
                · subst hx
                  have HH : Hid (headOf line = some (a, true, n)) := HO.out.trans (by rw [if_pos ⟨by simp, by omega⟩, hn']; simp)
                  clear hn hn' HO
                  have HI := Lib.hid (cutFile_head HLC.out HH.out)
                  have hnb := headOf_bound HH.out
                  have hrn : (s.drop (e + 1))[n]? = s[e + 1 + n]? := List.getElem?_drop
                  by_cases hfar : s.length ≤ e + 1 + n
                  · have HT := Lib.hid (read_stuck (by omega) HRA.out hlt (HI.out.trans (if_neg (by rw [hrn, List.getElem?_eq_none hfar]; simp))))
                    have hfar' : (s.length : Int) ≤ (e : Int) + 1 + (n : Int) := by omega
                    go_wp2
                    obtain ⟨q0, q1, q2⟩ := slot_set (w := w) (.int .i64 1) (.int .i64 fs.length) t0 t1 tb
                    exact bodyPost_ret (v := .tuple #[.slice none 0 0, .agg #[.int .i64 1, .int .i64 fs.length]]) (by simp [results, Tryz.results13, go_sem, q0, q1]) rfl ⟨⟨_, by rw [HT.out]; rfl, by rw [HT.out]; exact World.ownsRow_nil _ _ _ _⟩, q2⟩
                  · have hfar' : decide ((s.length : Int) ≤ (e : Int) + 1 + (n : Int)) = false := by simp; omega
                    have hlt2 : e + 1 + n < s.length := by omega
                    have hsz2 : e + 1 + n < ({ data := s.toArray } : ByteArray).size := by simpa [ByteArray.size] using hlt2
                    by_cases hb10 : s[e + 1 + n] = 10
                    · have hbyte2 : ((({ data := s.toArray } : ByteArray)[e + 1 + n]'hsz2).toNat : Int) = 10 := by
                        show ((s[e + 1 + n]).toNat : Int) = 10
                        rw [hb10]; rfl
                      have hi2 : (e : Int) + 1 + (n : Int) < (s.length : Int) := by omega
                      have hc : cutFileL (s.drop k) = some (⟨a, true, (s.drop (e + 1)).take n⟩, s.drop (e + n + 2)) := by
                        rw [HI.out, if_pos (by rw [hrn, List.getElem?_eq_getElem hlt2, hb10]), List.drop_drop]
                        congr 3
                        omega
                      have hne0 : s.drop k ≠ [] := fun h => by have := congrArg List.length h; simp at this; omega
                      have HSR2 : Hid (packL (fs ++ [⟨a, true, (s.drop (e + 1)).take n⟩]) ++ s.drop (e + n + 2) = s) := by
                        show packL (fs ++ [_]) ++ _ = s
                        rw [packL_snoc, List.append_assoc, ← cutFile_some hc]
                        exact HSR.out
                      have HRA2 : Hid (readA s = ((fs ++ [⟨a, true, (s.drop (e + 1)).take n⟩]) ++ (readA (s.drop (e + n + 2))).1, (readA (s.drop (e + n + 2))).2)) := by
                        show readA s = _
                        rw [HRA.out, readA_good hne0 hc]
                        simp
                      have etx : ({ data := s.toArray } : ByteArray).extract (e + 1) (e + 1 + n) = ⟨((s.drop (e + 1)).take n).toArray⟩ := by
                        rw [extract_list]
                        congr 3
                        omega
                      have hneg2 := own_far hrow2 hgh
                      have hwr1 : IntKind.i64.wrap ((e : Int) + 1) = (e : Int) + 1 := by rw [IntKind.wrap_i64]; omega
                      have hwr2 : IntKind.i64.wrap ((e : Int) + 1 + (n : Int)) = (e : Int) + 1 + (n : Int) := by rw [IntKind.wrap_i64]; omega
                      have h00 : (0 : Int) ≤ (e : Int) + 1 := by omega
                      have ht1 : ((e : Int) + 1).toNat = e + 1 := by omega
                      have ht2 : ((e : Int) + 1 + (n : Int)).toNat = e + 1 + n := by omega
                      have hgl : g < w3.heap.size := block_lt_of_cell c0
                      have K0 : Hid (∀ o, (w3.alloc o).cell? ⟨g, 0, none⟩ = some (sv a)) := fun o => (World.cell?_alloc_lt _ _ _ hgl).trans c0
                      have K1 : Hid (∀ o, (w3.alloc o).cell? ⟨g, 1, none⟩ = some (sv [120])) := fun o => (World.cell?_alloc_lt _ _ _ hgl).trans c1
                      have hlo : (e : Int) + 1 ≤ (e : Int) + 1 + (n : Int) := by omega
                      have hup : (e : Int) + 1 + (n : Int) ≤ (s.length : Int) := by omega
                      generalize (s.drop (e + 1)).take n = tx at HSR2 HRA2 etx
                      clear hb10 hc hne0 HI HH hrn
                      go_wp2_with fail
                      go_region_held3 (fun w' => w'.cell? ⟨g, 0, none⟩ = some (sv a) ∧ w'.cell? ⟨g, 1, none⟩ = some (sv [120])) (go_keep)
                        ((refine step_append_lies _ (by rfl) _ _ _ (by rfl) (w.heap.size + 1) 46 i0 (.agg #[.string ⟨#[]⟩, .bool false, .string ⟨#[]⟩]) 3 40 Tryz.underlying22 hi hz0 hz1 hz2 rfl (by decide) _ _ _ (by rfl) (hrow2.alloc _) ⟨w3.heap.size, 0, none⟩ 1 1 (fcells ⟨a, true, tx⟩) (by rfl) rfl (cells_new _ ⟨a, true, tx⟩ _) (by simp [fcells, Value.oneCell']) (by decide) (by unfold maxLen; omega) (by omega) (by simp; omega) (w3.heap.size + 1) (by simp) ?_; intro g' cap' w5 hown5 hgrow5 hat5 hlt5; have d0 : w5.cell? ⟨g, 0, none⟩ = some (sv a) := grown_far (w := w3) hgrow5 (K0.out _) hgl hneg2; have d1 : w5.cell? ⟨g, 1, none⟩ = some (sv [120]) := grown_far (w := w3) hgrow5 (K1.out _) hgl hneg2; have HOWN := Lib.hid hown5; have HGR := Lib.hid hgrow5; clear hown5 hgrow5 hat5 hlt5))
                      have HB5 : Below (w.heap.size + 1) (w.alloc (.cells #[.int .i64 0, .int .i64 0] 31)) w5 := by
                        first
                          | exact (HS2.out.alloc (by omega) _).grown HGR.out (by simp; omega) (fun j ej => (hrow2.lt j ej).1)
                          | exact (HS2.out.alloc (by omega) _).drew.grown HGR.out (by simp; omega) (fun j ej => (hrow2.lt j ej).1)
                          | exact (HS2.out.drew.alloc (by show _ ≤ w3.heap.size; omega) _).grown HGR.out (by simp; omega) (fun j ej => (hrow2.lt j ej).1)
                      have HOWN2 : w5.ownsRow (w.heap.size + 1) 46 3 (.slice (some ⟨g', 0, none⟩) (fs.length + 1) cap') (fs ++ [(⟨a, true, tx⟩ : F)]).length (lcells (fs ++ [(⟨a, true, tx⟩ : F)])) := by
                        rw [lcells_app, List.length_append]
                        simpa [lcells] using HOWN.out
                      have HO2 := Lib.hid HOWN2
                      clear HOWN HOWN2 HGR K0 K1 d0 d1 hrow2 c0 c1 c2
                      go_wp2
                      go_roundw
                      case rel => exact ⟨fs ++ [⟨a, true, tx⟩], e + n + 2, by go_num, by omega, HSR2.out, HRA2.out, HO2.out, HB5⟩
                      case measure => simp [intOf]; omega
                    · have HT := Lib.hid (read_stuck (by omega) HRA.out hlt (HI.out.trans (if_neg (by rw [hrn, List.getElem?_eq_getElem hlt2]; simpa using hb10))))
                      have hbyte2 : ¬ (((({ data := s.toArray } : ByteArray)[e + 1 + n]'hsz2).toNat : Int) = 10) := by
                        show ¬ ((s[e + 1 + n]).toNat : Int) = 10
                        intro e'
                        apply hb10
                        apply UInt8.toNat_inj.1
                        have : (10 : UInt8).toNat = 10 := rfl
                        omega
                      have hi2 : (e : Int) + 1 + (n : Int) < (s.length : Int) := by omega
                      clear hb10
                      go_wp2
                      obtain ⟨q0, q1, q2⟩ := slot_set (w := w) (.int .i64 1) (.int .i64 fs.length) t0 t1 tb
                      exact bodyPost_ret (v := .tuple #[.slice none 0 0, .agg #[.int .i64 1, .int .i64 fs.length]]) (by simp [results, Tryz.results13, go_sem, q0, q1]) rfl ⟨⟨_, by rw [HT.out]; rfl, by rw [HT.out]; exact World.ownsRow_nil _ _ _ _⟩, q2⟩
                · by_cases hf : m = [102]
                  · subst hf
                    have HH : Hid (headOf line = some (a, false, n)) := HO.out.trans (by rw [if_pos ⟨by simp, by omega⟩, hn']; simp)
                    clear hn hn' HO hx
                    have HI := Lib.hid (cutFile_head HLC.out HH.out)
                    have hnb := headOf_bound HH.out
                    have hrn : (s.drop (e + 1))[n]? = s[e + 1 + n]? := List.getElem?_drop
                    by_cases hfar : s.length ≤ e + 1 + n
                    · have HT := Lib.hid (read_stuck (by omega) HRA.out hlt (HI.out.trans (if_neg (by rw [hrn, List.getElem?_eq_none hfar]; simp))))
                      have hfar' : (s.length : Int) ≤ (e : Int) + 1 + (n : Int) := by omega
                      go_wp2
                      obtain ⟨q0, q1, q2⟩ := slot_set (w := w) (.int .i64 1) (.int .i64 fs.length) t0 t1 tb
                      exact bodyPost_ret (v := .tuple #[.slice none 0 0, .agg #[.int .i64 1, .int .i64 fs.length]]) (by simp [results, Tryz.results13, go_sem, q0, q1]) rfl ⟨⟨_, by rw [HT.out]; rfl, by rw [HT.out]; exact World.ownsRow_nil _ _ _ _⟩, q2⟩
                    · have hfar' : decide ((s.length : Int) ≤ (e : Int) + 1 + (n : Int)) = false := by simp; omega
                      have hlt2 : e + 1 + n < s.length := by omega
                      have hsz2 : e + 1 + n < ({ data := s.toArray } : ByteArray).size := by simpa [ByteArray.size] using hlt2
                      by_cases hb10 : s[e + 1 + n] = 10
                      · have hbyte2 : ((({ data := s.toArray } : ByteArray)[e + 1 + n]'hsz2).toNat : Int) = 10 := by
                          show ((s[e + 1 + n]).toNat : Int) = 10
                          rw [hb10]; rfl
                        have hi2 : (e : Int) + 1 + (n : Int) < (s.length : Int) := by omega
                        have hc : cutFileL (s.drop k) = some (⟨a, false, (s.drop (e + 1)).take n⟩, s.drop (e + n + 2)) := by
                          rw [HI.out, if_pos (by rw [hrn, List.getElem?_eq_getElem hlt2, hb10]), List.drop_drop]
                          congr 3
                          omega
                        have hne0 : s.drop k ≠ [] := fun h => by have := congrArg List.length h; simp at this; omega
                        have HSR2 : Hid (packL (fs ++ [⟨a, false, (s.drop (e + 1)).take n⟩]) ++ s.drop (e + n + 2) = s) := by
                          show packL (fs ++ [_]) ++ _ = s
                          rw [packL_snoc, List.append_assoc, ← cutFile_some hc]
                          exact HSR.out
                        have HRA2 : Hid (readA s = ((fs ++ [⟨a, false, (s.drop (e + 1)).take n⟩]) ++ (readA (s.drop (e + n + 2))).1, (readA (s.drop (e + n + 2))).2)) := by
                          show readA s = _
                          rw [HRA.out, readA_good hne0 hc]
                          simp
                        have etx : ({ data := s.toArray } : ByteArray).extract (e + 1) (e + 1 + n) = ⟨((s.drop (e + 1)).take n).toArray⟩ := by
                          rw [extract_list]
                          congr 3
                          omega
                        have hneg2 := own_far hrow2 hgh
                        have hwr1 : IntKind.i64.wrap ((e : Int) + 1) = (e : Int) + 1 := by rw [IntKind.wrap_i64]; omega
                        have hwr2 : IntKind.i64.wrap ((e : Int) + 1 + (n : Int)) = (e : Int) + 1 + (n : Int) := by rw [IntKind.wrap_i64]; omega
                        have h00 : (0 : Int) ≤ (e : Int) + 1 := by omega
                        have ht1 : ((e : Int) + 1).toNat = e + 1 := by omega
                        have ht2 : ((e : Int) + 1 + (n : Int)).toNat = e + 1 + n := by omega
                        have hgl : g < w3.heap.size := block_lt_of_cell c0
                        have K0 : Hid (∀ o, (w3.alloc o).cell? ⟨g, 0, none⟩ = some (sv a)) := fun o => (World.cell?_alloc_lt _ _ _ hgl).trans c0
                        have K1 : Hid (∀ o, (w3.alloc o).cell? ⟨g, 1, none⟩ = some (sv [102])) := fun o => (World.cell?_alloc_lt _ _ _ hgl).trans c1
                        have hlo : (e : Int) + 1 ≤ (e : Int) + 1 + (n : Int) := by omega
                        have hup : (e : Int) + 1 + (n : Int) ≤ (s.length : Int) := by omega
                        generalize (s.drop (e + 1)).take n = tx at HSR2 HRA2 etx
                        clear hb10 hc hne0 HI HH hrn
                        go_wp2_with fail
                        go_region_held3 (fun w' => w'.cell? ⟨g, 0, none⟩ = some (sv a) ∧ w'.cell? ⟨g, 1, none⟩ = some (sv [102])) (go_keep)
                          ((refine step_append_lies _ (by rfl) _ _ _ (by rfl) (w.heap.size + 1) 46 i0 (.agg #[.string ⟨#[]⟩, .bool false, .string ⟨#[]⟩]) 3 40 Tryz.underlying22 hi hz0 hz1 hz2 rfl (by decide) _ _ _ (by rfl) (hrow2.alloc _) ⟨w3.heap.size, 0, none⟩ 1 1 (fcells ⟨a, false, tx⟩) (by rfl) rfl (cells_new _ ⟨a, false, tx⟩ _) (by simp [fcells, Value.oneCell']) (by decide) (by unfold maxLen; omega) (by omega) (by simp; omega) (w3.heap.size + 1) (by simp) ?_; intro g' cap' w5 hown5 hgrow5 hat5 hlt5; have d0 : w5.cell? ⟨g, 0, none⟩ = some (sv a) := grown_far (w := w3) hgrow5 (K0.out _) hgl hneg2; have d1 : w5.cell? ⟨g, 1, none⟩ = some (sv [102]) := grown_far (w := w3) hgrow5 (K1.out _) hgl hneg2; have HOWN := Lib.hid hown5; have HGR := Lib.hid hgrow5; clear hown5 hgrow5 hat5 hlt5))
                        have HB5 : Below (w.heap.size + 1) (w.alloc (.cells #[.int .i64 0, .int .i64 0] 31)) w5 := by
                          first
                            | exact (HS2.out.alloc (by omega) _).grown HGR.out (by simp; omega) (fun j ej => (hrow2.lt j ej).1)
                            | exact (HS2.out.alloc (by omega) _).drew.grown HGR.out (by simp; omega) (fun j ej => (hrow2.lt j ej).1)
                            | exact (HS2.out.drew.alloc (by show _ ≤ w3.heap.size; omega) _).grown HGR.out (by simp; omega) (fun j ej => (hrow2.lt j ej).1)
                        have HOWN2 : w5.ownsRow (w.heap.size + 1) 46 3 (.slice (some ⟨g', 0, none⟩) (fs.length + 1) cap') (fs ++ [(⟨a, false, tx⟩ : F)]).length (lcells (fs ++ [(⟨a, false, tx⟩ : F)])) := by
                          rw [lcells_app, List.length_append]
                          simpa [lcells] using HOWN.out
                        have HO2 := Lib.hid HOWN2
                        clear HOWN HOWN2 HGR K0 K1 d0 d1 hrow2 c0 c1 c2
                        go_wp2
                        go_roundw
                        case rel => exact ⟨fs ++ [⟨a, false, tx⟩], e + n + 2, by go_num, by omega, HSR2.out, HRA2.out, HO2.out, HB5⟩
                        case measure => simp [intOf]; omega
                      · have HT := Lib.hid (read_stuck (by omega) HRA.out hlt (HI.out.trans (if_neg (by rw [hrn, List.getElem?_eq_getElem hlt2]; simpa using hb10))))
                        have hbyte2 : ¬ (((({ data := s.toArray } : ByteArray)[e + 1 + n]'hsz2).toNat : Int) = 10) := by
                          show ¬ ((s[e + 1 + n]).toNat : Int) = 10
                          intro e'
                          apply hb10
                          apply UInt8.toNat_inj.1
                          have : (10 : UInt8).toNat = 10 := rfl
                          omega
                        have hi2 : (e : Int) + 1 + (n : Int) < (s.length : Int) := by omega
                        clear hb10
                        go_wp2
                        obtain ⟨q0, q1, q2⟩ := slot_set (w := w) (.int .i64 1) (.int .i64 fs.length) t0 t1 tb
                        exact bodyPost_ret (v := .tuple #[.slice none 0 0, .agg #[.int .i64 1, .int .i64 fs.length]]) (by simp [results, Tryz.results13, go_sem, q0, q1]) rfl ⟨⟨_, by rw [HT.out]; rfl, by rw [HT.out]; exact World.ownsRow_nil _ _ _ _⟩, q2⟩
                  · have HT := Lib.hid (read_stuck (by omega) HRA.out hlt (cutFile_noHead HLC.out (HO.out.trans (if_neg (fun h => h.1.elim hx hf)))))
                    have hx' : (m == [120]) = false := by simpa using hx
                    have hf' : (m == [102]) = false := by simpa using hf
                    clear hn hn' HO hx hf
                    go_wp2
                    obtain ⟨q0, q1, q2⟩ := slot_set (w := w) (.int .i64 1) (.int .i64 fs.length) t0 t1 tb
                    exact bodyPost_ret (v := .tuple #[.slice none 0 0, .agg #[.int .i64 1, .int .i64 fs.length]]) (by simp [results, Tryz.results13, go_sem, q0, q1]) rfl ⟨⟨_, by rw [HT.out]; rfl, by rw [HT.out]; exact World.ownsRow_nil _ _ _ _⟩, q2⟩
            · have HT := Lib.hid (read_stuck (by omega) HRA.out hlt (cutFile_noHead HLC.out (headOf_few h3)))
              obtain ⟨va, vc, rfl⟩ := ownsRow_slice hvrow
              have h3' : ¬ (((piecesBy 32 line).length : Int) = 3) := by omega
              generalize (piecesBy 32 line).length = pn at h3'
              clear hvrow h3
              go_wp2
              obtain ⟨q0, q1, q2⟩ := slot_set (w := w) (.int .i64 1) (.int .i64 fs.length) t0 t1 tb
              exact bodyPost_ret (v := .tuple #[.slice none 0 0, .agg #[.int .i64 1, .int .i64 fs.length]]) (by simp [results, Tryz.results13, go_sem, q0, q1]) rfl ⟨⟨_, by rw [HT.out]; rfl, by rw [HT.out]; exact World.ownsRow_nil _ _ _ _⟩, q2⟩
          · have hbyte : ¬ (((({ data := s.toArray } : ByteArray)[e]'hsz).toNat : Int) = 10) := by
              show ¬ ((s[e]).toNat : Int) = 10
              intro e'
              apply h10
              apply UInt8.toNat_inj.1
              have : (10 : UInt8).toNat = 10 := rfl
              omega
            have HN2 : Hid (10 ∉ (s.drop k).take (e + 1 - k)) := by
              show 10 ∉ _
              rw [take_more hke hel]
              intro h
              rcases List.mem_append.1 h with h | h
              · exact HNO.out h
              · simp at h; exact h10 h.symm
            clear h10
            go_wp2
            go_roundw
            case rel => exact ⟨e + 1, by go_num, by omega, by omega, HN2.out, trivial⟩
            case measure => simp [intOf]; omega
        · obtain rfl : e = s.length := by omega
          have HT := Lib.hid (read_stuck (by omega) HRA.out hlt (cutFile_noLine (line_none rfl HNO.out)))
          have hkl : (k : Int) ≤ (s.length : Int) := by omega
          have hsl : ({ data := s.toArray } : ByteArray).extract k s.length = ⟨(s.drop k).toArray⟩ := by
            rw [extract_list, List.take_of_length_le (by rw [List.length_drop]; omega)]
          have hdl : (s.drop k).length ≤ 90000 := by rw [List.length_drop]; omega
          go_wp2_with fail
          refine (refCutBlank_any (s.drop k) _ hdl).mono ?_
          rintro e w2 ⟨v, rfl, _, hb2⟩
          obtain ⟨t0, t1, y0, y1, tb⟩ := slot_two (more_below HB.out rfl hb2)
          clear hb2
          go_wp2
          obtain ⟨q0, q1, q2⟩ := slot_set (w := w) (.int .i64 1) (.int .i64 fs.length) t0 t1 tb
          exact bodyPost_ret (v := .tuple #[.slice none 0 0, .agg #[.int .i64 1, .int .i64 fs.length]]) (by simp [results, Tryz.results13, go_sem, q0, q1]) rfl ⟨⟨_, by rw [HT.out]; rfl, by rw [HT.out]; exact World.ownsRow_nil _ _ _ _⟩, q2⟩
    · obtain rfl : k = s.length := by omega
      have hfs : readA s = (fs, true) := by
        have := HRA.out
        rw [List.drop_length, readA_nil] at this
        simpa using this
      have HFS := Lib.hid hfs
      obtain ⟨oa, oc, rfl, hol, hoc⟩ := owns_files hrow
      have HOL := Lib.hid hol
      have HSM : Hid (Small fs) := small_pack (by omega)
      clear hfs hol
      go_wp2_with fail
      refine (refTreeFault_any fs oa oc _ HOL.out HSM.out).mono ?_
      rintro e w1 ⟨rfl, hb1⟩
      have HS1 := Lib.hid (more_below HB.out rfl hb1)
      have hrow1 := owns_below hrow hb1
      clear hb1
      obtain ⟨c, i, hci⟩ := fault_nat fs
      by_cases hz : (treeFault fs).1 = 0
      · have hT := readP_fine (s := s) (by omega) (by rw [HFS.out]) (by rw [HFS.out]; exact hz)
        rw [HFS.out] at hT
        have HT := Lib.hid hT
        rw [treeFault_zero hz]
        clear hz hT hci
        go_wp2_with fail
        obtain ⟨W, hW⟩ : ∃ W, W = w1.alloc (.cells #[.int .i64 0, .int .i64 (-1)] 31) := ⟨_, rfl⟩
        have hbW : Below w1.heap.size w1 W := by rw [hW]; exact (Below.refl _ _).alloc (Nat.le_refl _) _
        have HSW := Lib.hid (more_below HS1.out rfl hbW)
        have hrowW := owns_below hrow1 hbW
        obtain ⟨f0, f1, _, _, _⟩ := slot_two (w := w1) (wr := W) (u := .int .i64 0) (v := .int .i64 (-1)) (T := 31) (by rw [hW]; exact Below.refl _ _)
        have hne : w1.heap.size ≠ w.heap.size := by have := HS1.out.size; simp at this; omega
        rw [← hW]
        clear hW hbW HS1 hrow hrow1
        generalize w1.heap.size = fb at f0 f1 hne ⊢
        obtain ⟨t0, t1, y0, y1, tb⟩ := slot_two HSW.out
        go_region
        all_goals go_wp2
        all_goals
          obtain ⟨q0, q1, q2⟩ := slot_set (w := w) (wr := W) (.int .i64 0) (.int .i64 (-1)) t0 t1 tb
          exact bodyPost_ret (v := .tuple #[.slice oa fs.length oc, .agg #[.int .i64 0, .int .i64 (-1)]]) (by simp [results, Tryz.results13, go_sem, q0, q1]) rfl ⟨⟨_, by rw [HT.out] <;> rfl, by rw [HT.out]; exact owns_slot _ _ hrowW⟩, Below.drew q2⟩
      · have hT := readP_fault (s := s) (by omega) (by rw [HFS.out]) (by rw [HFS.out]; exact hz)
        rw [HFS.out, hci] at hT
        have HT := Lib.hid hT
        have hc : 0 < c := by rw [hci] at hz; simp at hz; omega
        have hc' : (0 : Int) < (c : Int) := by omega
        rw [hci]
        clear hz hT hci
        go_wp2_with fail
        obtain ⟨W, hW⟩ : ∃ W, W = w1.alloc (.cells #[.int .i64 c, .int .i64 i] 31) := ⟨_, rfl⟩
        have hbW : Below w1.heap.size w1 W := by rw [hW]; exact (Below.refl _ _).alloc (Nat.le_refl _) _
        have HSW := Lib.hid (more_below HS1.out rfl hbW)
        have hrowW := owns_below hrow1 hbW
        obtain ⟨f0, f1, _, _, _⟩ := slot_two (w := w1) (wr := W) (u := .int .i64 c) (v := .int .i64 i) (T := 31) (by rw [hW]; exact Below.refl _ _)
        have hne : w1.heap.size ≠ w.heap.size := by have := HS1.out.size; simp at this; omega
        rw [← hW]
        clear hW hbW HS1 hrow hrow1
        generalize w1.heap.size = fb at f0 f1 hne ⊢
        obtain ⟨t0, t1, y0, y1, tb⟩ := slot_two HSW.out
        go_region
        all_goals go_wp2
        all_goals
          obtain ⟨q0, q1, q2⟩ := slot_set (w := w) (wr := W) (.int .i64 c) (.int .i64 i) t0 t1 tb
          exact bodyPost_ret (v := .tuple #[.slice none 0 0, .agg #[.int .i64 c, .int .i64 i]]) (by simp [results, Tryz.results13, go_sem, q0, q1]) rfl ⟨⟨_, by rw [HT.out] <;> rfl, by rw [HT.out]; exact World.ownsRow_nil _ _ _ _⟩, Below.drew q2⟩
end Go.Proofs.YtkcjgncpcidfoaaGreatDoor
