/-
  Own texts of the proof, joined by program: RefCut, Parts, Ref, RefBegins, RefMore.
-/
import Derived.Test.YtmcfkoenpikldaaGreatDoorCutCheckClean
import Derived.OwnWalk
import Derived.Test.YtmcfkoenpikldaaGreatDoorPaths
import Derived.Test.YtmcfkoenpikldaaGreatDoorPureFacts
import Derived.Test.YtmcfkoenpikldaaGreatDoorPart
/-
  Cut of the document's answer hands back, at a slash, the pieces of the text in new memory: a contract, over this seat's translation.
-/
namespace Go.Proofs.YtmcfkoenpikldaaGreatDoor
open Go.RowKit Go.Shelf

set_option maxRecDepth 100000 in
set_option maxHeartbeats 2000000 in
theorem refCut_any (l : List UInt8) (w : World) (hl : l.length ≤ 90000) :
    Calls Tryz.prog 100 #[.string ⟨l.toArray⟩, .int .u8 47] w fun e w' => ∃ v, e = .returned v ∧ w'.ownsRow w.heap.size 9 1 v (pieces l).length ((pieces l).map sv) ∧ Below w.heap.size w w' := by
  obtain ⟨i0, hi, hz0, hz1, hz2⟩ := info_parts Tryz.info9
  go_enter Tryz.func100, Tryz.ntmps100
  go_wp2_with fail
  go_loopw [5, 6, 7] (fun out fr i wr => ∃ (ps : List (List UInt8)) (f k : Nat), fr = .int .i64 f ∧ i = .int .i64 k ∧ f ≤ k ∧ k ≤ l.length ∧ ps.length ≤ k ∧ pieces l = ps ++ pieces (l.drop f) ∧ 47 ∉ (l.drop f).take (k - f) ∧ wr.ownsRow w.heap.size 9 1 out ps.length (ps.map sv) ∧ Below w.heap.size w wr)
    (fun _ _ i _ => l.length - (intOf i).toNat)
  case atStart => exact ⟨[], 0, 0, rfl, rfl, Nat.le_refl _, Nat.zero_le _, by simp, by simp, by simp, World.ownsRow_nil _ _ _ _, Below.refl _ _⟩
  case round =>
    obtain ⟨ps, f, k, rfl, rfl, hfk, hk, hps, hpc, hno, hrow, hb⟩ := hrel
    have HPC : Hid (pieces l = ps ++ pieces (l.drop f)) := hpc
    have HNO : Hid (47 ∉ (l.drop f).take (k - f)) := hno
    have HB : Hid (Below w.heap.size w wr) := hb
    have hbs := hb.size
    clear hpc hno hb
    by_cases hlt : k < l.length
    · have hsz : k < ({ data := l.toArray } : ByteArray).size := by simpa [ByteArray.size] using hlt
      by_cases h47 : l[k] = 47
      · have hbyte : ((({ data := l.toArray } : ByteArray)[k]'hsz).toNat : Int) = 47 := by
          show ((l[k]).toNat : Int) = 47
          rw [h47]; rfl
        have HD : Hid (l.drop f = (l.drop f).take (k - f) ++ 47 :: l.drop (k + 1)) := drop_cut hfk hlt h47
        clear h47
        go_wp2_with (at_builtin; refine wpList_append_own _ rfl _ _ 35 rfl w.heap.size 9 i0 (.string ⟨#[]⟩) 1 16 Tryz.underlying35 hi hz0 hz1 hz2 rfl (by decide) _ _ _ rfl (hrow.alloc _) ⟨wr.heap.size, 0, none⟩ 1 1 [.string (({ data := l.toArray } : ByteArray).extract f k)] rfl rfl (cell_one_new _ _ _) (by simp [Value.oneCell']) (by unfold maxLen; omega) (by omega) (by simp; omega) ?_; intro v' w1 hown' hgrow _)
        have HB1 : Below w.heap.size w w1 := (HB.out.alloc hbs _).grown hgrow (by simp; omega) (fun j ej => (hrow.lt j ej).1)
        refine ⟨⟨ps ++ [(l.drop f).take (k - f)], k + 1, k + 1, by go_num, by go_num, Nat.le_refl _, by omega, by simp; omega, ?_, by simp, ?_, HB1⟩, by simp [intOf]; omega⟩
        · rw [HPC.out, pieces_some (l := l.drop f) (a := (l.drop f).take (k - f)) (b := l.drop (k + 1)) (by have := cutL_of (l.drop (k + 1)) HNO.out; rwa [← HD.out] at this)]
          simp
        · rw [extract_list] at hown'
          simpa using hown'
      · have hbyte : (((({ data := l.toArray } : ByteArray)[k]'hsz).toNat : Int) == 47) = false := by
          show (((l[k]).toNat : Int) == 47) = false
          rw [beq_eq_false_iff_ne]
          intro e
          apply h47
          apply UInt8.toNat_inj.1
          have : (47 : UInt8).toNat = 47 := rfl
          omega
        have HN2 : Hid (47 ∉ (l.drop f).take (k + 1 - f)) := by
          show 47 ∉ _
          rw [take_more hfk hlt]
          intro h
          rcases List.mem_append.1 h with h | h
          · exact HNO.out h
          · simp at h; exact h47 h.symm
        clear h47
        go_wp2
        go_roundw
        case rel => exact ⟨ps, f, k + 1, rfl, by go_num, by omega, by omega, by omega, HPC.out, HN2.out, hrow, HB.out⟩
        case measure => simp [intOf]; omega
    · have hkl : k = l.length := by omega
      have HPE : Hid (pieces l = ps ++ [l.drop f]) := by
        show pieces l = _
        rw [HPC.out, pieces_none (cutL_no (a := l.drop f) (by have := HNO.out; rwa [List.take_of_length_le (by rw [List.length_drop]; omega)] at this))]
      have hfl : f ≤ l.length := by omega
      clear hkl
      go_wp2_with (at_builtin; refine wpList_append_own _ rfl _ _ 35 rfl w.heap.size 9 i0 (.string ⟨#[]⟩) 1 16 Tryz.underlying35 hi hz0 hz1 hz2 rfl (by decide) _ _ _ rfl (hrow.alloc _) ⟨wr.heap.size, 0, none⟩ 1 1 [.string (({ data := l.toArray } : ByteArray).extract f l.length)] rfl rfl (cell_one_new _ _ _) (by simp [Value.oneCell']) (by unfold maxLen; omega) (by omega) (by simp; omega) ?_; intro v' w1 hown' hgrow _)
      go_ret
      have HB1 : Below w.heap.size w w1 := (HB.out.alloc hbs _).grown hgrow (by simp; omega) (fun j ej => (hrow.lt j ej).1)
      refine ⟨v', rfl, ?_, HB1⟩
      rw [HPE.out]
      rw [extract_list, List.take_of_length_le (by simp)] at hown'
      simpa using hown'
end Go.Proofs.YtmcfkoenpikldaaGreatDoor
/-
  path.Parts and path.Strip tell of every text that is not too long what the plain functions tell: contracts, over this seat's translation.
-/
namespace Go.Proofs.YtmcfkoenpikldaaGreatDoor
open Go.RowKit Go.Shelf

attribute [local go_sem] Oper.semAt_some

set_option maxRecDepth 100000 in
set_option maxHeartbeats 2000000 in
/-- slices.AppendSeq(nil, seq), seq what path.cut hands back. -/
theorem appendSeq_any (Bn : Nat) (s : List UInt8) (w : World) (hs : s.length ≤ 90000) (hBn : Bn < w.heap.size) (hc : w.cell? ⟨Bn, 0, none⟩ = some (.string ⟨s.toArray⟩)) :
    Calls Tryz.prog 329 #[.slice none 0 0, .func (.func 250) #[] #[.pointer (some ⟨Bn, 0, none⟩)]] w fun e w' => ∃ v, e = .returned v ∧ w'.ownsRow w.heap.size 9 1 v (pieces s).length ((pieces s).map sv) ∧ Below w.heap.size w w' := by
  obtain ⟨i0, hi, hz0, hz1, hz2⟩ := info_parts Tryz.info9
  refine (callsIn_wide (n := 3)).1 ?_
  refine callsIn_of_wp_marks Tryz.func329 rfl trivial ?_ rfl
  simp only [Tryz.ntmps329, List.size_toArray, List.length_cons, List.length_nil, Nat.reduceAdd, Nat.reduceSub, Array.replicate_succ, Array.replicate_zero, List.push_toArray, List.append_toArray, List.nil_append, List.cons_append]
  gi_wp2
  have b0 := Boxed.new w 35 (.slice none 0 0)
  have hB0 : Below w.heap.size w (w.alloc (.cells #[.slice none 0 0] 35)) := (Below.refl _ w).alloc (Nat.le_refl _) _
  have hc0 : (w.alloc (.cells #[.slice none 0 0] 35)).cell? ⟨Bn, 0, none⟩ = some (.string ⟨s.toArray⟩) := (hB0.cell (p := ⟨Bn, 0, none⟩) hBn).trans hc
  have hpl := pieces_length s
  refine wpIn_rangeFunc_ownG rfl (by omega) (gf := 250) (lb := #[.pointer (some ⟨Bn, 0, none⟩)]) rfl trivial (enters_of Tryz.func250 (by kernel_rfl) rfl)
    (cut_stops _ (by omega) Bn w.heap.size s (by omega) _ (by simp; omega) hc0) belowK_t (belowK_b (by simp)) (Below.refl _ _) (fun _ => rfl)
    (fun pre W => (∃ v, Boxed W w.heap.size 35 v ∧ W.ownsRow w.heap.size 9 1 v pre.length ((pre.map (·.1)).map sv) ∧ True) ∧ Below w.heap.size w W)
    (fun _ _ _ => False)
    (OwnFrom.and (Own.from (holdsRow_own w.heap.size w.heap.size 35 9 1 (fun pre : List Pc => pre.length) (fun pre : List Pc => (pre.map (·.1)).map sv) (fun _ _ => True)) _) (ownFrom_below (Nat.le_refl _) (by simp)))
    (fun _ _ _ _ _ hs _ _ => hs)
    ⟨⟨_, b0, World.ownsRow_nil _ _ _ _, trivial⟩, hB0⟩
    (fun x => { tmps := #[.slice none 0 0, .func (.func 250) #[] #[.pointer (some ⟨Bn, 0, none⟩)], .pointer (some ⟨w.heap.size, 0, none⟩), undef, .slice none 0 0, .string ⟨x.1.toArray⟩, .func (.func 250) #[] #[.pointer (some ⟨Bn, 0, none⟩)], .string ⟨x.1.toArray⟩, undef, undef, undef, undef, undef], defers := [] }) ?assign ?body ?done ?stop
  case assign =>
    intro l x W K hK
    gi_wp2
    exact hK
  case body =>
    rintro l pre ⟨x, hx⟩ W ⟨⟨v, hv, hrow, _⟩, hB⟩ hlt
    have hc2 := hv.cell
    have hBs := hB.size
    have hl2 : pre.length < 90001 := by omega
    have HB : Hid (Below w.heap.size w W) := hB
    clear hB
    gi_wp2_with (gi_at_builtin; refine wpListIn_append_own _ rfl _ _ 35 rfl w.heap.size 9 i0 (.string ⟨#[]⟩) 1 16 Tryz.underlying35 hi hz0 hz1 hz2 rfl (by decide) _ _ _ rfl (hrow.alloc _) ⟨W.heap.size, 0, none⟩ 1 1 [.string ⟨x.toArray⟩] rfl rfl (cell_one_new _ _ _) (by simp [Value.oneCell']) (by unfold maxLen; omega) (by omega) (by simp; omega) ?_; intro v' w1 hown' hgrow _; obtain ⟨g', cap', rfl⟩ := ownsRow_succ hown'; obtain ⟨hv1, hv2, hr2, hk2, hb2'⟩ := hv.appended (by decide) hrow hBs (Nat.le_refl _) hown' hgrow; have hc3 := hv1.cell; have hf3 := hv1.frozen)
    refine ⟨hk2.from _, hb2', ⟨_, hv2, ?_⟩, HB.out.trans hb2'⟩
    first | exact ⟨by simpa using hr2, trivial⟩ | simpa using hr2
  case done =>
    rintro D ys W hD hys ⟨⟨v, hv, hrow, _⟩, hB⟩ hK
    have hc2 := hv.cell
    have hlen : ys.length = (pieces s).length := by rw [← hys]; simp
    rw [hys, hlen] at hrow
    clear hys hlen
    gi_wp2
    refine ⟨by simp, .inl ⟨_, _, rfl, run_takeDeferred hK, ?_⟩⟩
    exact ⟨_, results_tmp rfl _ _ _, v, rfl, ownsRow_putObj hrow _ hK rfl, hB.trans (belowK_b (w := w) (Nat.le_refl _) W D _ _ (by simp at hD; omega) hK rfl rfl)⟩
  case stop =>
    rintro D c pre W _ _ h _
    exact h.elim

/-- slices.Collect of what path.cut hands back. -/
theorem collect_any (Bn : Nat) (s : List UInt8) (w : World) (hs : s.length ≤ 90000) (hBn : Bn < w.heap.size) (hc : w.cell? ⟨Bn, 0, none⟩ = some (.string ⟨s.toArray⟩)) :
    Calls Tryz.prog 327 #[.func (.func 250) #[] #[.pointer (some ⟨Bn, 0, none⟩)]] w fun e w' => ∃ v, e = .returned v ∧ w'.ownsRow w.heap.size 9 1 v (pieces s).length ((pieces s).map sv) ∧ Below w.heap.size w w' := by
  have HC : Hid (w.cell? ⟨Bn, 0, none⟩ = some (.string ⟨s.toArray⟩)) := hc
  clear hc
  go_enter Tryz.func327, Tryz.ntmps327
  go_wp2_with fail
  refine (appendSeq_any Bn s _ hs hBn HC.out).mono ?_
  rintro e w1 ⟨v, rfl, hrow, hb⟩
  have HR : Hid (w1.ownsRow w.heap.size 9 1 v (pieces s).length ((pieces s).map sv)) := hrow
  have HB : Hid (Below w.heap.size w w1) := hb
  clear hrow hb
  go_wp2
  go_ret
  exact ⟨v, rfl, HR.out, HB.out⟩

theorem parts_bad (p : Nat → Addr) (s : List UInt8) (k : Nat) (w : World) (hE : Env p w) (hs : s.length ≤ 90000) (h : checkCode s = k + 1) :
    Calls Tryz.prog 319 #[.string ⟨s.toArray⟩] w fun e w' => e = .returned (.tuple #[.slice none 0 0, .iface 379 (.pointer (some (p k)))]) ∧ Below w.heap.size w w' := by
  have HE : Hid (Env p w) := hE
  have H : Hid (checkCode s = k + 1) := h
  clear hE h
  go_enter Tryz.func319, Tryz.ntmps319
  go_wp2_with fail
  refine (check_bad p s k _ HE.out hs H.out).mono ?_
  rintro e w1 ⟨rfl, hb⟩
  have HB : Hid (Below w.heap.size w w1) := hb
  clear hb
  go_wp2
  go_ret2
  exact ⟨rfl, HB.out⟩

theorem parts_ok (p : Nat → Addr) (s : List UInt8) (w : World) (hE : Env p w) (hs : s.length ≤ 90000) (h : checkCode s = 0) :
    Calls Tryz.prog 319 #[.string ⟨s.toArray⟩] w fun e w' => ∃ v, e = .returned (.tuple #[v, .nilIface]) ∧ w'.ownsRow w.heap.size 9 1 v (pieces s).length ((pieces s).map sv) ∧ Below w.heap.size w w' := by
  have HE : Hid (Env p w) := hE
  have H : Hid (checkCode s = 0) := h
  clear hE h
  go_enter Tryz.func319, Tryz.ntmps319
  go_wp2_with fail
  refine (check_ok p s _ HE.out hs H.out).mono ?_
  rintro e w1 ⟨rfl, hb⟩
  have hsz := hb.size
  have HB : Hid (Below w.heap.size w w1) := hb
  clear hb
  go_wp2_with fail
  refine (cut_fn s _).mono ?_
  rintro e w2 ⟨rfl, rfl⟩
  go_wp2_with fail
  refine (collect_any w1.heap.size s _ hs (by simp) (Boxed.new w1 9 (.string ⟨s.toArray⟩)).cell).mono ?_
  rintro e w3 ⟨v, rfl, hrow, hb3⟩
  have HR : Hid (w3.ownsRow w.heap.size 9 1 v (pieces s).length ((pieces s).map sv)) := hrow.mono (by simp; omega)
  have HB3 : Hid (Below w.heap.size w w3) := HB.out.trans ((((Below.refl _ w1).alloc (Nat.le_refl _) _).trans (hb3.mono (by simp))).mono hsz)
  clear hrow hb3
  go_wp2
  go_ret2
  exact ⟨v, rfl, HR.out, HB3.out⟩

/-- strings.Join of a part of a slice. -/
theorem join_off (g o cap : Nat) (k : List (List UInt8)) (w : World) (hcell : ∀ j (h : j < k.length), w.cell? ⟨g, o + j, none⟩ = some (.string ⟨(k[j]).toArray⟩)) (hg : g < w.heap.size) (hcap : k.length ≤ cap) (hk : k.length ≤ 100000) (hM : ∀ x ∈ k, x.length ≤ 100000) :
    Calls Tryz.prog 139 #[.slice (some ⟨g, o, none⟩) k.length cap, .string ⟨#[47]⟩] w fun e w' => e = .returned (.string ⟨(Lib.join k [47]).toArray⟩) ∧ Below w.heap.size w w' := by
  have hl := join_length hM
  have hmap : (k.map fun l => (⟨l.toArray⟩ : ByteArray)).map (·.data.toList) = k := by
    rw [List.map_map]
    have : ((fun x : ByteArray => x.data.toList) ∘ fun l : List UInt8 => (⟨l.toArray⟩ : ByteArray)) = id := by funext l; simp
    rw [this, List.map_id]
  have := Tryz.strings_Join g o cap (k.map fun l => ⟨l.toArray⟩) ⟨#[47]⟩ w (fun j x hx => by
      have hj : j < k.length := by
        have := (List.getElem?_eq_some_iff.1 hx).1
        simpa using this
      rw [hcell j hj]
      rw [List.getElem?_map, List.getElem?_eq_getElem hj] at hx
      simp at hx ⊢
      exact hx) hg (by simp; omega) (by simpa using hcap) (by
      rw [hmap]
      have e : (⟨#[47]⟩ : ByteArray).data.toList = [47] := rfl
      rw [e]
      omega)
  rw [hmap, List.length_map] at this
  exact this

/-- What a slice that owns some pieces holds, cell by cell. -/
theorem owns_cells {w : World} {base g cap n : Nat} {k : List (List UInt8)} (hrow : w.ownsRow base 9 1 (.slice (some ⟨g, 0, none⟩) n cap) n (k.map sv)) (hn : n = k.length) :
    (∀ j (h : j < k.length), w.cell? ⟨g, j, none⟩ = some (.string ⟨(k[j]).toArray⟩)) ∧ g < w.heap.size ∧ n ≤ cap ∧ cap ≤ maxLen := by
  refine ⟨fun j h => ?_, (hrow.lt g rfl).2, ?_⟩
  · rw [hrow.cellAt j (by omega), List.getElem?_map, List.getElem?_eq_getElem h]
    rfl
  · rcases hrow.2 with ⟨h, _⟩ | ⟨g', cap', cur, hv', _, _, h1, h2, _⟩
    · cases h
    · cases hv'; exact ⟨h1, h2⟩

set_option maxRecDepth 100000 in
set_option maxHeartbeats 2000000 in
theorem strip_is (p : Nat → Addr) (s : List UInt8) (n : Int) (w : World) (hE : Env p w) (hs : s.length ≤ 90000) :
    Calls Tryz.prog 305 #[.string ⟨s.toArray⟩, .int .i64 n] w fun e w' => e = .returned (.tuple #[.string ⟨(stripL s n).1.toArray⟩, errV p (stripL s n).2]) ∧ Below w.heap.size w w' := by
  have HE : Hid (Env p w) := hE
  clear hE
  cases hc : checkCode s with
  | succ k =>
    have HS : Hid (stripL s n = ([], k + 1)) := by
      show stripL s n = _
      unfold stripL
      rw [hc]; simp
    have H : Hid (checkCode s = k + 1) := hc
    rw [HS.out]
    clear hc
    go_enter Tryz.func305, Tryz.ntmps305
    go_wp2_with fail
    refine (parts_bad p s k _ HE.out hs H.out).mono ?_
    rintro e w1 ⟨rfl, hb⟩
    have HB : Hid (Below w.heap.size w w1) := hb
    clear hb
    go_wp2
    go_ret2
    exact ⟨rfl, HB.out⟩
  | zero =>
    have H : Hid (checkCode s = 0) := hc
    have HS : Hid (stripL s n = if n < 0 then ([], 2) else if ((pieces s).length : Int) ≤ n then ([], 3) else (Lib.join ((pieces s).drop n.toNat) [47], 0)) := by
      show stripL s n = _
      unfold stripL
      rw [hc]; simp
    have HPT : Hid (∀ x ∈ pieces s, isPart x = true) := (checkCode_zero.1 hc).1
    have hp6 := (checkCode_zero.1 hc).2
    have hpn : 1 ≤ (pieces s).length := by
      have := pieces_ne s
      rcases hl : pieces s with _ | ⟨x, r⟩
      · exact absurd hl this
      · simp
    clear hc
    by_cases hn : n < 0
    · rw [HS.out, if_pos hn]
      go_enter Tryz.func305, Tryz.ntmps305
      go_wp2_with fail
      refine (parts_ok p s _ HE.out hs H.out).mono ?_
      rintro e w1 ⟨v, rfl, hrow, hb⟩
      have HB : Hid (Below w.heap.size w w1) := hb
      have hg := (HE.out.below hb).s1
      clear hb hrow
      go_wp2_with fail
      go_quiet (fail)
      go_wp2
      go_ret2
      exact ⟨rfl, below_drewN HB.out _⟩
    · obtain ⟨m, rfl⟩ := Int.eq_ofNat_of_zero_le (by omega : 0 ≤ n)
      by_cases hl : (pieces s).length ≤ m
      · have hl' : ((pieces s).length : Int) ≤ (m : Int) := by omega
        rw [HS.out, if_neg hn, if_pos hl']
        clear hn
        go_enter Tryz.func305, Tryz.ntmps305
        go_wp2_with fail
        refine (parts_ok p s _ HE.out hs H.out).mono ?_
        rintro e w1 ⟨v, rfl, hrow, hb⟩
        have HB : Hid (Below w.heap.size w w1) := hb
        have hg := (HE.out.below hb).s2
        obtain ⟨a, cap, rfl⟩ := ownsRow_slice hrow
        clear hb hrow
        go_wp2_with fail
        go_quiet (fail)
        go_wp2
        go_ret2
        exact ⟨rfl, below_drewN HB.out _⟩
      · have hl' : ¬ ((pieces s).length : Int) ≤ (m : Int) := by omega
        rw [HS.out, if_neg hn, if_neg hl', Int.toNat_natCast]
        clear hn
        go_enter Tryz.func305, Tryz.ntmps305
        go_wp2_with fail
        refine (parts_ok p s _ HE.out hs H.out).mono ?_
        rintro e w1 ⟨v, rfl, hrow, hb⟩
        have HB : Hid (Below w.heap.size w w1) := hb
        clear hb
        obtain ⟨q, hq⟩ : ∃ q, (pieces s).length = q + 1 := ⟨(pieces s).length - 1, by omega⟩
        have hrow' := hrow
        rw [hq] at hrow'
        obtain ⟨g, cap, rfl⟩ := ownsRow_succ hrow'
        rw [← hq] at hrow
        obtain ⟨hcell, hgl, hcap1, hcap2⟩ := owns_cells hrow rfl
        unfold maxLen at hcap2
        have HCELL : Hid (∀ j (h : j < (pieces s).length), w1.cell? ⟨g, j, none⟩ = some (.string ⟨((pieces s)[j]).toArray⟩)) := hcell
        rw [← hq]
        clear hrow hrow' hcell hq
        go_wp2_with fail
        have HJ := join_off g m (cap - m) ((pieces s).drop m) w1 (fun j h => by
          have h' : m + j < (pieces s).length := by rw [List.length_drop] at h; omega
          rw [HCELL.out (m + j) h', List.getElem_drop]) hgl (by rw [List.length_drop]; omega) (by rw [List.length_drop]; omega) (fun x hx => by have := isPart_length (HPT.out x (List.mem_of_mem_drop hx)); omega)
        rw [List.length_drop] at HJ
        refine HJ.mono ?_
        rintro e w2 ⟨rfl, hb2⟩
        clear HJ
        have HB2 : Hid (Below w.heap.size w w2) := HB.out.trans (hb2.mono HB.out.size)
        clear hb2
        go_wp2
        go_ret2
        exact ⟨rfl, HB2.out⟩

theorem strip_ok (p : Nat → Addr) (s c : List UInt8) (n : Int) (w : World) (hE : Env p w) (hs : s.length ≤ 90000) (h : stripL s n = (c, 0)) :
    Calls Tryz.prog 305 #[.string ⟨s.toArray⟩, .int .i64 n] w fun e w' => e = .returned (.tuple #[.string ⟨c.toArray⟩, .nilIface]) ∧ Below w.heap.size w w' := by
  have := strip_is p s n w hE hs
  rwa [h] at this
theorem strip_bad (p : Nat → Addr) (s c : List UInt8) (k : Nat) (n : Int) (w : World) (hE : Env p w) (hs : s.length ≤ 90000) (h : stripL s n = (c, k + 1)) :
    Calls Tryz.prog 305 #[.string ⟨s.toArray⟩, .int .i64 n] w fun e w' => e = .returned (.tuple #[.string ⟨c.toArray⟩, .iface 379 (.pointer (some (p k)))]) ∧ Below w.heap.size w w' := by
  have := strip_is p s n w hE hs
  rwa [h] at this
end Go.Proofs.YtmcfkoenpikldaaGreatDoor
/-
  The document's answer for paths tells what the plain functions tell: IsPart, PartsOf, PathError, SameTexts, glue, Begins: contracts, over this seat's translation.
-/
namespace Go.Proofs.YtmcfkoenpikldaaGreatDoor
open Go.RowKit Go.Shelf

theorem partByte_of {c : UInt8} (h : c.toNat = 45 ∨ c.toNat = 46 ∨ (48 ≤ c.toNat ∧ c.toNat ≤ 57) ∨ c.toNat = 95 ∨ (97 ≤ c.toNat ∧ c.toNat ≤ 122)) : partByte c = true := by
  rw [← partInt_byte]; simp [partInt]; omega
theorem partByte_not {c : UInt8} (h : c.toNat < 45 ∨ c.toNat = 47 ∨ (58 ≤ c.toNat ∧ c.toNat ≤ 94) ∨ c.toNat = 96 ∨ 123 ≤ c.toNat) : partByte c = false := by
  rw [← partInt_byte]; simp [partInt]; omega

set_option maxHeartbeats 4000000 in
theorem refIsPart_any (l : List UInt8) (w : World) (hl : l.length ≤ 100000) : Calls Tryz.prog 123 #[.string ⟨l.toArray⟩] w fun e w' => e = .returned (.bool (isPart l)) ∧ w' = w := by
  go_enter Tryz.func123, Tryz.ntmps123
  go_wp2_with fail
  go_loop [3] (fun i => ∃ k : Nat, k ≤ l.length ∧ i = .int .i64 k ∧ (l.take k).all partByte = true) (fun i => l.length - (intOf i).toNat)
  case atStart => exact ⟨0, by omega, rfl, by simp⟩
  case round =>
    obtain ⟨k, hk, rfl, hall⟩ := hrel
    have HA : Hid ((l.take k).all partByte = true) := hall
    clear hall
    by_cases hlt : k < l.length
    · have hsz : k < ({ data := l.toArray } : ByteArray).size := by simpa [ByteArray.size] using hlt
      have hb255 : ((({ data := l.toArray } : ByteArray)[k]'hsz).toNat : Int) ≤ 255 := by have := (({ data := l.toArray } : ByteArray)[k]'hsz).toNat_lt; omega
      have HY : Hid (partByte l[k] = true → (l.take (k + 1)).all partByte = true) := fun hp => by
        rw [List.take_succ_eq_append_getElem hlt, List.all_append, HA.out]; simp [hp]
      have HN : Hid (partByte l[k] = false → isPart l = false) := fun hp => by
        have : l.all partByte = false := by
          rw [List.all_eq_false]
          exact ⟨l[k], List.getElem_mem hlt, by simp [hp]⟩
        simp [isPart, this]
      have HT : Hid ((({ data := l.toArray } : ByteArray)[k]'hsz).toNat = l[k].toNat) := rfl
      have hc : ((({ data := l.toArray } : ByteArray)[k]'hsz).toNat : Int) < 45 ∨ ((({ data := l.toArray } : ByteArray)[k]'hsz).toNat : Int) = 45 ∨ ((({ data := l.toArray } : ByteArray)[k]'hsz).toNat : Int) = 46 ∨ ((({ data := l.toArray } : ByteArray)[k]'hsz).toNat : Int) = 47
        ∨ (48 ≤ ((({ data := l.toArray } : ByteArray)[k]'hsz).toNat : Int) ∧ ((({ data := l.toArray } : ByteArray)[k]'hsz).toNat : Int) ≤ 57) ∨ (58 ≤ ((({ data := l.toArray } : ByteArray)[k]'hsz).toNat : Int) ∧ ((({ data := l.toArray } : ByteArray)[k]'hsz).toNat : Int) ≤ 94)
        ∨ ((({ data := l.toArray } : ByteArray)[k]'hsz).toNat : Int) = 95 ∨ ((({ data := l.toArray } : ByteArray)[k]'hsz).toNat : Int) = 96 ∨ (97 ≤ ((({ data := l.toArray } : ByteArray)[k]'hsz).toNat : Int) ∧ ((({ data := l.toArray } : ByteArray)[k]'hsz).toNat : Int) ≤ 122) ∨ 123 ≤ ((({ data := l.toArray } : ByteArray)[k]'hsz).toNat : Int) := by omega
      rcases hc with h | h | h | h | ⟨h, h'⟩ | ⟨h, h'⟩ | h | h | ⟨h, h'⟩ | h
      · have HF : Hid (isPart l = false) := HN.out (partByte_not (by have := HT.out; omega))
        have e46 : (((({ data := l.toArray } : ByteArray)[k]'hsz).toNat : Int) == 46) = false := by rw [beq_eq_false_iff_ne]; omega
        have e95 : (((({ data := l.toArray } : ByteArray)[k]'hsz).toNat : Int) == 95) = false := by rw [beq_eq_false_iff_ne]; omega
        have e45 : (((({ data := l.toArray } : ByteArray)[k]'hsz).toNat : Int) == 45) = false := by rw [beq_eq_false_iff_ne]; omega
        have d97 : decide (97 ≤ ((({ data := l.toArray } : ByteArray)[k]'hsz).toNat : Int)) = false := by simp; omega
        have d122 : decide (((({ data := l.toArray } : ByteArray)[k]'hsz).toNat : Int) ≤ 122) = true := by simp; omega
        have d48 : decide (48 ≤ ((({ data := l.toArray } : ByteArray)[k]'hsz).toNat : Int)) = false := by simp; omega
        have d57 : decide (((({ data := l.toArray } : ByteArray)[k]'hsz).toNat : Int) ≤ 57) = true := by simp; omega
        go_wp2
        go_ret
        exact ⟨ret_bool HF.out.symm, rfl⟩
      · have HF : Hid ((l.take (k + 1)).all partByte = true) := HY.out (partByte_of (by have := HT.out; omega))
        have e46 : (((({ data := l.toArray } : ByteArray)[k]'hsz).toNat : Int) == 46) = false := by rw [beq_eq_false_iff_ne]; omega
        have e95 : (((({ data := l.toArray } : ByteArray)[k]'hsz).toNat : Int) == 95) = false := by rw [beq_eq_false_iff_ne]; omega
        have e45 : (((({ data := l.toArray } : ByteArray)[k]'hsz).toNat : Int) == 45) = true := by rw [beq_iff_eq]; omega
        have h1 : 45 ≤ ((({ data := l.toArray } : ByteArray)[k]'hsz).toNat : Int) := by omega
        have h2 : ((({ data := l.toArray } : ByteArray)[k]'hsz).toNat : Int) ≤ 45 := by omega
        clear h
        have d97 : decide (97 ≤ ((({ data := l.toArray } : ByteArray)[k]'hsz).toNat : Int)) = false := by simp; omega
        have d122 : decide (((({ data := l.toArray } : ByteArray)[k]'hsz).toNat : Int) ≤ 122) = true := by simp; omega
        have d48 : decide (48 ≤ ((({ data := l.toArray } : ByteArray)[k]'hsz).toNat : Int)) = false := by simp; omega
        have d57 : decide (((({ data := l.toArray } : ByteArray)[k]'hsz).toNat : Int) ≤ 57) = true := by simp; omega
        go_wp2
        go_round
        case rel => exact ⟨k + 1, by omega, by go_num, HF.out⟩
        case measure => simp [intOf]; omega
      · have HF : Hid ((l.take (k + 1)).all partByte = true) := HY.out (partByte_of (by have := HT.out; omega))
        have e46 : (((({ data := l.toArray } : ByteArray)[k]'hsz).toNat : Int) == 46) = true := by rw [beq_iff_eq]; omega
        have e95 : (((({ data := l.toArray } : ByteArray)[k]'hsz).toNat : Int) == 95) = false := by rw [beq_eq_false_iff_ne]; omega
        have e45 : (((({ data := l.toArray } : ByteArray)[k]'hsz).toNat : Int) == 45) = false := by rw [beq_eq_false_iff_ne]; omega
        have h1 : 46 ≤ ((({ data := l.toArray } : ByteArray)[k]'hsz).toNat : Int) := by omega
        have h2 : ((({ data := l.toArray } : ByteArray)[k]'hsz).toNat : Int) ≤ 46 := by omega
        clear h
        have d97 : decide (97 ≤ ((({ data := l.toArray } : ByteArray)[k]'hsz).toNat : Int)) = false := by simp; omega
        have d122 : decide (((({ data := l.toArray } : ByteArray)[k]'hsz).toNat : Int) ≤ 122) = true := by simp; omega
        have d48 : decide (48 ≤ ((({ data := l.toArray } : ByteArray)[k]'hsz).toNat : Int)) = false := by simp; omega
        have d57 : decide (((({ data := l.toArray } : ByteArray)[k]'hsz).toNat : Int) ≤ 57) = true := by simp; omega
        go_wp2
        go_round
        case rel => exact ⟨k + 1, by omega, by go_num, HF.out⟩
        case measure => simp [intOf]; omega
      · have HF : Hid (isPart l = false) := HN.out (partByte_not (by have := HT.out; omega))
        have e46 : (((({ data := l.toArray } : ByteArray)[k]'hsz).toNat : Int) == 46) = false := by rw [beq_eq_false_iff_ne]; omega
        have e95 : (((({ data := l.toArray } : ByteArray)[k]'hsz).toNat : Int) == 95) = false := by rw [beq_eq_false_iff_ne]; omega
        have e45 : (((({ data := l.toArray } : ByteArray)[k]'hsz).toNat : Int) == 45) = false := by rw [beq_eq_false_iff_ne]; omega
        have h1 : 47 ≤ ((({ data := l.toArray } : ByteArray)[k]'hsz).toNat : Int) := by omega
        have h2 : ((({ data := l.toArray } : ByteArray)[k]'hsz).toNat : Int) ≤ 47 := by omega
        clear h
        have d97 : decide (97 ≤ ((({ data := l.toArray } : ByteArray)[k]'hsz).toNat : Int)) = false := by simp; omega
        have d122 : decide (((({ data := l.toArray } : ByteArray)[k]'hsz).toNat : Int) ≤ 122) = true := by simp; omega
        have d48 : decide (48 ≤ ((({ data := l.toArray } : ByteArray)[k]'hsz).toNat : Int)) = false := by simp; omega
        have d57 : decide (((({ data := l.toArray } : ByteArray)[k]'hsz).toNat : Int) ≤ 57) = true := by simp; omega
        go_wp2
        go_ret
        exact ⟨ret_bool HF.out.symm, rfl⟩
      · have HF : Hid ((l.take (k + 1)).all partByte = true) := HY.out (partByte_of (by have := HT.out; omega))
        have e46 : (((({ data := l.toArray } : ByteArray)[k]'hsz).toNat : Int) == 46) = false := by rw [beq_eq_false_iff_ne]; omega
        have e95 : (((({ data := l.toArray } : ByteArray)[k]'hsz).toNat : Int) == 95) = false := by rw [beq_eq_false_iff_ne]; omega
        have e45 : (((({ data := l.toArray } : ByteArray)[k]'hsz).toNat : Int) == 45) = false := by rw [beq_eq_false_iff_ne]; omega
        have d97 : decide (97 ≤ ((({ data := l.toArray } : ByteArray)[k]'hsz).toNat : Int)) = false := by simp; omega
        have d122 : decide (((({ data := l.toArray } : ByteArray)[k]'hsz).toNat : Int) ≤ 122) = true := by simp; omega
        have d48 : decide (48 ≤ ((({ data := l.toArray } : ByteArray)[k]'hsz).toNat : Int)) = true := by simp; omega
        have d57 : decide (((({ data := l.toArray } : ByteArray)[k]'hsz).toNat : Int) ≤ 57) = true := by simp; omega
        go_wp2
        go_round
        case rel => exact ⟨k + 1, by omega, by go_num, HF.out⟩
        case measure => simp [intOf]; omega
      · have HF : Hid (isPart l = false) := HN.out (partByte_not (by have := HT.out; omega))
        have e46 : (((({ data := l.toArray } : ByteArray)[k]'hsz).toNat : Int) == 46) = false := by rw [beq_eq_false_iff_ne]; omega
        have e95 : (((({ data := l.toArray } : ByteArray)[k]'hsz).toNat : Int) == 95) = false := by rw [beq_eq_false_iff_ne]; omega
        have e45 : (((({ data := l.toArray } : ByteArray)[k]'hsz).toNat : Int) == 45) = false := by rw [beq_eq_false_iff_ne]; omega
        have d97 : decide (97 ≤ ((({ data := l.toArray } : ByteArray)[k]'hsz).toNat : Int)) = false := by simp; omega
        have d122 : decide (((({ data := l.toArray } : ByteArray)[k]'hsz).toNat : Int) ≤ 122) = true := by simp; omega
        have d48 : decide (48 ≤ ((({ data := l.toArray } : ByteArray)[k]'hsz).toNat : Int)) = true := by simp; omega
        have d57 : decide (((({ data := l.toArray } : ByteArray)[k]'hsz).toNat : Int) ≤ 57) = false := by simp; omega
        go_wp2
        go_ret
        exact ⟨ret_bool HF.out.symm, rfl⟩
      · have HF : Hid ((l.take (k + 1)).all partByte = true) := HY.out (partByte_of (by have := HT.out; omega))
        have e46 : (((({ data := l.toArray } : ByteArray)[k]'hsz).toNat : Int) == 46) = false := by rw [beq_eq_false_iff_ne]; omega
        have e95 : (((({ data := l.toArray } : ByteArray)[k]'hsz).toNat : Int) == 95) = true := by rw [beq_iff_eq]; omega
        have e45 : (((({ data := l.toArray } : ByteArray)[k]'hsz).toNat : Int) == 45) = false := by rw [beq_eq_false_iff_ne]; omega
        have h1 : 95 ≤ ((({ data := l.toArray } : ByteArray)[k]'hsz).toNat : Int) := by omega
        have h2 : ((({ data := l.toArray } : ByteArray)[k]'hsz).toNat : Int) ≤ 95 := by omega
        clear h
        have d97 : decide (97 ≤ ((({ data := l.toArray } : ByteArray)[k]'hsz).toNat : Int)) = false := by simp; omega
        have d122 : decide (((({ data := l.toArray } : ByteArray)[k]'hsz).toNat : Int) ≤ 122) = true := by simp; omega
        have d48 : decide (48 ≤ ((({ data := l.toArray } : ByteArray)[k]'hsz).toNat : Int)) = true := by simp; omega
        have d57 : decide (((({ data := l.toArray } : ByteArray)[k]'hsz).toNat : Int) ≤ 57) = false := by simp; omega
        go_wp2
        go_round
        case rel => exact ⟨k + 1, by omega, by go_num, HF.out⟩
        case measure => simp [intOf]; omega
      · have HF : Hid (isPart l = false) := HN.out (partByte_not (by have := HT.out; omega))
        have e46 : (((({ data := l.toArray } : ByteArray)[k]'hsz).toNat : Int) == 46) = false := by rw [beq_eq_false_iff_ne]; omega
        have e95 : (((({ data := l.toArray } : ByteArray)[k]'hsz).toNat : Int) == 95) = false := by rw [beq_eq_false_iff_ne]; omega
        have e45 : (((({ data := l.toArray } : ByteArray)[k]'hsz).toNat : Int) == 45) = false := by rw [beq_eq_false_iff_ne]; omega
        have h1 : 96 ≤ ((({ data := l.toArray } : ByteArray)[k]'hsz).toNat : Int) := by omega
        have h2 : ((({ data := l.toArray } : ByteArray)[k]'hsz).toNat : Int) ≤ 96 := by omega
        clear h
        have d97 : decide (97 ≤ ((({ data := l.toArray } : ByteArray)[k]'hsz).toNat : Int)) = false := by simp; omega
        have d122 : decide (((({ data := l.toArray } : ByteArray)[k]'hsz).toNat : Int) ≤ 122) = true := by simp; omega
        have d48 : decide (48 ≤ ((({ data := l.toArray } : ByteArray)[k]'hsz).toNat : Int)) = true := by simp; omega
        have d57 : decide (((({ data := l.toArray } : ByteArray)[k]'hsz).toNat : Int) ≤ 57) = false := by simp; omega
        go_wp2
        go_ret
        exact ⟨ret_bool HF.out.symm, rfl⟩
      · have HF : Hid ((l.take (k + 1)).all partByte = true) := HY.out (partByte_of (by have := HT.out; omega))
        have e46 : (((({ data := l.toArray } : ByteArray)[k]'hsz).toNat : Int) == 46) = false := by rw [beq_eq_false_iff_ne]; omega
        have e95 : (((({ data := l.toArray } : ByteArray)[k]'hsz).toNat : Int) == 95) = false := by rw [beq_eq_false_iff_ne]; omega
        have e45 : (((({ data := l.toArray } : ByteArray)[k]'hsz).toNat : Int) == 45) = false := by rw [beq_eq_false_iff_ne]; omega
        have d97 : decide (97 ≤ ((({ data := l.toArray } : ByteArray)[k]'hsz).toNat : Int)) = true := by simp; omega
        have d122 : decide (((({ data := l.toArray } : ByteArray)[k]'hsz).toNat : Int) ≤ 122) = true := by simp; omega
        have d48 : decide (48 ≤ ((({ data := l.toArray } : ByteArray)[k]'hsz).toNat : Int)) = true := by simp; omega
        have d57 : decide (((({ data := l.toArray } : ByteArray)[k]'hsz).toNat : Int) ≤ 57) = false := by simp; omega
        go_wp2
        go_round
        case rel => exact ⟨k + 1, by omega, by go_num, HF.out⟩
        case measure => simp [intOf]; omega
      · have HF : Hid (isPart l = false) := HN.out (partByte_not (by have := HT.out; omega))
        have e46 : (((({ data := l.toArray } : ByteArray)[k]'hsz).toNat : Int) == 46) = false := by rw [beq_eq_false_iff_ne]; omega
        have e95 : (((({ data := l.toArray } : ByteArray)[k]'hsz).toNat : Int) == 95) = false := by rw [beq_eq_false_iff_ne]; omega
        have e45 : (((({ data := l.toArray } : ByteArray)[k]'hsz).toNat : Int) == 45) = false := by rw [beq_eq_false_iff_ne]; omega
        have d97 : decide (97 ≤ ((({ data := l.toArray } : ByteArray)[k]'hsz).toNat : Int)) = true := by simp; omega
        have d122 : decide (((({ data := l.toArray } : ByteArray)[k]'hsz).toNat : Int) ≤ 122) = false := by simp; omega
        have d48 : decide (48 ≤ ((({ data := l.toArray } : ByteArray)[k]'hsz).toNat : Int)) = true := by simp; omega
        have d57 : decide (((({ data := l.toArray } : ByteArray)[k]'hsz).toNat : Int) ≤ 57) = false := by simp; omega
        go_wp2
        go_ret
        exact ⟨ret_bool HF.out.symm, rfl⟩
    · have hkl : k = l.length := by omega
      subst hkl
      have HF : Hid (l.all partByte = true) := by have := HA.out; rwa [List.take_length] at this
      clear hlt HA hk
      by_cases h0 : l = []
      · subst h0
        go_wp2
        go_ret
        exact ⟨rfl, rfl⟩
      have hb0 : (1 : Int) ≤ l.length := by
        have : 0 < l.length := List.length_pos_iff.2 h0
        omega
      by_cases h1 : 12 < l.length
      · have HF2 : Hid (isPart l = false) := by show isPart l = false; simp [isPart]; omega
        have hb1 : ¬ (l.length : Int) ≤ 12 := by omega
        clear h0
        go_wp2
        go_ret
        exact ⟨ret_bool HF2.out.symm, rfl⟩
      have hb1 : (l.length : Int) ≤ 12 := by omega
      by_cases h2 : l = [46]
      · subst h2
        go_wp2
        go_ret
        exact ⟨rfl, rfl⟩
      have hb2 : (l == [46]) = false := by simpa using h2
      by_cases h3 : l = [46, 46]
      · subst h3
        go_wp2
        go_ret
        exact ⟨rfl, rfl⟩
      have hb3 : (l == [46, 46]) = false := by simpa using h3
      have HF2 : Hid (isPart l = true) := by
        show isPart l = true
        simp [isPart, h0, h2, h3, HF.out]
        omega
      clear h0 h1 h2 h3
      go_wp2
      go_ret
      exact ⟨ret_bool HF2.out.symm, rfl⟩

theorem refIsPart_is (l : List UInt8) (r : Bool) (w : World) (hl : l.length ≤ 100000) (h : isPart l = r) : Calls Tryz.prog 123 #[.string ⟨l.toArray⟩] w fun e w' => e = .returned (.bool r) ∧ w' = w := by
  have := refIsPart_any l w hl
  rwa [h] at this

theorem pieces_le : ∀ (l : List UInt8), ∀ x ∈ pieces l, x.length ≤ l.length
  | [], x, hx => by simp [pieces] at hx; simp [hx]
  | c :: r, x, hx => by
    have ih := pieces_le r
    unfold pieces at hx
    split at hx
    · rcases List.mem_cons.1 hx with rfl | hx
      · simp
      · have := ih x hx; simp; omega
    · split at hx
      · simp at hx; subst hx; simp
      · rename_i q qs hq
        rcases List.mem_cons.1 hx with rfl | hx
        · have := ih q (by rw [hq]; exact List.mem_cons_self)
          simp; omega
        · have := ih x (by rw [hq]; exact List.mem_cons_of_mem _ hx)
          simp; omega

set_option maxHeartbeats 2000000 in
/-- PartsOf. -/
theorem partsOf_any (s : List UInt8) (w : World) (hs : s.length ≤ 90000) :
    Calls Tryz.prog 223 #[.string ⟨s.toArray⟩] w fun e w' => (∃ v, e = .returned (.tuple #[v, .int .i64 (checkCode s)]) ∧ (checkCode s = 0 → w'.ownsRow w.heap.size 9 1 v (pieces s).length ((pieces s).map sv)) ∧ (checkCode s ≠ 0 → v = .slice none 0 0)) ∧ Below w.heap.size w w' := by
  have hpl := pieces_length s
  have hpn : 1 ≤ (pieces s).length := by
    have := pieces_ne s
    rcases hl : pieces s with _ | ⟨x, r⟩
    · exact absurd hl this
    · simp
  go_enter Tryz.func223, Tryz.ntmps223
  go_wp2_with fail
  refine (refCut_any s _ hs).mono ?_
  rintro e w1 ⟨v, rfl, hrow, hb⟩
  have HB : Hid (Below w.heap.size w w1) := hb
  have HR : Hid (w1.ownsRow w.heap.size 9 1 v (pieces s).length ((pieces s).map sv)) := hrow
  obtain ⟨q, hq⟩ : ∃ q, (pieces s).length = q + 1 := ⟨(pieces s).length - 1, by omega⟩
  have hrow' := hrow
  rw [hq] at hrow'
  obtain ⟨g, cap, rfl⟩ := ownsRow_succ hrow'
  rw [← hq] at hrow
  obtain ⟨hcell, hgl, _, _⟩ := owns_cells hrow rfl
  have HCELL : Hid (∀ j (h : j < (pieces s).length), w1.cell? ⟨g, j, none⟩ = some (.string ⟨((pieces s)[j]).toArray⟩)) := hcell
  rw [← hq] at HR ⊢
  clear hrow hrow' hcell hb hq
  go_wp2_with fail
  go_loop [5] (fun i => ∃ k : Nat, k ≤ (pieces s).length ∧ i = .int .i64 k ∧ ((pieces s).take k).all isPart = true) (fun i => (pieces s).length - (intOf i).toNat)
  case atStart => exact ⟨0, by omega, rfl, by simp⟩
  case round =>
    obtain ⟨k, hk, rfl, hall⟩ := hrel
    have HA : Hid (((pieces s).take k).all isPart = true) := hall
    clear hall
    by_cases hlt : k < (pieces s).length
    · have hc := HCELL.out k hlt
      have hxl := pieces_le s _ (List.getElem_mem hlt)
      by_cases hp : isPart (pieces s)[k] = true
      · have HN : Hid (((pieces s).take (k + 1)).all isPart = true) := by
          show List.all _ _ = true
          rw [List.take_succ_eq_append_getElem hlt, List.all_append, HA.out]; simp [hp]
        have HPI : Hid (isPart (pieces s)[k] = true) := hp
        clear hp
        generalize (pieces s)[k] = x at hc hxl HPI
        go_wp2_with fail
        refine (refIsPart_is x true _ (by omega) HPI.out).mono ?_
        rintro e w2 ⟨rfl, rfl⟩
        go_wp2
        go_round
        case rel => exact ⟨k + 1, by omega, by go_num, HN.out⟩
        case measure => simp [intOf]; omega
      · have hp' : isPart (pieces s)[k] = false := by simpa using hp
        have HC : Hid (checkCode s = 5) := by
          show checkCode s = 5
          have : (pieces s).all isPart = false := by
            rw [List.all_eq_false]
            exact ⟨_, List.getElem_mem hlt, by simp [hp']⟩
          simp [checkCode, this]
        have HPI : Hid (isPart (pieces s)[k] = false) := hp'
        clear hp hp'
        generalize (pieces s)[k] = x at hc hxl HPI
        go_wp2_with fail
        refine (refIsPart_is x false _ (by omega) HPI.out).mono ?_
        rintro e w2 ⟨rfl, rfl⟩
        go_wp2
        go_ret2
        exact ⟨⟨_, by rw [HC.out]; rfl, fun h => absurd (HC.out.symm.trans h) (by decide), fun _ => rfl⟩, HB.out⟩
    · have hkl : k = (pieces s).length := by omega
      have HALL : Hid ((pieces s).all isPart = true) := by
        have := HA.out
        rw [hkl, List.take_length] at this
        exact this
      clear hkl
      by_cases h6 : 6 < (pieces s).length
      · have h6' : (6 : Int) < (pieces s).length := by omega
        have HC : Hid (checkCode s = 8) := by show checkCode s = 8; simp [checkCode, HALL.out, h6]
        go_wp2
        go_ret2
        exact ⟨⟨_, by rw [HC.out]; rfl, fun h => absurd (HC.out.symm.trans h) (by decide), fun _ => rfl⟩, HB.out⟩
      · have h6' : ¬ (6 : Int) < (pieces s).length := by omega
        have HC : Hid (checkCode s = 0) := by show checkCode s = 0; simp [checkCode, HALL.out, h6]
        go_wp2
        go_ret2
        exact ⟨⟨_, by rw [HC.out]; rfl, fun _ => HR.out, fun h => absurd HC.out h⟩, HB.out⟩
end Go.Proofs.YtmcfkoenpikldaaGreatDoor
/-
  The document's answer's Begins: over this seat's translation.
-/
namespace Go.Proofs.YtmcfkoenpikldaaGreatDoor
open Go.RowKit Go.Shelf

theorem begins_any (s q : List UInt8) (w : World) (_hs : s.length ≤ 200000) (_hq : q.length ≤ 200000) : Calls Tryz.prog 131 #[.string ⟨s.toArray⟩, .string ⟨q.toArray⟩] w fun e w' => e = .returned (.bool (Lib.hasPrefix s q)) ∧ w' = w := by
  by_cases h : s.length < q.length
  · have h' : (s.length : Int) < q.length := by omega
    have HF : Hid (Lib.hasPrefix s q = false) := by
      show Lib.hasPrefix s q = false
      rw [Bool.eq_false_iff]
      intro e
      have e' : q <+: s := by simpa [Lib.hasPrefix] using e
      have := e'.length_le
      omega
    go_enter Tryz.func131, Tryz.ntmps131
    go_wp2
    go_ret
    exact ⟨ret_bool HF.out.symm, rfl⟩
  · have h' : ¬ (s.length : Int) < q.length := by omega
    have h2 : q.length ≤ s.length := by omega
    clear h
    go_enter Tryz.func131, Tryz.ntmps131
    go_wp2
    go_ret
    refine ⟨ret_bool ?_, rfl⟩
    rw [extract_list, Lib.toList_data, Bool.eq_iff_iff]
    simp [Lib.hasPrefix]
    rw [List.prefix_iff_eq_take]
    exact eq_comm
end Go.Proofs.YtmcfkoenpikldaaGreatDoor
/-
  The document's answer for paths, further: PathError, SameTexts, glue, Begins, IsIn, StripOf: contracts, over this seat's translation.
-/
namespace Go.Proofs.YtmcfkoenpikldaaGreatDoor
open Go.RowKit Go.Shelf

theorem pathError_any (s : List UInt8) (w : World) (hs : s.length ≤ 90000) :
    Calls Tryz.prog 167 #[.string ⟨s.toArray⟩] w fun e w' => e = .returned (.int .i64 (checkCode s)) ∧ Below w.heap.size w w' := by
  go_enter Tryz.func167, Tryz.ntmps167
  go_wp2_with fail
  refine (partsOf_any s _ hs).mono ?_
  rintro e w1 ⟨⟨v, rfl, _, _⟩, hb⟩
  have HB : Hid (Below w.heap.size w w1) := hb
  clear hb
  go_wp2
  go_ret
  exact ⟨rfl, HB.out⟩

theorem join_snoc {k : List (List UInt8)} (x : List UInt8) (h : k ≠ []) : Lib.join (k ++ [x]) [47] = Lib.join k [47] ++ [47] ++ x := by
  rw [join_app h (by simp), Lib.join_one]; simp

set_option maxHeartbeats 1000000 in
/-- glue. -/
theorem glue_own (g o cap : Nat) (k : List (List UInt8)) (w : World) (hk : k.length ≤ 100000) (hM : ∀ x ∈ k, x.length ≤ 100000) (h : ∀ j (h : j < k.length), w.cell? ⟨g, o + j, none⟩ = some (.string ⟨(k[j]).toArray⟩)) :
    Calls Tryz.prog 256 #[.slice (some ⟨g, o, none⟩) k.length cap] w fun e w' => e = .returned (.string ⟨(Lib.join k [47]).toArray⟩) ∧ w' = w := by
  have H : Hid (∀ j (h : j < k.length), w.cell? ⟨g, o + j, none⟩ = some (.string ⟨(k[j]).toArray⟩)) := h
  have HM : Hid (∀ x ∈ k, x.length ≤ 100000) := hM
  clear h hM
  go_enter Tryz.func256, Tryz.ntmps256
  go_wp2_with fail
  go_loop [3, 4] (fun t i => ∃ q : Nat, q ≤ k.length ∧ i = .int .i64 q ∧ t = .string ⟨(Lib.join (k.take q) [47]).toArray⟩) (fun _ i => k.length - (intOf i).toNat)
  case atStart => exact ⟨0, by omega, rfl, rfl⟩
  case round =>
    obtain ⟨q, hq, rfl, rfl⟩ := hrel
    by_cases hlt : q < k.length
    · have hc := H.out q hlt
      have hxl := HM.out _ (List.getElem_mem hlt)
      have hjl := join_length (M := 100000) (k := k.take q) (fun y hy => HM.out y (List.mem_of_mem_take hy))
      rw [List.length_take, Nat.min_eq_left (by omega)] at hjl
      have hjl' : (Lib.join (k.take q) [47]).length ≤ 20000000000 := by omega
      clear hjl
      by_cases h0 : q = 0
      · subst h0
        have HS : Hid (Lib.join (k.take 1) [47] = k[0]) := by
          show Lib.join _ _ = _
          rw [List.take_succ_eq_append_getElem (by omega)]
          simp [Lib.join_one]
        rw [Nat.add_zero] at hc
        generalize k[0] = x at hc hxl HS
        have hj0 : Lib.join (k.take 0) [47] = [] := by simp [Lib.join_nil]
        rw [hj0]
        clear hjl' hj0
        go_wp2
        go_round
        case rel => exact ⟨1, by omega, by go_num, by rw [HS.out]; first | rfl | (rw [show ({ data := #[] } : ByteArray) = ⟨[].toArray⟩ from rfl, cat_list]; simp)⟩
        case measure => simp [intOf]; omega
      · have HS : Hid (Lib.join (k.take (q + 1)) [47] = Lib.join (k.take q) [47] ++ [47] ++ k[q]) := by
          show Lib.join _ _ = _
          rw [List.take_succ_eq_append_getElem hlt, join_snoc _ (by
            intro e
            have := congrArg List.length e
            rw [List.length_take, List.length_nil] at this
            omega)]
        have h0' : (0 : Int) < q := by omega
        generalize k[q] = x at hc hxl HS
        generalize Lib.join (k.take q) [47] = y at hjl' HS ⊢
        clear h0
        go_wp2
        go_round
        case rel => exact ⟨q + 1, by omega, by go_num, by rw [HS.out, show ({ data := #[47] } : ByteArray) = ⟨[47].toArray⟩ from rfl, cat_list, cat_list]⟩
        case measure => simp [intOf]; omega
    · have hql : q = k.length := by omega
      subst hql
      rw [List.take_length]
      go_wp2
      go_ret
      exact ⟨rfl, rfl⟩

theorem glue_none (a : Option Addr) (cap : Nat) (w : World) : Calls Tryz.prog 256 #[.slice a 0 cap] w fun e w' => e = .returned (.string ⟨#[]⟩) ∧ w' = w := by
  go_enter Tryz.func256, Tryz.ntmps256
  go_wp2_with fail
  refine wp_loop_rounds 1 ?_
  rw [rounds_succ]
  go_wp2
  go_ret
  exact ⟨rfl, rfl⟩

set_option maxHeartbeats 1000000 in
theorem refIsIn_any (s dir : List UInt8) (w : World) (hs : s.length ≤ 90000) (hd : dir.length ≤ 90000) :
    Calls Tryz.prog 222 #[.string ⟨s.toArray⟩, .string ⟨dir.toArray⟩] w fun e w' => e = .returned (.bool (isIn s dir)) ∧ Below w.heap.size w w' := by
  by_cases hc : checkCode s = 0
  · have HC : Hid (((checkCode s : Nat) : Int) = 0) := by show ((checkCode s : Nat) : Int) = 0; rw [hc]; rfl
    have HI : Hid (isIn s dir = (dir.isEmpty || Lib.hasPrefix s (dir ++ [47]))) := by
      show isIn s dir = _
      simp [isIn, hc]
    have HPD : Hid (Lib.hasPrefix s (dir ++ [47]) = true → checkCode dir = 0) := fun h => by
      have h' : dir ++ [47] <+: s := by simpa [Lib.hasPrefix] using h
      obtain ⟨r, hr⟩ := h'
      have e : s = dir ++ 47 :: r := by rw [← hr]; simp
      obtain ⟨hp, hl⟩ := checkCode_zero.1 hc
      rw [e, pieces_app] at hp hl
      rw [checkCode_zero]
      exact ⟨fun x hx => hp x (List.mem_append_left _ hx), by rw [List.length_append] at hl; omega⟩
    clear hc
    go_enter Tryz.func222, Tryz.ntmps222
    go_wp2_with fail
    refine (pathError_any s _ hs).mono ?_
    rintro e w1 ⟨rfl, hb⟩
    have HB : Hid (Below w.heap.size w w1) := hb
    clear hb
    rw [HC.out]
    by_cases h0 : dir = []
    · subst h0
      go_wp2
      go_ret
      exact ⟨ret_bool (by rw [HI.out]; rfl), HB.out⟩
    · have hb0 : dir.isEmpty = false := by simpa using h0
      have HI' : Hid (isIn s dir = Lib.hasPrefix s (dir ++ [47])) := by
        show isIn s dir = _
        rw [HI.out, hb0]; simp
      clear h0 HI
      by_cases hcd : checkCode dir = 0
      · have HCD : Hid (((checkCode dir : Nat) : Int) = 0) := by show ((checkCode dir : Nat) : Int) = 0; rw [hcd]; rfl
        clear hcd
        go_wp2_with fail
        refine (pathError_any dir _ hd).mono ?_
        rintro e w2 ⟨rfl, hb2⟩
        have HB2 : Hid (Below w.heap.size w w2) := HB.out.trans (hb2.mono HB.out.size)
        clear hb2
        rw [HCD.out]
        go_wp2_with fail
        rw [show ({ data := dir.toArray } : ByteArray) ++ { data := #[47] } = ⟨(dir ++ [47]).toArray⟩ from by
          rw [show ({ data := #[47] } : ByteArray) = ⟨[47].toArray⟩ from rfl, cat_list]]
        refine (begins_any s (dir ++ [47]) _ (by omega) (by simp; omega)).mono ?_
        rintro e w3 ⟨rfl, rfl⟩
        rw [← HI'.out]
        go_wp2
        go_ret
        exact ⟨rfl, HB2.out⟩
      · have HF : Hid (isIn s dir = false) := by
          show isIn s dir = false
          rw [HI'.out, Bool.eq_false_iff]
          intro h
          exact hcd (HPD.out h)
        have hne : (((checkCode dir : Nat) : Int) == 0) = false := by rw [beq_eq_false_iff_ne]; omega
        clear hcd
        go_wp2_with fail
        refine (pathError_any dir _ hd).mono ?_
        rintro e w2 ⟨rfl, hb2⟩
        have HB2 : Hid (Below w.heap.size w w2) := HB.out.trans (hb2.mono HB.out.size)
        clear hb2
        go_wp2
        go_ret
        exact ⟨ret_bool HF.out.symm, HB2.out⟩
  · have HF : Hid (isIn s dir = false) := by
      show isIn s dir = _
      simp [isIn, hc]
    have hne : (0 : Int) < ((checkCode s : Nat) : Int) := by omega
    clear hc
    go_enter Tryz.func222, Tryz.ntmps222
    go_wp2_with fail
    refine (pathError_any s _ hs).mono ?_
    rintro e w1 ⟨rfl, hb⟩
    have HB : Hid (Below w.heap.size w w1) := hb
    clear hb
    go_wp2
    go_ret
    exact ⟨ret_bool HF.out.symm, HB.out⟩

set_option maxRecDepth 100000 in
set_option maxHeartbeats 2000000 in
theorem stripOf_any (s : List UInt8) (n : Int) (w : World) (hs : s.length ≤ 90000) :
    Calls Tryz.prog 231 #[.string ⟨s.toArray⟩, .int .i64 n] w fun e w' => e = .returned (.tuple #[.string ⟨(stripL s n).1.toArray⟩, .int .i64 (stripL s n).2]) ∧ Below w.heap.size w w' := by
  by_cases hc : checkCode s = 0
  · have HCZ : Hid (((checkCode s : Nat) : Int) = 0) := by show ((checkCode s : Nat) : Int) = 0; rw [hc]; rfl
    have HC : Hid (checkCode s = 0) := hc
    have HS : Hid (stripL s n = if n < 0 then ([], 2) else if ((pieces s).length : Int) ≤ n then ([], 3) else (Lib.join ((pieces s).drop n.toNat) [47], 0)) := by
      show stripL s n = _
      unfold stripL
      rw [hc]; simp
    have HPT : Hid (∀ x ∈ pieces s, isPart x = true) := (checkCode_zero.1 hc).1
    have hp6 := (checkCode_zero.1 hc).2
    have hpn : 1 ≤ (pieces s).length := by
      have := pieces_ne s
      rcases hl : pieces s with _ | ⟨x, r⟩
      · exact absurd hl this
      · simp
    clear hc
    have hcase : n < 0 ∨ (∃ m : Nat, n = m ∧ (pieces s).length ≤ m) ∨ (∃ m : Nat, n = m ∧ m < (pieces s).length) := by
      by_cases h : n < 0
      · exact .inl h
      · replace h : 0 ≤ n := by omega
        obtain ⟨m, rfl⟩ := Int.eq_ofNat_of_zero_le h
        rcases Nat.lt_or_ge m (pieces s).length with h' | h'
        · exact .inr (.inr ⟨m, rfl, h'⟩)
        · exact .inr (.inl ⟨m, rfl, h'⟩)
    rcases hcase with hn | ⟨m, rfl, hl⟩ | ⟨m, rfl, hl⟩
    · rw [HS.out, if_pos hn]
      go_enter Tryz.func231, Tryz.ntmps231
      go_wp2_with fail
      refine (partsOf_any s _ hs).mono ?_
      rintro e w1 ⟨⟨v, rfl, _, _⟩, hb⟩
      have HB : Hid (Below w.heap.size w w1) := hb
      clear hb
      rw [HCZ.out]
      go_wp2
      go_ret2
      exact ⟨rfl, HB.out⟩
    · have hl' : ((pieces s).length : Int) ≤ (m : Int) := by omega
      rw [HS.out, if_neg (by omega), if_pos hl']
      go_enter Tryz.func231, Tryz.ntmps231
      go_wp2_with fail
      refine (partsOf_any s _ hs).mono ?_
      rintro e w1 ⟨⟨v, rfl, hrow, _⟩, hb⟩
      have HB : Hid (Below w.heap.size w w1) := hb
      obtain ⟨a, cap, rfl⟩ := ownsRow_slice (hrow HC.out)
      clear hb hrow
      rw [HCZ.out]
      go_wp2
      go_ret2
      exact ⟨rfl, HB.out⟩
    · have hl' : ¬ ((pieces s).length : Int) ≤ (m : Int) := by omega
      rw [HS.out, if_neg (by omega), if_neg hl', Int.toNat_natCast]
      go_enter Tryz.func231, Tryz.ntmps231
      go_wp2_with fail
      refine (partsOf_any s _ hs).mono ?_
      rintro e w1 ⟨⟨v, rfl, hr, _⟩, hb⟩
      have HB : Hid (Below w.heap.size w w1) := hb
      have hrow := hr HC.out
      obtain ⟨q, hq⟩ : ∃ q, (pieces s).length = q + 1 := ⟨(pieces s).length - 1, by omega⟩
      have hrow' := hrow
      rw [hq] at hrow'
      obtain ⟨g, cap, rfl⟩ := ownsRow_succ hrow'
      rw [← hq] at hrow
      obtain ⟨hcell, hgl, hcap1, hcap2⟩ := owns_cells hrow rfl
      unfold maxLen at hcap2
      have HCELL : Hid (∀ j (h : j < (pieces s).length), w1.cell? ⟨g, j, none⟩ = some (.string ⟨((pieces s)[j]).toArray⟩)) := hcell
      rw [← hq, HCZ.out]
      clear hrow hrow' hcell hq hb hr
      go_wp2_with fail
      have HJ := glue_own g m (cap - m) ((pieces s).drop m) w1 (by rw [List.length_drop]; omega) (fun x hx => by have := isPart_length (HPT.out x (List.mem_of_mem_drop hx)); omega) (fun j h => by
        have h' : m + j < (pieces s).length := by rw [List.length_drop] at h; omega
        rw [HCELL.out (m + j) h', List.getElem_drop])
      rw [List.length_drop] at HJ
      refine HJ.mono ?_
      rintro e w2 ⟨rfl, rfl⟩
      clear HJ
      go_wp2
      go_ret2
      exact ⟨rfl, HB.out⟩
  · have HS : Hid (stripL s n = ([], checkCode s)) := by
      show stripL s n = _
      unfold stripL
      simp [hc]
    have hne : (0 : Int) < ((checkCode s : Nat) : Int) := by omega
    rw [HS.out]
    clear hc
    go_enter Tryz.func231, Tryz.ntmps231
    go_wp2_with fail
    refine (partsOf_any s _ hs).mono ?_
    rintro e w1 ⟨⟨v, rfl, _, _⟩, hb⟩
    have HB : Hid (Below w.heap.size w w1) := hb
    clear hb
    go_wp2
    go_ret2
    exact ⟨rfl, HB.out⟩
end Go.Proofs.YtmcfkoenpikldaaGreatDoor
