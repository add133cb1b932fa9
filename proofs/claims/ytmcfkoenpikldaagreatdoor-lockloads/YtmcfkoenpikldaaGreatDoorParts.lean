/-
  path.Parts and path.Strip tell of every text that is not too long what the plain functions tell: contracts, over this seat's translation.
-/
import Derived.Test.YtmcfkoenpikldaaGreatDoorPaths
import Derived.Test.YtmcfkoenpikldaaGreatDoorPureFacts
namespace Go.Proofs.YtmcfkoenpikldaaGreatDoor
open Go.RowKit Go.Shelf

attribute [local go_sem] Oper.semAt_some

set_option maxRecDepth 100000 in
set_option maxHeartbeats 2000000 in
/-- slices.AppendSeq(nil, seq), seq what path.cut hands back. -/
theorem appendSeq_any (Bn : Nat) (s : List UInt8) (w : World) (hs : s.length ≤ 90000) (hBn : Bn < w.heap.size) (hc : w.cell? ⟨Bn, 0, none⟩ = some (.string ⟨s.toArray⟩)) :
    Calls Tryz.prog 329 #[.slice none 0 0, .func (.func 250) #[] #[.pointer (some ⟨Bn, 0, none⟩)]] w fun e w' => ∃ v, e = .returned v ∧ w'.ownsRow w.heap.size 9 1 v (pieces s).length ((pieces s).map sv) ∧ Below w.heap.size w w' := by
  obtain ⟨i0, hi, hz0, hz1, hz2⟩ := info_parts Tryz.info9
  refine (callsIn_wide (n := 3)).1 ?_
  refine callsIn_of_wp_marks Tryz.func329 rfl trivial ?_ rfl
  simp only [Tryz.ntmps329, List.size_toArray, List.length_cons, List.length_nil, Nat.reduceAdd, Nat.reduceSub, Array.replicate_succ, Array.replicate_zero, List.push_toArray, List.append_toArray, List.nil_append, List.cons_append]
  gi_wp2
  have b0 := Boxed.new w 35 (.slice none 0 0)
  have hB0 : Below w.heap.size w (w.alloc (.cells #[.slice none 0 0] 35)) := (Below.refl _ w).alloc (Nat.le_refl _) _
  have hc0 : (w.alloc (.cells #[.slice none 0 0] 35)).cell? ⟨Bn, 0, none⟩ = some (.string ⟨s.toArray⟩) := (hB0.cell (p := ⟨Bn, 0, none⟩) hBn).trans hc
  have hpl := pieces_length s
  refine wpIn_rangeFunc_ownG rfl (by omega) (gf := 250) (lb := #[.pointer (some ⟨Bn, 0, none⟩)]) rfl trivial (enters_of Tryz.func250 (by kernel_rfl) rfl)
    (cut_stops _ (by omega) Bn w.heap.size s (by omega) _ (by simp; omega) hc0) belowK_t (belowK_b (by simp)) (Below.refl _ _) (fun _ => rfl)
    (fun pre W => (∃ v, Boxed W w.heap.size 35 v ∧ W.ownsRow w.heap.size 9 1 v pre.length ((pre.map (·.1)).map sv) ∧ True) ∧ Below w.heap.size w W)
    (fun _ _ _ => False)
    (OwnFrom.and (Own.from (holdsRow_own w.heap.size w.heap.size 35 9 1 (fun pre : List Pc => pre.length) (fun pre : List Pc => (pre.map (·.1)).map sv) (fun _ _ => True)) _) (ownFrom_below (Nat.le_refl _) (by simp)))
    (fun _ _ _ _ _ hs _ _ => hs)
    ⟨⟨_, b0, World.ownsRow_nil _ _ _ _, trivial⟩, hB0⟩
    (fun x => { tmps := #[.slice none 0 0, .func (.func 250) #[] #[.pointer (some ⟨Bn, 0, none⟩)], .pointer (some ⟨w.heap.size, 0, none⟩), undef, .slice none 0 0, .string ⟨x.1.toArray⟩, .func (.func 250) #[] #[.pointer (some ⟨Bn, 0, none⟩)], .string ⟨x.1.toArray⟩, undef, undef, undef, undef, undef], defers := [] }) ?assign ?body ?done ?stop
  case assign =>
    intro l x W K hK
    gi_wp2
    exact hK
  case body =>
    rintro l pre ⟨x, hx⟩ W ⟨⟨v, hv, hrow, _⟩, hB⟩ hlt
    have hc2 := hv.cell
    have hBs := hB.size
    have hl2 : pre.length < 90001 := by omega
    have HB : Hid (Below w.heap.size w W) := hB
    clear hB
    gi_wp2_with (gi_at_builtin; refine wpListIn_append_own _ rfl _ _ 35 rfl w.heap.size 9 i0 (.string ⟨#[]⟩) 1 16 Tryz.underlying35 hi hz0 hz1 hz2 rfl (by decide) _ _ _ rfl (hrow.alloc _) ⟨W.heap.size, 0, none⟩ 1 1 [.string ⟨x.toArray⟩] rfl rfl (cell_one_new _ _ _) (by simp [Value.oneCell']) (by unfold maxLen; omega) (by omega) (by simp; omega) ?_; intro v' w1 hown' hgrow _; obtain ⟨g', cap', rfl⟩ := ownsRow_succ hown'; obtain ⟨hv1, hv2, hr2, hk2, hb2'⟩ := hv.appended (by decide) hrow hBs (Nat.le_refl _) hown' hgrow; have hc3 := hv1.cell; have hf3 := hv1.frozen)
    refine ⟨hk2.from _, hb2', ⟨_, hv2, ?_⟩, HB.out.trans hb2'⟩
    first | exact ⟨by simpa using hr2, trivial⟩ | simpa using hr2
  case done =>
    rintro D ys W hD hys ⟨⟨v, hv, hrow, _⟩, hB⟩ hK
    have hc2 := hv.cell
    have hlen : ys.length = (pieces s).length := by rw [← hys]; simp
    rw [hys, hlen] at hrow
    clear hys hlen
    gi_wp2
    refine ⟨by simp, .inl ⟨_, _, rfl, run_takeDeferred hK, ?_⟩⟩
    exact ⟨_, results_tmp rfl _ _ _, v, rfl, ownsRow_putObj hrow _ hK rfl, hB.trans (belowK_b (w := w) (Nat.le_refl _) W D _ _ (by simp at hD; omega) hK rfl rfl)⟩
  case stop =>
    rintro D c pre W _ _ h _
    exact h.elim

/-- slices.Collect of what path.cut hands back. -/
theorem collect_any (Bn : Nat) (s : List UInt8) (w : World) (hs : s.length ≤ 90000) (hBn : Bn < w.heap.size) (hc : w.cell? ⟨Bn, 0, none⟩ = some (.string ⟨s.toArray⟩)) :
    Calls Tryz.prog 327 #[.func (.func 250) #[] #[.pointer (some ⟨Bn, 0, none⟩)]] w fun e w' => ∃ v, e = .returned v ∧ w'.ownsRow w.heap.size 9 1 v (pieces s).length ((pieces s).map sv) ∧ Below w.heap.size w w' := by
  have HC : Hid (w.cell? ⟨Bn, 0, none⟩ = some (.string ⟨s.toArray⟩)) := hc
  clear hc
  go_enter Tryz.func327, Tryz.ntmps327
  go_wp2_with fail
  refine (appendSeq_any Bn s _ hs hBn HC.out).mono ?_
  rintro e w1 ⟨v, rfl, hrow, hb⟩
  have HR : Hid (w1.ownsRow w.heap.size 9 1 v (pieces s).length ((pieces s).map sv)) := hrow
  have HB : Hid (Below w.heap.size w w1) := hb
  clear hrow hb
  go_wp2
  go_ret
  exact ⟨v, rfl, HR.out, HB.out⟩

theorem parts_bad (p : Nat → Addr) (s : List UInt8) (k : Nat) (w : World) (hE : Env p w) (hs : s.length ≤ 90000) (h : checkCode s = k + 1) :
    Calls Tryz.prog 319 #[.string ⟨s.toArray⟩] w fun e w' => e = .returned (.tuple #[.slice none 0 0, .iface 379 (.pointer (some (p k)))]) ∧ Below w.heap.size w w' := by
  have HE : Hid (Env p w) := hE
  have H : Hid (checkCode s = k + 1) := h
  clear hE h
  go_enter Tryz.func319, Tryz.ntmps319
  go_wp2_with fail
  refine (check_bad p s k _ HE.out hs H.out).mono ?_
  rintro e w1 ⟨rfl, hb⟩
  have HB : Hid (Below w.heap.size w w1) := hb
  clear hb
  go_wp2
  go_ret2
  exact ⟨rfl, HB.out⟩

theorem parts_ok (p : Nat → Addr) (s : List UInt8) (w : World) (hE : Env p w) (hs : s.length ≤ 90000) (h : checkCode s = 0) :
    Calls Tryz.prog 319 #[.string ⟨s.toArray⟩] w fun e w' => ∃ v, e = .returned (.tuple #[v, .nilIface]) ∧ w'.ownsRow w.heap.size 9 1 v (pieces s).length ((pieces s).map sv) ∧ Below w.heap.size w w' := by
  have HE : Hid (Env p w) := hE
  have H : Hid (checkCode s = 0) := h
  clear hE h
  go_enter Tryz.func319, Tryz.ntmps319
  go_wp2_with fail
  refine (check_ok p s _ HE.out hs H.out).mono ?_
  rintro e w1 ⟨rfl, hb⟩
  have hsz := hb.size
  have HB : Hid (Below w.heap.size w w1) := hb
  clear hb
  go_wp2_with fail
  refine (cut_fn s _).mono ?_
  rintro e w2 ⟨rfl, rfl⟩
  go_wp2_with fail
  refine (collect_any w1.heap.size s _ hs (by simp) (Boxed.new w1 9 (.string ⟨s.toArray⟩)).cell).mono ?_
  rintro e w3 ⟨v, rfl, hrow, hb3⟩
  have HR : Hid (w3.ownsRow w.heap.size 9 1 v (pieces s).length ((pieces s).map sv)) := hrow.mono (by simp; omega)
  have HB3 : Hid (Below w.heap.size w w3) := HB.out.trans ((((Below.refl _ w1).alloc (Nat.le_refl _) _).trans (hb3.mono (by simp))).mono hsz)
  clear hrow hb3
  go_wp2
  go_ret2
  exact ⟨v, rfl, HR.out, HB3.out⟩

/-- strings.Join of a part of a slice. -/
theorem join_off (g o cap : Nat) (k : List (List UInt8)) (w : World) (hcell : ∀ j (h : j < k.length), w.cell? ⟨g, o + j, none⟩ = some (.string ⟨(k[j]).toArray⟩)) (hg : g < w.heap.size) (hcap : k.length ≤ cap) (hk : k.length ≤ 100000) (hM : ∀ x ∈ k, x.length ≤ 100000) :
    Calls Tryz.prog 139 #[.slice (some ⟨g, o, none⟩) k.length cap, .string ⟨#[47]⟩] w fun e w' => e = .returned (.string ⟨(Lib.join k [47]).toArray⟩) ∧ Below w.heap.size w w' := by
  have hl := join_length hM
  have hmap : (k.map fun l => (⟨l.toArray⟩ : ByteArray)).map (·.data.toList) = k := by
    rw [List.map_map]
    have : ((fun x : ByteArray => x.data.toList) ∘ fun l : List UInt8 => (⟨l.toArray⟩ : ByteArray)) = id := by funext l; simp
    rw [this, List.map_id]
  have := Tryz.strings_Join g o cap (k.map fun l => ⟨l.toArray⟩) ⟨#[47]⟩ w (fun j x hx => by
      have hj : j < k.length := by
        have := (List.getElem?_eq_some_iff.1 hx).1
        simpa using this
      rw [hcell j hj]
      rw [List.getElem?_map, List.getElem?_eq_getElem hj] at hx
      simp at hx ⊢
      exact hx) hg (by simp; omega) (by simpa using hcap) (by
      rw [hmap]
      have e : (⟨#[47]⟩ : ByteArray).data.toList = [47] := rfl
      rw [e]
      omega)
  rw [hmap, List.length_map] at this
  exact this

/-- What a slice that owns some pieces holds, cell by cell. -/
theorem owns_cells {w : World} {base g cap n : Nat} {k : List (List UInt8)} (hrow : w.ownsRow base 9 1 (.slice (some ⟨g, 0, none⟩) n cap) n (k.map sv)) (hn : n = k.length) :
    (∀ j (h : j < k.length), w.cell? ⟨g, j, none⟩ = some (.string ⟨(k[j]).toArray⟩)) ∧ g < w.heap.size ∧ n ≤ cap ∧ cap ≤ maxLen := by
  refine ⟨fun j h => ?_, (hrow.lt g rfl).2, ?_⟩
  · rw [hrow.cellAt j (by omega), List.getElem?_map, List.getElem?_eq_getElem h]
    rfl
  · rcases hrow.2 with ⟨h, _⟩ | ⟨g', cap', cur, hv', _, _, h1, h2, _⟩
    · cases h
    · cases hv'; exact ⟨h1, h2⟩

set_option maxRecDepth 100000 in
set_option maxHeartbeats 2000000 in
theorem strip_is (p : Nat → Addr) (s : List UInt8) (n : Int) (w : World) (hE : Env p w) (hs : s.length ≤ 90000) :
    Calls Tryz.prog 305 #[.string ⟨s.toArray⟩, .int .i64 n] w fun e w' => e = .returned (.tuple #[.string ⟨(stripL s n).1.toArray⟩, errV p (stripL s n).2]) ∧ Below w.heap.size w w' := by
  have HE : Hid (Env p w) := hE
  clear hE
  cases hc : checkCode s with
  | succ k =>
    have HS : Hid (stripL s n = ([], k + 1)) := by
      show stripL s n = _
      unfold stripL
      rw [hc]; simp
    have H : Hid (checkCode s = k + 1) := hc
    rw [HS.out]
    clear hc
    go_enter Tryz.func305, Tryz.ntmps305
    go_wp2_with fail
    refine (parts_bad p s k _ HE.out hs H.out).mono ?_
    rintro e w1 ⟨rfl, hb⟩
    have HB : Hid (Below w.heap.size w w1) := hb
    clear hb
    go_wp2
    go_ret2
    exact ⟨rfl, HB.out⟩
  | zero =>
    have H : Hid (checkCode s = 0) := hc
    have HS : Hid (stripL s n = if n < 0 then ([], 2) else if ((pieces s).length : Int) ≤ n then ([], 3) else (Lib.join ((pieces s).drop n.toNat) [47], 0)) := by
      show stripL s n = _
      unfold stripL
      rw [hc]; simp
    have HPT : Hid (∀ x ∈ pieces s, isPart x = true) := (checkCode_zero.1 hc).1
    have hp6 := (checkCode_zero.1 hc).2
    have hpn : 1 ≤ (pieces s).length := by
      have := pieces_ne s
      rcases hl : pieces s with _ | ⟨x, r⟩
      · exact absurd hl this
      · simp
    clear hc
    by_cases hn : n < 0
    · rw [HS.out, if_pos hn]
      go_enter Tryz.func305, Tryz.ntmps305
      go_wp2_with fail
      refine (parts_ok p s _ HE.out hs H.out).mono ?_
      rintro e w1 ⟨v, rfl, hrow, hb⟩
      have HB : Hid (Below w.heap.size w w1) := hb
      have hg := (HE.out.below hb).s1
      clear hb hrow
      go_wp2_with fail
      go_quiet (fail)
      go_wp2
      go_ret2
      exact ⟨rfl, below_drewN HB.out _⟩
    · obtain ⟨m, rfl⟩ := Int.eq_ofNat_of_zero_le (by omega : 0 ≤ n)
      by_cases hl : (pieces s).length ≤ m
      · have hl' : ((pieces s).length : Int) ≤ (m : Int) := by omega
        rw [HS.out, if_neg hn, if_pos hl']
        clear hn
        go_enter Tryz.func305, Tryz.ntmps305
        go_wp2_with fail
        refine (parts_ok p s _ HE.out hs H.out).mono ?_
        rintro e w1 ⟨v, rfl, hrow, hb⟩
        have HB : Hid (Below w.heap.size w w1) := hb
        have hg := (HE.out.below hb).s2
        obtain ⟨a, cap, rfl⟩ := ownsRow_slice hrow
        clear hb hrow
        go_wp2_with fail
        go_quiet (fail)
        go_wp2
        go_ret2
        exact ⟨rfl, below_drewN HB.out _⟩
      · have hl' : ¬ ((pieces s).length : Int) ≤ (m : Int) := by omega
        rw [HS.out, if_neg hn, if_neg hl', Int.toNat_natCast]
        clear hn
        go_enter Tryz.func305, Tryz.ntmps305
        go_wp2_with fail
        refine (parts_ok p s _ HE.out hs H.out).mono ?_
        rintro e w1 ⟨v, rfl, hrow, hb⟩
        have HB : Hid (Below w.heap.size w w1) := hb
        clear hb
        obtain ⟨q, hq⟩ : ∃ q, (pieces s).length = q + 1 := ⟨(pieces s).length - 1, by omega⟩
        have hrow' := hrow
        rw [hq] at hrow'
        obtain ⟨g, cap, rfl⟩ := ownsRow_succ hrow'
        rw [← hq] at hrow
        obtain ⟨hcell, hgl, hcap1, hcap2⟩ := owns_cells hrow rfl
        unfold maxLen at hcap2
        have HCELL : Hid (∀ j (h : j < (pieces s).length), w1.cell? ⟨g, j, none⟩ = some (.string ⟨((pieces s)[j]).toArray⟩)) := hcell
        rw [← hq]
        clear hrow hrow' hcell hq
        go_wp2_with fail
        have HJ := join_off g m (cap - m) ((pieces s).drop m) w1 (fun j h => by
          have h' : m + j < (pieces s).length := by rw [List.length_drop] at h; omega
          rw [HCELL.out (m + j) h', List.getElem_drop]) hgl (by rw [List.length_drop]; omega) (by rw [List.length_drop]; omega) (fun x hx => by have := isPart_length (HPT.out x (List.mem_of_mem_drop hx)); omega)
        rw [List.length_drop] at HJ
        refine HJ.mono ?_
        rintro e w2 ⟨rfl, hb2⟩
        clear HJ
        have HB2 : Hid (Below w.heap.size w w2) := HB.out.trans (hb2.mono HB.out.size)
        clear hb2
        go_wp2
        go_ret2
        exact ⟨rfl, HB2.out⟩

theorem strip_ok (p : Nat → Addr) (s c : List UInt8) (n : Int) (w : World) (hE : Env p w) (hs : s.length ≤ 90000) (h : stripL s n = (c, 0)) :
    Calls Tryz.prog 305 #[.string ⟨s.toArray⟩, .int .i64 n] w fun e w' => e = .returned (.tuple #[.string ⟨c.toArray⟩, .nilIface]) ∧ Below w.heap.size w w' := by
  have := strip_is p s n w hE hs
  rwa [h] at this
theorem strip_bad (p : Nat → Addr) (s c : List UInt8) (k : Nat) (n : Int) (w : World) (hE : Env p w) (hs : s.length ≤ 90000) (h : stripL s n = (c, k + 1)) :
    Calls Tryz.prog 305 #[.string ⟨s.toArray⟩, .int .i64 n] w fun e w' => e = .returned (.tuple #[.string ⟨c.toArray⟩, .iface 379 (.pointer (some (p k)))]) ∧ Below w.heap.size w w' := by
  have := strip_is p s n w hE hs
  rwa [h] at this
end Go.Proofs.YtmcfkoenpikldaaGreatDoor
