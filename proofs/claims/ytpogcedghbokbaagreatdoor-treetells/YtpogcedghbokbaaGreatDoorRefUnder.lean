/-
  The document's answer for trees: UnderOf: over this seat's translation.
-/
import Derived.Test.YtpogcedghbokbaaGreatDoorRefDrop
namespace Go.Proofs.YtpogcedghbokbaaGreatDoor
open Go.RowKit Go.Shelf

theorem under_take {l : List F} {k : Nat} (dir : List UInt8) (hk : k < l.length) : underL (l.take (k + 1)) dir = underL (l.take k) dir ++ (if isIn l[k].p dir = true then [cutF dir l[k]] else []) := by
  rw [List.take_succ_eq_append_getElem hk]
  unfold underL
  rw [List.filter_append, List.map_append]
  by_cases h : isIn l[k].p dir = true
  · rw [if_pos h, List.filter_cons, if_pos h]; rfl
  · rw [if_neg h, List.filter_cons, if_neg h]; rfl

theorem isIn_length {s dir : List UInt8} (h : isIn s dir = true) (hd : dir ≠ []) : dir.length + 1 ≤ s.length := by
  simp only [isIn, Bool.and_eq_true, Bool.or_eq_true] at h
  rcases h.2 with h | h
  · exact absurd (List.isEmpty_iff.1 h) hd
  · have h' : dir ++ [47] <+: s := by simpa [Lib.hasPrefix] using h
    have := h'.length_le
    simpa using this

theorem cells_at_new (W : World) (f : F) (T : TypeId) (n : Nat) (hn : n = W.heap.size) : ∀ j u, (fcells f)[j]? = some u → (W.alloc (.cells #[sv f.p, .bool f.r, sv f.t] T)).cell? ((⟨n, 0, none⟩ : Addr).add j) = some u := by
  subst hn
  exact cells_new W f T

theorem cells_three (W : World) (x y z : Value) (T : TypeId) (n : Nat) (hn : n = W.heap.size) : ∀ j u, [x, y, z][j]? = some u → (W.alloc (.cells #[x, y, z] T)).cell? ((⟨n, 0, none⟩ : Addr).add j) = some u := by
  subst hn
  intro j u h
  have hn := heap_new W (.cells #[x, y, z] T)
  have hc : ∀ k, (W.alloc (.cells #[x, y, z] T)).cell? ⟨W.heap.size, k, none⟩ = #[x, y, z][k]? := fun k => by
    unfold World.cell?
    rw [hn]
    rfl
  rcases j with _ | _ | _ | j
  · exact (hc 0).trans h
  · exact (hc (0 + 1)).trans h
  · exact (hc (0 + 2)).trans h
  · simp at h

theorem rest_list (l : List UInt8) (n : Nat) : ({ data := l.toArray } : ByteArray).extract n l.length = ⟨(l.drop n).toArray⟩ := by
  rw [extract_list]
  congr 2
  rw [List.take_of_length_le (by simp)]

set_option maxRecDepth 100000 in
set_option maxHeartbeats 4000000 in
theorem refUnder_any (l : List F) (a : Option Addr) (ca : Nat) (dir : List UInt8) (w : World) (hl : LiesAt w a l) (hs : Small l) (hd : dir.length ≤ 40000) :
    Calls Tryz.prog 22 #[.slice a l.length ca, .string ⟨dir.toArray⟩] w fun e w' => (∃ v, e = .returned v ∧ w'.ownsRow w.heap.size 24 3 v (underL l dir).length (lcells (underL l dir))) ∧ Below w.heap.size w w' := by
  have hfew := hs.few
  have HL : Hid (LiesAt w a l) := hl
  have HPATH : Hid (∀ f ∈ l, f.p.length ≤ 40000) := hs.path
  clear hl hs
  obtain ⟨i0, hi, hz0, hz1, hz2⟩ := info_parts Tryz.infoFile
  go_enter Tryz.func22, Tryz.ntmps22
  go_wp2_with fail
  go_loopw [5, 6] (fun out i wr => ∃ k : Nat, k ≤ l.length ∧ i = .int .i64 k ∧ wr.ownsRow w.heap.size 24 3 out (underL (l.take k) dir).length (lcells (underL (l.take k) dir)) ∧ Below w.heap.size w wr) (fun _ i _ => l.length - (intOf i).toNat)
  case atStart => exact ⟨0, by omega, rfl, World.ownsRow_nil _ _ _ _, Below.refl _ _⟩
  case round =>
    obtain ⟨k, hk, rfl, hrow, hb⟩ := hrel
    have HB : Hid (Below w.heap.size w wr) := hb
    clear hb
    have hwl : (underL (l.take k) dir).length ≤ k := by
      unfold underL
      rw [List.length_map]
      refine Nat.le_trans (List.length_filter_le _ _) ?_
      simp; omega
    by_cases hlt : k < l.length
    · have hlt' : (k : Int) < (l.length : Int) := by omega
      obtain ⟨b, o, rfl, c0, c1, c2⟩ := (HL.out.below HB.out).at hlt
      have hpl := HPATH.out _ (List.getElem_mem hlt)
      cases hin : isIn l[k].p dir with
      | false =>
        have HW : Hid (underL (l.take (k + 1)) dir = underL (l.take k) dir) := by
          show underL _ _ = underL _ _
          rw [under_take dir hlt, if_neg (by simp [hin]), List.append_nil]
        have HI : Hid (isIn l[k].p dir = false) := hin
        clear hin
        generalize l[k] = f at c0 c1 c2 hpl HI
        go_wp2_with fail
        refine (refIsIn_is f.p dir false _ (by omega) (by omega) HI.out).mono ?_
        rintro e w1 ⟨rfl, hb1⟩
        have hrow1 := owns_below hrow hb1
        have HB1 : Hid (Below w.heap.size w w1) := HB.out.trans (hb1.mono HB.out.size)
        clear hb1
        go_wp2
        go_roundw
        case rel => exact ⟨k + 1, by omega, by go_num, by rw [HW.out]; exact hrow1, HB1.out⟩
        case measure => simp [intOf]; omega
      | true =>
        have HW : Hid (underL (l.take (k + 1)) dir = underL (l.take k) dir ++ [cutF dir l[k]]) := by
          show underL _ _ = _
          rw [under_take dir hlt, if_pos hin]
        have HI : Hid (isIn l[k].p dir = true) := hin
        by_cases hne : dir = []
        · subst hne
          clear hin
          generalize l[k] = f at c0 c1 c2 hpl HI HW
          go_wp2_with fail
          refine (refIsIn_is f.p [] true _ (by omega) (by simp) HI.out).mono ?_
          rintro e w1 ⟨rfl, hb1⟩
          have hrow1 := owns_below hrow hb1
          have d0 : w1.cell? ⟨b, o + k * 3, none⟩ = some (sv f.p) := (hb1.cell (p := ⟨b, o + k * 3, none⟩) (block_lt_of_cell c0)).trans c0
          have d1 : w1.cell? ⟨b, o + k * 3 + 1, none⟩ = some (.bool f.r) := (hb1.cell (p := ⟨b, o + k * 3 + 1, none⟩) (block_lt_of_cell c1)).trans c1
          have d2 : w1.cell? ⟨b, o + k * 3 + 2, none⟩ = some (sv f.t) := (hb1.cell (p := ⟨b, o + k * 3 + 2, none⟩) (block_lt_of_cell c2)).trans c2
          have HB1 : Hid (Below w.heap.size w w1) := HB.out.trans (hb1.mono HB.out.size)
          have hs1 := HB1.out.size
          clear hb1
          go_wp2_with (at_builtin; refine wpList_append_own _ rfl _ _ 22 rfl w.heap.size 24 i0 (.agg #[.string ⟨#[]⟩, .bool false, .string ⟨#[]⟩]) 3 40 Tryz.underlying22 hi hz0 hz1 hz2 rfl (by decide) _ _ _ rfl ((hrow1.alloc _).alloc _) ⟨w1.heap.size + 1, 0, none⟩ 1 1 (fcells f) rfl rfl (cells_at_new (w1.alloc _) f _ _ (by simp)) (by simp [fcells, Value.oneCell']) (by unfold maxLen; omega) (by omega) (by simp; omega) ?_; intro v' w2 hown' hgrow _)
          have HB2 : Below w.heap.size w w2 := ((HB1.out.alloc hs1 _).alloc (by simp; omega) _).grown hgrow (by simp; omega) (fun j ej => (hrow1.lt j ej).1)
          refine ⟨⟨k + 1, by omega, by go_num, ?_, HB2⟩, by simp [intOf]; omega⟩
          rw [HW.out, lcells_app, List.length_append]
          simpa [lcells, cutF] using hown'
        · have hlen := isIn_length hin hne
          have hne' : dir.isEmpty = false := by simpa using hne
          clear hin
          generalize l[k] = f at c0 c1 c2 hpl HI HW hlen
          have hlen' : (dir.length : Int) + 1 ≤ (f.p.length : Int) := by omega
          go_wp2_with fail
          refine (refIsIn_is f.p dir true _ (by omega) (by omega) HI.out).mono ?_
          rintro e w1 ⟨rfl, hb1⟩
          have hrow1 := owns_below hrow hb1
          have d0 : w1.cell? ⟨b, o + k * 3, none⟩ = some (sv f.p) := (hb1.cell (p := ⟨b, o + k * 3, none⟩) (block_lt_of_cell c0)).trans c0
          have d1 : w1.cell? ⟨b, o + k * 3 + 1, none⟩ = some (.bool f.r) := (hb1.cell (p := ⟨b, o + k * 3 + 1, none⟩) (block_lt_of_cell c1)).trans c1
          have d2 : w1.cell? ⟨b, o + k * 3 + 2, none⟩ = some (sv f.t) := (hb1.cell (p := ⟨b, o + k * 3 + 2, none⟩) (block_lt_of_cell c2)).trans c2
          have HB1 : Hid (Below w.heap.size w w1) := HB.out.trans (hb1.mono HB.out.size)
          have hs1 := HB1.out.size
          clear hb1
          go_wp2_with (at_builtin; refine wpList_append_own _ rfl _ _ 22 rfl w.heap.size 24 i0 (.agg #[.string ⟨#[]⟩, .bool false, .string ⟨#[]⟩]) 3 40 Tryz.underlying22 hi hz0 hz1 hz2 rfl (by decide) _ _ _ rfl ((hrow1.alloc _).alloc _) ⟨w1.heap.size + 1, 0, none⟩ 1 1 [.string (({ data := f.p.toArray } : ByteArray).extract (dir.length + 1) f.p.length), .bool f.r, .string ⟨f.t.toArray⟩] rfl rfl (cells_three (w1.alloc _) _ _ _ _ _ (by simp)) (by simp [Value.oneCell']) (by unfold maxLen; omega) (by omega) (by simp; omega) ?_; intro v' w2 hown' hgrow _)
          have HB2 : Below w.heap.size w w2 := ((HB1.out.alloc hs1 _).alloc (by simp; omega) _).grown hgrow (by simp; omega) (fun j ej => (hrow1.lt j ej).1)
          refine ⟨⟨k + 1, by omega, by go_num, ?_, HB2⟩, by simp [intOf]; omega⟩
          rw [rest_list] at hown'
          rw [HW.out, lcells_app, List.length_append]
          simpa [lcells, cutF, hne, fcells] using hown'
    · obtain rfl : k = l.length := by omega
      rw [List.take_length] at hrow
      go_wp2
      go_ret
      exact ⟨⟨_, rfl, hrow⟩, HB.out⟩
end Go.Proofs.YtpogcedghbokbaaGreatDoor
