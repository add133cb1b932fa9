/-
  The document's net: Host: a contract, over this seat's translation.
-/
import Derived.Test.YtkokdpidgikdkaaDoorRefNetPut
namespace Go.Proofs.YtkokdpidgikdkaaDoor
open Go.RowKit Go.Shelf

/-- Another list of hosts, in new memory, stored in the net's field. -/
theorem RefAt.hosts {w w2 : World} {mb : Nat} {vL vO v' : Value} {s : Ns} (h : RefAt w mb vL vO s) (hb : Below w.heap.size w w2) {off : List (List UInt8)} (hown : w2.ownsRow w.heap.size 9 1 v' off.length (off.map sv)) :
    RefLeft w mb vL vO { s with off := off } (w2.setCell ⟨mb, 1, none⟩ v') vL v' := by
  have h2 := h.below hb
  have hlt := h.lt
  have hL : ∀ g, vL.ownBlock = some g → mb < g ∧ g < w.heap.size := fun g e => by have := h.rows.lt g e; omega
  have hv' : ∀ g, v'.ownBlock = some g → w.heap.size ≤ g := fun g e => (hown.lt g e).1
  refine ⟨⟨?_, World.cell?_setCell_same' _ _ _ (by rw [h2.c1]; rfl), ?_, fun j => ?_, ?_, ?_, fun g hg e => ?_⟩, ?_, ?_, fun g hg => .inl hg, fun g hg => .inr (hv' g hg)⟩
  · rw [World.cell?_setCell_other (h := by simp)]; exact h2.c0
  · rw [World.cell?_setCell_other (h := by simp)]; exact h2.c2
  · rw [World.frozen?_setCell]; exact h2.live j
  · exact ownsRow_setCell_other h2.rows (a := ⟨mb, 1, none⟩) (fun e => by have := hL mb e; omega) v'
  · exact ownsRow_setCell_other (hown.mono (by omega)) (a := ⟨mb, 1, none⟩) (fun e => by have := hv' mb e; omega) v'
  · have := hL g hg
    have := hv' g e
    omega
  · exact (hb.mono (Nat.le_of_lt hlt)).setCell (p := ⟨mb, 1, none⟩) (Nat.le_refl _) _
  · exact (Kept.of_below hb).trans (Kept.set w2 (.inl rfl) v')

theorem filter_take {l : List (List UInt8)} {q : Nat} (h : List UInt8) (hq : q < l.length) : (l.take (q + 1)).filter (fun x => !(x == h)) = (l.take q).filter (fun x => !(x == h)) ++ (if l[q] = h then [] else [l[q]]) := by
  rw [List.take_succ_eq_append_getElem hq, List.filter_append]
  congr 1
  by_cases e : l[q] = h
  · rw [if_pos e]; simp [e]
  · rw [if_neg e]; simp [e]

set_option maxRecDepth 100000 in
set_option maxHeartbeats 4000000 in
theorem refHost_any (mb : Nat) (vL vO : Value) (s : Ns) (hs : List UInt8) (on : Bool) (w : World) (h : RefAt w mb vL vO s) (ho : s.off.length ≤ 100000) (hh : hs.length ≤ 90000) :
    Calls Tryd.prog 22 #[.pointer (some ⟨mb, 0, none⟩), .string ⟨hs.toArray⟩, .bool on] w fun e w' => e = .returned (.int .i64 (hostN s hs on).2) ∧ ∃ vL' vO', RefLeft w mb vL vO (hostN s hs on).1 w' vL' vO' := by
  obtain ⟨i0, hi, hz0, hz1, hz2⟩ := info_parts Tryd.info9
  have H := Lib.hid h
  obtain ⟨av, cv, hv⟩ := owns_slice h.offs
  subst hv
  clear h
  go_enter Tryd.func22, Tryd.ntmps22
  cases hp : isPart hs with
  | false =>
    have HC := Lib.hid (hostN_bad (s := s) (on := on) hp)
    go_wp2_with fail
    refine (refIsPart_is hs false _ (by omega) hp).mono ?_
    rintro e w' ⟨rfl, hw'⟩
    obtain rfl : w = w' := hw'.symm
    go_wp2
    go_ret
    exact ⟨by rw [HC.out]; rfl, vL, _, by rw [HC.out]; exact RefLeft.same H.out⟩
  | true =>
    have HC := Lib.hid (hostN_good (s := s) (on := on) hp)
    go_wp2_with fail
    refine (refIsPart_is hs true _ (by omega) hp).mono ?_
    rintro e w' ⟨rfl, hw'⟩
    obtain rfl : w = w' := hw'.symm
    clear hp
    go_wp2_with fail
    go_loopw [8, 9] (fun v i wr => ∃ q : Nat, q ≤ s.off.length ∧ i = .int .i64 q ∧ wr.ownsRow w.heap.size 9 1 v ((s.off.take q).filter (fun x => !(x == hs))).length (((s.off.take q).filter (fun x => !(x == hs))).map sv) ∧ Below w.heap.size w wr) (fun _ i _ => s.off.length - (intOf i).toNat)
    case atStart => exact ⟨0, by omega, rfl, by simpa using World.ownsRow_nil _ _ _ _, Below.refl _ _⟩
    case round =>
      obtain ⟨q, hq, rfl, hrow, hb⟩ := hrel
      have HB := Lib.hid hb
      have HR := Lib.hid (H.out.below hb)
      have hbs := hb.size
      have c1 := HR.out.c1
      have hfl : ((s.off.take q).filter (fun x => !(x == hs))).length ≤ q := Nat.le_trans (List.length_filter_le _ _) (by simp; omega)
      clear hb
      by_cases hlt : q < s.off.length
      · have hlt' : (q : Int) < (s.off.length : Int) := by omega
        obtain ⟨g, cap, hv2, hcap, _⟩ := owns_at HR.out.offs (by omega)
        cases hv2
        have k0 : wr.cell? ⟨g, q, none⟩ = some (.string ⟨(s.off[q]).toArray⟩) := by
          rw [HR.out.offs.cellAt q (by omega), List.getElem?_map, List.getElem?_eq_getElem hlt]
          rfl
        have HF := Lib.hid (filter_take hs hlt)
        generalize (s.off.take q).filter (fun x => !(x == hs)) = L at hrow HF hfl
        by_cases hx : s.off[q] = hs
        · have HF2 : Hid ((s.off.take (q + 1)).filter (fun x => !(x == hs)) = L) := by
            show _ = L
            rw [HF.out, if_pos hx, List.append_nil]
          have hx' : (s.off[q] == hs) = true := by simp [hx]
          clear hx
          generalize s.off[q] = x at k0 hx'
          go_wp2
          go_roundw
          case rel => exact ⟨q + 1, by omega, by go_num, by rw [HF2.out]; exact hrow, HB.out⟩
          case measure => simp [intOf]; omega
        · have HF2 : Hid ((s.off.take (q + 1)).filter (fun x => !(x == hs)) = L ++ [s.off[q]]) := by
            show _ = L ++ [s.off[q]]
            rw [HF.out, if_neg hx]
          have hx' : (s.off[q] == hs) = false := by simpa using hx
          clear hx HF
          generalize s.off[q] = x at k0 hx' HF2
          go_wp2_with (at_builtin; refine wpList_append_own _ rfl _ _ 27 rfl w.heap.size 9 i0 (.string ⟨#[]⟩) 1 16 Tryd.underlying27 hi hz0 hz1 hz2 rfl (by decide) _ _ _ rfl (hrow.alloc _) ⟨wr.heap.size, 0, none⟩ 1 1 [.string ⟨x.toArray⟩] rfl rfl (cell_one_new _ _ _) (by simp [Value.oneCell']) (by unfold maxLen; omega) (by omega) (by simp; omega) ?_; intro v' w2 hown' hgrow _)
          have HB2 : Below w.heap.size w w2 := (HB.out.alloc hbs _).grown hgrow (by simp; omega) (fun j ej => (hrow.lt j ej).1)
          refine ⟨⟨q + 1, by omega, by go_num, ?_, HB2⟩, by simp [intOf]; omega⟩
          rw [HF2.out, List.length_append]
          simpa using hown'
      · have hql : q = s.off.length := by omega
        have HF : Hid ((s.off.take q).filter (fun x => !(x == hs)) = s.off.filter (fun x => !(x == hs))) := by
          show _ = _
          rw [hql, List.take_length]
        rw [HF.out] at hrow hfl
        generalize s.off.filter (fun x => !(x == hs)) = L at hrow HC hfl
        clear HF
        have hz01 := HR.out.live 1
        cases on with
        | true =>
          obtain ⟨a2, cap2, hv2⟩ := owns_slice hrow
          subst hv2
          have hrow2 : wr.ownsRow w.heap.size 9 1 (.slice a2 L.length cap2) (L ++ []).length ((L ++ []).map sv) := by simpa using hrow
          have HX := Lib.hid (H.out.hosts HB.out hrow2)
          clear hql hrow2
          go_wp2
          go_ret
          exact ⟨by rw [HC.out]; rfl, vL, _, by rw [HC.out]; exact HX.out⟩
        | false =>
          have hmlt := HR.out.lt
          have hmw := H.out.lt
          clear hql
          go_wp2_with (at_builtin; refine wpList_append_own _ rfl _ _ 27 rfl w.heap.size 9 i0 (.string ⟨#[]⟩) 1 16 Tryd.underlying27 hi hz0 hz1 hz2 rfl (by decide) _ _ _ rfl (hrow.alloc _) ⟨wr.heap.size, 0, none⟩ 1 1 [.string ⟨hs.toArray⟩] rfl rfl (cell_one_new _ _ _) (by simp [Value.oneCell']) (by unfold maxLen; omega) (by omega) (by simp; omega) ?_; intro v' w2 hown' hgrow _; obtain ⟨a2, cap2, hv2⟩ := owns_slice hown'; subst hv2; have HB2 := Lib.hid ((HB.out.alloc hbs _).grown hgrow (by simp; omega) (fun j ej => (hrow.lt j ej).1)); have q1 : w2.cell? ⟨mb, 1, none⟩ = some (.slice av s.off.length cv) := (HB2.out.cell (p := ⟨mb, 1, none⟩) hmw).trans H.out.c1; have qz : w2.frozen? ⟨mb, 1, none⟩ = false := (HB2.out.frozen (p := ⟨mb, 1, none⟩) hmw).trans (H.out.live 1))
          have hown2 : w2.ownsRow w.heap.size 9 1 (.slice a2 (L.length + 1) cap2) (L ++ [hs]).length ((L ++ [hs]).map sv) := by simpa using hown'
          have HX := Lib.hid (H.out.hosts HB2.out hown2)
          go_ret
          exact ⟨by rw [HC.out]; rfl, vL, _, by rw [HC.out]; exact HX.out⟩
end Go.Proofs.YtkokdpidgikdkaaDoor
