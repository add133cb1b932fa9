/-
  The document's net: SetCut, Get: contracts, over this seat's translation.
-/
import Derived.Test.YtkokdpidgikdkaaDoorNetRow
namespace Go.Proofs.YtkokdpidgikdkaaDoor
open Go.RowKit Go.Shelf

/-- What a call on the document's net leaves: the net, at its block; what lies below it, and what others own, is kept. -/
structure RefLeft (w : World) (mb : Nat) (vL vO : Value) (s' : Ns) (w' : World) (vL' vO' : Value) : Prop where
  ref : RefAt w' mb vL' vO' s'
  below : Below mb w w'
  kept : Kept (fun b => b = mb ∨ vL.ownBlock = some b) w w'
  rowL : ∀ g, vL'.ownBlock = some g → vL.ownBlock = some g ∨ w.heap.size ≤ g
  rowO : ∀ g, vO'.ownBlock = some g → vO.ownBlock = some g ∨ w.heap.size ≤ g
theorem RefLeft.same {w : World} {mb : Nat} {vL vO : Value} {s : Ns} (h : RefAt w mb vL vO s) : RefLeft w mb vL vO s w vL vO :=
  ⟨h, Below.refl _ _, ⟨Nat.le_refl _, fun _ _ _ => rfl⟩, fun _ h => .inl h, fun _ h => .inl h⟩
theorem RefLeft.of_below {w w' : World} {mb : Nat} {vL vO : Value} {s : Ns} (h : RefAt w mb vL vO s) (hb : Below w.heap.size w w') : RefLeft w mb vL vO s w' vL vO :=
  ⟨h.below hb, hb.mono (Nat.le_of_lt h.lt), Kept.of_below hb, fun _ h => .inl h, fun _ h => .inl h⟩
theorem RefLeft.trans {w w1 w2 : World} {mb : Nat} {vL vO vL1 vO1 vL2 vO2 : Value} {s1 s2 : Ns} (h : RefLeft w mb vL vO s1 w1 vL1 vO1) (k : RefLeft w1 mb vL1 vO1 s2 w2 vL2 vO2) : RefLeft w mb vL vO s2 w2 vL2 vO2 := by
  refine ⟨k.ref, h.below.trans k.below, ⟨Nat.le_trans h.kept.size k.kept.size, fun b hb hs => ?_⟩, fun g hg => ?_, fun g hg => ?_⟩
  · refine (k.kept.block b (Nat.lt_of_lt_of_le hb h.kept.size) ?_).trans (h.kept.block b hb hs)
    rintro (e | e)
    · exact hs (.inl e)
    · rcases h.rowL b e with e' | e'
      · exact hs (.inr e')
      · omega
  · rcases k.rowL g hg with e | e
    · exact h.rowL g e
    · exact .inr (Nat.le_trans h.kept.size e)
  · rcases k.rowO g hg with e | e
    · exact h.rowO g e
    · exact .inr (Nat.le_trans h.kept.size e)
/-- A field of a place is written. -/
theorem RefAt.store {w : World} {mb g cap : Nat} {vO : Value} {s : Ns} (h : RefAt w mb (.slice (some ⟨g, 0, none⟩) s.l.length cap) vO s) {k j : Nat} (hk : k < s.l.length) (hj : j < 3) (v : Value) (x : Si) (hx : sicells x = (sicells s.l[k]).set j v) :
    RefLeft w mb (.slice (some ⟨g, 0, none⟩) s.l.length cap) vO { s with l := s.l.set k x } (w.setCell ⟨g, k * 3 + j, none⟩ v) (.slice (some ⟨g, 0, none⟩) s.l.length cap) vO := by
  have hgb := h.rows.lt g rfl
  have hne : ∀ i, (⟨g, k * 3 + j, none⟩ : Addr) ≠ ⟨mb, i, none⟩ := fun i e => by
    have : g = mb := congrArg Addr.block e
    omega
  have hst := (h.rows.stored (k * 3 + j) v).1
  rw [scells_set hk hj v x hx] at hst
  refine ⟨⟨?_, ?_, ?_, fun i => ?_, ?_, ?_, h.apart⟩, (Below.refl _ _).setCell (p := ⟨g, k * 3 + j, none⟩) (by show mb ≤ g; omega) _, Kept.set w (.inr rfl) v, fun _ h => .inl h, fun _ h => .inl h⟩
  · rw [World.cell?_setCell_other (h := hne 0)]; exact h.c0
  · rw [World.cell?_setCell_other (h := hne 1)]; exact h.c1
  · rw [World.cell?_setCell_other (h := hne 2)]; exact h.c2
  · rw [World.frozen?_setCell]; exact h.live i
  · simpa using hst
  · exact ownsRow_setCell_other h.offs (h.apart g rfl) v
/-- The count is written. -/
theorem RefAt.count {w : World} {mb : Nat} {vL vO : Value} {s : Ns} (h : RefAt w mb vL vO s) (n : Nat) : RefLeft w mb vL vO { s with calls := n } (w.setCell ⟨mb, 2, none⟩ (.int .i64 n)) vL vO := by
  have hL : vL.ownBlock ≠ some mb := fun e => by have := h.rows.lt mb e; omega
  have hO : vO.ownBlock ≠ some mb := fun e => by have := h.offs.lt mb e; omega
  refine ⟨⟨?_, ?_, ?_, fun i => ?_, ?_, ?_, h.apart⟩, (Below.refl _ _).setCell (p := ⟨mb, 2, none⟩) (Nat.le_refl _) _, Kept.set w (.inl rfl) _, fun _ h => .inl h, fun _ h => .inl h⟩
  · rw [World.cell?_setCell_other (h := by simp)]; exact h.c0
  · rw [World.cell?_setCell_other (h := by simp)]; exact h.c1
  · exact World.cell?_setCell_same' _ _ _ (by rw [h.c2]; rfl)
  · rw [World.frozen?_setCell]; exact h.live i
  · exact ownsRow_setCell_other h.rows hL _
  · exact ownsRow_setCell_other h.offs hO _

theorem atN_some {l : List Si} {u : List UInt8} {k : Nat} (h : spotN l u = some k) : atN l u = (k : Int) := by unfold atN; rw [h]
theorem atN_none {l : List Si} {u : List UInt8} (h : spotN l u = .none) : atN l u = -1 := by unfold atN; rw [h]

set_option maxRecDepth 100000 in
set_option maxHeartbeats 1000000 in
theorem refSetCut_any (mb : Nat) (vL vO : Value) (s : Ns) (u : List UInt8) (k : Int) (w : World) (h : RefAt w mb vL vO s) (hl : s.l.length ≤ 100000) :
    Calls Tryd.prog 23 #[.pointer (some ⟨mb, 0, none⟩), .string ⟨u.toArray⟩, .int .i64 k] w fun e w' => e = .returned (.int .i64 (cutN s u k).2) ∧ ∃ vL' vO', RefLeft w mb vL vO (cutN s u k).1 w' vL' vO' := by
  have H := Lib.hid h
  cases hs : spotN s.l u with
  | none =>
    have HC := Lib.hid (cutN_none (k := k) hs)
    have HA := Lib.hid (atN_none hs)
    clear h hs
    go_enter Tryd.func23, Tryd.ntmps23
    go_wp2_with fail
    refine (refFind_is mb vL vO s u _ _ H.out hl HA.out).mono ?_
    rintro e w' ⟨rfl, hw'⟩
    obtain rfl : w = w' := hw'.symm
    go_wp2
    go_ret
    exact ⟨by rw [HC.out]; rfl, vL, vO, by rw [HC.out]; exact RefLeft.same H.out⟩
  | some i =>
    have HA := Lib.hid (atN_some hs)
    obtain ⟨hi, _⟩ := spot_some hs
    obtain ⟨g, cap, rfl, hcap, k0, k1, k2, kz⟩ := h.site hi
    have c0 := h.c0
    have kz2 := kz (i * 3 + 2)
    have hi' : (i : Int) < (s.l.length : Int) := by omega
    have hi0 : (0 : Int) ≤ (i : Int) := by omega
    by_cases hk : k < 0
    · have HC := Lib.hid (cutN_neg (s := s) hs hk)
      clear h hs kz
      go_enter Tryd.func23, Tryd.ntmps23
      go_wp2_with fail
      refine (refFind_is mb _ vO s u _ _ H.out hl HA.out).mono ?_
      rintro e w' ⟨rfl, hw'⟩
      obtain rfl : w = w' := hw'.symm
      go_wp2
      go_ret
      exact ⟨by rw [HC.out]; rfl, _, vO, by rw [HC.out]; exact RefLeft.same H.out⟩
    · have hk' : decide (k < 0) = false := by simp; omega
      have hmod : (s.l.modify i fun x => { x with c := k }) = s.l.set i { s.l[i] with c := k } := by
        apply List.ext_getElem
        · simp
        · intro n h1 h2
          rw [List.getElem_modify, List.getElem_set]
          by_cases e : i = n
          · subst e; simp
          · simp [e]
      have HC : Hid (cutN s u k = ({ s with l := s.l.set i { s.l[i] with c := k } }, 0)) := by
        show cutN s u k = _
        rw [cutN_good hs hk, hmod]
      have HX := Lib.hid (h.store hi (j := 2) (by omega) (.int .i64 k) { s.l[i] with c := k } rfl)
      clear h hs kz hmod hk
      go_enter Tryd.func23, Tryd.ntmps23
      go_wp2_with fail
      refine (refFind_is mb _ vO s u _ _ H.out hl HA.out).mono ?_
      rintro e w' ⟨rfl, hw'⟩
      obtain rfl : w = w' := hw'.symm
      go_wp2
      go_ret
      exact ⟨by rw [HC.out]; rfl, _, vO, by rw [HC.out]; exact HX.out⟩
end Go.Proofs.YtkokdpidgikdkaaDoor
