/-
  Own texts of the proof, joined by program: NetRow, RefNet, RefNetGet, RefNetPut, RefNetHost, NetActsMem.
-/
import Derived.Test.YtmcfkoenpikldaaGreatDoorLinkPureNetPureMirrorPure
import Derived.Test.YtmcfkoenpikldaaGreatDoorRefLinkRefLinks
import Derived.Test.YtmcfkoenpikldaaGreatDoorCodedCodedVCodedTwoKept
import Derived.Test.YtmcfkoenpikldaaGreatDoorSlotsFaultedErrAt
import Derived.OneCell
import Derived.Maps.AppendAt
import Derived.Deep.Slices
import Derived.OpenShut
import Derived.Carry
/-
  The document's net in memory: its three cells, the rows that they lead to; what is kept where others write: over this seat's translation.
-/
namespace Go.Proofs.YtmcfkoenpikldaaGreatDoor
open Go.RowKit Go.Shelf

def sicells (x : Si) : List Value := [sv x.u, sv x.t, .int .i64 x.c]
def scells (l : List Si) : List Value := l.flatMap sicells
theorem scells_length (l : List Si) : (scells l).length = l.length * 3 := by
  induction l with
  | nil => rfl
  | cons x r ih =>
    show (sicells x ++ scells r).length = _
    rw [List.length_append, ih, List.length_cons]
    show 3 + r.length * 3 = _
    omega
theorem scells_app (l m : List Si) : scells (l ++ m) = scells l ++ scells m := by simp [scells]
theorem scells_split {l : List Si} {k : Nat} (hk : k < l.length) : scells l = scells (l.take k) ++ (sicells l[k] ++ scells (l.drop (k + 1))) := by
  have : l = l.take k ++ l[k] :: l.drop (k + 1) := by rw [← List.drop_eq_getElem_cons hk, List.take_append_drop]
  conv => lhs; rw [this]
  rw [scells_app]
  rfl
theorem scells_at {l : List Si} {k j : Nat} (hk : k < l.length) (hj : j < 3) : (scells l)[k * 3 + j]? = (sicells l[k])[j]? := by
  have hlen : (scells (l.take k)).length = k * 3 := by rw [scells_length, List.length_take]; congr 1; omega
  have h3 : (sicells l[k]).length = 3 := rfl
  rw [scells_split hk, List.getElem?_append_right (by omega), hlen, Nat.add_sub_cancel_left, List.getElem?_append_left (by omega)]
theorem scells_set {l : List Si} {k j : Nat} (hk : k < l.length) (hj : j < 3) (v : Value) (x : Si) (hx : sicells x = (sicells l[k]).set j v) : (scells l).set (k * 3 + j) v = scells (l.set k x) := by
  have hlen : (scells (l.take k)).length = k * 3 := by rw [scells_length, List.length_take]; congr 1; omega
  have h3 : (sicells l[k]).length = 3 := rfl
  have hk' : k < (l.set k x).length := by simpa using hk
  rw [scells_split hk, scells_split hk', List.set_append_right _ _ (by omega), hlen, Nat.add_sub_cancel_left, List.set_append_left _ _ (by omega)]
  rw [List.take_set_of_le (Nat.le_refl k), List.drop_set_of_lt (by omega), List.getElem_set_self, hx]

/-- The document's net at a block. -/
structure RefAt (w : World) (mb : Nat) (vL vO : Value) (s : Ns) : Prop where
  c0 : w.cell? ⟨mb, 0, none⟩ = some vL
  c1 : w.cell? ⟨mb, 1, none⟩ = some vO
  c2 : w.cell? ⟨mb, 2, none⟩ = some (.int .i64 s.calls)
  live : ∀ j, w.frozen? ⟨mb, j, none⟩ = false
  rows : w.ownsRow (mb + 1) 198 3 vL s.l.length (scells s.l)
  offs : w.ownsRow (mb + 1) 9 1 vO s.off.length (s.off.map sv)
  apart : ∀ g, vL.ownBlock = some g → vO.ownBlock ≠ some g
theorem RefAt.lt {w : World} {mb : Nat} {vL vO : Value} {s : Ns} (h : RefAt w mb vL vO s) : mb < w.heap.size := block_lt_of_cell h.c0
/-- Where others write it stays. -/
theorem RefAt.kept {w w' : World} {mb : Nat} {vL vO : Value} {s : Ns} {S : Nat → Prop} (h : RefAt w mb vL vO s) (hk : Kept S w w') (h0 : ¬ S mb) (h1 : ∀ g, vL.ownBlock = some g → ¬ S g) (h2 : ∀ g, vO.ownBlock = some g → ¬ S g) : RefAt w' mb vL vO s := by
  have hb : w'.heap[mb]? = w.heap[mb]? := hk.block mb h.lt h0
  have hc : ∀ j, w'.cell? ⟨mb, j, none⟩ = w.cell? ⟨mb, j, none⟩ := fun j => by simp [World.cell?, hb]
  have hf : ∀ j, w'.frozen? ⟨mb, j, none⟩ = w.frozen? ⟨mb, j, none⟩ := fun j => by simp [World.frozen?, hb]
  exact ⟨(hc 0).trans h.c0, (hc 1).trans h.c1, (hc 2).trans h.c2, fun j => (hf j).trans (h.live j), owns_kept h.rows fun g hg => hk.block g (h.rows.lt g hg).2 (h1 g hg), owns_kept h.offs fun g hg => hk.block g (h.offs.lt g hg).2 (h2 g hg), h.apart⟩
theorem RefAt.below {w w' : World} {mb : Nat} {vL vO : Value} {s : Ns} (h : RefAt w mb vL vO s) (hb : Below w.heap.size w w') : RefAt w' mb vL vO s :=
  h.kept (S := fun _ => False) (Kept.of_below hb) (fun h => h) (fun _ _ h => h) (fun _ _ h => h)
/-- The three cells of a place. -/
theorem RefAt.site {w : World} {mb : Nat} {vL vO : Value} {s : Ns} (h : RefAt w mb vL vO s) {k : Nat} (hk : k < s.l.length) : ∃ g cap, vL = .slice (some ⟨g, 0, none⟩) s.l.length cap ∧ s.l.length ≤ cap ∧ w.cell? ⟨g, k * 3, none⟩ = some (sv s.l[k].u) ∧ w.cell? ⟨g, k * 3 + 1, none⟩ = some (sv s.l[k].t) ∧ w.cell? ⟨g, k * 3 + 2, none⟩ = some (.int .i64 s.l[k].c) ∧ (∀ j, w.frozen? ⟨g, j, none⟩ = false) := by
  obtain ⟨g, cap, rfl, h1, _⟩ := owns_at h.rows (by omega)
  have hc : ∀ j, j < 3 → w.cell? ⟨g, k * 3 + j, none⟩ = (sicells s.l[k])[j]? := fun j hj => by
    rw [h.rows.cellAt (k * 3 + j) (by omega)]
    exact scells_at hk hj
  exact ⟨g, cap, rfl, h1, hc 0 (by omega), hc 1 (by omega), hc 2 (by omega), fun j => h.rows.frozenAt j⟩

set_option maxRecDepth 100000 in
set_option maxHeartbeats 1000000 in
theorem refFind_any (mb : Nat) (vL vO : Value) (s : Ns) (u : List UInt8) (w : World) (h : RefAt w mb vL vO s) (hl : s.l.length ≤ 100000) :
    Calls Tryz.prog 121 #[.pointer (some ⟨mb, 0, none⟩), .string ⟨u.toArray⟩] w fun e w' => e = .returned (.int .i64 (atN s.l u)) ∧ w' = w := by
  have H := Lib.hid h
  have c0 := h.c0
  obtain ⟨av, cv, hv⟩ := owns_slice h.rows
  subst hv
  clear h
  go_enter Tryz.func121, Tryz.ntmps121
  go_wp2_with fail
  go_loop [5] (fun i => ∃ q : Nat, q ≤ s.l.length ∧ i = .int .i64 q ∧ ∀ j (h : j < s.l.length), j < q → s.l[j].u ≠ u) (fun i => s.l.length - (intOf i).toNat)
  case atStart => exact ⟨0, by omega, rfl, fun _ _ h => by omega⟩
  case round =>
    obtain ⟨q, hq, rfl, hn⟩ := hrel
    have HN := Lib.hid hn
    clear hn
    by_cases hlt : q < s.l.length
    · have hlt' : (q : Int) < (s.l.length : Int) := by omega
      obtain ⟨g, cap, hv2, hcap, k0, _, _, _⟩ := H.out.site hlt
      cases hv2
      by_cases hx : s.l[q].u = u
      · have HF : Hid (atN s.l u = (q : Int)) := by
          show atN s.l u = (q : Int)
          unfold atN
          rw [spot_first hlt hx HN.out]
        rw [hx] at k0
        clear hx
        go_wp2
        go_ret
        exact ⟨by rw [HF.out]; rfl, rfl⟩
      · have HF : Hid (∀ j (h : j < s.l.length), j < q + 1 → s.l[j].u ≠ u) := fun j hj hjq => by
          rcases Nat.lt_or_ge j q with h | h
          · exact HN.out j hj h
          · obtain rfl : j = q := by omega
            exact hx
        have hx' : (s.l[q].u == u) = false := by simpa using hx
        clear hx
        generalize s.l[q].u = x at k0 hx'
        go_wp2
        go_round
        case rel => exact ⟨q + 1, by omega, by go_num, HF.out⟩
        case measure => simp [intOf]; omega
    · have hql : q = s.l.length := by omega
      have HF : Hid (atN s.l u = -1) := by
        show atN s.l u = -1
        unfold atN
        rw [spot_none fun j hj => HN.out j hj (by omega)]
      clear hql
      go_wp2
      go_ret
      exact ⟨by rw [HF.out]; rfl, rfl⟩
theorem refFind_is (mb : Nat) (vL vO : Value) (s : Ns) (u : List UInt8) (z : Int) (w : World) (h : RefAt w mb vL vO s) (hl : s.l.length ≤ 100000) (hz : atN s.l u = z) :
    Calls Tryz.prog 121 #[.pointer (some ⟨mb, 0, none⟩), .string ⟨u.toArray⟩] w fun e w' => e = .returned (.int .i64 z) ∧ w' = w := by
  have := refFind_any mb vL vO s u w h hl
  rwa [hz] at this
end Go.Proofs.YtmcfkoenpikldaaGreatDoor
/-
  The document's net: SetCut, Get: contracts, over this seat's translation.
-/
namespace Go.Proofs.YtmcfkoenpikldaaGreatDoor
open Go.RowKit Go.Shelf

/-- What a call on the document's net leaves: the net, at its block; what lies below it, and what others own, is kept. -/
structure RefLeft (w : World) (mb : Nat) (vL vO : Value) (s' : Ns) (w' : World) (vL' vO' : Value) : Prop where
  ref : RefAt w' mb vL' vO' s'
  below : Below mb w w'
  kept : Kept (fun b => b = mb ∨ vL.ownBlock = some b) w w'
  rowL : ∀ g, vL'.ownBlock = some g → vL.ownBlock = some g ∨ w.heap.size ≤ g
  rowO : ∀ g, vO'.ownBlock = some g → vO.ownBlock = some g ∨ w.heap.size ≤ g
theorem RefLeft.same {w : World} {mb : Nat} {vL vO : Value} {s : Ns} (h : RefAt w mb vL vO s) : RefLeft w mb vL vO s w vL vO :=
  ⟨h, Below.refl _ _, ⟨Nat.le_refl _, fun _ _ _ => rfl⟩, fun _ h => .inl h, fun _ h => .inl h⟩
theorem RefLeft.of_below {w w' : World} {mb : Nat} {vL vO : Value} {s : Ns} (h : RefAt w mb vL vO s) (hb : Below w.heap.size w w') : RefLeft w mb vL vO s w' vL vO :=
  ⟨h.below hb, hb.mono (Nat.le_of_lt h.lt), Kept.of_below hb, fun _ h => .inl h, fun _ h => .inl h⟩
theorem RefLeft.trans {w w1 w2 : World} {mb : Nat} {vL vO vL1 vO1 vL2 vO2 : Value} {s1 s2 : Ns} (h : RefLeft w mb vL vO s1 w1 vL1 vO1) (k : RefLeft w1 mb vL1 vO1 s2 w2 vL2 vO2) : RefLeft w mb vL vO s2 w2 vL2 vO2 := by
  refine ⟨k.ref, h.below.trans k.below, ⟨Nat.le_trans h.kept.size k.kept.size, fun b hb hs => ?_⟩, fun g hg => ?_, fun g hg => ?_⟩
  · refine (k.kept.block b (Nat.lt_of_lt_of_le hb h.kept.size) ?_).trans (h.kept.block b hb hs)
    rintro (e | e)
    · exact hs (.inl e)
    · rcases h.rowL b e with e' | e'
      · exact hs (.inr e')
      · omega
  · rcases k.rowL g hg with e | e
    · exact h.rowL g e
    · exact .inr (Nat.le_trans h.kept.size e)
  · rcases k.rowO g hg with e | e
    · exact h.rowO g e
    · exact .inr (Nat.le_trans h.kept.size e)
/-- A field of a place is written. -/
theorem RefAt.store {w : World} {mb g cap : Nat} {vO : Value} {s : Ns} (h : RefAt w mb (.slice (some ⟨g, 0, none⟩) s.l.length cap) vO s) {k j : Nat} (hk : k < s.l.length) (hj : j < 3) (v : Value) (x : Si) (hx : sicells x = (sicells s.l[k]).set j v) :
    RefLeft w mb (.slice (some ⟨g, 0, none⟩) s.l.length cap) vO { s with l := s.l.set k x } (w.setCell ⟨g, k * 3 + j, none⟩ v) (.slice (some ⟨g, 0, none⟩) s.l.length cap) vO := by
  have hgb := h.rows.lt g rfl
  have hne : ∀ i, (⟨g, k * 3 + j, none⟩ : Addr) ≠ ⟨mb, i, none⟩ := fun i e => by
    have : g = mb := congrArg Addr.block e
    omega
  have hst := (h.rows.stored (k * 3 + j) v).1
  rw [scells_set hk hj v x hx] at hst
  refine ⟨⟨?_, ?_, ?_, fun i => ?_, ?_, ?_, h.apart⟩, (Below.refl _ _).setCell (p := ⟨g, k * 3 + j, none⟩) (by show mb ≤ g; omega) _, Kept.set w (.inr rfl) v, fun _ h => .inl h, fun _ h => .inl h⟩
  · rw [World.cell?_setCell_other (h := hne 0)]; exact h.c0
  · rw [World.cell?_setCell_other (h := hne 1)]; exact h.c1
  · rw [World.cell?_setCell_other (h := hne 2)]; exact h.c2
  · rw [World.frozen?_setCell]; exact h.live i
  · simpa using hst
  · exact ownsRow_setCell_other h.offs (h.apart g rfl) v
/-- The count is written. -/
theorem RefAt.count {w : World} {mb : Nat} {vL vO : Value} {s : Ns} (h : RefAt w mb vL vO s) (n : Nat) : RefLeft w mb vL vO { s with calls := n } (w.setCell ⟨mb, 2, none⟩ (.int .i64 n)) vL vO := by
  have hL : vL.ownBlock ≠ some mb := fun e => by have := h.rows.lt mb e; omega
  have hO : vO.ownBlock ≠ some mb := fun e => by have := h.offs.lt mb e; omega
  refine ⟨⟨?_, ?_, ?_, fun i => ?_, ?_, ?_, h.apart⟩, (Below.refl _ _).setCell (p := ⟨mb, 2, none⟩) (Nat.le_refl _) _, Kept.set w (.inl rfl) _, fun _ h => .inl h, fun _ h => .inl h⟩
  · rw [World.cell?_setCell_other (h := by simp)]; exact h.c0
  · rw [World.cell?_setCell_other (h := by simp)]; exact h.c1
  · exact World.cell?_setCell_same' _ _ _ (by rw [h.c2]; rfl)
  · rw [World.frozen?_setCell]; exact h.live i
  · exact ownsRow_setCell_other h.rows hL _
  · exact ownsRow_setCell_other h.offs hO _

theorem atN_some {l : List Si} {u : List UInt8} {k : Nat} (h : spotN l u = some k) : atN l u = (k : Int) := by unfold atN; rw [h]
theorem atN_none {l : List Si} {u : List UInt8} (h : spotN l u = .none) : atN l u = -1 := by unfold atN; rw [h]

set_option maxRecDepth 100000 in
set_option maxHeartbeats 1000000 in
theorem refSetCut_any (mb : Nat) (vL vO : Value) (s : Ns) (u : List UInt8) (k : Int) (w : World) (h : RefAt w mb vL vO s) (hl : s.l.length ≤ 100000) :
    Calls Tryz.prog 64 #[.pointer (some ⟨mb, 0, none⟩), .string ⟨u.toArray⟩, .int .i64 k] w fun e w' => e = .returned (.int .i64 (cutN s u k).2) ∧ ∃ vL' vO', RefLeft w mb vL vO (cutN s u k).1 w' vL' vO' := by
  have H := Lib.hid h
  cases hs : spotN s.l u with
  | none =>
    have HC := Lib.hid (cutN_none (k := k) hs)
    have HA := Lib.hid (atN_none hs)
    clear h hs
    go_enter Tryz.func64, Tryz.ntmps64
    go_wp2_with fail
    refine (refFind_is mb vL vO s u _ _ H.out hl HA.out).mono ?_
    rintro e w' ⟨rfl, hw'⟩
    obtain rfl : w = w' := hw'.symm
    go_wp2
    go_ret
    exact ⟨by rw [HC.out]; rfl, vL, vO, by rw [HC.out]; exact RefLeft.same H.out⟩
  | some i =>
    have HA := Lib.hid (atN_some hs)
    obtain ⟨hi, _⟩ := spot_some hs
    obtain ⟨g, cap, rfl, hcap, k0, k1, k2, kz⟩ := h.site hi
    have c0 := h.c0
    have kz2 := kz (i * 3 + 2)
    have hi' : (i : Int) < (s.l.length : Int) := by omega
    have hi0 : (0 : Int) ≤ (i : Int) := by omega
    by_cases hk : k < 0
    · have HC := Lib.hid (cutN_neg (s := s) hs hk)
      clear h hs kz
      go_enter Tryz.func64, Tryz.ntmps64
      go_wp2_with fail
      refine (refFind_is mb _ vO s u _ _ H.out hl HA.out).mono ?_
      rintro e w' ⟨rfl, hw'⟩
      obtain rfl : w = w' := hw'.symm
      go_wp2
      go_ret
      exact ⟨by rw [HC.out]; rfl, _, vO, by rw [HC.out]; exact RefLeft.same H.out⟩
    · have hk' : decide (k < 0) = false := by simp; omega
      have hmod : (s.l.modify i fun x => { x with c := k }) = s.l.set i { s.l[i] with c := k } := by
        apply List.ext_getElem
        · simp
        · intro n h1 h2
          rw [List.getElem_modify, List.getElem_set]
          by_cases e : i = n
          · subst e; simp
          · simp [e]
      have HC : Hid (cutN s u k = ({ s with l := s.l.set i { s.l[i] with c := k } }, 0)) := by
        show cutN s u k = _
        rw [cutN_good hs hk, hmod]
      have HX := Lib.hid (h.store hi (j := 2) (by omega) (.int .i64 k) { s.l[i] with c := k } rfl)
      clear h hs kz hmod hk
      go_enter Tryz.func64, Tryz.ntmps64
      go_wp2_with fail
      refine (refFind_is mb _ vO s u _ _ H.out hl HA.out).mono ?_
      rintro e w' ⟨rfl, hw'⟩
      obtain rfl : w = w' := hw'.symm
      go_wp2
      go_ret
      exact ⟨by rw [HC.out]; rfl, _, vO, by rw [HC.out]; exact HX.out⟩
end Go.Proofs.YtmcfkoenpikldaaGreatDoor
/-
  The document's net: Get: a contract, over this seat's translation.
-/
namespace Go.Proofs.YtmcfkoenpikldaaGreatDoor
open Go.RowKit Go.Shelf

theorem inTexts_nil (s : List UInt8) (w : World) : Calls Tryz.prog 126 #[.string ⟨s.toArray⟩, .slice none 0 0] w fun e w' => e = .returned (.bool false) ∧ w' = w := by
  go_enter Tryz.func126, Tryz.ntmps126
  go_wp2_with fail
  refine wp_loop_rounds 1 ?_
  rw [rounds_succ]
  go_wp2
  go_ret
  exact ⟨rfl, rfl⟩
/-- InTexts of a row of texts. -/
theorem inTexts_row (s : List UInt8) (v : Value) (k : List (List UInt8)) (base : Nat) (w : World) (hk : k.length ≤ 100000) (h : w.ownsRow base 9 1 v k.length (k.map sv)) :
    Calls Tryz.prog 126 #[.string ⟨s.toArray⟩, v] w fun e w' => e = .returned (.bool (decide (s ∈ k))) ∧ w' = w := by
  rcases h.2 with ⟨h1, h2⟩ | ⟨g, cap, cur, h1, _⟩
  · have hk0 : k = [] := List.length_eq_zero_iff.1 h2
    subst hk0
    subst h1
    exact inTexts_nil s w
  · subst h1
    have hcell : ∀ j (hj : j < k.length), w.cell? ⟨g, 0 + j, none⟩ = some (.string ⟨(k[j]).toArray⟩) := fun j hj => by
      rw [Nat.zero_add, h.cellAt j (by omega), List.getElem?_map, List.getElem?_eq_getElem hj]
      rfl
    exact inTexts_any s g 0 cap k w hk hcell

set_option maxRecDepth 100000 in
set_option maxHeartbeats 2000000 in
theorem refGet_any (mb : Nat) (vL vO : Value) (s : Ns) (u : List UInt8) (w : World) (h : RefAt w mb vL vO s) (hl : s.l.length ≤ 100000) (ho : s.off.length ≤ 100000) (hc : s.calls ≤ 1000000) (hu : u.length ≤ 90000) :
    Calls Tryz.prog 66 #[.pointer (some ⟨mb, 0, none⟩), .string ⟨u.toArray⟩] w fun e w' => e = .returned (.tuple #[.string ⟨(getN s u).2.1.toArray⟩, .int .i64 (getN s u).2.2]) ∧ ∃ vL' vO', RefLeft w mb vL vO (getN s u).1 w' vL' vO' := by
  have H := Lib.hid h
  clear h
  obtain ⟨c, hck⟩ : ∃ c, checkK u = c := ⟨_, rfl⟩
  obtain ⟨z, hz⟩ : ∃ z : Int, ((c : Nat) : Int) = z := ⟨_, rfl⟩
  go_enter Tryz.func66, Tryz.ntmps66
  go_wp2_with fail
  refine (linkError_is u z _ hu (by rw [hck, hz])).mono ?_
  rintro e w1 ⟨rfl, hb1⟩
  have H1 := Lib.hid (H.out.below hb1)
  have HB1 := Lib.hid hb1
  clear hb1
  by_cases hpos : 0 < c
  · have HC : Hid (getN s u = (s, [], c)) := by
      show getN s u = (s, [], c)
      obtain ⟨j, rfl⟩ : ∃ j, c = j + 1 := ⟨c - 1, by omega⟩
      exact getN_bad hck
    have HZ := Lib.hid hz
    have hz0 : 0 < z := by omega
    clear hck hz hpos
    go_wp2
    go_ret2
    exact ⟨by rw [HC.out]; show Ending.returned (.tuple #[.string ⟨#[]⟩, .int .i64 z]) = _; rw [← HZ.out], vL, vO, by rw [HC.out]; exact RefLeft.of_below H.out HB1.out⟩
  obtain rfl : c = 0 := by omega
  obtain rfl : z = 0 := by omega
  have c2 := H1.out.c2
  have z2 := H1.out.live 2
  have HK := Lib.hid hck
  obtain ⟨⟨hh, q, cc⟩, hlp⟩ : ∃ r, linkL u = r := ⟨_, rfl⟩
  have HP := Lib.hid hlp
  clear hck hz hpos hlp
  go_wp2_with fail
  have HM : ((s.calls : Int) + 1) = ((s.calls + 1 : Nat) : Int) := by omega
  rw [HM]
  have HR := Lib.hid ((RefLeft.of_below H.out HB1.out).trans (H1.out.count (s.calls + 1)))
  generalize w1.setCell ⟨mb, 2, none⟩ (.int .i64 ((s.calls + 1 : Nat) : Int)) = w2 at HR ⊢
  clear c2 z2 HM H1 HB1 H
  refine (linkParts_is u hh q cc _ hu HP.out).mono ?_
  rintro e w3 ⟨⟨kk, rfl⟩, hb3⟩
  have HR3 := Lib.hid (HR.out.trans (RefLeft.of_below HR.out.ref hb3))
  have c1 := HR3.out.ref.c1
  have HO : Hid (w3.ownsRow (mb + 1) 9 1 vO s.off.length (s.off.map sv)) := HR3.out.ref.offs
  clear hb3 HR w2
  go_wp2_with fail
  refine (inTexts_row hh vO s.off _ _ ho HO.out).mono ?_
  rintro e w' ⟨rfl, hw'⟩
  obtain rfl : w3 = w' := hw'.symm
  clear HO c1
  have hhost : (linkL u).1 = hh := by rw [HP.out]
  by_cases hin : hh ∈ s.off
  · have HC : Hid (getN s u = ({ s with calls := s.calls + 1 }, [], 13)) := getN_off HK.out (by rw [hhost]; exact hin)
    rw [decide_eq_true hin]
    clear hin hhost
    go_wp2
    go_ret2
    exact ⟨by rw [HC.out]; rfl, vL, vO, by rw [HC.out]; exact HR3.out⟩
  · rw [decide_eq_false hin]
    have HNI : Hid (¬ (linkL u).1 ∈ s.off) := by show ¬ (linkL u).1 ∈ s.off; rw [hhost]; exact hin
    clear hin hhost
    cases hs : spotN s.l u with
    | none =>
      have HC := Lib.hid (getN_none HK.out HNI.out hs)
      have HA := Lib.hid (atN_none hs)
      clear hs
      go_wp2_with fail
      refine (refFind_is mb vL vO { s with calls := s.calls + 1 } u _ _ HR3.out.ref hl HA.out).mono ?_
      rintro e w' ⟨rfl, hw'⟩
      obtain rfl : w3 = w' := hw'.symm
      go_wp2
      go_ret2
      exact ⟨by rw [HC.out]; rfl, vL, vO, by rw [HC.out]; exact HR3.out⟩
    | some i =>
      obtain ⟨hi, _⟩ := spot_some hs
      have HC := Lib.hid (getN_good HK.out HNI.out hs hi)
      have HA := Lib.hid (atN_some hs)
      obtain ⟨g, cap, rfl, hcap, k0, k1, k2, _⟩ := HR3.out.ref.site hi
      have c0 := HR3.out.ref.c0
      have hi' : (i : Int) < (s.l.length : Int) := by omega
      have hi0 : (0 : Int) ≤ (i : Int) := by omega
      have k1' : w3.cell? ⟨g, i * 3 + 1, none⟩ = some (.string ⟨s.l[i].t.toArray⟩) := k1
      have k2' : w3.cell? ⟨g, i * 3 + 2, none⟩ = some (.int .i64 s.l[i].c) := k2
      clear hs k0 k1 k2
      generalize s.l[i] = x at HC k1' k2'
      obtain ⟨xu, xt, xc⟩ := x
      simp only at k1' k2'
      go_wp2_with fail
      refine (refFind_is mb _ vO { s with calls := s.calls + 1 } u _ _ HR3.out.ref hl HA.out).mono ?_
      rintro e w' ⟨rfl, hw'⟩
      obtain rfl : w3 = w' := hw'.symm
      by_cases h0 : 0 ≤ xc
      · by_cases h1 : xc < (xt.length : Int)
        · have HX : Hid (comesN ⟨xu, xt, xc⟩ = xt.take xc.toNat) := if_pos ⟨h0, h1⟩
          have h2 : xc ≤ (xt.length : Int) := by omega
          obtain ⟨m, rfl⟩ := Int.eq_ofNat_of_zero_le h0
          have e1 : ({ data := xt.toArray } : ByteArray).extract 0 m = ⟨(xt.take m).toArray⟩ := extract_to xt m
          go_wp2
          go_ret2
          exact ⟨by rw [HC.out, HX.out]; simp only [Int.toNat_natCast]; rfl, _, vO, by rw [HC.out]; exact HR3.out⟩
        · have HX : Hid (comesN ⟨xu, xt, xc⟩ = xt) := if_neg (fun h => h1 h.2)
          have h1' : decide (xc < (xt.length : Int)) = false := by simp; omega
          clear h1
          go_wp2
          go_ret2
          exact ⟨by rw [HC.out, HX.out]; rfl, _, vO, by rw [HC.out]; exact HR3.out⟩
      · have HX : Hid (comesN ⟨xu, xt, xc⟩ = xt) := if_neg (fun h => h0 h.1)
        have h0' : decide (0 ≤ xc) = false := by simp; omega
        clear h0
        go_wp2
        go_ret2
        exact ⟨by rw [HC.out, HX.out]; rfl, _, vO, by rw [HC.out]; exact HR3.out⟩
end Go.Proofs.YtmcfkoenpikldaaGreatDoor
/-
  The document's net: Put, Host: contracts, over this seat's translation.
-/
namespace Go.Proofs.YtmcfkoenpikldaaGreatDoor
open Go.RowKit Go.Shelf

theorem Tryz.infoSite : (Tryz.prog.info? 198).map (fun i => (i.zero, i.size, i.bytes)) = some (some (.agg #[.string ⟨#[]⟩, .string ⟨#[]⟩, .int .i64 0]), 3, 40) := by kernel_rfl
theorem site_new (w : World) (x : Si) (T : TypeId) : ∀ j u, (sicells x)[j]? = some u → (w.alloc (.cells #[.string ⟨x.u.toArray⟩, .string ⟨x.t.toArray⟩, .int .i64 x.c] T)).cell? ((⟨w.heap.size, 0, none⟩ : Addr).add j) = some u := by
  intro j u h
  have hn := heap_new w (.cells #[.string ⟨x.u.toArray⟩, .string ⟨x.t.toArray⟩, .int .i64 x.c] T)
  have hc : ∀ k, (w.alloc (.cells #[.string ⟨x.u.toArray⟩, .string ⟨x.t.toArray⟩, .int .i64 x.c] T)).cell? ⟨w.heap.size, k, none⟩ = (#[.string ⟨x.u.toArray⟩, .string ⟨x.t.toArray⟩, .int .i64 x.c] : Array Value)[k]? := fun k => by
    unfold World.cell?
    rw [hn]
    rfl
  rcases j with _ | _ | _ | j
  · exact (hc 0).trans h
  · exact (hc 1).trans h
  · exact (hc 2).trans h
  · simp [sicells] at h

theorem frozen_alloc {w : World} {mb j : Nat} (o : Obj) (h : mb < w.heap.size) : (w.alloc o).frozen? ⟨mb, j, none⟩ = w.frozen? ⟨mb, j, none⟩ := by
  have e : (w.alloc o).heap[mb]? = w.heap[mb]? := by
    show (w.heap.push o)[mb]? = _
    rw [Array.getElem?_push_lt h, Array.getElem?_eq_getElem h]
  simp [World.frozen?, e]
/-- A place more: what is appended, stored in the net's field. -/
theorem RefAt.grown {w w2 : World} {mb : Nat} {vL vO v' : Value} {s : Ns} (h : RefAt w mb vL vO s) (o : Obj) (x : Si) (hown : w2.ownsRow (mb + 1) 198 3 v' (s.l.length + 1) (scells s.l ++ sicells x)) (hgrow : (w.alloc o).grownBy w2 vL.ownBlock)
    (hloc : v'.ownBlock = vL.ownBlock ∨ v'.ownBlock = some (w.alloc o).heap.size) : RefLeft w mb vL vO { s with l := s.l ++ [x] } (w2.setCell ⟨mb, 0, none⟩ v') v' vO := by
  have hlt := h.lt
  have hsz : (w.alloc o).heap.size = w.heap.size + 1 := by simp
  have hL : ∀ g, vL.ownBlock = some g → mb < g ∧ g < w.heap.size := fun g e => by have := h.rows.lt g e; omega
  have hO : ∀ g, vO.ownBlock = some g → mb < g ∧ g < w.heap.size := fun g e => by have := h.offs.lt g e; omega
  have hmb : w2.heap[mb]? = w.heap[mb]? := by
    rw [hgrow.block mb (by omega) (fun e => by have := hL mb e.symm; omega)]
    show (w.heap.push o)[mb]? = _
    rw [Array.getElem?_push_lt hlt, Array.getElem?_eq_getElem hlt]
  have hc : ∀ j, w2.cell? ⟨mb, j, none⟩ = w.cell? ⟨mb, j, none⟩ := fun j => by simp [World.cell?, hmb]
  have hf : ∀ j, w2.frozen? ⟨mb, j, none⟩ = w.frozen? ⟨mb, j, none⟩ := fun j => by simp [World.frozen?, hmb]
  have hv' : ∀ g, v'.ownBlock = some g → mb < g := fun g e => by have := hown.lt g e; omega
  have hoffs : w2.ownsRow (mb + 1) 9 1 vO s.off.length (s.off.map sv) := (h.offs.alloc o).kept hgrow (by
    cases e : vO.ownBlock with
    | none => exact .inl rfl
    | some g => exact .inr fun e' => h.apart g e'.symm e)
  refine ⟨⟨World.cell?_setCell_same' _ _ _ (by rw [hc 0, h.c0]; rfl), ?_, ?_, fun j => ?_, ?_, ?_, fun g hg e => ?_⟩, ?_, ?_, fun g hg => ?_, fun g hg => .inl hg⟩
  · rw [World.cell?_setCell_other (h := by simp), hc 1]; exact h.c1
  · rw [World.cell?_setCell_other (h := by simp), hc 2]; exact h.c2
  · rw [World.frozen?_setCell, hf j]; exact h.live j
  · have := ownsRow_setCell_other hown (a := ⟨mb, 0, none⟩) (fun e => by have := hv' mb e; omega) v'
    rw [scells_app, List.length_append]
    simpa [scells] using this
  · exact ownsRow_setCell_other hoffs (a := ⟨mb, 0, none⟩) (fun e => by have := hO mb e; omega) v'
  · rcases hloc with hl | hl
    · exact h.apart g (hl ▸ hg) e
    · rw [hl] at hg
      cases hg
      have := hO _ e
      omega
  · exact (((Below.refl mb w).alloc (by omega) o).grown hgrow (by omega) (fun k e => by have := hL k e; omega)).setCell (p := ⟨mb, 0, none⟩) (Nat.le_refl _) _
  · have k1 : Kept (fun b => b = mb ∨ vL.ownBlock = some b) w (w.alloc o) := Kept.of_below ((Below.refl _ _).alloc (Nat.le_refl _) _)
    have k2 : Kept (fun b => b = mb ∨ vL.ownBlock = some b) (w.alloc o) w2 := ⟨hgrow.size, fun b hb hs => hgrow.block b hb fun e => hs (.inr e.symm)⟩
    exact (k1.trans k2).trans (Kept.set w2 (.inl rfl) v')
  · rcases hloc with hl | hl
    · exact .inl (hl ▸ hg)
    · rw [hl] at hg
      cases hg
      exact .inr (by omega)

set_option maxRecDepth 100000 in
set_option maxHeartbeats 4000000 in
theorem refPutN_any (mb : Nat) (vL vO : Value) (s : Ns) (u t : List UInt8) (w : World) (h : RefAt w mb vL vO s) (hl : s.l.length ≤ 100000) (hu : u.length ≤ 90000) (ht : t.length ≤ 100000) :
    Calls Tryz.prog 60 #[.pointer (some ⟨mb, 0, none⟩), .string ⟨u.toArray⟩, .string ⟨t.toArray⟩] w fun e w' => e = .returned (.int .i64 (putN s u t).2) ∧ ∃ vL' vO', RefLeft w mb vL vO (putN s u t).1 w' vL' vO' := by
  obtain ⟨i0, hi, hz0, hz1, hz2⟩ := info_parts Tryz.infoSite
  have H := Lib.hid h
  clear h
  obtain ⟨c, hck⟩ : ∃ c, checkK u = c := ⟨_, rfl⟩
  obtain ⟨z, hz⟩ : ∃ z : Int, ((c : Nat) : Int) = z := ⟨_, rfl⟩
  go_enter Tryz.func60, Tryz.ntmps60
  go_wp2_with fail
  refine (linkError_is u z _ hu (by rw [hck, hz])).mono ?_
  rintro e w1 ⟨rfl, hb1⟩
  have H1 := Lib.hid (H.out.below hb1)
  have HL1 := Lib.hid (RefLeft.of_below H.out hb1)
  clear hb1
  by_cases hpos : 0 < c
  · have HC : Hid (putN s u t = (s, c)) := by
      show putN s u t = (s, c)
      obtain ⟨j, rfl⟩ : ∃ j, c = j + 1 := ⟨c - 1, by omega⟩
      exact putN_bad hck
    have HZ := Lib.hid hz
    have hz0 : 0 < z := by omega
    clear hck hz hpos
    go_wp2
    go_ret
    exact ⟨by rw [HC.out]; show Ending.returned (.int .i64 z) = _; rw [← HZ.out], vL, vO, by rw [HC.out]; exact HL1.out⟩
  obtain rfl : c = 0 := by omega
  obtain rfl : z = 0 := by omega
  have HK := Lib.hid hck
  clear hck hz hpos
  by_cases hlong : 20000 < t.length
  · have HC := Lib.hid (putN_long (s := s) HK.out hlong)
    have hlong' : (20000 : Int) < (t.length : Int) := by omega
    go_wp2
    go_ret
    exact ⟨by rw [HC.out]; rfl, vL, vO, by rw [HC.out]; exact HL1.out⟩
  have hlong' : ¬ (20000 : Int) < (t.length : Int) := by omega
  cases hs : spotN s.l u with
  | some i =>
    obtain ⟨hi2, hiu⟩ := spot_some hs
    have HC := Lib.hid (putN_there HK.out hlong hs)
    have HA := Lib.hid (atN_some hs)
    obtain ⟨g, cap, rfl, hcap, k0, k1, k2, kz⟩ := H1.out.site hi2
    have HX1 := Lib.hid (H1.out.store hi2 (j := 1) (by omega) (.string ⟨t.toArray⟩) ⟨s.l[i].u, t, s.l[i].c⟩ rfl)
    have hi3 : i < (s.l.set i ⟨s.l[i].u, t, s.l[i].c⟩).length := by simpa using hi2
    have hx2 := HX1.out.ref.site (k := i) hi3
    obtain ⟨g2, cap2, hv2, _, _, _, m2, mz⟩ := hx2
    have hlen : (s.l.set i ⟨s.l[i].u, t, s.l[i].c⟩).length = s.l.length := by simp
    have hv3 : Value.slice (some ⟨g, 0, none⟩) s.l.length cap = .slice (some ⟨g, 0, none⟩) (s.l.set i ⟨s.l[i].u, t, s.l[i].c⟩).length cap := by rw [hlen]
    have hr1 : RefAt (w1.setCell ⟨g, i * 3 + 1, none⟩ (.string ⟨t.toArray⟩)) mb (.slice (some ⟨g, 0, none⟩) (s.l.set i ⟨s.l[i].u, t, s.l[i].c⟩).length cap) vO { s with l := s.l.set i ⟨s.l[i].u, t, s.l[i].c⟩ } := by
      rw [← hv3]
      exact HX1.out.ref
    have hX2 := RefAt.store (s := { s with l := s.l.set i ⟨s.l[i].u, t, s.l[i].c⟩ }) (k := i) hr1 hi3 (j := 2) (by omega) (.int .i64 (-1)) ⟨u, t, -1⟩ (by
      show sicells ⟨u, t, -1⟩ = (sicells ((s.l.set i ⟨s.l[i].u, t, s.l[i].c⟩)[i]'hi3)).set 2 (.int .i64 (-1))
      rw [List.getElem_set_self]
      simp [sicells, hiu])
    rw [← hv3] at hX2
    have hset : (s.l.set i ⟨s.l[i].u, t, s.l[i].c⟩).set i ⟨u, t, -1⟩ = s.l.set i ⟨u, t, -1⟩ := by simp
    have HX := Lib.hid (HL1.out.trans (HX1.out.trans hX2))
    rw [show (({ s with l := s.l.set i ⟨s.l[i].u, t, s.l[i].c⟩ } : Ns).l.set i ⟨u, t, -1⟩) = s.l.set i ⟨u, t, -1⟩ from hset] at HX
    have c0 := H1.out.c0
    have d0 := HX1.out.ref.c0
    have kz1 := kz (i * 3 + 1)
    have kz2 := kz (i * 3 + 2)
    have hge : g2 = g := by
      have e := hv2
      injection e with e1
      injection e1 with e2
      injection e2 with e3
      exact e3.symm
    subst hge
    have m2' : (w1.setCell ⟨g2, i * 3 + 1, none⟩ (.string ⟨t.toArray⟩)).cell? ⟨g2, i * 3 + 2, none⟩ = some (.int .i64 s.l[i].c) := by
      rw [World.cell?_setCell_other (h := by simp)]
      exact k2
    have hi' : (i : Int) < (s.l.length : Int) := by omega
    have hi0 : (0 : Int) ≤ (i : Int) := by omega
    clear hs hiu hv3 hr1 hX2 hset m2 mz kz hlen HX1
    go_wp2_with fail
    refine (refFind_is mb _ vO s u _ _ H1.out hl HA.out).mono ?_
    rintro e w' ⟨rfl, hw'⟩
    obtain rfl : w1 = w' := hw'.symm
    go_wp2
    go_ret
    exact ⟨by rw [HC.out]; rfl, _, vO, by rw [HC.out]; exact HX.out⟩
  | none =>
    have HA := Lib.hid (atN_none hs)
    obtain ⟨av, cv, hv⟩ := owns_slice H1.out.rows
    subst hv
    have c0 := H1.out.c0
    by_cases h60 : 60 ≤ s.l.length
    · have HC := Lib.hid (putN_full HK.out hlong hs h60)
      have h60' : (60 : Int) ≤ (s.l.length : Int) := by omega
      clear hs
      go_wp2_with fail
      refine (refFind_is mb _ vO s u _ _ H1.out hl HA.out).mono ?_
      rintro e w' ⟨rfl, hw'⟩
      obtain rfl : w1 = w' := hw'.symm
      go_wp2
      go_ret
      exact ⟨by rw [HC.out]; rfl, _, vO, by rw [HC.out]; exact HL1.out⟩
    · have HC := Lib.hid (putN_new HK.out hlong hs h60)
      have h60' : ¬ (60 : Int) ≤ (s.l.length : Int) := by omega
      have hrows := H1.out.rows
      have hmlt := H1.out.lt
      have hz00 := H1.out.live 0
      have hLb : ∀ k, (Value.slice av s.l.length cv).ownBlock = some k → mb < k := fun k e => by have := H1.out.rows.lt k e; omega
      clear hs
      go_wp2_with fail
      refine (refFind_is mb _ vO s u _ _ H1.out hl HA.out).mono ?_
      rintro e w' ⟨rfl, hw'⟩
      obtain rfl : w1 = w' := hw'.symm
      go_wp2_with (at_builtin; refine wpList_append_own_at _ rfl _ _ 34 rfl (mb + 1) 198 i0 (.agg #[.string ⟨#[]⟩, .string ⟨#[]⟩, .int .i64 0]) 3 40 Tryz.underlying34 hi hz0 hz1 hz2 rfl (by decide) _ _ _ rfl (hrows.alloc _) ⟨w1.heap.size, 0, none⟩ 1 1 (sicells ⟨u, t, -1⟩) rfl rfl (site_new _ ⟨u, t, -1⟩ _) (by simp [sicells, Value.oneCell']) (by unfold maxLen; omega) (by omega) (by simp; omega) ?_; intro v' w2 hown' hgrow _ hloc; obtain ⟨av2, cv2, hv2⟩ := owns_slice hown'; subst hv2; have q0 : w2.cell? ⟨mb, 0, none⟩ = some (.slice av s.l.length cv) := (World.cell?_of_block (a := ⟨mb, 0, none⟩) (hgrow.block mb (by simp; omega) (fun e => by have := hLb mb e.symm; omega))).trans ((World.cell?_alloc_lt _ _ _ hmlt).trans c0); have qz : w2.frozen? ⟨mb, 0, none⟩ = false := (World.frozen?_of_block (a := ⟨mb, 0, none⟩) (hgrow.block mb (by simp; omega) (fun e => by have := hLb mb e.symm; omega))).trans ((frozen_alloc _ hmlt).trans hz00); have HX := Lib.hid (HL1.out.trans (H1.out.grown _ ⟨u, t, -1⟩ hown' hgrow hloc)))
      go_ret
      exact ⟨by rw [HC.out]; rfl, _, vO, by rw [HC.out]; exact HX.out⟩
end Go.Proofs.YtmcfkoenpikldaaGreatDoor
/-
  The document's net: Host: a contract, over this seat's translation.
-/
namespace Go.Proofs.YtmcfkoenpikldaaGreatDoor
open Go.RowKit Go.Shelf

/-- Another list of hosts, in new memory, stored in the net's field. -/
theorem RefAt.hosts {w w2 : World} {mb : Nat} {vL vO v' : Value} {s : Ns} (h : RefAt w mb vL vO s) (hb : Below w.heap.size w w2) {off : List (List UInt8)} (hown : w2.ownsRow w.heap.size 9 1 v' off.length (off.map sv)) :
    RefLeft w mb vL vO { s with off := off } (w2.setCell ⟨mb, 1, none⟩ v') vL v' := by
  have h2 := h.below hb
  have hlt := h.lt
  have hL : ∀ g, vL.ownBlock = some g → mb < g ∧ g < w.heap.size := fun g e => by have := h.rows.lt g e; omega
  have hv' : ∀ g, v'.ownBlock = some g → w.heap.size ≤ g := fun g e => (hown.lt g e).1
  refine ⟨⟨?_, World.cell?_setCell_same' _ _ _ (by rw [h2.c1]; rfl), ?_, fun j => ?_, ?_, ?_, fun g hg e => ?_⟩, ?_, ?_, fun g hg => .inl hg, fun g hg => .inr (hv' g hg)⟩
  · rw [World.cell?_setCell_other (h := by simp)]; exact h2.c0
  · rw [World.cell?_setCell_other (h := by simp)]; exact h2.c2
  · rw [World.frozen?_setCell]; exact h2.live j
  · exact ownsRow_setCell_other h2.rows (a := ⟨mb, 1, none⟩) (fun e => by have := hL mb e; omega) v'
  · exact ownsRow_setCell_other (hown.mono (by omega)) (a := ⟨mb, 1, none⟩) (fun e => by have := hv' mb e; omega) v'
  · have := hL g hg
    have := hv' g e
    omega
  · exact (hb.mono (Nat.le_of_lt hlt)).setCell (p := ⟨mb, 1, none⟩) (Nat.le_refl _) _
  · exact (Kept.of_below hb).trans (Kept.set w2 (.inl rfl) v')

theorem filter_take {l : List (List UInt8)} {q : Nat} (h : List UInt8) (hq : q < l.length) : (l.take (q + 1)).filter (fun x => !(x == h)) = (l.take q).filter (fun x => !(x == h)) ++ (if l[q] = h then [] else [l[q]]) := by
  rw [List.take_succ_eq_append_getElem hq, List.filter_append]
  congr 1
  by_cases e : l[q] = h
  · rw [if_pos e]; simp [e]
  · rw [if_neg e]; simp [e]

set_option maxRecDepth 100000 in
set_option maxHeartbeats 4000000 in
theorem refHost_any (mb : Nat) (vL vO : Value) (s : Ns) (hs : List UInt8) (on : Bool) (w : World) (h : RefAt w mb vL vO s) (ho : s.off.length ≤ 100000) (hh : hs.length ≤ 90000) :
    Calls Tryz.prog 62 #[.pointer (some ⟨mb, 0, none⟩), .string ⟨hs.toArray⟩, .bool on] w fun e w' => e = .returned (.int .i64 (hostN s hs on).2) ∧ ∃ vL' vO', RefLeft w mb vL vO (hostN s hs on).1 w' vL' vO' := by
  obtain ⟨i0, hi, hz0, hz1, hz2⟩ := info_parts Tryz.info9
  have H := Lib.hid h
  obtain ⟨av, cv, hv⟩ := owns_slice h.offs
  subst hv
  clear h
  go_enter Tryz.func62, Tryz.ntmps62
  cases hp : isPart hs with
  | false =>
    have HC := Lib.hid (hostN_bad (s := s) (on := on) hp)
    go_wp2_with fail
    refine (refIsPart_is hs false _ (by omega) hp).mono ?_
    rintro e w' ⟨rfl, hw'⟩
    obtain rfl : w = w' := hw'.symm
    go_wp2
    go_ret
    exact ⟨by rw [HC.out]; rfl, vL, _, by rw [HC.out]; exact RefLeft.same H.out⟩
  | true =>
    have HC := Lib.hid (hostN_good (s := s) (on := on) hp)
    go_wp2_with fail
    refine (refIsPart_is hs true _ (by omega) hp).mono ?_
    rintro e w' ⟨rfl, hw'⟩
    obtain rfl : w = w' := hw'.symm
    clear hp
    go_wp2_with fail
    go_loopw [8, 9] (fun v i wr => ∃ q : Nat, q ≤ s.off.length ∧ i = .int .i64 q ∧ wr.ownsRow w.heap.size 9 1 v ((s.off.take q).filter (fun x => !(x == hs))).length (((s.off.take q).filter (fun x => !(x == hs))).map sv) ∧ Below w.heap.size w wr) (fun _ i _ => s.off.length - (intOf i).toNat)
    case atStart => exact ⟨0, by omega, rfl, by simpa using World.ownsRow_nil _ _ _ _, Below.refl _ _⟩
    case round =>
      obtain ⟨q, hq, rfl, hrow, hb⟩ := hrel
      have HB := Lib.hid hb
      have HR := Lib.hid (H.out.below hb)
      have hbs := hb.size
      have c1 := HR.out.c1
      have hfl : ((s.off.take q).filter (fun x => !(x == hs))).length ≤ q := Nat.le_trans (List.length_filter_le _ _) (by simp; omega)
      clear hb
      by_cases hlt : q < s.off.length
      · have hlt' : (q : Int) < (s.off.length : Int) := by omega
        obtain ⟨g, cap, hv2, hcap, _⟩ := owns_at HR.out.offs (by omega)
        cases hv2
        have k0 : wr.cell? ⟨g, q, none⟩ = some (.string ⟨(s.off[q]).toArray⟩) := by
          rw [HR.out.offs.cellAt q (by omega), List.getElem?_map, List.getElem?_eq_getElem hlt]
          rfl
        have HF := Lib.hid (filter_take hs hlt)
        generalize (s.off.take q).filter (fun x => !(x == hs)) = L at hrow HF hfl
        by_cases hx : s.off[q] = hs
        · have HF2 : Hid ((s.off.take (q + 1)).filter (fun x => !(x == hs)) = L) := by
            show _ = L
            rw [HF.out, if_pos hx, List.append_nil]
          have hx' : (s.off[q] == hs) = true := by simp [hx]
          clear hx
          generalize s.off[q] = x at k0 hx'
          go_wp2
          go_roundw
          case rel => exact ⟨q + 1, by omega, by go_num, by rw [HF2.out]; exact hrow, HB.out⟩
          case measure => simp [intOf]; omega
        · have HF2 : Hid ((s.off.take (q + 1)).filter (fun x => !(x == hs)) = L ++ [s.off[q]]) := by
            show _ = L ++ [s.off[q]]
            rw [HF.out, if_neg hx]
          have hx' : (s.off[q] == hs) = false := by simpa using hx
          clear hx HF
          generalize s.off[q] = x at k0 hx' HF2
          go_wp2_with (at_builtin; refine wpList_append_own _ rfl _ _ 35 rfl w.heap.size 9 i0 (.string ⟨#[]⟩) 1 16 Tryz.underlying35 hi hz0 hz1 hz2 rfl (by decide) _ _ _ rfl (hrow.alloc _) ⟨wr.heap.size, 0, none⟩ 1 1 [.string ⟨x.toArray⟩] rfl rfl (cell_one_new _ _ _) (by simp [Value.oneCell']) (by unfold maxLen; omega) (by omega) (by simp; omega) ?_; intro v' w2 hown' hgrow _)
          have HB2 : Below w.heap.size w w2 := (HB.out.alloc hbs _).grown hgrow (by simp; omega) (fun j ej => (hrow.lt j ej).1)
          refine ⟨⟨q + 1, by omega, by go_num, ?_, HB2⟩, by simp [intOf]; omega⟩
          rw [HF2.out, List.length_append]
          simpa using hown'
      · have hql : q = s.off.length := by omega
        have HF : Hid ((s.off.take q).filter (fun x => !(x == hs)) = s.off.filter (fun x => !(x == hs))) := by
          show _ = _
          rw [hql, List.take_length]
        rw [HF.out] at hrow hfl
        generalize s.off.filter (fun x => !(x == hs)) = L at hrow HC hfl
        clear HF
        have hz01 := HR.out.live 1
        cases on with
        | true =>
          obtain ⟨a2, cap2, hv2⟩ := owns_slice hrow
          subst hv2
          have hrow2 : wr.ownsRow w.heap.size 9 1 (.slice a2 L.length cap2) (L ++ []).length ((L ++ []).map sv) := by simpa using hrow
          have HX := Lib.hid (H.out.hosts HB.out hrow2)
          clear hql hrow2
          go_wp2
          go_ret
          exact ⟨by rw [HC.out]; rfl, vL, _, by rw [HC.out]; exact HX.out⟩
        | false =>
          have hmlt := HR.out.lt
          have hmw := H.out.lt
          clear hql
          go_wp2_with (at_builtin; refine wpList_append_own _ rfl _ _ 35 rfl w.heap.size 9 i0 (.string ⟨#[]⟩) 1 16 Tryz.underlying35 hi hz0 hz1 hz2 rfl (by decide) _ _ _ rfl (hrow.alloc _) ⟨wr.heap.size, 0, none⟩ 1 1 [.string ⟨hs.toArray⟩] rfl rfl (cell_one_new _ _ _) (by simp [Value.oneCell']) (by unfold maxLen; omega) (by omega) (by simp; omega) ?_; intro v' w2 hown' hgrow _; obtain ⟨a2, cap2, hv2⟩ := owns_slice hown'; subst hv2; have HB2 := Lib.hid ((HB.out.alloc hbs _).grown hgrow (by simp; omega) (fun j ej => (hrow.lt j ej).1)); have q1 : w2.cell? ⟨mb, 1, none⟩ = some (.slice av s.off.length cv) := (HB2.out.cell (p := ⟨mb, 1, none⟩) hmw).trans H.out.c1; have qz : w2.frozen? ⟨mb, 1, none⟩ = false := (HB2.out.frozen (p := ⟨mb, 1, none⟩) hmw).trans (H.out.live 1))
          have hown2 : w2.ownsRow w.heap.size 9 1 (.slice a2 (L.length + 1) cap2) (L ++ [hs]).length ((L ++ [hs]).map sv) := by simpa using hown'
          have HX := Lib.hid (H.out.hosts HB2.out hown2)
          go_ret
          exact ⟨by rw [HC.out]; rfl, vL, _, by rw [HC.out]; exact HX.out⟩
end Go.Proofs.YtmcfkoenpikldaaGreatDoor
/-
  Acts on a net in memory, five cells each; those that are too long; as an argument, opened: over this seat's translation.
-/
namespace Go.Proofs.YtmcfkoenpikldaaGreatDoor
open Go.RowKit Go.Shelf Go.ChangeShapes Go.WideShapes Go.Deep

/-- An act: its kind, a link (or a host), a text, a number, on or off. -/
structure Ac where
  k : List UInt8
  u : List UInt8
  s : List UInt8
  n : Int
  on : Bool
abbrev av (a : Ac) : Value := .agg #[.string ⟨a.k.toArray⟩, .string ⟨a.u.toArray⟩, .string ⟨a.s.toArray⟩, .int .i64 a.n, .bool a.on]
def acells (a : Ac) : List Value := [.string ⟨a.k.toArray⟩, .string ⟨a.u.toArray⟩, .string ⟨a.s.toArray⟩, .int .i64 a.n, .bool a.on]
/-- Acts that lie in memory from an address on. -/
def ActsAt (w : World) (a : Option Addr) (l : List Ac) : Prop :=
  l ≠ [] → ∃ b o, a = some ⟨b, o, none⟩ ∧ ∀ k (h : k < l.length), w.cell? ⟨b, o + k * 5, none⟩ = some (.string ⟨l[k].k.toArray⟩) ∧ w.cell? ⟨b, o + k * 5 + 1, none⟩ = some (.string ⟨l[k].u.toArray⟩) ∧ w.cell? ⟨b, o + k * 5 + 2, none⟩ = some (.string ⟨l[k].s.toArray⟩) ∧ w.cell? ⟨b, o + k * 5 + 3, none⟩ = some (.int .i64 l[k].n) ∧ w.cell? ⟨b, o + k * 5 + 4, none⟩ = some (.bool l[k].on)
theorem ActsAt.at {w : World} {a : Option Addr} {l : List Ac} (h : ActsAt w a l) {k : Nat} (hk : k < l.length) : ∃ b o, a = some ⟨b, o, none⟩ ∧ w.cell? ⟨b, o + k * 5, none⟩ = some (.string ⟨l[k].k.toArray⟩) ∧ w.cell? ⟨b, o + k * 5 + 1, none⟩ = some (.string ⟨l[k].u.toArray⟩) ∧ w.cell? ⟨b, o + k * 5 + 2, none⟩ = some (.string ⟨l[k].s.toArray⟩) ∧ w.cell? ⟨b, o + k * 5 + 3, none⟩ = some (.int .i64 l[k].n) ∧ w.cell? ⟨b, o + k * 5 + 4, none⟩ = some (.bool l[k].on) := by
  obtain ⟨b, o, e, hc⟩ := h (fun e => by simp [e] at hk)
  exact ⟨b, o, e, hc k hk⟩
theorem ActsAt.below {w w' : World} {a : Option Addr} {l : List Ac} (h : ActsAt w a l) (hb : Below w.heap.size w w') : ActsAt w' a l := fun hl => by
  obtain ⟨b, o, e, hc⟩ := h hl
  refine ⟨b, o, e, fun k hk => ?_⟩
  obtain ⟨h0, h1, h2, h3, h4⟩ := hc k hk
  have hlt : b < w.heap.size := block_lt_of_cell h0
  exact ⟨(hb.cell (p := ⟨b, o + k * 5, none⟩) hlt).trans h0, (hb.cell (p := ⟨b, o + k * 5 + 1, none⟩) hlt).trans h1, (hb.cell (p := ⟨b, o + k * 5 + 2, none⟩) hlt).trans h2, (hb.cell (p := ⟨b, o + k * 5 + 3, none⟩) hlt).trans h3, (hb.cell (p := ⟨b, o + k * 5 + 4, none⟩) hlt).trans h4⟩

/-- Is an act too long? -/
def longA (a : Ac) : Bool := decide (120 < a.u.length) || (decide (2000 < a.s.length) && !decide (a.s.length = 20001))
def longAs (l : List Ac) (most : Int) : Nat := if most < (l.length : Int) then 1 else if l.any longA then 1 else 0
theorem longAs_zero {l : List Ac} {most : Int} (h : longAs l most = 0) : (l.length : Int) ≤ most ∧ ∀ a ∈ l, a.u.length ≤ 120 ∧ a.s.length ≤ 20001 := by
  unfold longAs at h
  split at h
  · cases h
  · split at h
    · cases h
    · rename_i h1 h2
      refine ⟨by omega, fun a ha => ?_⟩
      have hf : longA a = false := by
        cases e : longA a with
        | false => rfl
        | true => exact absurd (List.any_eq_true.2 ⟨a, ha, e⟩) h2
      simp only [longA, Bool.or_eq_false_iff, Bool.and_eq_false_iff, Bool.not_eq_false', decide_eq_true_eq, decide_eq_false_iff_not] at hf
      omega
theorem longAs_or (l : List Ac) (most : Int) : longAs l most = 0 ∨ longAs l most = 1 := by
  unfold longAs
  repeat' split
  all_goals simp

set_option maxRecDepth 100000 in
set_option maxHeartbeats 2000000 in
theorem longActs_any (l : List Ac) (a : Option Addr) (ca : Nat) (most : Int) (w : World) (hl : ActsAt w a l) (hm : l.length ≤ maxLen) (hp : ∀ x ∈ l, x.u.length ≤ maxLen ∧ x.s.length ≤ maxLen) :
    Calls Tryz.prog 9 #[.slice a l.length ca, .int .i64 most] w fun e w' => e = .returned (.int .i64 (longAs l most)) ∧ w' = w := by
  unfold maxLen at hm hp
  by_cases hmany : most < (l.length : Int)
  · have HF : Hid (longAs l most = 1) := if_pos hmany
    clear hl hp
    go_enter Tryz.func9, Tryz.ntmps9
    go_wp2
    go_ret
    exact ⟨by rw [HF.out]; rfl, rfl⟩
  · have HL := Lib.hid hl
    have HP := Lib.hid hp
    have HM := Lib.hid hmany
    have hmany' : decide (most < (l.length : Int)) = false := by simp; omega
    clear hl hp hmany
    go_enter Tryz.func9, Tryz.ntmps9
    go_wp2_with fail
    go_loopw [5] (fun i wr => ∃ q : Nat, q ≤ l.length ∧ i = .int .i64 q ∧ (l.take q).any longA = false ∧ wr = w) (fun i _ => l.length - (intOf i).toNat)
    case atStart => exact ⟨0, by omega, rfl, by simp, rfl⟩
    case round =>
      obtain ⟨q, hq, rfl, hno, hb⟩ := hrel
      subst hb
      have HNO := Lib.hid hno
      clear hno
      by_cases hlt : q < l.length
      · have hlt' : (q : Int) < (l.length : Int) := by omega
        obtain ⟨b, o, rfl, c0, c1, c2, c3, c4⟩ := HL.out.at hlt
        obtain ⟨hpl, htl⟩ := HP.out _ (List.getElem_mem hlt)
        cases hf : longA l[q] with
        | true =>
          have HF : Hid (longAs l most = 1) := by
            show longAs l most = 1
            unfold longAs
            rw [if_neg (by have := HM.out; omega), if_pos (List.any_eq_true.2 ⟨_, List.getElem_mem hlt, hf⟩)]
          generalize l[q] = f at c0 c1 c2 c3 c4 hpl htl hf
          simp only [longA, Bool.or_eq_true, Bool.and_eq_true, Bool.not_eq_true', decide_eq_true_eq, decide_eq_false_iff_not] at hf
          by_cases hp1 : 120 < f.u.length
          · have hp1' : (120 : Int) < (f.u.length : Int) := by omega
            clear hf hp1
            go_wp2
            go_ret
            exact ⟨by rw [HF.out]; rfl, rfl⟩
          · have hp1' : decide ((120 : Int) < (f.u.length : Int)) = false := by simp; omega
            have ht1 : (2000 : Int) < (f.s.length : Int) := by omega
            have ht2 : ((f.s.length : Int) != 20001) = true := by simp; omega
            clear hf hp1
            go_wp2
            go_ret
            exact ⟨by rw [HF.out]; rfl, rfl⟩
        | false =>
          have HN : Hid ((l.take (q + 1)).any longA = false) := by
            show List.any _ _ = false
            rw [List.take_succ_eq_append_getElem hlt, List.any_append, HNO.out]
            simp only [List.any_cons, List.any_nil, hf, Bool.or_false]
          generalize l[q] = f at c0 c1 c2 c3 c4 hpl htl hf
          simp only [longA, Bool.or_eq_false_iff, Bool.and_eq_false_iff, Bool.not_eq_false', decide_eq_true_eq, decide_eq_false_iff_not] at hf
          have hp1' : decide ((120 : Int) < (f.u.length : Int)) = false := by simp; omega
          by_cases ht : 2000 < f.s.length
          · have ht1 : (2000 : Int) < (f.s.length : Int) := by omega
            have ht2 : ((f.s.length : Int) != 20001) = false := by simp; omega
            clear hf ht
            go_wp2
            go_roundw
            case rel => exact ⟨q + 1, by omega, by go_num, HN.out, trivial⟩
            case measure => simp [intOf]; omega
          · have ht1 : decide ((2000 : Int) < (f.s.length : Int)) = false := by simp; omega
            clear hf ht
            go_wp2
            go_roundw
            case rel => exact ⟨q + 1, by omega, by go_num, HN.out, trivial⟩
            case measure => simp [intOf]; omega
      · have hql : q = l.length := by omega
        have HF : Hid (longAs l most = 0) := by
          show longAs l most = 0
          have := HNO.out
          rw [hql, List.take_length] at this
          unfold longAs
          rw [if_neg (by have := HM.out; omega), if_neg (by rw [this]; simp)]
        clear hql
        go_wp2
        go_ret
        exact ⟨by rw [HF.out]; rfl, rfl⟩

theorem Tryz.cellsAct : Tryz.prog.cellsOf 42 = 5 := by kernel_rfl
theorem Tryz.cellsStrA : Tryz.prog.cellsOf 9 = 1 := by kernel_rfl
theorem Tryz.cellsIntA : Tryz.prog.cellsOf 3 = 1 := by kernel_rfl
theorem Tryz.cellsBoolA : Tryz.prog.cellsOf 4 = 1 := by kernel_rfl
theorem Tryz.laidOutA : laidOutB Tryz.prog = true := by kernel_rfl

set_option maxRecDepth 100000 in
/-- An act's cells, opened. -/
theorem open_act {H : Type} {enc : TypeId × Value → H} {W : World} {base : Nat} {sp : Nat → Bool} {held : Bool} {fuel : Nat} {cs : List Value} {x : DataW H × List MemPlace} (h : DataW.trod enc Tryz.prog W base sp held fuel 42 cs = some x) :
    ∃ f : Ac, cs = acells f ∧ f.u.length ≤ maxLen ∧ f.s.length ≤ maxLen := by
  obtain ⟨xs, n, _, _, hlen, hxl, hf⟩ := DataW.trod_struct Tryz.underlying42 h
  rw [Tryz.cellsAct] at hlen
  match cs, hlen with
  | [v0, v1, v2, v3, v4], _ =>
    have l5 : xs.length = 5 := hxl
    match xs, l5 with
    | [y0, y1, y2, y3, y4], _ =>
      have g0 : DataW.trod enc Tryz.prog W base sp held n 9 (([v0, v1, v2, v3, v4].drop 0).take (Tryz.prog.cellsOf 9)) = some y0 := hf 0 _ rfl
      have g1 : DataW.trod enc Tryz.prog W base sp held n 9 (([v0, v1, v2, v3, v4].drop 1).take (Tryz.prog.cellsOf 9)) = some y1 := hf 1 _ rfl
      have g2 : DataW.trod enc Tryz.prog W base sp held n 9 (([v0, v1, v2, v3, v4].drop 2).take (Tryz.prog.cellsOf 9)) = some y2 := hf 2 _ rfl
      have g3 : DataW.trod enc Tryz.prog W base sp held n 3 (([v0, v1, v2, v3, v4].drop 3).take (Tryz.prog.cellsOf 3)) = some y3 := hf 3 _ rfl
      have g4 : DataW.trod enc Tryz.prog W base sp held n 4 (([v0, v1, v2, v3, v4].drop 4).take (Tryz.prog.cellsOf 4)) = some y4 := hf 4 _ rfl
      rw [Tryz.cellsStrA] at g0 g1 g2
      rw [Tryz.cellsIntA] at g3
      rw [Tryz.cellsBoolA] at g4
      obtain ⟨s0, e0, _, _⟩ := DataW.trod_string Tryz.underlying9 g0
      obtain ⟨s1, e1, _, h1⟩ := DataW.trod_string Tryz.underlying9 g1
      obtain ⟨s2, e2, _, h2⟩ := DataW.trod_string Tryz.underlying9 g2
      obtain ⟨i3, e3, _⟩ := DataW.trod_int Tryz.underlying3 g3
      obtain ⟨b4, e4, _⟩ := DataW.trod_bool Tryz.underlying4 g4
      have e0' : [v0] = [.string s0] := e0
      have e1' : [v1] = [.string s1] := e1
      have e2' : [v2] = [.string s2] := e2
      have e3' : [v3] = [.int .i64 i3] := e3
      have e4' : [v4] = [.bool b4] := e4
      cases e0'
      cases e1'
      cases e2'
      cases e3'
      cases e4'
      exact ⟨⟨s0.data.toList, s1.data.toList, s2.data.toList, i3, b4⟩, rfl, h1, h2⟩

/-- What is asked of acts that came in. -/
structure CameA (w : World) (a : Option Addr) (l : List Ac) : Prop where
  lies : ActsAt w a l
  len : l.length ≤ maxLen
  texts : ∀ f ∈ l, f.u.length ≤ maxLen ∧ f.s.length ≤ maxLen
theorem CameA.below {w w' : World} {a : Option Addr} {l : List Ac} (h : CameA w a l) (hb : Below w.heap.size w w') : CameA w' a l := ⟨h.lies.below hb, h.len, h.texts⟩

set_option maxRecDepth 100000 in
/-- Acts among the arguments, opened. -/
theorem open_acts {H : Type} {enc : TypeId × Value → H} {W : World} {base : Nat} {sp : Nat → Bool} {held : Bool} {r : Reach} {b0 : Nat} {v : Value} {d : DataW H} {ps : List MemPlace} (hval : Value.okWide Tryz.prog W r b0 22 v) (hd : DataW.Trod enc Tryz.prog W base sp held 22 v d ps) :
    ∃ l a ca, v = .slice a (List.length l) ca ∧ CameA W a l := by
  obtain ⟨a0, len0, cap0, rfl⟩ := okWide_slice Tryz.underlying22 hval
  obtain ⟨fuel, hf⟩ := hd
  rcases open_slice Tryz.underlying22 hf with ⟨hc, _⟩ | ⟨a, len, cap, m, n, D, Pl, hc, _, hl, hm, hmm, _, hx⟩
  · have hc' : Value.slice a0 len0 cap0 = .slice none 0 0 := by simpa [Value.cells] using hc
    cases hc'
    exact ⟨[], none, 0, rfl, fun h => absurd rfl h, Nat.zero_le _, fun f hf => by simp at hf⟩
  · have hc' : Value.slice a0 len0 cap0 = .slice (some a) len cap := by simpa [Value.cells] using hc
    cases hc'
    have hlm : len0 ≤ m := by rw [hmm]; split <;> omega
    have each : ∀ i, i < len0 → ∃ f : Ac, (∀ j u, (acells f)[j]? = some u → W.cell? ((a.add (i * 5)).add j) = some u) ∧ f.u.length ≤ maxLen ∧ f.s.length ≤ maxLen := fun i hi => by
      obtain ⟨cs', h1, h2⟩ := hx i (by omega)
      rw [Tryz.cellsAct] at h1
      obtain ⟨_, hlen, hcell⟩ := World.cells?_some h1
      obtain ⟨f, rfl, hp, ht⟩ := open_act h2
      refine ⟨f, fun j u hj => ?_, hp, ht⟩
      have hj5 : j < 5 := (List.getElem?_eq_some_iff.1 hj).1
      rw [hcell j hj5]
      exact hj
    haveI : Inhabited Ac := ⟨⟨[], [], [], 0, false⟩⟩
    obtain ⟨q, hq⟩ := choose_lt each
    refine ⟨(List.range len0).map q, some a, cap0, by simp, ?_, by rw [List.length_map, List.length_range]; omega, fun f hf => ?_⟩
    · intro hne
      have hpos : 0 < len0 := by
        cases len0 with
        | zero => exact absurd rfl hne
        | succ k => omega
      obtain ⟨b, o, spot⟩ := a
      have hspot : spot = none := by
        have := World.cell?_spot ((hq 0 hpos).1 0 _ rfl)
        simpa [Addr.add] using this
      subst hspot
      refine ⟨b, o, rfl, fun k hk => ?_⟩
      have hk' : k < len0 := by simpa using hk
      have hg : ((List.range len0).map q)[k] = q k := by simp
      rw [hg]
      have hc := (hq k hk').1
      have hadd : ∀ j, ((⟨b, o, none⟩ : Addr).add (k * 5)).add j = ⟨b, o + k * 5 + j, none⟩ := fun j => by rw [Addr.add_lit, Addr.add_lit]
      exact ⟨by simpa [hadd] using hc 0 _ rfl, by simpa [hadd] using hc 1 _ rfl, by simpa [hadd] using hc 2 _ rfl, by simpa [hadd] using hc 3 _ rfl, by simpa [hadd] using hc 4 _ rfl⟩
    · obtain ⟨i, hi, rfl⟩ := List.mem_map.1 hf
      exact (hq i (List.mem_range.1 hi)).2
end Go.Proofs.YtmcfkoenpikldaaGreatDoor
