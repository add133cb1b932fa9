/-
  The document's net in memory: its three cells, the rows that they lead to; what is kept where others write: over this seat's translation.
-/
import Derived.Test.YtkokdpidgikdkaaDoorNetPure
import Derived.Test.YtkokdpidgikdkaaDoorRefLinks
import Derived.Test.YtkokdpidgikdkaaDoorSlots
import Derived.OneCell
namespace Go.Proofs.YtkokdpidgikdkaaDoor
open Go.RowKit Go.Shelf

def sicells (x : Si) : List Value := [sv x.u, sv x.t, .int .i64 x.c]
def scells (l : List Si) : List Value := l.flatMap sicells
theorem scells_length (l : List Si) : (scells l).length = l.length * 3 := by
  induction l with
  | nil => rfl
  | cons x r ih =>
    show (sicells x ++ scells r).length = _
    rw [List.length_append, ih, List.length_cons]
    show 3 + r.length * 3 = _
    omega
theorem scells_app (l m : List Si) : scells (l ++ m) = scells l ++ scells m := by simp [scells]
theorem scells_split {l : List Si} {k : Nat} (hk : k < l.length) : scells l = scells (l.take k) ++ (sicells l[k] ++ scells (l.drop (k + 1))) := by
  have : l = l.take k ++ l[k] :: l.drop (k + 1) := by rw [← List.drop_eq_getElem_cons hk, List.take_append_drop]
  conv => lhs; rw [this]
  rw [scells_app]
  rfl
theorem scells_at {l : List Si} {k j : Nat} (hk : k < l.length) (hj : j < 3) : (scells l)[k * 3 + j]? = (sicells l[k])[j]? := by
  have hlen : (scells (l.take k)).length = k * 3 := by rw [scells_length, List.length_take]; congr 1; omega
  have h3 : (sicells l[k]).length = 3 := rfl
  rw [scells_split hk, List.getElem?_append_right (by omega), hlen, Nat.add_sub_cancel_left, List.getElem?_append_left (by omega)]
theorem scells_set {l : List Si} {k j : Nat} (hk : k < l.length) (hj : j < 3) (v : Value) (x : Si) (hx : sicells x = (sicells l[k]).set j v) : (scells l).set (k * 3 + j) v = scells (l.set k x) := by
  have hlen : (scells (l.take k)).length = k * 3 := by rw [scells_length, List.length_take]; congr 1; omega
  have h3 : (sicells l[k]).length = 3 := rfl
  have hk' : k < (l.set k x).length := by simpa using hk
  rw [scells_split hk, scells_split hk', List.set_append_right _ _ (by omega), hlen, Nat.add_sub_cancel_left, List.set_append_left _ _ (by omega)]
  rw [List.take_set_of_le (Nat.le_refl k), List.drop_set_of_lt (by omega), List.getElem_set_self, hx]

/-- What is not of a set of blocks is kept. -/
structure Kept (S : Nat → Prop) (w w' : World) : Prop where
  size : w.heap.size ≤ w'.heap.size
  block : ∀ b, b < w.heap.size → ¬ S b → w'.heap[b]? = w.heap[b]?
theorem Kept.of_below {S : Nat → Prop} {w w' : World} (h : Below w.heap.size w w') : Kept S w w' := ⟨h.size, fun b hb _ => h.block b hb⟩
theorem Kept.trans {S : Nat → Prop} {w w1 w2 : World} (h : Kept S w w1) (k : Kept S w1 w2) : Kept S w w2 := ⟨Nat.le_trans h.size k.size, fun b hb hs => (k.block b (Nat.lt_of_lt_of_le hb h.size) hs).trans (h.block b hb hs)⟩
theorem Kept.set {S : Nat → Prop} (w : World) {a : Addr} (ha : S a.block) (v : Value) : Kept S w (w.setCell a v) :=
  ⟨by simp, fun b _ hs => Below.heap_setCell _ _ _ _ (fun e => hs (e ▸ ha))⟩
theorem Kept.more {S T : Nat → Prop} {w w' : World} (h : Kept S w w') (hs : ∀ b, b < w.heap.size → S b → T b) : Kept T w w' := ⟨h.size, fun b hb ht => h.block b hb (fun s => ht (hs b hb s))⟩

/-- A row that is kept. -/
theorem owns_kept {w w' : World} {base : Nat} {e : TypeId} {size : Nat} {v : Value} {n : Nat} {xs : List Value} (h : w.ownsRow base e size v n xs) (hk : ∀ g, v.ownBlock = some g → w'.heap[g]? = w.heap[g]?) : w'.ownsRow base e size v n xs := by
  obtain ⟨h1, h2⟩ := h
  refine ⟨h1, ?_⟩
  rcases h2 with h2 | ⟨g, cap, cur, hv, hg, hh, r⟩
  · exact .inl h2
  · subst hv
    exact .inr ⟨g, cap, cur, rfl, hg, by rw [hk g rfl]; exact hh, r⟩

/-- The document's net at a block. -/
structure RefAt (w : World) (mb : Nat) (vL vO : Value) (s : Ns) : Prop where
  c0 : w.cell? ⟨mb, 0, none⟩ = some vL
  c1 : w.cell? ⟨mb, 1, none⟩ = some vO
  c2 : w.cell? ⟨mb, 2, none⟩ = some (.int .i64 s.calls)
  live : ∀ j, w.frozen? ⟨mb, j, none⟩ = false
  rows : w.ownsRow (mb + 1) 76 3 vL s.l.length (scells s.l)
  offs : w.ownsRow (mb + 1) 9 1 vO s.off.length (s.off.map sv)
  apart : ∀ g, vL.ownBlock = some g → vO.ownBlock ≠ some g
theorem RefAt.lt {w : World} {mb : Nat} {vL vO : Value} {s : Ns} (h : RefAt w mb vL vO s) : mb < w.heap.size := block_lt_of_cell h.c0
/-- Where others write it stays. -/
theorem RefAt.kept {w w' : World} {mb : Nat} {vL vO : Value} {s : Ns} {S : Nat → Prop} (h : RefAt w mb vL vO s) (hk : Kept S w w') (h0 : ¬ S mb) (h1 : ∀ g, vL.ownBlock = some g → ¬ S g) (h2 : ∀ g, vO.ownBlock = some g → ¬ S g) : RefAt w' mb vL vO s := by
  have hb : w'.heap[mb]? = w.heap[mb]? := hk.block mb h.lt h0
  have hc : ∀ j, w'.cell? ⟨mb, j, none⟩ = w.cell? ⟨mb, j, none⟩ := fun j => by simp [World.cell?, hb]
  have hf : ∀ j, w'.frozen? ⟨mb, j, none⟩ = w.frozen? ⟨mb, j, none⟩ := fun j => by simp [World.frozen?, hb]
  exact ⟨(hc 0).trans h.c0, (hc 1).trans h.c1, (hc 2).trans h.c2, fun j => (hf j).trans (h.live j), owns_kept h.rows fun g hg => hk.block g (h.rows.lt g hg).2 (h1 g hg), owns_kept h.offs fun g hg => hk.block g (h.offs.lt g hg).2 (h2 g hg), h.apart⟩
theorem RefAt.below {w w' : World} {mb : Nat} {vL vO : Value} {s : Ns} (h : RefAt w mb vL vO s) (hb : Below w.heap.size w w') : RefAt w' mb vL vO s :=
  h.kept (S := fun _ => False) (Kept.of_below hb) (fun h => h) (fun _ _ h => h) (fun _ _ h => h)
/-- A row's value, as a slice. -/
theorem owns_slice {w : World} {base : Nat} {e : TypeId} {size : Nat} {v : Value} {n : Nat} {xs : List Value} (h : w.ownsRow base e size v n xs) : ∃ a cap, v = .slice a n cap := by
  rcases h.2 with ⟨h1, h2⟩ | ⟨g, cap, cur, h1, _⟩
  · exact ⟨none, 0, by rw [h1, h2]⟩
  · exact ⟨_, _, h1⟩
theorem owns_at {w : World} {base : Nat} {e : TypeId} {size : Nat} {v : Value} {n : Nat} {xs : List Value} (h : w.ownsRow base e size v n xs) (hn : 0 < n) : ∃ g cap, v = .slice (some ⟨g, 0, none⟩) n cap ∧ n ≤ cap ∧ cap ≤ maxLen := by
  rcases h.2 with ⟨h1, h2⟩ | ⟨g, cap, cur, h1, _, _, h3, h4, _⟩
  · omega
  · exact ⟨g, cap, h1, h3, h4⟩
/-- The three cells of a place. -/
theorem RefAt.site {w : World} {mb : Nat} {vL vO : Value} {s : Ns} (h : RefAt w mb vL vO s) {k : Nat} (hk : k < s.l.length) : ∃ g cap, vL = .slice (some ⟨g, 0, none⟩) s.l.length cap ∧ s.l.length ≤ cap ∧ w.cell? ⟨g, k * 3, none⟩ = some (sv s.l[k].u) ∧ w.cell? ⟨g, k * 3 + 1, none⟩ = some (sv s.l[k].t) ∧ w.cell? ⟨g, k * 3 + 2, none⟩ = some (.int .i64 s.l[k].c) ∧ (∀ j, w.frozen? ⟨g, j, none⟩ = false) := by
  obtain ⟨g, cap, rfl, h1, _⟩ := owns_at h.rows (by omega)
  have hc : ∀ j, j < 3 → w.cell? ⟨g, k * 3 + j, none⟩ = (sicells s.l[k])[j]? := fun j hj => by
    rw [h.rows.cellAt (k * 3 + j) (by omega)]
    exact scells_at hk hj
  exact ⟨g, cap, rfl, h1, by simpa [sicells] using hc 0 (by omega), by simpa [sicells] using hc 1 (by omega), by simpa [sicells] using hc 2 (by omega), fun j => h.rows.frozenAt j⟩

set_option maxRecDepth 100000 in
set_option maxHeartbeats 1000000 in
theorem refFind_any (mb : Nat) (vL vO : Value) (s : Ns) (u : List UInt8) (w : World) (h : RefAt w mb vL vO s) (hl : s.l.length ≤ 100000) :
    Calls Tryd.prog 31 #[.pointer (some ⟨mb, 0, none⟩), .string ⟨u.toArray⟩] w fun e w' => e = .returned (.int .i64 (atN s.l u)) ∧ w' = w := by
  have H := Lib.hid h
  have c0 := h.c0
  obtain ⟨av, cv, hv⟩ := owns_slice h.rows
  subst hv
  clear h
  go_enter Tryd.func31, Tryd.ntmps31
  go_wp2_with fail
  go_loop [5] (fun i => ∃ q : Nat, q ≤ s.l.length ∧ i = .int .i64 q ∧ ∀ j (h : j < s.l.length), j < q → s.l[j].u ≠ u) (fun i => s.l.length - (intOf i).toNat)
  case atStart => exact ⟨0, by omega, rfl, fun _ _ h => by omega⟩
  case round =>
    obtain ⟨q, hq, rfl, hn⟩ := hrel
    have HN := Lib.hid hn
    clear hn
    by_cases hlt : q < s.l.length
    · have hlt' : (q : Int) < (s.l.length : Int) := by omega
      obtain ⟨g, cap, hv2, hcap, k0, _, _, _⟩ := H.out.site hlt
      cases hv2
      by_cases hx : s.l[q].u = u
      · have HF : Hid (atN s.l u = (q : Int)) := by
          show atN s.l u = (q : Int)
          unfold atN
          rw [spot_first hlt hx HN.out]
        rw [hx] at k0
        clear hx
        go_wp2
        go_ret
        exact ⟨by rw [HF.out]; rfl, rfl⟩
      · have HF : Hid (∀ j (h : j < s.l.length), j < q + 1 → s.l[j].u ≠ u) := fun j hj hjq => by
          rcases Nat.lt_or_ge j q with h | h
          · exact HN.out j hj h
          · obtain rfl : j = q := by omega
            exact hx
        have hx' : (s.l[q].u == u) = false := by simpa using hx
        clear hx
        generalize s.l[q].u = x at k0 hx'
        go_wp2
        go_round
        case rel => exact ⟨q + 1, by omega, by go_num, HF.out⟩
        case measure => simp [intOf]; omega
    · have hql : q = s.l.length := by omega
      have HF : Hid (atN s.l u = -1) := by
        show atN s.l u = -1
        unfold atN
        rw [spot_none fun j hj => HN.out j hj (by omega)]
      clear hql
      go_wp2
      go_ret
      exact ⟨by rw [HF.out]; rfl, rfl⟩
theorem refFind_is (mb : Nat) (vL vO : Value) (s : Ns) (u : List UInt8) (z : Int) (w : World) (h : RefAt w mb vL vO s) (hl : s.l.length ≤ 100000) (hz : atN s.l u = z) :
    Calls Tryd.prog 31 #[.pointer (some ⟨mb, 0, none⟩), .string ⟨u.toArray⟩] w fun e w' => e = .returned (.int .i64 z) ∧ w' = w := by
  have := refFind_any mb vL vO s u w h hl
  rwa [hz] at this
end Go.Proofs.YtkokdpidgikdkaaDoor
