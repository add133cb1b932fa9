/-
  Own texts of the proof, joined by program: Kept, NetRow.
-/
import Derived.Test.YtmeipangcgdinaaGreatDoorErrsAsCode
import Derived.Deep.QuietTactic
import Derived.BigQuiet
import Derived.WalkSmall
import Derived.OwnWalk
import Derived.Test.YtmeipangcgdinaaGreatDoorLinkPureMirrorPureNetPure
import Derived.Test.YtmeipangcgdinaaGreatDoorRefRefMoreRefLinkRefLinks
import Derived.Test.YtmeipangcgdinaaGreatDoorSlotsErrAt
import Derived.OneCell
/-
  What is kept where others write: blocks that are not of a set; a row that is kept; its value.
-/
namespace Go.Proofs.YtmeipangcgdinaaGreatDoor
open Go.RowKit

/-- What is not of a set of blocks is kept. -/
structure Kept (S : Nat → Prop) (w w' : World) : Prop where
  size : w.heap.size ≤ w'.heap.size
  block : ∀ b, b < w.heap.size → ¬ S b → w'.heap[b]? = w.heap[b]?
theorem Kept.of_below {S : Nat → Prop} {w w' : World} (h : Below w.heap.size w w') : Kept S w w' := ⟨h.size, fun b hb _ => h.block b hb⟩
theorem Kept.trans {S : Nat → Prop} {w w1 w2 : World} (h : Kept S w w1) (k : Kept S w1 w2) : Kept S w w2 := ⟨Nat.le_trans h.size k.size, fun b hb hs => (k.block b (Nat.lt_of_lt_of_le hb h.size) hs).trans (h.block b hb hs)⟩
theorem Kept.set {S : Nat → Prop} (w : World) {a : Addr} (ha : S a.block) (v : Value) : Kept S w (w.setCell a v) :=
  ⟨by simp, fun b _ hs => Below.heap_setCell _ _ _ _ (fun e => hs (e ▸ ha))⟩
theorem Kept.more {S T : Nat → Prop} {w w' : World} (h : Kept S w w') (hs : ∀ b, b < w.heap.size → S b → T b) : Kept T w w' := ⟨h.size, fun b hb ht => h.block b hb (fun s => ht (hs b hb s))⟩

/-- A row that is kept. -/
theorem owns_kept {w w' : World} {base : Nat} {e : TypeId} {size : Nat} {v : Value} {n : Nat} {xs : List Value} (h : w.ownsRow base e size v n xs) (hk : ∀ g, v.ownBlock = some g → w'.heap[g]? = w.heap[g]?) : w'.ownsRow base e size v n xs := by
  obtain ⟨h1, h2⟩ := h
  refine ⟨h1, ?_⟩
  rcases h2 with h2 | ⟨g, cap, cur, hv, hg, hh, r⟩
  · exact .inl h2
  · subst hv
    exact .inr ⟨g, cap, cur, rfl, hg, by rw [hk g rfl]; exact hh, r⟩

/-- A row's value, as a slice. -/
theorem owns_slice {w : World} {base : Nat} {e : TypeId} {size : Nat} {v : Value} {n : Nat} {xs : List Value} (h : w.ownsRow base e size v n xs) : ∃ a cap, v = .slice a n cap := by
  rcases h.2 with ⟨h1, h2⟩ | ⟨g, cap, cur, h1, _⟩
  · exact ⟨none, 0, by rw [h1, h2]⟩
  · exact ⟨_, _, h1⟩
theorem owns_at {w : World} {base : Nat} {e : TypeId} {size : Nat} {v : Value} {n : Nat} {xs : List Value} (h : w.ownsRow base e size v n xs) (hn : 0 < n) : ∃ g cap, v = .slice (some ⟨g, 0, none⟩) n cap ∧ n ≤ cap ∧ cap ≤ maxLen := by
  rcases h.2 with ⟨h1, h2⟩ | ⟨g, cap, cur, h1, _, _, h3, h4, _⟩
  · omega
  · exact ⟨g, cap, h1, h3, h4⟩
end Go.Proofs.YtmeipangcgdinaaGreatDoor
/-
  The document's net in memory: its three cells, the rows that they lead to; what is kept where others write: over this seat's translation.
-/
namespace Go.Proofs.YtmeipangcgdinaaGreatDoor
open Go.RowKit Go.Shelf

def sicells (x : Si) : List Value := [sv x.u, sv x.t, .int .i64 x.c]
def scells (l : List Si) : List Value := l.flatMap sicells
theorem scells_length (l : List Si) : (scells l).length = l.length * 3 := by
  induction l with
  | nil => rfl
  | cons x r ih =>
    show (sicells x ++ scells r).length = _
    rw [List.length_append, ih, List.length_cons]
    show 3 + r.length * 3 = _
    omega
theorem scells_app (l m : List Si) : scells (l ++ m) = scells l ++ scells m := by simp [scells]
theorem scells_split {l : List Si} {k : Nat} (hk : k < l.length) : scells l = scells (l.take k) ++ (sicells l[k] ++ scells (l.drop (k + 1))) := by
  have : l = l.take k ++ l[k] :: l.drop (k + 1) := by rw [← List.drop_eq_getElem_cons hk, List.take_append_drop]
  conv => lhs; rw [this]
  rw [scells_app]
  rfl
theorem scells_at {l : List Si} {k j : Nat} (hk : k < l.length) (hj : j < 3) : (scells l)[k * 3 + j]? = (sicells l[k])[j]? := by
  have hlen : (scells (l.take k)).length = k * 3 := by rw [scells_length, List.length_take]; congr 1; omega
  have h3 : (sicells l[k]).length = 3 := rfl
  rw [scells_split hk, List.getElem?_append_right (by omega), hlen, Nat.add_sub_cancel_left, List.getElem?_append_left (by omega)]
theorem scells_set {l : List Si} {k j : Nat} (hk : k < l.length) (hj : j < 3) (v : Value) (x : Si) (hx : sicells x = (sicells l[k]).set j v) : (scells l).set (k * 3 + j) v = scells (l.set k x) := by
  have hlen : (scells (l.take k)).length = k * 3 := by rw [scells_length, List.length_take]; congr 1; omega
  have h3 : (sicells l[k]).length = 3 := rfl
  have hk' : k < (l.set k x).length := by simpa using hk
  rw [scells_split hk, scells_split hk', List.set_append_right _ _ (by omega), hlen, Nat.add_sub_cancel_left, List.set_append_left _ _ (by omega)]
  rw [List.take_set_of_le (Nat.le_refl k), List.drop_set_of_lt (by omega), List.getElem_set_self, hx]

end Go.Proofs.YtmeipangcgdinaaGreatDoor
