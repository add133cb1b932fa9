/-
  The closed fact of the laws on mirrors: two ways: over this seat's translation.
-/
import Derived.Test.YtmpfjambenkeeaaDoorOwnRules
namespace Go.Proofs.YtmpfjambenkeeaaDoor
open Go.RowKit Go.Shelf

def mFrom : List UInt8 := [104, 116, 116, 112, 58, 47, 47, 97, 47]
def mTo : List UInt8 := [102, 116, 112, 58, 47, 47, 98, 47]
def mLink : List UInt8 := [104, 116, 116, 112, 58, 47, 47, 97, 47, 120]
def mWay : List UInt8 := [102, 116, 112, 58, 47, 47, 98, 47, 120]
def mRu (n : Nat) : Ru := ⟨mFrom, [mTo], some ⟨n, 0, none⟩, 1⟩
theorem mirrored_ways : waysQ [(mFrom, [mTo])] mLink = ([mWay, mLink], (0, -1)) := by decide +kernel
theorem cell_block {w : World} {g : Nat} {cs : Array Value} {T : TypeId} {fr : Nat × Nat} (h : w.heap[g]? = some (.cells cs T fr)) (k : Nat) : w.cell? ⟨g, k, none⟩ = cs[k]? := by simp [World.cell?, h]
theorem mirrored_lies (w : World) : RulesAt ((w.alloc (.cells #[sv mTo] 9)).alloc (.cells #[sv mFrom, .slice (some ⟨w.heap.size, 0, none⟩) 1 1] 45)) (some ⟨w.heap.size + 1, 0, none⟩) [mRu w.heap.size] := by
  have h0 : ((w.alloc (.cells #[sv mTo] 9)).alloc (.cells #[sv mFrom, .slice (some ⟨w.heap.size, 0, none⟩) 1 1] 45)).heap[w.heap.size]? = some (.cells #[sv mTo] 9) := (Below.heap_alloc _ _ _ (by simp)).trans (heap_new w _)
  have h1 : ((w.alloc (.cells #[sv mTo] 9)).alloc (.cells #[sv mFrom, .slice (some ⟨w.heap.size, 0, none⟩) 1 1] 45)).heap[w.heap.size + 1]? = some (.cells #[sv mFrom, .slice (some ⟨w.heap.size, 0, none⟩) 1 1] 45) := by
    have := heap_new (w.alloc (.cells #[sv mTo] 9)) (.cells #[sv mFrom, .slice (some ⟨w.heap.size, 0, none⟩) 1 1] 45)
    rwa [World.size_alloc] at this
  refine ⟨fun r hr => ?_, fun _ => ⟨w.heap.size + 1, 0, rfl, fun k hk => ?_⟩⟩
  · obtain rfl := List.mem_singleton.1 hr
    refine ⟨fun _ => ⟨w.heap.size, 0, rfl, fun k hk => ?_⟩, Nat.le_refl _, fun h => by cases h⟩
    have hk0 : k = 0 := by simp [mRu] at hk; omega
    subst hk0
    exact cell_block h0 0
  · have hk0 : k = 0 := by simp at hk; omega
    subst hk0
    exact ⟨cell_block h1 0, cell_block h1 1⟩
theorem mirrored_small (n : Nat) : RuSmall [mRu n] := by
  refine ⟨by simp, fun r hr => ?_, fun r hr => ?_, fun r hr t ht => ?_⟩
  · obtain rfl := List.mem_singleton.1 hr; simp [mRu, mFrom]
  · obtain rfl := List.mem_singleton.1 hr; simp [mRu]
  · obtain rfl := List.mem_singleton.1 hr
    obtain rfl := List.mem_singleton.1 ht
    simp [mTo]
theorem mirrored_texts (w : World) : TextsAt (w.alloc (.cells #[sv mWay, sv mLink] 9)) (some ⟨w.heap.size, 0, none⟩) [mWay, mLink] := fun _ => ⟨w.heap.size, 0, rfl, fun k hk => by
  have h0 := heap_new w (.cells #[sv mWay, sv mLink] 9)
  rcases k with _ | _ | k
  · exact cell_block h0 0
  · exact cell_block h0 1
  · simp at hk; omega⟩
theorem waysOn_any (p : Nat → Addr) (s : List UInt8) (l : List Ru) (a : Option Addr) (n ca : Nat) (x : List (List UInt8) × (Nat × Int)) (w : World) (hE : LEnv p w) (hl : RulesAt w a l) (hs : RuSmall l) (hsl : s.length ≤ 20000) (hn : l.length = n) (hx : waysQ (l.map Ru.q) s = x) :
    Calls Tryd.prog 22 #[.slice a n ca, .string ⟨s.toArray⟩] w fun e w' => (∃ v u, e = .returned (.tuple #[v, u]) ∧ ToldWays p w.heap.size x v u w') ∧ Below w.heap.size w w' := by
  have := ways_any p s l a ca w hE hl hs hsl
  rwa [hn, hx] at this

set_option maxRecDepth 100000 in
theorem mirrored_any (p : Nat → Addr) (w : World) (hE : LEnv p w) : Calls Tryd.prog 20 #[] w fun e w' => e = .returned (.bool true) ∧ Below w.heap.size w w' := by
  have HE := Lib.hid hE
  clear hE
  have HL := Lib.hid (mirrored_lies w)
  have hB0 : Below w.heap.size w ((w.alloc (.cells #[sv mTo] 9)).alloc (.cells #[sv mFrom, .slice (some ⟨w.heap.size, 0, none⟩) 1 1] 45)) := ((Below.refl _ _).alloc (Nat.le_refl _) _).alloc (by simp) _
  have HB0 := Lib.hid hB0
  clear hB0
  go_enter Tryd.func20, Tryd.ntmps20
  go_wp2_with fail
  refine (waysOn_any p mLink [mRu w.heap.size] (some ⟨w.heap.size + 1, 0, none⟩) 1 1 _ _ (HE.out.below HB0.out) HL.out (mirrored_small _) (by decide) rfl mirrored_ways).mono ?_
  rintro e w1 ⟨⟨v, u, rfl, herr, hrow⟩, hb1⟩
  obtain rfl := herr.isNil
  have HB1 := Lib.hid (HB0.out.trans (hb1.mono HB0.out.size))
  obtain ⟨a, ca, rfl, ht, _, _⟩ := texts_of_owns hrow
  have HT : Hid (TextsAt (w1.alloc (.cells #[sv mWay, sv mLink] 9)) a [mWay, mLink]) := ht.below ((Below.refl _ _).alloc (Nat.le_refl _) _)
  clear hb1 herr hrow ht HL HB0
  go_wp2_with fail
  refine (sameTexts_at [mWay, mLink] [mWay, mLink] a (some ⟨w1.heap.size, 0, none⟩) ca 2 _ HT.out (mirrored_texts w1) (by decide) (by decide)).mono ?_
  rintro e w2 ⟨rfl, hb2⟩
  have HB2 := Lib.hid ((HB1.out.alloc HB1.out.size _).trans (hb2.mono (HB1.out.alloc HB1.out.size _).size))
  clear hb2
  rw [show decide ([mWay, mLink] = [mWay, mLink]) = true by decide]
  go_wp2
  go_ret
  exact ⟨rfl, HB2.out⟩
end Go.Proofs.YtmpfjambenkeeaaDoor
