/-
  Own texts of the proof, joined by program: RefCut, RuMem, CameRules.
-/
import Derived.Test.YtmcfkoenpikldaaGreatDoorCutCheckClean
import Derived.OwnWalk
import Derived.Test.YtmcfkoenpikldaaGreatDoorLinkPureMirrorPure
import Derived.Test.YtmcfkoenpikldaaGreatDoorSlotsFaultedErrAt
import Derived.Deep.Onto
import Derived.Lib.Hide
import Derived.Deep.Slices
import Derived.OpenShut
import Derived.Carry
/-
  Cut of the document's answer hands back, at a slash, the pieces of the text in new memory: a contract, over this seat's translation.
-/
namespace Go.Proofs.YtmcfkoenpikldaaGreatDoor
open Go.RowKit Go.Shelf

set_option maxRecDepth 100000 in
set_option maxHeartbeats 2000000 in
theorem refCut_any (l : List UInt8) (w : World) (hl : l.length ≤ 90000) :
    Calls Tryz.prog 100 #[.string ⟨l.toArray⟩, .int .u8 47] w fun e w' => ∃ v, e = .returned v ∧ w'.ownsRow w.heap.size 9 1 v (pieces l).length ((pieces l).map sv) ∧ Below w.heap.size w w' := by
  obtain ⟨i0, hi, hz0, hz1, hz2⟩ := info_parts Tryz.info9
  go_enter Tryz.func100, Tryz.ntmps100
  go_wp2_with fail
  go_loopw [5, 6, 7] (fun out fr i wr => ∃ (ps : List (List UInt8)) (f k : Nat), fr = .int .i64 f ∧ i = .int .i64 k ∧ f ≤ k ∧ k ≤ l.length ∧ ps.length ≤ k ∧ pieces l = ps ++ pieces (l.drop f) ∧ 47 ∉ (l.drop f).take (k - f) ∧ wr.ownsRow w.heap.size 9 1 out ps.length (ps.map sv) ∧ Below w.heap.size w wr)
    (fun _ _ i _ => l.length - (intOf i).toNat)
  case atStart => exact ⟨[], 0, 0, rfl, rfl, Nat.le_refl _, Nat.zero_le _, by simp, by simp, by simp, World.ownsRow_nil _ _ _ _, Below.refl _ _⟩
  case round =>
    obtain ⟨ps, f, k, rfl, rfl, hfk, hk, hps, hpc, hno, hrow, hb⟩ := hrel
    have HPC : Hid (pieces l = ps ++ pieces (l.drop f)) := hpc
    have HNO : Hid (47 ∉ (l.drop f).take (k - f)) := hno
    have HB : Hid (Below w.heap.size w wr) := hb
    have hbs := hb.size
    clear hpc hno hb
    by_cases hlt : k < l.length
    · have hsz : k < ({ data := l.toArray } : ByteArray).size := by simpa [ByteArray.size] using hlt
      by_cases h47 : l[k] = 47
      · have hbyte : ((({ data := l.toArray } : ByteArray)[k]'hsz).toNat : Int) = 47 := by
          show ((l[k]).toNat : Int) = 47
          rw [h47]; rfl
        have HD : Hid (l.drop f = (l.drop f).take (k - f) ++ 47 :: l.drop (k + 1)) := drop_cut hfk hlt h47
        clear h47
        go_wp2_with (at_builtin; refine wpList_append_own _ rfl _ _ 35 rfl w.heap.size 9 i0 (.string ⟨#[]⟩) 1 16 Tryz.underlying35 hi hz0 hz1 hz2 rfl (by decide) _ _ _ rfl (hrow.alloc _) ⟨wr.heap.size, 0, none⟩ 1 1 [.string (({ data := l.toArray } : ByteArray).extract f k)] rfl rfl (cell_one_new _ _ _) (by simp [Value.oneCell']) (by unfold maxLen; omega) (by omega) (by simp; omega) ?_; intro v' w1 hown' hgrow _)
        have HB1 : Below w.heap.size w w1 := (HB.out.alloc hbs _).grown hgrow (by simp; omega) (fun j ej => (hrow.lt j ej).1)
        refine ⟨⟨ps ++ [(l.drop f).take (k - f)], k + 1, k + 1, by go_num, by go_num, Nat.le_refl _, by omega, by simp; omega, ?_, by simp, ?_, HB1⟩, by simp [intOf]; omega⟩
        · rw [HPC.out, pieces_some (l := l.drop f) (a := (l.drop f).take (k - f)) (b := l.drop (k + 1)) (by have := cutL_of (l.drop (k + 1)) HNO.out; rwa [← HD.out] at this)]
          simp
        · rw [extract_list] at hown'
          simpa using hown'
      · have hbyte : (((({ data := l.toArray } : ByteArray)[k]'hsz).toNat : Int) == 47) = false := by
          show (((l[k]).toNat : Int) == 47) = false
          rw [beq_eq_false_iff_ne]
          intro e
          apply h47
          apply UInt8.toNat_inj.1
          have : (47 : UInt8).toNat = 47 := rfl
          omega
        have HN2 : Hid (47 ∉ (l.drop f).take (k + 1 - f)) := by
          show 47 ∉ _
          rw [take_more hfk hlt]
          intro h
          rcases List.mem_append.1 h with h | h
          · exact HNO.out h
          · simp at h; exact h47 h.symm
        clear h47
        go_wp2
        go_roundw
        case rel => exact ⟨ps, f, k + 1, rfl, by go_num, by omega, by omega, by omega, HPC.out, HN2.out, hrow, HB.out⟩
        case measure => simp [intOf]; omega
    · have hkl : k = l.length := by omega
      have HPE : Hid (pieces l = ps ++ [l.drop f]) := by
        show pieces l = _
        rw [HPC.out, pieces_none (cutL_no (a := l.drop f) (by have := HNO.out; rwa [List.take_of_length_le (by rw [List.length_drop]; omega)] at this))]
      have hfl : f ≤ l.length := by omega
      clear hkl
      go_wp2_with (at_builtin; refine wpList_append_own _ rfl _ _ 35 rfl w.heap.size 9 i0 (.string ⟨#[]⟩) 1 16 Tryz.underlying35 hi hz0 hz1 hz2 rfl (by decide) _ _ _ rfl (hrow.alloc _) ⟨wr.heap.size, 0, none⟩ 1 1 [.string (({ data := l.toArray } : ByteArray).extract f l.length)] rfl rfl (cell_one_new _ _ _) (by simp [Value.oneCell']) (by unfold maxLen; omega) (by omega) (by simp; omega) ?_; intro v' w1 hown' hgrow _)
      go_ret
      have HB1 : Below w.heap.size w w1 := (HB.out.alloc hbs _).grown hgrow (by simp; omega) (fun j ej => (hrow.lt j ej).1)
      refine ⟨v', rfl, ?_, HB1⟩
      rw [HPE.out]
      rw [extract_list, List.take_of_length_le (by simp)] at hown'
      simpa using hown'
end Go.Proofs.YtmcfkoenpikldaaGreatDoor
/-
  Texts in memory, a cell each; rules of mirrors in memory, two cells each; a block of two cells: over this seat's translation.
-/
namespace Go.Proofs.YtmcfkoenpikldaaGreatDoor
open Go.RowKit Go.Shelf

/-- Texts that lie in memory from an address on. -/
def TextsAt (w : World) (a : Option Addr) (l : List (List UInt8)) : Prop :=
  l ≠ [] → ∃ b o, a = some ⟨b, o, none⟩ ∧ ∀ k (h : k < l.length), w.cell? ⟨b, o + k, none⟩ = some (sv l[k])
theorem TextsAt.below {w w' : World} {a : Option Addr} {l : List (List UInt8)} (h : TextsAt w a l) (hb : Below w.heap.size w w') : TextsAt w' a l := fun hl => by
  obtain ⟨b, o, e, hc⟩ := h hl
  exact ⟨b, o, e, fun k hk => (hb.cell (p := ⟨b, o + k, none⟩) (block_lt_of_cell (hc k hk))).trans (hc k hk)⟩
theorem TextsAt.at {w : World} {a : Option Addr} {l : List (List UInt8)} (h : TextsAt w a l) {k : Nat} (hk : k < l.length) : ∃ b o, a = some ⟨b, o, none⟩ ∧ w.cell? ⟨b, o + k, none⟩ = some (sv l[k]) := by
  obtain ⟨b, o, e, hc⟩ := h (fun e => by simp [e] at hk)
  exact ⟨b, o, e, hc k hk⟩
theorem TextsAt.take {w : World} {a : Option Addr} {l : List (List UInt8)} (h : TextsAt w a l) (k : Nat) : TextsAt w a (l.take k) := fun hne => by
  have hl : l ≠ [] := fun e => hne (by rw [e]; simp)
  obtain ⟨b, o, e, hc⟩ := h hl
  refine ⟨b, o, e, fun j hj => ?_⟩
  rw [List.getElem_take]
  exact hc j (by rw [List.length_take] at hj; omega)
/-- The cells of texts that lie from an address on. -/
theorem TextsAt.news {w : World} {ad : Addr} {l : List (List UInt8)} (h : TextsAt w (some ad) l) : ∀ j u, (l.map sv)[j]? = some u → w.cell? (ad.add j) = some u := by
  intro j u hj
  have hjl : j < l.length := by
    have := (List.getElem?_eq_some_iff.1 hj).1
    simpa using this
  obtain ⟨b, o, e, hc⟩ := h.at hjl
  cases e
  rw [List.getElem?_map, List.getElem?_eq_getElem hjl] at hj
  rw [Addr.add_lit, hc]
  exact hj
theorem texts_one (l : List (List UInt8)) : ∀ u ∈ l.map sv, u.oneCell' = true := by
  intro u hu
  obtain ⟨x, _, rfl⟩ := List.mem_map.1 hu
  rfl

/-- Texts that a call has gathered itself. -/
theorem texts_of_owns {w : World} {base : Nat} {v : Value} {l : List (List UInt8)} (h : w.ownsRow base 9 1 v l.length (l.map sv)) :
    ∃ a cap, v = .slice a l.length cap ∧ TextsAt w a l ∧ l.length ≤ cap ∧ (a = none → cap = 0 ∧ l = []) := by
  rcases h.2 with ⟨rfl, hn⟩ | ⟨g, cap, cur, rfl, _, hg, hcap, hm, hsz, htk⟩
  · have e : l = [] := List.length_eq_zero_iff.1 hn
    subst e
    exact ⟨none, 0, rfl, fun h => absurd rfl h, Nat.le_refl _, fun _ => ⟨rfl, rfl⟩⟩
  · refine ⟨some ⟨g, 0, none⟩, cap, rfl, fun _ => ⟨g, 0, rfl, fun k hk => ?_⟩, hcap, fun h => by cases h⟩
    rw [Nat.zero_add, h.cellAt k (by omega), List.getElem?_map, List.getElem?_eq_getElem hk]
    rfl

/-- A rule as it lies in memory: where its texts lie, too. -/
structure Ru where
  f : List UInt8
  t : List (List UInt8)
  a : Option Addr
  c : Nat
def Ru.q (r : Ru) : Q := (r.f, r.t)
abbrev rv (r : Ru) : Value := .agg #[sv r.f, .slice r.a r.t.length r.c]
def noRu : Ru := ⟨[], [], none, 0⟩
/-- The texts of a rule lie where it says. -/
structure Ru.Lies (w : World) (r : Ru) : Prop where
  texts : TextsAt w r.a r.t
  cap : r.t.length ≤ r.c
  nil : r.a = none → r.c = 0 ∧ r.t = []
theorem lies_below {w w' : World} {r : Ru} (h : r.Lies w) (hb : Below w.heap.size w w') : r.Lies w' := ⟨h.texts.below hb, h.cap, h.nil⟩
theorem noRu_lies (w : World) : noRu.Lies w := ⟨fun h => absurd rfl h, Nat.le_refl _, fun _ => ⟨rfl, rfl⟩⟩
/-- Rules that lie in memory from an address on. -/
structure RulesAt (w : World) (a : Option Addr) (l : List Ru) : Prop where
  each : ∀ r ∈ l, r.Lies w
  row : l ≠ [] → ∃ b o, a = some ⟨b, o, none⟩ ∧ ∀ k (h : k < l.length), w.cell? ⟨b, o + k * 2, none⟩ = some (sv l[k].f) ∧ w.cell? ⟨b, o + k * 2 + 1, none⟩ = some (.slice l[k].a l[k].t.length l[k].c)
theorem RulesAt.below {w w' : World} {a : Option Addr} {l : List Ru} (h : RulesAt w a l) (hb : Below w.heap.size w w') : RulesAt w' a l := ⟨fun r hr => lies_below (h.each r hr) hb, fun hl => by
  obtain ⟨b, o, e, hc⟩ := h.row hl
  refine ⟨b, o, e, fun k hk => ?_⟩
  obtain ⟨h0, h1⟩ := hc k hk
  exact ⟨(hb.cell (p := ⟨b, o + k * 2, none⟩) (block_lt_of_cell h0)).trans h0, (hb.cell (p := ⟨b, o + k * 2 + 1, none⟩) (block_lt_of_cell h1)).trans h1⟩⟩
theorem RulesAt.at {w : World} {a : Option Addr} {l : List Ru} (h : RulesAt w a l) {k : Nat} (hk : k < l.length) :
    ∃ b o, a = some ⟨b, o, none⟩ ∧ w.cell? ⟨b, o + k * 2, none⟩ = some (sv l[k].f) ∧ w.cell? ⟨b, o + k * 2 + 1, none⟩ = some (.slice l[k].a l[k].t.length l[k].c) := by
  obtain ⟨b, o, e, hc⟩ := h.row (fun e => by simp [e] at hk)
  exact ⟨b, o, e, hc k hk⟩
/-- Rules that are few, and not too long. -/
structure RuSmall (l : List Ru) : Prop where
  few : l.length ≤ 1000
  begin : ∀ r ∈ l, r.f.length ≤ 20000
  many : ∀ r ∈ l, r.t.length ≤ 1000
  texts : ∀ r ∈ l, ∀ t ∈ r.t, t.length ≤ 20000

def rucells (r : Ru) : List Value := [sv r.f, .slice r.a r.t.length r.c]
def rlcells (l : List Ru) : List Value := l.flatMap rucells
theorem rlcells_length (l : List Ru) : (rlcells l).length = l.length * 2 := by
  induction l with
  | nil => rfl
  | cons f l ih => simp only [rlcells, List.flatMap_cons, List.length_append, List.length_cons] at ih ⊢; simp only [rucells, List.length_cons, List.length_nil]; omega
theorem rlcells_app (a b : List Ru) : rlcells (a ++ b) = rlcells a ++ rlcells b := by simp [rlcells]
theorem rlcells_at : ∀ (l : List Ru) (k : Nat) (h : k < l.length) (j : Nat), j < 2 → (rlcells l)[k * 2 + j]? = (rucells l[k])[j]?
  | [], k, h, _, _ => by simp at h
  | f :: l, 0, _, j, hj => by
    show (rucells f ++ rlcells l)[0 * 2 + j]? = (rucells f)[j]?
    rw [Nat.zero_mul, Nat.zero_add, List.getElem?_append_left (by simp [rucells]; omega)]
  | f :: l, k + 1, h, j, hj => by
    have ih := rlcells_at l k (by simpa using h) j hj
    show (rucells f ++ rlcells l)[(k + 1) * 2 + j]? = _
    rw [List.getElem?_append_right (by simp [rucells]; omega)]
    have : (k + 1) * 2 + j - (rucells f).length = k * 2 + j := by simp [rucells]; omega
    rw [this, ih]
    rfl
theorem rlcells_one (l : List Ru) : ∀ u ∈ rlcells l, u.oneCell' = true := by
  intro u hu
  simp only [rlcells, List.mem_flatMap] at hu
  obtain ⟨f, _, hf⟩ := hu
  simp only [rucells, List.mem_cons, List.not_mem_nil, or_false] at hf
  rcases hf with rfl | rfl <;> rfl
/-- The rules of a row of the call's own. -/
theorem rules_of_owns {w : World} {base : Nat} {v : Value} {l : List Ru} (h : w.ownsRow base 126 2 v l.length (rlcells l)) (ht : ∀ r ∈ l, r.Lies w) :
    ∃ a cap, v = .slice a l.length cap ∧ RulesAt w a l ∧ l.length ≤ cap ∧ (a = none → cap = 0 ∧ l = []) := by
  rcases h.2 with ⟨rfl, hn⟩ | ⟨g, cap, cur, rfl, _, hg, hcap, hm, hsz, htk⟩
  · have e : l = [] := List.length_eq_zero_iff.1 hn
    subst e
    exact ⟨none, 0, rfl, ⟨ht, fun h => absurd rfl h⟩, Nat.le_refl _, fun _ => ⟨rfl, rfl⟩⟩
  · refine ⟨some ⟨g, 0, none⟩, cap, rfl, ⟨ht, fun _ => ⟨g, 0, rfl, fun k hk => ?_⟩⟩, hcap, fun h => by cases h⟩
    have hc : ∀ j, j < 2 → w.cell? ⟨g, 0 + k * 2 + j, none⟩ = (rucells l[k])[j]? := fun j hj => by
      rw [← rlcells_at l k hk j hj, ← htk, List.getElem?_take_of_lt (by omega)]
      simp [World.cell?, hg]
    exact ⟨by simpa [rucells] using hc 0 (by omega), by simpa [rucells] using hc 1 (by omega)⟩
/-- The cells of rules that lie from an address on. -/
theorem RulesAt.news {w : World} {ad : Addr} {l : List Ru} (h : RulesAt w (some ad) l) : ∀ j u, (rlcells l)[j]? = some u → w.cell? (ad.add j) = some u := by
  intro j u hj
  have hjl : j < (rlcells l).length := (List.getElem?_eq_some_iff.1 hj).1
  rw [rlcells_length] at hjl
  have hk : j / 2 < l.length := by omega
  obtain ⟨b, o, e, c0, c1⟩ := h.at hk
  cases e
  have ej : j = j / 2 * 2 + j % 2 := by omega
  have hm : j % 2 < 2 := Nat.mod_lt _ (by decide)
  rw [ej, rlcells_at l (j / 2) hk (j % 2) hm] at hj
  rw [Addr.add_lit]
  have hoj : o + j = o + j / 2 * 2 + j % 2 := by omega
  rw [hoj]
  rcases (show j % 2 = 0 ∨ j % 2 = 1 by omega) with hr | hr
  · rw [hr] at hj ⊢; exact c0.trans hj
  · rw [hr] at hj ⊢; exact c1.trans hj

/-- A block of two cells, and no more. -/
def Two (w : World) (b : Nat) (x y : Value) (T : TypeId) : Prop := w.heap[b]? = some (.cells #[x, y] T (0, 0))
theorem Two.cells {w : World} {b : Nat} {x y : Value} {T : TypeId} (h : Two w b x y T) : w.cell? ⟨b, 0, none⟩ = some x ∧ w.cell? ⟨b, 1, none⟩ = some y ∧ w.frozen? ⟨b, 0, none⟩ = false ∧ w.frozen? ⟨b, 1, none⟩ = false := by
  unfold Two at h
  exact ⟨by simp [World.cell?, h], by simp [World.cell?, h], by simp [World.frozen?, h], by simp [World.frozen?, h]⟩
theorem Two.keep {w w' : World} {b : Nat} {x y : Value} {T : TypeId} (h : Two w b x y T) (hb : w'.heap[b]? = w.heap[b]?) : Two w' b x y T := hb.trans h
theorem Two.lt {w : World} {b : Nat} {x y : Value} {T : TypeId} (h : Two w b x y T) : b < w.heap.size := (Array.getElem?_eq_some_iff.1 h).1
theorem Two.below {w w' : World} {b B : Nat} {x y : Value} {T : TypeId} (h : Two w b x y T) (hb : Below B w w') (hB : b < B) : Two w' b x y T := h.keep (hb.block b hB)
theorem Two.store {w : World} {b : Nat} {x y : Value} {T : TypeId} (h : Two w b x y T) (x' y' : Value) : Two ((w.setCell ⟨b, 0, none⟩ x').setCell ⟨b, 1, none⟩ y') b x' y' T := by
  unfold Two at h ⊢
  simp only [World.setCell, Array.getElem?_modify, if_true, h, Option.map_some]
  rfl
theorem Two.new (w : World) (x y : Value) (T : TypeId) : Two (w.alloc (.cells #[x, y] T)) w.heap.size x y T := heap_new w _
theorem below_store {w wr : World} {b B : Nat} (x y : Value) (h : Below B w wr) (hB : B ≤ b) : Below B w ((wr.setCell ⟨b, 0, none⟩ x).setCell ⟨b, 1, none⟩ y) :=
  (h.setCell (p := ⟨b, 0, none⟩) hB _).setCell (p := ⟨b, 1, none⟩) hB _
theorem heap_store {w : World} {b g : Nat} (x y : Value) (h : g ≠ b) : ((w.setCell ⟨b, 0, none⟩ x).setCell ⟨b, 1, none⟩ y).heap[g]? = w.heap[g]? :=
  (Below.heap_setCell _ _ _ _ (by show g ≠ b; exact h)).trans (Below.heap_setCell _ _ _ _ (by show g ≠ b; exact h))
theorem Tryz.infoRule : (Tryz.prog.info? 126).map (fun i => (i.zero, i.size, i.bytes)) = some (some (.agg #[.string ⟨#[]⟩, .slice none 0 0]), 2, 40) := by kernel_rfl
theorem row_keep {w w' : World} {base : Nat} {e : TypeId} {size : Nat} {v : Value} {n : Nat} {xs : List Value} (h : w.ownsRow base e size v n xs) (hk : ∀ g, base ≤ g → g < w.heap.size → w'.heap[g]? = w.heap[g]?) : w'.ownsRow base e size v n xs := by
  refine ⟨h.1, ?_⟩
  rcases h.2 with h0 | ⟨g, cap, cur, hv, hg, hh, h1, h2, h3, h4⟩
  · exact .inl h0
  · exact .inr ⟨g, cap, cur, hv, hg, by rw [hk g hg (Array.getElem?_eq_some_iff.1 hh).1]; exact hh, h1, h2, h3, h4⟩
theorem row_below {w w' : World} {base : Nat} {e : TypeId} {size : Nat} {v : Value} {n : Nat} {xs : List Value} (h : w.ownsRow base e size v n xs) (hb : Below w.heap.size w w') : w'.ownsRow base e size v n xs :=
  row_keep h fun g _ hg => hb.block g hg
end Go.Proofs.YtmcfkoenpikldaaGreatDoor
/-
  Rules that came in, as an argument: what a walk asks of them, and how they are opened: over this seat's translation.
-/
namespace Go.Proofs.YtmcfkoenpikldaaGreatDoor
open Go.RowKit Go.Shelf Go.ChangeShapes Go.WideShapes Go.Deep

/-- What is asked of rules that came in. -/
structure CameR (w : World) (a : Option Addr) (ca : Nat) (l : List Ru) : Prop where
  lies : RulesAt w a l
  cap : l.length ≤ ca
  len : l.length ≤ maxLen
  texts : ∀ r ∈ l, r.f.length ≤ maxLen ∧ r.t.length ≤ maxLen ∧ ∀ t ∈ r.t, t.length ≤ maxLen
  nil : a = none → ca = 0 ∧ l = []

theorem Tryz.cellsRule : Tryz.prog.cellsOf 126 = 2 := by kernel_rfl
theorem Tryz.cellsText : Tryz.prog.cellsOf 9 = 1 := by kernel_rfl
theorem Tryz.cellsTexts : Tryz.prog.cellsOf 35 = 1 := by kernel_rfl
theorem Tryz.laidOutR : laidOutB Tryz.prog = true := by kernel_rfl

set_option maxRecDepth 100000 in
/-- Texts, opened. -/
theorem open_texts {H : Type} {enc : TypeId × Value → H} {W : World} {base : Nat} {sp : Nat → Bool} {held : Bool} {fuel : Nat} {v : Value} {x : DataW H × List MemPlace} (h : DataW.trod enc Tryz.prog W base sp held fuel 35 [v] = some x) :
    ∃ (t : List (List UInt8)) (a : Option Addr) (c : Nat), v = .slice a t.length c ∧ TextsAt W a t ∧ t.length ≤ c ∧ t.length ≤ maxLen ∧ (∀ s ∈ t, s.length ≤ maxLen) ∧ (a = none → c = 0 ∧ t = []) := by
  rcases open_slice Tryz.underlying35 h with ⟨hc, _⟩ | ⟨a, len, cap, m, n, D, Pl, hc, _, hl, hm, hmm, _, hx⟩
  · have hc' : v = .slice none 0 0 := by simpa using hc
    exact ⟨[], none, 0, hc', fun h => absurd rfl h, Nat.le_refl _, Nat.zero_le _, fun f hf => by simp at hf, fun _ => ⟨rfl, rfl⟩⟩
  · have hc' : v = .slice (some a) len cap := by simpa using hc
    have hlm : len ≤ m := by rw [hmm]; split <;> omega
    have each : ∀ i, i < len → ∃ s : List UInt8, W.cell? ((a.add (i * 1)).add 0) = some (sv s) ∧ s.length ≤ maxLen := fun i hi => by
      obtain ⟨cs', h1, h2⟩ := hx i (by omega)
      rw [Tryz.cellsText] at h1
      obtain ⟨_, hlen, hcell⟩ := World.cells?_some h1
      obtain ⟨s, e0, _, hs⟩ := DataW.trod_string Tryz.underlying9 h2
      refine ⟨s.data.toList, ?_, hs⟩
      have h3 := hcell 0 (by decide)
      rw [e0] at h3
      have es : (⟨s.data.toList.toArray⟩ : ByteArray) = s := by cases s; simp
      show W.cell? _ = some (.string ⟨s.data.toList.toArray⟩)
      rw [es]
      exact h3
    obtain ⟨q, hq⟩ := choose_lt each
    refine ⟨(List.range len).map q, some a, cap, by rw [hc']; simp, ?_, by rw [List.length_map, List.length_range]; exact hl, by rw [List.length_map, List.length_range]; omega, fun f hf => ?_, fun h => by cases h⟩
    · intro hne
      have hpos : 0 < len := by
        cases len with
        | zero => exact absurd rfl hne
        | succ k => omega
      obtain ⟨b, o, spot⟩ := a
      have hspot : spot = none := by
        have := World.cell?_spot ((hq 0 hpos).1)
        simpa [Addr.add] using this
      subst hspot
      refine ⟨b, o, rfl, fun k hk => ?_⟩
      have hk' : k < len := by simpa using hk
      have hg : ((List.range len).map q)[k] = q k := by simp
      rw [hg]
      have hcq := (hq k hk').1
      rw [Addr.add_lit, Addr.add_lit, Nat.mul_one, Nat.add_zero] at hcq
      exact hcq
    · obtain ⟨i, hi, rfl⟩ := List.mem_map.1 hf
      exact (hq i (List.mem_range.1 hi)).2

set_option maxRecDepth 100000 in
/-- A rule's cells, opened. -/
theorem open_rule {H : Type} {enc : TypeId × Value → H} {W : World} {base : Nat} {sp : Nat → Bool} {held : Bool} {fuel : Nat} {cs : List Value} {x : DataW H × List MemPlace} (h : DataW.trod enc Tryz.prog W base sp held fuel 126 cs = some x) :
    ∃ r : Ru, cs = rucells r ∧ r.Lies W ∧ r.f.length ≤ maxLen ∧ r.t.length ≤ maxLen ∧ ∀ t ∈ r.t, t.length ≤ maxLen := by
  obtain ⟨xs, n, _, _, hlen, hxl, hf⟩ := DataW.trod_struct Tryz.underlying126 h
  rw [Tryz.cellsRule] at hlen
  match cs, hlen with
  | [v0, v1], _ =>
    have l2 : xs.length = 2 := hxl
    match xs, l2 with
    | [y0, y1], _ =>
      have g0 : DataW.trod enc Tryz.prog W base sp held n 9 (([v0, v1].drop 0).take (Tryz.prog.cellsOf 9)) = some y0 := hf 0 _ rfl
      have g1 : DataW.trod enc Tryz.prog W base sp held n 35 (([v0, v1].drop 1).take (Tryz.prog.cellsOf 35)) = some y1 := hf 1 _ rfl
      rw [Tryz.cellsText] at g0
      rw [Tryz.cellsTexts] at g1
      obtain ⟨s, e0, _, hs⟩ := DataW.trod_string Tryz.underlying9 g0
      have g1' : DataW.trod enc Tryz.prog W base sp held n 35 [v1] = some y1 := g1
      obtain ⟨t, a, c, e1, ht, hc, hm, htt, hn⟩ := open_texts g1'
      refine ⟨⟨s.data.toList, t, a, c⟩, ?_, ⟨ht, hc, hn⟩, hs, hm, htt⟩
      have e0' : [v0] = [.string s] := e0
      cases e0'
      cases e1
      rfl

set_option maxRecDepth 100000 in
/-- Rules among the arguments, opened. -/
theorem open_rules {H : Type} {enc : TypeId × Value → H} {W : World} {base : Nat} {sp : Nat → Bool} {held : Bool} {r : Reach} {b0 : Nat} {v : Value} {d : DataW H} {ps : List MemPlace} (hval : Value.okWide Tryz.prog W r b0 23 v) (hd : DataW.Trod enc Tryz.prog W base sp held 23 v d ps) :
    ∃ l a ca, v = .slice a (List.length l) ca ∧ CameR W a ca l := by
  obtain ⟨a0, len0, cap0, rfl⟩ := okWide_slice Tryz.underlying23 hval
  obtain ⟨fuel, hf⟩ := hd
  rcases open_slice Tryz.underlying23 hf with ⟨hc, _⟩ | ⟨a, len, cap, m, n, D, Pl, hc, _, hl, hm, hmm, _, hx⟩
  · have hc' : Value.slice a0 len0 cap0 = .slice none 0 0 := by simpa [Value.cells] using hc
    cases hc'
    exact ⟨[], none, 0, rfl, ⟨fun r hr => by simp at hr, fun h => absurd rfl h⟩, Nat.le_refl _, Nat.zero_le _, fun f hf => by simp at hf, fun _ => ⟨rfl, rfl⟩⟩
  · have hc' : Value.slice a0 len0 cap0 = .slice (some a) len cap := by simpa [Value.cells] using hc
    cases hc'
    have hlm : len0 ≤ m := by rw [hmm]; split <;> omega
    have each : ∀ i, i < len0 → ∃ r : Ru, (∀ j u, (rucells r)[j]? = some u → W.cell? ((a.add (i * 2)).add j) = some u) ∧ r.Lies W ∧ r.f.length ≤ maxLen ∧ r.t.length ≤ maxLen ∧ ∀ t ∈ r.t, t.length ≤ maxLen := fun i hi => by
      obtain ⟨cs', h1, h2⟩ := hx i (by omega)
      rw [Tryz.cellsRule] at h1
      obtain ⟨_, hlen, hcell⟩ := World.cells?_some h1
      obtain ⟨r, rfl, hp⟩ := open_rule h2
      refine ⟨r, fun j u hj => ?_, hp⟩
      have hj2 : j < 2 := (List.getElem?_eq_some_iff.1 hj).1
      rw [hcell j hj2]
      exact hj
    haveI : Inhabited Ru := ⟨⟨[], [], none, 0⟩⟩
    obtain ⟨q, hq⟩ := choose_lt each
    refine ⟨(List.range len0).map q, some a, cap0, by simp, ⟨fun r hr => ?_, ?_⟩, by rw [List.length_map, List.length_range]; exact hl, by rw [List.length_map, List.length_range]; omega, fun f hf => ?_, fun h => by cases h⟩
    · obtain ⟨i, hi, rfl⟩ := List.mem_map.1 hr
      exact (hq i (List.mem_range.1 hi)).2.1
    · intro hne
      have hpos : 0 < len0 := by
        cases len0 with
        | zero => exact absurd rfl hne
        | succ k => omega
      obtain ⟨b, o, spot⟩ := a
      have hspot : spot = none := by
        have := World.cell?_spot ((hq 0 hpos).1 0 _ rfl)
        simpa [Addr.add] using this
      subst hspot
      refine ⟨b, o, rfl, fun k hk => ?_⟩
      have hk' : k < len0 := by simpa using hk
      have hg : ((List.range len0).map q)[k] = q k := by simp
      rw [hg]
      have hcq := (hq k hk').1
      have hadd : ∀ j, ((⟨b, o, none⟩ : Addr).add (k * 2)).add j = ⟨b, o + k * 2 + j, none⟩ := fun j => by rw [Addr.add_lit, Addr.add_lit]
      exact ⟨by simpa [hadd] using hcq 0 _ rfl, by simpa [hadd] using hcq 1 _ rfl⟩
    · obtain ⟨i, hi, rfl⟩ := List.mem_map.1 hf
      exact (hq i (List.mem_range.1 hi)).2.2
end Go.Proofs.YtmcfkoenpikldaaGreatDoor
