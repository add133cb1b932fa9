/-
  Own texts of the proof, joined by program: RuMem, PkMirror, PkRules, PkWays.
-/
import Derived.Test.YtmcfkoenpikldaaGreatDoorLinkPureNetPureMirrorPure
import Derived.Test.YtmcfkoenpikldaaGreatDoorRefCutPartsRefRefBeginsRefMore
import Derived.Test.YtmcfkoenpikldaaGreatDoorSlotsFaultedErrAt
import Derived.Deep.Onto
import Derived.Lib.Hide
import Derived.Test.YtmcfkoenpikldaaGreatDoorPkLinkPkLinks
import Derived.Test.YtmcfkoenpikldaaGreatDoorRefLinkRefLinks
/-
  Texts in memory, a cell each; rules of mirrors in memory, two cells each; a block of two cells: over this seat's translation.
-/
namespace Go.Proofs.YtmcfkoenpikldaaGreatDoor
open Go.RowKit Go.Shelf

/-- Texts that lie in memory from an address on. -/
def TextsAt (w : World) (a : Option Addr) (l : List (List UInt8)) : Prop :=
  l ≠ [] → ∃ b o, a = some ⟨b, o, none⟩ ∧ ∀ k (h : k < l.length), w.cell? ⟨b, o + k, none⟩ = some (sv l[k])
theorem TextsAt.below {w w' : World} {a : Option Addr} {l : List (List UInt8)} (h : TextsAt w a l) (hb : Below w.heap.size w w') : TextsAt w' a l := fun hl => by
  obtain ⟨b, o, e, hc⟩ := h hl
  exact ⟨b, o, e, fun k hk => (hb.cell (p := ⟨b, o + k, none⟩) (block_lt_of_cell (hc k hk))).trans (hc k hk)⟩
theorem TextsAt.at {w : World} {a : Option Addr} {l : List (List UInt8)} (h : TextsAt w a l) {k : Nat} (hk : k < l.length) : ∃ b o, a = some ⟨b, o, none⟩ ∧ w.cell? ⟨b, o + k, none⟩ = some (sv l[k]) := by
  obtain ⟨b, o, e, hc⟩ := h (fun e => by simp [e] at hk)
  exact ⟨b, o, e, hc k hk⟩
theorem TextsAt.take {w : World} {a : Option Addr} {l : List (List UInt8)} (h : TextsAt w a l) (k : Nat) : TextsAt w a (l.take k) := fun hne => by
  have hl : l ≠ [] := fun e => hne (by rw [e]; simp)
  obtain ⟨b, o, e, hc⟩ := h hl
  refine ⟨b, o, e, fun j hj => ?_⟩
  rw [List.getElem_take]
  exact hc j (by rw [List.length_take] at hj; omega)
/-- The cells of texts that lie from an address on. -/
theorem TextsAt.news {w : World} {ad : Addr} {l : List (List UInt8)} (h : TextsAt w (some ad) l) : ∀ j u, (l.map sv)[j]? = some u → w.cell? (ad.add j) = some u := by
  intro j u hj
  have hjl : j < l.length := by
    have := (List.getElem?_eq_some_iff.1 hj).1
    simpa using this
  obtain ⟨b, o, e, hc⟩ := h.at hjl
  cases e
  rw [List.getElem?_map, List.getElem?_eq_getElem hjl] at hj
  rw [Addr.add_lit, hc]
  exact hj
theorem texts_one (l : List (List UInt8)) : ∀ u ∈ l.map sv, u.oneCell' = true := by
  intro u hu
  obtain ⟨x, _, rfl⟩ := List.mem_map.1 hu
  rfl

/-- Texts that a call has gathered itself. -/
theorem texts_of_owns {w : World} {base : Nat} {v : Value} {l : List (List UInt8)} (h : w.ownsRow base 9 1 v l.length (l.map sv)) :
    ∃ a cap, v = .slice a l.length cap ∧ TextsAt w a l ∧ l.length ≤ cap ∧ (a = none → cap = 0 ∧ l = []) := by
  rcases h.2 with ⟨rfl, hn⟩ | ⟨g, cap, cur, rfl, _, hg, hcap, hm, hsz, htk⟩
  · have e : l = [] := List.length_eq_zero_iff.1 hn
    subst e
    exact ⟨none, 0, rfl, fun h => absurd rfl h, Nat.le_refl _, fun _ => ⟨rfl, rfl⟩⟩
  · refine ⟨some ⟨g, 0, none⟩, cap, rfl, fun _ => ⟨g, 0, rfl, fun k hk => ?_⟩, hcap, fun h => by cases h⟩
    rw [Nat.zero_add, h.cellAt k (by omega), List.getElem?_map, List.getElem?_eq_getElem hk]
    rfl

/-- A rule as it lies in memory: where its texts lie, too. -/
structure Ru where
  f : List UInt8
  t : List (List UInt8)
  a : Option Addr
  c : Nat
def Ru.q (r : Ru) : Q := (r.f, r.t)
abbrev rv (r : Ru) : Value := .agg #[sv r.f, .slice r.a r.t.length r.c]
def noRu : Ru := ⟨[], [], none, 0⟩
/-- The texts of a rule lie where it says. -/
structure Ru.Lies (w : World) (r : Ru) : Prop where
  texts : TextsAt w r.a r.t
  cap : r.t.length ≤ r.c
  nil : r.a = none → r.c = 0 ∧ r.t = []
theorem lies_below {w w' : World} {r : Ru} (h : r.Lies w) (hb : Below w.heap.size w w') : r.Lies w' := ⟨h.texts.below hb, h.cap, h.nil⟩
theorem noRu_lies (w : World) : noRu.Lies w := ⟨fun h => absurd rfl h, Nat.le_refl _, fun _ => ⟨rfl, rfl⟩⟩
/-- Rules that lie in memory from an address on. -/
structure RulesAt (w : World) (a : Option Addr) (l : List Ru) : Prop where
  each : ∀ r ∈ l, r.Lies w
  row : l ≠ [] → ∃ b o, a = some ⟨b, o, none⟩ ∧ ∀ k (h : k < l.length), w.cell? ⟨b, o + k * 2, none⟩ = some (sv l[k].f) ∧ w.cell? ⟨b, o + k * 2 + 1, none⟩ = some (.slice l[k].a l[k].t.length l[k].c)
theorem RulesAt.below {w w' : World} {a : Option Addr} {l : List Ru} (h : RulesAt w a l) (hb : Below w.heap.size w w') : RulesAt w' a l := ⟨fun r hr => lies_below (h.each r hr) hb, fun hl => by
  obtain ⟨b, o, e, hc⟩ := h.row hl
  refine ⟨b, o, e, fun k hk => ?_⟩
  obtain ⟨h0, h1⟩ := hc k hk
  exact ⟨(hb.cell (p := ⟨b, o + k * 2, none⟩) (block_lt_of_cell h0)).trans h0, (hb.cell (p := ⟨b, o + k * 2 + 1, none⟩) (block_lt_of_cell h1)).trans h1⟩⟩
theorem RulesAt.at {w : World} {a : Option Addr} {l : List Ru} (h : RulesAt w a l) {k : Nat} (hk : k < l.length) :
    ∃ b o, a = some ⟨b, o, none⟩ ∧ w.cell? ⟨b, o + k * 2, none⟩ = some (sv l[k].f) ∧ w.cell? ⟨b, o + k * 2 + 1, none⟩ = some (.slice l[k].a l[k].t.length l[k].c) := by
  obtain ⟨b, o, e, hc⟩ := h.row (fun e => by simp [e] at hk)
  exact ⟨b, o, e, hc k hk⟩
/-- Rules that are few, and not too long. -/
structure RuSmall (l : List Ru) : Prop where
  few : l.length ≤ 1000
  begin : ∀ r ∈ l, r.f.length ≤ 20000
  many : ∀ r ∈ l, r.t.length ≤ 1000
  texts : ∀ r ∈ l, ∀ t ∈ r.t, t.length ≤ 20000

def rucells (r : Ru) : List Value := [sv r.f, .slice r.a r.t.length r.c]
def rlcells (l : List Ru) : List Value := l.flatMap rucells
theorem rlcells_length (l : List Ru) : (rlcells l).length = l.length * 2 := by
  induction l with
  | nil => rfl
  | cons f l ih => simp only [rlcells, List.flatMap_cons, List.length_append, List.length_cons] at ih ⊢; simp only [rucells, List.length_cons, List.length_nil]; omega
theorem rlcells_app (a b : List Ru) : rlcells (a ++ b) = rlcells a ++ rlcells b := by simp [rlcells]
theorem rlcells_at : ∀ (l : List Ru) (k : Nat) (h : k < l.length) (j : Nat), j < 2 → (rlcells l)[k * 2 + j]? = (rucells l[k])[j]?
  | [], k, h, _, _ => by simp at h
  | f :: l, 0, _, j, hj => by
    show (rucells f ++ rlcells l)[0 * 2 + j]? = (rucells f)[j]?
    rw [Nat.zero_mul, Nat.zero_add, List.getElem?_append_left (by simp [rucells]; omega)]
  | f :: l, k + 1, h, j, hj => by
    have ih := rlcells_at l k (by simpa using h) j hj
    show (rucells f ++ rlcells l)[(k + 1) * 2 + j]? = _
    rw [List.getElem?_append_right (by simp [rucells]; omega)]
    have : (k + 1) * 2 + j - (rucells f).length = k * 2 + j := by simp [rucells]; omega
    rw [this, ih]
    rfl
theorem rlcells_one (l : List Ru) : ∀ u ∈ rlcells l, u.oneCell' = true := by
  intro u hu
  simp only [rlcells, List.mem_flatMap] at hu
  obtain ⟨f, _, hf⟩ := hu
  simp only [rucells, List.mem_cons, List.not_mem_nil, or_false] at hf
  rcases hf with rfl | rfl <;> rfl
/-- The rules of a row of the call's own. -/
theorem rules_of_owns {w : World} {base : Nat} {v : Value} {l : List Ru} (h : w.ownsRow base 126 2 v l.length (rlcells l)) (ht : ∀ r ∈ l, r.Lies w) :
    ∃ a cap, v = .slice a l.length cap ∧ RulesAt w a l ∧ l.length ≤ cap ∧ (a = none → cap = 0 ∧ l = []) := by
  rcases h.2 with ⟨rfl, hn⟩ | ⟨g, cap, cur, rfl, _, hg, hcap, hm, hsz, htk⟩
  · have e : l = [] := List.length_eq_zero_iff.1 hn
    subst e
    exact ⟨none, 0, rfl, ⟨ht, fun h => absurd rfl h⟩, Nat.le_refl _, fun _ => ⟨rfl, rfl⟩⟩
  · refine ⟨some ⟨g, 0, none⟩, cap, rfl, ⟨ht, fun _ => ⟨g, 0, rfl, fun k hk => ?_⟩⟩, hcap, fun h => by cases h⟩
    have hc : ∀ j, j < 2 → w.cell? ⟨g, 0 + k * 2 + j, none⟩ = (rucells l[k])[j]? := fun j hj => by
      rw [← rlcells_at l k hk j hj, ← htk, List.getElem?_take_of_lt (by omega)]
      simp [World.cell?, hg]
    exact ⟨by simpa [rucells] using hc 0 (by omega), by simpa [rucells] using hc 1 (by omega)⟩
/-- The cells of rules that lie from an address on. -/
theorem RulesAt.news {w : World} {ad : Addr} {l : List Ru} (h : RulesAt w (some ad) l) : ∀ j u, (rlcells l)[j]? = some u → w.cell? (ad.add j) = some u := by
  intro j u hj
  have hjl : j < (rlcells l).length := (List.getElem?_eq_some_iff.1 hj).1
  rw [rlcells_length] at hjl
  have hk : j / 2 < l.length := by omega
  obtain ⟨b, o, e, c0, c1⟩ := h.at hk
  cases e
  have ej : j = j / 2 * 2 + j % 2 := by omega
  have hm : j % 2 < 2 := Nat.mod_lt _ (by decide)
  rw [ej, rlcells_at l (j / 2) hk (j % 2) hm] at hj
  rw [Addr.add_lit]
  have hoj : o + j = o + j / 2 * 2 + j % 2 := by omega
  rw [hoj]
  rcases (show j % 2 = 0 ∨ j % 2 = 1 by omega) with hr | hr
  · rw [hr] at hj ⊢; exact c0.trans hj
  · rw [hr] at hj ⊢; exact c1.trans hj

/-- A block of two cells, and no more. -/
def Two (w : World) (b : Nat) (x y : Value) (T : TypeId) : Prop := w.heap[b]? = some (.cells #[x, y] T (0, 0))
theorem Two.cells {w : World} {b : Nat} {x y : Value} {T : TypeId} (h : Two w b x y T) : w.cell? ⟨b, 0, none⟩ = some x ∧ w.cell? ⟨b, 1, none⟩ = some y ∧ w.frozen? ⟨b, 0, none⟩ = false ∧ w.frozen? ⟨b, 1, none⟩ = false := by
  unfold Two at h
  exact ⟨by simp [World.cell?, h], by simp [World.cell?, h], by simp [World.frozen?, h], by simp [World.frozen?, h]⟩
theorem Two.keep {w w' : World} {b : Nat} {x y : Value} {T : TypeId} (h : Two w b x y T) (hb : w'.heap[b]? = w.heap[b]?) : Two w' b x y T := hb.trans h
theorem Two.lt {w : World} {b : Nat} {x y : Value} {T : TypeId} (h : Two w b x y T) : b < w.heap.size := (Array.getElem?_eq_some_iff.1 h).1
theorem Two.below {w w' : World} {b B : Nat} {x y : Value} {T : TypeId} (h : Two w b x y T) (hb : Below B w w') (hB : b < B) : Two w' b x y T := h.keep (hb.block b hB)
theorem Two.store {w : World} {b : Nat} {x y : Value} {T : TypeId} (h : Two w b x y T) (x' y' : Value) : Two ((w.setCell ⟨b, 0, none⟩ x').setCell ⟨b, 1, none⟩ y') b x' y' T := by
  unfold Two at h ⊢
  simp only [World.setCell, Array.getElem?_modify, if_true, h, Option.map_some]
  rfl
theorem Two.new (w : World) (x y : Value) (T : TypeId) : Two (w.alloc (.cells #[x, y] T)) w.heap.size x y T := heap_new w _
theorem below_store {w wr : World} {b B : Nat} (x y : Value) (h : Below B w wr) (hB : B ≤ b) : Below B w ((wr.setCell ⟨b, 0, none⟩ x).setCell ⟨b, 1, none⟩ y) :=
  (h.setCell (p := ⟨b, 0, none⟩) hB _).setCell (p := ⟨b, 1, none⟩) hB _
theorem heap_store {w : World} {b g : Nat} (x y : Value) (h : g ≠ b) : ((w.setCell ⟨b, 0, none⟩ x).setCell ⟨b, 1, none⟩ y).heap[g]? = w.heap[g]? :=
  (Below.heap_setCell _ _ _ _ (by show g ≠ b; exact h)).trans (Below.heap_setCell _ _ _ _ (by show g ≠ b; exact h))
theorem Tryz.infoRule : (Tryz.prog.info? 126).map (fun i => (i.zero, i.size, i.bytes)) = some (some (.agg #[.string ⟨#[]⟩, .slice none 0 0]), 2, 40) := by kernel_rfl
theorem row_keep {w w' : World} {base : Nat} {e : TypeId} {size : Nat} {v : Value} {n : Nat} {xs : List Value} (h : w.ownsRow base e size v n xs) (hk : ∀ g, base ≤ g → g < w.heap.size → w'.heap[g]? = w.heap[g]?) : w'.ownsRow base e size v n xs := by
  refine ⟨h.1, ?_⟩
  rcases h.2 with h0 | ⟨g, cap, cur, hv, hg, hh, h1, h2, h3, h4⟩
  · exact .inl h0
  · exact .inr ⟨g, cap, cur, hv, hg, by rw [hk g hg (Array.getElem?_eq_some_iff.1 hh).1]; exact hh, h1, h2, h3, h4⟩
theorem row_below {w w' : World} {base : Nat} {e : TypeId} {size : Nat} {v : Value} {n : Nat} {xs : List Value} (h : w.ownsRow base e size v n xs) (hb : Below w.heap.size w w') : w'.ownsRow base e size v n xs :=
  row_keep h fun g _ hg => hb.block g hg
end Go.Proofs.YtmcfkoenpikldaaGreatDoor
/-
  Package mirror: addOnce, checkRule, Check, and slices.Contains of texts: contracts, over this seat's translation.
-/
namespace Go.Proofs.YtmcfkoenpikldaaGreatDoor
open Go.RowKit Go.Shelf

set_option maxHeartbeats 1000000 in
theorem sliceIndex_any (s : List UInt8) (a : Option Addr) (cap : Nat) (k : List (List UInt8)) (w : World) (hk : k.length ≤ 100000) (h : TextsAt w a k) :
    Calls Tryz.prog 239 #[.slice a k.length cap, .string ⟨s.toArray⟩] w fun e w' => (∃ z : Int, e = .returned (.int .i64 z) ∧ (0 ≤ z ↔ s ∈ k)) ∧ w' = w := by
  have H := Lib.hid h
  clear h
  go_enter Tryz.func239, Tryz.ntmps239
  go_wp2_with fail
  go_loop [8] (fun i => ∃ q : Nat, q ≤ k.length ∧ i = .int .i64 q ∧ (k.take q).contains s = false) (fun i => k.length - (intOf i).toNat)
  case atStart => exact ⟨0, by omega, rfl, by simp⟩
  case round =>
    obtain ⟨q, hq, rfl, hn⟩ := hrel
    have HN := Lib.hid hn
    clear hn
    by_cases hlt : q < k.length
    · obtain ⟨b, o, rfl, hc⟩ := H.out.at hlt
      have hlt' : (q : Int) < (k.length : Int) := by omega
      by_cases hx : k[q] = s
      · have HF : Hid (decide (s ∈ k) = true) := by
          show decide (s ∈ k) = true
          rw [decide_eq_true_eq, ← hx]
          exact List.getElem_mem hlt
        rw [hx] at hc
        clear hx
        go_wp2
        go_ret
        exact ⟨⟨_, rfl, ⟨fun _ => of_decide_eq_true HF.out, fun _ => by omega⟩⟩, rfl⟩
      · have HF := Lib.hid (contains_take hlt HN.out hx)
        have hx' : (s == k[q]) = false := by simpa using fun e => hx e.symm
        clear hx
        generalize k[q] = x at hc hx'
        go_wp2
        go_round
        case rel => exact ⟨q + 1, by omega, by go_num, HF.out⟩
        case measure => simp [intOf]; omega
    · have hql : q = k.length := by omega
      have HF : Hid (decide (s ∈ k) = false) := by
        have := HN.out
        rw [hql, List.take_length, List.contains_eq_mem] at this
        exact this
      clear hql
      go_wp2
      go_ret
      exact ⟨⟨_, rfl, ⟨fun h => absurd h (by decide), fun h => absurd h (of_decide_eq_false HF.out)⟩⟩, rfl⟩

theorem sliceContains_any (s : List UInt8) (a : Option Addr) (cap : Nat) (k : List (List UInt8)) (w : World) (hk : k.length ≤ 100000) (h : TextsAt w a k) :
    Calls Tryz.prog 196 #[.slice a k.length cap, .string ⟨s.toArray⟩] w fun e w' => e = .returned (.bool (decide (s ∈ k))) ∧ w' = w := by
  have H := Lib.hid h
  clear h
  go_enter Tryz.func196, Tryz.ntmps196
  go_wp2_with fail
  refine (sliceIndex_any s a cap k _ hk H.out).mono ?_
  rintro e w' ⟨⟨z, rfl, hz⟩, rfl⟩
  have HZ := Lib.hid hz
  clear hz
  go_wp2
  go_ret
  exact ⟨ret_bool (by rw [decide_eq_decide]; exact HZ.out), rfl⟩
theorem sliceContains_is (s : List UInt8) (a : Option Addr) (cap : Nat) (k : List (List UInt8)) (r : Bool) (w : World) (hk : k.length ≤ 100000) (h : TextsAt w a k) (hr : decide (s ∈ k) = r) :
    Calls Tryz.prog 196 #[.slice a k.length cap, .string ⟨s.toArray⟩] w fun e w' => e = .returned (.bool r) ∧ w' = w := by
  have := sliceContains_any s a cap k w hk h
  rwa [hr] at this

theorem text_new (w : World) (s : List UInt8) (T : TypeId) : ∀ j u, [sv s][j]? = some u → (w.alloc (.cells #[sv s] T)).cell? ((⟨w.heap.size, 0, none⟩ : Addr).add j) = some u := by
  intro j u h
  have hn := heap_new w (.cells #[sv s] T)
  rcases j with _ | j
  · rw [Addr.add_lit]
    simp only [World.cell?, hn]
    exact h
  · simp at h

set_option maxRecDepth 100000 in
theorem addOnce_any (base : Nat) (s : List UInt8) (l : List (List UInt8)) (v : Value) (w : World) (hl : l.length ≤ 90000) (hrow : w.ownsRow base 9 1 v l.length (l.map sv)) (hbase : base ≤ w.heap.size) :
    Calls Tryz.prog 177 #[v, .string ⟨s.toArray⟩] w fun e w' => (∃ v', e = .returned v' ∧ w'.ownsRow base 9 1 v' (addL l s).length ((addL l s).map sv)) ∧ Below base w w' := by
  obtain ⟨i0, hi, hz0, hz1, hz2⟩ := info_parts Tryz.info9
  have HR := Lib.hid hrow
  obtain ⟨a, cap, rfl, ht, hcap, hnil⟩ := texts_of_owns hrow
  have HT := Lib.hid ht
  clear ht hnil
  by_cases hm : s ∈ l
  · have HA := Lib.hid (addL_in hm)
    have HM : Hid (decide (s ∈ l) = true) := by show decide (s ∈ l) = true; simpa using hm
    clear hm hrow
    go_enter Tryz.func177, Tryz.ntmps177
    go_wp2_with fail
    refine (sliceContains_is s a cap l true _ (by omega) HT.out HM.out).mono ?_
    rintro e w' ⟨rfl, rfl⟩
    go_wp2
    go_ret
    exact ⟨⟨_, rfl, by rw [HA.out]; exact HR.out⟩, Below.refl _ _⟩
  · have HA := Lib.hid (addL_out hm)
    have HM : Hid (decide (s ∈ l) = false) := by show decide (s ∈ l) = false; simpa using hm
    clear hm
    have hlt := hrow.lt
    go_enter Tryz.func177, Tryz.ntmps177
    go_wp2_with fail
    refine (sliceContains_is s a cap l false _ (by omega) HT.out HM.out).mono ?_
    rintro e w' ⟨rfl, rfl⟩
    go_wp2_with (at_builtin; refine wpList_append_own _ rfl _ _ 35 rfl base 9 i0 (.string ⟨#[]⟩) 1 16 Tryz.underlying35 hi hz0 hz1 hz2 rfl (by decide) _ _ _ rfl (hrow.alloc _) ⟨w'.heap.size, 0, none⟩ 1 1 [sv s] rfl rfl (text_new _ _ _) (by simp [Value.oneCell']) (by unfold maxLen; omega) (by omega) (by simp; omega) ?_; intro v' w1 hown' hgrow _)
    go_ret
    refine ⟨⟨_, rfl, by rw [HA.out, List.length_append, List.map_append]; exact hown'⟩, ?_⟩
    exact ((Below.refl _ _).alloc hbase _).grown hgrow (by simp; omega) (fun k e => (hlt k e).1)
end Go.Proofs.YtmcfkoenpikldaaGreatDoor
/-
  Package mirror: checkRule, Check, closest: contracts, over this seat's translation.
-/
namespace Go.Proofs.YtmcfkoenpikldaaGreatDoor
open Go.RowKit Go.Shelf

set_option maxRecDepth 100000 in
set_option maxHeartbeats 2000000 in
theorem checkRule_any (p : Nat → Addr) (r : Ru) (w : World) (hE : LEnv p w) (hr : r.Lies w) (hf : r.f.length ≤ 20000) (hn : r.t.length ≤ 1000) (ht : ∀ t ∈ r.t, t.length ≤ 20000) :
    Calls Tryz.prog 174 #[rv r] w fun e w' => e = .returned (errV p (ruleK r.q)) ∧ Below w.heap.size w w' := by
  obtain ⟨f, t, a, c⟩ := r
  have HT := Lib.hid hr.texts
  have HE := Lib.hid hE
  have HTL := Lib.hid ht
  simp only at hf hn HT HTL ⊢
  clear hE hr ht
  obtain ⟨W, hW⟩ : ∃ W, W = w.alloc (.cells #[.string ⟨f.toArray⟩, .slice a t.length c] 126) := ⟨_, rfl⟩
  have hBW : Below w.heap.size w W := by rw [hW]; exact (Below.refl _ _).alloc (Nat.le_refl _) _
  have hTwo : Two W w.heap.size (.string ⟨f.toArray⟩) (.slice a t.length c) 126 := by rw [hW]; exact Two.new _ _ _ _
  have HBW := Lib.hid hBW
  have HTwo := Lib.hid hTwo
  obtain ⟨x0, x1, _, _⟩ := hTwo.cells
  clear hBW hTwo
  cases h1 : beginK f with
  | succ k =>
    have HR : Hid (ruleK (f, t) = k + 1) := by show ruleK (f, t) = k + 1; rw [ruleK_from (by rw [h1]; simp)]; exact h1
    have H1 := Lib.hid h1
    clear h1
    go_enter Tryz.func174, Tryz.ntmps174
    go_wp2_with fail
    rw [← hW]
    refine (linkBegins_is p f _ _ (HE.out.below HBW.out) (by omega) H1.out).mono ?_
    rintro e w1 ⟨rfl, hb1⟩
    have HB1 := Lib.hid (HBW.out.trans (hb1.mono HBW.out.size))
    clear hb1
    rw [errV_some p (Nat.succ_ne_zero k)]
    go_wp2
    go_ret
    exact ⟨by show _ = Ending.returned (errV p (ruleK (f, t))); rw [HR.out]; rfl, HB1.out⟩
  | zero =>
    have H1 := Lib.hid h1
    by_cases h8 : 8 < t.length
    · have HR : Hid (ruleK (f, t) = 8) := ruleK_full h1 h8
      have h8' : (8 : Int) < (t.length : Int) := by omega
      clear h1 h8
      go_enter Tryz.func174, Tryz.ntmps174
      go_wp2_with fail
      rw [← hW]
      refine (linkBegins_is p f _ _ (HE.out.below HBW.out) (by omega) H1.out).mono ?_
      rintro e w1 ⟨rfl, hb1⟩
      have HB1 := Lib.hid (HBW.out.trans (hb1.mono HBW.out.size))
      obtain ⟨y0, y1, _, _⟩ := (HTwo.out.below hb1 HTwo.out.lt).cells
      have hg := (HE.out.below HB1.out).s7
      clear hb1
      rw [errV_zero]
      go_wp2
      go_ret
      exact ⟨by show _ = Ending.returned (errV p (ruleK (f, t))); rw [HR.out]; rfl, HB1.out⟩
    · have HR : Hid (ruleK (f, t) = firstK t) := ruleK_to h1 h8
      have h8' : ¬ (8 : Int) < (t.length : Int) := by omega
      clear h1
      go_enter Tryz.func174, Tryz.ntmps174
      go_wp2_with fail
      rw [← hW]
      refine (linkBegins_is p f _ _ (HE.out.below HBW.out) (by omega) H1.out).mono ?_
      rintro e w1 ⟨rfl, hb1⟩
      have HB1 := Lib.hid (HBW.out.trans (hb1.mono HBW.out.size))
      obtain ⟨y0, y1, _, _⟩ := (HTwo.out.below hb1 HTwo.out.lt).cells
      clear hb1
      rw [errV_zero]
      go_wp2_with fail
      go_loopw [21] (fun i wr => ∃ q : Nat, q ≤ t.length ∧ i = .int .i64 q ∧ (∀ j (h : j < t.length), j < q → beginK t[j] = 0) ∧ Below w.heap.size w wr) (fun i _ => t.length - (intOf i).toNat)
      case atStart => exact ⟨0, by omega, rfl, fun _ _ h => by omega, HB1.out⟩
      case round =>
        obtain ⟨q, hq, rfl, hz, hb⟩ := hrel
        have HB := Lib.hid hb
        have HZ := Lib.hid hz
        clear hb hz
        by_cases hlt : q < t.length
        · have hlt' : (q : Int) < (t.length : Int) := by omega
          obtain ⟨b, o, rfl, c0⟩ := (HT.out.below HB.out).at hlt
          have hxl := HTL.out _ (List.getElem_mem hlt)
          cases h2 : beginK t[q] with
          | succ k =>
            have HF : Hid (firstK t = k + 1) := by show firstK t = _; rw [firstK_at hlt HZ.out (by rw [h2]; simp)]; exact h2
            have H2 := Lib.hid h2
            clear h2
            generalize t[q] = x at c0 hxl H2
            go_wp2_with fail
            refine (linkBegins_is p x _ _ (HE.out.below HB.out) (by omega) H2.out).mono ?_
            rintro e w2 ⟨rfl, hb2⟩
            have HB2 := Lib.hid (HB.out.trans (hb2.mono HB.out.size))
            clear hb2
            rw [errV_some p (Nat.succ_ne_zero k)]
            go_wp2
            go_ret
            exact ⟨by show _ = Ending.returned (errV p (ruleK (f, t))); rw [HR.out, HF.out]; rfl, HB2.out⟩
          | zero =>
            have HN : Hid (∀ j (h : j < t.length), j < q + 1 → beginK t[j] = 0) := by
              intro j hj hjq
              by_cases e : j = q
              · subst e; exact h2
              · exact HZ.out j hj (by omega)
            have H2 := Lib.hid h2
            clear h2
            generalize t[q] = x at c0 hxl H2
            go_wp2_with fail
            refine (linkBegins_is p x _ _ (HE.out.below HB.out) (by omega) H2.out).mono ?_
            rintro e w2 ⟨rfl, hb2⟩
            have HB2 := Lib.hid (HB.out.trans (hb2.mono HB.out.size))
            clear hb2
            rw [errV_zero]
            go_wp2
            go_roundw
            case rel => exact ⟨q + 1, by omega, by go_num, HN.out, HB2.out⟩
            case measure => simp [intOf]; omega
        · obtain rfl : q = t.length := by omega
          have HF : Hid (firstK t = 0) := firstK_end fun j hj => HZ.out j hj hj
          go_wp2
          go_ret
          exact ⟨by show _ = Ending.returned (errV p (ruleK (f, t))); rw [HR.out, HF.out]; rfl, HB.out⟩
theorem checkRule_is (p : Nat → Addr) (r : Ru) (k : Nat) (w : World) (hE : LEnv p w) (hr : r.Lies w) (hf : r.f.length ≤ 20000) (hn : r.t.length ≤ 1000) (ht : ∀ t ∈ r.t, t.length ≤ 20000) (h : ruleK r.q = k) :
    Calls Tryz.prog 174 #[rv r] w fun e w' => e = .returned (errV p k) ∧ Below w.heap.size w w' := by
  have := checkRule_any p r w hE hr hf hn ht
  rwa [h] at this

theorem map_q_at {l : List Ru} {k : Nat} (hk : k < l.length) : (l.map Ru.q)[k]'(by simpa using hk) = l[k].q := by simp
theorem rulesF_ru_at {l : List Ru} {k : Nat} (hn : ¬ 10 < l.length) (hk : k < l.length) (hz : ∀ j (h : j < l.length), j < k → ruleK l[j].q = 0) (h : ruleK l[k].q ≠ 0) : rulesF (l.map Ru.q) = (ruleK l[k].q, (k : Int)) := by
  have := rulesF_at (l := l.map Ru.q) (k := k) (by simpa using hn) (by simpa using hk) (fun j hj hjk => by rw [map_q_at (by simpa using hj)]; exact hz j _ hjk) (by rw [map_q_at hk]; exact h)
  rwa [map_q_at hk] at this
theorem rulesF_ru_end {l : List Ru} (hn : ¬ 10 < l.length) (hz : ∀ j (h : j < l.length), ruleK l[j].q = 0) : rulesF (l.map Ru.q) = (0, -1) :=
  rulesF_end (by simpa using hn) fun j hj => by rw [map_q_at (by simpa using hj)]; exact hz j _

set_option maxRecDepth 100000 in
set_option maxHeartbeats 4000000 in
theorem mirrorCheck_any (p : Nat → Addr) (l : List Ru) (a : Option Addr) (ca : Nat) (w : World) (hE : LEnv p w) (hl : RulesAt w a l) (hs : RuSmall l) :
    Calls Tryz.prog 127 #[.slice a l.length ca] w fun e w' => (∃ v, e = .returned v ∧ ErrAt p w' v (rulesF (l.map Ru.q)).1 (rulesF (l.map Ru.q)).2) ∧ Below w.heap.size w w' := by
  have hfew := hs.few
  have HE := Lib.hid hE
  by_cases hlong : 10 < l.length
  · have HT : Hid (rulesF (l.map Ru.q) = (8, -1)) := rulesF_long (by simpa using hlong)
    have h10 : (10 : Int) < (l.length : Int) := by omega
    have s7 := hE.s7
    clear hl hE
    go_enter Tryz.func127, Tryz.ntmps127
    go_wp2
    go_ret
    exact ⟨⟨_, rfl, by rw [HT.out]; exact .inr (.inl ⟨7, rfl, by omega, rfl, rfl⟩)⟩, Below.refl _ _⟩
  · have h10 : ¬ (10 : Int) < (l.length : Int) := by omega
    have HL := Lib.hid hl
    have HS := Lib.hid hs
    clear hl hs hE
    go_enter Tryz.func127, Tryz.ntmps127
    go_wp2_with fail
    go_loopw [12] (fun i wr => ∃ q : Nat, q ≤ l.length ∧ i = .int .i64 q ∧ (∀ j (h : j < l.length), j < q → ruleK l[j].q = 0) ∧ Below w.heap.size w wr) (fun i _ => l.length - (intOf i).toNat)
    case atStart => exact ⟨0, by omega, rfl, fun _ _ h => by omega, Below.refl _ _⟩
    case round =>
      obtain ⟨q, hq, rfl, hz, hb⟩ := hrel
      have HB := Lib.hid hb
      have HZ := Lib.hid hz
      clear hb hz
      by_cases hlt : q < l.length
      · have hlt' : (q : Int) < (l.length : Int) := by omega
        have hlw := HL.out.below HB.out
        have HRL := Lib.hid (hlw.each _ (List.getElem_mem hlt))
        obtain ⟨b, o, rfl, c0, c1⟩ := hlw.at hlt
        have hfl := HS.out.begin _ (List.getElem_mem hlt)
        have hnl := HS.out.many _ (List.getElem_mem hlt)
        have HTX := Lib.hid (HS.out.texts _ (List.getElem_mem hlt))
        clear hlw
        cases hc : ruleK l[q].q with
        | succ k =>
          have HF : Hid (rulesF (l.map Ru.q) = (k + 1, (q : Int))) := by
            have := rulesF_ru_at (l := l) hlong hlt HZ.out (by rw [hc]; simp)
            rwa [hc] at this
          have HC := Lib.hid hc
          have hk13 : k < 13 := by have := ruleK_small l[q].q; omega
          clear hc
          generalize l[q] = r at c0 c1 hfl hnl HC HRL HTX
          go_wp2_with fail
          obtain ⟨W, hW⟩ : ∃ W, W = wr.alloc (.cells #[.string ⟨r.f.toArray⟩, .slice r.a r.t.length r.c] 126) := ⟨_, rfl⟩
          have hBW : Below wr.heap.size wr W := by rw [hW]; exact (Below.refl _ _).alloc (Nat.le_refl _) _
          rw [← hW]
          clear hW
          have hB0 : Below w.heap.size w W := HB.out.trans (hBW.mono HB.out.size)
          refine (checkRule_is p r _ _ (HE.out.below hB0) (lies_below HRL.out hBW) hfl hnl HTX.out HC.out).mono ?_
          rintro e w2 ⟨rfl, hb2⟩
          have HB2 := Lib.hid (hB0.trans (hb2.mono hB0.size))
          clear hb2 hB0 hBW
          rw [errV_some p (Nat.succ_ne_zero k)]
          go_wp2
          go_ret
          have hpc := (Two.new w2 (.int .i64 q) (.iface 379 (.pointer (some (p k)))) 144).cells
          exact ⟨⟨_, rfl, by rw [HF.out]; exact .inr (.inr ⟨k, _, _, rfl, hk13, rfl, hpc.1, hpc.2.1⟩)⟩, HB2.out.alloc HB2.out.size _⟩
        | zero =>
          have HN : Hid (∀ j (h : j < l.length), j < q + 1 → ruleK l[j].q = 0) := by
            intro j hj hjq
            by_cases e : j = q
            · subst e; exact hc
            · exact HZ.out j hj (by omega)
          have HC := Lib.hid hc
          clear hc
          generalize l[q] = r at c0 c1 hfl hnl HC HRL HTX
          go_wp2_with fail
          obtain ⟨W, hW⟩ : ∃ W, W = wr.alloc (.cells #[.string ⟨r.f.toArray⟩, .slice r.a r.t.length r.c] 126) := ⟨_, rfl⟩
          have hBW : Below wr.heap.size wr W := by rw [hW]; exact (Below.refl _ _).alloc (Nat.le_refl _) _
          rw [← hW]
          clear hW
          have hB0 : Below w.heap.size w W := HB.out.trans (hBW.mono HB.out.size)
          refine (checkRule_is p r _ _ (HE.out.below hB0) (lies_below HRL.out hBW) hfl hnl HTX.out HC.out).mono ?_
          rintro e w2 ⟨rfl, hb2⟩
          have HB2 := Lib.hid (hB0.trans (hb2.mono hB0.size))
          clear hb2 hB0 hBW
          rw [errV_zero]
          go_wp2
          go_roundw
          case rel => exact ⟨q + 1, by omega, by go_num, HN.out, HB2.out⟩
          case measure => simp [intOf]; omega
      · obtain rfl : q = l.length := by omega
        have HF : Hid (rulesF (l.map Ru.q) = (0, -1)) := rulesF_ru_end hlong fun j hj => HZ.out j hj hj
        go_wp2
        go_ret
        exact ⟨⟨_, rfl, by rw [HF.out]; exact .inl ⟨rfl, rfl, rfl⟩⟩, HB.out⟩

theorem hasPrefix_any (s q : List UInt8) (w : World) : Calls Tryz.prog 227 #[.string ⟨s.toArray⟩, .string ⟨q.toArray⟩] w fun e w' => e = .returned (.bool (Lib.hasPrefix s q)) ∧ w' = w :=
  Tryz.strings_HasPrefix ⟨s.toArray⟩ ⟨q.toArray⟩ w
theorem hasPrefix_is' (s q : List UInt8) (r : Bool) (w : World) (h : Lib.hasPrefix s q = r) : Calls Tryz.prog 227 #[.string ⟨s.toArray⟩, .string ⟨q.toArray⟩] w fun e w' => e = .returned (.bool r) ∧ w' = w := by
  have := hasPrefix_any s q w
  rwa [h] at this

/-- The closest of rules. -/
def closestR (s : List UInt8) (l : List Ru) : Ru := closestG Ru.f s noRu l
theorem closestR_q (s : List UInt8) (l : List Ru) : (closestR s l).q = closestQ s (l.map Ru.q) := closestG_map Ru.f Prod.fst Ru.q (fun _ => rfl) s l noRu
theorem closestR_take {s : List UInt8} {l : List Ru} {k : Nat} (hk : k < l.length) : closestR s (l.take (k + 1)) = if nearer Ru.f s (closestR s (l.take k)) l[k] then l[k] else closestR s (l.take k) := by
  unfold closestR
  rw [List.take_succ_eq_append_getElem hk, closestG_snoc]
theorem closestR_small {s : List UInt8} {l : List Ru} (P : Ru → Prop) (h0 : P noRu) (h : ∀ r ∈ l, P r) : P (closestR s l) := by
  rcases closestG_mem Ru.f s l noRu with h1 | h1
  · unfold closestR; rw [h1]; exact h0
  · exact h _ h1
theorem nearer_no {s : List UInt8} {b r : Ru} (h : Lib.hasPrefix s r.f = false) : nearer Ru.f s b r = false := by unfold nearer; rw [h]; rfl
theorem nearer_short {s : List UInt8} {b r : Ru} (h : ¬ b.f.length < r.f.length) : nearer Ru.f s b r = false := by unfold nearer; simp [h]
theorem nearer_yes {s : List UInt8} {b r : Ru} (h : Lib.hasPrefix s r.f = true) (h1 : b.f.length < r.f.length) : nearer Ru.f s b r = true := by unfold nearer; simp [h, h1]

set_option maxRecDepth 100000 in
set_option maxHeartbeats 4000000 in
theorem closest_any (s : List UInt8) (l : List Ru) (a : Option Addr) (ca : Nat) (w : World) (hl : RulesAt w a l) (hs : RuSmall l) :
    Calls Tryz.prog 175 #[.slice a l.length ca, .string ⟨s.toArray⟩] w fun e w' => e = .returned (rv (closestR s l)) ∧ Below w.heap.size w w' := by
  have hfew := hs.few
  have HL := Lib.hid hl
  have HS := Lib.hid hs
  clear hl hs
  go_enter Tryz.func175, Tryz.ntmps175
  go_wp2_with fail
  go_loopw [10] (fun i wr => ∃ q : Nat, q ≤ l.length ∧ i = .int .i64 q ∧ Two wr w.heap.size (.string ⟨#[]⟩) (.slice none 0 0) 126 ∧ Two wr (w.heap.size + 1) (sv (closestR s (l.take q)).f) (.slice (closestR s (l.take q)).a (closestR s (l.take q)).t.length (closestR s (l.take q)).c) 126 ∧ Below w.heap.size w wr) (fun i _ => l.length - (intOf i).toNat)
  case atStart =>
    refine ⟨0, by omega, rfl, ?_, ?_, ((Below.refl _ _).alloc (Nat.le_refl _) _).alloc (by simp) _⟩
    · exact (Two.new w _ _ _).keep (Below.heap_alloc _ _ _ (by simp))
    · have := Two.new (w.alloc (.cells #[.string ⟨#[]⟩, .slice none 0 0] 126)) (.string ⟨#[]⟩) (.slice none 0 0) 126
      rw [World.size_alloc] at this
      exact this
  case round =>
    obtain ⟨q, hq, rfl, h0, h1, hb⟩ := hrel
    have HB := Lib.hid hb
    have H0 := Lib.hid h0
    have H1 := Lib.hid h1
    clear hb h0 h1
    by_cases hlt : q < l.length
    · have hlt' : (q : Int) < (l.length : Int) := by omega
      have HN := Lib.hid (closestR_take (s := s) hlt)
      have hlw := HL.out.below HB.out
      obtain ⟨b, o, rfl, c0, c1⟩ := hlw.at hlt
      have hfl := HS.out.begin _ (List.getElem_mem hlt)
      have hbl := closestR_small (s := s) (l := l.take q) (fun r => r.f.length ≤ 20000) (by simp [noRu]) (fun r hr => HS.out.begin r (List.mem_of_mem_take hr))
      clear hlw
      generalize closestR s (l.take q) = best at H1 HN hbl
      generalize l[q] = r at c0 c1 hfl HN
      go_wp2_with fail
      obtain ⟨W, hW⟩ : ∃ W, W = wr.alloc (.cells #[.string ⟨r.f.toArray⟩, .slice r.a r.t.length r.c] 126) := ⟨_, rfl⟩
      have hBW : Below wr.heap.size wr W := by rw [hW]; exact (Below.refl _ _).alloc (Nat.le_refl _) _
      have hTW : Two W wr.heap.size (.string ⟨r.f.toArray⟩) (.slice r.a r.t.length r.c) 126 := by rw [hW]; exact Two.new _ _ _ _
      rw [← hW]
      clear hW
      have HB0 := Lib.hid (HB.out.trans (hBW.mono HB.out.size))
      have HA0 := Lib.hid (H0.out.below hBW H0.out.lt)
      have HA1 := Lib.hid (H1.out.below hBW H1.out.lt)
      obtain ⟨g0, g1, _, _⟩ := hTW.cells
      obtain ⟨k0, k1, z0, z1⟩ := HA1.out.cells
      clear hBW hTW
      cases hp : Lib.hasPrefix s r.f with
      | false =>
        have HNN := Lib.hid (HN.out.trans (by rw [nearer_no hp, if_neg (by decide)]))
        have HP := Lib.hid hp
        clear hp
        refine (hasPrefix_is' s r.f _ _ HP.out).mono ?_
        rintro e w' ⟨rfl, rfl⟩
        go_wp2
        go_roundw
        case rel => exact ⟨q + 1, by omega, by go_num, HA0.out, by rw [HNN.out]; exact HA1.out, HB0.out⟩
        case measure => simp [intOf]; omega
      | true =>
        have HP := Lib.hid hp
        by_cases hlen : best.f.length < r.f.length
        · have HNN := Lib.hid (HN.out.trans (by rw [nearer_yes hp hlen, if_pos rfl]))
          have hlen' : (best.f.length : Int) < (r.f.length : Int) := by omega
          clear hp
          refine (hasPrefix_is' s r.f _ _ HP.out).mono ?_
          rintro e w' ⟨rfl, rfl⟩
          go_wp2
          go_roundw
          case rel => exact ⟨q + 1, by omega, by go_num, HA0.out.keep (heap_store _ _ (by omega)), by rw [HNN.out]; exact HA1.out.store _ _, below_store _ _ HB0.out (by omega)⟩
          case measure => simp [intOf]; omega
        · have HNN := Lib.hid (HN.out.trans (by rw [nearer_short hlen, if_neg (by decide)]))
          have hlen' : ¬ (best.f.length : Int) < (r.f.length : Int) := by omega
          clear hp
          refine (hasPrefix_is' s r.f _ _ HP.out).mono ?_
          rintro e w' ⟨rfl, rfl⟩
          go_wp2
          go_roundw
          case rel => exact ⟨q + 1, by omega, by go_num, HA0.out, by rw [HNN.out]; exact HA1.out, HB0.out⟩
          case measure => simp [intOf]; omega
    · obtain rfl : q = l.length := by omega
      rw [List.take_length] at H1
      obtain ⟨best, hbest⟩ : ∃ r, closestR s l = r := ⟨_, rfl⟩
      rw [hbest] at H1
      have HBE := Lib.hid hbest
      clear hbest
      obtain ⟨k0, k1, z0, z1⟩ := H1.out.cells
      obtain ⟨s0, s1, s2, s3⟩ := H0.out.cells
      go_wp2
      obtain ⟨q0, q1, q2⟩ := slot_set (w := w) (.string ⟨best.f.toArray⟩) (.slice best.a best.t.length best.c) s0 s1 HB.out
      exact bodyPost_ret (v := .agg #[.string ⟨best.f.toArray⟩, .slice best.a best.t.length best.c]) (by simp [results, Tryz.results175, go_sem, q0, q1]) rfl ⟨by rw [HBE.out], q2⟩
end Go.Proofs.YtmcfkoenpikldaaGreatDoor
/-
  Package mirror: Ways: a contract, over this seat's translation.
-/
namespace Go.Proofs.YtmcfkoenpikldaaGreatDoor
open Go.RowKit Go.Shelf

theorem linkSwap_is (p : Nat → Addr) (a b s x : List UInt8) (k : Nat) (w : World) (hE : LEnv p w) (ha : a.length ≤ 40000) (hb : b.length ≤ 40000) (hs : s.length ≤ 40000) (h : swapK a b s = (x, k)) :
    Calls Tryz.prog 176 #[.string ⟨a.toArray⟩, .string ⟨b.toArray⟩, .string ⟨s.toArray⟩] w fun e w' => e = .returned (.tuple #[.string ⟨x.toArray⟩, errV p k]) ∧ Below w.heap.size w w' := by
  have := linkSwap_any p a b s w hE ha hb hs
  rwa [h] at this

/-- What Ways tells: texts of its own, and an error. -/
def ToldWays (p : Nat → Addr) (base : Nat) (x : List (List UInt8) × (Nat × Int)) (v u : Value) (w : World) : Prop :=
  ErrAt p w u x.2.1 x.2.2 ∧ w.ownsRow base 9 1 v x.1.length (x.1.map sv)

set_option maxRecDepth 100000 in
set_option maxHeartbeats 4000000 in
theorem ways_any (p : Nat → Addr) (s : List UInt8) (l : List Ru) (a : Option Addr) (ca : Nat) (w : World) (hE : LEnv p w) (hl : RulesAt w a l) (hs : RuSmall l) (hsl : s.length ≤ 20000) :
    Calls Tryz.prog 128 #[.slice a l.length ca, .string ⟨s.toArray⟩] w fun e w' => (∃ v u, e = .returned (.tuple #[v, u]) ∧ ToldWays p w.heap.size (waysQ (l.map Ru.q) s) v u w') ∧ Below w.heap.size w w' := by
  have HE := Lib.hid hE
  have HL := Lib.hid hl
  have HS := Lib.hid hs
  clear hE hl hs
  by_cases h0 : (rulesF (l.map Ru.q)).1 = 0
  · cases h1 : checkK s with
    | succ k =>
      have HW := Lib.hid (waysQ_link (s := s) h0 (by rw [h1]; simp))
      have H1 := Lib.hid h1
      have H0 := Lib.hid h0
      have hk13 : k < 13 := by have := checkK_small s; omega
      clear h0 h1
      go_enter Tryz.func128, Tryz.ntmps128
      go_wp2_with fail
      refine (mirrorCheck_any p l a ca _ HE.out HL.out HS.out).mono ?_
      rintro e w1 ⟨⟨v, rfl, herr⟩, hb1⟩
      rw [H0.out] at herr
      obtain rfl := herr.isNil
      have HB1 := Lib.hid hb1
      clear hb1 herr
      go_wp2_with fail
      refine (linkCheck_is p s _ _ (HE.out.below HB1.out) (by omega) H1.out).mono ?_
      rintro e w2 ⟨rfl, hb2⟩
      have HB2 := Lib.hid (HB1.out.trans (hb2.mono HB1.out.size))
      clear hb2
      rw [errV_some p (Nat.succ_ne_zero k)]
      go_wp2
      go_ret2
      refine ⟨⟨_, _, rfl, ?_, ?_⟩, HB2.out⟩
      · rw [HW.out, H1.out]
        exact .inr (.inl ⟨k, rfl, hk13, rfl, rfl⟩)
      · rw [HW.out]
        exact World.ownsRow_nil _ _ _ _
    | zero =>
      have HW := Lib.hid (waysQ_ok (s := s) h0 h1)
      have H1 := Lib.hid h1
      have H0 := Lib.hid h0
      clear h0 h1
      obtain ⟨best, hbest⟩ : ∃ r, closestR s l = r := ⟨_, rfl⟩
      have HQ : Hid (closestQ s (l.map Ru.q) = best.q) := by show closestQ s _ = _; rw [← closestR_q, hbest]
      have hbf : best.f.length ≤ 20000 := by rw [← hbest]; exact closestR_small (s := s) (l := l) (fun r => r.f.length ≤ 20000) (by simp [noRu]) HS.out.begin
      have hbn : best.t.length ≤ 1000 := by rw [← hbest]; exact closestR_small (s := s) (l := l) (fun r => r.t.length ≤ 1000) (by simp [noRu]) HS.out.many
      have HBT : Hid (∀ t ∈ best.t, t.length ≤ 20000) := by show ∀ t ∈ best.t, t.length ≤ 20000; rw [← hbest]; exact closestR_small (s := s) (l := l) (fun r => ∀ t ∈ r.t, t.length ≤ 20000) (by simp [noRu]) HS.out.texts
      have HBL : Hid (best.Lies w) := by show best.Lies w; rw [← hbest]; exact closestR_small (s := s) (l := l) (fun r => r.Lies w) (noRu_lies w) HL.out.each
      obtain ⟨bf, bt, ba, bc⟩ := best
      have HBX : Hid (TextsAt w ba bt) := HBL.out.texts
      have HBE := Lib.hid hbest
      simp only at hbf hbn HBT
      clear hbest HBL
      go_enter Tryz.func128, Tryz.ntmps128
      go_wp2_with fail
      refine (mirrorCheck_any p l a ca _ HE.out HL.out HS.out).mono ?_
      rintro e w1 ⟨⟨v, rfl, herr⟩, hb1⟩
      rw [H0.out] at herr
      obtain rfl := herr.isNil
      have HB1 := Lib.hid hb1
      clear hb1 herr
      go_wp2_with fail
      refine (linkCheck_is p s _ _ (HE.out.below HB1.out) (by omega) H1.out).mono ?_
      rintro e w2 ⟨rfl, hb2⟩
      have HB2 := Lib.hid (HB1.out.trans (hb2.mono HB1.out.size))
      clear hb2
      rw [errV_zero]
      go_wp2_with fail
      refine (closest_any s l a ca _ (HL.out.below HB2.out) HS.out).mono ?_
      rintro e w3 ⟨rfl, hb3⟩
      have HB3 := Lib.hid (HB2.out.trans (hb3.mono HB2.out.size))
      clear hb3
      rw [HBE.out]
      obtain ⟨B, hB⟩ : ∃ B, B = w3.heap.size := ⟨_, rfl⟩
      have hwB : w.heap.size ≤ B := by rw [hB]; exact HB3.out.size
      obtain ⟨W, hW⟩ : ∃ W, W = w3.alloc (.cells #[.string ⟨bf.toArray⟩, .slice ba bt.length bc] 126) := ⟨_, rfl⟩
      have hTW : Two W B (.string ⟨bf.toArray⟩) (.slice ba bt.length bc) 126 := by rw [hW, hB]; exact Two.new _ _ _ _
      have hBW : Below w.heap.size w W := by rw [hW]; exact HB3.out.alloc HB3.out.size _
      have hWs : W.heap.size = B + 1 := by rw [hW, World.size_alloc, hB]
      have HTW := Lib.hid hTW
      have HBW := Lib.hid hBW
      obtain ⟨g0, g1, _, _⟩ := hTW.cells
      go_wp2_with fail
      rw [← hW, ← hB]
      clear hTW hBW hW hB
      go_loopw [9, 30] (fun v i wr => ∃ q : Nat, q ≤ bt.length ∧ i = .int .i64 q ∧ wr.ownsRow (B + 1) 9 1 v (waysTo bf s (bt.take q)).length ((waysTo bf s (bt.take q)).map sv) ∧ Two wr B (.string ⟨bf.toArray⟩) (.slice ba bt.length bc) 126 ∧ Below w.heap.size w wr ∧ B + 1 ≤ wr.heap.size) (fun _ i _ => bt.length - (intOf i).toNat)
      case atStart => exact ⟨0, by omega, rfl, World.ownsRow_nil _ _ _ _, HTW.out, HBW.out, by omega⟩
      case round =>
        obtain ⟨q, hq, rfl, hrow, htwo, hb, hsz⟩ := hrel
        have HB := Lib.hid hb
        have HR := Lib.hid hrow
        have HT := Lib.hid htwo
        obtain ⟨k0, k1, _, _⟩ := htwo.cells
        clear hb hrow htwo
        have hal := waysTo_length bf s (bt.take q)
        rw [List.length_take] at hal
        by_cases hlt : q < bt.length
        · have hlt' : (q : Int) < (bt.length : Int) := by omega
          have HN := Lib.hid (waysTo_take (a := bf) (s := s) hlt)
          have hxl := HBT.out _ (List.getElem_mem hlt)
          obtain ⟨b, o, rfl, c0⟩ := (HBX.out.below HB.out).at hlt
          generalize waysTo bf s (bt.take q) = acc at HR HN hal
          generalize bt[q] = x at c0 hxl HN
          obtain ⟨⟨y, c⟩, hsw⟩ : ∃ r, swapK bf x s = r := ⟨_, rfl⟩
          cases c with
          | succ k =>
            have HNN := Lib.hid (HN.out.trans (wayStep_bad hsw))
            have HSW := Lib.hid hsw
            clear hsw
            go_wp2_with fail
            refine (linkSwap_is p bf x s _ _ _ (HE.out.below HB.out) (by omega) (by omega) (by omega) HSW.out).mono ?_
            rintro e w4 ⟨rfl, hb4⟩
            have HB4 := Lib.hid (HB.out.trans (hb4.mono HB.out.size))
            have HR4 := Lib.hid (row_below HR.out hb4)
            have HT4 := Lib.hid (HT.out.below hb4 HT.out.lt)
            have hsz4 := hb4.size
            clear hb4
            rw [errV_some p (Nat.succ_ne_zero k)]
            go_wp2
            go_roundw
            case rel => exact ⟨q + 1, by omega, by go_num, by rw [HNN.out]; exact HR4.out, HT4.out, HB4.out, by omega⟩
            case measure => simp [intOf]; omega
          | zero =>
            have HNN := Lib.hid (HN.out.trans (wayStep_ok hsw))
            have HSW := Lib.hid hsw
            clear hsw
            go_wp2_with fail
            refine (linkSwap_is p bf x s _ _ _ (HE.out.below HB.out) (by omega) (by omega) (by omega) HSW.out).mono ?_
            rintro e w4 ⟨rfl, hb4⟩
            have HB4 := Lib.hid (HB.out.trans (hb4.mono HB.out.size))
            have HR4 := Lib.hid (row_below HR.out hb4)
            have HT4 := Lib.hid (HT.out.below hb4 HT.out.lt)
            have hsz4 := hb4.size
            clear hb4
            rw [errV_zero]
            go_wp2_with fail
            refine (addOnce_any (B + 1) y acc _ _ (by omega) HR4.out (by omega)).mono ?_
            rintro e w5 ⟨⟨v', rfl, hr5⟩, hb5⟩
            have HB5 := Lib.hid (HB4.out.trans (hb5.mono (by omega)))
            have HR5 := Lib.hid hr5
            have HT5 := Lib.hid (HT4.out.below hb5 (by omega))
            have hsz5 := hb5.size
            clear hb5 hr5
            go_wp2
            go_roundw
            case rel => exact ⟨q + 1, by omega, by go_num, by rw [HNN.out]; exact HR5.out, HT5.out, HB5.out, by omega⟩
            case measure => simp [intOf]; omega
        · obtain rfl : q = bt.length := by omega
          rw [List.take_length] at HR hal
          have HF : Hid (waysL (closestQ s (l.map Ru.q)) s = addL (waysTo bf s bt) s) := by show waysL (closestQ s (l.map Ru.q)) s = _; rw [HQ.out]; rfl
          generalize waysTo bf s bt = acc at HR HF hal
          go_wp2_with fail
          refine (addOnce_any (B + 1) s acc _ _ (by omega) HR.out (by omega)).mono ?_
          rintro e w5 ⟨⟨v', rfl, hr5⟩, hb5⟩
          have HB5 := Lib.hid (HB.out.trans (hb5.mono (by omega)))
          have HR5 := Lib.hid hr5
          clear hb5 hr5
          go_wp2
          go_ret2
          refine ⟨⟨_, _, rfl, ?_, ?_⟩, HB5.out⟩
          · rw [HW.out]
            exact .inl ⟨rfl, rfl, rfl⟩
          · rw [HW.out, HF.out]
            exact HR5.out.mono (by omega)
  · have HW := Lib.hid (waysQ_bad (s := s) h0)
    have H0 := Lib.hid h0
    clear h0
    go_enter Tryz.func128, Tryz.ntmps128
    go_wp2_with fail
    refine (mirrorCheck_any p l a ca _ HE.out HL.out HS.out).mono ?_
    rintro e w1 ⟨⟨v, rfl, herr⟩, hb1⟩
    obtain ⟨T, u, rfl⟩ := herr.some H0.out
    have HB1 := Lib.hid hb1
    have HERR := Lib.hid herr
    clear hb1 herr
    go_wp2
    go_ret2
    refine ⟨⟨_, _, rfl, ?_, ?_⟩, HB1.out⟩
    · rw [HW.out]
      exact HERR.out
    · rw [HW.out]
      exact World.ownsRow_nil _ _ _ _
end Go.Proofs.YtmcfkoenpikldaaGreatDoor
