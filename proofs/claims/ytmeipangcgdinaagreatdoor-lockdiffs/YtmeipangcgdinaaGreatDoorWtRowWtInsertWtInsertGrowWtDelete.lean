/-
  Own texts of the proof, joined by program: WtRow, WtInsert, WtInsertGrow, WtDelete.
-/
import Derived.Test.YtmeipangcgdinaaGreatDoorPkWantPkWantText
import Derived.Test.YtmeipangcgdinaaGreatDoorPkUnderPkDeletePkInsert
/-
  What is wanted, many, in memory: five cells each, one behind the other; Clone, Delete and Insert of them: over this seat's translation. (Written by tools/gen_wt.py out of the texts for files.)
-/
namespace Go.Proofs.YtmeipangcgdinaaGreatDoor
open Go.RowKit Go.Shelf Go.Lib

/-- Wants that lie in memory from an address on. -/
def WLies (w : World) (a : Option Addr) (l : List Wt) : Prop :=
  l ≠ [] → ∃ b o, a = some ⟨b, o, none⟩ ∧ ∀ k (h : k < l.length), w.cell? ⟨b, o + k * 5, none⟩ = some (sv l[k].n) ∧ w.cell? ⟨b, o + k * 5 + 1, none⟩ = some (sv l[k].u) ∧ w.cell? ⟨b, o + k * 5 + 2, none⟩ = some (sv l[k].k) ∧ w.cell? ⟨b, o + k * 5 + 3, none⟩ = some (.int .i64 l[k].s) ∧ w.cell? ⟨b, o + k * 5 + 4, none⟩ = some (.int .i64 l[k].m)

theorem WLies.below {w w' : World} {a : Option Addr} {l : List Wt} (h : WLies w a l) (hb : Below w.heap.size w w') : WLies w' a l := fun hl => by
  obtain ⟨b, o, e, hc⟩ := h hl
  refine ⟨b, o, e, fun k hk => ?_⟩
  obtain ⟨h0, h1, h2, h3, h4⟩ := hc k hk
  have hlt : b < w.heap.size := block_lt_of_cell h0
  exact ⟨(hb.cell (p := ⟨b, o + k * 5, none⟩) hlt).trans h0, (hb.cell (p := ⟨b, o + k * 5 + 1, none⟩) hlt).trans h1, (hb.cell (p := ⟨b, o + k * 5 + 2, none⟩) hlt).trans h2, (hb.cell (p := ⟨b, o + k * 5 + 3, none⟩) hlt).trans h3, (hb.cell (p := ⟨b, o + k * 5 + 4, none⟩) hlt).trans h4⟩

theorem WLies.at {w : World} {a : Option Addr} {l : List Wt} (h : WLies w a l) {k : Nat} (hk : k < l.length) : ∃ b o, a = some ⟨b, o, none⟩ ∧ w.cell? ⟨b, o + k * 5, none⟩ = some (sv l[k].n) ∧ w.cell? ⟨b, o + k * 5 + 1, none⟩ = some (sv l[k].u) ∧ w.cell? ⟨b, o + k * 5 + 2, none⟩ = some (sv l[k].k) ∧ w.cell? ⟨b, o + k * 5 + 3, none⟩ = some (.int .i64 l[k].s) ∧ w.cell? ⟨b, o + k * 5 + 4, none⟩ = some (.int .i64 l[k].m) := by
  obtain ⟨b, o, e, hc⟩ := h (fun e => by simp [e] at hk)
  exact ⟨b, o, e, hc k hk⟩
theorem WLies.take {w : World} {a : Option Addr} {l : List Wt} (h : WLies w a l) (k : Nat) : WLies w a (l.take k) := fun hne => by
  have hl : l ≠ [] := fun e => hne (by rw [e]; simp)
  obtain ⟨b, o, e, hc⟩ := h hl
  refine ⟨b, o, e, fun j hj => ?_⟩
  rw [List.getElem_take]
  exact hc j (by rw [List.length_take] at hj; omega)
theorem WLies.nil (w : World) (a : Option Addr) : WLies w a [] := fun h => absurd rfl h

theorem Tryz.infoWant : (Tryz.prog.info? 41).map (fun i => (i.zero, i.size, i.bytes)) = some (some (.agg #[.string ⟨#[]⟩, .string ⟨#[]⟩, .string ⟨#[]⟩, .int .i64 0, .int .i64 0]), 5, 64) := by kernel_rfl

theorem drew_cell_w (W : World) (y : Addr) : W.drew.cell? y = W.cell? y := rfl
theorem drew_frozen_w (W : World) (y : Addr) : W.drew.frozen? y = W.frozen? y := rfl
def wcells (x : Wt) : List Value := [sv x.n, sv x.u, sv x.k, .int .i64 x.s, .int .i64 x.m]
def wlcells (l : List Wt) : List Value := l.flatMap wcells
theorem wlcells_one (l : List Wt) : ∀ u ∈ wlcells l, u.oneCell' = true := by
  intro u hu
  simp only [wlcells, List.mem_flatMap] at hu
  obtain ⟨f, _, hu⟩ := hu
  simp [wcells] at hu
  rcases hu with rfl | rfl | rfl | rfl | rfl <;> rfl

theorem wlcells_length (l : List Wt) : (wlcells l).length = l.length * 5 := by
  induction l with
  | nil => rfl
  | cons f l ih => simp only [wlcells, List.flatMap_cons, List.length_append, List.length_cons] at ih ⊢; simp only [wcells, List.length_cons, List.length_nil]; omega

theorem wlcells_app (a b : List Wt) : wlcells (a ++ b) = wlcells a ++ wlcells b := by simp [wlcells]

theorem wlcells_at : ∀ (l : List Wt) (k : Nat) (h : k < l.length) (j : Nat), j < 5 → (wlcells l)[k * 5 + j]? = (wcells l[k])[j]?
  | [], k, h, _, _ => by simp at h
  | f :: l, 0, _, j, hj => by
    show (wcells f ++ wlcells l)[0 * 5 + j]? = (wcells f)[j]?
    rw [Nat.zero_mul, Nat.zero_add, List.getElem?_append_left (by simp [wcells]; omega)]
  | f :: l, k + 1, h, j, hj => by
    have ih := wlcells_at l k (by simpa using h) j hj
    show (wcells f ++ wlcells l)[(k + 1) * 5 + j]? = _
    rw [List.getElem?_append_right (by simp [wcells]; omega)]
    have : (k + 1) * 5 + j - (wcells f).length = k * 5 + j := by simp [wcells]; omega
    rw [this, ih]
    rfl

theorem WLies.news {w : World} {ad : Addr} {l : List Wt} (h : WLies w (some ad) l) : ∀ j u, (wlcells l)[j]? = some u → w.cell? (ad.add j) = some u := by
  intro j u hu
  have hj : j < l.length * 5 := by
    have := (List.getElem?_eq_some_iff.1 hu).1
    rwa [wlcells_length] at this
  have hq : j / 5 < l.length := by omega
  obtain ⟨b, o, e, h0, h1, h2, h3, h4⟩ := h.at hq
  cases e
  have hm : j % 5 < 5 := Nat.mod_lt _ (by omega)
  have hjs : j / 5 * 5 + j % 5 = j := by omega
  have hat := wlcells_at l (j / 5) hq (j % 5) hm
  rw [hjs, hu] at hat
  have e : (⟨b, o, none⟩ : Addr).add j = ⟨b, o + j / 5 * 5 + j % 5, none⟩ := by rw [Addr.add_lit]; congr 1; omega
  rw [e]
  generalize l[j / 5] = f at h0 h1 h2 h3 h4 hat
  generalize hr : j % 5 = r at hm hat
  rcases r with _ | _ | _ | _ | _ | r
  · simp [wcells] at hat; subst hat; simpa using h0
  · simp [wcells] at hat; subst hat; simpa using h1
  · simp [wcells] at hat; subst hat; simpa using h2
  · simp [wcells] at hat; subst hat; simpa using h3
  · simp [wcells] at hat; subst hat; simpa using h4
  · omega

/-- The wants of a row of the call's own. -/
theorem owns_lies_w {w : World} {base : Nat} {v : Value} {l : List Wt} (h : w.ownsRow base 41 5 v l.length (wlcells l)) :
    ∃ a cap, v = .slice a l.length cap ∧ WLies w a l ∧ (a = none → cap = 0 ∧ l = []) := by
  rcases h.2 with ⟨rfl, hn⟩ | ⟨g, cap, cur, rfl, _, hg, hcap, hm, hsz, htk⟩
  · have e : l = [] := List.length_eq_zero_iff.1 hn
    subst e
    exact ⟨none, 0, rfl, fun h => absurd rfl h, fun _ => ⟨rfl, rfl⟩⟩
  · refine ⟨some ⟨g, 0, none⟩, cap, rfl, fun _ => ⟨g, 0, rfl, fun k hk => ?_⟩, fun h => by cases h⟩
    have hc : ∀ j, j < 5 → w.cell? ⟨g, 0 + k * 5 + j, none⟩ = (wcells l[k])[j]? := fun j hj => by
      rw [← wlcells_at l k hk j hj, ← htk, List.getElem?_take_of_lt (by omega)]
      simp [World.cell?, hg]
    exact ⟨by simpa [wcells] using hc 0 (by omega), by simpa [wcells] using hc 1 (by omega), by simpa [wcells] using hc 2 (by omega), by simpa [wcells] using hc 3 (by omega), by simpa [wcells] using hc 4 (by omega)⟩
theorem owns_cap_w {w : World} {base : Nat} {a : Option Addr} {n cap : Nat} {l : List Wt} (h : w.ownsRow base 41 5 (.slice a n cap) n (wlcells l)) : n ≤ cap := by
  rcases h.2 with ⟨_, h0⟩ | ⟨g, cap, cur, h', _, _, hn, _⟩
  · omega
  · cases h'; exact hn
theorem lies_none_w {w : World} {l : List Wt} (h : WLies w none l) : l = [] := by
  by_cases e : l = []
  · exact e
  · obtain ⟨b, o, e', _⟩ := h e
    cases e'
theorem lies_of_cells_w {w : World} {g : Nat} {m : List Wt} (h : ∀ t u, (wlcells m)[t]? = some u → w.cell? ⟨g, t, none⟩ = some u) : WLies w (some ⟨g, 0, none⟩) m := fun _ => by
  refine ⟨g, 0, rfl, fun k hk => ?_⟩
  have hc : ∀ j, j < 5 → ∀ u, (wcells m[k])[j]? = some u → w.cell? ⟨g, 0 + k * 5 + j, none⟩ = some u := fun j hj u hu => by
    rw [Nat.zero_add]
    refine h _ u ?_
    rw [wlcells_at m k hk j hj]
    exact hu
  exact ⟨by simpa using hc 0 (by omega) _ rfl, by simpa using hc 1 (by omega) _ rfl, by simpa using hc 2 (by omega) _ rfl, by simpa using hc 3 (by omega) _ rfl, by simpa using hc 4 (by omega) _ rfl⟩
theorem wcells_new (w : World) (x : Wt) (T : TypeId) : ∀ j u, (wcells x)[j]? = some u → (w.alloc (.cells #[sv x.n, sv x.u, sv x.k, .int .i64 x.s, .int .i64 x.m] T)).cell? ((⟨w.heap.size, 0, none⟩ : Addr).add j) = some u := by
  intro j u h
  have hn := heap_new w (.cells #[sv x.n, sv x.u, sv x.k, .int .i64 x.s, .int .i64 x.m] T)
  have hc : ∀ k, (w.alloc (.cells #[sv x.n, sv x.u, sv x.k, .int .i64 x.s, .int .i64 x.m] T)).cell? ⟨w.heap.size, k, none⟩ = #[sv x.n, sv x.u, sv x.k, .int .i64 x.s, .int .i64 x.m][k]? := fun k => by
    unfold World.cell?
    rw [hn]
    rfl
  rcases j with _ | _ | _ | _ | _ | j
  · exact (hc 0).trans h
  · exact (hc (0 + 1)).trans h
  · exact (hc (0 + 2)).trans h
  · exact (hc (0 + 3)).trans h
  · exact (hc (0 + 4)).trans h
  · simp [wcells] at h

set_option maxRecDepth 100000 in
set_option maxHeartbeats 2000000 in
theorem clone_any_w (l : List Wt) (a : Option Addr) (ca : Nat) (w : World) (hl : WLies w a l) (hf : l.length ≤ 100000) :
    Calls Tryz.prog 28 #[.slice a l.length ca] w fun e w' => (∃ v, e = .returned v ∧ w'.ownsRow w.heap.size 41 5 v l.length (wlcells l)) ∧ Below w.heap.size w w' := by
  obtain ⟨i0, hi, hz0, hz1, hz2⟩ := info_parts Tryz.infoWant
  have q22 : ∀ (w : World) (a : Option Addr) (n c n' c' : Nat), (binOp .eql 22 (.slice a n c) (.slice none n' c')).run Tryz.prog w = .ok (.bool a.isNone) w := fun w a n c n' c' => Lib.run_eql_slice_nil w _ _ a n c n' c' Tryz.underlying22
  cases a with
  | none =>
    have := lies_none_w hl
    subst this
    clear hl
    go_enter Tryz.func28, Tryz.ntmps28
    go_wp2
    go_ret
    exact ⟨⟨_, rfl, World.ownsRow_nil _ _ _ _⟩, Below.refl _ _⟩
  | some ad =>
    have HN : Hid (∀ j u, (wlcells l)[j]? = some u → w.cell? (ad.add j) = some u) := hl.news
    clear hl
    go_enter Tryz.func28, Tryz.ntmps28
    go_wp2_with (at_builtin; refine wpList_append_own _ rfl _ _ 22 rfl w.heap.size 41 i0 (.agg #[.string ⟨#[]⟩, .string ⟨#[]⟩, .string ⟨#[]⟩, .int .i64 0, .int .i64 0]) 5 64 Tryz.underlying22 hi hz0 hz1 hz2 rfl (by decide) _ _ _ rfl (World.ownsRow_made w #[] 0 (Nat.le_refl _) (Nat.zero_le _) (by simp)) ad l.length ca (wlcells l) rfl (wlcells_length l) (fun j u hj => Lib.cell?_alloc_some _ (HN.out j u hj)) (by intro u hu; simp only [wlcells, List.mem_flatMap] at hu; obtain ⟨f, _, hu⟩ := hu; simp [wcells] at hu; rcases hu with rfl | rfl | rfl | rfl | rfl <;> rfl) (by unfold maxLen; omega) (by omega) (by simp) ?_; intro v' w1 hown hgrow _)
    go_ret
    refine ⟨⟨v', rfl, by simpa using hown⟩, ?_⟩
    exact ((Below.refl _ w).alloc (Nat.le_refl _) _).grown hgrow (by simp) (fun k hk => by have hk' : some w.heap.size = some k := hk; simp at hk'; omega)

/-- A row of the call's own, in its cells. -/
theorem owns_row_w {w : World} {base g n cap : Nat} {xs : List Value} (h : w.ownsRow base 41 5 (.slice (some ⟨g, 0, none⟩) n cap) n xs) :
    base ≤ g ∧ g < w.heap.size ∧ n ≤ cap ∧ cap ≤ maxLen ∧ (∀ t u, xs[t]? = some u → w.cell? ⟨g, t, none⟩ = some u) ∧ (∀ t, t < cap * 5 → (w.cell? ⟨g, t, none⟩).isSome = true) ∧ ∀ t, w.frozen? ⟨g, t, none⟩ = false := by
  rcases h.2 with ⟨h', _⟩ | ⟨g', cap', cur, h', hb, hg, hn, hc, hs, ht⟩
  · cases h'
  · cases h'
    refine ⟨hb, (Array.getElem?_eq_some_iff.1 hg).1, hn, hc, fun t u hu => ?_, fun t htc => ?_, fun t => by simp [World.frozen?, hg]⟩
    · have htl : t < xs.length := (List.getElem?_eq_some_iff.1 hu).1
      rw [h.1] at htl
      rw [← ht, List.getElem?_take_of_lt htl] at hu
      simpa [World.cell?, hg] using hu
    · have : t < cur.size := by omega
      simp [World.cell?, hg, this]

open Go.RowKit Go.Shelf Go.Lib

/-- copy of so many files. -/
theorem copy_files_w (w : World) (ty : TypeId) (b o dLen dCap : Nat) (a : Addr) (sLen sCap n : Nat) (cs : List Value) (hn : Nat.min sLen dLen = n) (hcs : cs.length = n * 5)
    (hsrc : ∀ j v, cs[j]? = some v → w.cell? (a.add j) = some v) (hc : ∀ j, j < cs.length → (w.cell? ⟨b, o + j, none⟩).isSome = true) (hf : ∀ j, j < cs.length → w.frozen? ⟨b, o + j, none⟩ = false) (h1 : ∀ v ∈ cs, v.oneCell' = true) :
    (Builtin.copy_ #[22, 22] ty #[.slice (some ⟨b, o, none⟩) dLen dCap, .slice (some a) sLen sCap]).run Tryz.prog w = .ok (goInt n) (w.setCells b o cs) := by
  have hl := run_loadCells_list (P := Tryz.prog) w a cs hsrc
  rw [hcs] at hl
  have hst := run_storeCells_cells (P := Tryz.prog) b o cs 0 w (by simpa using hc) (by simpa using hf) h1
  obtain ⟨i0, hi, hz0, hz1, hz2⟩ := info_parts Tryz.infoWant
  simp [Builtin.copy_, run_underlying Tryz.underlying22, Builtin.lenOf, Builtin.firstCells, sizeOf, typeInfo, hi, hz1, hn, hl, hst]

theorem wlcells_cut (l : List Wt) (j : Nat) : wlcells l = wlcells (l.take j) ++ wlcells (l.drop j) := by rw [← wlcells_app, List.take_append_drop]

theorem wlcells_take_length {l : List Wt} {j : Nat} (hj : j ≤ l.length) : (wlcells (l.take j)).length = j * 5 := by rw [wlcells_length, List.length_take]; congr 1; omega

/-- What lies where a file was put between. -/
theorem lies_between_w {w : World} {g j : Nat} {l : List Wt} {x : Wt} (hj : j ≤ l.length) (h0 : ∀ t u, t < j * 5 → (wlcells (l.take j))[t]? = some u → w.cell? ⟨g, t, none⟩ = some u)
    (h1 : ∀ t u, (wcells x)[t]? = some u → w.cell? ⟨g, j * 5 + t, none⟩ = some u) (h2 : ∀ t u, (wlcells (l.drop j))[t]? = some u → w.cell? ⟨g, (j + 1) * 5 + t, none⟩ = some u) : WLies w (some ⟨g, 0, none⟩) (l.take j ++ x :: l.drop j) := by
  refine lies_of_cells_w fun t u hu => ?_
  have e : wlcells (l.take j ++ x :: l.drop j) = wlcells (l.take j) ++ (wcells x ++ wlcells (l.drop j)) := by rw [wlcells_app]; rfl
  rw [e] at hu
  have hl := wlcells_take_length hj
  by_cases ht : t < j * 5
  · rw [List.getElem?_append_left (by omega)] at hu
    exact h0 t u ht hu
  · rw [List.getElem?_append_right (by omega), hl] at hu
    by_cases ht3 : t - j * 5 < 5
    · rw [List.getElem?_append_left (by simp [wcells]; omega)] at hu
      have := h1 (t - j * 5) u hu
      rwa [show j * 5 + (t - j * 5) = t by omega] at this
    · have h3 : (wcells x).length = 5 := rfl
      rw [List.getElem?_append_right (by omega), h3] at hu
      have := h2 (t - j * 5 - 5) u hu
      rwa [show (j + 1) * 5 + (t - j * 5 - 5) = t by omega] at this
end Go.Proofs.YtmeipangcgdinaaGreatDoor
/-
  Package slices: Insert of one want, at the end or where there is room: over this seat's translation. (Written by tools/gen_wt.py out of the texts for files.)
-/
namespace Go.Proofs.YtmeipangcgdinaaGreatDoor
open Go.RowKit Go.Shelf Go.Lib

set_option maxRecDepth 100000 in
set_option maxHeartbeats 4000000 in
/-- At the end. -/
theorem insert_end_w (l : List Wt) (v : Value) (vb base : Nat) (x : Wt) (w : World) (h : w.ownsRow base 41 5 v l.length (wlcells l)) (hf : l.length ≤ 100000)
    (hv : ∀ j u, (wcells x)[j]? = some u → w.cell? ((⟨vb, 0, none⟩ : Addr).add j) = some u) (hbase : base ≤ w.heap.size) :
    Calls Tryz.prog 34 #[v, .int .i64 l.length, .slice (some ⟨vb, 0, none⟩) 1 1] w fun e w' =>
      (∃ a c, e = .returned (.slice a (l.length + 1) c) ∧ WLies w' a (l ++ [x]) ∧ l.length + 1 ≤ c ∧ ∀ b o t, a = some ⟨b, o, t⟩ → base ≤ b) ∧ Below base w w' := by
  obtain ⟨i0, hi, hz0, hz1, hz2⟩ := info_parts Tryz.infoWant
  obtain ⟨a, cap, rfl, hlies, _⟩ := owns_lies_w h
  have hcap : l.length ≤ cap := by
    rcases h.2 with ⟨_, h0⟩ | ⟨g, cap, cur, h', _, _, hn, _⟩
    · omega
    · cases h'; exact hn
  have HOWN : Hid (w.ownsRow base 41 5 (.slice a l.length cap) l.length (wlcells l)) := h
  have HV : Hid (∀ j u, (wcells x)[j]? = some u → w.cell? ((⟨vb, 0, none⟩ : Addr).add j) = some u) := hv
  clear h hv hlies
  go_enter Tryz.func34, Tryz.ntmps34
  go_wp2_with (at_builtin; refine wpList_append_own _ rfl _ _ 22 rfl base 41 i0 (.agg #[.string ⟨#[]⟩, .string ⟨#[]⟩, .string ⟨#[]⟩, .int .i64 0, .int .i64 0]) 5 64 Tryz.underlying22 hi hz0 hz1 hz2 rfl (by decide) _ _ _ rfl HOWN.out ⟨vb, 0, none⟩ 1 1 (wcells x) rfl rfl HV.out (by simp [wcells, Value.oneCell']) (by unfold maxLen; omega) (by omega) hbase ?_; intro v' w1 hown' hgrow _)
  all_goals
    have hown2 : w1.ownsRow base 41 5 v' (l ++ [x]).length (wlcells (l ++ [x])) := by
      rw [wlcells_app, List.length_append]
      simpa [wlcells] using hown'
    obtain ⟨a', c', e', hl', _⟩ := owns_lies_w hown2
    subst e'
    have hc' : (l ++ [x]).length ≤ c' := by
      rcases hown2.2 with ⟨_, h0⟩ | ⟨g, cap', cur, h', _, _, hn, _⟩
      · simp at h0
      · cases h'; exact hn
    have HB : Hid (Below base w w1) := (Below.refl _ _).grown hgrow hbase (fun j ej => (HOWN.out.lt j ej).1)
    go_ret
    refine ⟨⟨a', c', ?_, ?_, by simpa using hc', owns_new hown2⟩, HB.out⟩
    · simp
    · exact hl'

set_option maxRecDepth 100000 in
set_option maxHeartbeats 8000000 in
/-- Between others, where there is room. -/
theorem insert_shift_w (l : List Wt) (g cap vb j base : Nat) (x : Wt) (w : World) (h : w.ownsRow base 41 5 (.slice (some ⟨g, 0, none⟩) l.length cap) l.length (wlcells l)) (hf : l.length ≤ 100000) (hj : j < l.length) (hroom : l.length + 1 ≤ cap)
    (hvh : w.heap[vb]? = some (.cells #[sv x.n, sv x.u, sv x.k, .int .i64 x.s, .int .i64 x.m] 41)) (hvb : vb ≠ g) :
    Calls Tryz.prog 34 #[.slice (some ⟨g, 0, none⟩) l.length cap, .int .i64 j, .slice (some ⟨vb, 0, none⟩) 1 1] w fun e w' =>
      (e = .returned (.slice (some ⟨g, 0, none⟩) (l.length + 1) cap) ∧ WLies w' (some ⟨g, 0, none⟩) (l.take j ++ x :: l.drop j)) ∧ Below base w w' := by
  obtain ⟨hb, hgw, hn, hcm, hcell, hsome, hfr⟩ := owns_row_w h
  have hshape : ∃ kB, w.shape? g = some (41, kB) ∧ kB ≠ 0 := by
    rcases h.2 with ⟨h', _⟩ | ⟨g', cap', cur, h', _, hg, _, _, hs, _⟩
    · cases h'
    · cases h'
      exact ⟨cur.size, by simp [World.shape?, hg], by omega⟩
  obtain ⟨kB, hsb, hkB⟩ := hshape
  have hsa : w.shape? vb = some (41, 5) := by simp [World.shape?, hvh]
  have hfa : ∀ t, w.frozen? ⟨vb, t, none⟩ = false := fun t => by simp [World.frozen?, hvh]
  have hvc : ∀ t u, (wcells x)[t]? = some u → w.cell? ⟨vb, t, none⟩ = some u := fun t u hu => by
    have : w.cell? ⟨vb, t, none⟩ = (#[sv x.n, sv x.u, sv x.k, .int .i64 x.s, .int .i64 x.m] : Array Value)[t]? := by simp [World.cell?, hvh]
    rw [this, ← hu]
    simp [wcells]
  unfold maxLen at hcm
  have hov : ∀ lb cb, (callFunc 50 #[.slice (some ⟨vb, 0, none⟩) 1 1, .slice (some ⟨g, (j + 1) * 5, none⟩) lb cb]).run Tryz.prog w = .ok (.value (.bool false)) w := fun lb cb => by
    rw [run_callFunc_extern Tryz.func50 (by kernel_rfl) (by kernel_rfl) (by kernel_rfl) (e := Extern.SlicesOverlaps.overlaps #[22, 22] #[4]) (by kernel_rfl),
      Lib.run_overlaps_apart w 22 4 41 Tryz.underlying22 5 Tryz.sizeOf41 ⟨vb, 0, none⟩ ⟨g, (j + 1) * 5, none⟩ 1 1 lb cb hvb 41 41 5 kB hsa hsb hkB (hfa 0) (hfa 5)]
    rfl
  have hld : (wlcells (l.drop j)).length = (l.length - j) * 5 := by rw [wlcells_length, List.length_drop]
  have hcd : ∀ t u, (wlcells (l.drop j))[t]? = some u → w.cell? ⟨g, j * 5 + t, none⟩ = some u := fun t u hu => by
    refine hcell _ u ?_
    have hl := wlcells_take_length (l := l) (j := j) (by omega)
    rw [wlcells_cut l j, List.getElem?_append_right (by omega), hl, Nat.add_sub_cancel_left]
    exact hu
  have hcp1 : ∀ ty dc sc, (Builtin.copy_ #[22, 22] ty #[.slice (some ⟨g, (j + 1) * 5, none⟩) (l.length - j) dc, .slice (some ⟨g, j * 5, none⟩) (l.length + 1 - j) sc]).run Tryz.prog w.drew = .ok (goInt ((l.length - j : Nat) : Int)) (w.drew.setCells g ((j + 1) * 5) (wlcells (l.drop j))) := fun ty dc sc =>
    copy_files_w w.drew ty g ((j + 1) * 5) (l.length - j) dc ⟨g, j * 5, none⟩ (l.length + 1 - j) sc (l.length - j) (wlcells (l.drop j)) (by simp only [Nat.min_def]; split <;> omega) hld (fun t u hu => by rw [Addr.add_lit]; exact hcd t u hu)
      (fun t ht => hsome _ (by omega)) (fun t _ => hfr _) (fun u hu => wlcells_one _ u hu)
  obtain ⟨W1, hW1⟩ : ∃ W1, W1 = w.drew.setCells g ((j + 1) * 5) (wlcells (l.drop j)) := ⟨_, rfl⟩
  have hin1 : ∀ t, t < (wlcells (l.drop j)).length → (w.drew.cell? ⟨g, (j + 1) * 5 + t, none⟩).isSome = true := fun t ht => hsome _ (by omega)
  have hsome1 : ∀ t, t < cap * 5 → (W1.cell? ⟨g, t, none⟩).isSome = true := fun t ht => by
    rw [hW1]
    exact isSome_setCells g _ _ _ hin1 _ (hsome t ht)
  have hcp2 : ∀ (W : World), (∀ y, W.cell? y = W1.cell? y) → (∀ y, W.frozen? y = W1.frozen? y) → ∀ ty dc, (Builtin.copy_ #[22, 22] ty #[.slice (some ⟨g, j * 5, none⟩) (l.length + 1 - j) dc, .slice (some ⟨vb, 0, none⟩) 1 1]).run Tryz.prog W = .ok (goInt 1) (W.setCells g (j * 5) (wcells x)) := fun W hWc hWf ty dc =>
    copy_files_w W ty g (j * 5) (l.length + 1 - j) dc ⟨vb, 0, none⟩ 1 1 1 (wcells x) (by simp only [Nat.min_def]; split <;> omega) rfl
      (fun t u hu => by
        rw [Addr.add_lit, hWc, hW1, World.cell?_setCells_out g _ _ _ _ (fun h _ => absurd h hvb), Nat.zero_add]
        exact hvc t u hu)
      (fun t ht => by have : t < 5 := ht; rw [hWc]; exact hsome1 _ (by omega)) (fun t _ => by rw [hWf, hW1, World.frozen?_setCells]; exact hfr _) (by simp [wcells, Value.oneCell'])
  rw [← hW1] at hcp1
  have HRES : Hid (WLies (W1.setCells g (j * 5) (wcells x)) (some ⟨g, 0, none⟩) (l.take j ++ x :: l.drop j)) := by
    have hin2 : ∀ t, t < (wcells x).length → (W1.cell? ⟨g, j * 5 + t, none⟩).isSome = true := fun t ht => by have : t < 5 := ht; exact hsome1 _ (by omega)
    refine lies_between_w (by omega) (fun t u ht hu => ?_) (fun t u hu => ?_) (fun t u hu => ?_)
    · rw [World.cell?_setCells_out _ _ _ _ _ (fun _ _ => .inl (by show t < _; omega)), hW1, World.cell?_setCells_out _ _ _ _ _ (fun _ _ => .inl (by show t < _; omega))]
      refine hcell t u ?_
      have hl := wlcells_take_length (l := l) (j := j) (by omega)
      rw [wlcells_cut l j, List.getElem?_append_left (by omega)]
      exact hu
    · have ht := (List.getElem?_eq_some_iff.1 hu).1
      rw [World.cell?_setCells_in g _ _ _ hin2 t ht, ← hu, List.getElem?_eq_getElem]
    · have ht := (List.getElem?_eq_some_iff.1 hu).1
      rw [World.cell?_setCells_out _ _ _ _ _ (fun _ _ => .inr (by show _ ≤ (j + 1) * 5 + t; have : (wcells x).length = 5 := rfl; omega)), hW1, World.cell?_setCells_in g _ _ _ hin1 t ht, ← hu, List.getElem?_eq_getElem]
  have HBEL : Hid (Below base w (W1.setCells g (j * 5) (wcells x))) := by
    refine below_cells ?_ hb _ _
    rw [hW1]
    exact below_cells (Below.refl _ w).drew hb _ _
  have h1 : ((j : Int) == (l.length : Int)) = false := by simp; omega
  have h2 : ¬ (cap : Int) < (l.length : Int) + 1 := by omega
  have h3 : (0 : Int) ≤ (j : Int) + 1 := by omega
  have h4 : ((j : Int) + 1).toNat = j + 1 := by omega
  have h5 : (j : Int) ≤ (l.length : Int) := by omega
  have h6 : (l.length : Int) + 1 ≤ (cap : Int) := by omega
  have h7 : ((l.length : Int) + 1).toNat = l.length + 1 := by omega
  have h8 : ¬ (cap = j + 1) := by omega
  have h9 : ¬ (cap = j) := by omega
  have hA : (j : Int) + 1 ≤ (l.length : Int) + 1 := by omega
  have hB : (j : Int) ≤ (l.length : Int) + 1 := by omega
  have hw1 : IntKind.i64.wrap ((j : Int) + 1) = (j : Int) + 1 := by rw [IntKind.wrap_i64]; omega
  have mixed : Tryz.prog.follows .mixedOrders = true := by kernel_rfl
  clear hW1 hcell hsome hfr hsome1 hin1 hcd hvc hfa h hsa hsb hvh
  go_enter Tryz.func34, Tryz.ntmps34
  go_wp2_with (simp only [hov])
  go_region_law_o (refine step_copy_runI rfl _ _ 22 22 rfl _ _ (by simp [Act.eval, Act.put]) (by simp [Act.eval, Act.put]) (hcp1 _ _ _) ?_)
  go_wp2_with (at_builtin; refine wpList_copy_runI _ rfl _ _ 22 22 rfl _ _ rfl rfl (hcp2 _ (fun _ => rfl) (fun _ => rfl) _ _) ?_)
  go_ret
  exact ⟨⟨rfl, HRES.out⟩, HBEL.out⟩
end Go.Proofs.YtmeipangcgdinaaGreatDoor
/-
  Package slices: Insert of one want: over this seat's translation. (Written by tools/gen_wt.py out of the texts for files.)
-/
namespace Go.Proofs.YtmeipangcgdinaaGreatDoor
open Go.RowKit Go.Shelf Go.Lib

open Go.RowKit Go.Shelf Go.Lib

set_option maxRecDepth 100000 in
set_option maxHeartbeats 8000000 in
theorem insert_grow_w (l : List Wt) (g cap vb j base : Nat) (x : Wt) (w : World) (h : w.ownsRow base 41 5 (.slice (some ⟨g, 0, none⟩) l.length cap) l.length (wlcells l)) (hf : l.length ≤ 100000) (hj : j < l.length) (hroom : cap < l.length + 1)
    (hvh : w.heap[vb]? = some (.cells #[sv x.n, sv x.u, sv x.k, .int .i64 x.s, .int .i64 x.m] 41)) (hbase : base ≤ w.heap.size) :
    Calls Tryz.prog 34 #[.slice (some ⟨g, 0, none⟩) l.length cap, .int .i64 j, .slice (some ⟨vb, 0, none⟩) 1 1] w fun e w' =>
      (∃ a c, e = .returned (.slice a (l.length + 1) c) ∧ WLies w' a (l.take j ++ x :: l.drop j) ∧ l.length + 1 ≤ c ∧ ∀ b o t, a = some ⟨b, o, t⟩ → base ≤ b) ∧ Below base w w' := by
  obtain ⟨hb, hgw, hn, hcm, hcell, hsome, hfr⟩ := owns_row_w h
  have hvw : vb < w.heap.size := (Array.getElem?_eq_some_iff.1 hvh).1
  have hvc : ∀ t u, (wcells x)[t]? = some u → w.cell? ⟨vb, t, none⟩ = some u := fun t u hu => by
    have : w.cell? ⟨vb, t, none⟩ = (#[sv x.n, sv x.u, sv x.k, .int .i64 x.s, .int .i64 x.m] : Array Value)[t]? := by simp [World.cell?, hvh]
    rw [this, ← hu]
    simp [wcells]
  unfold maxLen at hcm
  obtain ⟨i0, hi0, hz0, hzs, hzb⟩ := info_parts Tryz.infoWant
  have hkk : (l.length : Int) + 1 - (j : Int) = ((l.length + 1 - j : Nat) : Int) := by omega
  have hik : j + (l.length + 1 - j) = l.length + 1 := by omega
  have hlt := wlcells_take_length (l := l) (j := j) (by omega)
  have hct : ∀ t u, (wlcells (l.take j))[t]? = some u → w.cell? ⟨g, t, none⟩ = some u := fun t u hu => by
    have ht := (List.getElem?_eq_some_iff.1 hu).1
    refine hcell t u ?_
    rw [wlcells_cut l j, List.getElem?_append_left ht]
    exact hu
  have hold : (Builtin.firstCells i0.size j (.slice (some ⟨g, 0, none⟩) j cap)).run Tryz.prog w.drew = .ok (wlcells (l.take j)).toArray w.drew := by
    rw [hzs]
    exact run_firstCells_some w.drew 5 j ⟨g, 0, none⟩ j cap (wlcells (l.take j)) (by omega) (fun t u hu => by rw [Addr.add_lit, Nat.zero_add]; exact hct t u hu)
  have hrz : ∀ ty, (Builtin.append_ #[22, 3] ty #[.slice (some ⟨g, 0, none⟩) j cap, .int .i64 ((l.length : Int) + 1 - (j : Int))]).run Tryz.prog w =
      .ok (.slice (some ⟨w.heap.size, 0, none⟩) (l.length + 1) (grownCap w (l.length + 1) cap 41)) (w.drew.alloc (.cells ((wlcells (l.take j)).toArray ++ Builtin.zeroCells (Value.agg #[.string ⟨#[]⟩, .string ⟨#[]⟩, .string ⟨#[]⟩, .int .i64 0, .int .i64 0]).cells (l.length + 1 - j) ++ Builtin.zeroCells (Value.agg #[.string ⟨#[]⟩, .string ⟨#[]⟩, .string ⟨#[]⟩, .int .i64 0, .int .i64 0]).cells (grownCap w (l.length + 1) cap 41 - (l.length + 1))) 41)) := fun ty => by
    have h := Lib.run_append_grow_zeros w 22 3 ty 41 i0 _ .i64 .i64 Tryz.underlying22 Tryz.underlying3 hi0 hz0 (some ⟨g, 0, none⟩) j cap (wlcells (l.take j)) hold (l.length + 1 - j) (by omega) (by omega) (by omega) (by omega) (by rw [hzb]; omega) (by rw [hzb, hik]; exact growslice_fits hroom (by omega))
    rw [hik] at h
    rw [hkk]
    exact h
  obtain ⟨G, hG⟩ : ∃ G, G = grownCap w (l.length + 1) cap 41 := ⟨_, rfl⟩
  obtain ⟨ROW, hROW⟩ : ∃ ROW : Array Value, ROW = (wlcells (l.take j)).toArray ++ Builtin.zeroCells (Value.agg #[.string ⟨#[]⟩, .string ⟨#[]⟩, .string ⟨#[]⟩, .int .i64 0, .int .i64 0]).cells (l.length + 1 - j) ++ Builtin.zeroCells (Value.agg #[.string ⟨#[]⟩, .string ⟨#[]⟩, .string ⟨#[]⟩, .int .i64 0, .int .i64 0]).cells (G - (l.length + 1)) := ⟨_, rfl⟩
  rw [← hG] at hrz
  rw [← hROW] at hrz
  have hRl : (l.length + 1) * 5 ≤ ROW.size := by
    rw [hROW]
    simp only [Array.size_append, List.size_toArray, Builtin.zeroCells, Array.size_map, Array.size_range, Value.cells]
    show (l.length + 1) * 5 ≤ (wlcells (l.take j)).length + (l.length + 1 - j) * 5 + (G - (l.length + 1)) * 5
    omega
  have hR0 : ∀ t u, (wlcells (l.take j))[t]? = some u → ROW[t]? = some u := fun t u hu => by
    have ht := (List.getElem?_eq_some_iff.1 hu).1
    rw [hROW, Array.append_assoc, Array.getElem?_append_left (by simpa using ht)]
    simpa using hu
  obtain ⟨W1, hW1⟩ : ∃ W1, W1 = w.drew.alloc (.cells ROW 41) := ⟨_, rfl⟩
  rw [← hW1] at hrz
  have hNc : ∀ t, W1.cell? ⟨w.heap.size, t, none⟩ = ROW[t]? := fun t => by rw [hW1, World.cell?_alloc_at (w := w.drew) ROW _ w.heap.size t rfl]
  have hN : ∀ t, t < (l.length + 1) * 5 → (W1.cell? ⟨w.heap.size, t, none⟩).isSome = true := fun t ht => by
    rw [hNc, Array.getElem?_eq_getElem (by omega)]; rfl
  have hNf : ∀ t, W1.frozen? ⟨w.heap.size, t, none⟩ = false := fun t => by rw [hW1]; exact World.frozen?_alloc_at (w := w.drew) ROW _ w.heap.size t rfl
  have hOb : ∀ t u, w.cell? ⟨g, t, none⟩ = some u → W1.cell? ⟨g, t, none⟩ = some u := fun t u h => by rw [hW1, World.cell?_alloc_past (w := w.drew) _ g t hgw]; exact h
  have hOv : ∀ t u, w.cell? ⟨vb, t, none⟩ = some u → W1.cell? ⟨vb, t, none⟩ = some u := fun t u h => by rw [hW1, World.cell?_alloc_past (w := w.drew) _ vb t hvw]; exact h
  have hcpA : ∀ (W : World), (∀ y, W.cell? y = W1.cell? y) → (∀ y, W.frozen? y = W1.frozen? y) → ∀ ty dc, (Builtin.copy_ #[22, 22] ty #[.slice (some ⟨w.heap.size, j * 5, none⟩) (l.length + 1 - j) dc, .slice (some ⟨vb, 0, none⟩) 1 1]).run Tryz.prog W = .ok (goInt 1) (W.setCells w.heap.size (j * 5) (wcells x)) := fun W hWc hWf ty dc =>
    copy_files_w W ty w.heap.size (j * 5) (l.length + 1 - j) dc ⟨vb, 0, none⟩ 1 1 1 (wcells x) (by simp only [Nat.min_def]; split <;> omega) rfl
      (fun t u hu => by rw [Addr.add_lit, hWc, Nat.zero_add]; exact hOv _ u (hvc t u hu))
      (fun t ht => by have : t < 5 := ht; rw [hWc]; exact hN _ (by omega)) (fun t _ => by rw [hWf]; exact hNf _) (by simp [wcells, Value.oneCell'])
  have hGn : l.length + 1 ≤ G := by rw [hG]; exact grownCap_ge w _ _ _
  have hG63 : G ≤ 9223372036854775807 := by
    have := grownCap_le_maxLen w (l.length + 1) cap 41 (by unfold maxLen; omega)
    rw [← hG] at this
    unfold maxLen at this
    omega
  have hGi : ¬ (G = j) := by omega
  have hGim : ¬ (G = j + 1) := by omega
  have hci : ¬ (cap = j) := by omega
  have hbN : g ≠ w.heap.size := by omega
  have hld : (wlcells (l.drop j)).length = (l.length - j) * 5 := by rw [wlcells_length, List.length_drop]
  have hcd : ∀ t u, (wlcells (l.drop j))[t]? = some u → w.cell? ⟨g, j * 5 + t, none⟩ = some u := fun t u hu => by
    refine hcell _ u ?_
    rw [wlcells_cut l j, List.getElem?_append_right (by omega), hlt, Nat.add_sub_cancel_left]
    exact hu
  have hin1 : ∀ t, t < (wcells x).length → (W1.cell? ⟨w.heap.size, j * 5 + t, none⟩).isSome = true := fun t ht => by have : t < 5 := ht; exact hN _ (by omega)
  have hsome2 : ∀ t, t < (l.length + 1) * 5 → ((W1.setCells w.heap.size (j * 5) (wcells x)).cell? ⟨w.heap.size, t, none⟩).isSome = true := fun t ht => isSome_setCells _ _ _ _ hin1 _ (hN _ ht)
  have hcpB : ∀ (W : World), (∀ y, W.cell? y = (W1.setCells w.heap.size (j * 5) (wcells x)).cell? y) → (∀ y, W.frozen? y = (W1.setCells w.heap.size (j * 5) (wcells x)).frozen? y) → ∀ ty dc sc, (Builtin.copy_ #[22, 22] ty #[.slice (some ⟨w.heap.size, (j + 1) * 5, none⟩) (l.length - j) dc, .slice (some ⟨g, j * 5, none⟩) (l.length - j) sc]).run Tryz.prog W = .ok (goInt ((l.length - j : Nat) : Int)) (W.setCells w.heap.size ((j + 1) * 5) (wlcells (l.drop j))) := fun W hWc hWf ty dc sc =>
    copy_files_w W ty w.heap.size ((j + 1) * 5) (l.length - j) dc ⟨g, j * 5, none⟩ (l.length - j) sc (l.length - j) (wlcells (l.drop j)) (by simp only [Nat.min_def]; split <;> omega) hld
      (fun t u hu => by
        rw [Addr.add_lit, hWc, World.cell?_setCells_out _ _ _ _ _ (fun h _ => absurd h hbN)]
        exact hOb _ u (hcd t u hu))
      (fun t ht => by rw [hWc]; exact hsome2 _ (by omega))
      (fun t _ => by rw [hWf, World.frozen?_setCells]; exact hNf _) (fun u hu => wlcells_one _ u hu)
  subst hW1
  have HRES : Hid (∀ W : World, (∀ y, W.cell? y = ((w.drew.alloc (.cells ROW 41)).setCells w.heap.size (j * 5) (wcells x)).cell? y) → WLies (W.setCells w.heap.size ((j + 1) * 5) (wlcells (l.drop j))) (some ⟨w.heap.size, 0, none⟩) (l.take j ++ x :: l.drop j)) := by
    intro W hW
    have hin2 : ∀ t, t < (wlcells (l.drop j)).length → (W.cell? ⟨w.heap.size, (j + 1) * 5 + t, none⟩).isSome = true := fun t ht => by rw [hW]; exact hsome2 _ (by omega)
    refine lies_between_w (by omega) (fun t u ht hu => ?_) (fun t u hu => ?_) (fun t u hu => ?_)
    · rw [World.cell?_setCells_out _ _ _ _ _ (fun _ _ => .inl (by show t < _; omega)), hW, World.cell?_setCells_out _ _ _ _ _ (fun _ _ => .inl (by show t < _; omega)), hNc]
      exact hR0 t u hu
    · have ht := (List.getElem?_eq_some_iff.1 hu).1
      have ht3 : t < 5 := ht
      rw [World.cell?_setCells_out _ _ _ _ _ (fun _ _ => .inl (by show j * 5 + t < _; omega)), hW, World.cell?_setCells_in _ _ _ _ hin1 t ht, ← hu, List.getElem?_eq_getElem]
    · have ht := (List.getElem?_eq_some_iff.1 hu).1
      rw [World.cell?_setCells_in _ _ _ _ hin2 t ht, ← hu, List.getElem?_eq_getElem]
  have hE1 : ∀ y, ((w.alloc (.cells ROW 41)).drew).cell? y = (w.drew.alloc (.cells ROW 41)).cell? y := fun y => rfl
  have hE2 : ∀ y, ((w.alloc (.cells ROW 41)).drew).frozen? y = (w.drew.alloc (.cells ROW 41)).frozen? y := fun y => rfl
  have e0 : (w.alloc (.cells ROW 41)).drew = w.drew.alloc (.cells ROW 41) := rfl
  obtain ⟨W2, hW2⟩ : ∃ W2, W2 = (w.drew.alloc (.cells ROW 41)).setCells w.heap.size (j * 5) (wcells x) := ⟨_, rfl⟩
  rw [← hW2] at hcpB HRES
  have HW2 : Hid (W2 = (w.alloc (.cells ROW 41)).drew.setCells w.heap.size (j * 5) (wcells x)) := by
    show _ = _
    rw [e0]
    exact hW2
  have hF1 : ∀ y, W2.drew.cell? y = W2.cell? y := fun y => rfl
  have hF2 : ∀ y, W2.drew.frozen? y = W2.frozen? y := fun y => rfl
  have HBEL : Hid (Below base w (W2.drew.setCells w.heap.size ((j + 1) * 5) (wlcells (l.drop j)))) := by
    refine below_cells ?_ hbase _ _
    rw [HW2.out]
    exact (below_cells (((Below.refl _ w).alloc hbase _).drew) hbase _ _).drew
  have h1 : ((j : Int) == (l.length : Int)) = false := by simp; omega
  have h2 : (cap : Int) < (l.length : Int) + 1 := by omega
  have h3 : (0 : Int) ≤ (j : Int) + 1 := by omega
  have h4 : ((j : Int) + 1).toNat = j + 1 := by omega
  have h5 : (j : Int) ≤ (l.length : Int) := by omega
  have h6 : (j : Int) ≤ (cap : Int) := by omega
  have hA : (j : Int) + 1 ≤ (l.length : Int) + 1 := by omega
  have hB : (j : Int) ≤ (l.length : Int) + 1 := by omega
  have hw1 : IntKind.i64.wrap ((j : Int) + 1) = (j : Int) + 1 := by rw [IntKind.wrap_i64]; omega
  have mixed : Tryz.prog.follows .mixedOrders = true := by kernel_rfl
  clear e0 hW2 hkk hik hold hROW hG hRl hcell hsome hfr hct hcd hvc hN hNc hNf hOb hOv hR0 hin1 hsome2 h hvh
  go_enter Tryz.func34, Tryz.ntmps34
  go_wp2_with (first
    | (at_builtin; refine Lib.wpList_append_run _ rfl _ _ _ _ rfl _ _ rfl rfl _ _ (hrz _) ?_)
    | (at_builtin; refine wpList_copy_runI _ rfl _ _ 22 22 rfl _ _ rfl rfl (hcpA _ hE1 hE2 _ _) ?_))
  rw [← HW2.out]
  clear hcpA hE1 hE2 hrz
  go_region_law_o (refine step_copy_runI rfl _ _ 22 22 rfl (.slice (some ⟨w.heap.size, (j + 1) * 5, none⟩) (l.length - j) (G - (j + 1))) (.slice (some ⟨g, j * 5, none⟩) (l.length - j) (cap - j)) (by simp [Act.eval, Act.put]) (by simp [Act.eval, Act.put]) (hcpB _ hF1 hF2 3 (G - (j + 1)) (cap - j)) ?_)
  go_wp2
  go_ret
  exact ⟨⟨_, G, rfl, HRES.out _ (fun _ => rfl), hGn, fun b o t e => by cases e; exact hbase⟩, HBEL.out⟩

/-- Insert of one file. -/
theorem insert_any_w (l : List Wt) (v : Value) (vb j base : Nat) (x : Wt) (w : World) (h : w.ownsRow base 41 5 v l.length (wlcells l)) (hf : l.length ≤ 100000) (hj : j ≤ l.length)
    (hvh : w.heap[vb]? = some (.cells #[sv x.n, sv x.u, sv x.k, .int .i64 x.s, .int .i64 x.m] 41)) (hvb : v.ownBlock ≠ some vb) (hbase : base ≤ w.heap.size) :
    Calls Tryz.prog 34 #[v, .int .i64 j, .slice (some ⟨vb, 0, none⟩) 1 1] w fun e w' =>
      (∃ a c, e = .returned (.slice a (l.length + 1) c) ∧ WLies w' a (l.take j ++ x :: l.drop j) ∧ l.length + 1 ≤ c ∧ ∀ b o t, a = some ⟨b, o, t⟩ → base ≤ b) ∧ Below base w w' := by
  by_cases hje : j = l.length
  · subst hje
    have := insert_end_w l v vb base x w h hf (fun t u hu => by
      rw [Addr.add_lit, Nat.zero_add]
      have : w.cell? ⟨vb, t, none⟩ = (#[sv x.n, sv x.u, sv x.k, .int .i64 x.s, .int .i64 x.m] : Array Value)[t]? := by simp [World.cell?, hvh]
      rw [this, ← hu]
      simp [wcells]) hbase
    refine this.mono ?_
    rintro e w' ⟨⟨a, c, he, hl, hc, hnw⟩, hb⟩
    exact ⟨⟨a, c, he, by rw [List.take_length, List.drop_length]; exact hl, hc, hnw⟩, hb⟩
  · obtain ⟨g, cap, rfl, hcap⟩ : ∃ g cap, v = .slice (some ⟨g, 0, none⟩) l.length cap ∧ l.length ≤ cap := by
      rcases h.2 with ⟨_, h0⟩ | ⟨g, cap, cur, h', _, _, hn, _⟩
      · omega
      · exact ⟨g, cap, h', hn⟩
    by_cases hroom : l.length + 1 ≤ cap
    · refine (insert_shift_w l g cap vb j base x w h hf (by omega) hroom hvh (fun e => hvb (by rw [e]; rfl))).mono ?_
      rintro e w' ⟨⟨he, hl⟩, hb⟩
      exact ⟨⟨_, cap, he, hl, hroom, fun b o t e => by cases e; exact (owns_row_w h).1⟩, hb⟩
    · exact insert_grow_w l g cap vb j base x w h hf (by omega) (by omega) hvh hbase
end Go.Proofs.YtmeipangcgdinaaGreatDoor
/-
  Package slices: Delete of one want: over this seat's translation. (Written by tools/gen_wt.py out of the texts for files.)
-/
namespace Go.Proofs.YtmeipangcgdinaaGreatDoor
open Go.RowKit Go.Shelf Go.Lib

theorem clear_one_w (w : World) (ty : TypeId) (g o c : Nat) (hc : ∀ j, j < 5 → (w.cell? ⟨g, o + j, none⟩).isSome = true) (hf : ∀ j, j < 5 → w.frozen? ⟨g, o + j, none⟩ = false) :
    (Builtin.clear_ #[22] ty #[.slice (some ⟨g, o, none⟩) 1 c]).run Tryz.prog w = .ok (.tuple #[]) (w.setCells g o [.string ⟨#[]⟩, .string ⟨#[]⟩, .string ⟨#[]⟩, .int .i64 0, .int .i64 0]) := by
  have hst := run_storeCells_cells (P := Tryz.prog) g o [.string ⟨#[]⟩, .string ⟨#[]⟩, .string ⟨#[]⟩, .int .i64 0, .int .i64 0] 0 w (by simpa using hc) (by simpa using hf) (by simp [Value.oneCell'])
  simp only [Nat.add_zero] at hst
  have hzc : (Builtin.zeroCells (Value.agg #[.string ⟨#[]⟩, .string ⟨#[]⟩, .string ⟨#[]⟩, .int .i64 0, .int .i64 0]).cells 1).toList = [.string ⟨#[]⟩, .string ⟨#[]⟩, .string ⟨#[]⟩, .int .i64 0, .int .i64 0] := by kernel_rfl
  have hv := Tryz.zeroValue41
  simp only [Builtin.clear_]
  simp [run_underlying Tryz.underlying22, hv, hzc, hst]

set_option maxHeartbeats 4000000 in
set_option maxRecDepth 1000000 in
theorem delete_any_w (l : List Wt) (g cap j base : Nat) (w : World) (h : w.ownsRow base 41 5 (.slice (some ⟨g, 0, none⟩) l.length cap) l.length (wlcells l)) (hj : j < l.length) (hf : l.length ≤ 100000) :
    Calls Tryz.prog 27 #[.slice (some ⟨g, 0, none⟩) l.length cap, .int .i64 j, .int .i64 ((j : Int) + 1)] w fun e w' =>
      (e = .returned (.slice (some ⟨g, 0, none⟩) (l.length - 1) cap) ∧ WLies w' (some ⟨g, 0, none⟩) (l.take j ++ l.drop (j + 1))) ∧ Below base w w' := by
  obtain ⟨hb, hgw, hn, hcm, hcell, hsome, hfr⟩ := owns_row_w h
  obtain ⟨i0, hi, hz0, hz1, hz2⟩ := info_parts Tryz.infoWant
  unfold maxLen at hcm
  obtain ⟨news, hnews⟩ : ∃ news, news = wlcells (l.drop (j + 1)) := ⟨_, rfl⟩
  have hlen : news.length = (l.length - (j + 1)) * 5 := by rw [hnews, wlcells_length, List.length_drop]
  have hget : ∀ t u, news[t]? = some u → w.cell? ⟨g, (j + 1) * 5 + t, none⟩ = some u := fun t u hu => by
    refine hcell _ u ?_
    have : wlcells l = wlcells (l.take (j + 1)) ++ wlcells (l.drop (j + 1)) := by rw [← wlcells_app, List.take_append_drop]
    have hl1 : (wlcells (l.take (j + 1))).length = (j + 1) * 5 := by rw [wlcells_length, List.length_take]; congr 1; omega
    rw [this, List.getElem?_append_right (by omega), hl1, Nat.add_sub_cancel_left, ← hnews]
    exact hu
  obtain ⟨A, hA, hsrc⟩ : ∃ A : Addr, (if cap = j + 1 then some (⟨g, 0, none⟩ : Addr) else some ⟨g, (j + 1) * 5, none⟩) = some A ∧ Hid (∀ t u, news[t]? = some u → w.drew.cell? (A.add t) = some u) := by
    by_cases hcj : cap = j + 1
    · refine ⟨⟨g, 0, none⟩, by simp [hcj], fun t u hu => ?_⟩
      have h0 : news.length = 0 := by rw [hlen]; omega
      rw [List.length_eq_zero_iff.1 h0] at hu
      simp at hu
    · refine ⟨⟨g, (j + 1) * 5, none⟩, by simp [hcj], fun t u hu => ?_⟩
      rw [Addr.add_lit]
      exact hget t u hu
  have s1 : Hid (news.length = (l.length - (j + 1)) * 5) := hlen
  have s2 : Hid (∀ u ∈ news, u.oneCell' = true) := by rw [hnews]; exact fun u hu => wlcells_one _ u hu
  have s3 : Hid (∀ t, t < news.length → (w.drew.cell? ⟨g, 0 + j * 5 + t, none⟩).isSome = true ∧ w.drew.frozen? ⟨g, 0 + j * 5 + t, none⟩ = false) := by
    intro t ht
    exact ⟨hsome _ (by omega), hfr _⟩
  obtain ⟨W1, hW1⟩ : ∃ W1, W1 = w.drew.setCells g (0 + j * 5) news := ⟨_, rfl⟩
  have hsome1 : ∀ t, t < cap * 5 → (W1.cell? ⟨g, t, none⟩).isSome = true := fun t ht => by
    rw [hW1]
    exact isSome_setCells g news (0 + j * 5) w.drew (fun i hi => (s3.out i hi).1) t (hsome t ht)
  have hfr1 : ∀ t, W1.frozen? ⟨g, t, none⟩ = false := fun t => by rw [hW1, World.frozen?_setCells]; exact hfr t
  have hcl : ∀ ty c, (Builtin.clear_ #[22] ty #[.slice (some ⟨g, (j + (l.length - (j + 1))) * 5, none⟩) (l.length - (j + (l.length - (j + 1)))) c]).run Tryz.prog W1 = .ok (.tuple #[]) (W1.setCells g ((j + (l.length - (j + 1))) * 5) [.string ⟨#[]⟩, .string ⟨#[]⟩, .string ⟨#[]⟩, .int .i64 0, .int .i64 0]) :=
    fun ty c => by
    rw [show l.length - (j + (l.length - (j + 1))) = 1 by omega]
    exact clear_one_w W1 ty g _ c (fun i hi => hsome1 _ (by omega)) (fun i _ => hfr1 _)
  have HRES : Hid (WLies (W1.setCells g ((j + (l.length - (j + 1))) * 5) [.string ⟨#[]⟩, .string ⟨#[]⟩, .string ⟨#[]⟩, .int .i64 0, .int .i64 0]) (some ⟨g, 0, none⟩) (l.take j ++ l.drop (j + 1))) := by
    refine lies_of_cells_w fun t u hu => ?_
    have hl0 : (wlcells (l.take j)).length = j * 5 := by rw [wlcells_length, List.length_take]; congr 1; omega
    rw [wlcells_app] at hu
    have htl := (List.getElem?_eq_some_iff.1 hu).1
    rw [List.length_append, hl0, ← hnews, hlen] at htl
    rw [World.cell?_setCells_out _ _ _ _ _ (fun _ _ => .inl (by show t < _; omega)), hW1]
    by_cases htj : t < j * 5
    · rw [World.cell?_setCells_out _ _ _ _ _ (fun _ _ => .inl (by show t < _; omega))]
      refine hcell t u ?_
      rw [List.getElem?_append_left (by omega)] at hu
      have : wlcells l = wlcells (l.take j) ++ wlcells (l.drop j) := by rw [← wlcells_app, List.take_append_drop]
      rw [this, List.getElem?_append_left (by omega)]
      exact hu
    · rw [List.getElem?_append_right (by omega), hl0, ← hnews] at hu
      have hin := World.cell?_setCells_in g news (0 + j * 5) w.drew (fun i hi => (s3.out i hi).1) (t - j * 5) (by omega)
      rw [show 0 + j * 5 + (t - j * 5) = t by omega] at hin
      rw [hin, ← hu, List.getElem?_eq_getElem]
  have HBEL : Hid (Below base w (W1.setCells g ((j + (l.length - (j + 1))) * 5) [.string ⟨#[]⟩, .string ⟨#[]⟩, .string ⟨#[]⟩, .int .i64 0, .int .i64 0])) := by
    refine below_cells ?_ hb _ _
    rw [hW1]
    exact below_cells (Below.refl _ w).drew hb _ _
  have hW : Hid (W1 = w.drew.setCells g (0 + j * 5) news) := hW1
  have hjc : j ≤ cap := by omega
  have hjc1 : j + 1 ≤ cap := by omega
  have h1 : (0 : Int) ≤ (j : Int) := by omega
  have h2 : (0 : Int) ≤ (j : Int) + 1 := by omega
  have h3 : (j : Int) ≤ (j : Int) + 1 := by omega
  have h4 : (j : Int) + 1 ≤ (l.length : Int) := by omega
  have h5 : (l.length : Int) ≤ (cap : Int) := by omega
  have h6 : ((j : Int) + 1).toNat = j + 1 := by omega
  have h7 : ((j : Int) == (j : Int) + 1) = false := by simp; omega
  have mixed : Tryz.prog.follows .mixedOrders = true := by kernel_rfl
  clear hW1 hget hnews hlen hcell hsome hfr hsome1 hfr1 h
  go_enter Tryz.func27, Tryz.ntmps27
  go_wp2_with fail
  go_region_law_o (refine step_append_room rfl (.tmp 22) (.tmp 25) 22 rfl 41 i0 5 Tryz.underlying22 hi hz1 g 0 j cap (by simp [Act.eval, Act.put]) A (l.length - (j + 1)) (cap - (j + 1)) news (by simp [Act.eval, Act.put]) s1.out hsrc.out s2.out (by omega) s3.out ?_; rw [← hW.out])
  go_wp2
  go_ret
  exact ⟨⟨by rw [show j + (l.length - (j + 1)) = l.length - 1 by omega]; rfl, HRES.out⟩, HBEL.out⟩
end Go.Proofs.YtmeipangcgdinaaGreatDoor
