/-
  Package slices' Insert of one file: over this seat's translation.
-/
import Derived.Test.YtpogcedghbokbaaGreatDoorPkDelete
import Derived.Lib.AppendZerosOnto
import Derived.Laws.NewBlocks
import Derived.Lib.Overlaps
import Derived.Laws.Externs
namespace Go.Proofs.YtpogcedghbokbaaGreatDoor
open Go.RowKit Go.Shelf Go.Lib

/-- copy of so many files. -/
theorem copy_files (w : World) (ty : TypeId) (b o dLen dCap : Nat) (a : Addr) (sLen sCap n : Nat) (cs : List Value) (hn : Nat.min sLen dLen = n) (hcs : cs.length = n * 3)
    (hsrc : ∀ j v, cs[j]? = some v → w.cell? (a.add j) = some v) (hc : ∀ j, j < cs.length → (w.cell? ⟨b, o + j, none⟩).isSome = true) (hf : ∀ j, j < cs.length → w.frozen? ⟨b, o + j, none⟩ = false) (h1 : ∀ v ∈ cs, v.oneCell' = true) :
    (Builtin.copy_ #[22, 22] ty #[.slice (some ⟨b, o, none⟩) dLen dCap, .slice (some a) sLen sCap]).run Tryz.prog w = .ok (goInt n) (w.setCells b o cs) := by
  have hl := run_loadCells_list (P := Tryz.prog) w a cs hsrc
  rw [hcs] at hl
  have hst := run_storeCells_cells (P := Tryz.prog) b o cs 0 w (by simpa using hc) (by simpa using hf) h1
  obtain ⟨i0, hi, hz0, hz1, hz2⟩ := info_parts Tryz.infoFile
  simp [Builtin.copy_, run_underlying Tryz.underlying22, Builtin.lenOf, Builtin.firstCells, sizeOf, typeInfo, hi, hz1, hn, hl, hst]

theorem lcells_cut (l : List F) (j : Nat) : lcells l = lcells (l.take j) ++ lcells (l.drop j) := by rw [← lcells_app, List.take_append_drop]
theorem lcells_take_length {l : List F} {j : Nat} (hj : j ≤ l.length) : (lcells (l.take j)).length = j * 3 := by rw [lcells_length, List.length_take]; congr 1; omega

/-- What lies where a file was put between. -/
theorem lies_between {w : World} {g j : Nat} {l : List F} {x : F} (hj : j ≤ l.length) (h0 : ∀ t u, t < j * 3 → (lcells (l.take j))[t]? = some u → w.cell? ⟨g, t, none⟩ = some u)
    (h1 : ∀ t u, (fcells x)[t]? = some u → w.cell? ⟨g, j * 3 + t, none⟩ = some u) (h2 : ∀ t u, (lcells (l.drop j))[t]? = some u → w.cell? ⟨g, (j + 1) * 3 + t, none⟩ = some u) : LiesAt w (some ⟨g, 0, none⟩) (l.take j ++ x :: l.drop j) := by
  refine lies_of_cells fun t u hu => ?_
  have e : lcells (l.take j ++ x :: l.drop j) = lcells (l.take j) ++ (fcells x ++ lcells (l.drop j)) := by rw [lcells_app]; rfl
  rw [e] at hu
  have hl := lcells_take_length hj
  by_cases ht : t < j * 3
  · rw [List.getElem?_append_left (by omega)] at hu
    exact h0 t u ht hu
  · rw [List.getElem?_append_right (by omega), hl] at hu
    by_cases ht3 : t - j * 3 < 3
    · rw [List.getElem?_append_left (by simp [fcells]; omega)] at hu
      have := h1 (t - j * 3) u hu
      rwa [show j * 3 + (t - j * 3) = t by omega] at this
    · have h3 : (fcells x).length = 3 := rfl
      rw [List.getElem?_append_right (by omega), h3] at hu
      have := h2 (t - j * 3 - 3) u hu
      rwa [show (j + 1) * 3 + (t - j * 3 - 3) = t by omega] at this

set_option maxRecDepth 100000 in
set_option maxHeartbeats 4000000 in
/-- At the end. -/
theorem insert_end (l : List F) (v : Value) (vb base : Nat) (x : F) (w : World) (h : w.ownsRow base 24 3 v l.length (lcells l)) (hf : l.length ≤ 100000)
    (hv : ∀ j u, (fcells x)[j]? = some u → w.cell? ((⟨vb, 0, none⟩ : Addr).add j) = some u) (hbase : base ≤ w.heap.size) :
    Calls Tryz.prog 37 #[v, .int .i64 l.length, .slice (some ⟨vb, 0, none⟩) 1 1] w fun e w' =>
      (∃ a c, e = .returned (.slice a (l.length + 1) c) ∧ LiesAt w' a (l ++ [x]) ∧ l.length + 1 ≤ c) ∧ Below base w w' := by
  obtain ⟨i0, hi, hz0, hz1, hz2⟩ := info_parts Tryz.infoFile
  obtain ⟨a, cap, rfl, hlies, _⟩ := owns_lies h
  have hcap : l.length ≤ cap := by
    rcases h.2 with ⟨_, h0⟩ | ⟨g, cap, cur, h', _, _, hn, _⟩
    · omega
    · cases h'; exact hn
  have HOWN : Hid (w.ownsRow base 24 3 (.slice a l.length cap) l.length (lcells l)) := h
  have HV : Hid (∀ j u, (fcells x)[j]? = some u → w.cell? ((⟨vb, 0, none⟩ : Addr).add j) = some u) := hv
  clear h hv hlies
  go_enter Tryz.func37, Tryz.ntmps37
  go_wp2_with (at_builtin; refine wpList_append_own _ rfl _ _ 22 rfl base 24 i0 (.agg #[.string ⟨#[]⟩, .bool false, .string ⟨#[]⟩]) 3 40 Tryz.underlying22 hi hz0 hz1 hz2 rfl (by decide) _ _ _ rfl HOWN.out ⟨vb, 0, none⟩ 1 1 (fcells x) rfl rfl HV.out (by simp [fcells, Value.oneCell']) (by unfold maxLen; omega) (by omega) hbase ?_; intro v' w1 hown' hgrow _)
  all_goals
    have hown2 : w1.ownsRow base 24 3 v' (l ++ [x]).length (lcells (l ++ [x])) := by
      rw [lcells_app, List.length_append]
      simpa [lcells] using hown'
    obtain ⟨a', c', e', hl', _⟩ := owns_lies hown2
    subst e'
    have hc' : (l ++ [x]).length ≤ c' := by
      rcases hown2.2 with ⟨_, h0⟩ | ⟨g, cap', cur, h', _, _, hn, _⟩
      · simp at h0
      · cases h'; exact hn
    have HB : Hid (Below base w w1) := (Below.refl _ _).grown hgrow hbase (fun j ej => (HOWN.out.lt j ej).1)
    go_ret
    refine ⟨⟨a', c', ?_, ?_, by simpa using hc'⟩, HB.out⟩
    · simp
    · exact hl'

set_option maxRecDepth 100000 in
set_option maxHeartbeats 8000000 in
/-- Between others, where there is room. -/
theorem insert_shift (l : List F) (g cap vb j base : Nat) (x : F) (w : World) (h : w.ownsRow base 24 3 (.slice (some ⟨g, 0, none⟩) l.length cap) l.length (lcells l)) (hf : l.length ≤ 100000) (hj : j < l.length) (hroom : l.length + 1 ≤ cap)
    (hvh : w.heap[vb]? = some (.cells #[sv x.p, .bool x.r, sv x.t] 24)) (hvb : vb ≠ g) :
    Calls Tryz.prog 37 #[.slice (some ⟨g, 0, none⟩) l.length cap, .int .i64 j, .slice (some ⟨vb, 0, none⟩) 1 1] w fun e w' =>
      (e = .returned (.slice (some ⟨g, 0, none⟩) (l.length + 1) cap) ∧ LiesAt w' (some ⟨g, 0, none⟩) (l.take j ++ x :: l.drop j)) ∧ Below base w w' := by
  obtain ⟨hb, hgw, hn, hcm, hcell, hsome, hfr⟩ := owns_row h
  have hshape : ∃ kB, w.shape? g = some (24, kB) ∧ kB ≠ 0 := by
    rcases h.2 with ⟨h', _⟩ | ⟨g', cap', cur, h', _, hg, _, _, hs, _⟩
    · cases h'
    · cases h'
      exact ⟨cur.size, by simp [World.shape?, hg], by omega⟩
  obtain ⟨kB, hsb, hkB⟩ := hshape
  have hsa : w.shape? vb = some (24, 3) := by simp [World.shape?, hvh]
  have hfa : ∀ t, w.frozen? ⟨vb, t, none⟩ = false := fun t => by simp [World.frozen?, hvh]
  have hvc : ∀ t u, (fcells x)[t]? = some u → w.cell? ⟨vb, t, none⟩ = some u := fun t u hu => by
    have : w.cell? ⟨vb, t, none⟩ = (#[sv x.p, .bool x.r, sv x.t] : Array Value)[t]? := by simp [World.cell?, hvh]
    rw [this, ← hu]
    simp [fcells]
  unfold maxLen at hcm
  have hov : ∀ lb cb, (callFunc 60 #[.slice (some ⟨vb, 0, none⟩) 1 1, .slice (some ⟨g, (j + 1) * 3, none⟩) lb cb]).run Tryz.prog w = .ok (.value (.bool false)) w := fun lb cb => by
    rw [run_callFunc_extern Tryz.func60 (by kernel_rfl) (by kernel_rfl) (by kernel_rfl) (e := Extern.SlicesOverlaps.overlaps #[22, 22] #[4]) (by kernel_rfl),
      Lib.run_overlaps_apart w 22 4 24 Tryz.underlying22 3 Tryz.sizeOf24 ⟨vb, 0, none⟩ ⟨g, (j + 1) * 3, none⟩ 1 1 lb cb hvb 24 24 3 kB hsa hsb hkB (hfa 0) (hfa 3)]
    rfl
  have hld : (lcells (l.drop j)).length = (l.length - j) * 3 := by rw [lcells_length, List.length_drop]
  have hcd : ∀ t u, (lcells (l.drop j))[t]? = some u → w.cell? ⟨g, j * 3 + t, none⟩ = some u := fun t u hu => by
    refine hcell _ u ?_
    have hl := lcells_take_length (l := l) (j := j) (by omega)
    rw [lcells_cut l j, List.getElem?_append_right (by omega), hl, Nat.add_sub_cancel_left]
    exact hu
  have hcp1 : ∀ ty dc sc, (Builtin.copy_ #[22, 22] ty #[.slice (some ⟨g, (j + 1) * 3, none⟩) (l.length - j) dc, .slice (some ⟨g, j * 3, none⟩) (l.length + 1 - j) sc]).run Tryz.prog w.drew = .ok (goInt ((l.length - j : Nat) : Int)) (w.drew.setCells g ((j + 1) * 3) (lcells (l.drop j))) := fun ty dc sc =>
    copy_files w.drew ty g ((j + 1) * 3) (l.length - j) dc ⟨g, j * 3, none⟩ (l.length + 1 - j) sc (l.length - j) (lcells (l.drop j)) (by simp only [Nat.min_def]; split <;> omega) hld (fun t u hu => by rw [Addr.add_lit]; exact hcd t u hu)
      (fun t ht => hsome _ (by omega)) (fun t _ => hfr _) (fun u hu => lcells_one _ u hu)
  obtain ⟨W1, hW1⟩ : ∃ W1, W1 = w.drew.setCells g ((j + 1) * 3) (lcells (l.drop j)) := ⟨_, rfl⟩
  have hin1 : ∀ t, t < (lcells (l.drop j)).length → (w.drew.cell? ⟨g, (j + 1) * 3 + t, none⟩).isSome = true := fun t ht => hsome _ (by omega)
  have hsome1 : ∀ t, t < cap * 3 → (W1.cell? ⟨g, t, none⟩).isSome = true := fun t ht => by
    rw [hW1]
    exact isSome_setCells g _ _ _ hin1 _ (hsome t ht)
  have hcp2 : ∀ (W : World), (∀ y, W.cell? y = W1.cell? y) → (∀ y, W.frozen? y = W1.frozen? y) → ∀ ty dc, (Builtin.copy_ #[22, 22] ty #[.slice (some ⟨g, j * 3, none⟩) (l.length + 1 - j) dc, .slice (some ⟨vb, 0, none⟩) 1 1]).run Tryz.prog W = .ok (goInt 1) (W.setCells g (j * 3) (fcells x)) := fun W hWc hWf ty dc =>
    copy_files W ty g (j * 3) (l.length + 1 - j) dc ⟨vb, 0, none⟩ 1 1 1 (fcells x) (by simp only [Nat.min_def]; split <;> omega) rfl
      (fun t u hu => by
        rw [Addr.add_lit, hWc, hW1, World.cell?_setCells_out g _ _ _ _ (fun h _ => absurd h hvb), Nat.zero_add]
        exact hvc t u hu)
      (fun t ht => by have : t < 3 := ht; rw [hWc]; exact hsome1 _ (by omega)) (fun t _ => by rw [hWf, hW1, World.frozen?_setCells]; exact hfr _) (by simp [fcells, Value.oneCell'])
  rw [← hW1] at hcp1
  have HRES : Hid (LiesAt (W1.setCells g (j * 3) (fcells x)) (some ⟨g, 0, none⟩) (l.take j ++ x :: l.drop j)) := by
    have hin2 : ∀ t, t < (fcells x).length → (W1.cell? ⟨g, j * 3 + t, none⟩).isSome = true := fun t ht => by have : t < 3 := ht; exact hsome1 _ (by omega)
    refine lies_between (by omega) (fun t u ht hu => ?_) (fun t u hu => ?_) (fun t u hu => ?_)
    · rw [World.cell?_setCells_out _ _ _ _ _ (fun _ _ => .inl (by show t < _; omega)), hW1, World.cell?_setCells_out _ _ _ _ _ (fun _ _ => .inl (by show t < _; omega))]
      refine hcell t u ?_
      have hl := lcells_take_length (l := l) (j := j) (by omega)
      rw [lcells_cut l j, List.getElem?_append_left (by omega)]
      exact hu
    · have ht := (List.getElem?_eq_some_iff.1 hu).1
      rw [World.cell?_setCells_in g _ _ _ hin2 t ht, ← hu, List.getElem?_eq_getElem]
    · have ht := (List.getElem?_eq_some_iff.1 hu).1
      rw [World.cell?_setCells_out _ _ _ _ _ (fun _ _ => .inr (by show _ ≤ (j + 1) * 3 + t; have : (fcells x).length = 3 := rfl; omega)), hW1, World.cell?_setCells_in g _ _ _ hin1 t ht, ← hu, List.getElem?_eq_getElem]
  have HBEL : Hid (Below base w (W1.setCells g (j * 3) (fcells x))) := by
    refine below_cells ?_ hb _ _
    rw [hW1]
    exact below_cells (Below.refl _ w).drew hb _ _
  have h1 : ((j : Int) == (l.length : Int)) = false := by simp; omega
  have h2 : ¬ (cap : Int) < (l.length : Int) + 1 := by omega
  have h3 : (0 : Int) ≤ (j : Int) + 1 := by omega
  have h4 : ((j : Int) + 1).toNat = j + 1 := by omega
  have h5 : (j : Int) ≤ (l.length : Int) := by omega
  have h6 : (l.length : Int) + 1 ≤ (cap : Int) := by omega
  have h7 : ((l.length : Int) + 1).toNat = l.length + 1 := by omega
  have h8 : ¬ (cap = j + 1) := by omega
  have h9 : ¬ (cap = j) := by omega
  have hA : (j : Int) + 1 ≤ (l.length : Int) + 1 := by omega
  have hB : (j : Int) ≤ (l.length : Int) + 1 := by omega
  have hw1 : IntKind.i64.wrap ((j : Int) + 1) = (j : Int) + 1 := by rw [IntKind.wrap_i64]; omega
  have mixed : Tryz.prog.follows .mixedOrders = true := by kernel_rfl
  clear hW1 hcell hsome hfr hsome1 hin1 hcd hvc hfa h hsa hsb hvh
  go_enter Tryz.func37, Tryz.ntmps37
  go_wp2_with (simp only [hov])
  go_region_law_o (refine step_copy_runI rfl _ _ 22 22 rfl _ _ (by simp [Act.eval, Act.put]) (by simp [Act.eval, Act.put]) (hcp1 _ _ _) ?_)
  go_wp2_with (at_builtin; refine wpList_copy_runI _ rfl _ _ 22 22 rfl _ _ rfl rfl (hcp2 _ (fun _ => rfl) (fun _ => rfl) _ _) ?_)
  go_ret
  exact ⟨⟨rfl, HRES.out⟩, HBEL.out⟩
end Go.Proofs.YtpogcedghbokbaaGreatDoor
