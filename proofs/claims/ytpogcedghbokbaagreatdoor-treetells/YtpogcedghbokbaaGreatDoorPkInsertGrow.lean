/-
  Package slices' Insert of one file between others, where there is no room; Insert whole: over this seat's translation.
-/
import Derived.Test.YtpogcedghbokbaaGreatDoorPkInsert
namespace Go.Proofs.YtpogcedghbokbaaGreatDoor
open Go.RowKit Go.Shelf Go.Lib

set_option maxRecDepth 100000 in
set_option maxHeartbeats 8000000 in
theorem insert_grow (l : List F) (g cap vb j base : Nat) (x : F) (w : World) (h : w.ownsRow base 24 3 (.slice (some ⟨g, 0, none⟩) l.length cap) l.length (lcells l)) (hf : l.length ≤ 100000) (hj : j < l.length) (hroom : cap < l.length + 1)
    (hvh : w.heap[vb]? = some (.cells #[sv x.p, .bool x.r, sv x.t] 24)) (hbase : base ≤ w.heap.size) :
    Calls Tryz.prog 37 #[.slice (some ⟨g, 0, none⟩) l.length cap, .int .i64 j, .slice (some ⟨vb, 0, none⟩) 1 1] w fun e w' =>
      (∃ a c, e = .returned (.slice a (l.length + 1) c) ∧ LiesAt w' a (l.take j ++ x :: l.drop j) ∧ l.length + 1 ≤ c) ∧ Below base w w' := by
  obtain ⟨hb, hgw, hn, hcm, hcell, hsome, hfr⟩ := owns_row h
  have hvw : vb < w.heap.size := (Array.getElem?_eq_some_iff.1 hvh).1
  have hvc : ∀ t u, (fcells x)[t]? = some u → w.cell? ⟨vb, t, none⟩ = some u := fun t u hu => by
    have : w.cell? ⟨vb, t, none⟩ = (#[sv x.p, .bool x.r, sv x.t] : Array Value)[t]? := by simp [World.cell?, hvh]
    rw [this, ← hu]
    simp [fcells]
  unfold maxLen at hcm
  obtain ⟨i0, hi0, hz0, hzs, hzb⟩ := info_parts Tryz.infoFile
  have hkk : (l.length : Int) + 1 - (j : Int) = ((l.length + 1 - j : Nat) : Int) := by omega
  have hik : j + (l.length + 1 - j) = l.length + 1 := by omega
  have hlt := lcells_take_length (l := l) (j := j) (by omega)
  have hct : ∀ t u, (lcells (l.take j))[t]? = some u → w.cell? ⟨g, t, none⟩ = some u := fun t u hu => by
    have ht := (List.getElem?_eq_some_iff.1 hu).1
    refine hcell t u ?_
    rw [lcells_cut l j, List.getElem?_append_left ht]
    exact hu
  have hold : (Builtin.firstCells i0.size j (.slice (some ⟨g, 0, none⟩) j cap)).run Tryz.prog w.drew = .ok (lcells (l.take j)).toArray w.drew := by
    rw [hzs]
    exact run_firstCells_some w.drew 3 j ⟨g, 0, none⟩ j cap (lcells (l.take j)) (by omega) (fun t u hu => by rw [Addr.add_lit, Nat.zero_add]; exact hct t u hu)
  have hrz : ∀ ty, (Builtin.append_ #[22, 3] ty #[.slice (some ⟨g, 0, none⟩) j cap, .int .i64 ((l.length : Int) + 1 - (j : Int))]).run Tryz.prog w =
      .ok (.slice (some ⟨w.heap.size, 0, none⟩) (l.length + 1) (grownCap w (l.length + 1) cap 24)) (w.drew.alloc (.cells ((lcells (l.take j)).toArray ++ Builtin.zeroCells (Value.agg #[.string ⟨#[]⟩, .bool false, .string ⟨#[]⟩]).cells (l.length + 1 - j) ++ Builtin.zeroCells (Value.agg #[.string ⟨#[]⟩, .bool false, .string ⟨#[]⟩]).cells (grownCap w (l.length + 1) cap 24 - (l.length + 1))) 24)) := fun ty => by
    have h := Lib.run_append_grow_zeros w 22 3 ty 24 i0 _ .i64 .i64 Tryz.underlying22 Tryz.underlying3 hi0 hz0 (some ⟨g, 0, none⟩) j cap (lcells (l.take j)) hold (l.length + 1 - j) (by omega) (by omega) (by omega) (by omega) (by rw [hzb]; omega) (by rw [hzb, hik]; exact growslice_fits hroom (by omega))
    rw [hik] at h
    rw [hkk]
    exact h
  obtain ⟨G, hG⟩ : ∃ G, G = grownCap w (l.length + 1) cap 24 := ⟨_, rfl⟩
  obtain ⟨ROW, hROW⟩ : ∃ ROW : Array Value, ROW = (lcells (l.take j)).toArray ++ Builtin.zeroCells (Value.agg #[.string ⟨#[]⟩, .bool false, .string ⟨#[]⟩]).cells (l.length + 1 - j) ++ Builtin.zeroCells (Value.agg #[.string ⟨#[]⟩, .bool false, .string ⟨#[]⟩]).cells (G - (l.length + 1)) := ⟨_, rfl⟩
  rw [← hG] at hrz
  rw [← hROW] at hrz
  have hRl : (l.length + 1) * 3 ≤ ROW.size := by
    rw [hROW]
    simp only [Array.size_append, List.size_toArray, Builtin.zeroCells, Array.size_map, Array.size_range, Value.cells]
    show (l.length + 1) * 3 ≤ (lcells (l.take j)).length + (l.length + 1 - j) * 3 + (G - (l.length + 1)) * 3
    omega
  have hR0 : ∀ t u, (lcells (l.take j))[t]? = some u → ROW[t]? = some u := fun t u hu => by
    have ht := (List.getElem?_eq_some_iff.1 hu).1
    rw [hROW, Array.append_assoc, Array.getElem?_append_left (by simpa using ht)]
    simpa using hu
  obtain ⟨W1, hW1⟩ : ∃ W1, W1 = w.drew.alloc (.cells ROW 24) := ⟨_, rfl⟩
  rw [← hW1] at hrz
  have hNc : ∀ t, W1.cell? ⟨w.heap.size, t, none⟩ = ROW[t]? := fun t => by rw [hW1, World.cell?_alloc_at (w := w.drew) ROW _ w.heap.size t rfl]
  have hN : ∀ t, t < (l.length + 1) * 3 → (W1.cell? ⟨w.heap.size, t, none⟩).isSome = true := fun t ht => by
    rw [hNc, Array.getElem?_eq_getElem (by omega)]; rfl
  have hNf : ∀ t, W1.frozen? ⟨w.heap.size, t, none⟩ = false := fun t => by rw [hW1]; exact World.frozen?_alloc_at (w := w.drew) ROW _ w.heap.size t rfl
  have hOb : ∀ t u, w.cell? ⟨g, t, none⟩ = some u → W1.cell? ⟨g, t, none⟩ = some u := fun t u h => by rw [hW1, World.cell?_alloc_past (w := w.drew) _ g t hgw]; exact h
  have hOv : ∀ t u, w.cell? ⟨vb, t, none⟩ = some u → W1.cell? ⟨vb, t, none⟩ = some u := fun t u h => by rw [hW1, World.cell?_alloc_past (w := w.drew) _ vb t hvw]; exact h
  have hcpA : ∀ (W : World), (∀ y, W.cell? y = W1.cell? y) → (∀ y, W.frozen? y = W1.frozen? y) → ∀ ty dc, (Builtin.copy_ #[22, 22] ty #[.slice (some ⟨w.heap.size, j * 3, none⟩) (l.length + 1 - j) dc, .slice (some ⟨vb, 0, none⟩) 1 1]).run Tryz.prog W = .ok (goInt 1) (W.setCells w.heap.size (j * 3) (fcells x)) := fun W hWc hWf ty dc =>
    copy_files W ty w.heap.size (j * 3) (l.length + 1 - j) dc ⟨vb, 0, none⟩ 1 1 1 (fcells x) (by simp only [Nat.min_def]; split <;> omega) rfl
      (fun t u hu => by rw [Addr.add_lit, hWc, Nat.zero_add]; exact hOv _ u (hvc t u hu))
      (fun t ht => by have : t < 3 := ht; rw [hWc]; exact hN _ (by omega)) (fun t _ => by rw [hWf]; exact hNf _) (by simp [fcells, Value.oneCell'])
  have hGn : l.length + 1 ≤ G := by rw [hG]; exact grownCap_ge w _ _ _
  have hG63 : G ≤ 9223372036854775807 := by
    have := grownCap_le_maxLen w (l.length + 1) cap 24 (by unfold maxLen; omega)
    rw [← hG] at this
    unfold maxLen at this
    omega
  have hGi : ¬ (G = j) := by omega
  have hGim : ¬ (G = j + 1) := by omega
  have hci : ¬ (cap = j) := by omega
  have hbN : g ≠ w.heap.size := by omega
  have hld : (lcells (l.drop j)).length = (l.length - j) * 3 := by rw [lcells_length, List.length_drop]
  have hcd : ∀ t u, (lcells (l.drop j))[t]? = some u → w.cell? ⟨g, j * 3 + t, none⟩ = some u := fun t u hu => by
    refine hcell _ u ?_
    rw [lcells_cut l j, List.getElem?_append_right (by omega), hlt, Nat.add_sub_cancel_left]
    exact hu
  have hin1 : ∀ t, t < (fcells x).length → (W1.cell? ⟨w.heap.size, j * 3 + t, none⟩).isSome = true := fun t ht => by have : t < 3 := ht; exact hN _ (by omega)
  have hsome2 : ∀ t, t < (l.length + 1) * 3 → ((W1.setCells w.heap.size (j * 3) (fcells x)).cell? ⟨w.heap.size, t, none⟩).isSome = true := fun t ht => isSome_setCells _ _ _ _ hin1 _ (hN _ ht)
  have hcpB : ∀ (W : World), (∀ y, W.cell? y = (W1.setCells w.heap.size (j * 3) (fcells x)).cell? y) → (∀ y, W.frozen? y = (W1.setCells w.heap.size (j * 3) (fcells x)).frozen? y) → ∀ ty dc sc, (Builtin.copy_ #[22, 22] ty #[.slice (some ⟨w.heap.size, (j + 1) * 3, none⟩) (l.length - j) dc, .slice (some ⟨g, j * 3, none⟩) (l.length - j) sc]).run Tryz.prog W = .ok (goInt ((l.length - j : Nat) : Int)) (W.setCells w.heap.size ((j + 1) * 3) (lcells (l.drop j))) := fun W hWc hWf ty dc sc =>
    copy_files W ty w.heap.size ((j + 1) * 3) (l.length - j) dc ⟨g, j * 3, none⟩ (l.length - j) sc (l.length - j) (lcells (l.drop j)) (by simp only [Nat.min_def]; split <;> omega) hld
      (fun t u hu => by
        rw [Addr.add_lit, hWc, World.cell?_setCells_out _ _ _ _ _ (fun h _ => absurd h hbN)]
        exact hOb _ u (hcd t u hu))
      (fun t ht => by rw [hWc]; exact hsome2 _ (by omega))
      (fun t _ => by rw [hWf, World.frozen?_setCells]; exact hNf _) (fun u hu => lcells_one _ u hu)
  subst hW1
  have HRES : Hid (∀ W : World, (∀ y, W.cell? y = ((w.drew.alloc (.cells ROW 24)).setCells w.heap.size (j * 3) (fcells x)).cell? y) → LiesAt (W.setCells w.heap.size ((j + 1) * 3) (lcells (l.drop j))) (some ⟨w.heap.size, 0, none⟩) (l.take j ++ x :: l.drop j)) := by
    intro W hW
    have hin2 : ∀ t, t < (lcells (l.drop j)).length → (W.cell? ⟨w.heap.size, (j + 1) * 3 + t, none⟩).isSome = true := fun t ht => by rw [hW]; exact hsome2 _ (by omega)
    refine lies_between (by omega) (fun t u ht hu => ?_) (fun t u hu => ?_) (fun t u hu => ?_)
    · rw [World.cell?_setCells_out _ _ _ _ _ (fun _ _ => .inl (by show t < _; omega)), hW, World.cell?_setCells_out _ _ _ _ _ (fun _ _ => .inl (by show t < _; omega)), hNc]
      exact hR0 t u hu
    · have ht := (List.getElem?_eq_some_iff.1 hu).1
      have ht3 : t < 3 := ht
      rw [World.cell?_setCells_out _ _ _ _ _ (fun _ _ => .inl (by show j * 3 + t < _; omega)), hW, World.cell?_setCells_in _ _ _ _ hin1 t ht, ← hu, List.getElem?_eq_getElem]
    · have ht := (List.getElem?_eq_some_iff.1 hu).1
      rw [World.cell?_setCells_in _ _ _ _ hin2 t ht, ← hu, List.getElem?_eq_getElem]
  have hE1 : ∀ y, ((w.alloc (.cells ROW 24)).drew).cell? y = (w.drew.alloc (.cells ROW 24)).cell? y := fun y => rfl
  have hE2 : ∀ y, ((w.alloc (.cells ROW 24)).drew).frozen? y = (w.drew.alloc (.cells ROW 24)).frozen? y := fun y => rfl
  have hF1 : ∀ y, (((w.alloc (.cells ROW 24)).drew.setCells w.heap.size (j * 3) (fcells x)).drew).cell? y = ((w.drew.alloc (.cells ROW 24)).setCells w.heap.size (j * 3) (fcells x)).cell? y := fun y => rfl
  have hF2 : ∀ y, (((w.alloc (.cells ROW 24)).drew.setCells w.heap.size (j * 3) (fcells x)).drew).frozen? y = ((w.drew.alloc (.cells ROW 24)).setCells w.heap.size (j * 3) (fcells x)).frozen? y := fun y => rfl
  have HBEL : Hid (Below base w ((((w.alloc (.cells ROW 24)).drew.setCells w.heap.size (j * 3) (fcells x)).drew).setCells w.heap.size ((j + 1) * 3) (lcells (l.drop j)))) := by
    refine below_cells ?_ hbase _ _
    exact (below_cells (((Below.refl _ w).alloc hbase _).drew) hbase _ _).drew
  have h1 : ((j : Int) == (l.length : Int)) = false := by simp; omega
  have h2 : (cap : Int) < (l.length : Int) + 1 := by omega
  have h3 : (0 : Int) ≤ (j : Int) + 1 := by omega
  have h4 : ((j : Int) + 1).toNat = j + 1 := by omega
  have h5 : (j : Int) ≤ (l.length : Int) := by omega
  have h6 : (j : Int) ≤ (cap : Int) := by omega
  have hA : (j : Int) + 1 ≤ (l.length : Int) + 1 := by omega
  have hB : (j : Int) ≤ (l.length : Int) + 1 := by omega
  have hw1 : IntKind.i64.wrap ((j : Int) + 1) = (j : Int) + 1 := by rw [IntKind.wrap_i64]; omega
  have mixed : Tryz.prog.follows .mixedOrders = true := by kernel_rfl
  clear hkk hik hold hROW hG hRl hcell hsome hfr hct hcd hvc hN hNc hNf hOb hOv hR0 hin1 hsome2 h hvh
  go_enter Tryz.func37, Tryz.ntmps37
  go_wp2_with (first
    | (at_builtin; refine Lib.wpList_append_run _ rfl _ _ _ _ rfl _ _ rfl rfl _ _ (hrz _) ?_)
    | (at_builtin; refine wpList_copy_runI _ rfl _ _ 22 22 rfl _ _ rfl rfl (hcpA _ hE1 hE2 _ _) ?_))
  go_region_law_o (refine step_copy_runI rfl _ _ 22 22 rfl (.slice (some ⟨w.heap.size, (j + 1) * 3, none⟩) (l.length - j) (G - (j + 1))) (.slice (some ⟨g, j * 3, none⟩) (l.length - j) (cap - j)) (by simp [Act.eval, Act.put]) (by simp [Act.eval, Act.put]) (hcpB _ hF1 hF2 3 (G - (j + 1)) (cap - j)) ?_)
  go_wp2
  go_ret
  exact ⟨⟨_, G, rfl, HRES.out _ (fun _ => rfl), hGn⟩, HBEL.out⟩

/-- Insert of one file. -/
theorem insert_any (l : List F) (v : Value) (vb j base : Nat) (x : F) (w : World) (h : w.ownsRow base 24 3 v l.length (lcells l)) (hf : l.length ≤ 100000) (hj : j ≤ l.length)
    (hvh : w.heap[vb]? = some (.cells #[sv x.p, .bool x.r, sv x.t] 24)) (hvb : v.ownBlock ≠ some vb) (hbase : base ≤ w.heap.size) :
    Calls Tryz.prog 37 #[v, .int .i64 j, .slice (some ⟨vb, 0, none⟩) 1 1] w fun e w' =>
      (∃ a c, e = .returned (.slice a (l.length + 1) c) ∧ LiesAt w' a (l.take j ++ x :: l.drop j) ∧ l.length + 1 ≤ c) ∧ Below base w w' := by
  by_cases hje : j = l.length
  · subst hje
    have := insert_end l v vb base x w h hf (fun t u hu => by
      rw [Addr.add_lit, Nat.zero_add]
      have : w.cell? ⟨vb, t, none⟩ = (#[sv x.p, .bool x.r, sv x.t] : Array Value)[t]? := by simp [World.cell?, hvh]
      rw [this, ← hu]
      simp [fcells]) hbase
    refine this.mono ?_
    rintro e w' ⟨⟨a, c, he, hl, hc⟩, hb⟩
    exact ⟨⟨a, c, he, by rw [List.take_length, List.drop_length]; exact hl, hc⟩, hb⟩
  · obtain ⟨g, cap, rfl, hcap⟩ : ∃ g cap, v = .slice (some ⟨g, 0, none⟩) l.length cap ∧ l.length ≤ cap := by
      rcases h.2 with ⟨_, h0⟩ | ⟨g, cap, cur, h', _, _, hn, _⟩
      · omega
      · exact ⟨g, cap, h', hn⟩
    by_cases hroom : l.length + 1 ≤ cap
    · refine (insert_shift l g cap vb j base x w h hf (by omega) hroom hvh (fun e => hvb (by rw [e]; rfl))).mono ?_
      rintro e w' ⟨⟨he, hl⟩, hb⟩
      exact ⟨⟨_, cap, he, hl, hroom⟩, hb⟩
    · exact insert_grow l g cap vb j base x w h hf (by omega) (by omega) hvh hbase
end Go.Proofs.YtpogcedghbokbaaGreatDoor
