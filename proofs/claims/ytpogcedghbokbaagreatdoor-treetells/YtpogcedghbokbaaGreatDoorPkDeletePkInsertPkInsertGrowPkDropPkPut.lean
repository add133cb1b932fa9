/-
  Own texts of the proof, joined by program: PkDelete, PkInsert, PkInsertGrow, PkDrop, PkPut.
-/
import Derived.Test.YtpogcedghbokbaaGreatDoorPkUnder
import Derived.Shelf.Spec.SlicesInsert
import Derived.Deep.RegionLaw
import Derived.Shelf.RegionOpenPlain
import Derived.Lib.AppendZerosOnto
import Derived.Laws.NewBlocks
import Derived.Lib.Overlaps
import Derived.Laws.Externs
import Derived.Laws.OwnMore
/-
  Package slices' Delete of one file, package tree's Drop: over this seat's translation.
-/
namespace Go.Proofs.YtpogcedghbokbaaGreatDoor
open Go.RowKit Go.Shelf Go.Lib

theorem lies_of_cells {w : World} {g : Nat} {m : List F} (h : ∀ t u, (lcells m)[t]? = some u → w.cell? ⟨g, t, none⟩ = some u) : LiesAt w (some ⟨g, 0, none⟩) m := fun _ => by
  refine ⟨g, 0, rfl, fun k hk => ?_⟩
  have hc : ∀ j, j < 3 → ∀ u, (fcells m[k])[j]? = some u → w.cell? ⟨g, 0 + k * 3 + j, none⟩ = some u := fun j hj u hu => by
    rw [Nat.zero_add]
    refine h _ u ?_
    rw [lcells_at m k hk j hj]
    exact hu
  exact ⟨by simpa using hc 0 (by omega) _ rfl, by simpa using hc 1 (by omega) _ rfl, by simpa using hc 2 (by omega) _ rfl⟩

theorem below_cells {base : Nat} {w0 w : World} (h : Below base w0 w) {g : Nat} (hg : base ≤ g) : ∀ (vs : List Value) (o : Nat), Below base w0 (w.setCells g o vs)
  | [], _ => h
  | v :: r, o => by
    rw [World.setCells]
    exact below_cells (h.setCell (p := ⟨g, o, none⟩) hg v) hg r (o + 1)

/-- A row of the call's own, in its cells. -/
theorem owns_row {w : World} {base g n cap : Nat} {xs : List Value} (h : w.ownsRow base 24 3 (.slice (some ⟨g, 0, none⟩) n cap) n xs) :
    base ≤ g ∧ g < w.heap.size ∧ n ≤ cap ∧ cap ≤ maxLen ∧ (∀ t u, xs[t]? = some u → w.cell? ⟨g, t, none⟩ = some u) ∧ (∀ t, t < cap * 3 → (w.cell? ⟨g, t, none⟩).isSome = true) ∧ ∀ t, w.frozen? ⟨g, t, none⟩ = false := by
  rcases h.2 with ⟨h', _⟩ | ⟨g', cap', cur, h', hb, hg, hn, hc, hs, ht⟩
  · cases h'
  · cases h'
    refine ⟨hb, (Array.getElem?_eq_some_iff.1 hg).1, hn, hc, fun t u hu => ?_, fun t htc => ?_, fun t => by simp [World.frozen?, hg]⟩
    · have htl : t < xs.length := (List.getElem?_eq_some_iff.1 hu).1
      rw [h.1] at htl
      rw [← ht, List.getElem?_take_of_lt htl] at hu
      simpa [World.cell?, hg] using hu
    · have : t < cur.size := by omega
      simp [World.cell?, hg, this]

theorem clear_one (w : World) (ty : TypeId) (g o c : Nat) (hc : ∀ j, j < 3 → (w.cell? ⟨g, o + j, none⟩).isSome = true) (hf : ∀ j, j < 3 → w.frozen? ⟨g, o + j, none⟩ = false) :
    (Builtin.clear_ #[22] ty #[.slice (some ⟨g, o, none⟩) 1 c]).run Tryz.prog w = .ok (.tuple #[]) (w.setCells g o [.string ⟨#[]⟩, .bool false, .string ⟨#[]⟩]) := by
  have hst := run_storeCells_cells (P := Tryz.prog) g o [.string ⟨#[]⟩, .bool false, .string ⟨#[]⟩] 0 w (by simpa using hc) (by simpa using hf) (by simp [Value.oneCell'])
  simp only [Nat.add_zero] at hst
  have hzc : (Builtin.zeroCells (Value.agg #[.string ⟨#[]⟩, .bool false, .string ⟨#[]⟩]).cells 1).toList = [.string ⟨#[]⟩, .bool false, .string ⟨#[]⟩] := by kernel_rfl
  have hv := Tryz.zeroValue24
  simp only [Builtin.clear_]
  simp [run_underlying Tryz.underlying22, hv, hzc, hst]

set_option maxHeartbeats 4000000 in
set_option maxRecDepth 1000000 in
theorem delete_any (l : List F) (g cap j base : Nat) (w : World) (h : w.ownsRow base 24 3 (.slice (some ⟨g, 0, none⟩) l.length cap) l.length (lcells l)) (hj : j < l.length) (hf : l.length ≤ 100000) :
    Calls Tryz.prog 38 #[.slice (some ⟨g, 0, none⟩) l.length cap, .int .i64 j, .int .i64 ((j : Int) + 1)] w fun e w' =>
      (e = .returned (.slice (some ⟨g, 0, none⟩) (l.length - 1) cap) ∧ LiesAt w' (some ⟨g, 0, none⟩) (l.take j ++ l.drop (j + 1))) ∧ Below base w w' := by
  obtain ⟨hb, hgw, hn, hcm, hcell, hsome, hfr⟩ := owns_row h
  obtain ⟨i0, hi, hz0, hz1, hz2⟩ := info_parts Tryz.infoFile
  unfold maxLen at hcm
  obtain ⟨news, hnews⟩ : ∃ news, news = lcells (l.drop (j + 1)) := ⟨_, rfl⟩
  have hlen : news.length = (l.length - (j + 1)) * 3 := by rw [hnews, lcells_length, List.length_drop]
  have hget : ∀ t u, news[t]? = some u → w.cell? ⟨g, (j + 1) * 3 + t, none⟩ = some u := fun t u hu => by
    refine hcell _ u ?_
    have : lcells l = lcells (l.take (j + 1)) ++ lcells (l.drop (j + 1)) := by rw [← lcells_app, List.take_append_drop]
    have hl1 : (lcells (l.take (j + 1))).length = (j + 1) * 3 := by rw [lcells_length, List.length_take]; congr 1; omega
    rw [this, List.getElem?_append_right (by omega), hl1, Nat.add_sub_cancel_left, ← hnews]
    exact hu
  obtain ⟨A, hA, hsrc⟩ : ∃ A : Addr, (if cap = j + 1 then some (⟨g, 0, none⟩ : Addr) else some ⟨g, (j + 1) * 3, none⟩) = some A ∧ Hid (∀ t u, news[t]? = some u → w.drew.cell? (A.add t) = some u) := by
    by_cases hcj : cap = j + 1
    · refine ⟨⟨g, 0, none⟩, by simp [hcj], fun t u hu => ?_⟩
      have h0 : news.length = 0 := by rw [hlen]; omega
      rw [List.length_eq_zero_iff.1 h0] at hu
      simp at hu
    · refine ⟨⟨g, (j + 1) * 3, none⟩, by simp [hcj], fun t u hu => ?_⟩
      rw [Addr.add_lit]
      exact hget t u hu
  have s1 : Hid (news.length = (l.length - (j + 1)) * 3) := hlen
  have s2 : Hid (∀ u ∈ news, u.oneCell' = true) := by rw [hnews]; exact fun u hu => lcells_one _ u hu
  have s3 : Hid (∀ t, t < news.length → (w.drew.cell? ⟨g, 0 + j * 3 + t, none⟩).isSome = true ∧ w.drew.frozen? ⟨g, 0 + j * 3 + t, none⟩ = false) := by
    intro t ht
    exact ⟨hsome _ (by omega), hfr _⟩
  obtain ⟨W1, hW1⟩ : ∃ W1, W1 = w.drew.setCells g (0 + j * 3) news := ⟨_, rfl⟩
  have hsome1 : ∀ t, t < cap * 3 → (W1.cell? ⟨g, t, none⟩).isSome = true := fun t ht => by
    rw [hW1]
    exact isSome_setCells g news (0 + j * 3) w.drew (fun i hi => (s3.out i hi).1) t (hsome t ht)
  have hfr1 : ∀ t, W1.frozen? ⟨g, t, none⟩ = false := fun t => by rw [hW1, World.frozen?_setCells]; exact hfr t
  have hcl : ∀ ty c, (Builtin.clear_ #[22] ty #[.slice (some ⟨g, (j + (l.length - (j + 1))) * 3, none⟩) (l.length - (j + (l.length - (j + 1)))) c]).run Tryz.prog W1 = .ok (.tuple #[]) (W1.setCells g ((j + (l.length - (j + 1))) * 3) [.string ⟨#[]⟩, .bool false, .string ⟨#[]⟩]) :=
    fun ty c => by
    rw [show l.length - (j + (l.length - (j + 1))) = 1 by omega]
    exact clear_one W1 ty g _ c (fun i hi => hsome1 _ (by omega)) (fun i _ => hfr1 _)
  have HRES : Hid (LiesAt (W1.setCells g ((j + (l.length - (j + 1))) * 3) [.string ⟨#[]⟩, .bool false, .string ⟨#[]⟩]) (some ⟨g, 0, none⟩) (l.take j ++ l.drop (j + 1))) := by
    refine lies_of_cells fun t u hu => ?_
    have hl0 : (lcells (l.take j)).length = j * 3 := by rw [lcells_length, List.length_take]; congr 1; omega
    rw [lcells_app] at hu
    have htl := (List.getElem?_eq_some_iff.1 hu).1
    rw [List.length_append, hl0, ← hnews, hlen] at htl
    rw [World.cell?_setCells_out _ _ _ _ _ (fun _ _ => .inl (by show t < _; omega)), hW1]
    by_cases htj : t < j * 3
    · rw [World.cell?_setCells_out _ _ _ _ _ (fun _ _ => .inl (by show t < _; omega))]
      refine hcell t u ?_
      rw [List.getElem?_append_left (by omega)] at hu
      have : lcells l = lcells (l.take j) ++ lcells (l.drop j) := by rw [← lcells_app, List.take_append_drop]
      rw [this, List.getElem?_append_left (by omega)]
      exact hu
    · rw [List.getElem?_append_right (by omega), hl0, ← hnews] at hu
      have hin := World.cell?_setCells_in g news (0 + j * 3) w.drew (fun i hi => (s3.out i hi).1) (t - j * 3) (by omega)
      rw [show 0 + j * 3 + (t - j * 3) = t by omega] at hin
      rw [hin, ← hu, List.getElem?_eq_getElem]
  have HBEL : Hid (Below base w (W1.setCells g ((j + (l.length - (j + 1))) * 3) [.string ⟨#[]⟩, .bool false, .string ⟨#[]⟩])) := by
    refine below_cells ?_ hb _ _
    rw [hW1]
    exact below_cells (Below.refl _ w).drew hb _ _
  have hW : Hid (W1 = w.drew.setCells g (0 + j * 3) news) := hW1
  have hjc : j ≤ cap := by omega
  have hjc1 : j + 1 ≤ cap := by omega
  have h1 : (0 : Int) ≤ (j : Int) := by omega
  have h2 : (0 : Int) ≤ (j : Int) + 1 := by omega
  have h3 : (j : Int) ≤ (j : Int) + 1 := by omega
  have h4 : (j : Int) + 1 ≤ (l.length : Int) := by omega
  have h5 : (l.length : Int) ≤ (cap : Int) := by omega
  have h6 : ((j : Int) + 1).toNat = j + 1 := by omega
  have h7 : ((j : Int) == (j : Int) + 1) = false := by simp; omega
  have mixed : Tryz.prog.follows .mixedOrders = true := by kernel_rfl
  clear hW1 hget hnews hlen hcell hsome hfr hsome1 hfr1 h
  go_enter Tryz.func38, Tryz.ntmps38
  go_wp2_with fail
  go_region_law_o (refine step_append_room rfl (.tmp 22) (.tmp 25) 22 rfl 24 i0 3 Tryz.underlying22 hi hz1 g 0 j cap (by simp [Act.eval, Act.put]) A (l.length - (j + 1)) (cap - (j + 1)) news (by simp [Act.eval, Act.put]) s1.out hsrc.out s2.out (by omega) s3.out ?_; rw [← hW.out])
  go_wp2
  go_ret
  exact ⟨⟨by rw [show j + (l.length - (j + 1)) = l.length - 1 by omega]; rfl, HRES.out⟩, HBEL.out⟩
end Go.Proofs.YtpogcedghbokbaaGreatDoor
/-
  Package slices' Insert of one file: over this seat's translation.
-/
namespace Go.Proofs.YtpogcedghbokbaaGreatDoor
open Go.RowKit Go.Shelf Go.Lib

/-- copy of so many files. -/
theorem copy_files (w : World) (ty : TypeId) (b o dLen dCap : Nat) (a : Addr) (sLen sCap n : Nat) (cs : List Value) (hn : Nat.min sLen dLen = n) (hcs : cs.length = n * 3)
    (hsrc : ∀ j v, cs[j]? = some v → w.cell? (a.add j) = some v) (hc : ∀ j, j < cs.length → (w.cell? ⟨b, o + j, none⟩).isSome = true) (hf : ∀ j, j < cs.length → w.frozen? ⟨b, o + j, none⟩ = false) (h1 : ∀ v ∈ cs, v.oneCell' = true) :
    (Builtin.copy_ #[22, 22] ty #[.slice (some ⟨b, o, none⟩) dLen dCap, .slice (some a) sLen sCap]).run Tryz.prog w = .ok (goInt n) (w.setCells b o cs) := by
  have hl := run_loadCells_list (P := Tryz.prog) w a cs hsrc
  rw [hcs] at hl
  have hst := run_storeCells_cells (P := Tryz.prog) b o cs 0 w (by simpa using hc) (by simpa using hf) h1
  obtain ⟨i0, hi, hz0, hz1, hz2⟩ := info_parts Tryz.infoFile
  simp [Builtin.copy_, run_underlying Tryz.underlying22, Builtin.lenOf, Builtin.firstCells, sizeOf, typeInfo, hi, hz1, hn, hl, hst]

theorem lcells_cut (l : List F) (j : Nat) : lcells l = lcells (l.take j) ++ lcells (l.drop j) := by rw [← lcells_app, List.take_append_drop]
theorem lcells_take_length {l : List F} {j : Nat} (hj : j ≤ l.length) : (lcells (l.take j)).length = j * 3 := by rw [lcells_length, List.length_take]; congr 1; omega

/-- What lies where a file was put between. -/
theorem lies_between {w : World} {g j : Nat} {l : List F} {x : F} (hj : j ≤ l.length) (h0 : ∀ t u, t < j * 3 → (lcells (l.take j))[t]? = some u → w.cell? ⟨g, t, none⟩ = some u)
    (h1 : ∀ t u, (fcells x)[t]? = some u → w.cell? ⟨g, j * 3 + t, none⟩ = some u) (h2 : ∀ t u, (lcells (l.drop j))[t]? = some u → w.cell? ⟨g, (j + 1) * 3 + t, none⟩ = some u) : LiesAt w (some ⟨g, 0, none⟩) (l.take j ++ x :: l.drop j) := by
  refine lies_of_cells fun t u hu => ?_
  have e : lcells (l.take j ++ x :: l.drop j) = lcells (l.take j) ++ (fcells x ++ lcells (l.drop j)) := by rw [lcells_app]; rfl
  rw [e] at hu
  have hl := lcells_take_length hj
  by_cases ht : t < j * 3
  · rw [List.getElem?_append_left (by omega)] at hu
    exact h0 t u ht hu
  · rw [List.getElem?_append_right (by omega), hl] at hu
    by_cases ht3 : t - j * 3 < 3
    · rw [List.getElem?_append_left (by simp [fcells]; omega)] at hu
      have := h1 (t - j * 3) u hu
      rwa [show j * 3 + (t - j * 3) = t by omega] at this
    · have h3 : (fcells x).length = 3 := rfl
      rw [List.getElem?_append_right (by omega), h3] at hu
      have := h2 (t - j * 3 - 3) u hu
      rwa [show (j + 1) * 3 + (t - j * 3 - 3) = t by omega] at this

set_option maxRecDepth 100000 in
set_option maxHeartbeats 4000000 in
/-- At the end. -/
theorem insert_end (l : List F) (v : Value) (vb base : Nat) (x : F) (w : World) (h : w.ownsRow base 24 3 v l.length (lcells l)) (hf : l.length ≤ 100000)
    (hv : ∀ j u, (fcells x)[j]? = some u → w.cell? ((⟨vb, 0, none⟩ : Addr).add j) = some u) (hbase : base ≤ w.heap.size) :
    Calls Tryz.prog 37 #[v, .int .i64 l.length, .slice (some ⟨vb, 0, none⟩) 1 1] w fun e w' =>
      (∃ a c, e = .returned (.slice a (l.length + 1) c) ∧ LiesAt w' a (l ++ [x]) ∧ l.length + 1 ≤ c) ∧ Below base w w' := by
  obtain ⟨i0, hi, hz0, hz1, hz2⟩ := info_parts Tryz.infoFile
  obtain ⟨a, cap, rfl, hlies, _⟩ := owns_lies h
  have hcap : l.length ≤ cap := by
    rcases h.2 with ⟨_, h0⟩ | ⟨g, cap, cur, h', _, _, hn, _⟩
    · omega
    · cases h'; exact hn
  have HOWN : Hid (w.ownsRow base 24 3 (.slice a l.length cap) l.length (lcells l)) := h
  have HV : Hid (∀ j u, (fcells x)[j]? = some u → w.cell? ((⟨vb, 0, none⟩ : Addr).add j) = some u) := hv
  clear h hv hlies
  go_enter Tryz.func37, Tryz.ntmps37
  go_wp2_with (at_builtin; refine wpList_append_own _ rfl _ _ 22 rfl base 24 i0 (.agg #[.string ⟨#[]⟩, .bool false, .string ⟨#[]⟩]) 3 40 Tryz.underlying22 hi hz0 hz1 hz2 rfl (by decide) _ _ _ rfl HOWN.out ⟨vb, 0, none⟩ 1 1 (fcells x) rfl rfl HV.out (by simp [fcells, Value.oneCell']) (by unfold maxLen; omega) (by omega) hbase ?_; intro v' w1 hown' hgrow _)
  all_goals
    have hown2 : w1.ownsRow base 24 3 v' (l ++ [x]).length (lcells (l ++ [x])) := by
      rw [lcells_app, List.length_append]
      simpa [lcells] using hown'
    obtain ⟨a', c', e', hl', _⟩ := owns_lies hown2
    subst e'
    have hc' : (l ++ [x]).length ≤ c' := by
      rcases hown2.2 with ⟨_, h0⟩ | ⟨g, cap', cur, h', _, _, hn, _⟩
      · simp at h0
      · cases h'; exact hn
    have HB : Hid (Below base w w1) := (Below.refl _ _).grown hgrow hbase (fun j ej => (HOWN.out.lt j ej).1)
    go_ret
    refine ⟨⟨a', c', ?_, ?_, by simpa using hc'⟩, HB.out⟩
    · simp
    · exact hl'

set_option maxRecDepth 100000 in
set_option maxHeartbeats 8000000 in
/-- Between others, where there is room. -/
theorem insert_shift (l : List F) (g cap vb j base : Nat) (x : F) (w : World) (h : w.ownsRow base 24 3 (.slice (some ⟨g, 0, none⟩) l.length cap) l.length (lcells l)) (hf : l.length ≤ 100000) (hj : j < l.length) (hroom : l.length + 1 ≤ cap)
    (hvh : w.heap[vb]? = some (.cells #[sv x.p, .bool x.r, sv x.t] 24)) (hvb : vb ≠ g) :
    Calls Tryz.prog 37 #[.slice (some ⟨g, 0, none⟩) l.length cap, .int .i64 j, .slice (some ⟨vb, 0, none⟩) 1 1] w fun e w' =>
      (e = .returned (.slice (some ⟨g, 0, none⟩) (l.length + 1) cap) ∧ LiesAt w' (some ⟨g, 0, none⟩) (l.take j ++ x :: l.drop j)) ∧ Below base w w' := by
  obtain ⟨hb, hgw, hn, hcm, hcell, hsome, hfr⟩ := owns_row h
  have hshape : ∃ kB, w.shape? g = some (24, kB) ∧ kB ≠ 0 := by
    rcases h.2 with ⟨h', _⟩ | ⟨g', cap', cur, h', _, hg, _, _, hs, _⟩
    · cases h'
    · cases h'
      exact ⟨cur.size, by simp [World.shape?, hg], by omega⟩
  obtain ⟨kB, hsb, hkB⟩ := hshape
  have hsa : w.shape? vb = some (24, 3) := by simp [World.shape?, hvh]
  have hfa : ∀ t, w.frozen? ⟨vb, t, none⟩ = false := fun t => by simp [World.frozen?, hvh]
  have hvc : ∀ t u, (fcells x)[t]? = some u → w.cell? ⟨vb, t, none⟩ = some u := fun t u hu => by
    have : w.cell? ⟨vb, t, none⟩ = (#[sv x.p, .bool x.r, sv x.t] : Array Value)[t]? := by simp [World.cell?, hvh]
    rw [this, ← hu]
    simp [fcells]
  unfold maxLen at hcm
  have hov : ∀ lb cb, (callFunc 60 #[.slice (some ⟨vb, 0, none⟩) 1 1, .slice (some ⟨g, (j + 1) * 3, none⟩) lb cb]).run Tryz.prog w = .ok (.value (.bool false)) w := fun lb cb => by
    rw [run_callFunc_extern Tryz.func60 (by kernel_rfl) (by kernel_rfl) (by kernel_rfl) (e := Extern.SlicesOverlaps.overlaps #[22, 22] #[4]) (by kernel_rfl),
      Lib.run_overlaps_apart w 22 4 24 Tryz.underlying22 3 Tryz.sizeOf24 ⟨vb, 0, none⟩ ⟨g, (j + 1) * 3, none⟩ 1 1 lb cb hvb 24 24 3 kB hsa hsb hkB (hfa 0) (hfa 3)]
    rfl
  have hld : (lcells (l.drop j)).length = (l.length - j) * 3 := by rw [lcells_length, List.length_drop]
  have hcd : ∀ t u, (lcells (l.drop j))[t]? = some u → w.cell? ⟨g, j * 3 + t, none⟩ = some u := fun t u hu => by
    refine hcell _ u ?_
    have hl := lcells_take_length (l := l) (j := j) (by omega)
    rw [lcells_cut l j, List.getElem?_append_right (by omega), hl, Nat.add_sub_cancel_left]
    exact hu
  have hcp1 : ∀ ty dc sc, (Builtin.copy_ #[22, 22] ty #[.slice (some ⟨g, (j + 1) * 3, none⟩) (l.length - j) dc, .slice (some ⟨g, j * 3, none⟩) (l.length + 1 - j) sc]).run Tryz.prog w.drew = .ok (goInt ((l.length - j : Nat) : Int)) (w.drew.setCells g ((j + 1) * 3) (lcells (l.drop j))) := fun ty dc sc =>
    copy_files w.drew ty g ((j + 1) * 3) (l.length - j) dc ⟨g, j * 3, none⟩ (l.length + 1 - j) sc (l.length - j) (lcells (l.drop j)) (by simp only [Nat.min_def]; split <;> omega) hld (fun t u hu => by rw [Addr.add_lit]; exact hcd t u hu)
      (fun t ht => hsome _ (by omega)) (fun t _ => hfr _) (fun u hu => lcells_one _ u hu)
  obtain ⟨W1, hW1⟩ : ∃ W1, W1 = w.drew.setCells g ((j + 1) * 3) (lcells (l.drop j)) := ⟨_, rfl⟩
  have hin1 : ∀ t, t < (lcells (l.drop j)).length → (w.drew.cell? ⟨g, (j + 1) * 3 + t, none⟩).isSome = true := fun t ht => hsome _ (by omega)
  have hsome1 : ∀ t, t < cap * 3 → (W1.cell? ⟨g, t, none⟩).isSome = true := fun t ht => by
    rw [hW1]
    exact isSome_setCells g _ _ _ hin1 _ (hsome t ht)
  have hcp2 : ∀ (W : World), (∀ y, W.cell? y = W1.cell? y) → (∀ y, W.frozen? y = W1.frozen? y) → ∀ ty dc, (Builtin.copy_ #[22, 22] ty #[.slice (some ⟨g, j * 3, none⟩) (l.length + 1 - j) dc, .slice (some ⟨vb, 0, none⟩) 1 1]).run Tryz.prog W = .ok (goInt 1) (W.setCells g (j * 3) (fcells x)) := fun W hWc hWf ty dc =>
    copy_files W ty g (j * 3) (l.length + 1 - j) dc ⟨vb, 0, none⟩ 1 1 1 (fcells x) (by simp only [Nat.min_def]; split <;> omega) rfl
      (fun t u hu => by
        rw [Addr.add_lit, hWc, hW1, World.cell?_setCells_out g _ _ _ _ (fun h _ => absurd h hvb), Nat.zero_add]
        exact hvc t u hu)
      (fun t ht => by have : t < 3 := ht; rw [hWc]; exact hsome1 _ (by omega)) (fun t _ => by rw [hWf, hW1, World.frozen?_setCells]; exact hfr _) (by simp [fcells, Value.oneCell'])
  rw [← hW1] at hcp1
  have HRES : Hid (LiesAt (W1.setCells g (j * 3) (fcells x)) (some ⟨g, 0, none⟩) (l.take j ++ x :: l.drop j)) := by
    have hin2 : ∀ t, t < (fcells x).length → (W1.cell? ⟨g, j * 3 + t, none⟩).isSome = true := fun t ht => by have : t < 3 := ht; exact hsome1 _ (by omega)
    refine lies_between (by omega) (fun t u ht hu => ?_) (fun t u hu => ?_) (fun t u hu => ?_)
    · rw [World.cell?_setCells_out _ _ _ _ _ (fun _ _ => .inl (by show t < _; omega)), hW1, World.cell?_setCells_out _ _ _ _ _ (fun _ _ => .inl (by show t < _; omega))]
      refine hcell t u ?_
      have hl := lcells_take_length (l := l) (j := j) (by omega)
      rw [lcells_cut l j, List.getElem?_append_left (by omega)]
      exact hu
    · have ht := (List.getElem?_eq_some_iff.1 hu).1
      rw [World.cell?_setCells_in g _ _ _ hin2 t ht, ← hu, List.getElem?_eq_getElem]
    · have ht := (List.getElem?_eq_some_iff.1 hu).1
      rw [World.cell?_setCells_out _ _ _ _ _ (fun _ _ => .inr (by show _ ≤ (j + 1) * 3 + t; have : (fcells x).length = 3 := rfl; omega)), hW1, World.cell?_setCells_in g _ _ _ hin1 t ht, ← hu, List.getElem?_eq_getElem]
  have HBEL : Hid (Below base w (W1.setCells g (j * 3) (fcells x))) := by
    refine below_cells ?_ hb _ _
    rw [hW1]
    exact below_cells (Below.refl _ w).drew hb _ _
  have h1 : ((j : Int) == (l.length : Int)) = false := by simp; omega
  have h2 : ¬ (cap : Int) < (l.length : Int) + 1 := by omega
  have h3 : (0 : Int) ≤ (j : Int) + 1 := by omega
  have h4 : ((j : Int) + 1).toNat = j + 1 := by omega
  have h5 : (j : Int) ≤ (l.length : Int) := by omega
  have h6 : (l.length : Int) + 1 ≤ (cap : Int) := by omega
  have h7 : ((l.length : Int) + 1).toNat = l.length + 1 := by omega
  have h8 : ¬ (cap = j + 1) := by omega
  have h9 : ¬ (cap = j) := by omega
  have hA : (j : Int) + 1 ≤ (l.length : Int) + 1 := by omega
  have hB : (j : Int) ≤ (l.length : Int) + 1 := by omega
  have hw1 : IntKind.i64.wrap ((j : Int) + 1) = (j : Int) + 1 := by rw [IntKind.wrap_i64]; omega
  have mixed : Tryz.prog.follows .mixedOrders = true := by kernel_rfl
  clear hW1 hcell hsome hfr hsome1 hin1 hcd hvc hfa h hsa hsb hvh
  go_enter Tryz.func37, Tryz.ntmps37
  go_wp2_with (simp only [hov])
  go_region_law_o (refine step_copy_runI rfl _ _ 22 22 rfl _ _ (by simp [Act.eval, Act.put]) (by simp [Act.eval, Act.put]) (hcp1 _ _ _) ?_)
  go_wp2_with (at_builtin; refine wpList_copy_runI _ rfl _ _ 22 22 rfl _ _ rfl rfl (hcp2 _ (fun _ => rfl) (fun _ => rfl) _ _) ?_)
  go_ret
  exact ⟨⟨rfl, HRES.out⟩, HBEL.out⟩
end Go.Proofs.YtpogcedghbokbaaGreatDoor
/-
  Package slices' Insert of one file between others, where there is no room; Insert whole: over this seat's translation.
-/
namespace Go.Proofs.YtpogcedghbokbaaGreatDoor
open Go.RowKit Go.Shelf Go.Lib

set_option maxRecDepth 100000 in
set_option maxHeartbeats 8000000 in
theorem insert_grow (l : List F) (g cap vb j base : Nat) (x : F) (w : World) (h : w.ownsRow base 24 3 (.slice (some ⟨g, 0, none⟩) l.length cap) l.length (lcells l)) (hf : l.length ≤ 100000) (hj : j < l.length) (hroom : cap < l.length + 1)
    (hvh : w.heap[vb]? = some (.cells #[sv x.p, .bool x.r, sv x.t] 24)) (hbase : base ≤ w.heap.size) :
    Calls Tryz.prog 37 #[.slice (some ⟨g, 0, none⟩) l.length cap, .int .i64 j, .slice (some ⟨vb, 0, none⟩) 1 1] w fun e w' =>
      (∃ a c, e = .returned (.slice a (l.length + 1) c) ∧ LiesAt w' a (l.take j ++ x :: l.drop j) ∧ l.length + 1 ≤ c) ∧ Below base w w' := by
  obtain ⟨hb, hgw, hn, hcm, hcell, hsome, hfr⟩ := owns_row h
  have hvw : vb < w.heap.size := (Array.getElem?_eq_some_iff.1 hvh).1
  have hvc : ∀ t u, (fcells x)[t]? = some u → w.cell? ⟨vb, t, none⟩ = some u := fun t u hu => by
    have : w.cell? ⟨vb, t, none⟩ = (#[sv x.p, .bool x.r, sv x.t] : Array Value)[t]? := by simp [World.cell?, hvh]
    rw [this, ← hu]
    simp [fcells]
  unfold maxLen at hcm
  obtain ⟨i0, hi0, hz0, hzs, hzb⟩ := info_parts Tryz.infoFile
  have hkk : (l.length : Int) + 1 - (j : Int) = ((l.length + 1 - j : Nat) : Int) := by omega
  have hik : j + (l.length + 1 - j) = l.length + 1 := by omega
  have hlt := lcells_take_length (l := l) (j := j) (by omega)
  have hct : ∀ t u, (lcells (l.take j))[t]? = some u → w.cell? ⟨g, t, none⟩ = some u := fun t u hu => by
    have ht := (List.getElem?_eq_some_iff.1 hu).1
    refine hcell t u ?_
    rw [lcells_cut l j, List.getElem?_append_left ht]
    exact hu
  have hold : (Builtin.firstCells i0.size j (.slice (some ⟨g, 0, none⟩) j cap)).run Tryz.prog w.drew = .ok (lcells (l.take j)).toArray w.drew := by
    rw [hzs]
    exact run_firstCells_some w.drew 3 j ⟨g, 0, none⟩ j cap (lcells (l.take j)) (by omega) (fun t u hu => by rw [Addr.add_lit, Nat.zero_add]; exact hct t u hu)
  have hrz : ∀ ty, (Builtin.append_ #[22, 3] ty #[.slice (some ⟨g, 0, none⟩) j cap, .int .i64 ((l.length : Int) + 1 - (j : Int))]).run Tryz.prog w =
      .ok (.slice (some ⟨w.heap.size, 0, none⟩) (l.length + 1) (grownCap w (l.length + 1) cap 24)) (w.drew.alloc (.cells ((lcells (l.take j)).toArray ++ Builtin.zeroCells (Value.agg #[.string ⟨#[]⟩, .bool false, .string ⟨#[]⟩]).cells (l.length + 1 - j) ++ Builtin.zeroCells (Value.agg #[.string ⟨#[]⟩, .bool false, .string ⟨#[]⟩]).cells (grownCap w (l.length + 1) cap 24 - (l.length + 1))) 24)) := fun ty => by
    have h := Lib.run_append_grow_zeros w 22 3 ty 24 i0 _ .i64 .i64 Tryz.underlying22 Tryz.underlying3 hi0 hz0 (some ⟨g, 0, none⟩) j cap (lcells (l.take j)) hold (l.length + 1 - j) (by omega) (by omega) (by omega) (by omega) (by rw [hzb]; omega) (by rw [hzb, hik]; exact growslice_fits hroom (by omega))
    rw [hik] at h
    rw [hkk]
    exact h
  obtain ⟨G, hG⟩ : ∃ G, G = grownCap w (l.length + 1) cap 24 := ⟨_, rfl⟩
  obtain ⟨ROW, hROW⟩ : ∃ ROW : Array Value, ROW = (lcells (l.take j)).toArray ++ Builtin.zeroCells (Value.agg #[.string ⟨#[]⟩, .bool false, .string ⟨#[]⟩]).cells (l.length + 1 - j) ++ Builtin.zeroCells (Value.agg #[.string ⟨#[]⟩, .bool false, .string ⟨#[]⟩]).cells (G - (l.length + 1)) := ⟨_, rfl⟩
  rw [← hG] at hrz
  rw [← hROW] at hrz
  have hRl : (l.length + 1) * 3 ≤ ROW.size := by
    rw [hROW]
    simp only [Array.size_append, List.size_toArray, Builtin.zeroCells, Array.size_map, Array.size_range, Value.cells]
    show (l.length + 1) * 3 ≤ (lcells (l.take j)).length + (l.length + 1 - j) * 3 + (G - (l.length + 1)) * 3
    omega
  have hR0 : ∀ t u, (lcells (l.take j))[t]? = some u → ROW[t]? = some u := fun t u hu => by
    have ht := (List.getElem?_eq_some_iff.1 hu).1
    rw [hROW, Array.append_assoc, Array.getElem?_append_left (by simpa using ht)]
    simpa using hu
  obtain ⟨W1, hW1⟩ : ∃ W1, W1 = w.drew.alloc (.cells ROW 24) := ⟨_, rfl⟩
  rw [← hW1] at hrz
  have hNc : ∀ t, W1.cell? ⟨w.heap.size, t, none⟩ = ROW[t]? := fun t => by rw [hW1, World.cell?_alloc_at (w := w.drew) ROW _ w.heap.size t rfl]
  have hN : ∀ t, t < (l.length + 1) * 3 → (W1.cell? ⟨w.heap.size, t, none⟩).isSome = true := fun t ht => by
    rw [hNc, Array.getElem?_eq_getElem (by omega)]; rfl
  have hNf : ∀ t, W1.frozen? ⟨w.heap.size, t, none⟩ = false := fun t => by rw [hW1]; exact World.frozen?_alloc_at (w := w.drew) ROW _ w.heap.size t rfl
  have hOb : ∀ t u, w.cell? ⟨g, t, none⟩ = some u → W1.cell? ⟨g, t, none⟩ = some u := fun t u h => by rw [hW1, World.cell?_alloc_past (w := w.drew) _ g t hgw]; exact h
  have hOv : ∀ t u, w.cell? ⟨vb, t, none⟩ = some u → W1.cell? ⟨vb, t, none⟩ = some u := fun t u h => by rw [hW1, World.cell?_alloc_past (w := w.drew) _ vb t hvw]; exact h
  have hcpA : ∀ (W : World), (∀ y, W.cell? y = W1.cell? y) → (∀ y, W.frozen? y = W1.frozen? y) → ∀ ty dc, (Builtin.copy_ #[22, 22] ty #[.slice (some ⟨w.heap.size, j * 3, none⟩) (l.length + 1 - j) dc, .slice (some ⟨vb, 0, none⟩) 1 1]).run Tryz.prog W = .ok (goInt 1) (W.setCells w.heap.size (j * 3) (fcells x)) := fun W hWc hWf ty dc =>
    copy_files W ty w.heap.size (j * 3) (l.length + 1 - j) dc ⟨vb, 0, none⟩ 1 1 1 (fcells x) (by simp only [Nat.min_def]; split <;> omega) rfl
      (fun t u hu => by rw [Addr.add_lit, hWc, Nat.zero_add]; exact hOv _ u (hvc t u hu))
      (fun t ht => by have : t < 3 := ht; rw [hWc]; exact hN _ (by omega)) (fun t _ => by rw [hWf]; exact hNf _) (by simp [fcells, Value.oneCell'])
  have hGn : l.length + 1 ≤ G := by rw [hG]; exact grownCap_ge w _ _ _
  have hG63 : G ≤ 9223372036854775807 := by
    have := grownCap_le_maxLen w (l.length + 1) cap 24 (by unfold maxLen; omega)
    rw [← hG] at this
    unfold maxLen at this
    omega
  have hGi : ¬ (G = j) := by omega
  have hGim : ¬ (G = j + 1) := by omega
  have hci : ¬ (cap = j) := by omega
  have hbN : g ≠ w.heap.size := by omega
  have hld : (lcells (l.drop j)).length = (l.length - j) * 3 := by rw [lcells_length, List.length_drop]
  have hcd : ∀ t u, (lcells (l.drop j))[t]? = some u → w.cell? ⟨g, j * 3 + t, none⟩ = some u := fun t u hu => by
    refine hcell _ u ?_
    rw [lcells_cut l j, List.getElem?_append_right (by omega), hlt, Nat.add_sub_cancel_left]
    exact hu
  have hin1 : ∀ t, t < (fcells x).length → (W1.cell? ⟨w.heap.size, j * 3 + t, none⟩).isSome = true := fun t ht => by have : t < 3 := ht; exact hN _ (by omega)
  have hsome2 : ∀ t, t < (l.length + 1) * 3 → ((W1.setCells w.heap.size (j * 3) (fcells x)).cell? ⟨w.heap.size, t, none⟩).isSome = true := fun t ht => isSome_setCells _ _ _ _ hin1 _ (hN _ ht)
  have hcpB : ∀ (W : World), (∀ y, W.cell? y = (W1.setCells w.heap.size (j * 3) (fcells x)).cell? y) → (∀ y, W.frozen? y = (W1.setCells w.heap.size (j * 3) (fcells x)).frozen? y) → ∀ ty dc sc, (Builtin.copy_ #[22, 22] ty #[.slice (some ⟨w.heap.size, (j + 1) * 3, none⟩) (l.length - j) dc, .slice (some ⟨g, j * 3, none⟩) (l.length - j) sc]).run Tryz.prog W = .ok (goInt ((l.length - j : Nat) : Int)) (W.setCells w.heap.size ((j + 1) * 3) (lcells (l.drop j))) := fun W hWc hWf ty dc sc =>
    copy_files W ty w.heap.size ((j + 1) * 3) (l.length - j) dc ⟨g, j * 3, none⟩ (l.length - j) sc (l.length - j) (lcells (l.drop j)) (by simp only [Nat.min_def]; split <;> omega) hld
      (fun t u hu => by
        rw [Addr.add_lit, hWc, World.cell?_setCells_out _ _ _ _ _ (fun h _ => absurd h hbN)]
        exact hOb _ u (hcd t u hu))
      (fun t ht => by rw [hWc]; exact hsome2 _ (by omega))
      (fun t _ => by rw [hWf, World.frozen?_setCells]; exact hNf _) (fun u hu => lcells_one _ u hu)
  subst hW1
  have HRES : Hid (∀ W : World, (∀ y, W.cell? y = ((w.drew.alloc (.cells ROW 24)).setCells w.heap.size (j * 3) (fcells x)).cell? y) → LiesAt (W.setCells w.heap.size ((j + 1) * 3) (lcells (l.drop j))) (some ⟨w.heap.size, 0, none⟩) (l.take j ++ x :: l.drop j)) := by
    intro W hW
    have hin2 : ∀ t, t < (lcells (l.drop j)).length → (W.cell? ⟨w.heap.size, (j + 1) * 3 + t, none⟩).isSome = true := fun t ht => by rw [hW]; exact hsome2 _ (by omega)
    refine lies_between (by omega) (fun t u ht hu => ?_) (fun t u hu => ?_) (fun t u hu => ?_)
    · rw [World.cell?_setCells_out _ _ _ _ _ (fun _ _ => .inl (by show t < _; omega)), hW, World.cell?_setCells_out _ _ _ _ _ (fun _ _ => .inl (by show t < _; omega)), hNc]
      exact hR0 t u hu
    · have ht := (List.getElem?_eq_some_iff.1 hu).1
      have ht3 : t < 3 := ht
      rw [World.cell?_setCells_out _ _ _ _ _ (fun _ _ => .inl (by show j * 3 + t < _; omega)), hW, World.cell?_setCells_in _ _ _ _ hin1 t ht, ← hu, List.getElem?_eq_getElem]
    · have ht := (List.getElem?_eq_some_iff.1 hu).1
      rw [World.cell?_setCells_in _ _ _ _ hin2 t ht, ← hu, List.getElem?_eq_getElem]
  have hE1 : ∀ y, ((w.alloc (.cells ROW 24)).drew).cell? y = (w.drew.alloc (.cells ROW 24)).cell? y := fun y => rfl
  have hE2 : ∀ y, ((w.alloc (.cells ROW 24)).drew).frozen? y = (w.drew.alloc (.cells ROW 24)).frozen? y := fun y => rfl
  have hF1 : ∀ y, (((w.alloc (.cells ROW 24)).drew.setCells w.heap.size (j * 3) (fcells x)).drew).cell? y = ((w.drew.alloc (.cells ROW 24)).setCells w.heap.size (j * 3) (fcells x)).cell? y := fun y => rfl
  have hF2 : ∀ y, (((w.alloc (.cells ROW 24)).drew.setCells w.heap.size (j * 3) (fcells x)).drew).frozen? y = ((w.drew.alloc (.cells ROW 24)).setCells w.heap.size (j * 3) (fcells x)).frozen? y := fun y => rfl
  have HBEL : Hid (Below base w ((((w.alloc (.cells ROW 24)).drew.setCells w.heap.size (j * 3) (fcells x)).drew).setCells w.heap.size ((j + 1) * 3) (lcells (l.drop j)))) := by
    refine below_cells ?_ hbase _ _
    exact (below_cells (((Below.refl _ w).alloc hbase _).drew) hbase _ _).drew
  have h1 : ((j : Int) == (l.length : Int)) = false := by simp; omega
  have h2 : (cap : Int) < (l.length : Int) + 1 := by omega
  have h3 : (0 : Int) ≤ (j : Int) + 1 := by omega
  have h4 : ((j : Int) + 1).toNat = j + 1 := by omega
  have h5 : (j : Int) ≤ (l.length : Int) := by omega
  have h6 : (j : Int) ≤ (cap : Int) := by omega
  have hA : (j : Int) + 1 ≤ (l.length : Int) + 1 := by omega
  have hB : (j : Int) ≤ (l.length : Int) + 1 := by omega
  have hw1 : IntKind.i64.wrap ((j : Int) + 1) = (j : Int) + 1 := by rw [IntKind.wrap_i64]; omega
  have mixed : Tryz.prog.follows .mixedOrders = true := by kernel_rfl
  clear hkk hik hold hROW hG hRl hcell hsome hfr hct hcd hvc hN hNc hNf hOb hOv hR0 hin1 hsome2 h hvh
  go_enter Tryz.func37, Tryz.ntmps37
  go_wp2_with (first
    | (at_builtin; refine Lib.wpList_append_run _ rfl _ _ _ _ rfl _ _ rfl rfl _ _ (hrz _) ?_)
    | (at_builtin; refine wpList_copy_runI _ rfl _ _ 22 22 rfl _ _ rfl rfl (hcpA _ hE1 hE2 _ _) ?_))
  go_region_law_o (refine step_copy_runI rfl _ _ 22 22 rfl (.slice (some ⟨w.heap.size, (j + 1) * 3, none⟩) (l.length - j) (G - (j + 1))) (.slice (some ⟨g, j * 3, none⟩) (l.length - j) (cap - j)) (by simp [Act.eval, Act.put]) (by simp [Act.eval, Act.put]) (hcpB _ hF1 hF2 3 (G - (j + 1)) (cap - j)) ?_)
  go_wp2
  go_ret
  exact ⟨⟨_, G, rfl, HRES.out _ (fun _ => rfl), hGn⟩, HBEL.out⟩

/-- Insert of one file. -/
theorem insert_any (l : List F) (v : Value) (vb j base : Nat) (x : F) (w : World) (h : w.ownsRow base 24 3 v l.length (lcells l)) (hf : l.length ≤ 100000) (hj : j ≤ l.length)
    (hvh : w.heap[vb]? = some (.cells #[sv x.p, .bool x.r, sv x.t] 24)) (hvb : v.ownBlock ≠ some vb) (hbase : base ≤ w.heap.size) :
    Calls Tryz.prog 37 #[v, .int .i64 j, .slice (some ⟨vb, 0, none⟩) 1 1] w fun e w' =>
      (∃ a c, e = .returned (.slice a (l.length + 1) c) ∧ LiesAt w' a (l.take j ++ x :: l.drop j) ∧ l.length + 1 ≤ c) ∧ Below base w w' := by
  by_cases hje : j = l.length
  · subst hje
    have := insert_end l v vb base x w h hf (fun t u hu => by
      rw [Addr.add_lit, Nat.zero_add]
      have : w.cell? ⟨vb, t, none⟩ = (#[sv x.p, .bool x.r, sv x.t] : Array Value)[t]? := by simp [World.cell?, hvh]
      rw [this, ← hu]
      simp [fcells]) hbase
    refine this.mono ?_
    rintro e w' ⟨⟨a, c, he, hl, hc⟩, hb⟩
    exact ⟨⟨a, c, he, by rw [List.take_length, List.drop_length]; exact hl, hc⟩, hb⟩
  · obtain ⟨g, cap, rfl, hcap⟩ : ∃ g cap, v = .slice (some ⟨g, 0, none⟩) l.length cap ∧ l.length ≤ cap := by
      rcases h.2 with ⟨_, h0⟩ | ⟨g, cap, cur, h', _, _, hn, _⟩
      · omega
      · exact ⟨g, cap, h', hn⟩
    by_cases hroom : l.length + 1 ≤ cap
    · refine (insert_shift l g cap vb j base x w h hf (by omega) hroom hvh (fun e => hvb (by rw [e]; rfl))).mono ?_
      rintro e w' ⟨⟨he, hl⟩, hb⟩
      exact ⟨⟨_, cap, he, hl, hroom⟩, hb⟩
    · exact insert_grow l g cap vb j base x w h hf (by omega) (by omega) hvh hbase
end Go.Proofs.YtpogcedghbokbaaGreatDoor
/-
  Package tree's Drop: over this seat's translation.
-/
namespace Go.Proofs.YtpogcedghbokbaaGreatDoor
open Go.RowKit Go.Shelf

theorem owns_some {w : World} {base : Nat} {v : Value} {l : List F} (h : w.ownsRow base 24 3 v l.length (lcells l)) (hne : 0 < l.length) : ∃ g cap, v = .slice (some ⟨g, 0, none⟩) l.length cap ∧ l.length ≤ cap := by
  rcases h.2 with ⟨_, h0⟩ | ⟨g, cap, cur, h', _, _, hn, _⟩
  · omega
  · exact ⟨g, cap, h', hn⟩

set_option maxRecDepth 100000 in
set_option maxHeartbeats 4000000 in
theorem dropTree_any (p : Nat → Addr) (l : List F) (a : Option Addr) (ca : Nat) (q : List UInt8) (w : World) (hE : Env p w) (hl : LiesAt w a l) (hca : l.length ≤ ca) (hs : Small l) :
    Calls Tryz.prog 13 #[.slice a l.length ca, .string ⟨q.toArray⟩] w fun e w' => Told p w' e (dropT l q) ∧ Below w.heap.size w w' := by
  have hfew := hs.few
  have HE : Hid (Env p w) := hE
  have HL : Hid (LiesAt w a l) := hl
  have HS : Hid (Small l) := hs
  clear hE hl hs
  by_cases hc : (treeFault l).1 = 0
  · have HF : Hid (treeFault l = (0, -1)) := treeFault_zero hc
    have HR : Hid (Rise l) := tree_rise hc
    go_enter Tryz.func13, Tryz.ntmps13
    go_wp2_with fail
    refine (checkTree_any p l a ca _ HE.out HL.out hca HS.out).mono ?_
    rintro e w0 ⟨⟨v, rfl, hv⟩, hb0⟩
    rw [HF.out] at hv
    have := hv.isNil
    subst this
    have HB0 : Hid (Below w.heap.size w w0) := hb0
    clear hv hb0
    go_wp2_with fail
    refine (find_any l a ca q _ (HL.out.below HB0.out) hfew HR.out).mono ?_
    rintro e w1 ⟨⟨j, rfl, hp⟩, hb1⟩
    have HB1 : Hid (Below w.heap.size w w1) := HB0.out.trans (hb1.mono HB0.out.size)
    have HP : Hid (Place l q j) := hp
    clear hb1 hp
    cases ht : there l q j with
    | false =>
      have HT : Hid (dropT l q = ([], 6, -1)) := drop_absent hc HR.out HP.out ht
      have s5 := (HE.out.below HB1.out).s5
      clear ht hc
      go_wp2_with fail
      go_quiet (fail)
      go_wp2
      go_ret2
      exact ⟨by rw [HT.out]; exact told_none (.inr (.inl ⟨5, rfl, by omega, rfl, rfl⟩)), below_drewN HB1.out _⟩
    | true =>
      have HT : Hid (dropT l q = (l.take j ++ l.drop (j + 1), 0, -1)) := drop_there hc HR.out HP.out ht
      obtain ⟨hj, _⟩ := there_true ht
      clear ht hc
      go_wp2_with fail
      refine (clone_any l a ca _ (HL.out.below HB1.out) hfew).mono ?_
      rintro e w2 ⟨⟨v, rfl, hown⟩, hb2⟩
      obtain ⟨g, cap, rfl, hcap⟩ := owns_some hown (by omega)
      have HOWN : Hid (w2.ownsRow w.heap.size 24 3 (.slice (some ⟨g, 0, none⟩) l.length cap) l.length (lcells l)) := hown.mono HB1.out.size
      have HB2 : Hid (Below w.heap.size w w2) := HB1.out.trans (hb2.mono HB1.out.size)
      clear hown hb2
      go_wp2_with fail
      refine (delete_any l g cap j w.heap.size w2 HOWN.out hj hfew).mono ?_
      rintro e w3 ⟨⟨rfl, hlies⟩, hb3⟩
      have HLI : Hid (LiesAt w3 (some ⟨g, 0, none⟩) (l.take j ++ l.drop (j + 1))) := hlies
      have HLEN : Hid ((l.take j ++ l.drop (j + 1)).length = l.length - 1) := by
        show _ = _
        rw [List.length_append, List.length_take, List.length_drop]; omega
      clear hlies
      go_wp2
      go_ret2
      refine ⟨?_, HB2.out.trans hb3⟩
      rw [HT.out]
      refine ⟨some ⟨g, 0, none⟩, cap, _, ?_, HLI.out, ?_, ErrAt.fine p w3⟩
      · show _ = Ending.returned (.tuple #[.slice (some ⟨g, 0, none⟩) (l.take j ++ l.drop (j + 1)).length cap, _])
        rw [HLEN.out]; rfl
      · show (l.take j ++ l.drop (j + 1)).length ≤ cap
        rw [HLEN.out]; omega
  · have HT : Hid (dropT l q = ([], treeFault l)) := by show dropT l q = _; simp [dropT, hc]
    have HC : Hid ((treeFault l).1 ≠ 0) := hc
    clear hc
    go_enter Tryz.func13, Tryz.ntmps13
    go_wp2_with fail
    refine (checkTree_any p l a ca _ HE.out HL.out hca HS.out).mono ?_
    rintro e w1 ⟨⟨v, rfl, hv⟩, hb1⟩
    obtain ⟨T, u, rfl⟩ := hv.some HC.out
    have HV : Hid (ErrAt p w1 (.iface T u) (treeFault l).1 (treeFault l).2) := hv
    clear hv
    go_wp2
    go_ret2
    exact ⟨by rw [HT.out]; exact told_none HV.out, hb1⟩
end Go.Proofs.YtpogcedghbokbaaGreatDoor
/-
  Package tree's Put: over this seat's translation.
-/
namespace Go.Proofs.YtpogcedghbokbaaGreatDoor
open Go.RowKit Go.Shelf

theorem put_cells {l : List F} {j : Nat} (hj : j < l.length) (x : F) : (((lcells l).set (j * 3) (sv x.p)).set (j * 3 + 1) (.bool x.r)).set (j * 3 + 2) (sv x.t) = lcells (l.take j ++ x :: l.drop (j + 1)) := by
  have hl := lcells_take_length (l := l) (j := j) (by omega)
  have e : lcells l = lcells (l.take j) ++ (fcells l[j] ++ lcells (l.drop (j + 1))) := by
    have : l = l.take j ++ l[j] :: l.drop (j + 1) := by rw [← List.drop_eq_getElem_cons hj, List.take_append_drop]
    conv => lhs; rw [this]
    rw [lcells_app]
    rfl
  rw [e, List.set_append_right _ _ (by omega), List.set_append_right _ _ (by omega), List.set_append_right _ _ (by omega), hl, lcells_app]
  rw [show j * 3 - j * 3 = 0 by omega, show j * 3 + 1 - j * 3 = 1 by omega, show j * 3 + 2 - j * 3 = 2 by omega]
  rfl

theorem behind_cons (q : List UInt8) (g : F) (r : List F) : behind q (g :: r) = if g.p = q then r else g :: r := rfl

theorem with_small {l : List F} {x : F} (h : Small l) (hn : l.length ≤ 90000) (hp : x.p.length ≤ 40000) (ht : x.t.length ≤ 500000) : Small (withF l x) := by
  have hm : ∀ f ∈ withF l x, f = x ∨ f ∈ l := fun f hf => by
    unfold withF at hf
    rcases List.mem_append.1 hf with hf | hf
    · exact .inr ((List.takeWhile_sublist _).subset hf)
    · rcases List.mem_cons.1 hf with hf | hf
      · exact .inl hf
      · right
        have hb : ∀ r : List F, f ∈ behind x.p r → f ∈ r := fun r hr => by
          cases r with
          | nil => exact hr
          | cons g r =>
            rw [behind_cons] at hr
            split at hr
            · exact List.mem_cons_of_mem _ hr
            · exact hr
        exact (List.dropWhile_sublist _).subset (hb _ hf)
  refine ⟨?_, fun f hf => ?_, fun f hf => ?_⟩
  · have h1 := (List.takeWhile_sublist (fun f : F => less f.p x.p) (l := l)).length_le
    have h2 : (behind x.p (l.dropWhile fun f => less f.p x.p)).length ≤ (l.dropWhile fun f => less f.p x.p).length := by
      cases l.dropWhile fun f => less f.p x.p with
      | nil => simp [behind]
      | cons g r => rw [behind_cons]; split <;> simp
    have h3 := (List.dropWhile_sublist (fun f : F => less f.p x.p) (l := l)).length_le
    have h4 : (l.takeWhile fun f => less f.p x.p).length + (l.dropWhile fun f => less f.p x.p).length = l.length := by rw [← List.length_append, List.takeWhile_append_dropWhile]
    unfold withF
    rw [List.length_append, List.length_cons]
    omega
  · rcases hm f hf with rfl | hf
    · exact hp
    · exact h.path f hf
  · rcases hm f hf with rfl | hf
    · exact ht
    · exact h.text f hf

set_option maxRecDepth 100000 in
set_option maxHeartbeats 8000000 in
theorem putTree_any (p : Nat → Addr) (l : List F) (a : Option Addr) (ca : Nat) (x : F) (w : World) (hE : Env p w) (hl : LiesAt w a l) (hca : l.length ≤ ca) (hs : Small l) (hxp : x.p.length ≤ 40000) (hxt : x.t.length ≤ 500000) :
    Calls Tryz.prog 12 #[.slice a l.length ca, fv x] w fun e w' => Told p w' e (putT l x) ∧ Below w.heap.size w w' := by
  have hfew := hs.few
  have HE : Hid (Env p w) := hE
  have HL : Hid (LiesAt w a l) := hl
  have HS : Hid (Small l) := hs
  have hBx : Below w.heap.size w (w.alloc (.cells #[sv x.p, .bool x.r, sv x.t] 24)) := (Below.refl _ _).alloc (Nat.le_refl _) _
  have HE0 : Hid (Env p (w.alloc (.cells #[sv x.p, .bool x.r, sv x.t] 24))) := hE.below hBx
  have HL0 : Hid (LiesAt (w.alloc (.cells #[sv x.p, .bool x.r, sv x.t] 24)) a l) := hl.below hBx
  clear hE hl hs hBx
  by_cases hc : (treeFault l).1 = 0
  · have HF : Hid (treeFault l = (0, -1)) := treeFault_zero hc
    have HR : Hid (Rise l) := tree_rise hc
    have hl30 : l.length ≤ 30 := (tree_good.1 hc).2.1
    have HPUT : Hid (putT l x = if (treeFault (withF l x)).1 ≠ 0 then ([], (treeFault (withF l x)).1, -1) else (withF l x, 0, -1)) := by
      show putT l x = _
      unfold putT
      rw [if_neg (by simp [hc])]
    have HSW : Hid (Small (withF l x)) := with_small HS.out (by omega) hxp hxt
    clear hc
    go_enter Tryz.func12, Tryz.ntmps12
    go_wp2_with fail
    refine (checkTree_any p l a ca _ HE0.out HL0.out hca HS.out).mono ?_
    rintro e w0 ⟨⟨v, rfl, hv⟩, hb0⟩
    rw [HF.out] at hv
    have := hv.isNil
    subst this
    have HX0 : Hid (Below (w.heap.size + 1) (w.alloc (.cells #[sv x.p, .bool x.r, sv x.t] 24)) w0) := hb0.mono (by simp)
    have HB0 : Hid (Below w.heap.size w w0) := (box_three HX0.out).2.2.2
    clear hv hb0
    go_wp2_with fail
    refine (clone_any l a ca _ (HL.out.below HB0.out) hfew).mono ?_
    rintro e w1 ⟨⟨v, rfl, hown⟩, hb1⟩
    have hs01 : w.heap.size + 1 ≤ w0.heap.size := by have := HX0.out.size; simpa using this
    have HOWN : Hid (w1.ownsRow (w.heap.size + 1) 24 3 v l.length (lcells l)) := hown.mono hs01
    have HX1 : Hid (Below (w.heap.size + 1) (w.alloc (.cells #[sv x.p, .bool x.r, sv x.t] 24)) w1) := HX0.out.trans (hb1.mono hs01)
    obtain ⟨g0, g1, g2, hB1⟩ := box_three HX1.out
    have HB1 : Hid (Below w.heap.size w w1) := hB1
    clear hown hb1 hs01 hB1
    go_wp2_with fail
    refine (find_any l a ca x.p _ (HL.out.below HB1.out) hfew HR.out).mono ?_
    rintro e w2 ⟨⟨j, rfl, hp⟩, hb2⟩
    have HP : Hid (Place l x.p j) := hp
    have hs12 : w.heap.size + 1 ≤ w1.heap.size := by have := HX1.out.size; simpa using this
    have HX2 : Hid (Below (w.heap.size + 1) (w.alloc (.cells #[sv x.p, .bool x.r, sv x.t] 24)) w2) := HX1.out.trans (hb2.mono hs12)
    have HOWN2 : Hid (w2.ownsRow (w.heap.size + 1) 24 3 v l.length (lcells l)) := owns_below HOWN.out hb2
    obtain ⟨k0, k1, k2, hB2⟩ := box_three HX2.out
    have HB2 : Hid (Below w.heap.size w w2) := hB2
    have hs2 : w.heap.size + 1 ≤ w2.heap.size := by have := HX2.out.size; simpa using this
    clear hb2 hp g0 g1 g2 HX0 HX1 HOWN hs12 hB2
    -- what comes behind the file's place
    cases ht : there l x.p j with
    | true =>
      obtain ⟨hj, _⟩ := there_true ht
      have HW : Hid (withF l x = l.take j ++ x :: l.drop (j + 1)) := with_there HP.out ht
      have HLEN : Hid ((l.take j ++ x :: l.drop (j + 1)).length = l.length) := by
        show _ = _
        rw [List.length_append, List.length_cons, List.length_take, List.length_drop]; omega
      obtain ⟨g, cap, rfl, hcap⟩ := owns_some HOWN2.out (by omega)
      have hrow := HOWN2.out
      have hgw := hrow.lt g rfl
      have m0 : w2.cell? ⟨g, j * 3, none⟩ = some (sv l[j].p) := by
        rw [hrow.cellAt (j * 3) (by omega)]
        have := lcells_at l j hj 0 (by decide)
        rw [Nat.add_zero] at this
        exact this
      have m1 : w2.cell? ⟨g, j * 3 + 1, none⟩ = some (.bool l[j].r) := by
        rw [hrow.cellAt (j * 3 + 1) (by omega)]
        exact lcells_at l j hj 1 (by decide)
      have m2 : w2.cell? ⟨g, j * 3 + 2, none⟩ = some (sv l[j].t) := by
        rw [hrow.cellAt (j * 3 + 2) (by omega)]
        exact lcells_at l j hj 2 (by decide)
      have f0 := hrow.frozenAt (j * 3)
      have f1 := hrow.frozenAt (j * 3 + 1)
      have f2 := hrow.frozenAt (j * 3 + 2)
      have hr3 := (((hrow.stored (j * 3) (sv x.p)).1.stored (j * 3 + 1) (.bool x.r)).1.stored (j * 3 + 2) (sv x.t)).1
      rw [put_cells hj x, ← HLEN.out] at hr3
      obtain ⟨a3, c3, e3, hlies3, _⟩ := owns_lies hr3
      rw [HLEN.out] at e3
      cases e3
      have HLI : Hid (LiesAt (((w2.setCell ⟨g, j * 3, none⟩ (sv x.p)).setCell ⟨g, j * 3 + 1, none⟩ (.bool x.r)).setCell ⟨g, j * 3 + 2, none⟩ (sv x.t)) (some ⟨g, 0, none⟩) (withF l x)) := by
        show LiesAt _ _ _
        rw [HW.out]; exact hlies3
      have HB3 : Hid (Below w.heap.size w (((w2.setCell ⟨g, j * 3, none⟩ (sv x.p)).setCell ⟨g, j * 3 + 1, none⟩ (.bool x.r)).setCell ⟨g, j * 3 + 2, none⟩ (sv x.t))) :=
        ((HB2.out.setCell (p := ⟨g, j * 3, none⟩) (by show _ ≤ g; omega) _).setCell (p := ⟨g, j * 3 + 1, none⟩) (by show _ ≤ g; omega) _).setCell (p := ⟨g, j * 3 + 2, none⟩) (by show _ ≤ g; omega) _
      have HLW : Hid (l.length = (withF l x).length) := by show _ = _; rw [HW.out, HLEN.out]
      have hj' : (j : Int) < (l.length : Int) := by omega
      clear ht hr3 hlies3 hrow HOWN2 HX2 hgw
      generalize l[j] = y at m0 m1 m2
      go_wp2_with fail
      rw [HLW.out] at hcap ⊢
      obtain ⟨W, hW⟩ : ∃ W, W = ((w2.setCell ⟨g, j * 3, none⟩ (sv x.p)).setCell ⟨g, j * 3 + 1, none⟩ (.bool x.r)).setCell ⟨g, j * 3 + 2, none⟩ (sv x.t) := ⟨_, rfl⟩
      rw [← hW] at HLI HB3 ⊢
      refine (checkTree_any p (withF l x) (some ⟨g, 0, none⟩) cap W (HE.out.below HB3.out) HLI.out hcap HSW.out).mono ?_
      clear hW m0 m1 m2 f0 f1 f2 k0 k1 k2
      rintro e w4 ⟨⟨v, rfl, hv⟩, hb4⟩
      have HB4 : Hid (Below w.heap.size w w4) := HB3.out.trans (hb4.mono HB3.out.size)
      have HLI4 : Hid (LiesAt w4 (some ⟨g, 0, none⟩) (withF l x)) := HLI.out.below hb4
      by_cases hcw : (treeFault (withF l x)).1 = 0
      · have HT : Hid (putT l x = (withF l x, 0, -1)) := by show putT l x = _; rw [HPUT.out, if_neg (by simp [hcw])]
        rw [hcw] at hv
        have := hv.isNil
        subst this
        clear hv hcw hb4
        go_wp2
        go_ret2
        exact ⟨by rw [HT.out]; exact ⟨_, cap, _, rfl, HLI4.out, hcap, ErrAt.fine p w4⟩, HB4.out⟩
      · have HT : Hid (putT l x = ([], (treeFault (withF l x)).1, -1)) := by show putT l x = _; rw [HPUT.out, if_pos hcw]
        obtain ⟨T, u, rfl⟩ := hv.some hcw
        have HV : Hid (ErrAt p w4 (.iface T u) (treeFault (withF l x)).1 (treeFault (withF l x)).2) := hv
        clear hv hcw hb4
        go_wp2_with fail
        refine (bare_of HV.out (HE.out.below HB4.out)).mono ?_
        rintro e w5 ⟨rfl, hb5⟩
        have HB5 : Hid (Below w4.heap.size w4 w5) := hb5
        clear hb5
        go_wp2
        go_ret2
        exact ⟨by rw [HT.out]; exact told_none (ErrAt.bare (treeFault_le _)), HB4.out.trans (HB5.out.mono HB4.out.size)⟩
    | false =>
      have HW : Hid (withF l x = l.take j ++ x :: l.drop j) := with_absent HP.out ht
      have HLEN : Hid (l.length + 1 = (withF l x).length) := by
        show _ = _
        have := HP.out.le
        rw [HW.out, List.length_append, List.length_cons, List.length_take, List.length_drop]; omega
      have hbx : Below w2.heap.size w2 (w2.alloc (.cells #[sv x.p, .bool x.r, sv x.t] 24)) := (Below.refl _ _).alloc (Nat.le_refl _) _
      have HINS : Hid (Calls Tryz.prog 37 #[v, .int .i64 j, .slice (some ⟨w2.heap.size, 0, none⟩) 1 1] (w2.alloc (.cells #[sv x.p, .bool x.r, sv x.t] 24)) fun e w' => (∃ a c, e = .returned (.slice a (l.length + 1) c) ∧ LiesAt w' a (l.take j ++ x :: l.drop j) ∧ l.length + 1 ≤ c) ∧ Below (w.heap.size + 1) (w2.alloc (.cells #[sv x.p, .bool x.r, sv x.t] 24)) w') :=
        insert_any l v w2.heap.size j (w.heap.size + 1) x _ (HOWN2.out.alloc _) hfew HP.out.le (heap_new _ _) (fun e => by have := (HOWN2.out.lt _ e).2; omega) (by simp; omega)
      clear ht hbx
      go_wp2_with fail
      refine HINS.out.mono ?_
      rintro e w3 ⟨⟨a3, c3, rfl, hlies, hc3⟩, hb3⟩
      rw [← HW.out] at hlies
      rw [HLEN.out] at hc3 ⊢
      have HLI : Hid (LiesAt w3 a3 (withF l x)) := hlies
      have HB3 : Hid (Below w.heap.size w w3) := (HB2.out.alloc (by omega) _).trans (hb3.mono (by omega))
      clear hlies hb3 HINS k0 k1 k2
      go_wp2_with fail
      refine (checkTree_any p (withF l x) a3 c3 _ (HE.out.below HB3.out) HLI.out hc3 HSW.out).mono ?_
      rintro e w4 ⟨⟨v, rfl, hv⟩, hb4⟩
      have HB4 : Hid (Below w.heap.size w w4) := HB3.out.trans (hb4.mono HB3.out.size)
      have HLI4 : Hid (LiesAt w4 a3 (withF l x)) := HLI.out.below hb4
      by_cases hcw : (treeFault (withF l x)).1 = 0
      · have HT : Hid (putT l x = (withF l x, 0, -1)) := by show putT l x = _; rw [HPUT.out, if_neg (by simp [hcw])]
        rw [hcw] at hv
        have := hv.isNil
        subst this
        clear hv hcw hb4
        go_wp2
        go_ret2
        exact ⟨by rw [HT.out]; exact ⟨_, c3, _, rfl, HLI4.out, hc3, ErrAt.fine p w4⟩, HB4.out⟩
      · have HT : Hid (putT l x = ([], (treeFault (withF l x)).1, -1)) := by show putT l x = _; rw [HPUT.out, if_pos hcw]
        obtain ⟨T, u, rfl⟩ := hv.some hcw
        have HV : Hid (ErrAt p w4 (.iface T u) (treeFault (withF l x)).1 (treeFault (withF l x)).2) := hv
        clear hv hcw hb4
        go_wp2_with fail
        refine (bare_of HV.out (HE.out.below HB4.out)).mono ?_
        rintro e w5 ⟨rfl, hb5⟩
        have HB5 : Hid (Below w4.heap.size w4 w5) := hb5
        clear hb5
        go_wp2
        go_ret2
        exact ⟨by rw [HT.out]; exact told_none (ErrAt.bare (treeFault_le _)), HB4.out.trans (HB5.out.mono HB4.out.size)⟩
  · have HT : Hid (putT l x = ([], treeFault l)) := by show putT l x = _; simp [putT, hc]
    have HC : Hid ((treeFault l).1 ≠ 0) := hc
    clear hc
    go_enter Tryz.func12, Tryz.ntmps12
    go_wp2_with fail
    refine (checkTree_any p l a ca _ HE0.out HL0.out hca HS.out).mono ?_
    rintro e w1 ⟨⟨v, rfl, hv⟩, hb1⟩
    obtain ⟨T, u, rfl⟩ := hv.some HC.out
    have HV : Hid (ErrAt p w1 (.iface T u) (treeFault l).1 (treeFault l).2) := hv
    clear hv
    go_wp2
    go_ret2
    exact ⟨by rw [HT.out]; exact told_none HV.out, ((Below.refl _ w).alloc (Nat.le_refl _) _).trans (hb1.mono (by simp))⟩
end Go.Proofs.YtpogcedghbokbaaGreatDoor
