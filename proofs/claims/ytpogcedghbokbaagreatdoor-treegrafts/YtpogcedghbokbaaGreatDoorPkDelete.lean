/-
  Package slices' Delete of one file, package tree's Drop: over this seat's translation.
-/
import Derived.Test.YtpogcedghbokbaaGreatDoorPkUnder
import Derived.Shelf.Spec.SlicesInsert
import Derived.Deep.RegionLaw
import Derived.Shelf.RegionOpenPlain
namespace Go.Proofs.YtpogcedghbokbaaGreatDoor
open Go.RowKit Go.Shelf Go.Lib

theorem lies_of_cells {w : World} {g : Nat} {m : List F} (h : ∀ t u, (lcells m)[t]? = some u → w.cell? ⟨g, t, none⟩ = some u) : LiesAt w (some ⟨g, 0, none⟩) m := fun _ => by
  refine ⟨g, 0, rfl, fun k hk => ?_⟩
  have hc : ∀ j, j < 3 → ∀ u, (fcells m[k])[j]? = some u → w.cell? ⟨g, 0 + k * 3 + j, none⟩ = some u := fun j hj u hu => by
    rw [Nat.zero_add]
    refine h _ u ?_
    rw [lcells_at m k hk j hj]
    exact hu
  exact ⟨by simpa using hc 0 (by omega) _ rfl, by simpa using hc 1 (by omega) _ rfl, by simpa using hc 2 (by omega) _ rfl⟩

theorem below_cells {base : Nat} {w0 w : World} (h : Below base w0 w) {g : Nat} (hg : base ≤ g) : ∀ (vs : List Value) (o : Nat), Below base w0 (w.setCells g o vs)
  | [], _ => h
  | v :: r, o => by
    rw [World.setCells]
    exact below_cells (h.setCell (p := ⟨g, o, none⟩) hg v) hg r (o + 1)

/-- A row of the call's own, in its cells. -/
theorem owns_row {w : World} {base g n cap : Nat} {xs : List Value} (h : w.ownsRow base 24 3 (.slice (some ⟨g, 0, none⟩) n cap) n xs) :
    base ≤ g ∧ g < w.heap.size ∧ n ≤ cap ∧ cap ≤ maxLen ∧ (∀ t u, xs[t]? = some u → w.cell? ⟨g, t, none⟩ = some u) ∧ (∀ t, t < cap * 3 → (w.cell? ⟨g, t, none⟩).isSome = true) ∧ ∀ t, w.frozen? ⟨g, t, none⟩ = false := by
  rcases h.2 with ⟨h', _⟩ | ⟨g', cap', cur, h', hb, hg, hn, hc, hs, ht⟩
  · cases h'
  · cases h'
    refine ⟨hb, (Array.getElem?_eq_some_iff.1 hg).1, hn, hc, fun t u hu => ?_, fun t htc => ?_, fun t => by simp [World.frozen?, hg]⟩
    · have htl : t < xs.length := (List.getElem?_eq_some_iff.1 hu).1
      rw [h.1] at htl
      rw [← ht, List.getElem?_take_of_lt htl] at hu
      simpa [World.cell?, hg] using hu
    · have : t < cur.size := by omega
      simp [World.cell?, hg, this]

theorem clear_one (w : World) (ty : TypeId) (g o c : Nat) (hc : ∀ j, j < 3 → (w.cell? ⟨g, o + j, none⟩).isSome = true) (hf : ∀ j, j < 3 → w.frozen? ⟨g, o + j, none⟩ = false) :
    (Builtin.clear_ #[22] ty #[.slice (some ⟨g, o, none⟩) 1 c]).run Tryz.prog w = .ok (.tuple #[]) (w.setCells g o [.string ⟨#[]⟩, .bool false, .string ⟨#[]⟩]) := by
  have hst := run_storeCells_cells (P := Tryz.prog) g o [.string ⟨#[]⟩, .bool false, .string ⟨#[]⟩] 0 w (by simpa using hc) (by simpa using hf) (by simp [Value.oneCell'])
  simp only [Nat.add_zero] at hst
  have hzc : (Builtin.zeroCells (Value.agg #[.string ⟨#[]⟩, .bool false, .string ⟨#[]⟩]).cells 1).toList = [.string ⟨#[]⟩, .bool false, .string ⟨#[]⟩] := by kernel_rfl
  have hv := Tryz.zeroValue24
  simp only [Builtin.clear_]
  simp [run_underlying Tryz.underlying22, hv, hzc, hst]

set_option maxHeartbeats 4000000 in
set_option maxRecDepth 1000000 in
theorem delete_any (l : List F) (g cap j base : Nat) (w : World) (h : w.ownsRow base 24 3 (.slice (some ⟨g, 0, none⟩) l.length cap) l.length (lcells l)) (hj : j < l.length) (hf : l.length ≤ 100000) :
    Calls Tryz.prog 38 #[.slice (some ⟨g, 0, none⟩) l.length cap, .int .i64 j, .int .i64 ((j : Int) + 1)] w fun e w' =>
      (e = .returned (.slice (some ⟨g, 0, none⟩) (l.length - 1) cap) ∧ LiesAt w' (some ⟨g, 0, none⟩) (l.take j ++ l.drop (j + 1))) ∧ Below base w w' := by
  obtain ⟨hb, hgw, hn, hcm, hcell, hsome, hfr⟩ := owns_row h
  obtain ⟨i0, hi, hz0, hz1, hz2⟩ := info_parts Tryz.infoFile
  unfold maxLen at hcm
  obtain ⟨news, hnews⟩ : ∃ news, news = lcells (l.drop (j + 1)) := ⟨_, rfl⟩
  have hlen : news.length = (l.length - (j + 1)) * 3 := by rw [hnews, lcells_length, List.length_drop]
  have hget : ∀ t u, news[t]? = some u → w.cell? ⟨g, (j + 1) * 3 + t, none⟩ = some u := fun t u hu => by
    refine hcell _ u ?_
    have : lcells l = lcells (l.take (j + 1)) ++ lcells (l.drop (j + 1)) := by rw [← lcells_app, List.take_append_drop]
    have hl1 : (lcells (l.take (j + 1))).length = (j + 1) * 3 := by rw [lcells_length, List.length_take]; congr 1; omega
    rw [this, List.getElem?_append_right (by omega), hl1, Nat.add_sub_cancel_left, ← hnews]
    exact hu
  obtain ⟨A, hA, hsrc⟩ : ∃ A : Addr, (if cap = j + 1 then some (⟨g, 0, none⟩ : Addr) else some ⟨g, (j + 1) * 3, none⟩) = some A ∧ Hid (∀ t u, news[t]? = some u → w.drew.cell? (A.add t) = some u) := by
    by_cases hcj : cap = j + 1
    · refine ⟨⟨g, 0, none⟩, by simp [hcj], fun t u hu => ?_⟩
      have h0 : news.length = 0 := by rw [hlen]; omega
      rw [List.length_eq_zero_iff.1 h0] at hu
      simp at hu
    · refine ⟨⟨g, (j + 1) * 3, none⟩, by simp [hcj], fun t u hu => ?_⟩
      rw [Addr.add_lit]
      exact hget t u hu
  have s1 : Hid (news.length = (l.length - (j + 1)) * 3) := hlen
  have s2 : Hid (∀ u ∈ news, u.oneCell' = true) := by rw [hnews]; exact fun u hu => lcells_one _ u hu
  have s3 : Hid (∀ t, t < news.length → (w.drew.cell? ⟨g, 0 + j * 3 + t, none⟩).isSome = true ∧ w.drew.frozen? ⟨g, 0 + j * 3 + t, none⟩ = false) := by
    intro t ht
    exact ⟨hsome _ (by omega), hfr _⟩
  obtain ⟨W1, hW1⟩ : ∃ W1, W1 = w.drew.setCells g (0 + j * 3) news := ⟨_, rfl⟩
  have hsome1 : ∀ t, t < cap * 3 → (W1.cell? ⟨g, t, none⟩).isSome = true := fun t ht => by
    rw [hW1]
    exact isSome_setCells g news (0 + j * 3) w.drew (fun i hi => (s3.out i hi).1) t (hsome t ht)
  have hfr1 : ∀ t, W1.frozen? ⟨g, t, none⟩ = false := fun t => by rw [hW1, World.frozen?_setCells]; exact hfr t
  have hcl : ∀ ty c, (Builtin.clear_ #[22] ty #[.slice (some ⟨g, (j + (l.length - (j + 1))) * 3, none⟩) (l.length - (j + (l.length - (j + 1)))) c]).run Tryz.prog W1 = .ok (.tuple #[]) (W1.setCells g ((j + (l.length - (j + 1))) * 3) [.string ⟨#[]⟩, .bool false, .string ⟨#[]⟩]) :=
    fun ty c => by
    rw [show l.length - (j + (l.length - (j + 1))) = 1 by omega]
    exact clear_one W1 ty g _ c (fun i hi => hsome1 _ (by omega)) (fun i _ => hfr1 _)
  have HRES : Hid (LiesAt (W1.setCells g ((j + (l.length - (j + 1))) * 3) [.string ⟨#[]⟩, .bool false, .string ⟨#[]⟩]) (some ⟨g, 0, none⟩) (l.take j ++ l.drop (j + 1))) := by
    refine lies_of_cells fun t u hu => ?_
    have hl0 : (lcells (l.take j)).length = j * 3 := by rw [lcells_length, List.length_take]; congr 1; omega
    rw [lcells_app] at hu
    have htl := (List.getElem?_eq_some_iff.1 hu).1
    rw [List.length_append, hl0, ← hnews, hlen] at htl
    rw [World.cell?_setCells_out _ _ _ _ _ (fun _ _ => .inl (by show t < _; omega)), hW1]
    by_cases htj : t < j * 3
    · rw [World.cell?_setCells_out _ _ _ _ _ (fun _ _ => .inl (by show t < _; omega))]
      refine hcell t u ?_
      rw [List.getElem?_append_left (by omega)] at hu
      have : lcells l = lcells (l.take j) ++ lcells (l.drop j) := by rw [← lcells_app, List.take_append_drop]
      rw [this, List.getElem?_append_left (by omega)]
      exact hu
    · rw [List.getElem?_append_right (by omega), hl0, ← hnews] at hu
      have hin := World.cell?_setCells_in g news (0 + j * 3) w.drew (fun i hi => (s3.out i hi).1) (t - j * 3) (by omega)
      rw [show 0 + j * 3 + (t - j * 3) = t by omega] at hin
      rw [hin, ← hu, List.getElem?_eq_getElem]
  have HBEL : Hid (Below base w (W1.setCells g ((j + (l.length - (j + 1))) * 3) [.string ⟨#[]⟩, .bool false, .string ⟨#[]⟩])) := by
    refine below_cells ?_ hb _ _
    rw [hW1]
    exact below_cells (Below.refl _ w).drew hb _ _
  have hW : Hid (W1 = w.drew.setCells g (0 + j * 3) news) := hW1
  have hjc : j ≤ cap := by omega
  have hjc1 : j + 1 ≤ cap := by omega
  have h1 : (0 : Int) ≤ (j : Int) := by omega
  have h2 : (0 : Int) ≤ (j : Int) + 1 := by omega
  have h3 : (j : Int) ≤ (j : Int) + 1 := by omega
  have h4 : (j : Int) + 1 ≤ (l.length : Int) := by omega
  have h5 : (l.length : Int) ≤ (cap : Int) := by omega
  have h6 : ((j : Int) + 1).toNat = j + 1 := by omega
  have h7 : ((j : Int) == (j : Int) + 1) = false := by simp; omega
  have mixed : Tryz.prog.follows .mixedOrders = true := by kernel_rfl
  clear hW1 hget hnews hlen hcell hsome hfr hsome1 hfr1 h
  go_enter Tryz.func38, Tryz.ntmps38
  go_wp2_with fail
  go_region_law_o (refine step_append_room rfl (.tmp 22) (.tmp 25) 22 rfl 24 i0 3 Tryz.underlying22 hi hz1 g 0 j cap (by simp [Act.eval, Act.put]) A (l.length - (j + 1)) (cap - (j + 1)) news (by simp [Act.eval, Act.put]) s1.out hsrc.out s2.out (by omega) s3.out ?_; rw [← hW.out])
  go_wp2
  go_ret
  exact ⟨⟨by rw [show j + (l.length - (j + 1)) = l.length - 1 by omega]; rfl, HRES.out⟩, HBEL.out⟩
end Go.Proofs.YtpogcedghbokbaaGreatDoor
