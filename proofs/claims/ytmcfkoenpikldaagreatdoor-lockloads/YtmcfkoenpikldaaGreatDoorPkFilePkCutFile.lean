/-
  Own texts of the proof, joined by program: PkFile, PkCutFile.
-/
import Derived.Test.YtmcfkoenpikldaaGreatDoorPkReadPkWords
import Derived.Test.YtmcfkoenpikldaaGreatDoorTreeMemTreeSlotsTreeErrTreeOwn
import Derived.Test.YtmcfkoenpikldaaGreatDoorPkNextPkCheck
/-
  Package pack: readHead, cutFile: contracts, over this seat's translation.
-/
namespace Go.Proofs.YtmcfkoenpikldaaGreatDoor
open Go.RowKit Go.Shelf

/-- A result's own three cells, behind three stores. -/
theorem slot_set3 {w wr : World} {b : Nat} {u v z : Value} (x y t : Value) (h0 : wr.cell? ⟨b, 0, none⟩ = some u) (h1 : wr.cell? ⟨b, 1, none⟩ = some v) (h2 : wr.cell? ⟨b, 2, none⟩ = some z) (hb : Below b w wr) :
    (wr.setCell ⟨b, 0, none⟩ x).cell? ⟨b, 0, none⟩ = some x ∧ ((wr.setCell ⟨b, 0, none⟩ x).setCell ⟨b, 1, none⟩ y).cell? ⟨b, 1, none⟩ = some y ∧ (((wr.setCell ⟨b, 0, none⟩ x).setCell ⟨b, 1, none⟩ y).setCell ⟨b, 2, none⟩ t).cell? ⟨b, 2, none⟩ = some t ∧ Below b w (((wr.setCell ⟨b, 0, none⟩ x).setCell ⟨b, 1, none⟩ y).setCell ⟨b, 2, none⟩ t) := by
  refine ⟨World.cell?_setCell_same' _ _ _ (by rw [h0]; rfl), World.cell?_setCell_same' _ _ _ ?_, World.cell?_setCell_same' _ _ _ ?_, ((hb.setCell (p := ⟨b, 0, none⟩) (Nat.le_refl _) _).setCell (p := ⟨b, 1, none⟩) (Nat.le_refl _) _).setCell (p := ⟨b, 2, none⟩) (Nat.le_refl _) _⟩
  · rw [World.cell?_setCell_other (h := by simp), h1]
    rfl
  · rw [World.cell?_setCell_other (h := by simp), World.cell?_setCell_other (h := by simp), h2]
    rfl

/-- A result's own three cells, still as they were laid. -/
theorem slot_three {w wr : World} {u v x : Value} {T : TypeId} (h : Below (w.heap.size + 1) (w.alloc (.cells #[u, v, x] T)) wr) :
    (wr.cell? ⟨w.heap.size, 0, none⟩ = some u ∧ wr.cell? ⟨w.heap.size, 1, none⟩ = some v ∧ wr.cell? ⟨w.heap.size, 2, none⟩ = some x) ∧ (wr.frozen? ⟨w.heap.size, 0, none⟩ = false ∧ wr.frozen? ⟨w.heap.size, 1, none⟩ = false ∧ wr.frozen? ⟨w.heap.size, 2, none⟩ = false) ∧ Below w.heap.size w wr := by
  have e := h.block w.heap.size (Nat.lt_succ_self _)
  rw [heap_new] at e
  exact ⟨⟨by simp [World.cell?, e], by simp [World.cell?, e], by simp [World.cell?, e]⟩, ⟨by simp [World.frozen?, e], by simp [World.frozen?, e], by simp [World.frozen?, e]⟩, ((Below.refl _ _).alloc (Nat.le_refl _) _).trans (h.mono (by omega))⟩

theorem frozen_below {w w' : World} {n : Nat} (h : Below n w w') {p : Addr} (hp : p.block < n) : w'.frozen? p = w.frozen? p := by
  unfold World.frozen?
  rw [h.block p.block hp]

theorem headOf_few {line : List UInt8} (h : (piecesBy 32 line).length ≠ 3) : headOf line = none := by
  unfold headOf
  split
  · rename_i e
    rw [e] at h
    simp at h
  · rfl
theorem headOf_three {line a m d : List UInt8} (h : piecesBy 32 line = [a, m, d]) : headOf line = if (m = [120] ∨ m = [102]) ∧ 0 ≤ numberL d 6 then some (a, decide (m = [120]), (numberL d 6).toNat) else none := by
  unfold headOf
  rw [h]

/-- What readHead answers. -/
def headV (line : List UInt8) : Value := match headOf line with
  | none => .tuple #[fv ⟨[], false, []⟩, .int .i64 0, .bool false]
  | some (a, x, n) => .tuple #[fv ⟨a, x, []⟩, .int .i64 n, .bool true]

theorem three_cells {w : World} {x y z : List UInt8} {T : TypeId} :
    (w.alloc (.cells ([x, y, z].map sv).toArray T)).cell? ⟨w.heap.size, 0, none⟩ = some (sv x) ∧ (w.alloc (.cells ([x, y, z].map sv).toArray T)).cell? ⟨w.heap.size, 1, none⟩ = some (sv y) ∧ (w.alloc (.cells ([x, y, z].map sv).toArray T)).cell? ⟨w.heap.size, 2, none⟩ = some (sv z) := by
  have e := heap_new w (.cells ([x, y, z].map sv).toArray T)
  unfold World.cell?
  rw [e]
  exact ⟨rfl, rfl, rfl⟩

set_option maxRecDepth 100000 in
set_option maxHeartbeats 2000000 in
theorem readHead_any (p : Nat → Addr) (l : List UInt8) (w : World) (hE : SEnv p w) (hl : l.length ≤ 100000) :
    Calls Tryz.prog 218 #[.string ⟨l.toArray⟩] w fun e w' => e = .returned (headV l) ∧ Below w.heap.size w w' := by
  have HE : Hid (SEnv p w) := hE
  clear hE
  go_enter Tryz.func218, Tryz.ntmps218
  go_wp2_with fail
  refine (split_any 32 l _ hl).mono ?_
  rintro e w1 ⟨rfl, hw1⟩
  have hsz : (w.alloc (.cells #[sv [], .bool false, sv []] 103)).heap.size = w.heap.size + 1 := by simp
  have hb1 : Below (w.heap.size + 1) (w.alloc (.cells #[sv [], .bool false, sv []] 103)) w1 := by
    rw [hw1]
    exact (Below.refl _ _).alloc (by simp) _
  obtain ⟨⟨s0, s1, s2⟩, ⟨z0, z1, z2⟩, s3⟩ := slot_three hb1
  have HB1 : Hid (Below w.heap.size w w1) := s3
  clear s3 hb1
  by_cases h3 : (piecesBy 32 l).length = 3
  · obtain ⟨a, m, d, hp⟩ : ∃ a m d, piecesBy 32 l = [a, m, d] := by
      rcases hq : piecesBy 32 l with _ | ⟨a, _ | ⟨m, _ | ⟨d, _ | ⟨x, r⟩⟩⟩⟩ <;> rw [hq] at h3 <;> simp at h3
      exact ⟨a, m, d, rfl⟩
    have HO := Lib.hid (headOf_three hp)
    have hle := piecesBy_le 32 l
    rw [hp] at hw1 hle ⊢
    have hdl := hle d (by simp)
    obtain ⟨c0, c1, c2⟩ := three_cells (w := w.alloc (.cells #[sv [], .bool false, sv []] 103)) (x := a) (y := m) (z := d) (T := 9)
    rw [← hw1, hsz] at c0 c1 c2
    clear hw1 h3 hp hle
    by_cases hx : m = [120]
    · subst hx
      go_wp2_with fail
      refine (readSize_any p d _ (HE.out.below HB1.out) (by omega)).mono ?_
      rintro e w2 ⟨rfl, hb2⟩
      have k0 := (hb2.cell (p := ⟨w.heap.size + 1, 0, none⟩) (block_lt_of_cell c0)).trans c0
      have k1 := (hb2.cell (p := ⟨w.heap.size + 1, 1, none⟩) (block_lt_of_cell c1)).trans c1
      have t0 := (hb2.cell (p := ⟨w.heap.size, 0, none⟩) (block_lt_of_cell s0)).trans s0
      have t1 := (hb2.cell (p := ⟨w.heap.size, 1, none⟩) (block_lt_of_cell s1)).trans s1
      have t2 := (hb2.cell (p := ⟨w.heap.size, 2, none⟩) (block_lt_of_cell s2)).trans s2
      have y0 := (frozen_below hb2 (p := ⟨w.heap.size, 0, none⟩) (block_lt_of_cell s0)).trans z0
      have y1 := (frozen_below hb2 (p := ⟨w.heap.size, 1, none⟩) (block_lt_of_cell s1)).trans z1
      have y2 := (frozen_below hb2 (p := ⟨w.heap.size, 2, none⟩) (block_lt_of_cell s2)).trans z2
      have HB2 : Hid (Below w.heap.size w w2) := HB1.out.trans (hb2.mono HB1.out.size)
      clear hb2 c0 c1 c2 s0 s1 s2 z0 z1 z2
      by_cases hn : 0 ≤ numberL d 6
      · have HM : Hid (headOf l = some (a, true, (numberL d 6).toNat)) := by
          show headOf l = _
          rw [HO.out, if_pos ⟨by simp, hn⟩]
          simp
        have hsz2 : sizeOfL d = (numberL d 6, true) := by unfold sizeOfL; rw [if_pos hn]
        rw [hsz2]
        obtain ⟨n, hn'⟩ := Int.eq_ofNat_of_zero_le hn
        rw [hn', Int.toNat_natCast] at HM
        rw [hn']
        clear hsz2 hn hn' HO
        go_wp2_with fail
        go_region
        all_goals go_wp2
        all_goals
          obtain ⟨q0, q1, q2, q3⟩ := slot_set3 (w := w) (wr := w2) (sv a) (.bool true) (sv []) t0 t1 t2 HB2.out
          exact bodyPost_ret (v := .tuple #[fv ⟨a, true, []⟩, .int .i64 n, .bool true]) (by simp [results, Tryz.results218, go_sem, q0, q1, q2]) rfl ⟨by unfold headV; rw [HM.out], q3.drew⟩
      · have HM : Hid (headOf l = none) := by
          show headOf l = _
          rw [HO.out, if_neg (fun h => hn h.2)]
        have hsz2 : sizeOfL d = (0, false) := by unfold sizeOfL; rw [if_neg hn]
        rw [hsz2]
        clear hsz2 hn HO
        go_wp2
        obtain ⟨q0, q1, q2, q3⟩ := slot_set3 (w := w) (sv []) (.bool false) (sv []) t0 t1 t2 HB2.out
        exact bodyPost_ret (v := .tuple #[fv ⟨[], false, []⟩, .int .i64 0, .bool false]) (by simp [results, Tryz.results218, go_sem, q0, q1, q2]) rfl ⟨by unfold headV; rw [HM.out], q3⟩
    by_cases hf : m = [102]
    · subst hf
      clear hx
      go_wp2_with fail
      refine (readSize_any p d _ (HE.out.below HB1.out) (by omega)).mono ?_
      rintro e w2 ⟨rfl, hb2⟩
      have k0 := (hb2.cell (p := ⟨w.heap.size + 1, 0, none⟩) (block_lt_of_cell c0)).trans c0
      have k1 := (hb2.cell (p := ⟨w.heap.size + 1, 1, none⟩) (block_lt_of_cell c1)).trans c1
      have t0 := (hb2.cell (p := ⟨w.heap.size, 0, none⟩) (block_lt_of_cell s0)).trans s0
      have t1 := (hb2.cell (p := ⟨w.heap.size, 1, none⟩) (block_lt_of_cell s1)).trans s1
      have t2 := (hb2.cell (p := ⟨w.heap.size, 2, none⟩) (block_lt_of_cell s2)).trans s2
      have y0 := (frozen_below hb2 (p := ⟨w.heap.size, 0, none⟩) (block_lt_of_cell s0)).trans z0
      have y1 := (frozen_below hb2 (p := ⟨w.heap.size, 1, none⟩) (block_lt_of_cell s1)).trans z1
      have y2 := (frozen_below hb2 (p := ⟨w.heap.size, 2, none⟩) (block_lt_of_cell s2)).trans z2
      have HB2 : Hid (Below w.heap.size w w2) := HB1.out.trans (hb2.mono HB1.out.size)
      clear hb2 c0 c1 c2 s0 s1 s2 z0 z1 z2
      by_cases hn : 0 ≤ numberL d 6
      · have HM : Hid (headOf l = some (a, false, (numberL d 6).toNat)) := by
          show headOf l = _
          rw [HO.out, if_pos ⟨by simp, hn⟩]
          simp
        have hsz2 : sizeOfL d = (numberL d 6, true) := by unfold sizeOfL; rw [if_pos hn]
        rw [hsz2]
        obtain ⟨n, hn'⟩ := Int.eq_ofNat_of_zero_le hn
        rw [hn', Int.toNat_natCast] at HM
        rw [hn']
        clear hsz2 hn hn' HO
        go_wp2_with fail
        go_region
        all_goals go_wp2
        all_goals
          obtain ⟨q0, q1, q2, q3⟩ := slot_set3 (w := w) (wr := w2) (sv a) (.bool false) (sv []) t0 t1 t2 HB2.out
          exact bodyPost_ret (v := .tuple #[fv ⟨a, false, []⟩, .int .i64 n, .bool true]) (by simp [results, Tryz.results218, go_sem, q0, q1, q2]) rfl ⟨by unfold headV; rw [HM.out], q3.drew⟩
      · have HM : Hid (headOf l = none) := by
          show headOf l = _
          rw [HO.out, if_neg (fun h => hn h.2)]
        have hsz2 : sizeOfL d = (0, false) := by unfold sizeOfL; rw [if_neg hn]
        rw [hsz2]
        clear hsz2 hn HO
        go_wp2
        obtain ⟨q0, q1, q2, q3⟩ := slot_set3 (w := w) (sv []) (.bool false) (sv []) t0 t1 t2 HB2.out
        exact bodyPost_ret (v := .tuple #[fv ⟨[], false, []⟩, .int .i64 0, .bool false]) (by simp [results, Tryz.results218, go_sem, q0, q1, q2]) rfl ⟨by unfold headV; rw [HM.out], q3⟩
    · have HM : Hid (headOf l = none) := by
        show headOf l = none
        rw [HO.out, if_neg (fun h => h.1.elim hx hf)]
      have hx' : (m == [120]) = false := by simpa using hx
      have hf' : (m == [102]) = false := by simpa using hf
      clear hx hf HO
      go_wp2
      obtain ⟨q0, q1, q2, q3⟩ := slot_set3 (w := w) (sv []) (.bool false) (sv []) s0 s1 s2 HB1.out
      exact bodyPost_ret (v := .tuple #[fv ⟨[], false, []⟩, .int .i64 0, .bool false]) (by simp [results, Tryz.results218, go_sem, q0, q1, q2]) rfl ⟨by unfold headV; rw [HM.out], q3⟩
  · have HO := Lib.hid (headOf_few h3)
    have h3' : ¬ (((piecesBy 32 l).length : Int) = 3) := by omega
    generalize (piecesBy 32 l).length = k at h3'
    clear h3 hw1
    go_wp2
    obtain ⟨q0, q1, q2, q3⟩ := slot_set3 (w := w) (sv []) (.bool false) (sv []) s0 s1 s2 HB1.out
    exact bodyPost_ret (v := .tuple #[fv ⟨[], false, []⟩, .int .i64 0, .bool false]) (by simp [results, Tryz.results218, go_sem, q0, q1, q2]) rfl ⟨by unfold headV; rw [HO.out], q3⟩
end Go.Proofs.YtmcfkoenpikldaaGreatDoor
/-
  Package pack: cutFile: a contract, over this seat's translation.
-/
namespace Go.Proofs.YtmcfkoenpikldaaGreatDoor
open Go.RowKit Go.Shelf

/-- What cutFile answers. -/
def cutV (s : List UInt8) : Value := match cutFileL s with
  | none => .tuple #[fv ⟨[], false, []⟩, sv [], .bool false]
  | some (f, r) => .tuple #[fv f, sv r, .bool true]

theorem cutFile_noLine {s : List UInt8} (h : cutBy 10 s = none) : cutFileL s = none := by unfold cutFileL; rw [h]
theorem cutFile_noHead {s line rest : List UInt8} (h : cutBy 10 s = some (line, rest)) (hh : headOf line = none) : cutFileL s = none := by unfold cutFileL; rw [h]; simp only [hh]
theorem cutFile_head {s line rest a : List UInt8} {x : Bool} {n : Nat} (h : cutBy 10 s = some (line, rest)) (hh : headOf line = some (a, x, n)) : cutFileL s = if rest[n]? = some 10 then some (⟨a, x, rest.take n⟩, rest.drop (n + 1)) else none := by unfold cutFileL; rw [h]; simp only [hh]
theorem headV_none {l : List UInt8} (h : headOf l = none) : headV l = .tuple #[fv ⟨[], false, []⟩, .int .i64 0, .bool false] := by unfold headV; rw [h]
theorem headV_some {l a : List UInt8} {x : Bool} {n : Nat} (h : headOf l = some (a, x, n)) : headV l = .tuple #[fv ⟨a, x, []⟩, .int .i64 n, .bool true] := by unfold headV; rw [h]
theorem headOf_bound {l a : List UInt8} {x : Bool} {n : Nat} (h : headOf l = some (a, x, n)) : n < 1000000 := by
  unfold headOf at h
  split at h
  · split at h
    · rename_i b m d _ hc
      simp only [Option.some.injEq, Prod.mk.injEq] at h
      obtain ⟨_, _, rfl⟩ := h
      have e := number_inv hc.2
      have hl : d.length ≤ 6 := by
        have := hc.2
        unfold numberL at this
        split at this
        · omega
        · omega
      have := digits_bound (v := (numberL d 6).toNat) (k := 6) (by rw [← e]; exact hl)
      omega
    · cases h
  · cases h

theorem slot_alloc {w w1 : World} (h : Below (w.heap.size + 1) (w.alloc (.cells #[sv [], .bool false, sv []] 103)) w1) {w2 : World} (h2 : Below w1.heap.size w1 w2) : Below (w.heap.size + 1) (w.alloc (.cells #[sv [], .bool false, sv []] 103)) w2 :=
  h.trans (h2.mono (by have := h.size; simp at this; omega))

/-- The three cells behind three stores. -/
theorem slot_full3 {w wr : World} {b : Nat} {u v z : Value} (x y t : Value) (h0 : wr.cell? ⟨b, 0, none⟩ = some u) (h1 : wr.cell? ⟨b, 1, none⟩ = some v) (h2 : wr.cell? ⟨b, 2, none⟩ = some z) (hb : Below b w wr) :
    (((wr.setCell ⟨b, 0, none⟩ x).setCell ⟨b, 1, none⟩ y).setCell ⟨b, 2, none⟩ t).cell? ⟨b, 0, none⟩ = some x ∧ (((wr.setCell ⟨b, 0, none⟩ x).setCell ⟨b, 1, none⟩ y).setCell ⟨b, 2, none⟩ t).cell? ⟨b, 1, none⟩ = some y ∧ (((wr.setCell ⟨b, 0, none⟩ x).setCell ⟨b, 1, none⟩ y).setCell ⟨b, 2, none⟩ t).cell? ⟨b, 2, none⟩ = some t ∧ Below b w (((wr.setCell ⟨b, 0, none⟩ x).setCell ⟨b, 1, none⟩ y).setCell ⟨b, 2, none⟩ t) := by
  obtain ⟨q0, q1, q2, q3⟩ := slot_set3 (w := w) x y t h0 h1 h2 hb
  refine ⟨?_, ?_, q2, q3⟩
  · rw [World.cell?_setCell_other (h := by simp), World.cell?_setCell_other (h := by simp)]
    exact q0
  · rw [World.cell?_setCell_other (h := by simp)]
    exact q1

theorem slot_last {w wr : World} {b : Nat} {u v z : Value} (t : Value) (h0 : wr.cell? ⟨b, 0, none⟩ = some u) (h1 : wr.cell? ⟨b, 1, none⟩ = some v) (h2 : wr.cell? ⟨b, 2, none⟩ = some z) (hb : Below b w wr) :
    (wr.setCell ⟨b, 2, none⟩ t).cell? ⟨b, 0, none⟩ = some u ∧ (wr.setCell ⟨b, 2, none⟩ t).cell? ⟨b, 1, none⟩ = some v ∧ (wr.setCell ⟨b, 2, none⟩ t).cell? ⟨b, 2, none⟩ = some t ∧ Below b w (wr.setCell ⟨b, 2, none⟩ t) :=
  ⟨by rw [World.cell?_setCell_other (h := by simp)]; exact h0, by rw [World.cell?_setCell_other (h := by simp)]; exact h1, World.cell?_setCell_same' _ _ _ (by rw [h2]; rfl), hb.setCell (p := ⟨b, 2, none⟩) (Nat.le_refl _) _⟩

set_option maxRecDepth 100000 in
set_option maxHeartbeats 4000000 in
theorem cutFile_any (p : Nat → Addr) (s : List UInt8) (w : World) (hE : SEnv p w) (hl : s.length ≤ 100000) :
    Calls Tryz.prog 164 #[.string ⟨s.toArray⟩] w fun e w' => e = .returned (cutV s) ∧ Below w.heap.size w w' := by
  have HE0 : Hid (SEnv p (w.alloc (.cells #[sv [], .bool false, sv []] 103))) := hE.below ((Below.refl _ _).alloc (Nat.le_refl _) _)
  clear hE
  cases hc : cutBy 10 s with
  | none =>
    have HC := Lib.hid hc
    have HF := Lib.hid (cutFile_noLine hc)
    clear hc
    go_enter Tryz.func164, Tryz.ntmps164
    go_wp2_with fail
    refine (cutBy_miss 10 s _ HC.out).mono ?_
    rintro e w1 ⟨rfl, rfl⟩
    go_wp2_with fail
    refine (readHead_any p s _ HE0.out hl).mono ?_
    rintro e w2 ⟨rfl, hb2⟩
    obtain ⟨⟨s0, s1, s2⟩, ⟨z0, z1, z2⟩, s3⟩ := slot_three (slot_alloc (Below.refl _ _) hb2)
    have HB2 : Hid (Below w.heap.size w w2) := s3
    clear s3 hb2
    rcases hh : headOf s with _ | ⟨a, x, n⟩
    · rw [headV_none hh]
      clear hh
      go_wp2
      obtain ⟨b0, b1, b2, b3⟩ := slot_full3 (w := w) (sv []) (.bool false) (sv []) s0 s1 s2 HB2.out
      obtain ⟨q0, q1, q2, q3⟩ := slot_set3 (w := w) (sv []) (.bool false) (sv []) b0 b1 b2 b3
      exact bodyPost_ret (v := .tuple #[fv ⟨[], false, []⟩, sv [], .bool false]) (by simp [results, Tryz.results164, go_sem, q0, q1, q2]) rfl ⟨by unfold cutV; rw [HF.out], q3⟩
    · rw [headV_some hh]
      clear hh
      go_wp2
      obtain ⟨b0, b1, b2, b3⟩ := slot_full3 (w := w) (sv a) (.bool x) (sv []) s0 s1 s2 HB2.out
      obtain ⟨q0, q1, q2, q3⟩ := slot_set3 (w := w) (sv []) (.bool false) (sv []) b0 b1 b2 b3
      exact bodyPost_ret (v := .tuple #[fv ⟨[], false, []⟩, sv [], .bool false]) (by simp [results, Tryz.results164, go_sem, q0, q1, q2]) rfl ⟨by unfold cutV; rw [HF.out], q3⟩
  | some y =>
    obtain ⟨line, rest⟩ := y
    have HC := Lib.hid hc
    have hlen : line.length + rest.length + 1 = s.length := by
      have := congrArg List.length (cutBy_some hc).1
      simp at this
      omega
    clear hc
    go_enter Tryz.func164, Tryz.ntmps164
    go_wp2_with fail
    refine (cutBy_hit 10 s line rest _ hl HC.out).mono ?_
    rintro e w1 ⟨rfl, nd, hw1⟩
    have hb1 : Below (w.heap.size + 1) (w.alloc (.cells #[sv [], .bool false, sv []] 103)) w1 := by
      rw [hw1]
      exact below_drewN (Below.refl _ _) nd
    have HE1 : Hid (SEnv p w1) := HE0.out.below (by rw [hw1]; exact below_drewN (Below.refl _ _) nd)
    have HB1 := Lib.hid hb1
    clear hw1 hb1 HE0
    go_wp2_with fail
    refine (readHead_any p line _ HE1.out (by omega)).mono ?_
    rintro e w2 ⟨rfl, hb2⟩
    obtain ⟨⟨s0, s1, s2⟩, ⟨z0, z1, z2⟩, s3⟩ := slot_three (slot_alloc HB1.out hb2)
    have HB2 : Hid (Below w.heap.size w w2) := s3
    clear s3 hb2 HB1 HE1
    rcases hh : headOf line with _ | ⟨a, x, n⟩
    · have HF := Lib.hid (cutFile_noHead HC.out hh)
      rw [headV_none hh]
      clear hh
      go_wp2
      obtain ⟨b0, b1, b2, b3⟩ := slot_full3 (w := w) (sv []) (.bool false) (sv []) s0 s1 s2 HB2.out
      obtain ⟨q0, q1, q2, q3⟩ := slot_set3 (w := w) (sv []) (.bool false) (sv []) b0 b1 b2 b3
      exact bodyPost_ret (v := .tuple #[fv ⟨[], false, []⟩, sv [], .bool false]) (by simp [results, Tryz.results164, go_sem, q0, q1, q2]) rfl ⟨by unfold cutV; rw [HF.out], q3⟩
    · have HI := Lib.hid (cutFile_head HC.out hh)
      have hn := headOf_bound hh
      rw [headV_some hh]
      clear hh
      by_cases hlong : rest.length < n
      · have HF : Hid (cutFileL s = none) := by
          show cutFileL s = none
          rw [HI.out, if_neg (by rw [List.getElem?_eq_none (by omega)]; simp)]
        have hlong' : (rest.length : Int) < (n : Int) := by omega
        go_wp2
        obtain ⟨b0, b1, b2, b3⟩ := slot_full3 (w := w) (sv a) (.bool x) (sv []) s0 s1 s2 HB2.out
        obtain ⟨q0, q1, q2, q3⟩ := slot_set3 (w := w) (sv []) (.bool false) (sv []) b0 b1 b2 b3
        exact bodyPost_ret (v := .tuple #[fv ⟨[], false, []⟩, sv [], .bool false]) (by simp [results, Tryz.results164, go_sem, q0, q1, q2]) rfl ⟨by unfold cutV; rw [HF.out], q3⟩
      · have hlong' : decide ((rest.length : Int) < (n : Int)) = false := by simp; omega
        have hnr : (n : Int) ≤ (rest.length : Int) := by omega
        have e1 : ({ data := rest.toArray } : ByteArray).extract 0 n = ⟨(rest.take n).toArray⟩ := by rw [extract_list]; simp
        have e2 : ({ data := rest.toArray } : ByteArray).extract n rest.length = ⟨(rest.drop n).toArray⟩ := by
          rw [extract_list, List.take_of_length_le (by rw [List.length_drop]; omega)]
        go_wp2_with fail
        refine (cutPrefix_by 10 (rest.drop n) _).mono ?_
        rintro e w3 ⟨rfl, rfl⟩
        have hd : (rest.drop n).head? = rest[n]? := List.head?_drop
        rw [hd]
        obtain ⟨q0, q1, q2, q3⟩ := slot_set3 (w := w) (sv a) (.bool x) (sv []) s0 s1 s2 HB2.out
        obtain ⟨b0, b1, b2, b3⟩ := slot_full3 (w := w) (sv a) (.bool x) (sv []) s0 s1 s2 HB2.out
        obtain ⟨r0, r1, r2, r3⟩ := slot_last (w := w) (sv (rest.take n)) b0 b1 b2 b3
        by_cases hend : rest[n]? = some 10
        · have HF : Hid (cutFileL s = some (⟨a, x, rest.take n⟩, rest.drop (n + 1))) := by
            show cutFileL s = _
            rw [HI.out, if_pos hend]
          rw [if_pos hend, decide_eq_true hend]
          have ht : (rest.drop n).tail = rest.drop (n + 1) := List.tail_drop
          rw [ht]
          clear hend hd ht HI
          go_wp2
          obtain ⟨u0, u1, u2, u3⟩ := slot_set3 (w := w) (sv a) (.bool x) (sv (rest.take n)) r0 r1 r2 r3
          exact bodyPost_ret (v := .tuple #[fv ⟨a, x, rest.take n⟩, sv (rest.drop (n + 1)), .bool true]) (by simp [results, Tryz.results164, go_sem, u0, u1, u2]) rfl ⟨by unfold cutV; rw [HF.out], u3⟩
        · have HF : Hid (cutFileL s = none) := by
            show cutFileL s = _
            rw [HI.out, if_neg hend]
          rw [if_neg hend, decide_eq_false hend]
          clear hend hd HI
          go_wp2
          obtain ⟨u0, u1, u2, u3⟩ := slot_set3 (w := w) (sv []) (.bool false) (sv []) r0 r1 r2 r3
          exact bodyPost_ret (v := .tuple #[fv ⟨[], false, []⟩, sv [], .bool false]) (by simp [results, Tryz.results164, go_sem, u0, u1, u2]) rfl ⟨by unfold cutV; rw [HF.out], u3⟩
end Go.Proofs.YtmcfkoenpikldaaGreatDoor
