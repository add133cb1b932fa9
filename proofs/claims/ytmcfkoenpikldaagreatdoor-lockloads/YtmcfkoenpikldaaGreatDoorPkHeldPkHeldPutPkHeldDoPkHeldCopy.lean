/-
  Own texts of the proof, joined by program: PkHeld, PkHeldPut, PkHeldDo, PkHeldCopy.
-/
import Derived.Test.YtmcfkoenpikldaaGreatDoorHeldRowPkHeldMem
import Derived.Test.YtmcfkoenpikldaaGreatDoorPkClonePkFindPkSortFnPkSort
import Derived.Test.YtmcfkoenpikldaaGreatDoorShelf2
import Derived.Maps.AppendAt
import Derived.Test.YtmcfkoenpikldaaGreatDoorPkMakePkPackMakePkPackSum
import Derived.StillTailTactics
import Derived.Deep.QuietTactic
import Derived.BigQuiet
/-
  Package held: New, Get, Sums, and what stands behind Put and Drop: contracts, over this seat's translation.
-/
namespace Go.Proofs.YtmcfkoenpikldaaGreatDoor
open Go.RowKit Go.Shelf Go.Maps

theorem zero_trees (w : World) : (zeroValue 43).run Tryz.prog w = .ok (.slice none 0 0) w := by kernel_rfl


/-- One number is taken out. -/
theorem deleteInt_any (g cap k n : Nat) (j : Int) (zs : List Int) (base : Nat) (w : World) (hj : j = (k : Int) + 1) (hk : k < n) (h : w.ownsRow base 3 1 (.slice (some ⟨g, 0, none⟩) n cap) n (zs.map iv)) :
    Calls Tryz.prog 158 #[.slice (some ⟨g, 0, none⟩) n cap, .int .i64 k, .int .i64 j] w fun e w' => e = .returned (.slice (some ⟨g, 0, none⟩) (n - 1) cap) ∧ w'.ownsRow base 3 1 (.slice (some ⟨g, 0, none⟩) (n - 1) cap) (n - 1) ((zs.take k ++ zs.drop (k + 1)).map iv) ∧ Kept (fun b => b = g) w w' ∧ ∀ B, B ≤ w.heap.size → B ≤ g → Below B w w' := by
  obtain ⟨g', cap', e, _, _, hnc, hcm, hl, hH⟩ := Lib.holds_of_ownsRow (enc := iv) h (by intro e; cases e)
  cases e
  subst hl
  unfold maxLen at hcm
  have hj' : j = ((k + 1 : Nat) : Int) := by omega
  subst hj'
  refine (AnyG.slices_Delete_int Tryz.laysDeleteI g 0 cap k (k + 1) zs w hH hnc (by omega) (by omega) (by omega)).mono ?_
  rintro e w' ⟨rfl, q, rfl⟩
  have e1 : zs.length - (k + 1 - k) = zs.length - 1 := by omega
  have e2 : (zs.take k ++ zs.drop (k + 1) ++ List.replicate (k + 1 - k) 0).take (zs.length - 1) = zs.take k ++ zs.drop (k + 1) := by
    rw [List.take_append_of_le_length (by simp; omega), List.take_of_length_le (by simp; omega)]
  have hu := Lib.ownsRow_putRow (enc := iv) (q := q) (k := zs.length - 1) (ys := zs.take k ++ zs.drop (k + 1) ++ List.replicate (k + 1 - k) 0) h (by simp; omega) (by omega)
  rw [e2] at hu
  refine ⟨by rw [e1], hu, kept_putRow (S := fun b => b = g) rfl, fun B hB hg => Lib.below_putRow (Below.refl B w) hg⟩

/-- Numbers, cloned. -/
theorem cloneInt_any (v : Value) (n base : Nat) (zs : List Int) (w : World) (hn : n ≤ 100000) (h : w.ownsRow base 3 1 v n (zs.map iv)) :
    Calls Tryz.prog 77 #[v] w fun e w' => (∃ v', e = .returned v' ∧ w'.ownsRow w.heap.size 3 1 v' n (zs.map iv)) ∧ Below w.heap.size w w' := by
  by_cases hv : v = .slice none 0 0
  · subst hv
    have hn0 : n = 0 := by
      rcases h.2 with ⟨_, h0⟩ | ⟨g, cap, cur, e, _⟩
      · exact h0
      · cases e
    subst hn0
    have hz : zs = [] := List.eq_nil_of_length_eq_zero (by simpa using h.1)
    subst hz
    refine (AnyG.slices_Clone_int_nil Tryz.laysCloneI 0 0 w).mono ?_
    rintro e w' ⟨rfl, hw'⟩
    obtain rfl : w = w' := hw'.symm
    exact ⟨⟨_, rfl, World.ownsRow_nil _ _ _ _⟩, Below.refl _ _⟩
  · obtain ⟨g, cap, rfl, _, _, hnc, hcm, hl, hH⟩ := Lib.holds_of_ownsRow (enc := iv) h hv
    subst hl
    refine (AnyG.slices_Clone_int Tryz.laysCloneI g 0 zs.length cap zs w (Nat.le_refl _) (by omega) (fun j hj => ?_)).mono ?_
    · have := (hH j (by simpa using hj)).1
      rw [this]
      simp [List.getD, hj, getElem!_pos]
    · rintro e w' ⟨v', rfl, ho, _, hb⟩
      rw [List.take_length] at ho
      exact ⟨⟨v', rfl, ho⟩, hb⟩

theorem most_min (m : Int) : min (max m 0) 40 = (mostH m : Int) := by unfold mostH; split <;> (try split) <;> omega
theorem held_new (w : World) (m : Nat) : HeldIn ((w.alloc (.map #[] 0)).alloc (.cells #[.int .i64 m, .map (some w.heap.size), .slice none 0 0] 112)) (w.heap.size + 1) w.heap.size (.slice none 0 0) m [] := by
  have m1 := MapInt.new Tryz.prog w 3
  have s1 : (w.alloc (.map #[] 0)).heap.size = w.heap.size + 1 := by simp
  have e := heap_new (w.alloc (.map #[] 0)) (.cells #[.int .i64 m, .map (some w.heap.size), .slice none 0 0] 112)
  rw [s1] at e
  have t1 := m1.alloc (.cells #[.int .i64 m, .map (some w.heap.size), .slice none 0 0] 112)
  generalize (w.alloc (.map #[] 0)).alloc (.cells #[.int .i64 m, .map (some w.heap.size), .slice none 0 0] 112) = V at e t1 ⊢
  exact ⟨by simp [World.cell?, e], by simp [World.cell?, e], by simp [World.cell?, e], fun j => by simp [World.frozen?, e], t1, World.ownsRow_nil _ _ _ _, by simp [Value.ownBlock], by simp, by simp⟩

theorem heldNew_any (w : World) (m : Int) : Calls Tryz.prog 12 #[.int .i64 m] w fun e w' => ∃ nb S R, e = .returned (.pointer (some ⟨nb, 0, none⟩)) ∧ HeldAt w' nb S R (Hs.none (mostH m)) ∧ (∀ b, S b ∨ R b → w.heap.size ≤ b) ∧ Below w.heap.size w w' := by
  have hmm := @run_makeMap Tryz.prog
  have HM := Lib.hid (most_min m)
  go_enter Tryz.func12, Tryz.ntmps12
  go_wp2
  go_ret
  rw [HM.out]
  refine ⟨_, _, _, rfl, ⟨_, _, [], held_new w (mostH m), rfl, rfl, rfl⟩, ?_, ?_⟩
  · rintro b ((rfl | rfl | hb) | ⟨r, hr, _⟩)
    · omega
    · omega
    · cases hb
    · simp at hr
  · exact ((Below.refl _ _).alloc (Nat.le_refl _) _).alloc (by simp) _

set_option maxRecDepth 100000 in
set_option maxHeartbeats 2000000 in
theorem heldSums_any (w : World) (nb : Nat) (S R : Nat → Prop) (s : Hs) (h : HeldAt w nb S R s) (hl : s.l.length ≤ 100000) : Calls Tryz.prog 24 #[.pointer (some ⟨nb, 0, none⟩)] w fun e w' => (∃ v, e = .returned v ∧ w'.ownsRow w.heap.size 3 1 v (s.l.map fun x => (x.n : Int)).length ((s.l.map fun x => (x.n : Int)).map iv)) ∧ Below w.heap.size w w' := by
  obtain ⟨bm, v, rs, h, e, rfl, rfl⟩ := h
  obtain ⟨sm, sl⟩ := s
  simp only at e
  subst e
  have e1 : ((rs.map Rt.tr).map fun x => (x.n : Int)) = sumsI rs := by rw [List.map_map]; rfl
  have e2 : ((rs.map Rt.tr).map fun x => (x.n : Int)).length = rs.length := by simp
  have E1 := Lib.hid e1
  have E2 := Lib.hid e2
  have HC := Lib.hid (cloneInt_any v rs.length 0 (sumsI rs) w (by simpa using hl) h.row)
  have c2 := h.c2
  clear h e1 e2
  go_enter Tryz.func24, Tryz.ntmps24
  go_wp2_with fail
  refine HC.out.mono ?_
  rintro e w' ⟨⟨v', rfl, ho⟩, hb⟩
  have HO := Lib.hid ho
  have HB := Lib.hid hb
  clear ho hb
  go_wp2
  go_ret
  refine ⟨⟨v', rfl, ?_⟩, HB.out⟩
  show World.ownsRow _ _ _ _ _ ((rs.map Rt.tr).map fun x => (x.n : Int)).length (((rs.map Rt.tr).map fun x => (x.n : Int)).map iv)
  rw [E2.out, E1.out]
  exact HO.out

set_option maxRecDepth 100000 in
set_option maxHeartbeats 2000000 in
theorem heldGet_any (p : Nat → Addr) (w : World) (nb : Nat) (S R : Nat → Prop) (s : Hs) (n : Int) (h : HeldAt w nb S R s) (hE : HEnv p w) (hw : (Lit.int .i64 n).wf = true) (hf : ∀ x ∈ s.l, x.l.length ≤ 100000) :
    Calls Tryz.prog 51 #[.pointer (some ⟨nb, 0, none⟩), .int .i64 n] w fun e w' => (∃ a ca, e = .returned (.tuple #[.slice a (getH s n).1.length ca, errV p (getH s n).2]) ∧ NewFiles w w' a ca (getH s n).1) ∧ Below w.heap.size w w' := by
  obtain ⟨bm, v, rs, h, e, rfl, rfl⟩ := h
  obtain ⟨sm, sl⟩ := s
  simp only at e
  subst e
  have H := Lib.hid h
  have c1 := h.c1
  have g6 := hE.env.s5
  have HW := Lib.hid hw
  clear hE h hw
  go_enter Tryz.func51, Tryz.ntmps51
  cases hs : spotH (rs.map Rt.tr) n with
  | none =>
    have HG := Lib.hid (getH_none (s := ⟨sm, rs.map Rt.tr⟩) hs)
    have HT := Lib.hid (trees_none hs)
    clear hs
    go_wp2_with (at_lookup; refine wpList_look_int rfl _ _ 110 rfl 3 43 Tryz.underlying3 Tryz.underlying110 (zero_trees _) bm _ _ rfl H.out.map n rfl HW.out (.slice none 0 0) false (by rw [HT.out]; rfl) (by rw [HT.out]; rfl) ?_)
    all_goals try go_region
    all_goals try go_wp2
    all_goals go_ret2
    all_goals exact ⟨⟨none, 0, by rw [HG.out]; rfl, by rw [HG.out]; exact ⟨fun hn => absurd rfl hn, Nat.le_refl _, fun _ => ⟨rfl, rfl⟩, fun b o t e => by cases e⟩⟩, (Below.refl _ _).drew⟩
  | some k =>
    obtain ⟨hk, hku⟩ := spotH_some hs
    have hk' : k < rs.length := by simpa using hk
    have HG : Hid (getH ⟨sm, rs.map Rt.tr⟩ n = (rs[k].l, 0)) := by
      show getH ⟨sm, rs.map Rt.tr⟩ n = (rs[k].l, 0)
      rw [getH_some (s := ⟨sm, rs.map Rt.tr⟩) hs hk]
      simp [Rt.tr]
    have HT := Lib.hid (trees_some hs hk')
    obtain ⟨hla, hlc, hln⟩ := H.out.lies _ (List.getElem_mem hk')
    have hxl : rs[k].l.length ≤ 100000 := hf rs[k].tr (List.mem_map_of_mem (List.getElem_mem hk'))
    clear hs hku hk hf
    have HL := Lib.hid hla
    clear hla
    generalize rs[k] = x at HG HT HL hlc hln hxl
    obtain ⟨xn, xl, xa, xc⟩ := x
    simp only at HL hlc hln hxl
    go_wp2_with (first
      | (at_lookup; refine wpList_look_int rfl _ _ 110 rfl 3 43 Tryz.underlying3 Tryz.underlying110 (zero_trees _) bm _ _ rfl H.out.map n rfl HW.out (.slice xa xl.length xc) true (by rw [HT.out]; rfl) (by rw [HT.out]; rfl) ?_)
      | fail)
    refine (clone_any xl xa xc _ HL.out hxl).mono ?_
    rintro e w' ⟨⟨v', rfl, ho⟩, hb⟩
    have HB := Lib.hid hb
    obtain ⟨a', c', rfl, hn⟩ := new_files ho
    have HN := Lib.hid hn
    clear ho hb hn
    go_wp2
    go_ret2
    refine ⟨⟨a', c', by rw [HG.out]; rfl, by rw [HG.out]; exact HN.out⟩, HB.out⟩
end Go.Proofs.YtmcfkoenpikldaaGreatDoor
/-
  Package held: Put and Drop, and the two that they call: contracts, over this seat's translation; so the program's package keeps what the laws ask.
-/
namespace Go.Proofs.YtmcfkoenpikldaaGreatDoor
open Go.RowKit Go.Shelf Go.Maps

set_option maxRecDepth 100000 in
set_option maxHeartbeats 4000000 in
theorem heldRemove_any (w : World) (nb : Nat) (S R : Nat → Prop) (s : Hs) (k : Nat) (h : HeldAt w nb S R s) (hok : OkH s) (hk : k < s.l.length) :
    Calls Tryz.prog 103 #[.pointer (some ⟨nb, 0, none⟩), .int .i64 k] w fun e w' => e = .returned (.tuple #[]) ∧ ∃ S' R', HeldLeft HeldAt w nb S R { s with l := s.l.eraseIdx k } w' S' R' := by
  obtain ⟨bm, v, rs, h, e, rfl, rfl⟩ := h
  obtain ⟨sm, sl⟩ := s
  simp only at e
  subst e
  have hk' : k < rs.length := by simpa using hk
  have hfit := hok.fit (x := rs[k].tr) (List.mem_map_of_mem (List.getElem_mem hk'))
  have hnod : (rs.map fun x => x.n).Nodup := by have := hok.once; rwa [List.map_map] at this
  obtain ⟨g, cap, rfl, hcap, hcm⟩ := owns_at h.row (by omega)
  have H := Lib.hid h
  have k0 : w.cell? ⟨g, k, none⟩ = some (.int .i64 rs[k].n) := by
    rw [h.row.cellAt k (by omega)]
    simp [sumsV, sumsI, hk', iv]
  have c1 := h.c1
  have c2 := h.c2
  have hkl : (k : Int) < (rs.length : Int) := by omega
  have hgn : g ≠ nb := fun e => h.ne (by rw [e]; rfl)
  have hgb : g ≠ bm := fun e => h.row_ne (by rw [e]; rfl)
  have hbn := h.bm_ne
  have hglt : g < w.heap.size := (h.row.lt g rfl).2
  have hcur : ∃ t, t = treesF rs (rs[k].n : Int) ∧ t.isSome = true := ⟨_, rfl, by rw [trees_some (by have := spotH_at (l := rs.map Rt.tr) hok.once hk; simpa [Rt.tr] using this) hk']; rfl⟩
  obtain ⟨w2, hrun, hm, ht⟩ := h.map.drew.strike (t := 110) (e := 43) Tryz.underlying3 Tryz.underlying110 (rs[k].n : Int) hfit 0
  obtain ⟨_, rfl, hsome⟩ := hcur
  rw [if_pos hsome, ← trees_erase hk' hnod] at hm
  have HM := Lib.hid hm
  have hk2 := (turned_kept ht)
  have hzw : w.drew.heap.size = w.heap.size := rfl
  have HK2 : Hid (Kept (fun b => b = bm) w w2) := ⟨hk2.size, hk2.block⟩
  have HB2 : Hid (∀ B, B ≤ w.heap.size → B ≤ bm → Below B w w2) := fun B h1 h2 => (Below.refl B w).drew.trans (turned_below ht h2 h1)
  have e2 : w2.heap[nb]? = w.heap[nb]? := hk2.block nb (block_lt_of_cell h.c0) hbn
  have c0' : Hid (w2.cell? ⟨nb, 0, none⟩ = some (.int .i64 sm)) := by show _ = _; rw [← h.c0]; simp [World.cell?, e2]
  have c1' : Hid (w2.cell? ⟨nb, 1, none⟩ = some (.map (some bm))) := by show _ = _; rw [← h.c1]; simp [World.cell?, e2]
  have c2' : w2.cell? ⟨nb, 2, none⟩ = some (.slice (some ⟨g, 0, none⟩) rs.length cap) := by rw [← h.c2]; simp [World.cell?, e2]
  have z2' : ∀ j, w2.frozen? ⟨nb, j, none⟩ = false := fun j => by rw [← h.live j]; simp [World.frozen?, e2]
  have HZ := Lib.hid z2'
  have hrow2 : w2.ownsRow 0 3 1 (.slice (some ⟨g, 0, none⟩) rs.length cap) rs.length ((sumsI rs).map iv) := owns_kept h.row fun g' hg' => by cases hg'; exact hk2.block g hglt hgb
  have HD := Lib.hid (deleteInt_any g cap k rs.length ((k : Int) + 1) (sumsI rs) 0 w2 rfl hk' hrow2)
  have zn2 := z2' 2
  clear h hok hm hk2 e2 hrow2 z2' hfit hnod hsome hk ht
  generalize (rs[k].n : Int) = kn at k0 hrun
  go_enter Tryz.func103, Tryz.ntmps103
  have hmx : Tryz.prog.follows .mixedOrders = true := by kernel_rfl
  have hk0 : (0 : Int) ≤ (k : Int) := by omega
  have hwk : wrap64 ((k : Int) + 1) = (k : Int) + 1 := w64 _ (by unfold maxLen at hcm; omega)
  go_wp2_with fail
  go_still_tail 11, hmx
  refine wpList_strike_run (w := w.drew) (w' := w2) rfl _ _ _ _ 0 rfl rfl bm rfl kn rfl hrun ?_
  clear hrun k0 c1 c2
  go_wp2_with fail
  refine HD.out.mono ?_
  rintro e w3 ⟨rfl, hrow3, hk3, hb3⟩
  have e3 : w3.heap[nb]? = w2.heap[nb]? := hk3.block nb (block_lt_of_cell c2') (fun e => hgn e.symm)
  have d2 : w3.cell? ⟨nb, 2, none⟩ = some (.slice (some ⟨g, 0, none⟩) rs.length cap) := by rw [← c2']; simp [World.cell?, e3]
  have d0 : Hid (w3.cell? ⟨nb, 0, none⟩ = some (.int .i64 sm)) := by show _ = _; rw [← c0'.out]; simp [World.cell?, e3]
  have d1 : Hid (w3.cell? ⟨nb, 1, none⟩ = some (.map (some bm))) := by show _ = _; rw [← c1'.out]; simp [World.cell?, e3]
  have y2' : ∀ j, w3.frozen? ⟨nb, j, none⟩ = false := fun j => by rw [← HZ.out j]; simp [World.frozen?, e3]
  have y2 := y2' 2
  have HY := Lib.hid y2'
  have HR := Lib.hid hrow3
  have HK3 := Lib.hid hk3
  have HB3 := Lib.hid hb3
  have HM3 := Lib.hid (HM.out.kept (hk3.block bm HM.out.lt (fun e => hgb e.symm)))
  clear hrow3 hk3 hb3 y2' e3 c2' zn2
  go_wp2
  go_end0
  refine ⟨rfl, wset nb bm (.slice (some ⟨g, 0, none⟩) (rs.length - 1) cap), rset (rs.eraseIdx k), ?_⟩
  have hel : (rs.eraseIdx k).length = rs.length - 1 := List.length_eraseIdx_of_lt hk'
  have hmap : (rs.map Rt.tr).eraseIdx k = (rs.eraseIdx k).map Rt.tr := by rw [List.eraseIdx_eq_take_drop_succ, List.eraseIdx_eq_take_drop_succ, List.map_append, List.map_take, List.map_drop]
  show HeldLeft HeldAt w nb (wset nb bm _) (rset rs) ⟨sm, (rs.map Rt.tr).eraseIdx k⟩ _ _ _
  rw [hmap]
  have hks : Kept (wset nb bm (.slice (some ⟨g, 0, none⟩) rs.length cap)) w (w3.setCell ⟨nb, 2, none⟩ (.slice (some ⟨g, 0, none⟩) (rs.length - 1) cap)) :=
    ((HK2.out.more fun b _ e => .inr (.inl e)).trans (HK3.out.more fun b _ e => .inr (.inr (by rw [e]; rfl)))).trans (Kept.set w3 (.inl rfl) _)
  refine held_left H.out ?_ ?_ (World.cell?_setCell_same' _ _ _ (by rw [d2]; rfl)) (fun j => by rw [World.frozen?_setCell]; exact HY.out j) ?_ ?_ (fun g' hg' => .inl hg') hks (fun B hB hS => ?_) (fun r hr => .inl (List.mem_of_mem_eraseIdx hr))
  · rw [World.cell?_setCell_other (h := by simp)]; exact d0.out
  · rw [World.cell?_setCell_other (h := by simp)]; exact d1.out
  · rw [hel]; exact HM3.out.setCell (fun e => hbn e.symm) _
  · rw [hel]
    have := ownsRow_setCell_other HR.out (a := ⟨nb, 2, none⟩) (by simp [Value.ownBlock]; exact hgn) (.slice (some ⟨g, 0, none⟩) (rs.length - 1) cap)
    rw [sumsV, sums_erase]
    exact this
  · exact ((HB2.out B hB (hS bm (.inr (.inl rfl)))).trans (HB3.out B (Nat.le_trans hB HK2.out.size) (hS g (.inr (.inr rfl))))).setCell (p := ⟨nb, 2, none⟩) (hS nb (.inl rfl)) _

/-- A number alone, in memory that is new. -/
theorem one_new (w : World) (n : Int) (T : TypeId) : ∀ j u, [Value.int .i64 n][j]? = some u → (w.alloc (.cells #[.int .i64 n] T)).cell? ((⟨w.heap.size, 0, none⟩ : Addr).add j) = some u := by
  intro j u h
  have hn := heap_new w (.cells #[.int .i64 n] T)
  rcases j with _ | j
  · rw [Addr.add_lit]
    unfold World.cell?
    rw [hn]
    exact h
  · simp at h

set_option maxRecDepth 100000 in
set_option maxHeartbeats 4000000 in
theorem heldAdd_any (w : World) (nb : Nat) (S R : Nat → Prop) (s : Hs) (n : Nat) (l : List F) (a : Option Addr) (ca : Nat) (h : HeldAt w nb S R s) (hn : spotH s.l (n : Int) = none) (hw : (Lit.int .i64 (n : Int)).wf = true) (hs : s.l.length ≤ 1000) (hla : LiesAt w a l) (hll : l.length ≤ 100000) :
    Calls Tryz.prog 104 #[.pointer (some ⟨nb, 0, none⟩), .int .i64 n, .slice a l.length ca] w fun e w' => e = .returned (.tuple #[]) ∧ ∃ S' R', HeldLeft HeldAt w nb S R { s with l := s.l ++ [⟨n, l⟩] } w' S' R' := by
  obtain ⟨i0, hi, hz0, hz1, hz2⟩ := info_parts Tryz.infoInt
  obtain ⟨bm, vv, rs, h, e, rfl, rfl⟩ := h
  obtain ⟨sm, sl⟩ := s
  simp only at e
  subst e
  have hsl : rs.length ≤ 1000 := by simpa using hs
  have H := Lib.hid h
  have HN := Lib.hid hn
  have HW := Lib.hid hw
  have c1 := h.c1
  have hnbl : nb < w.heap.size := block_lt_of_cell h.c0
  have HQ := Lib.hid (clone_any l a ca w.drew (hla.below (Below.refl _ _).drew) hll)
  have hbn := h.bm_ne
  clear h hn hw hla hs
  go_enter Tryz.func104, Tryz.ntmps104
  have hmx : Tryz.prog.follows .mixedOrders = true := by kernel_rfl
  go_wp2_with fail
  go_region_with (first
    | (go_at_call 112; (with_reducible refine HQ.out.mono ?_); rintro e w1 ⟨⟨v1, rfl, ho1⟩, hb1⟩; have HB1 := Lib.hid ((Below.refl w.heap.size w).drew.trans hb1); have d1 := (HB1.out.cell (p := ⟨nb, 1, none⟩) hnbl).trans c1; obtain ⟨a1, ca1, hv1, hn1⟩ := new_files ho1; have HN1 := Lib.hid hn1; obtain ⟨w2, hrun, hm2, ht2⟩ := (H.out.below HB1.out).map.store (t := 110) (e := 43) Tryz.underlying3 Tryz.underlying110 (by unfold maxLen; omega) (n : Int) HW.out v1; have HM2 := Lib.hid hm2; have HT2 := Lib.hid ht2; have HV1 := Lib.hid hv1; clear ho1 hb1 hm2 ht2 hn1 hv1))
  all_goals
    clear hrun d1 c1
    have H1 := H.out.below HB1.out
    have hk2 := turned_kept HT2.out
    have e2 : w2.heap[nb]? = w1.heap[nb]? := hk2.block nb (block_lt_of_cell H1.c0) hbn
    have k0 : Hid (w2.cell? ⟨nb, 0, none⟩ = some (.int .i64 sm)) := by show _ = _; rw [← H1.c0]; simp [World.cell?, e2]
    have k1 : Hid (w2.cell? ⟨nb, 1, none⟩ = some (.map (some bm))) := by show _ = _; rw [← H1.c1]; simp [World.cell?, e2]
    have k2 : w2.cell? ⟨nb, 2, none⟩ = some vv := by rw [← H1.c2]; simp [World.cell?, e2]
    have hz : ∀ j, w2.frozen? ⟨nb, j, none⟩ = false := fun j => by rw [← H1.live j]; simp [World.frozen?, e2]
    have HZ := Lib.hid hz
    have hrow2 := owns_kept H1.row fun g hg => hk2.block g (H1.row.lt g hg).2 (fun e => H1.row_ne (by rw [hg, e]))
    have HR2 := Lib.hid hrow2
    have HK2 := Lib.hid hk2
    have HH1 := Lib.hid H1
    clear hrow2 hk2 e2 H1 hz
    have hwz : w.heap.size ≤ w2.heap.size := Nat.le_trans HB1.out.size HK2.out.size
    have hnb2 : nb < w2.heap.size := by omega
    go_wp2_with (at_builtin; go_loud (refine wpList_append_own_at _ rfl _ _ 59 rfl 0 3 i0 (.int .i64 0) 1 8 Tryz.underlying59 hi hz0 hz1 hz2 rfl (by decide) vv rs.length (sumsV rs) rfl (HR2.out.alloc _) ⟨w2.heap.size, 0, none⟩ 1 1 [.int .i64 n] rfl rfl (one_new w2 n _) (by simp [Value.oneCell']) (by unfold maxLen; omega) (by omega) (Nat.zero_le _) ?_); go_loud (intro v2 w3 hown hgrow hnil hat); go_loud (obtain ⟨av2, cv2, hv2e⟩ := owns_slice hown); go_loud (subst hv2e); go_loud (have HB3 := Lib.hid ((Below.refl w2.heap.size w2).alloc (Nat.le_refl _) (.cells #[.int .i64 n] 3))); go_loud (have e3 : w3.heap[nb]? = w2.heap[nb]? := (hgrow.block nb (by rw [World.size_alloc]; omega) (fun e => H.out.ne e.symm)).trans (HB3.out.block nb hnb2)); go_loud (have k3 : w3.cell? ⟨nb, 2, none⟩ = some vv := by (rw [← k2]; simp [World.cell?, e3])); go_loud (have z3 : w3.frozen? ⟨nb, 2, none⟩ = false := by (rw [← HZ.out 2]; simp [World.frozen?, e3])); go_loud (have HOWN := Lib.hid hown; have HGROW := Lib.hid hgrow; have HAT := Lib.hid hat; have E3 := Lib.hid e3; clear hown hgrow hnil hat e3))
    go_end0
    generalize Value.slice av2 (rs.length + 1) cv2 = v2 at HOWN HAT ⊢
    have hfn : (treesF rs (n : Int)).isSome = false := by rw [trees_none HN.out]; rfl
    have hm2 := HM2.out
    rw [hfn, if_neg (by decide)] at hm2
    have hx := trees_app (rs := rs) ⟨n, l, a1, ca1⟩ HN.out
    have hvt : v1 = treeV ⟨n, l, a1, ca1⟩ := HV1.out
    rw [hvt, ← hx] at hm2
    have hbW := HB3.out
    have hgb : ∀ k, k < w2.heap.size → vv.ownBlock ≠ some k → w3.heap[k]? = w2.heap[k]? := fun k hk hne => (HGROW.out.block k (by rw [World.size_alloc]; omega) (fun e => hne e.symm)).trans (hbW.block k hk)
    have hz3 : w2.heap.size ≤ w3.heap.size := Nat.le_trans hbW.size HGROW.out.size
    have hv2 : ∀ g, v2.ownBlock = some g → vv.ownBlock = some g ∨ w2.heap.size ≤ g := fun g hg => by
      rcases HAT.out with e | e
      · exact .inl (by rw [← e]; exact hg)
      · rw [e] at hg
        cases hg
        exact .inr (by simp)
    have hvlt : ∀ g, vv.ownBlock = some g → g < w.heap.size := fun g hg => (H.out.row.lt g hg).2
    have hk3 : Kept (wset nb bm vv) w w3 := ⟨by omega, fun k hk hs => (hgb k (by omega) (fun e => hs (.inr (.inr e)))).trans ((HK2.out.block k (Nat.lt_of_lt_of_le hk HB1.out.size) (fun e => hs (.inr (.inl e)))).trans (HB1.out.block k hk))⟩
    have hdone : Kept (wset nb bm vv) w (w3.setCell ⟨nb, 2, none⟩ v2) := hk3.trans (Kept.set w3 (.inl rfl) v2)
    have hlen : (rs ++ [(⟨n, l, a1, ca1⟩ : Rt)]).length = rs.length + 1 := by simp
    have hsv : sumsV (rs ++ [(⟨n, l, a1, ca1⟩ : Rt)]) = sumsV rs ++ [.int .i64 n] := by simp [sumsV, sumsI, iv]
    have hne2 : v2.ownBlock ≠ some nb := fun e => by
      rcases hv2 nb e with e | e
      · exact H.out.ne e
      · omega
    have hnew : ∀ b o t, a1 = some ⟨b, o, t⟩ → w.heap.size ≤ b ∧ b < w1.heap.size := fun b o t e => HN1.out.new b o t e
    have hbl : l ≠ [] → ∀ b o t, a1 = some ⟨b, o, t⟩ → b ≠ bm := fun hl b o t e => by
      have := hnew b o t e
      have := H.out.map.lt
      omega
    have hbk : ∀ b, w.heap.size ≤ b → b < w1.heap.size → w3.heap[b]? = w1.heap[b]? := fun b h1 h2 => by
      have hbm := H.out.map.lt
      have := HK2.out.size
      exact (hgb b (by omega) (fun e => by have := hvlt b e; omega)).trans (HK2.out.block b h2 (by omega))
    refine ⟨rfl, wset nb bm v2, rset (rs ++ [⟨n, l, a1, ca1⟩]), ?_⟩
    have hmap : rs.map Rt.tr ++ [(⟨n, l⟩ : Tr)] = (rs ++ [(⟨n, l, a1, ca1⟩ : Rt)]).map Rt.tr := by simp [Rt.tr]
    show HeldLeft HeldAt w nb (wset nb bm vv) (rset rs) ⟨sm, rs.map Rt.tr ++ [(⟨n, l⟩ : Tr)]⟩ _ _ _
    rw [hmap]
    refine held_left H.out ?_ ?_ (World.cell?_setCell_same' _ _ _ (by rw [k3]; rfl)) (fun j => ?_) ?_ ?_ (fun g hg => (hv2 g hg).imp id (fun e => by omega)) hdone (fun B hB hS => ?_) (fun r hr => ?_)
    · rw [World.cell?_setCell_other (h := by simp), ← k0.out]; simp [World.cell?, E3.out]
    · rw [World.cell?_setCell_other (h := by simp), ← k1.out]; simp [World.cell?, E3.out]
    · rw [World.frozen?_setCell, ← HZ.out j]; simp [World.frozen?, E3.out]
    · rw [hlen]
      exact (hm2.kept (hgb bm hm2.lt (fun e => H.out.row_ne e))).setCell (fun e => hbn e.symm) _
    · rw [hlen, hsv]
      exact ownsRow_setCell_other HOWN.out (a := ⟨nb, 2, none⟩) hne2 v2
    · have h1 := (HB1.out.mono hB).trans (turned_below HT2.out (hS bm (.inr (.inl rfl))) (Nat.le_trans hB HB1.out.size))
      have h2 := h1.trans ((hbW.mono (Nat.le_trans hB hwz)).grown HGROW.out (by rw [World.size_alloc]; omega) (fun k hk => hS k (.inr (.inr hk))))
      exact h2.setCell (p := ⟨nb, 2, none⟩) (hS nb (.inl rfl)) _
    · rcases List.mem_append.1 hr with hr | hr
      · exact .inl hr
      · simp at hr
        subst hr
        refine .inr ⟨?_, HN1.out.cap, HN1.out.nil, fun hl b o t e => ⟨(hnew b o t e).1, fun e2 => ?_⟩⟩
        · refine lies_kept HN1.out.lies fun b o t hl e => ?_
          have := hnew b o t e
          exact (Below.heap_setCell _ _ _ _ (by show b ≠ nb; omega)).trans (hbk b this.1 this.2)
        · have := hnew b o t e
          have := HK2.out.size
          rcases hv2 b e2 with e2 | e2
          · have := hvlt b e2
            omega
          · omega
end Go.Proofs.YtmcfkoenpikldaaGreatDoor
/-
  Package held: Put and Drop: contracts, over this seat's translation; so the program's package keeps what the laws ask.
-/
namespace Go.Proofs.YtmcfkoenpikldaaGreatDoor
open Go.RowKit Go.Shelf Go.Maps

set_option maxRecDepth 100000 in
set_option maxHeartbeats 4000000 in
theorem heldPut_any (p : Nat → Addr) (w : World) (nb : Nat) (S R : Nat → Prop) (s : Hs) (l : List F) (a : Option Addr) (ca : Nat) (h : HeldAt w nb S R s) (hE : HEnv p w) (hok : OkH s) (hla : LiesAt w a l) (hca : l.length ≤ ca) (hsm : Small l) (hap : l ≠ [] → ∀ b o t, a = some ⟨b, o, t⟩ → ¬ S b) :
    Calls Tryz.prog 48 #[.pointer (some ⟨nb, 0, none⟩), .slice a l.length ca] w fun e w' => (∃ v, e = .returned (.tuple #[.int .i64 (putH s l).2.1, v]) ∧ ErrAt p w' v (putH s l).2.2.1 (putH s l).2.2.2) ∧ ∃ S' R', HeldLeft HeldAt w nb S R (putH s l).1 w' S' R' := by
  have HSUM := Lib.hid (packSum_any p l a ca w hE.env hE.sum hla hca hsm)
  have HH := Lib.hid h
  have HE := Lib.hid hE
  have HO := Lib.hid hok
  have HL := Lib.hid hla
  have HAP := Lib.hid hap
  have hfew : l.length ≤ 100000 := by have := hsm.few; omega
  have HFIT := Lib.hid (sumT_fit l)
  clear h hE hok hla hap hsm hca
  go_enter Tryz.func48, Tryz.ntmps48
  go_wp2_with fail
  refine HSUM.out.mono ?_
  rintro e w1 ⟨⟨u, rfl, hu⟩, hb1⟩
  have HB1 := Lib.hid hb1
  by_cases hz : (treeFault l).1 = 0
  · have HZ := Lib.hid hz
    have hzz := treeFault_zero hz
    rw [hz] at hu
    have := hu.isNil
    subst this
    have HA : Hid (HeldAt w1 nb S R s) := HH.out.keep (T := fun _ => False) (Kept.of_below hb1) (fun _ _ f => f)
    have hla1 := HL.out.below hb1
    have HL1 := Lib.hid hla1
    have g8 := (HE.out.below hb1).env.s7
    obtain ⟨bm, vv, rs, hin, he, hS, hR⟩ := HA.out
    obtain ⟨sm, sl⟩ := s
    simp only at he hin
    subst he
    have HI := Lib.hid hin
    have HS := Lib.hid hS
    have c0 := hin.c0
    clear hu hb1 hzz hz hla1 hin hS hR
    by_cases hm : sm = 0
    · subst hm
      have HP := Lib.hid (putH_full (s := ⟨0, rs.map Rt.tr⟩) HZ.out rfl)
      go_wp2_with fail
      go_quiet (fail)
      go_wp2
      go_ret2
      refine ⟨⟨errV p 8, by rw [HP.out]; rfl, by rw [HP.out]; exact ErrAt.bare (c := 8) (by decide)⟩, S, R, ?_⟩
      rw [HP.out]
      exact left_same HH.out (below_drewN HB1.out _)
    · have hm' : ((sm : Int) == 0) = false := by simp; omega
      cases hs : spotH (rs.map Rt.tr) (sumT l : Int) with
      | some k =>
        have HP := Lib.hid (putH_there (s := ⟨sm, rs.map Rt.tr⟩) HZ.out hm hs)
        obtain ⟨hk, _⟩ := spotH_some hs
        have HT := Lib.hid (trees_some hs (by simpa using hk))
        have c1 := HI.out.c1
        clear hs hm
        generalize hx : treeV (rs[k]'(by simpa using hk)) = x at HT
        go_wp2_with (at_lookup; refine wpList_look_int rfl _ _ 110 rfl 3 43 Tryz.underlying3 Tryz.underlying110 (zero_trees _) bm _ _ rfl HI.out.map (sumT l : Int) rfl HFIT.out x true (by rw [HT.out]; rfl) (by rw [HT.out]; rfl) ?_)
        go_ret2
        refine ⟨⟨_, by rw [HP.out]; rfl, by rw [HP.out]; exact ErrAt.fine p _⟩, S, R, ?_⟩
        rw [HP.out]
        exact left_same HH.out HB1.out
      | none =>
        have HN := Lib.hid hs
        have HT := Lib.hid (trees_none hs)
        have c1 := HI.out.c1
        have c2 := HI.out.c2
        obtain ⟨av, cv, hv⟩ := owns_slice HI.out.row
        subst hv
        clear hs
        by_cases hfull : sm ≤ rs.length
        · have hfull' : ((rs.length : Int) == (sm : Int)) = true := by
            have := HO.out.few
            simp only [List.length_map] at this
            simp
            omega
          have hpos : 0 < (rs.map Rt.tr).length := by simp; omega
          have HP := Lib.hid (putH_goes (s := ⟨sm, rs.map Rt.tr⟩) HZ.out hm HN.out (by simpa using hfull))
          go_wp2_with (at_lookup; refine wpList_look_int rfl _ _ 110 rfl 3 43 Tryz.underlying3 Tryz.underlying110 (zero_trees _) bm _ _ rfl HI.out.map (sumT l : Int) rfl HFIT.out (.slice none 0 0) false (by rw [HT.out]; rfl) (by rw [HT.out]; rfl) ?_)
          go_quiet (fail)
          clear c0 c1 c2
          go_wp2_with fail
          refine (heldRemove_any _ nb S R ⟨sm, rs.map Rt.tr⟩ 0 (HA.out.keep (T := fun _ => False) (Kept.of_below (below_drewN (Below.refl _ _) _)) (fun _ _ f => f)) HO.out hpos).mono ?_
          rintro e w3 ⟨rfl, S3, R3, l3⟩
          have L3 := Lib.hid ((left_same HA.out (below_drewN (Below.refl _ _) _)).trans l3)
          have hla3 := lies_left (lies_left HL.out (Kept.of_below (S := S) HB1.out) HAP.out) L3.out.kept HAP.out
          have hn3 : spotH (Hs.mk sm ((rs.map Rt.tr).eraseIdx 0)).l (sumT l : Int) = none := spotH_none fun j hj => by
            have := spotH_absent HN.out _ (List.mem_of_mem_eraseIdx (List.getElem_mem hj))
            simpa using this
          have hs3 : (Hs.mk sm ((rs.map Rt.tr).eraseIdx 0)).l.length ≤ 1000 := by
            have h1 := HO.out.few
            have h2 := HO.out.most
            have h3 : ((rs.map Rt.tr).eraseIdx 0).length ≤ (rs.map Rt.tr).length := (List.eraseIdx_sublist _ _).length_le
            simp only at h1 h2 h3 ⊢
            omega
          clear l3
          go_wp2_with fail
          refine (heldAdd_any _ nb S3 R3 ⟨sm, (rs.map Rt.tr).eraseIdx 0⟩ (sumT l) l a ca L3.out.held hn3 HFIT.out hs3 hla3 hfew).mono ?_
          rintro e w4 ⟨rfl, S4, R4, l4⟩
          have L4 := Lib.hid ((left_same HH.out HB1.out).trans (L3.out.trans l4))
          clear l4 hla3 hn3 hs3
          go_wp2
          go_ret2
          refine ⟨⟨_, by rw [HP.out]; rfl, by rw [HP.out]; exact ErrAt.fine p _⟩, S4, R4, ?_⟩
          rw [HP.out]
          have hd : (rs.map Rt.tr).eraseIdx 0 = (rs.map Rt.tr).drop 1 := by cases rs <;> rfl
          have := L4.out
          simp only [hd] at this
          exact this
        · have hfull' : ((rs.length : Int) == (sm : Int)) = false := by simp; omega
          have HP := Lib.hid (putH_comes (s := ⟨sm, rs.map Rt.tr⟩) HZ.out hm HN.out (by simpa using hfull))
          have hs3 : (Hs.mk sm (rs.map Rt.tr)).l.length ≤ 1000 := by
            have h1 := HO.out.few
            have h2 := HO.out.most
            simp only at h1 h2 ⊢
            omega
          go_wp2_with (at_lookup; refine wpList_look_int rfl _ _ 110 rfl 3 43 Tryz.underlying3 Tryz.underlying110 (zero_trees _) bm _ _ rfl HI.out.map (sumT l : Int) rfl HFIT.out (.slice none 0 0) false (by rw [HT.out]; rfl) (by rw [HT.out]; rfl) ?_)
          go_quiet (fail)
          clear c0 c1 c2
          go_wp2_with fail
          refine (heldAdd_any _ nb S R ⟨sm, rs.map Rt.tr⟩ (sumT l) l a ca (HA.out.keep (T := fun _ => False) (Kept.of_below (below_drewN (Below.refl _ _) _)) (fun _ _ f => f)) HN.out HFIT.out hs3 (HL1.out.below (below_drewN (Below.refl _ _) _)) hfew).mono ?_
          rintro e w4 ⟨rfl, S4, R4, l4⟩
          have L4 := Lib.hid ((left_same HH.out HB1.out).trans ((left_same HA.out (below_drewN (Below.refl _ _) _)).trans l4))
          clear l4 hs3
          go_wp2
          go_ret2
          refine ⟨⟨_, by rw [HP.out]; rfl, by rw [HP.out]; exact ErrAt.fine p _⟩, S4, R4, ?_⟩
          rw [HP.out]
          exact L4.out
  · have HP := Lib.hid (putH_bad (s := s) hz)
    obtain ⟨T, v, rfl⟩ := hu.some hz
    have HU := Lib.hid hu
    clear hu hb1 hz
    go_wp2
    go_ret2
    refine ⟨⟨_, by rw [HP.out]; rfl, by rw [HP.out]; exact HU.out⟩, S, R, ?_⟩
    rw [HP.out]
    exact left_same HH.out HB1.out

/-- The program's package keeps what the laws' walks ask of it. -/
theorem heldCore (p : Nat → Addr) : HeldCore p HeldAt where
  lt := HeldAt.lt
  keep := HeldAt.keep
  new := heldNew_any
  put := fun w nb S R s l a ca h hE hok hl hca _ hs hap => heldPut_any p w nb S R s l a ca h hE hok hl hca hs hap
  get := fun w nb S R s n h hE hok hw => heldGet_any p w nb S R s n h hE hw fun x hx => by
    have := (tree_small (hok.right x hx).1).few
    omega
  sums := fun w nb S R s h hok => heldSums_any w nb S R s h (by have h1 := hok.few; have h2 := hok.most; omega)
end Go.Proofs.YtmcfkoenpikldaaGreatDoor
/-
  Package held: Copy: a contract, over this seat's translation.
-/
namespace Go.Proofs.YtmcfkoenpikldaaGreatDoor
open Go.RowKit Go.Shelf Go.Maps

set_option maxRecDepth 100000 in
set_option maxHeartbeats 2000000 in
theorem heldCopy_any (w : World) (nb : Nat) (S R : Nat → Prop) (s : Hs) (h : HeldAt w nb S R s) (hok : OkH s) :
    Calls Tryz.prog 110 #[.pointer (some ⟨nb, 0, none⟩)] w fun e w' => (∃ nb2 S2 R2, e = .returned (.pointer (some ⟨nb2, 0, none⟩)) ∧ HeldAt w' nb2 S2 R2 s ∧ ∀ b, S2 b ∨ R2 b → w.heap.size ≤ b) ∧ Below w.heap.size w w' := by
  obtain ⟨bm, v, rs, h, e, _, _⟩ := h
  obtain ⟨sm, sl⟩ := s
  simp only at e h
  subst e
  have hfew : rs.length ≤ sm := by have := hok.few; simpa using this
  have hmost : sm ≤ 40 := hok.most
  have H := Lib.hid h
  have HOK := Lib.hid hok
  have c0 := h.c0
  obtain ⟨av, cv, hv⟩ := owns_slice h.row
  subst hv
  have hmm : mostH (sm : Int) = sm := by unfold mostH; split <;> (try split) <;> omega
  have HMM := Lib.hid hmm
  clear h hok hmm
  go_enter Tryz.func110, Tryz.ntmps110
  go_wp2_with fail
  refine (heldNew_any w (sm : Int)).mono ?_
  rintro e w1 ⟨nb2, S1, R1, rfl, h1, hs1, hb1⟩
  rw [HMM.out] at h1
  have HB1 := Lib.hid hb1
  have HA1 := Lib.hid h1
  have HS1 := Lib.hid hs1
  have c2 := (H.out.below hb1).c2
  clear h1 hs1 hb1 c0
  go_wp2_with fail
  go_loopw [16] (fun i wr => ∃ (k : Nat) (S' R' : Nat → Prop), k ≤ rs.length ∧ i = .int .i64 k ∧ HeldAt wr nb2 S' R' ⟨sm, (rs.map Rt.tr).take k⟩ ∧ (∀ b, S' b ∨ R' b → w.heap.size ≤ b) ∧ Below w.heap.size w wr) (fun i _ => rs.length - (intOf i).toNat)
  case atStart => exact ⟨0, S1, R1, by omega, rfl, HA1.out, HS1.out, HB1.out⟩
  case round =>
    obtain ⟨k, S', R', hk, rfl, ha, hs, hb⟩ := hrel
    have HA := Lib.hid ha
    have HS := Lib.hid hs
    have HB := Lib.hid hb
    have HX := Lib.hid (H.out.below hb)
    clear ha hs hb c2 HA1 HS1 HB1
    by_cases hkl : k < rs.length
    · have hkl' : (k : Int) < (rs.length : Int) := by omega
      have hk0 : (0 : Int) ≤ (k : Int) := by omega
      have c1 := HX.out.c1
      have hkm : k < (rs.map Rt.tr).length := by simpa using hkl
      obtain ⟨g, cap, hv, hcap, hcm⟩ := owns_at HX.out.row (by omega)
      cases hv
      have z0 : wr.cell? ⟨g, k, none⟩ = some (.int .i64 (rs[k].n : Int)) := by
        rw [HX.out.row.cellAt k (by omega)]
        simp [sumsV, sumsI, hkl, iv]
      have hsp : spotH (rs.map Rt.tr) (rs[k].n : Int) = some k := by
        have := spotH_at HOK.out.once (k := k) hkm
        simpa [Rt.tr] using this
      have HT := Lib.hid (trees_some hsp hkl)
      have hfit := HOK.out.fit (x := rs[k].tr) (List.mem_map_of_mem (List.getElem_mem hkl))
      have HFT : Hid ((Lit.int .i64 (rs[k].n : Int)).wf = true) := hfit
      have hnone : spotH ((rs.map Rt.tr).take k) (rs[k].n : Int) = none := spotH_none fun j hj => by
        have hjk : j < k := by simp at hj; omega
        have : (rs.map Rt.tr)[j].n ≠ (rs.map Rt.tr)[k].n := once_lt HOK.out.once (j := j) (k := k) (by simp; omega) hkm (by omega)
        rw [List.getElem_take]
        have e : (rs.map Rt.tr)[k].n = rs[k].n := by simp [Rt.tr]
        omega
      have HN := Lib.hid hnone
      obtain ⟨hla, hlc, hln⟩ := HX.out.lies _ (List.getElem_mem hkl)
      have HL := Lib.hid hla
      have hsm := (tree_small (HOK.out.right rs[k].tr (List.mem_map_of_mem (List.getElem_mem hkl))).1).few
      have hxl : rs[k].l.length ≤ 100000 := by have : rs[k].l.length = rs[k].tr.l.length := rfl; omega
      have htk : (rs.map Rt.tr).take (k + 1) = (rs.map Rt.tr).take k ++ [(⟨rs[k].n, rs[k].l⟩ : Tr)] := by
        rw [List.take_succ_eq_append_getElem hkm]
        simp [Rt.tr]
      have HTK := Lib.hid htk
      have hlen : ((rs.map Rt.tr).take k).length ≤ 1000 := by simp; omega
      clear hsp hfit hnone hla hlc hln hsm htk hkm
      generalize rs[k] = x at z0 HT HFT HN HL hxl HTK
      obtain ⟨xn, xl, xa, xc⟩ := x
      simp only at z0 HFT HN HL hxl HTK
      go_wp2_with (at_lookup; refine wpList_look1_int rfl _ _ 110 rfl 3 43 Tryz.underlying3 Tryz.underlying110 (zero_trees _) bm _ _ rfl HX.out.map (xn : Int) rfl HFT.out (.slice xa xl.length xc) (by rw [HT.out]; rfl) ?_)
      refine (heldAdd_any wr nb2 S' R' ⟨sm, (rs.map Rt.tr).take k⟩ xn xl xa xc HA.out HN.out HFT.out hlen HL.out hxl).mono ?_
      rintro e w2 ⟨rfl, S2, R2, l2⟩
      have L2 := Lib.hid l2
      clear l2 z0 c1
      go_wp2
      go_roundw
      case rel =>
        refine ⟨k + 1, S2, R2, by omega, by go_num, ?_, fun b hb => ?_, HB.out.trans (L2.out.below _ HB.out.size (fun b hb => HS.out b (.inl hb)))⟩
        · have := L2.out.held
          rw [HTK.out]
          exact this
        · have hsz := HB.out.size
          rcases hb with hb | hb
          · exact (L2.out.own b hb).elim (fun e => HS.out b (.inl e)) (fun e => by omega)
          · rcases L2.out.ownR b hb with e | e | e
            · exact HS.out b (.inl e)
            · exact HS.out b (.inr e)
            · omega
      case measure => simp [intOf]; omega
    · have hge : ¬ ((k : Int) < (rs.length : Int)) := by omega
      have hkk : k = rs.length := by omega
      have HKK := Lib.hid hkk
      clear hkk
      go_wp2
      go_ret
      refine ⟨⟨nb2, rfl, S', R', ?_, HS.out⟩, HB.out⟩
      have := HA.out
      rwa [HKK.out, List.take_of_length_le (by simp)] at this
end Go.Proofs.YtmcfkoenpikldaaGreatDoor
