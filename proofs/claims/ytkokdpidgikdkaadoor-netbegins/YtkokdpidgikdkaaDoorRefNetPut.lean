/-
  The document's net: Put, Host: contracts, over this seat's translation.
-/
import Derived.Test.YtkokdpidgikdkaaDoorRefNetGet
import Derived.Maps.AppendAt
namespace Go.Proofs.YtkokdpidgikdkaaDoor
open Go.RowKit Go.Shelf

theorem Tryd.infoSite : (Tryd.prog.info? 76).map (fun i => (i.zero, i.size, i.bytes)) = some (some (.agg #[.string ⟨#[]⟩, .string ⟨#[]⟩, .int .i64 0]), 3, 40) := by kernel_rfl
theorem site_new (w : World) (x : Si) (T : TypeId) : ∀ j u, (sicells x)[j]? = some u → (w.alloc (.cells #[.string ⟨x.u.toArray⟩, .string ⟨x.t.toArray⟩, .int .i64 x.c] T)).cell? ((⟨w.heap.size, 0, none⟩ : Addr).add j) = some u := by
  intro j u h
  have hn := heap_new w (.cells #[.string ⟨x.u.toArray⟩, .string ⟨x.t.toArray⟩, .int .i64 x.c] T)
  have hc : ∀ k, (w.alloc (.cells #[.string ⟨x.u.toArray⟩, .string ⟨x.t.toArray⟩, .int .i64 x.c] T)).cell? ⟨w.heap.size, k, none⟩ = (#[.string ⟨x.u.toArray⟩, .string ⟨x.t.toArray⟩, .int .i64 x.c] : Array Value)[k]? := fun k => by
    unfold World.cell?
    rw [hn]
    rfl
  rcases j with _ | _ | _ | j
  · exact (hc 0).trans h
  · exact (hc 1).trans h
  · exact (hc 2).trans h
  · simp [sicells] at h

theorem frozen_alloc {w : World} {mb j : Nat} (o : Obj) (h : mb < w.heap.size) : (w.alloc o).frozen? ⟨mb, j, none⟩ = w.frozen? ⟨mb, j, none⟩ := by
  have e : (w.alloc o).heap[mb]? = w.heap[mb]? := by
    show (w.heap.push o)[mb]? = _
    rw [Array.getElem?_push_lt h, Array.getElem?_eq_getElem h]
  simp [World.frozen?, e]
/-- A place more: what is appended, stored in the net's field. -/
theorem RefAt.grown {w w2 : World} {mb : Nat} {vL vO v' : Value} {s : Ns} (h : RefAt w mb vL vO s) (o : Obj) (x : Si) (hown : w2.ownsRow (mb + 1) 76 3 v' (s.l.length + 1) (scells s.l ++ sicells x)) (hgrow : (w.alloc o).grownBy w2 vL.ownBlock)
    (hloc : v'.ownBlock = vL.ownBlock ∨ v'.ownBlock = some (w.alloc o).heap.size) : RefLeft w mb vL vO { s with l := s.l ++ [x] } (w2.setCell ⟨mb, 0, none⟩ v') v' vO := by
  have hlt := h.lt
  have hsz : (w.alloc o).heap.size = w.heap.size + 1 := by simp
  have hL : ∀ g, vL.ownBlock = some g → mb < g ∧ g < w.heap.size := fun g e => by have := h.rows.lt g e; omega
  have hO : ∀ g, vO.ownBlock = some g → mb < g ∧ g < w.heap.size := fun g e => by have := h.offs.lt g e; omega
  have hmb : w2.heap[mb]? = w.heap[mb]? := by
    rw [hgrow.block mb (by omega) (fun e => by have := hL mb e.symm; omega)]
    show (w.heap.push o)[mb]? = _
    rw [Array.getElem?_push_lt hlt, Array.getElem?_eq_getElem hlt]
  have hc : ∀ j, w2.cell? ⟨mb, j, none⟩ = w.cell? ⟨mb, j, none⟩ := fun j => by simp [World.cell?, hmb]
  have hf : ∀ j, w2.frozen? ⟨mb, j, none⟩ = w.frozen? ⟨mb, j, none⟩ := fun j => by simp [World.frozen?, hmb]
  have hv' : ∀ g, v'.ownBlock = some g → mb < g := fun g e => by have := hown.lt g e; omega
  have hoffs : w2.ownsRow (mb + 1) 9 1 vO s.off.length (s.off.map sv) := (h.offs.alloc o).kept hgrow (by
    cases e : vO.ownBlock with
    | none => exact .inl rfl
    | some g => exact .inr fun e' => h.apart g e'.symm e)
  refine ⟨⟨World.cell?_setCell_same' _ _ _ (by rw [hc 0, h.c0]; rfl), ?_, ?_, fun j => ?_, ?_, ?_, fun g hg e => ?_⟩, ?_, ?_, fun g hg => ?_, fun g hg => .inl hg⟩
  · rw [World.cell?_setCell_other (h := by simp), hc 1]; exact h.c1
  · rw [World.cell?_setCell_other (h := by simp), hc 2]; exact h.c2
  · rw [World.frozen?_setCell, hf j]; exact h.live j
  · have := ownsRow_setCell_other hown (a := ⟨mb, 0, none⟩) (fun e => by have := hv' mb e; omega) v'
    rw [scells_app, List.length_append]
    simpa [scells] using this
  · exact ownsRow_setCell_other hoffs (a := ⟨mb, 0, none⟩) (fun e => by have := hO mb e; omega) v'
  · rcases hloc with hl | hl
    · exact h.apart g (hl ▸ hg) e
    · rw [hl] at hg
      cases hg
      have := hO _ e
      omega
  · exact (((Below.refl mb w).alloc (by omega) o).grown hgrow (by omega) (fun k e => by have := hL k e; omega)).setCell (p := ⟨mb, 0, none⟩) (Nat.le_refl _) _
  · have k1 : Kept (fun b => b = mb ∨ vL.ownBlock = some b) w (w.alloc o) := Kept.of_below ((Below.refl _ _).alloc (Nat.le_refl _) _)
    have k2 : Kept (fun b => b = mb ∨ vL.ownBlock = some b) (w.alloc o) w2 := ⟨hgrow.size, fun b hb hs => hgrow.block b hb fun e => hs (.inr e.symm)⟩
    exact (k1.trans k2).trans (Kept.set w2 (.inl rfl) v')
  · rcases hloc with hl | hl
    · exact .inl (hl ▸ hg)
    · rw [hl] at hg
      cases hg
      exact .inr (by omega)

set_option maxRecDepth 100000 in
set_option maxHeartbeats 4000000 in
theorem refPutN_any (mb : Nat) (vL vO : Value) (s : Ns) (u t : List UInt8) (w : World) (h : RefAt w mb vL vO s) (hl : s.l.length ≤ 100000) (hu : u.length ≤ 90000) (ht : t.length ≤ 100000) :
    Calls Tryd.prog 21 #[.pointer (some ⟨mb, 0, none⟩), .string ⟨u.toArray⟩, .string ⟨t.toArray⟩] w fun e w' => e = .returned (.int .i64 (putN s u t).2) ∧ ∃ vL' vO', RefLeft w mb vL vO (putN s u t).1 w' vL' vO' := by
  obtain ⟨i0, hi, hz0, hz1, hz2⟩ := info_parts Tryd.infoSite
  have H := Lib.hid h
  clear h
  obtain ⟨c, hck⟩ : ∃ c, checkK u = c := ⟨_, rfl⟩
  obtain ⟨z, hz⟩ : ∃ z : Int, ((c : Nat) : Int) = z := ⟨_, rfl⟩
  go_enter Tryd.func21, Tryd.ntmps21
  go_wp2_with fail
  refine (linkError_is u z _ hu (by rw [hck, hz])).mono ?_
  rintro e w1 ⟨rfl, hb1⟩
  have H1 := Lib.hid (H.out.below hb1)
  have HL1 := Lib.hid (RefLeft.of_below H.out hb1)
  clear hb1
  by_cases hpos : 0 < c
  · have HC : Hid (putN s u t = (s, c)) := by
      show putN s u t = (s, c)
      obtain ⟨j, rfl⟩ : ∃ j, c = j + 1 := ⟨c - 1, by omega⟩
      exact putN_bad hck
    have HZ := Lib.hid hz
    have hz0 : 0 < z := by omega
    clear hck hz hpos
    go_wp2
    go_ret
    exact ⟨by rw [HC.out]; show Ending.returned (.int .i64 z) = _; rw [← HZ.out], vL, vO, by rw [HC.out]; exact HL1.out⟩
  obtain rfl : c = 0 := by omega
  obtain rfl : z = 0 := by omega
  have HK := Lib.hid hck
  clear hck hz hpos
  by_cases hlong : 20000 < t.length
  · have HC := Lib.hid (putN_long (s := s) HK.out hlong)
    have hlong' : (20000 : Int) < (t.length : Int) := by omega
    go_wp2
    go_ret
    exact ⟨by rw [HC.out]; rfl, vL, vO, by rw [HC.out]; exact HL1.out⟩
  have hlong' : ¬ (20000 : Int) < (t.length : Int) := by omega
  cases hs : spotN s.l u with
  | some i =>
    obtain ⟨hi2, hiu⟩ := spot_some hs
    have HC := Lib.hid (putN_there HK.out hlong hs)
    have HA := Lib.hid (atN_some hs)
    obtain ⟨g, cap, rfl, hcap, k0, k1, k2, kz⟩ := H1.out.site hi2
    have HX1 := Lib.hid (H1.out.store hi2 (j := 1) (by omega) (.string ⟨t.toArray⟩) ⟨s.l[i].u, t, s.l[i].c⟩ rfl)
    have hi3 : i < (s.l.set i ⟨s.l[i].u, t, s.l[i].c⟩).length := by simpa using hi2
    have hx2 := HX1.out.ref.site (k := i) hi3
    obtain ⟨g2, cap2, hv2, _, _, _, m2, mz⟩ := hx2
    have hlen : (s.l.set i ⟨s.l[i].u, t, s.l[i].c⟩).length = s.l.length := by simp
    have hv3 : Value.slice (some ⟨g, 0, none⟩) s.l.length cap = .slice (some ⟨g, 0, none⟩) (s.l.set i ⟨s.l[i].u, t, s.l[i].c⟩).length cap := by rw [hlen]
    have hr1 : RefAt (w1.setCell ⟨g, i * 3 + 1, none⟩ (.string ⟨t.toArray⟩)) mb (.slice (some ⟨g, 0, none⟩) (s.l.set i ⟨s.l[i].u, t, s.l[i].c⟩).length cap) vO { s with l := s.l.set i ⟨s.l[i].u, t, s.l[i].c⟩ } := by
      rw [← hv3]
      exact HX1.out.ref
    have hX2 := RefAt.store (s := { s with l := s.l.set i ⟨s.l[i].u, t, s.l[i].c⟩ }) (k := i) hr1 hi3 (j := 2) (by omega) (.int .i64 (-1)) ⟨u, t, -1⟩ (by
      show sicells ⟨u, t, -1⟩ = (sicells ((s.l.set i ⟨s.l[i].u, t, s.l[i].c⟩)[i]'hi3)).set 2 (.int .i64 (-1))
      rw [List.getElem_set_self]
      simp [sicells, hiu])
    rw [← hv3] at hX2
    have hset : (s.l.set i ⟨s.l[i].u, t, s.l[i].c⟩).set i ⟨u, t, -1⟩ = s.l.set i ⟨u, t, -1⟩ := by simp
    have HX := Lib.hid (HL1.out.trans (HX1.out.trans hX2))
    rw [show (({ s with l := s.l.set i ⟨s.l[i].u, t, s.l[i].c⟩ } : Ns).l.set i ⟨u, t, -1⟩) = s.l.set i ⟨u, t, -1⟩ from hset] at HX
    have c0 := H1.out.c0
    have d0 := HX1.out.ref.c0
    have kz1 := kz (i * 3 + 1)
    have kz2 := kz (i * 3 + 2)
    have hge : g2 = g := by
      have e := hv2
      injection e with e1
      injection e1 with e2
      injection e2 with e3
      exact e3.symm
    subst hge
    have m2' : (w1.setCell ⟨g2, i * 3 + 1, none⟩ (.string ⟨t.toArray⟩)).cell? ⟨g2, i * 3 + 2, none⟩ = some (.int .i64 s.l[i].c) := by
      rw [World.cell?_setCell_other (h := by simp)]
      exact k2
    have hi' : (i : Int) < (s.l.length : Int) := by omega
    have hi0 : (0 : Int) ≤ (i : Int) := by omega
    clear hs hiu hv3 hr1 hX2 hset m2 mz kz hlen HX1
    go_wp2_with fail
    refine (refFind_is mb _ vO s u _ _ H1.out hl HA.out).mono ?_
    rintro e w' ⟨rfl, hw'⟩
    obtain rfl : w1 = w' := hw'.symm
    go_wp2
    go_ret
    exact ⟨by rw [HC.out]; rfl, _, vO, by rw [HC.out]; exact HX.out⟩
  | none =>
    have HA := Lib.hid (atN_none hs)
    obtain ⟨av, cv, hv⟩ := owns_slice H1.out.rows
    subst hv
    have c0 := H1.out.c0
    by_cases h60 : 60 ≤ s.l.length
    · have HC := Lib.hid (putN_full HK.out hlong hs h60)
      have h60' : (60 : Int) ≤ (s.l.length : Int) := by omega
      clear hs
      go_wp2_with fail
      refine (refFind_is mb _ vO s u _ _ H1.out hl HA.out).mono ?_
      rintro e w' ⟨rfl, hw'⟩
      obtain rfl : w1 = w' := hw'.symm
      go_wp2
      go_ret
      exact ⟨by rw [HC.out]; rfl, _, vO, by rw [HC.out]; exact HL1.out⟩
    · have HC := Lib.hid (putN_new HK.out hlong hs h60)
      have h60' : ¬ (60 : Int) ≤ (s.l.length : Int) := by omega
      have hrows := H1.out.rows
      have hmlt := H1.out.lt
      have hz00 := H1.out.live 0
      have hLb : ∀ k, (Value.slice av s.l.length cv).ownBlock = some k → mb < k := fun k e => by have := H1.out.rows.lt k e; omega
      clear hs
      go_wp2_with fail
      refine (refFind_is mb _ vO s u _ _ H1.out hl HA.out).mono ?_
      rintro e w' ⟨rfl, hw'⟩
      obtain rfl : w1 = w' := hw'.symm
      go_wp2_with (at_builtin; refine wpList_append_own_at _ rfl _ _ 42 rfl (mb + 1) 76 i0 (.agg #[.string ⟨#[]⟩, .string ⟨#[]⟩, .int .i64 0]) 3 40 Tryd.underlying42 hi hz0 hz1 hz2 rfl (by decide) _ _ _ rfl (hrows.alloc _) ⟨w1.heap.size, 0, none⟩ 1 1 (sicells ⟨u, t, -1⟩) rfl rfl (site_new _ ⟨u, t, -1⟩ _) (by simp [sicells, Value.oneCell']) (by unfold maxLen; omega) (by omega) (by simp; omega) ?_; intro v' w2 hown' hgrow _ hloc; obtain ⟨av2, cv2, hv2⟩ := owns_slice hown'; subst hv2; have q0 : w2.cell? ⟨mb, 0, none⟩ = some (.slice av s.l.length cv) := (World.cell?_of_block (a := ⟨mb, 0, none⟩) (hgrow.block mb (by simp; omega) (fun e => by have := hLb mb e.symm; omega))).trans ((World.cell?_alloc_lt _ _ _ hmlt).trans c0); have qz : w2.frozen? ⟨mb, 0, none⟩ = false := (World.frozen?_of_block (a := ⟨mb, 0, none⟩) (hgrow.block mb (by simp; omega) (fun e => by have := hLb mb e.symm; omega))).trans ((frozen_alloc _ hmlt).trans hz00); have HX := Lib.hid (HL1.out.trans (H1.out.grown _ ⟨u, t, -1⟩ hown' hgrow hloc)))
      go_ret
      exact ⟨by rw [HC.out]; rfl, _, vO, by rw [HC.out]; exact HX.out⟩
end Go.Proofs.YtkokdpidgikdkaaDoor
