/-
  Package lock: load, Load: contracts, over this seat's translation.
-/
import Derived.Test.YtmcfkoenpikldaaGreatDoorPkLock
import Derived.Test.YtmcfkoenpikldaaGreatDoorPkHeldPkHeldPutPkHeldDoPkHeldCopy
import Derived.Test.YtmcfkoenpikldaaGreatDoorPkUnderPkDeletePkInsert
import Derived.Test.YtmcfkoenpikldaaGreatDoorToldPkPackRead
import Derived.Test.YtmcfkoenpikldaaGreatDoorPkMakePkPackMakePkPackSum
import Derived.Test.YtmcfkoenpikldaaGreatDoorLockPureLoadPureLoadsPure
namespace Go.Proofs.YtmcfkoenpikldaaGreatDoor
open Go.RowKit Go.Shelf

theorem part_le {s : List UInt8} (h : isPart s = true) : s.length ≤ 12 := by
  simp only [isPart, Bool.and_eq_true, decide_eq_true_eq] at h
  omega
theorem loadOne_sum {h : Hs} {all : List F} {x : Wt} (hr : (treeFault (underL all x.n)).1 = 0) (hs : ((sumT (underL all x.n) : Nat) : Int) ≠ x.m) : loadOne h all x = (h, 12) := by
  unfold loadOne
  rw [if_neg (by omega), if_pos hs]
theorem loadOne_put {h : Hs} {all : List F} {x : Wt} (hr : (treeFault (underL all x.n)).1 = 0) (hs : ((sumT (underL all x.n) : Nat) : Int) = x.m) : loadOne h all x = ((putH h (underL all x.n)).1, (putH h (underL all x.n)).2.2.1) := by
  unfold loadOne
  rw [if_neg (by omega), if_neg (by simp [hs])]
/-- Put where there is room for none. -/
theorem heldPut_full (p : Nat → Addr) (w : World) (nb : Nat) (S R : Nat → Prop) (s : Hs) (l : List F) (a : Option Addr) (ca : Nat) (h : HeldAt w nb S R s) (hE : HEnv p w) (hla : LiesAt w a l) (hca : l.length ≤ ca) (hsm : Small l) (hz : (treeFault l).1 = 0) (hm : s.most = 0) :
    Calls Tryz.prog 48 #[.pointer (some ⟨nb, 0, none⟩), .slice a l.length ca] w fun e w' => e = .returned (.tuple #[.int .i64 0, errV p 8]) ∧ Below w.heap.size w w' := by
  have HSUM := Lib.hid (packSum_any p l a ca w hE.env hE.sum hla hca hsm)
  have HH := Lib.hid h
  have HE := Lib.hid hE
  have HZ := Lib.hid (treeFault_zero hz)
  clear h hE hla hsm hca hz
  go_enter Tryz.func48, Tryz.ntmps48
  go_wp2_with fail
  refine HSUM.out.mono ?_
  rintro e w1 ⟨⟨u, rfl, hu⟩, hb1⟩
  have HB1 := Lib.hid hb1
  rw [HZ.out] at hu
  have := hu.isNil
  subst this
  have g8 := (HE.out.below hb1).env.s7
  obtain ⟨bm, vv, rs, hin, he, hS, hR⟩ := HH.out.keep (T := fun _ => False) (Kept.of_below hb1) (fun _ _ f => f)
  have c0 := hin.c0
  rw [hm] at c0
  clear hu hb1 hin hS hR he hm
  go_wp2_with fail
  go_quiet (fail)
  go_wp2
  go_ret2
  exact ⟨rfl, below_drewN HB1.out _⟩

set_option maxRecDepth 100000 in
set_option maxHeartbeats 4000000 in
theorem lockLoad1_any (p : Nat → Addr) (o : Hs) (nb : Nat) (S R : Nat → Prop) (all : List F) (a : Option Addr) (ca : Nat) (n u k : List UInt8) (s m : Int) (w : World) (hA : HeldAt w nb S R o) (hE : HEnv p w) (hok : OkH o) (hl : LiesAt w a all) (hca : all.length ≤ ca) (hs : Small all) (hn : n.length ≤ 40000)
    (ht : (treeFault all).1 = 0) (hr : (treeFault (underL all n)).1 = 0) (hp : o.most = 0 ∨ (putH o (underL all n)).2.2.1 = 0) :
    Calls Tryz.prog 111 #[.pointer (some ⟨nb, 0, none⟩), .slice a all.length ca, wv ⟨n, u, k, s, m⟩] w fun e w' => e = .returned (errV p (loadOne o all ⟨n, u, k, s, m⟩).2) ∧ ∃ S' R', HeldLeft HeldAt w nb S R (loadOne o all ⟨n, u, k, s, m⟩).1 w' S' R' := by
  have HE := Lib.hid hE
  have HA := Lib.hid hA
  have HOK := Lib.hid hok
  have HL := Lib.hid hl
  have HR := Lib.hid hr
  have HS := Lib.hid hs
  have HSU := Lib.hid (tree_small hr)
  have hB0 : Below w.heap.size w (w.alloc (wo n u k s m)) := (Below.refl _ _).alloc (Nat.le_refl _) _
  have HE0 := Lib.hid (hE.below hB0)
  have HL0 := Lib.hid (hl.below hB0)
  have HU : Hid (underT all n = (underL all n, 0, -1)) := by show underT all n = _; unfold underT; rw [if_neg (by omega)]
  have HTF := Lib.hid (treeFault_zero hr)
  clear hE hA hok hl hr hs ht hB0
  go_enter Tryz.func111, Tryz.ntmps111
  go_wp2_with fail
  refine (under_new p all a ca n _ HE0.out.env HL0.out hca HS.out hn).mono ?_
  rintro e w1 ⟨h1, hb1⟩
  obtain ⟨a1, c1, v1, rfl, hl1, hc1, hv1, hn1⟩ := h1.open HU.out
  have := hv1.isNil
  subst this
  obtain ⟨hw1, hB1⟩ := want_box hb1
  have HW1 := Lib.hid hw1
  have HB1 := Lib.hid hB1
  have HL1 := Lib.hid hl1
  have HN1 : Hid (underL all n ≠ [] → ∀ b o t, a1 = some ⟨b, o, t⟩ → w.heap.size ≤ b) := fun hne b o t e => by have := hn1.new hne b o t e; simp at this; omega
  have HN2 := Lib.hid (hn1.empty hl1)
  clear h1 hv1 hb1 hw1 hB1 hl1 hn1
  obtain ⟨g0, g1, g2, g3, g4⟩ := HW1.out
  go_wp2_with fail
  refine (packSum_any p (underL all n) a1 c1 _ (HE.out.below HB1.out).env (HE.out.below HB1.out).sum HL1.out hc1 HSU.out).mono ?_
  rintro e w2 ⟨⟨v, rfl, hv⟩, hb2⟩
  rw [HTF.out] at hv
  have := hv.isNil
  subst this
  have HB2 := Lib.hid (HB1.out.trans (hb2.mono HB1.out.size))
  have hw2 := HW1.out.below hb2
  have HL2 := Lib.hid (HL1.out.below hb2)
  clear hv hb2 g0 g1 g2 g3 g4 HW1 HB1 HL1
  obtain ⟨g0, g1, g2, g3, g4⟩ := hw2
  by_cases hsum : ((sumT (underL all n) : Nat) : Int) = m
  · have HT := Lib.hid (loadOne_put (h := o) (x := ⟨n, u, k, s, m⟩) HR.out hsum)
    subst hsum
    have hA2 := HA.out.keep (T := fun _ => False) (Kept.of_below HB2.out) (fun _ _ f => f)
    rcases hp with hm | hp
    · have HPF := Lib.hid (putH_full (s := o) HR.out hm)
      go_wp2_with fail
      refine (heldPut_full p _ nb S R o (underL all n) a1 c1 hA2 (HE.out.below HB2.out) HL2.out hc1 HSU.out HR.out hm).mono ?_
      rintro e w3 ⟨rfl, hb3⟩
      have HB3 := Lib.hid (HB2.out.trans (hb3.mono HB2.out.size))
      clear hb3 hA2 g0 g1 g2 g3 g4
      go_wp2
      go_ret
      refine ⟨by rw [HT.out, HPF.out]; rfl, S, R, ?_⟩
      rw [HT.out, HPF.out]
      exact left_same HA.out HB3.out
    · have HP0 := Lib.hid hp
      go_wp2_with fail
      refine ((heldCore p).put _ nb S R o (underL all n) a1 c1 hA2 (HE.out.below HB2.out) HOK.out HL2.out hc1 HN2.out HSU.out (fun hne b o' t e hS => ?_)).mono ?_
      · have := HN1.out hne b o' t e
        have := HA.out.lt b (.inl hS)
        omega
      · rintro e w3 ⟨⟨v, rfl, hv⟩, S', R', hleft⟩
        rw [HP0.out] at hv
        have := hv.isNil
        subst this
        have HLF := Lib.hid hleft
        clear hv hleft hA2 g0 g1 g2 g3 g4
        go_wp2
        go_ret
        refine ⟨by rw [HT.out, HP0.out]; rfl, S', R', ?_⟩
        rw [HT.out]
        exact (left_same HA.out HB2.out).trans HLF.out
  · have HT := Lib.hid (loadOne_sum (h := o) (x := ⟨n, u, k, s, m⟩) HR.out hsum)
    have hne : (((sumT (underL all n) : Nat) : Int) == m) = false := by simpa using hsum
    have s11 := (HE.out.below HB2.out).env.s11
    clear hsum
    go_wp2
    go_ret
    refine ⟨by rw [HT.out]; rfl, S, R, ?_⟩
    rw [HT.out]
    exact left_same HA.out HB2.out
/-- What is held is laid in the place of another. -/
theorem held_assign {w0 w : World} {nb nb2 : Nat} {S R S2 R2 : Nat → Prop} {s s2 : Hs} (hb : Below w0.heap.size w0 w) (h : HeldAt w0 nb S R s) (h2 : HeldAt w nb2 S2 R2 s2) (hs : ∀ b, S2 b → w0.heap.size ≤ b) (hr : ∀ b, R2 b → R b ∨ w0.heap.size ≤ b) :
    ∃ bm2 v2, w.cell? ⟨nb2, 0, none⟩ = some (.int .i64 s2.most) ∧ w.cell? ⟨nb2, 1, none⟩ = some (.map (some bm2)) ∧ w.cell? ⟨nb2, 2, none⟩ = some v2 ∧ (∃ x0 x1 x2, w.cell? ⟨nb, 0, none⟩ = some x0 ∧ w.cell? ⟨nb, 1, none⟩ = some x1 ∧ w.cell? ⟨nb, 2, none⟩ = some x2) ∧ (∀ j, w.frozen? ⟨nb, j, none⟩ = false) ∧ (∃ av nv cv, v2 = .slice av nv cv) ∧
      HeldLeft HeldAt w0 nb S R s2 (((w.setCell ⟨nb, 0, none⟩ (.int .i64 s2.most)).setCell ⟨nb, 1, none⟩ (.map (some bm2))).setCell ⟨nb, 2, none⟩ v2) (wset nb bm2 v2) R2 := by
  obtain ⟨bm, v, rs, hin, he, rfl, rfl⟩ := h
  obtain ⟨bm2, v2, rs2, hin2, he2, rfl, rfl⟩ := h2
  have hX := hin.below hb
  have hnb : nb < w0.heap.size := block_lt_of_cell hin.c0
  have hn2 : nb2 ≠ nb := fun e => by have := hs nb2 (.inl rfl); omega
  have hbm : bm2 ≠ nb := fun e => by have := hs bm2 (.inr (.inl rfl)); omega
  have hv2 : v2.ownBlock ≠ some nb := fun e => by have := hs nb (.inr (.inr e)); omega
  have hlies : ∀ b, rset rs2 b → b ≠ nb := fun b hb2 e => by
    subst e
    rcases hr b hb2 with h | h
    · exact hin.sep h (.inl rfl)
    · omega
  obtain ⟨W, hW⟩ : ∃ W, W = ((w.setCell ⟨nb, 0, none⟩ (.int .i64 s2.most)).setCell ⟨nb, 1, none⟩ (.map (some bm2))).setCell ⟨nb, 2, none⟩ v2 := ⟨_, rfl⟩
  have hk : ∀ b, b ≠ nb → W.heap[b]? = w.heap[b]? := fun b hne => by
    rw [hW, Below.heap_setCell _ _ _ _ hne, Below.heap_setCell _ _ _ _ hne, Below.heap_setCell _ _ _ _ hne]
  have hsz : W.heap.size = w.heap.size := by rw [hW]; simp
  have e0 : W.cell? ⟨nb, 0, none⟩ = some (.int .i64 s2.most) := by
    rw [hW, World.cell?_setCell_other (h := by simp), World.cell?_setCell_other (h := by simp)]
    exact World.cell?_setCell_same' _ _ _ (by rw [hX.c0]; rfl)
  have e1 : W.cell? ⟨nb, 1, none⟩ = some (.map (some bm2)) := by
    rw [hW, World.cell?_setCell_other (h := by simp)]
    refine World.cell?_setCell_same' _ _ _ ?_
    rw [World.cell?_setCell_other (h := by simp), hX.c1]
    rfl
  have e2 : W.cell? ⟨nb, 2, none⟩ = some v2 := by
    rw [hW]
    refine World.cell?_setCell_same' _ _ _ ?_
    rw [World.cell?_setCell_other (h := by simp), World.cell?_setCell_other (h := by simp), hX.c2]
    rfl
  have ef : ∀ j, W.frozen? ⟨nb, j, none⟩ = false := fun j => by rw [hW, World.frozen?_setCell, World.frozen?_setCell, World.frozen?_setCell]; exact hX.live j
  refine ⟨bm2, v2, hin2.c0, hin2.c1, hin2.c2, ⟨_, _, _, hX.c0, hX.c1, hX.c2⟩, hX.live, (by obtain ⟨av, cv, e⟩ := owns_slice hin2.row; exact ⟨av, _, cv, e⟩), ?_⟩
  rw [← hW]
  refine ⟨⟨bm2, v2, rs2, ⟨e0, e1, e2, ef, hin2.map.kept (hk bm2 hbm), owns_kept hin2.row fun g hg => hk g (fun e => hv2 (by rw [hg, e])), hv2, fun r hr2 => ?_, fun r hr2 hl b o t e => ⟨hlies b ⟨r, hr2, hl, o, t, e⟩, (hin2.apart r hr2 hl b o t e).2⟩⟩, he2, rfl, rfl⟩, fun B hB hBS => ?_, ⟨?_, fun b hbl hnS => ?_⟩, fun b hb2 => ?_, fun b hb2 => (hr b hb2).elim (fun e => .inr (.inl e)) (fun e => .inr (.inr e))⟩
  · obtain ⟨h1, h2, h3⟩ := hin2.lies r hr2
    exact ⟨lies_kept h1 fun b o t hl e => hk b (hlies b ⟨r, hr2, hl, o, t, e⟩), h2, h3⟩
  · rw [hW]
    have hBn : B ≤ nb := hBS nb (.inl rfl)
    exact ((((hb.mono hB).setCell (p := ⟨nb, 0, none⟩) hBn _).setCell (p := ⟨nb, 1, none⟩) hBn _).setCell (p := ⟨nb, 2, none⟩) hBn _)
  · rw [hsz]; exact hb.size
  · rw [hk b (fun e => hnS (.inl e))]
    exact hb.block b hbl
  · rcases hb2 with rfl | rfl | hb2
    · exact .inl (.inl rfl)
    · exact .inr (hs _ (.inr (.inl rfl)))
    · exact .inr (hs _ (.inr (.inr hb2)))
theorem load_bad {h : Hs} {l : List Wt} {s : List UInt8} (hz : (lockFault l).1 ≠ 0) : loadL h l s = (h, lockFault l) := by unfold loadL; rw [if_pos hz]
theorem load_read {h : Hs} {l : List Wt} {s : List UInt8} {c : Nat} {i : Int} (hl : Lock l) (hr : readP s = ([], c, i)) (hc : c ≠ 0) : loadL h l s = (h, c, i) := by
  unfold loadL
  rw [if_neg (by rw [lock_zero hl]; simp), hr, if_pos hc]
theorem load_all {h o : Hs} {l : List Wt} {s : List UInt8} {all : List F} (hl : Lock l) (hr : readP s = (all, 0, -1)) (ha : loadAll h all l 0 = (o, 0, -1)) : loadL h l s = (o, 0, -1) := by
  unfold loadL
  rw [if_neg (by rw [lock_zero hl]; simp), hr, if_neg (by simp), ha]
  simp
theorem load_stop {h o : Hs} {l : List Wt} {s : List UInt8} {all : List F} {c : Nat} {i : Int} (hl : Lock l) (hr : readP s = (all, 0, -1)) (ha : loadAll h all l 0 = (o, c + 1, i)) : loadL h l s = (h, c + 1, i) := by
  unfold loadL
  rw [if_neg (by rw [lock_zero hl]; simp), hr, if_neg (by simp), ha]
  simp
theorem loadAll_cons (o : Hs) (all : List F) (x : Wt) (r : List Wt) (i : Nat) : loadAll o all (x :: r) i = if (loadOne o all x).2 ≠ 0 then (o, (loadOne o all x).2, (i : Int)) else loadAll (loadOne o all x).1 all r (i + 1) := rfl
theorem loadAll_step {o : Hs} {all : List F} {x : Wt} {r : List Wt} {i : Nat} (h : (loadOne o all x).2 = 0) : loadAll o all (x :: r) i = loadAll (loadOne o all x).1 all r (i + 1) := by rw [loadAll_cons, if_neg (by omega)]
theorem loadAll_stop {o : Hs} {all : List F} {x : Wt} {r : List Wt} {i c : Nat} (h : (loadOne o all x).2 = c + 1) : loadAll o all (x :: r) i = (o, c + 1, (i : Int)) := by rw [loadAll_cons, if_pos (by omega), h]
theorem putH_code {o : Hs} {t : List F} (ht : (treeFault t).1 = 0) : o.most = 0 ∨ (putH o t).2.2.1 = 0 := by
  by_cases hm : o.most = 0
  · exact .inl hm
  · right
    unfold putH
    rw [if_neg (by omega), if_neg hm]
    split <;> rfl
theorem loadOne_ok {o : Hs} {all : List F} {x : Wt} (h : OkH o) : OkH (loadOne o all x).1 := by
  unfold loadOne
  split
  · exact h
  · split
    · exact h
    · exact h.put _
theorem loadOne_le {o : Hs} {all : List F} {x : Wt} (hr : (treeFault (underL all x.n)).1 = 0) : (loadOne o all x).2 ≤ 12 := by
  unfold loadOne
  rw [if_neg (by omega)]
  split
  · simp
  · unfold putH
    rw [if_neg (by omega)]
    split
    · simp
    · split <;> simp

set_option maxRecDepth 100000 in
set_option maxHeartbeats 4000000 in
theorem lockLoad_any (p : Nat → Addr) (h : Hs) (nb : Nat) (S R : Nat → Prop) (l : List Wt) (a : Option Addr) (ca : Nat) (s : List UInt8) (w : World) (hA : HeldAt w nb S R h) (hE : WEnv p w) (hok : OkH h) (hl : WLies w a l) (hca : l.length ≤ ca) (hs : SmallW l) (hlen : s.length ≤ 90000)
    (hr : (readP s).2.1 = 0 → ∀ x ∈ l, (treeFault (underL (readP s).1 x.n)).1 = 0) :
    Calls Tryz.prog 50 #[.pointer (some ⟨nb, 0, none⟩), .slice a l.length ca, .string ⟨s.toArray⟩] w fun e w' => (∃ v, e = .returned v ∧ ErrAt p w' v (loadL h l s).2.1 (loadL h l s).2.2) ∧ ∃ S' R', HeldLeft HeldAt w nb S R (loadL h l s).1 w' S' R' := by
  have HA := Lib.hid hA
  have HE := Lib.hid hE
  have HOK := Lib.hid hok
  have HL := Lib.hid hl
  have HS := Lib.hid hs
  have HR := Lib.hid hr
  clear hA hE hok hl hs hr
  by_cases hz : (lockFault l).1 = 0
  · have hlk := lock_iff.1 hz
    have HK := Lib.hid hlk
    have HF := Lib.hid (lock_zero hlk)
    have h20 := hlk.few
    clear hz hlk
    go_enter Tryz.func50, Tryz.ntmps50
    go_wp2_with fail
    refine (lockCheck_any p l a ca _ HE.out HL.out hca HS.out).mono ?_
    rintro e w1 ⟨⟨v, rfl, hv⟩, hb1⟩
    rw [HF.out] at hv
    have := hv.isNil
    subst this
    have HB1 := Lib.hid hb1
    clear hv hb1
    go_wp2_with fail
    refine (packRead_any p s _ (HE.out.below HB1.out).env (HE.out.below HB1.out).sum hlen).mono ?_
    rintro e w2 ⟨h2, hb2⟩
    have HB2 := Lib.hid (HB1.out.trans (hb2.mono HB1.out.size))
    rcases readP_cases s with ⟨all, hrd, _, htr⟩ | ⟨c, i, hrd, hc⟩
    · obtain ⟨a2, c2, v2, rfl, hl2, hc2, hv2⟩ := h2.open hrd
      have := hv2.isNil
      subst this
      have HRD := Lib.hid hrd
      have HL2 := Lib.hid hl2
      have HTR := Lib.hid htr
      have HSM := Lib.hid (tree_small htr)
      have HUN : Hid (∀ x ∈ l, (treeFault (underL all x.n)).1 = 0) := by
        have := HR.out (by rw [hrd])
        rwa [hrd] at this
      have HA2 := Lib.hid (HA.out.keep (T := fun _ => False) (Kept.of_below HB2.out) (fun _ _ f => f))
      clear h2 hl2 hv2 hb2 hrd htr
      go_wp2_with fail
      refine (heldCopy_any _ nb S R h HA2.out HOK.out).mono ?_
      rintro e w3 ⟨⟨tb, S3, R3, rfl, h3, hs3⟩, hb3⟩
      have HB3 := Lib.hid (HB2.out.trans (hb3.mono HB2.out.size))
      have hsz2 := HB2.out.size
      have HA3 := Lib.hid h3
      have HS3 : Hid (∀ b, S3 b ∨ R3 b → w2.heap.size ≤ b) := hs3
      have hz3 := hb3.size
      have HBL : Hid (all ≠ [] → ∀ b o t, a2 = some ⟨b, o, t⟩ → b < w2.heap.size) := fun hne b o t e => by
        obtain ⟨j, u, hc⟩ := lies_cell HL2.out hne e
        exact block_lt_of_cell hc
      have HL3 := Lib.hid (HL2.out.below hb3)
      clear h3 hs3 hb3
      go_wp2_with fail
      go_loopw [34] (fun i wr => ∃ (q : Nat) (o : Hs) (S' R' : Nat → Prop), q ≤ l.length ∧ i = .int .i64 q ∧ HeldAt wr tb S' R' o ∧ OkH o ∧ (∀ b, S' b ∨ R' b → w2.heap.size ≤ b) ∧ w2.heap.size ≤ wr.heap.size ∧ loadAll h all l 0 = loadAll o all (l.drop q) q ∧ LiesAt wr a2 all ∧ Below w.heap.size w wr) (fun i _ => l.length - (intOf i).toNat)
      case atStart => exact ⟨0, h, S3, R3, by omega, rfl, HA3.out, HOK.out, HS3.out, hz3, rfl, HL3.out, HB3.out⟩
      case round =>
        obtain ⟨q, o, S', R', hq, rfl, hoa, hook, hos, hz3, hld, hla, hb⟩ := hrel
        have HOA := Lib.hid hoa
        have HOO := Lib.hid hook
        have HOS := Lib.hid hos
        have HLD := Lib.hid hld
        have HLA := Lib.hid hla
        have HB := Lib.hid hb
        clear hoa hook hos hld hla hb
        by_cases hlt : q < l.length
        · have hlt' : (q : Int) < (l.length : Int) := by omega
          obtain ⟨b, ofs, rfl, c0, c1, c2', c3, c4⟩ := (HL.out.below HB.out).at hlt
          have hn := (want_zero (HK.out.right _ (List.getElem_mem hlt))).1
          have hnl : l[q].n.length ≤ 40000 := by
            have := part_le hn
            omega
          have HUX := Lib.hid (HUN.out _ (List.getElem_mem hlt))
          have HD : Hid (l.drop q = l[q] :: l.drop (q + 1)) := List.drop_eq_getElem_cons hlt
          clear hn
          generalize l[q] = f at c0 c1 c2' c3 c4 hnl HUX HD
          obtain ⟨n, u, k, st, mm⟩ := f
          go_wp2_with fail
          have hBX : Below w.heap.size w (wr.alloc (wo n u k st mm)) := HB.out.alloc HB.out.size _
          have hBr : Below wr.heap.size wr (wr.alloc (wo n u k st mm)) := (Below.refl _ _).alloc (Nat.le_refl _) _
          have HBX := Lib.hid hBX
          have HAX := Lib.hid (HOA.out.keep (T := fun _ => False) (Kept.of_below hBr) (fun _ _ f => f))
          have HLX := Lib.hid (HLA.out.below hBr)
          clear hBX hBr c0 c1 c2' c3 c4
          refine (lockLoad1_any p o tb S' R' all a2 c2 n u k st mm _ HAX.out ⟨(HE.out.below HBX.out).env, (HE.out.below HBX.out).sum⟩ HOO.out HLX.out hc2 HSM.out hnl HTR.out HUX.out (putH_code HUX.out)).mono ?_
          rintro e w5 ⟨rfl, S5, R5, l5⟩
          have HA5 := Lib.hid l5.held
          have hb5 : Below w.heap.size w w5 := HBX.out.trans (l5.below _ HBX.out.size (fun b hb => Nat.le_trans hsz2 (HOS.out b (.inl hb))))
          have HB5 := Lib.hid hb5
          have hszX : w2.heap.size ≤ (wr.alloc (wo n u k st mm)).heap.size := by rw [World.size_alloc]; omega
          have hz5 : w2.heap.size ≤ w5.heap.size := Nat.le_trans hszX l5.kept.size
          have HS5 : Hid (∀ b, S5 b ∨ R5 b → w2.heap.size ≤ b) := fun b hb => by
            rcases hb with hb | hb
            · exact (l5.own b hb).elim (fun e => HOS.out b (.inl e)) (fun e => Nat.le_trans hszX e)
            · rcases l5.ownR b hb with e | e | e
              · exact HOS.out b (.inl e)
              · exact HOS.out b (.inr e)
              · exact Nat.le_trans hszX e
          have HL5 : Hid (LiesAt w5 a2 all) := lies_left HLX.out l5.kept (fun hne b o t e hS => by
            have h1 := HBL.out hne b o t e
            have h2 := HOS.out b (.inl hS)
            omega)
          clear l5 hb5
          cases hc : (loadOne o all ⟨n, u, k, st, mm⟩).2 with
          | zero =>
            have HO5 := Lib.hid (loadOne_ok (all := all) (x := ⟨n, u, k, st, mm⟩) HOO.out)
            have HN5 : Hid (loadAll h all l 0 = loadAll (loadOne o all ⟨n, u, k, st, mm⟩).1 all (l.drop (q + 1)) (q + 1)) := by
              show _ = _
              rw [HLD.out, HD.out, loadAll_step hc]
            rw [errV_zero]
            clear hc
            generalize (loadOne o all ⟨n, u, k, st, mm⟩).1 = o5 at HA5 HO5 HN5
            go_wp2
            go_roundw
            case rel => exact ⟨q + 1, o5, S5, R5, by omega, by go_num, HA5.out, HO5.out, HS5.out, hz5, HN5.out, HL5.out, HB5.out⟩
            case measure => simp [intOf]; omega
          | succ c =>
            have hle := loadOne_le (o := o) (x := ⟨n, u, k, st, mm⟩) HUX.out
            have HT : Hid (loadL h l s = (h, c + 1, (q : Int))) := by
              show _ = _
              exact load_stop HK.out HRD.out (by rw [HLD.out, HD.out]; exact loadAll_stop hc)
            have hc13 : c < 13 := by omega
            have hpc := fun (W : World) => pair_cells (w := W) (x := .int .i64 q) (y := errV p (c + 1)) (T := 144) (Below.refl _ _)
            rw [errV_some p (Nat.succ_ne_zero c)] at hpc ⊢
            clear hc hle
            go_wp2
            go_ret
            refine ⟨⟨_, rfl, ?_⟩, S, R, ?_⟩
            · rw [HT.out]
              exact .inr (.inr ⟨c, _, _, rfl, hc13, rfl, (hpc w5).1, (hpc w5).2⟩)
            · rw [HT.out]
              exact left_same HA.out (HB5.out.alloc HB5.out.size _)
        · obtain rfl : q = l.length := by omega
          have HT : Hid (loadL h l s = (o, 0, -1)) := by
            show _ = _
            refine load_all HK.out HRD.out ?_
            rw [HLD.out, List.drop_length]
            rfl
          obtain ⟨bm2, v9, k0, k1, k2, ⟨x0, x1, x2, g0, g1, g2⟩, hfz, ⟨av, nv, cv, rfl⟩, hleft⟩ := held_assign HB.out HA.out HOA.out (fun b hb => Nat.le_trans hsz2 (HOS.out b (.inl hb))) (fun b hb => .inr (Nat.le_trans hsz2 (HOS.out b (.inr hb))))
          have HLF := Lib.hid hleft
          have z0 := hfz 0
          have z1 := hfz 1
          have z2 := hfz 2
          clear hleft hfz
          go_wp2
          go_ret
          refine ⟨⟨.nilIface, rfl, by rw [HT.out]; exact .inl ⟨rfl, rfl, rfl⟩⟩, wset nb bm2 (.slice av nv cv), R', ?_⟩
          rw [HT.out]
          exact HLF.out
    · have HT := Lib.hid (load_read (h := h) HK.out hrd hc)
      obtain ⟨a2, c2, v2, rfl, hl2, hc2, hv2⟩ := h2.open hrd
      obtain ⟨T, u, rfl⟩ := hv2.some hc
      have HV := Lib.hid hv2
      clear h2 hl2 hv2 hb2 hrd hc
      go_wp2
      go_ret
      refine ⟨⟨_, rfl, by rw [HT.out]; exact HV.out⟩, S, R, ?_⟩
      rw [HT.out]
      exact left_same HA.out HB2.out
  · have HT := Lib.hid (load_bad (h := h) (s := s) hz)
    have HZ := Lib.hid hz
    clear hz
    go_enter Tryz.func50, Tryz.ntmps50
    go_wp2_with fail
    refine (lockCheck_any p l a ca _ HE.out HL.out hca HS.out).mono ?_
    rintro e w1 ⟨⟨v, rfl, hv⟩, hb1⟩
    obtain ⟨T, u, rfl⟩ := hv.some HZ.out
    have HV := Lib.hid hv
    have HB1 := Lib.hid hb1
    clear hv hb1
    go_wp2
    go_ret
    refine ⟨⟨_, rfl, by rw [HT.out]; exact HV.out⟩, S, R, ?_⟩
    rw [HT.out]
    exact left_same HA.out HB1.out
end Go.Proofs.YtmcfkoenpikldaaGreatDoor
